/-
  slices.Grow of nothing and slices.Concat, of cells, of keys and of kids.
-/
import Derived.Test.YtbkpgppaahpalaaRcm
import Derived.Lib.AppendZeros
import Derived.Deep.LoopGhost
namespace Go.Proofs.Ytbkpgppaahpalaa
open Go.RowKit
set_option linter.unusedVariables false      -- a walk need not use every condition

/-- Rows, each of so many things of s cells, one behind the other in a block. -/
def Rws (w : World) (v : Value) (s : Nat) (R : List (Nat × List Value)) : Prop := ∃ g cap, v = .slice (some ⟨g, 0, none⟩) R.length cap ∧ ∀ i (h : i < R.length), ∃ x, w.cell? ⟨g, i, none⟩ = some x ∧ Fl w x s R[i].1 R[i].2 ∧ ∀ u ∈ R[i].2, u.oneCell' = true
theorem Rws.on {w w' : World} {v : Value} {s : Nat} {R : List (Nat × List Value)} (h : Rws w v s R) (hb : Below w.heap.size w w') : Rws w' v s R := by
  obtain ⟨g, cap, e, h⟩ := h
  refine ⟨g, cap, e, fun i hi => ?_⟩
  obtain ⟨x, h1, h2, h3⟩ := h i hi
  exact ⟨x, cell_past hb h1, h2.on hb, h3⟩
def sumR (R : List (Nat × List Value)) : Nat := (R.map (·.1)).sum
def catR (R : List (Nat × List Value)) : List Value := R.flatMap (·.2)
theorem sumR_next (R : List (Nat × List Value)) {i : Nat} (h : i < R.length) : sumR (R.take (i + 1)) = sumR (R.take i) + R[i].1 := by
  unfold sumR
  rw [List.take_succ_eq_append_getElem h, List.map_append, List.sum_append]
  simp
theorem catR_next (R : List (Nat × List Value)) {i : Nat} (h : i < R.length) : catR (R.take (i + 1)) = catR (R.take i) ++ R[i].2 := by
  unfold catR
  rw [List.take_succ_eq_append_getElem h, List.flatMap_append]
  simp
theorem sumR_le (R : List (Nat × List Value)) (i : Nat) : sumR (R.take i) ≤ sumR R := by
  have h : sumR R = sumR (R.take i) + sumR (R.drop i) := by
    unfold sumR
    rw [← List.sum_append, ← List.map_append, List.take_append_drop]
  omega
theorem zsize4 (k : Nat) : (Builtin.zeroCells #[.slice none 0 0, .slice none 0 0, .int .i64 0, .int .i64 0] k).size = k * 4 := by
  simp [Builtin.zeroCells]
theorem zsizeK (k : Nat) : (Builtin.zeroCells #[.slice none 0 0] k).size = k * 1 := by
  simp [Builtin.zeroCells]
theorem zsizeI (k : Nat) : (Builtin.zeroCells #[.int .i64 0] k).size = k * 1 := by
  simp [Builtin.zeroCells]
set_option maxHeartbeats 2000000 in
set_option maxRecDepth 100000 in
theorem grow68 (w : World) (n : Nat) (hn : n * 64 ≤ 140737488355328) :
    Calls Try.prog 68 #[.slice none 0 0, .int .i64 n] w fun e w' => ∃ v', e = .returned v' ∧ w'.ownsRow w.heap.size 44 4 v' 0 [] ∧ Below w.heap.size w w' := by
  obtain ⟨i0, hi, hz0, hz1, hz2⟩ := info_parts infoE44
  by_cases h0 : n = 0
  · subst h0
    go_enter Try.func68, Try.ntmps68
    go_wp2
    go_ret
    exact ⟨_, rfl, World.ownsRow_nil _ _ _ _, Below.refl _ _⟩
  · have hr := Lib.run_append_nil_zeros (P := Try.prog) w 22 3 22 44 i0 _ .i64 .i64 Try.underlying22 Try.underlying3 hi hz0 n (by omega) (by rw [hz1]; decide) (by omega) (by rw [hz2]; omega)
    have hcap : n ≤ grownCap w n 0 44 ∧ grownCap w n 0 44 ≤ maxLen := ⟨grownCap_ge _ _ _ _, grownCap_le_maxLen _ _ _ _ (by unfold maxLen; omega)⟩
    have hnz : (n : Int) ≤ 140737488355328 := by omega
    have hn0 : (0 : Int) < (n : Int) := by omega
    generalize hc : grownCap w n 0 44 = c at *
    go_enter Try.func68, Try.ntmps68
    go_wp2_with (at_builtin; refine Lib.wpList_append_run _ rfl _ _ _ _ rfl _ _ rfl rfl _ _ hr ?_)
    go_ret
    refine ⟨_, rfl, ?_, ?_⟩
    · refine ⟨rfl, .inr ⟨w.heap.size, c, _, rfl, Nat.le_refl _, World.alloc_heap_new w.drew _, Nat.zero_le _, hcap.2, ?_, rfl⟩⟩
      have hz : ∀ k, (Builtin.zeroCells #[.slice none 0 0, .slice none 0 0, .int .i64 0, .int .i64 0] k).size = k * 4 := fun k => zsize4 k
      rw [Array.size_append, hz, hz]
      omega
    · exact (Below.refl _ w).drew.alloc (Nat.le_refl _) _
set_option maxHeartbeats 4000000 in
set_option maxRecDepth 100000 in
theorem concat29 (w : World) (v : Value) (R : List (Nat × List Value)) (hv : Rws w v 4 R) (hn : R.length ≤ 1000) (hlen : sumR R * 64 ≤ 140737488355328) :
    Calls Try.prog 29 #[v] w fun e w' => ∃ v', e = .returned v' ∧ w'.ownsRow w.heap.size 44 4 v' (sumR R) (catR R) ∧ Below w.heap.size w w' := by
  have HV := Lib.hid hv
  have cG := grow68
  obtain ⟨gR, capR, rfl, -⟩ := hv
  have hnz : (R.length : Int) ≤ 1000 := by omega
  go_enter Try.func29, Try.ntmps29
  go_wp2
  go_loopg [3, 11] R.length (fun g s3 s11 wr => ∃ (i T : Nat), i + g = R.length ∧ s11 = .int .i64 i ∧ s3 = .int .i64 T ∧ Hid (T = sumR (R.take i)) ∧ w = wr)
  case atStart => exact ⟨0, 0, by omega, rfl, rfl, rfl, rfl⟩
  case round =>
    obtain ⟨i, T, hig, rfl, rfl, hT, rfl⟩ := hrel
    cases gk with
    | succ g =>
      have hi : i < R.length := by omega
      have hiz : (i : Int) < (R.length : Int) := by omega
      have hi0 : (0 : Int) ≤ (i : Int) := by omega
      obtain ⟨g', cap', e, hel⟩ := HV.out
      injection e with e1 e2 e3
      injection e1 with e1
      injection e1 with e4 e5
      subst e3 e4
      obtain ⟨x, hx, hxF, -⟩ := hel i hi
      have hfl : T + R[i].1 ≤ 140737488355328 := by
        have h1 := sumR_le R (i + 1)
        rw [sumR_next R hi] at h1
        have := hT.out
        omega
      have HF : Hid (sumR (R.take (i + 1)) = T + R[i].1) := by show _ = _; rw [sumR_next R hi, hT.out]
      obtain ⟨xp, xc, rfl, -⟩ := hxF
      generalize R[i].1 = U at *
      have hs : IntKind.i64.wrap ((T : Int) + (U : Int)) = ((T + U : Nat) : Int) := by rw [IntKind.wrap_i64]; omega
      have hs0 : ¬ (((T + U : Nat) : Int) < 0) := by omega
      clear hel e2
      go_wp2
      go_roundg g
      case measure => omega
      case rel => exact ⟨i + 1, T + U, by omega, by first | rfl | simp, by first | rfl | simp, HF.out.symm, rfl⟩
    | zero =>
      have hTe : Hid (T = sumR R) := by have := hT.out; rwa [List.take_of_length_le (by omega)] at this
      have hTb : T * 64 ≤ 140737488355328 := by rw [hTe.out]; exact hlen
      have hi9 : ¬ (i : Int) < (R.length : Int) := by omega
      have HLEN := Lib.hid hlen
      clear hlen
      go_wp2_with (go_at_call 68; refine (cG _ T hTb).mono ?_; rintro e w1 ⟨v1, rfl, hB1, hb1⟩)
      have HB1 := Lib.hid hB1
      have Hb1 := Lib.hid hb1
      clear hB1 hb1 hi9
      go_loopg [6, 27] R.length (fun g s6 s27 wr => ∃ i : Nat, i + g = R.length ∧ s27 = .int .i64 i ∧ Hid (wr.ownsRow w.heap.size 44 4 s6 (sumR (R.take i)) (catR (R.take i))) ∧ Hid (Below w.heap.size w wr))
      case atStart => exact ⟨0, by omega, rfl, HB1.out, Hb1.out⟩
      case round =>
        obtain ⟨j, hig, rfl, HB, Hb⟩ := hrel
        cases gk with
        | zero =>
          have hj9 : ¬ (j : Int) < (R.length : Int) := by omega
          have hfin : Hid (wr.ownsRow w.heap.size 44 4 u6 (sumR R) (catR R)) := by have := HB.out; rwa [List.take_of_length_le (by omega)] at this
          go_wp2
          go_ret
          exact ⟨_, rfl, hfin.out, Hb.out⟩
        | succ g =>
          have hi : j < R.length := by omega
          have hiz : (j : Int) < (R.length : Int) := by omega
          have hi0 : (0 : Int) ≤ (j : Int) := by omega
          obtain ⟨g', cap', e, hel⟩ := HV.out.on Hb.out
          injection e with e1 e2 e3
          injection e1 with e1
          injection e1 with e4 e5
          subst e3 e4
          obtain ⟨x, hx, hxF, hone⟩ := hel j hi
          have hfl : (sumR (R.take j) + R[j].1) * 64 ≤ 140737488355328 := by
            have h1 := sumR_le R (j + 1)
            rw [sumR_next R hi] at h1
            have := HLEN.out
            omega
          obtain ⟨i0, hi9, hz0, hz1, hz2⟩ := info_parts infoE44
          obtain ⟨v2, w2, hap, ho2, hb2⟩ := app_ow 22 44 4 64 i0 _ Try.underlying22 hi9 hz0 hz1 hz2 rfl (by decide) wr w.heap.size _ _ _ x _ _ 22 HB.out hxF hone hfl (by unfold maxLen; omega) Hb.out.size
          have HS := Lib.hid (sumR_next R hi)
          have HCt := Lib.hid (catR_next R hi)
          have HAP := Lib.hid hap
          have HO2 := Lib.hid ho2
          have HB2 := Lib.hid (Hb.out.trans hb2)
          obtain ⟨xp, xc, rfl, -⟩ := hxF
          clear hel hone hap ho2 hb2 hi9 hz0 hz1 hz2 e2 hfl
          go_wp2_with (at_builtin; refine wpList_run rfl _ _ 22 rfl _ _ _ _ rfl rfl HAP.out ?_)
          go_roundg g
          case measure => omega
          case rel => exact ⟨j + 1, by omega, by first | rfl | simp, by rw [HS.out, HCt.out]; exact HO2.out, HB2.out⟩
set_option maxHeartbeats 2000000 in
set_option maxRecDepth 100000 in
theorem grow69 (w : World) (n : Nat) (hn : n * 24 ≤ 140737488355328) :
    Calls Try.prog 69 #[.slice none 0 0, .int .i64 n] w fun e w' => ∃ v', e = .returned v' ∧ w'.ownsRow w.heap.size 27 1 v' 0 [] ∧ Below w.heap.size w w' := by
  obtain ⟨i0, hi, hz0, hz1, hz2⟩ := info_parts infoE27
  by_cases h0 : n = 0
  · subst h0
    go_enter Try.func69, Try.ntmps69
    go_wp2
    go_ret
    exact ⟨_, rfl, World.ownsRow_nil _ _ _ _, Below.refl _ _⟩
  · have hr := Lib.run_append_nil_zeros (P := Try.prog) w 23 3 23 27 i0 _ .i64 .i64 Try.underlying23 Try.underlying3 hi hz0 n (by omega) (by rw [hz1]; decide) (by omega) (by rw [hz2]; omega)
    have hcap : n ≤ grownCap w n 0 27 ∧ grownCap w n 0 27 ≤ maxLen := ⟨grownCap_ge _ _ _ _, grownCap_le_maxLen _ _ _ _ (by unfold maxLen; omega)⟩
    have hnz : (n : Int) ≤ 140737488355328 := by omega
    have hn0 : (0 : Int) < (n : Int) := by omega
    generalize hc : grownCap w n 0 27 = c at *
    go_enter Try.func69, Try.ntmps69
    go_wp2_with (at_builtin; refine Lib.wpList_append_run _ rfl _ _ _ _ rfl _ _ rfl rfl _ _ hr ?_)
    go_ret
    refine ⟨_, rfl, ?_, ?_⟩
    · refine ⟨rfl, .inr ⟨w.heap.size, c, _, rfl, Nat.le_refl _, World.alloc_heap_new w.drew _, Nat.zero_le _, hcap.2, ?_, rfl⟩⟩
      have hz : ∀ k, (Builtin.zeroCells #[.slice none 0 0] k).size = k * 1 := fun k => zsizeK k
      rw [Array.size_append, hz, hz]
      omega
    · exact (Below.refl _ w).drew.alloc (Nat.le_refl _) _
set_option maxHeartbeats 4000000 in
set_option maxRecDepth 100000 in
theorem concat30 (w : World) (v : Value) (R : List (Nat × List Value)) (hv : Rws w v 1 R) (hn : R.length ≤ 1000) (hlen : sumR R * 24 ≤ 140737488355328) :
    Calls Try.prog 30 #[v] w fun e w' => ∃ v', e = .returned v' ∧ w'.ownsRow w.heap.size 27 1 v' (sumR R) (catR R) ∧ Below w.heap.size w w' := by
  have HV := Lib.hid hv
  have cG := grow69
  obtain ⟨gR, capR, rfl, -⟩ := hv
  have hnz : (R.length : Int) ≤ 1000 := by omega
  go_enter Try.func30, Try.ntmps30
  go_wp2
  go_loopg [3, 11] R.length (fun g s3 s11 wr => ∃ (i T : Nat), i + g = R.length ∧ s11 = .int .i64 i ∧ s3 = .int .i64 T ∧ Hid (T = sumR (R.take i)) ∧ w = wr)
  case atStart => exact ⟨0, 0, by omega, rfl, rfl, rfl, rfl⟩
  case round =>
    obtain ⟨i, T, hig, rfl, rfl, hT, rfl⟩ := hrel
    cases gk with
    | succ g =>
      have hi : i < R.length := by omega
      have hiz : (i : Int) < (R.length : Int) := by omega
      have hi0 : (0 : Int) ≤ (i : Int) := by omega
      obtain ⟨g', cap', e, hel⟩ := HV.out
      injection e with e1 e2 e3
      injection e1 with e1
      injection e1 with e4 e5
      subst e3 e4
      obtain ⟨x, hx, hxF, -⟩ := hel i hi
      have hfl : T + R[i].1 ≤ 140737488355328 := by
        have h1 := sumR_le R (i + 1)
        rw [sumR_next R hi] at h1
        have := hT.out
        omega
      have HF : Hid (sumR (R.take (i + 1)) = T + R[i].1) := by show _ = _; rw [sumR_next R hi, hT.out]
      obtain ⟨xp, xc, rfl, -⟩ := hxF
      generalize R[i].1 = U at *
      have hs : IntKind.i64.wrap ((T : Int) + (U : Int)) = ((T + U : Nat) : Int) := by rw [IntKind.wrap_i64]; omega
      have hs0 : ¬ (((T + U : Nat) : Int) < 0) := by omega
      clear hel e2
      go_wp2
      go_roundg g
      case measure => omega
      case rel => exact ⟨i + 1, T + U, by omega, by first | rfl | simp, by first | rfl | simp, HF.out.symm, rfl⟩
    | zero =>
      have hTe : Hid (T = sumR R) := by have := hT.out; rwa [List.take_of_length_le (by omega)] at this
      have hTb : T * 24 ≤ 140737488355328 := by rw [hTe.out]; exact hlen
      have hi9 : ¬ (i : Int) < (R.length : Int) := by omega
      have HLEN := Lib.hid hlen
      clear hlen
      go_wp2_with (go_at_call 69; refine (cG _ T hTb).mono ?_; rintro e w1 ⟨v1, rfl, hB1, hb1⟩)
      have HB1 := Lib.hid hB1
      have Hb1 := Lib.hid hb1
      clear hB1 hb1 hi9
      go_loopg [6, 27] R.length (fun g s6 s27 wr => ∃ i : Nat, i + g = R.length ∧ s27 = .int .i64 i ∧ Hid (wr.ownsRow w.heap.size 27 1 s6 (sumR (R.take i)) (catR (R.take i))) ∧ Hid (Below w.heap.size w wr))
      case atStart => exact ⟨0, by omega, rfl, HB1.out, Hb1.out⟩
      case round =>
        obtain ⟨j, hig, rfl, HB, Hb⟩ := hrel
        cases gk with
        | zero =>
          have hj9 : ¬ (j : Int) < (R.length : Int) := by omega
          have hfin : Hid (wr.ownsRow w.heap.size 27 1 u6 (sumR R) (catR R)) := by have := HB.out; rwa [List.take_of_length_le (by omega)] at this
          go_wp2
          go_ret
          exact ⟨_, rfl, hfin.out, Hb.out⟩
        | succ g =>
          have hi : j < R.length := by omega
          have hiz : (j : Int) < (R.length : Int) := by omega
          have hi0 : (0 : Int) ≤ (j : Int) := by omega
          obtain ⟨g', cap', e, hel⟩ := HV.out.on Hb.out
          injection e with e1 e2 e3
          injection e1 with e1
          injection e1 with e4 e5
          subst e3 e4
          obtain ⟨x, hx, hxF, hone⟩ := hel j hi
          have hfl : (sumR (R.take j) + R[j].1) * 24 ≤ 140737488355328 := by
            have h1 := sumR_le R (j + 1)
            rw [sumR_next R hi] at h1
            have := HLEN.out
            omega
          obtain ⟨i0, hi9, hz0, hz1, hz2⟩ := info_parts infoE27
          obtain ⟨v2, w2, hap, ho2, hb2⟩ := app_ow 23 27 1 24 i0 _ Try.underlying23 hi9 hz0 hz1 hz2 rfl (by decide) wr w.heap.size _ _ _ x _ _ 23 HB.out hxF hone hfl (by unfold maxLen; omega) Hb.out.size
          have HS := Lib.hid (sumR_next R hi)
          have HCt := Lib.hid (catR_next R hi)
          have HAP := Lib.hid hap
          have HO2 := Lib.hid ho2
          have HB2 := Lib.hid (Hb.out.trans hb2)
          obtain ⟨xp, xc, rfl, -⟩ := hxF
          clear hel hone hap ho2 hb2 hi9 hz0 hz1 hz2 e2 hfl
          go_wp2_with (at_builtin; refine wpList_run rfl _ _ 23 rfl _ _ _ _ rfl rfl HAP.out ?_)
          go_roundg g
          case measure => omega
          case rel => exact ⟨j + 1, by omega, by first | rfl | simp, by rw [HS.out, HCt.out]; exact HO2.out, HB2.out⟩
set_option maxHeartbeats 2000000 in
set_option maxRecDepth 100000 in
theorem grow70 (w : World) (n : Nat) (hn : n * 8 ≤ 140737488355328) :
    Calls Try.prog 70 #[.slice none 0 0, .int .i64 n] w fun e w' => ∃ v', e = .returned v' ∧ w'.ownsRow w.heap.size 3 1 v' 0 [] ∧ Below w.heap.size w w' := by
  obtain ⟨i0, hi, hz0, hz1, hz2⟩ := info_parts infoE3
  by_cases h0 : n = 0
  · subst h0
    go_enter Try.func70, Try.ntmps70
    go_wp2
    go_ret
    exact ⟨_, rfl, World.ownsRow_nil _ _ _ _, Below.refl _ _⟩
  · have hr := Lib.run_append_nil_zeros (P := Try.prog) w 24 3 24 3 i0 _ .i64 .i64 Try.underlying24 Try.underlying3 hi hz0 n (by omega) (by rw [hz1]; decide) (by omega) (by rw [hz2]; omega)
    have hcap : n ≤ grownCap w n 0 3 ∧ grownCap w n 0 3 ≤ maxLen := ⟨grownCap_ge _ _ _ _, grownCap_le_maxLen _ _ _ _ (by unfold maxLen; omega)⟩
    have hnz : (n : Int) ≤ 140737488355328 := by omega
    have hn0 : (0 : Int) < (n : Int) := by omega
    generalize hc : grownCap w n 0 3 = c at *
    go_enter Try.func70, Try.ntmps70
    go_wp2_with (at_builtin; refine Lib.wpList_append_run _ rfl _ _ _ _ rfl _ _ rfl rfl _ _ hr ?_)
    go_ret
    refine ⟨_, rfl, ?_, ?_⟩
    · refine ⟨rfl, .inr ⟨w.heap.size, c, _, rfl, Nat.le_refl _, World.alloc_heap_new w.drew _, Nat.zero_le _, hcap.2, ?_, rfl⟩⟩
      have hz : ∀ k, (Builtin.zeroCells #[.int .i64 0] k).size = k * 1 := fun k => zsizeI k
      rw [Array.size_append, hz, hz]
      omega
    · exact (Below.refl _ w).drew.alloc (Nat.le_refl _) _
set_option maxHeartbeats 4000000 in
set_option maxRecDepth 100000 in
theorem concat31 (w : World) (v : Value) (R : List (Nat × List Value)) (hv : Rws w v 1 R) (hn : R.length ≤ 1000) (hlen : sumR R * 8 ≤ 140737488355328) :
    Calls Try.prog 31 #[v] w fun e w' => ∃ v', e = .returned v' ∧ w'.ownsRow w.heap.size 3 1 v' (sumR R) (catR R) ∧ Below w.heap.size w w' := by
  have HV := Lib.hid hv
  have cG := grow70
  obtain ⟨gR, capR, rfl, -⟩ := hv
  have hnz : (R.length : Int) ≤ 1000 := by omega
  go_enter Try.func31, Try.ntmps31
  go_wp2
  go_loopg [3, 11] R.length (fun g s3 s11 wr => ∃ (i T : Nat), i + g = R.length ∧ s11 = .int .i64 i ∧ s3 = .int .i64 T ∧ Hid (T = sumR (R.take i)) ∧ w = wr)
  case atStart => exact ⟨0, 0, by omega, rfl, rfl, rfl, rfl⟩
  case round =>
    obtain ⟨i, T, hig, rfl, rfl, hT, rfl⟩ := hrel
    cases gk with
    | succ g =>
      have hi : i < R.length := by omega
      have hiz : (i : Int) < (R.length : Int) := by omega
      have hi0 : (0 : Int) ≤ (i : Int) := by omega
      obtain ⟨g', cap', e, hel⟩ := HV.out
      injection e with e1 e2 e3
      injection e1 with e1
      injection e1 with e4 e5
      subst e3 e4
      obtain ⟨x, hx, hxF, -⟩ := hel i hi
      have hfl : T + R[i].1 ≤ 140737488355328 := by
        have h1 := sumR_le R (i + 1)
        rw [sumR_next R hi] at h1
        have := hT.out
        omega
      have HF : Hid (sumR (R.take (i + 1)) = T + R[i].1) := by show _ = _; rw [sumR_next R hi, hT.out]
      obtain ⟨xp, xc, rfl, -⟩ := hxF
      generalize R[i].1 = U at *
      have hs : IntKind.i64.wrap ((T : Int) + (U : Int)) = ((T + U : Nat) : Int) := by rw [IntKind.wrap_i64]; omega
      have hs0 : ¬ (((T + U : Nat) : Int) < 0) := by omega
      clear hel e2
      go_wp2
      go_roundg g
      case measure => omega
      case rel => exact ⟨i + 1, T + U, by omega, by first | rfl | simp, by first | rfl | simp, HF.out.symm, rfl⟩
    | zero =>
      have hTe : Hid (T = sumR R) := by have := hT.out; rwa [List.take_of_length_le (by omega)] at this
      have hTb : T * 8 ≤ 140737488355328 := by rw [hTe.out]; exact hlen
      have hi9 : ¬ (i : Int) < (R.length : Int) := by omega
      have HLEN := Lib.hid hlen
      clear hlen
      go_wp2_with (go_at_call 70; refine (cG _ T hTb).mono ?_; rintro e w1 ⟨v1, rfl, hB1, hb1⟩)
      have HB1 := Lib.hid hB1
      have Hb1 := Lib.hid hb1
      clear hB1 hb1 hi9
      go_loopg [6, 27] R.length (fun g s6 s27 wr => ∃ i : Nat, i + g = R.length ∧ s27 = .int .i64 i ∧ Hid (wr.ownsRow w.heap.size 3 1 s6 (sumR (R.take i)) (catR (R.take i))) ∧ Hid (Below w.heap.size w wr))
      case atStart => exact ⟨0, by omega, rfl, HB1.out, Hb1.out⟩
      case round =>
        obtain ⟨j, hig, rfl, HB, Hb⟩ := hrel
        cases gk with
        | zero =>
          have hj9 : ¬ (j : Int) < (R.length : Int) := by omega
          have hfin : Hid (wr.ownsRow w.heap.size 3 1 u6 (sumR R) (catR R)) := by have := HB.out; rwa [List.take_of_length_le (by omega)] at this
          go_wp2
          go_ret
          exact ⟨_, rfl, hfin.out, Hb.out⟩
        | succ g =>
          have hi : j < R.length := by omega
          have hiz : (j : Int) < (R.length : Int) := by omega
          have hi0 : (0 : Int) ≤ (j : Int) := by omega
          obtain ⟨g', cap', e, hel⟩ := HV.out.on Hb.out
          injection e with e1 e2 e3
          injection e1 with e1
          injection e1 with e4 e5
          subst e3 e4
          obtain ⟨x, hx, hxF, hone⟩ := hel j hi
          have hfl : (sumR (R.take j) + R[j].1) * 8 ≤ 140737488355328 := by
            have h1 := sumR_le R (j + 1)
            rw [sumR_next R hi] at h1
            have := HLEN.out
            omega
          obtain ⟨i0, hi9, hz0, hz1, hz2⟩ := info_parts infoE3
          obtain ⟨v2, w2, hap, ho2, hb2⟩ := app_ow 24 3 1 8 i0 _ Try.underlying24 hi9 hz0 hz1 hz2 rfl (by decide) wr w.heap.size _ _ _ x _ _ 24 HB.out hxF hone hfl (by unfold maxLen; omega) Hb.out.size
          have HS := Lib.hid (sumR_next R hi)
          have HCt := Lib.hid (catR_next R hi)
          have HAP := Lib.hid hap
          have HO2 := Lib.hid ho2
          have HB2 := Lib.hid (Hb.out.trans hb2)
          obtain ⟨xp, xc, rfl, -⟩ := hxF
          clear hel hone hap ho2 hb2 hi9 hz0 hz1 hz2 e2 hfl
          go_wp2_with (at_builtin; refine wpList_run rfl _ _ 24 rfl _ _ _ _ rfl rfl HAP.out ?_)
          go_roundg g
          case measure => omega
          case rel => exact ⟨j + 1, by omega, by first | rfl | simp, by rw [HS.out, HCt.out]; exact HO2.out, HB2.out⟩
end Go.Proofs.Ytbkpgppaahpalaa
