/-
  Slices of slices of bytes; both Joins.
-/
import Derived.Test.YtafnelpcnfmhfaaDoorApp
import Derived.Lib.AppendZeros
import Derived.Deep.LoopGhost
namespace Go.Proofs.YtafnelpcnfmhfaaDoor
open Go.RowKit
set_option linter.unusedVariables false      -- a walk need not use every condition
attribute [local go_sem ↓] Go.wp_at_zero Go.wp_at_succ

/-- Slices of bytes that lie one behind the other, wherever that is. -/
def Bss (w : World) (v : Value) (L : List (List UInt8)) : Prop := ∃ p cap, v = .slice p L.length cap ∧
  (L = [] ∨ ∃ g o, p = some ⟨g, o, none⟩ ∧ ∀ i (h : i < L.length), ∃ x, w.cell? ⟨g, o + i, none⟩ = some x ∧ Bs w x L[i])
theorem Bss.on {w w' : World} {v : Value} {L : List (List UInt8)} (h : Bss w v L) (hb : Below w.heap.size w w') : Bss w' v L := by
  obtain ⟨p, cap, rfl, h⟩ := h
  refine ⟨p, cap, rfl, ?_⟩
  rcases h with h | ⟨g, o, rfl, h⟩
  · exact .inl h
  · refine .inr ⟨g, o, rfl, fun i hi => ?_⟩
    obtain ⟨x, hx, hB⟩ := h i hi
    exact ⟨x, (World.cell?_of_block (w := w) (a := ⟨g, o + i, none⟩) (hb.block _ (World.block_lt_of_cell? w ⟨g, o + i, none⟩ hx))).trans hx, hB.on hb⟩
theorem flat_succ (L : List (List UInt8)) {i : Nat} (h : i < L.length) : (L.take (i + 1)).flatten = (L.take i).flatten ++ L[i] := by
  rw [List.take_succ_eq_append_getElem h, List.flatten_append, List.flatten_cons, List.flatten_nil, List.append_nil]
theorem flat_le (L : List (List UInt8)) (i : Nat) : (L.take i).flatten.length ≤ L.flatten.length := by
  have h := List.take_append_drop i L
  have h2 : L.flatten = (L.take i).flatten ++ (L.drop i).flatten := by rw [← List.flatten_append, h]
  rw [h2]; simp
set_option maxHeartbeats 2000000 in
set_option maxRecDepth 100000 in
theorem rjoin31 (w : World) (v : Value) (L : List (List UInt8)) (hv : Bss w v L) (hn : L.length ≤ 140737488355328) (hlen : L.flatten.length ≤ 140737488355328) :
    Calls Tryd.prog 31 #[v] w fun e w' => ∃ v', e = .returned v' ∧ Bts w' w.heap.size v' L.flatten ∧ Below w.heap.size w w' := by
  have HV := Lib.hid hv
  obtain ⟨p, cap, rfl, -⟩ := hv
  have hnz : (L.length : Int) ≤ 140737488355328 := by omega
  go_enter Tryd.func31, Tryd.ntmps31
  go_wp2
  go_loopg [3, 4] L.length (fun g s3 s4 wr => ∃ i : Nat, i + g = L.length ∧ s4 = .int .i64 i ∧ Bts wr w.heap.size s3 (L.take i).flatten ∧ Below w.heap.size w wr)
  case atStart => exact ⟨0, by omega, rfl, World.ownsRow_nil _ _ _ _, Below.refl _ _⟩
  case round =>
    obtain ⟨i, hig, rfl, hB, hb⟩ := hrel
    have HB := Lib.hid hB
    have Hb := Lib.hid hb
    have hbz := hb.size
    clear hB hb
    cases gk with
    | zero =>
      obtain rfl : i = L.length := by omega
      go_wp2
      go_ret
      exact ⟨_, rfl, by have := HB.out; rwa [List.take_length] at this, Hb.out⟩
    | succ g =>
      have hi : i < L.length := by omega
      have hiz : (i : Int) < (L.length : Int) := by omega
      have hi0 : (0 : Int) ≤ (i : Int) := by omega
      obtain ⟨p', cap', e, hel⟩ := HV.out.on Hb.out
      injection e with e1 e2 e3
      subst e1 e3
      obtain ⟨b, o, rfl, hel2⟩ := hel.resolve_left (fun e => by rw [e] at hi; simp at hi)
      obtain ⟨x, hx, hxB⟩ := hel2 i hi
      have HX := Lib.hid hxB
      obtain ⟨xp, xc, rfl, -⟩ := hxB
      have hfl : Hid ((L.take i).flatten.length + L[i].length ≤ 140737488355328) := by
        have := flat_le L (i + 1)
        rw [flat_succ L hi, List.length_append] at this
        show _ ≤ _
        omega
      have HF := Lib.hid (flat_succ L hi)
      generalize (L.take i).flatten = T at *
      generalize L[i] = U at *
      clear hel hel2
      go_wp2_with (at_builtin; refine wpList_app rfl _ _ rfl w.heap.size _ _ T U rfl rfl HB.out HX.out hfl.out hbz ?_; intro v' w' hbt hgr)
      go_roundg g
      case measure => omega
      case rel => exact ⟨i + 1, by omega, by first | rfl | simp, by rw [HF.out]; exact hbt, Hb.out.trans (HB.out.below hgr hbz)⟩
set_option maxHeartbeats 2000000 in
set_option maxRecDepth 100000 in
theorem grow51 (w : World) (n : Nat) (hn : n ≤ 140737488355328) :
    Calls Tryd.prog 51 #[.slice none 0 0, .int .i64 n] w fun e w' => ∃ v', e = .returned v' ∧ Bts w' w.heap.size v' [] ∧ Below w.heap.size w w' := by
  obtain ⟨i0, hi, hz0, hz1, hz2⟩ := info_parts info5
  by_cases h0 : n = 0
  · subst h0
    go_enter Tryd.func51, Tryd.ntmps51
    go_wp2
    go_ret
    exact ⟨_, rfl, World.ownsRow_nil _ _ _ _, Below.refl _ _⟩
  · have hr := Lib.run_append_nil_zeros (P := Tryd.prog) w 22 3 22 5 i0 (.int .u8 0) .i64 .i64 Tryd.underlying22 Tryd.underlying3 hi hz0 n (by omega) (by rw [hz1]; decide) (by omega) (by rw [hz2]; omega)
    have hcap : n ≤ grownCap w n 0 5 ∧ grownCap w n 0 5 ≤ maxLen := ⟨grownCap_ge _ _ _ _, grownCap_le_maxLen _ _ _ _ (by unfold maxLen; omega)⟩
    have hnz : (n : Int) ≤ 140737488355328 := by omega
    have hn0 : (0 : Int) < (n : Int) := by omega
    generalize hc : grownCap w n 0 5 = c at *
    go_enter Tryd.func51, Tryd.ntmps51
    go_wp2_with (at_builtin; refine Lib.wpList_append_run _ rfl _ _ _ _ rfl _ _ rfl rfl _ _ hr ?_)
    go_ret
    refine ⟨_, rfl, ?_, ?_⟩
    · refine ⟨rfl, .inr ⟨w.heap.size, c, _, rfl, Nat.le_refl _, heap_alloc_last w.drew _, Nat.zero_le _, hcap.2, ?_, rfl⟩⟩
      have hz : ∀ k, (Builtin.zeroCells #[Value.int .u8 0] k).size = k := fun k => by simp [Builtin.zeroCells]
      rw [Array.size_append, hz, hz]
      omega
    · exact (Below.refl _ w).drew.alloc (Nat.le_refl _) _
set_option maxHeartbeats 2000000 in
set_option maxRecDepth 100000 in
theorem concat47 (w : World) (v : Value) (L : List (List UInt8)) (hv : Bss w v L) (hn : L.length ≤ 140737488355328) (hlen : L.flatten.length ≤ 140737488355328) :
    Calls Tryd.prog 47 #[v] w fun e w' => ∃ v', e = .returned v' ∧ Bts w' w.heap.size v' L.flatten ∧ Below w.heap.size w w' := by
  have HV := Lib.hid hv
  have c51 := grow51
  obtain ⟨p, cap, rfl, -⟩ := hv
  have hnz : (L.length : Int) ≤ 140737488355328 := by omega
  go_enter Tryd.func47, Tryd.ntmps47
  go_wp2
  go_loopg [3, 11] L.length (fun g s3 s11 wr => ∃ i : Nat, i + g = L.length ∧ s11 = .int .i64 i ∧ s3 = .int .i64 ((L.take i).flatten.length : Nat) ∧ w = wr)
  case atStart => exact ⟨0, by omega, rfl, by simp, rfl⟩
  case round =>
    obtain ⟨i, hig, rfl, rfl, rfl⟩ := hrel
    cases gk with
    | succ g =>
      have hi : i < L.length := by omega
      have hiz : (i : Int) < (L.length : Int) := by omega
      have hi0 : (0 : Int) ≤ (i : Int) := by omega
      obtain ⟨p', cap', e, hel⟩ := HV.out
      injection e with e1 e2 e3
      subst e1 e3
      obtain ⟨b, o, rfl, hel2⟩ := hel.resolve_left (fun e => by rw [e] at hi; simp at hi)
      obtain ⟨x, hx, hxB⟩ := hel2 i hi
      obtain ⟨xp, xc, rfl, -⟩ := hxB
      have hfl : (L.take i).flatten.length + L[i].length ≤ 140737488355328 := by
        have := flat_le L (i + 1)
        rw [flat_succ L hi, List.length_append] at this
        omega
      have HF : Hid ((L.take (i + 1)).flatten.length = (L.take i).flatten.length + L[i].length) := by
        show _ = _
        rw [flat_succ L hi, List.length_append]
      generalize (L.take i).flatten.length = T at *
      generalize L[i].length = U at *
      have hs : IntKind.i64.wrap ((T : Int) + (U : Int)) = ((T + U : Nat) : Int) := by rw [IntKind.wrap_i64]; omega
      have hs0 : ¬ (((T + U : Nat) : Int) < 0) := by omega
      clear hel hel2
      go_wp2
      go_roundg g
      case measure => omega
      case rel => exact ⟨i + 1, by omega, by first | rfl | simp, by rw [HF.out]; simp, rfl⟩
    | zero =>
      obtain rfl : i = L.length := by omega
      rw [List.take_length]
      generalize hF : L.flatten.length = F at *
      have HFl := Lib.hid hF
      clear hF
      go_wp2_with (go_at_call 51; refine (c51 _ F (by omega)).mono ?_; rintro e w1 ⟨v1, rfl, hB1, hb1⟩)
      have HB1 := Lib.hid hB1
      have Hb1 := Lib.hid hb1
      clear hB1 hb1
      go_loopg [6, 27] L.length (fun g s6 s27 wr => ∃ i : Nat, i + g = L.length ∧ s27 = .int .i64 i ∧ Bts wr w.heap.size s6 (L.take i).flatten ∧ Below w.heap.size w wr)
      case atStart => exact ⟨0, by omega, rfl, HB1.out, Hb1.out⟩
      case round =>
        obtain ⟨i, hig, rfl, hB, hb⟩ := hrel
        have HB := Lib.hid hB
        have Hb := Lib.hid hb
        have hbz := hb.size
        clear hB hb
        cases gk with
        | zero =>
          obtain rfl : i = L.length := by omega
          go_wp2
          go_ret
          exact ⟨_, rfl, by have := HB.out; rwa [List.take_length] at this, Hb.out⟩
        | succ g =>
          have hi : i < L.length := by omega
          have hiz : (i : Int) < (L.length : Int) := by omega
          have hi0 : (0 : Int) ≤ (i : Int) := by omega
          obtain ⟨p', cap', e, hel⟩ := HV.out.on Hb.out
          injection e with e1 e2 e3
          subst e1 e3
          obtain ⟨b, o, rfl, hel2⟩ := hel.resolve_left (fun e => by rw [e] at hi; simp at hi)
          obtain ⟨x, hx, hxB⟩ := hel2 i hi
          have HX := Lib.hid hxB
          obtain ⟨xp, xc, rfl, -⟩ := hxB
          have hfl : Hid ((L.take i).flatten.length + L[i].length ≤ 140737488355328) := by
            have := flat_le L (i + 1)
            have h2 := HFl.out
            rw [flat_succ L hi, List.length_append] at this
            show _ ≤ _
            omega
          have HF := Lib.hid (flat_succ L hi)
          generalize (L.take i).flatten = T at *
          generalize L[i] = U at *
          clear hel hel2
          go_wp2_with (at_builtin; refine wpList_app rfl _ _ rfl w.heap.size _ _ T U rfl rfl HB.out HX.out hfl.out hbz ?_; intro v' w' hbt hgr)
          go_roundg g
          case measure => omega
          case rel => exact ⟨i + 1, by omega, by first | rfl | simp, by rw [HF.out]; exact hbt, Hb.out.trans (HB.out.below hgr hbz)⟩
theorem join30 (w : World) (v : Value) (L : List (List UInt8)) (hv : Bss w v L) (hn : L.length ≤ 140737488355328) (hlen : L.flatten.length ≤ 140737488355328) :
    Calls Tryd.prog 30 #[v] w fun e w' => ∃ v', e = .returned v' ∧ Bts w' w.heap.size v' L.flatten ∧ Below w.heap.size w w' := by
  have c47 := concat47 w v L hv hn hlen
  obtain ⟨p, cap, rfl, -⟩ := hv
  go_enter Tryd.func30, Tryd.ntmps30
  go_wp2_with (go_at_call 47; refine c47.mono ?_; rintro e w1 ⟨v1, rfl, hB1, hb1⟩)
  go_ret
  exact ⟨_, rfl, hB1, hb1⟩
end Go.Proofs.YtafnelpcnfmhfaaDoor
