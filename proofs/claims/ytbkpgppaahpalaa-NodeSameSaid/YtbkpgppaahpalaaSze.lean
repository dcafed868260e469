/-
  How long a node's form is: Size of package node.
-/
import Derived.Test.YtbkpgppaahpalaaSiz
namespace Go.Proofs.Ytbkpgppaahpalaa
open Go.RowKit
set_option linter.unusedVariables false      -- a walk need not use every condition

set_option maxHeartbeats 4000000 in
set_option maxRecDepth 100000 in
theorem sizeLeaf (w : World) (v : Value) (n : Nd) (h : NdS w v n) (hL : n.leaf = true) (ht : (form n).length ≤ 4611686018427387904) :
    Calls Try.prog 15 #[v] w fun e w' => e = .returned (.int .i64 ((form n).length : Int)) ∧ Below w.heap.size w w' := by
  obtain ⟨vc, vk, vi, rfl, hC, hK, hI⟩ := h
  obtain ⟨pk, ck, rfl, -, lk⟩ := hK.hdr
  obtain ⟨pi, ci, rfl, -, li⟩ := hI.hdr
  have HC := Lib.hid hC
  obtain ⟨pc, cc, rfl, -, lc⟩ := hC.hdr
  clear hC hK hI
  have hF : form n = 1 :: (vnt n.cells.length ++ n.cells.flatMap cellF) := by unfold form; rw [if_pos hL]
  rw [hF, List.length_cons, List.length_append] at ht ⊢
  clear hF
  rw [hL]
  have hv := vnt_le n.cells.length
  have c43 := fun u => headSize43 n.cells.length (by omega) u
  generalize (vnt n.cells.length).length = V at *
  have HT : Hid (V + (n.cells.flatMap cellF).length + 1 ≤ 4611686018427387904) := ht
  obtain ⟨T, hT⟩ : ∃ T, (n.cells.flatMap cellF).length = T := ⟨_, rfl⟩
  rw [hT]
  have HTT := Lib.hid hT
  clear ht hT hL
  generalize hN : n.cells.length = N at *
  have HN := Lib.hid hN
  clear hN
  have c44 := cellSize44
  go_enter Try.func15, Try.ntmps15
  go_wp2_with (go_at_call 43; refine (c43 _).mono ?_; rintro e w1 ⟨rfl, hB1⟩; have q1 := cell_past hB1 (ncell4 w _ _ _ _ 26).2.1)
  have HB1 := Lib.hid ((bel1 _ _).trans (hB1.mono (by simp)))
  clear hB1 c43
  go_loopg [3, 20] N (fun g s3 s20 wr => ∃ (i S : Nat), i + g = N ∧ s20 = .int .i64 i ∧ s3 = .int .i64 S ∧ Hid (S = 1 + V + ((n.cells.take i).flatMap cellF).length) ∧ Hid (Below w.heap.size w wr))
  case atStart => exact ⟨0, 1 + V, by omega, rfl, rfl, by show _ = _; simp, HB1.out⟩
  case round =>
    obtain ⟨i, S, hig, rfl, rfl, hS, hb⟩ := hrel
    cases gk with
    | zero =>
      obtain rfl : i = N := by omega
      have hr : Hid (S = V + T + 1) := by have := hS.out; rw [← HN.out, List.take_length, HTT.out] at this; show _ = _; omega
      go_wp2
      go_ret
      exact ⟨by rw [← hr.out]; rfl, hb.out⟩
    | succ g =>
      have hi : i < n.cells.length := by have := HN.out; omega
      have hiz : (i : Int) < (N : Int) := by omega
      have hi0 : (0 : Int) ≤ (i : Int) := by omega
      obtain ⟨g0, o0, cap0, k, x, e, q0, q1, q2, q3, hBk, hBx, hIo, hIl⟩ := (HC.out.on hb.out).at hi
      injection e with e1 e2 e3
      subst e1 e3
      have hsu : Hid (((n.cells.take (i + 1)).flatMap cellF).length = ((n.cells.take i).flatMap cellF).length + (cellF n.cells[i]).length) := by show _ = _; rw [flat_next _ _ hi, List.length_append]
      have hle := flat_le' cellF n.cells (i + 1)
      have hbd : (cellF n.cells[i]).length + S ≤ 4611686018427387904 := by have := hsu.out; have := hS.out; have := HT.out; omega
      generalize n.cells[i] = c at *
      have d44 := fun (u : World) (hu : Below wr.heap.size wr u) => c44 u _ c ⟨k, x, rfl, hBk.on hu, hBx.on hu, hIo, hIl⟩ (by omega)
      obtain ⟨kp, kc, rfl, -⟩ := hBk
      obtain ⟨xp, xc, rfl, -⟩ := hBx
      generalize (cellF c).length = A at *
      have e1 : IntKind.i64.wrap ((S : Int) + (A : Int)) = ((S + A : Nat) : Int) := by rw [IntKind.wrap_i64]; omega
      have hS' : Hid (S + A = 1 + V + ((n.cells.take (i + 1)).flatMap cellF).length) := by show _ = _; rw [hsu.out, hS.out]; omega
      clear e2 hle hsu hS
      go_wp2_with (go_at_call 44; refine (d44 _ (bel1 _ _)).mono ?_; rintro e w2 ⟨rfl, hB2⟩)
      go_roundg g
      case measure => omega
      case rel => exact ⟨i + 1, S + A, by omega, by first | rfl | simp, by first | rfl | simp, hS', (hb.out.trans ((bel1 _ _).mono hb.out.size)).trans (hB2.mono (by have := hb.out.size; simp; omega))⟩
set_option maxHeartbeats 4000000 in
set_option maxRecDepth 100000 in
theorem sizeInner (w : World) (v : Value) (n : Nd) (h : NdS w v n) (hL : n.leaf = false) (ht : (form n).length ≤ 4611686018427387904) :
    Calls Try.prog 15 #[v] w fun e w' => e = .returned (.int .i64 ((form n).length : Int)) ∧ Below w.heap.size w w' := by
  obtain ⟨vc, vk, vi, rfl, hC, hK, hI⟩ := h
  have HK := Lib.hid hK
  have HI := Lib.hid hI
  obtain ⟨pc, cc, rfl, -, lc⟩ := hC.hdr
  obtain ⟨pk, ck, rfl, -, lk⟩ := hK.hdr
  obtain ⟨pi, ci, rfl, -, li⟩ := hI.hdr
  clear hC hK hI
  have hF : form n = 2 :: (vnt n.keys.length ++ (n.keys.flatMap keyF ++ n.kids.flatMap nI)) := by unfold form; rw [if_neg (by rw [hL]; decide)]
  rw [hF, List.length_cons, List.length_append, List.length_append] at ht ⊢
  clear hF
  rw [hL]
  have hv := vnt_le n.keys.length
  have c43 := fun u => headSize43 n.keys.length (by omega) u
  generalize (vnt n.keys.length).length = V at *
  have HT : Hid (V + ((n.keys.flatMap keyF).length + (n.kids.flatMap nI).length) + 1 ≤ 4611686018427387904) := ht
  obtain ⟨T, hT⟩ : ∃ T, (n.keys.flatMap keyF).length = T := ⟨_, rfl⟩
  obtain ⟨U, hU⟩ : ∃ U, (n.kids.flatMap nI).length = U := ⟨_, rfl⟩
  rw [hT, hU]
  have HTT := Lib.hid hT
  have HUU := Lib.hid hU
  clear ht hT hL hU
  generalize hN : n.keys.length = N at *
  have HN := Lib.hid hN
  clear hN
  generalize hM : n.kids.length = M at *
  have HM := Lib.hid hM
  clear hM
  have c45 := bytesSize45
  have c46 := numberSize46
  go_enter Try.func15, Try.ntmps15
  go_wp2_with (go_at_call 43; refine (c43 _).mono ?_; rintro e w1 ⟨rfl, hB1⟩; have q1 := cell_past hB1 (ncell4 w _ _ _ _ 26).2.2.1; have q2 := cell_past hB1 (ncell4 w _ _ _ _ 26).2.2.2)
  have HB1 := Lib.hid ((bel1 _ _).trans (hB1.mono (by simp)))
  have HQ2 := Lib.hid q2
  clear hB1 c43 q2
  go_loopg [6, 37] N (fun g s6 s37 wr => ∃ (i S : Nat), i + g = N ∧ s37 = .int .i64 i ∧ s6 = .int .i64 S ∧ Hid (S = 1 + V + ((n.keys.take i).flatMap keyF).length) ∧ Hid (Below w.heap.size w wr) ∧ Hid (wr.cell? ⟨w.heap.size, 3, none⟩ = some (.slice pi M ci)))
  case atStart => exact ⟨0, 1 + V, by omega, rfl, rfl, by show _ = _; simp, HB1.out, HQ2.out⟩
  case round =>
    obtain ⟨i, S, hig, rfl, rfl, hS, hb, hq⟩ := hrel
    cases gk with
    | zero =>
      obtain rfl : i = N := by omega
      have hr : Hid (S = 1 + V + T) := by have := hS.out; rw [← HN.out, List.take_length, HTT.out] at this; exact this
      have q3 := hq.out
      have HB3 := Lib.hid hb.out
      clear hS hq hb HK
      obtain ⟨wo, rfl⟩ : ∃ v, v = wr := ⟨_, rfl⟩
      go_wp2
      go_loopg [6, 49] M (fun g s6 s49 wr => ∃ (i S : Nat), i + g = M ∧ s49 = .int .i64 i ∧ s6 = .int .i64 S ∧ Hid (S = 1 + V + T + ((n.kids.take i).flatMap nI).length) ∧ Hid (Below w.heap.size w wr))
      case atStart => exact ⟨0, S, by omega, rfl, rfl, by show _ = _; rw [hr.out]; simp, HB3.out⟩
      case round =>
        obtain ⟨j, S, hig, rfl, rfl, hS, hb⟩ := hrel
        cases gk with
        | zero =>
          obtain rfl : j = M := by omega
          have hr : Hid (S = V + (T + U) + 1) := by have := hS.out; rw [← HM.out, List.take_length, HUU.out] at this; show _ = _; omega
          go_wp2
          go_ret
          exact ⟨by rw [← hr.out]; rfl, hb.out⟩
        | succ g =>
          have hj : j < n.kids.length := by have := HM.out; omega
          have hjz : (j : Int) < (M : Int) := by omega
          have hj0 : (0 : Int) ≤ (j : Int) := by omega
          obtain ⟨g0, o0, cap0, e, q0, hIo⟩ := (HI.out.on hb.out).at hj
          injection e with e1 e2 e3
          subst e1 e3
          have hsu : Hid (((n.kids.take (j + 1)).flatMap nI).length = ((n.kids.take j).flatMap nI).length + (nI n.kids[j]).length) := by show _ = _; rw [flat_next _ _ hj, List.length_append]
          have hle := flat_le' nI n.kids (j + 1)
          have hbd : (nI n.kids[j]).length + S ≤ 4611686018427387904 := by have := hsu.out; have := hS.out; have := HT.out; have := HTT.out; omega
          generalize n.kids[j] = c at *
          have d46 := c46 c
          generalize (nI c).length = A at *
          have e1 : IntKind.i64.wrap ((S : Int) + (A : Int)) = ((S + A : Nat) : Int) := by rw [IntKind.wrap_i64]; omega
          have hS' : Hid (S + A = 1 + V + T + ((n.kids.take (j + 1)).flatMap nI).length) := by show _ = _; rw [hsu.out, hS.out]; omega
          clear e2 hle hsu hS
          go_wp2_with (go_at_call 46; refine (d46 _).mono ?_; rintro e w2 ⟨rfl, hB2⟩)
          go_roundg g
          case measure => omega
          case rel => exact ⟨j + 1, S + A, by omega, by first | rfl | simp, by first | rfl | simp, hS', hb.out.trans (hB2.mono hb.out.size)⟩
    | succ g =>
      have hi : i < n.keys.length := by have := HN.out; omega
      have hiz : (i : Int) < (N : Int) := by omega
      have hi0 : (0 : Int) ≤ (i : Int) := by omega
      obtain ⟨g0, o0, cap0, k, e, q0, hBk⟩ := (HK.out.on hb.out).at hi
      injection e with e1 e2 e3
      subst e1 e3
      have hsu : Hid (((n.keys.take (i + 1)).flatMap keyF).length = ((n.keys.take i).flatMap keyF).length + (keyF n.keys[i]).length) := by show _ = _; rw [flat_next _ _ hi, List.length_append]
      have hle := flat_le' keyF n.keys (i + 1)
      have hbd : (keyF n.keys[i]).length + S ≤ 4611686018427387904 := by have := hsu.out; have := hS.out; have := HT.out; omega
      generalize n.keys[i] = c at *
      have d45 := c45 wr _ c hBk (by simp [keyF] at hbd; omega)
      obtain ⟨kp, kc, rfl, -⟩ := hBk
      generalize (keyF c).length = A at *
      have e1 : IntKind.i64.wrap ((S : Int) + (A : Int)) = ((S + A : Nat) : Int) := by rw [IntKind.wrap_i64]; omega
      have hS' : Hid (S + A = 1 + V + ((n.keys.take (i + 1)).flatMap keyF).length) := by show _ = _; rw [hsu.out, hS.out]; omega
      clear e2 hle hsu hS
      go_wp2_with (go_at_call 45; refine d45.mono ?_; rintro e w2 ⟨rfl, hB2⟩)
      have hq' := Lib.hid (cell_past hB2 hq.out)
      go_roundg g
      case measure => omega
      case rel => exact ⟨i + 1, S + A, by omega, by first | rfl | simp, by first | rfl | simp, hS', hb.out.trans (hB2.mono hb.out.size), hq'⟩
theorem size15 (w : World) (v : Value) (n : Nd) (h : NdS w v n) (ht : (form n).length ≤ 4611686018427387904) :
    Calls Try.prog 15 #[v] w fun e w' => e = .returned (.int .i64 ((form n).length : Int)) ∧ Below w.heap.size w w' := by
  cases hL : n.leaf with
  | true => exact sizeLeaf w v n h hL ht
  | false => exact sizeInner w v n h hL ht
end Go.Proofs.Ytbkpgppaahpalaa
