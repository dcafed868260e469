/-
  nearly: does a node without its last cell, or its last key and kid, fit?
-/
import Derived.Test.YtbkpgppaahpalaaSpm
import Derived.Test.YtbkpgppaahpalaaSze
namespace Go.Proofs.Ytbkpgppaahpalaa
open Go.RowKit
set_option linter.unusedVariables false      -- a walk need not use every condition

/-- Without its last cell, or its last key and kid. -/
def nearN (n : Nd) : Nd := if n.leaf = true then ⟨true, n.cells.take (n.cells.length - 1), n.keys, n.kids⟩ else if 0 < n.keys.length then ⟨false, n.cells, n.keys.take (n.keys.length - 1), n.kids.take (n.kids.length - 1)⟩ else n
theorem near_len (n : Nd) : (form (nearN n)).length ≤ (form n).length + 11 := by
  unfold nearN
  cases hL : n.leaf with
  | true =>
    rw [if_pos rfl, form_leaf rfl, form_leaf hL]
    have := flat_both cellF n.cells (n.cells.length - 1)
    have := vnt_le (n.cells.take (n.cells.length - 1)).length
    simp only
    omega
  | false =>
    rw [if_neg (by decide)]
    split
    · rw [form_inner rfl, form_inner hL]
      have := flat_both keyF n.keys (n.keys.length - 1)
      have := flat_both nI n.kids (n.kids.length - 1)
      have := vnt_le (n.keys.take (n.keys.length - 1)).length
      simp only
      omega
    · omega
set_option maxHeartbeats 4000000 in
set_option maxRecDepth 100000 in
theorem near_leaf (w : World) (v : Value) (n : Nd) (h : NdS w v n) (hL : n.leaf = true) (h0 : 0 < n.cells.length) (ht : (form n).length ≤ 4611686018427380000) :
    Calls Try.prog 33 #[v] w fun e w' => e = .returned (.bool (decide ((form (nearN n)).length ≤ 448))) ∧ Below w.heap.size w w' := by
  have hl := near_len n
  obtain ⟨vc, vk, vi, rfl, hC, hK, hI⟩ := h
  obtain ⟨pk, ck, rfl, -, lk⟩ := hK.hdr
  obtain ⟨pi, ci, rfl, -, li⟩ := hI.hdr
  obtain ⟨g0, o0, cc, kk, xx, rfl, -⟩ := hC.at (i := 0) h0
  have hcc : n.cells.length ≤ cc ∧ n.cells.length ≤ 9223372036854775807 := by
    obtain ⟨p', c', e, h1, h2⟩ := hC.hdr
    injection e with e1 e2 e3
    exact ⟨by omega, h2⟩
  have hF := hC.first (k := n.cells.length - 1) (by omega)
  have c15 : ∀ u, Below w.heap.size w u → Calls Try.prog 15 #[.agg #[.bool true, .slice (some ⟨g0, o0, none⟩) (n.cells.length - 1) cc, .slice pk n.keys.length ck, .slice pi n.kids.length ci]] u fun e w' => e = .returned (.int .i64 ((form (nearN n)).length : Int)) ∧ Below u.heap.size u w' := fun u hu => size15 u _ (nearN n) (by unfold nearN; rw [if_pos hL]; exact ⟨_, _, _, rfl, hF.on hu, hK.on hu, hI.on hu⟩) (by omega)
  rw [hL]
  obtain ⟨Z, hZ⟩ : ∃ z, (form (nearN n)).length = z := ⟨_, rfl⟩
  rw [hZ] at c15 ⊢
  have C15 := Lib.hid c15
  clear c15 hF hC hK hI hl hZ ht hL
  generalize n.keys.length = M at *
  generalize n.kids.length = P at *
  obtain ⟨N, hN⟩ : ∃ z, n.cells.length = z := ⟨_, rfl⟩
  obtain ⟨N1, hN1⟩ : ∃ z, n.cells.length - 1 = z := ⟨_, rfl⟩
  rw [hN1] at C15
  rw [hN] at hcc h0 ⊢
  have z0 : (0 : Int) < (N : Int) := by omega
  have z1 : IntKind.i64.wrap ((N : Int) - 1) = (N1 : Int) := by rw [IntKind.wrap_i64]; omega
  have z2 : (0 : Int) ≤ (N1 : Int) := by omega
  have z3 : (N1 : Int) ≤ (cc : Int) := by omega
  clear hN hN1 hcc h0
  go_enter Try.func33, Try.ntmps33
  go_wp2_with (go_at_call 15; refine (C15.out _ (bel_then (bel1 _ _) (bel1 _ _))).mono ?_; rintro e w1 ⟨rfl, hb1⟩)
  go_ret
  exact ⟨by simp; omega, bel_then (bel_then (bel1 _ _) (bel1 _ _)) hb1⟩
set_option maxHeartbeats 4000000 in
set_option maxRecDepth 100000 in
theorem near_none (w : World) (v : Value) (n : Nd) (h : NdS w v n) (h0 : (n.leaf = true ∧ n.cells.length = 0) ∨ (n.leaf = false ∧ n.keys.length = 0)) (ht : (form n).length ≤ 4611686018427380000) :
    Calls Try.prog 33 #[v] w fun e w' => e = .returned (.bool (decide ((form (nearN n)).length ≤ 448))) ∧ Below w.heap.size w w' := by
  have he : nearN n = n := by
    unfold nearN
    rcases h0 with ⟨hL, h0⟩ | ⟨hL, h0⟩
    · rw [if_pos hL, List.eq_nil_of_length_eq_zero h0]
      obtain ⟨l, c, k, i⟩ := n
      simp only at hL h0
      rw [hL, List.eq_nil_of_length_eq_zero h0]
      rfl
    · rw [if_neg (by rw [hL]; decide), if_neg (by omega)]
  rw [he]
  have c15 := fun (u : World) (hu : Below w.heap.size w u) => size15 u v n (h.on hu) (by omega)
  obtain ⟨vc, vk, vi, rfl, hC, hK, hI⟩ := h
  obtain ⟨pc, cc, rfl, -, lc⟩ := hC.hdr
  obtain ⟨pk, ck, rfl, -, lk⟩ := hK.hdr
  obtain ⟨pi, ci, rfl, -, li⟩ := hI.hdr
  obtain ⟨Z, hZ⟩ : ∃ z, (form n).length = z := ⟨_, rfl⟩
  rw [hZ] at c15 ⊢
  clear hC hK hI he ht hZ
  rcases h0 with ⟨hL, h0⟩ | ⟨hL, h0⟩
  · rw [hL, h0] at c15 ⊢
    clear hL h0
    generalize n.keys.length = M at *
    generalize n.kids.length = P at *
    go_enter Try.func33, Try.ntmps33
    go_wp2_with (go_at_call 15; refine (c15 _ (bel_then (bel1 _ _) (bel1 _ _))).mono ?_; rintro e w1 ⟨rfl, hb1⟩)
    go_ret
    exact ⟨by simp; omega, bel_then (bel_then (bel1 _ _) (bel1 _ _)) hb1⟩
  · rw [hL, h0] at c15 ⊢
    clear hL h0
    generalize n.cells.length = M at *
    generalize n.kids.length = P at *
    go_enter Try.func33, Try.ntmps33
    go_wp2_with (go_at_call 15; refine (c15 _ (bel_then (bel1 _ _) (bel1 _ _))).mono ?_; rintro e w1 ⟨rfl, hb1⟩)
    go_ret
    exact ⟨by simp; omega, bel_then (bel_then (bel1 _ _) (bel1 _ _)) hb1⟩
set_option maxHeartbeats 4000000 in
set_option maxRecDepth 100000 in
theorem near_inner (w : World) (v : Value) (n : Nd) (h : NdS w v n) (hL : n.leaf = false) (h0 : 0 < n.keys.length) (hk : n.kids.length = n.keys.length + 1) (ht : (form n).length ≤ 4611686018427380000) :
    Calls Try.prog 33 #[v] w fun e w' => e = .returned (.bool (decide ((form (nearN n)).length ≤ 448))) ∧ Below w.heap.size w w' := by
  have hl := near_len n
  obtain ⟨vc, vk, vi, rfl, hC, hK, hI⟩ := h
  obtain ⟨pc, cc, rfl, -, lc⟩ := hC.hdr
  obtain ⟨g0, o0, ck, kk, rfl, -⟩ := hK.at (i := 0) h0
  obtain ⟨g1, o1, ci, rfl, -⟩ := hI.at (i := 0) (by omega)
  have hck : n.keys.length ≤ ck ∧ n.keys.length ≤ 9223372036854775807 := by
    obtain ⟨p', c', e, h1, h2⟩ := hK.hdr
    injection e with e1 e2 e3
    exact ⟨by omega, h2⟩
  have hci : n.kids.length ≤ ci ∧ n.kids.length ≤ 9223372036854775807 := by
    obtain ⟨p', c', e, h1, h2⟩ := hI.hdr
    injection e with e1 e2 e3
    exact ⟨by omega, h2⟩
  have hF := hK.first (k := n.keys.length - 1) (by omega)
  have hG := hI.first (k := n.kids.length - 1) (by omega)
  have c15 : ∀ u, Below w.heap.size w u → Calls Try.prog 15 #[.agg #[.bool false, .slice pc n.cells.length cc, .slice (some ⟨g0, o0, none⟩) (n.keys.length - 1) ck, .slice (some ⟨g1, o1, none⟩) (n.kids.length - 1) ci]] u fun e w' => e = .returned (.int .i64 ((form (nearN n)).length : Int)) ∧ Below u.heap.size u w' := fun u hu => size15 u _ (nearN n) (by unfold nearN; rw [if_neg (by rw [hL]; decide), if_pos h0]; exact ⟨_, _, _, rfl, hC.on hu, hF.on hu, hG.on hu⟩) (by omega)
  rw [hL]
  obtain ⟨Z, hZ⟩ : ∃ z, (form (nearN n)).length = z := ⟨_, rfl⟩
  rw [hZ] at c15 ⊢
  have C15 := Lib.hid c15
  clear c15 hF hG hC hK hI hl hZ ht hL
  generalize n.cells.length = N at *
  obtain ⟨M, hM⟩ : ∃ z, n.keys.length = z := ⟨_, rfl⟩
  obtain ⟨P, hP⟩ : ∃ z, n.kids.length = z := ⟨_, rfl⟩
  rw [hM, hP] at C15 hk
  rw [hM] at hck h0 ⊢
  rw [hP] at hci ⊢
  obtain ⟨M1, hM1⟩ : ∃ z, M - 1 = z := ⟨_, rfl⟩
  rw [hM1, show P - 1 = M by omega] at C15
  have z0 : (0 : Int) < (M : Int) := by omega
  have z1 : IntKind.i64.wrap ((M : Int) - 1) = (M1 : Int) := by rw [IntKind.wrap_i64]; omega
  have z2 : (0 : Int) ≤ (M1 : Int) := by omega
  have z3 : (M1 : Int) ≤ (ck : Int) := by omega
  have z4 : IntKind.i64.wrap ((P : Int) - 1) = (M : Int) := by rw [IntKind.wrap_i64]; omega
  have z5 : (0 : Int) ≤ (M : Int) := by omega
  have z6 : (M : Int) ≤ (ci : Int) := by omega
  clear hM hP hM1 hck hci h0 hk
  go_enter Try.func33, Try.ntmps33
  go_wp2
  obtain ⟨W, hW⟩ : ∃ W, W = (w.alloc (Obj.cells #[.bool false, .slice pc N cc, .slice (some ⟨g0, o0, none⟩) M ck, .slice (some ⟨g1, o1, none⟩) P ci] 26)).alloc (Obj.cells #[.bool false, .slice pc N cc, .slice (some ⟨g0, o0, none⟩) M ck, .slice (some ⟨g1, o1, none⟩) P ci] 26) := ⟨_, rfl⟩
  rw [← hW]
  have hA : W.heap[w.heap.size]? = some (Obj.cells #[.bool false, .slice pc N cc, .slice (some ⟨g0, o0, none⟩) M ck, .slice (some ⟨g1, o1, none⟩) P ci] 26) := by rw [hW]; exact blk_on (bel1 _ _) (World.alloc_heap_new w _)
  have hT : W.heap[w.heap.size + 1]? = some (Obj.cells #[.bool false, .slice pc N cc, .slice (some ⟨g0, o0, none⟩) M ck, .slice (some ⟨g1, o1, none⟩) P ci] 26) := by rw [hW]; exact new2 w _ _
  have hB := Lib.hid (show Below w.heap.size w W by rw [hW]; exact bel_then (bel1 _ _) (bel1 _ _))
  obtain ⟨a0, a1, a2, a3⟩ := four_of hA
  obtain ⟨t0, t1, t2, t3⟩ := four_of hT
  have tf2 := four_fr hT 2
  have tf3 := four_fr hT 3
  clear hA hT hW
  go_region
  have hB2 := Lib.hid (bel_put (bel_put hB.out (gr_set W (w.heap.size + 1) 2 (.slice (some ⟨g0, o0, none⟩) M1 ck)) (by omega)) (gr_set _ (w.heap.size + 1) 3 (.slice (some ⟨g1, o1, none⟩) M ci)) (by omega))
  go_wp2_with (go_at_call 15; refine (C15.out _ (by first | with_reducible exact hB2.out | exact hB2.out.drew)).mono ?_; rintro e w1 ⟨rfl, hb1⟩)
  go_ret
  exact ⟨by simp; omega, bel_then (by first | with_reducible exact hB2.out | exact hB2.out.drew) hb1⟩
/-- nearly, of a node that may be. -/
theorem near33 (w : World) (v : Value) (n : Nd) (h : NdS w v n) (hm : n.leaf = false → n.kids.length = n.keys.length + 1) (ht : (form n).length ≤ 4611686018427380000) :
    Calls Try.prog 33 #[v] w fun e w' => e = .returned (.bool (decide ((form (nearN n)).length ≤ 448))) ∧ Below w.heap.size w w' := by
  cases hL : n.leaf with
  | true =>
    by_cases h0 : 0 < n.cells.length
    · exact near_leaf w v n h hL h0 ht
    · exact near_none w v n h (.inl ⟨hL, by omega⟩) ht
  | false =>
    by_cases h0 : 0 < n.keys.length
    · exact near_inner w v n h hL h0 (hm hL) ht
    · exact near_none w v n h (.inr ⟨hL, by omega⟩) ht
end Go.Proofs.Ytbkpgppaahpalaa
