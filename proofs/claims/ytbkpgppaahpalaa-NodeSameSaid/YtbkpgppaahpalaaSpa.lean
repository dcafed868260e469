/-
  Split of package node: a leaf.
-/
import Derived.Test.YtbkpgppaahpalaaSpm
import Derived.Deep.RegionHeld3
namespace Go.Proofs.Ytbkpgppaahpalaa
open Go.RowKit
set_option linter.unusedVariables false      -- a walk need not use every condition

theorem five_new (w : World) (o1 o2 o3 o4 o5 : Obj) : (((((w.alloc o1).alloc o2).alloc o3).alloc o4).alloc o5).heap.size = w.heap.size + 5 ∧ (((((w.alloc o1).alloc o2).alloc o3).alloc o4).alloc o5).heap[w.heap.size]? = some o1 ∧ (((((w.alloc o1).alloc o2).alloc o3).alloc o4).alloc o5).heap[w.heap.size + 1]? = some o2 ∧
    (((((w.alloc o1).alloc o2).alloc o3).alloc o4).alloc o5).heap[w.heap.size + 2]? = some o3 ∧ (((((w.alloc o1).alloc o2).alloc o3).alloc o4).alloc o5).heap[w.heap.size + 3]? = some o4 ∧ (((((w.alloc o1).alloc o2).alloc o3).alloc o4).alloc o5).heap[w.heap.size + 4]? = some o5 := by
  have h1 := World.alloc_heap_new w o1
  have h2 := World.alloc_heap_new (w.alloc o1) o2
  have h3 := World.alloc_heap_new ((w.alloc o1).alloc o2) o3
  have h4 := World.alloc_heap_new (((w.alloc o1).alloc o2).alloc o3) o4
  have h5 := World.alloc_heap_new ((((w.alloc o1).alloc o2).alloc o3).alloc o4) o5
  simp only [World.size_alloc] at h2 h3 h4 h5
  refine ⟨by simp, blk_on (bel1 _ _) (blk_on (bel1 _ _) (blk_on (bel1 _ _) (blk_on (bel1 _ _) h1))), blk_on (bel1 _ _) (blk_on (bel1 _ _) (blk_on (bel1 _ _) h2)), blk_on (bel1 _ _) (blk_on (bel1 _ _) h3), blk_on (bel1 _ _) h4, h5⟩
set_option maxHeartbeats 8000000 in
set_option maxRecDepth 100000 in
theorem split_leaf (w : World) (v : Value) (n : Nd) (h : NdS w v n) (hf : Fit n) (ht : (form n).length ≤ 4611686018427387904) (hL : n.leaf = true) (h2 : 1 < n.cells.length) :
    Calls Try.prog 22 #[v] w fun e w' => ∃ va vk vb, e = .returned (.tuple #[va, vk, vb]) ∧ NdO w.heap.size w' va (spl n).1 ∧ Bts w' w.heap.size vk (spl n).2.1 ∧ NdO w.heap.size w' vb (spl n).2.2 ∧ Below w.heap.size w w' := by
  obtain ⟨q1, q2, -⟩ := atL_is hL h2 ht
  have c52 := fun (u : World) (hu : Below w.heap.size w u) => leafPlace52 u v n (h.on hu) hL h2 ht
  obtain ⟨ff1, ff2⟩ := fit_leaf hf (atL n.cells)
  have fk : (n.cells[atL n.cells]).key.length ≤ 140737488355328 := by
    have := (hf.2.2.2.1 _ (List.getElem_mem q2)).1
    omega
  have hs : spl n = (⟨true, n.cells.take (atL n.cells), [], []⟩, (n.cells[atL n.cells]).key, ⟨true, n.cells.drop (atL n.cells), [], []⟩) := by
    unfold spl
    rw [if_pos ⟨hL, h2⟩, List.getElem?_eq_getElem q2]
    rfl
  rw [hs]
  obtain ⟨vc, vk, vi, rfl, hC, hK, hI⟩ := h
  obtain ⟨pk, ck, rfl, -, lk⟩ := hK.hdr
  obtain ⟨pi, ci, rfl, -, li⟩ := hI.hdr
  obtain ⟨g0, o0, cc, kk, xx, rfl, k0, -, -, -, hBk, -⟩ := hC.at q2
  have hcc : n.cells.length ≤ cc := by
    obtain ⟨p', c', e, h1, -⟩ := hC.hdr
    injection e with e1 e2 e3
    omega
  have HF := Lib.hid (hC.first (Nat.le_of_lt q2))
  have HD := Lib.hid (hC.last (Nat.le_of_lt q2))
  have HBK := Lib.hid hBk
  have hBk0 := hBk
  obtain ⟨kp, kc, rfl, -, -⟩ := hBk0.slice
  clear hC hK hI hs hBk0 hBk
  obtain ⟨W, hW⟩ : ∃ W, W = ((((w.alloc (Obj.cells #[.bool n.leaf, .slice (some ⟨g0, o0, none⟩) n.cells.length cc, .slice pk n.keys.length ck, .slice pi n.kids.length ci] 26)).alloc (Obj.cells #[.bool false, .slice none 0 0, .slice none 0 0, .slice none 0 0] 26)).alloc (Obj.cells #[.bool false, .slice none 0 0, .slice none 0 0, .slice none 0 0] 26)).alloc (Obj.cells #[.bool false, .slice none 0 0, .slice none 0 0, .slice none 0 0] 26)).alloc (Obj.cells #[.bool false, .slice none 0 0, .slice none 0 0, .slice none 0 0] 26) := ⟨_, rfl⟩
  obtain ⟨hWs, hWA, hW2, hW4, hW5, hW6⟩ : W.heap.size = w.heap.size + 5 ∧ W.heap[w.heap.size]? = some (Obj.cells #[.bool n.leaf, .slice (some ⟨g0, o0, none⟩) n.cells.length cc, .slice pk n.keys.length ck, .slice pi n.kids.length ci] 26) ∧ W.heap[w.heap.size + 1]? = some (Obj.cells #[.bool false, .slice none 0 0, .slice none 0 0, .slice none 0 0] 26) ∧ W.heap[w.heap.size + 2]? = some (Obj.cells #[.bool false, .slice none 0 0, .slice none 0 0, .slice none 0 0] 26) ∧ W.heap[w.heap.size + 3]? = some (Obj.cells #[.bool false, .slice none 0 0, .slice none 0 0, .slice none 0 0] 26) ∧ W.heap[w.heap.size + 4]? = some (Obj.cells #[.bool false, .slice none 0 0, .slice none 0 0, .slice none 0 0] 26) := by rw [hW]; exact five_new w _ _ _ _ _
  have hWB : Below w.heap.size w W := by rw [hW]; exact bel_then (bel_then (bel_then (bel_then (bel1 _ _) (bel1 _ _)) (bel1 _ _)) (bel1 _ _)) (bel1 _ _)
  have c52' := c52 W hWB
  have K0 := Lib.hid k0
  rw [show (best (lF n.cells) (lS n.cells) 1 (n.cells.length - 1)).1 = atL n.cells from rfl] at c52'
  rw [hL] at hW hWA c52' ⊢
  have HFIT := Lib.hid (And.intro ff1 ff2)
  obtain ⟨key, hkey⟩ : ∃ k, (n.cells[atL n.cells]).key = k := ⟨_, rfl⟩
  rw [hkey] at HBK fk
  rw [hkey] at k0 K0
  rw [hkey]
  obtain ⟨at_, hat⟩ : ∃ k, atL n.cells = k := ⟨_, rfl⟩
  simp only [hat] at *
  obtain ⟨N, hN⟩ : ∃ k, n.cells.length = k := ⟨_, rfl⟩
  rw [hN] at c52' hW hWA hcc q2 HD ⊢
  have HN := Lib.hid hN
  obtain ⟨A, hA⟩ : ∃ a : Nd, (⟨true, n.cells.take at_, [], []⟩ : Nd) = a := ⟨_, rfl⟩
  obtain ⟨B, hB⟩ : ∃ a : Nd, (⟨true, n.cells.drop at_, [], []⟩ : Nd) = a := ⟨_, rfl⟩
  rw [hA, hB] at HFIT ⊢
  have cA : Hid (∀ u, Below w.heap.size w u → Calls Try.prog 26 #[.agg #[.bool true, .slice (some ⟨g0, o0, none⟩) at_ cc, .slice none 0 0, .slice none 0 0]] u fun e w' => ∃ v', e = .returned v' ∧ NdO u.heap.size w' v' A ∧ Below u.heap.size u w') := fun u hu => clone26 u _ A (by rw [← hA]; exact ⟨_, _, _, rfl, HF.out.on hu, ks_nil u, is_nil u⟩) HFIT.out.1
  have cB : Hid (∀ u, Below w.heap.size w u → Calls Try.prog 26 #[.agg #[.bool true, .slice (some ⟨g0, o0 + at_ * 4, none⟩) (N - at_) (cc - at_), .slice none 0 0, .slice none 0 0]] u fun e w' => ∃ v', e = .returned v' ∧ NdO u.heap.size w' v' B ∧ Below u.heap.size u w') := fun u hu => clone26 u _ B (by rw [← hB]; exact ⟨_, _, _, rfl, HD.out.on hu, ks_nil u, is_nil u⟩) HFIT.out.2
  have cK : Hid (∀ u, Below w.heap.size w u → Calls Try.prog 54 #[.slice kp key.length kc] u fun e w' => ∃ v', e = .returned v' ∧ Bts w' u.heap.size v' key ∧ Below u.heap.size u w') := fun u hu => copyB54 u _ key (HBK.out.on hu) fk
  have z1 : (1 : Int) < (N : Int) := by omega
  have z2 : (at_ : Int) < (N : Int) := by omega
  have z3 : (0 : Int) ≤ (at_ : Int) := by omega
  have z4 : (at_ : Int) ≤ (cc : Int) := by omega
  have z5 : (N : Int) ≤ (cc : Int) := by omega
  have z6 : ¬ cc = at_ := by omega
  have HWB := Lib.hid hWB
  have HWs := Lib.hid hWs
  have HA := Lib.hid hWA
  have H2 := Lib.hid hW2
  have H4 := Lib.hid hW4
  have H5 := Lib.hid hW5
  have H6 := Lib.hid hW6
  have HW := Lib.hid hW
  clear hWB hWs hWA hW2 hW4 hW5 hW6 HF HD HFIT hA hB hkey hat hN c52 fk hf ht h2 ff1 ff2 q1 hcc hL HBK
  go_enter Try.func22, Try.ntmps22
  go_wp2_with (fail)
  rw [← HW.out]
  clear hW
  refine c52'.mono ?_
  rintro e w1 ⟨rfl, hb1⟩
  have HB1 := Lib.hid (bel_then HWB.out hb1)
  have HA1 := Lib.hid (blk_on hb1 HA.out)
  have h21 := Lib.hid (blk_on hb1 H2.out)
  have h41 := Lib.hid (blk_on hb1 H4.out)
  have h51 := Lib.hid (blk_on hb1 H5.out)
  have h61 := Lib.hid (blk_on hb1 H6.out)
  have hs1 : w.heap.size + 5 ≤ w1.heap.size := by have := hb1.size; have := HWs.out; omega
  clear hb1 c52' HW HA H2 H4 H5 H6
  obtain ⟨a0, a1, a2, a3⟩ := four_of HA1.out
  obtain ⟨b0, b1, b2, b3⟩ := four_of h51.out
  obtain ⟨d0, d1, d2, d3⟩ := four_of h61.out
  have bf0 := four_fr h51.out 0
  have bf1 := four_fr h51.out 1
  have bf2 := four_fr h51.out 2
  have bf3 := four_fr h51.out 3
  have df0 := four_fr h61.out 0
  have df1 := four_fr h61.out 1
  have df2 := four_fr h61.out 2
  have df3 := four_fr h61.out 3
  have k1 := cell_past HB1.out K0.out
  go_wp2_with (fail)
  obtain ⟨v5, hv5⟩ : ∃ x, Value.slice (some ⟨g0, o0, none⟩) at_ cc = x := ⟨_, rfl⟩
  obtain ⟨v6, hv6⟩ : ∃ x, Value.slice (some ⟨g0, o0 + at_ * 4, none⟩) (N - at_) (cc - at_) = x := ⟨_, rfl⟩
  obtain ⟨w2, hw2⟩ : ∃ u, u = ((((((((w1.setCell ⟨w.heap.size + 1 + 1 + 1, 0, none⟩ (.bool true)).setCell ⟨w.heap.size + 1 + 1 + 1, 1, none⟩ (.slice (some ⟨g0, o0, none⟩) at_ cc)).setCell ⟨w.heap.size + 1 + 1 + 1, 2, none⟩ (.slice none 0 0)).setCell ⟨w.heap.size + 1 + 1 + 1, 3, none⟩ (.slice none 0 0)).setCell ⟨w.heap.size + 1 + 1 + 1 + 1, 0, none⟩ (.bool true)).setCell ⟨w.heap.size + 1 + 1 + 1 + 1, 1, none⟩ (.slice (some ⟨g0, o0 + at_ * 4, none⟩) (N - at_) (cc - at_))).setCell ⟨w.heap.size + 1 + 1 + 1 + 1, 2, none⟩ (.slice none 0 0)).setCell ⟨w.heap.size + 1 + 1 + 1 + 1, 3, none⟩ (.slice none 0 0)) := ⟨_, rfl⟩
  rw [← hw2]
  have gA := gr_four w1 (w.heap.size + 1 + 1 + 1) (.bool true) (.slice (some ⟨g0, o0, none⟩) at_ cc) (.slice none 0 0) (.slice none 0 0)
  have gB := gr_four ((((w1.setCell ⟨w.heap.size + 1 + 1 + 1, 0, none⟩ (.bool true)).setCell ⟨w.heap.size + 1 + 1 + 1, 1, none⟩ (.slice (some ⟨g0, o0, none⟩) at_ cc)).setCell ⟨w.heap.size + 1 + 1 + 1, 2, none⟩ (.slice none 0 0)).setCell ⟨w.heap.size + 1 + 1 + 1, 3, none⟩ (.slice none 0 0)) (w.heap.size + 1 + 1 + 1 + 1) (.bool true) (.slice (some ⟨g0, o0 + at_ * 4, none⟩) (N - at_) (cc - at_)) (.slice none 0 0) (.slice none 0 0)
  have HB2 : Hid (Below w.heap.size w w2) := by rw [hw2]; exact bel_put (bel_put HB1.out gA (by omega)) gB (by omega)
  have h52 : Hid (w2.heap[w.heap.size + 1 + 1 + 1]? = some (Obj.cells #[.bool true, .slice (some ⟨g0, o0, none⟩) at_ cc, .slice none 0 0, .slice none 0 0] 26)) := by rw [hw2]; exact blk_gr (blk_four h51.out _ _ _ _) gB (by omega)
  have h62 : Hid (w2.heap[w.heap.size + 1 + 1 + 1 + 1]? = some (Obj.cells #[.bool true, .slice (some ⟨g0, o0 + at_ * 4, none⟩) (N - at_) (cc - at_), .slice none 0 0, .slice none 0 0] 26)) := by rw [hw2]; exact blk_four (blk_gr h61.out gA (by omega)) _ _ _ _
  have h22 : Hid (w2.heap[w.heap.size + 1]? = some (Obj.cells #[.bool false, .slice none 0 0, .slice none 0 0, .slice none 0 0] 26)) := by rw [hw2]; exact blk_gr (blk_gr h21.out gA (by omega)) gB (by omega)
  have h42 : Hid (w2.heap[w.heap.size + 1 + 1]? = some (Obj.cells #[.bool false, .slice none 0 0, .slice none 0 0, .slice none 0 0] 26)) := by rw [hw2]; exact blk_gr (blk_gr h41.out gA (by omega)) gB (by omega)
  rw [hv5] at cA h52
  rw [hv6] at cB h62
  rw [hv5, hv6]
  have hs2 : w.heap.size + 5 ≤ w2.heap.size := by have := gA.size; have := gB.size; rw [hw2]; omega
  clear gA gB hw2 HA1 h21 h41 h51 h61 a0 a1 a2 a3 b0 b1 b2 b3 d0 d1 d2 d3 bf0 bf1 bf2 bf3 df0 df1 df2 df3 k1 k0 K0 z1 z2 z3 z4 z5 z6
  have SS : ∀ u, Below w2.heap.size w2 u → ((u.cell? ⟨w.heap.size + 1 + 1 + 1, 0, none⟩ = some (.bool true) ∧ u.cell? ⟨w.heap.size + 1 + 1 + 1, 1, none⟩ = some v5 ∧ u.cell? ⟨w.heap.size + 1 + 1 + 1, 2, none⟩ = some (.slice none 0 0) ∧ u.cell? ⟨w.heap.size + 1 + 1 + 1, 3, none⟩ = some (.slice none 0 0)) ∧ u.cell? ⟨w.heap.size + 1 + 1 + 1 + 1, 0, none⟩ = some (.bool true) ∧ u.cell? ⟨w.heap.size + 1 + 1 + 1 + 1, 1, none⟩ = some v6 ∧ u.cell? ⟨w.heap.size + 1 + 1 + 1 + 1, 2, none⟩ = some (.slice none 0 0) ∧ u.cell? ⟨w.heap.size + 1 + 1 + 1 + 1, 3, none⟩ = some (.slice none 0 0)) := fun u hu => ⟨four_of (blk_on hu h52.out), four_of (blk_on hu h62.out)⟩
  have HS2 : Hid (∀ (u : World) (a b c d : Value), Below w2.heap.size w2 u → ((((((u.setCell ⟨w.heap.size + 1, 0, none⟩ a).setCell ⟨w.heap.size + 1, 1, none⟩ b).setCell ⟨w.heap.size + 1, 2, none⟩ c).setCell ⟨w.heap.size + 1, 3, none⟩ d).cell? ⟨w.heap.size + 1 + 1 + 1, 0, none⟩ = some (.bool true) ∧ ((((u.setCell ⟨w.heap.size + 1, 0, none⟩ a).setCell ⟨w.heap.size + 1, 1, none⟩ b).setCell ⟨w.heap.size + 1, 2, none⟩ c).setCell ⟨w.heap.size + 1, 3, none⟩ d).cell? ⟨w.heap.size + 1 + 1 + 1, 1, none⟩ = some v5 ∧ ((((u.setCell ⟨w.heap.size + 1, 0, none⟩ a).setCell ⟨w.heap.size + 1, 1, none⟩ b).setCell ⟨w.heap.size + 1, 2, none⟩ c).setCell ⟨w.heap.size + 1, 3, none⟩ d).cell? ⟨w.heap.size + 1 + 1 + 1, 2, none⟩ = some (.slice none 0 0) ∧ ((((u.setCell ⟨w.heap.size + 1, 0, none⟩ a).setCell ⟨w.heap.size + 1, 1, none⟩ b).setCell ⟨w.heap.size + 1, 2, none⟩ c).setCell ⟨w.heap.size + 1, 3, none⟩ d).cell? ⟨w.heap.size + 1 + 1 + 1, 3, none⟩ = some (.slice none 0 0)) ∧ ((((u.setCell ⟨w.heap.size + 1, 0, none⟩ a).setCell ⟨w.heap.size + 1, 1, none⟩ b).setCell ⟨w.heap.size + 1, 2, none⟩ c).setCell ⟨w.heap.size + 1, 3, none⟩ d).cell? ⟨w.heap.size + 1 + 1 + 1 + 1, 0, none⟩ = some (.bool true) ∧ ((((u.setCell ⟨w.heap.size + 1, 0, none⟩ a).setCell ⟨w.heap.size + 1, 1, none⟩ b).setCell ⟨w.heap.size + 1, 2, none⟩ c).setCell ⟨w.heap.size + 1, 3, none⟩ d).cell? ⟨w.heap.size + 1 + 1 + 1 + 1, 1, none⟩ = some v6 ∧ ((((u.setCell ⟨w.heap.size + 1, 0, none⟩ a).setCell ⟨w.heap.size + 1, 1, none⟩ b).setCell ⟨w.heap.size + 1, 2, none⟩ c).setCell ⟨w.heap.size + 1, 3, none⟩ d).cell? ⟨w.heap.size + 1 + 1 + 1 + 1, 2, none⟩ = some (.slice none 0 0) ∧ ((((u.setCell ⟨w.heap.size + 1, 0, none⟩ a).setCell ⟨w.heap.size + 1, 1, none⟩ b).setCell ⟨w.heap.size + 1, 2, none⟩ c).setCell ⟨w.heap.size + 1, 3, none⟩ d).cell? ⟨w.heap.size + 1 + 1 + 1 + 1, 3, none⟩ = some (.slice none 0 0))) := fun u a b c d hu => ⟨four_of (blk_gr (blk_on hu h52.out) (gr_four u (w.heap.size + 1) a b c d) (by omega)), four_of (blk_gr (blk_on hu h62.out) (gr_four u (w.heap.size + 1) a b c d) (by omega))⟩
  have HS4 : Hid (∀ (u : World) (a b c d : Value), Below w2.heap.size w2 u → ((((((u.setCell ⟨w.heap.size + 1 + 1, 0, none⟩ a).setCell ⟨w.heap.size + 1 + 1, 1, none⟩ b).setCell ⟨w.heap.size + 1 + 1, 2, none⟩ c).setCell ⟨w.heap.size + 1 + 1, 3, none⟩ d).cell? ⟨w.heap.size + 1 + 1 + 1, 0, none⟩ = some (.bool true) ∧ ((((u.setCell ⟨w.heap.size + 1 + 1, 0, none⟩ a).setCell ⟨w.heap.size + 1 + 1, 1, none⟩ b).setCell ⟨w.heap.size + 1 + 1, 2, none⟩ c).setCell ⟨w.heap.size + 1 + 1, 3, none⟩ d).cell? ⟨w.heap.size + 1 + 1 + 1, 1, none⟩ = some v5 ∧ ((((u.setCell ⟨w.heap.size + 1 + 1, 0, none⟩ a).setCell ⟨w.heap.size + 1 + 1, 1, none⟩ b).setCell ⟨w.heap.size + 1 + 1, 2, none⟩ c).setCell ⟨w.heap.size + 1 + 1, 3, none⟩ d).cell? ⟨w.heap.size + 1 + 1 + 1, 2, none⟩ = some (.slice none 0 0) ∧ ((((u.setCell ⟨w.heap.size + 1 + 1, 0, none⟩ a).setCell ⟨w.heap.size + 1 + 1, 1, none⟩ b).setCell ⟨w.heap.size + 1 + 1, 2, none⟩ c).setCell ⟨w.heap.size + 1 + 1, 3, none⟩ d).cell? ⟨w.heap.size + 1 + 1 + 1, 3, none⟩ = some (.slice none 0 0)) ∧ ((((u.setCell ⟨w.heap.size + 1 + 1, 0, none⟩ a).setCell ⟨w.heap.size + 1 + 1, 1, none⟩ b).setCell ⟨w.heap.size + 1 + 1, 2, none⟩ c).setCell ⟨w.heap.size + 1 + 1, 3, none⟩ d).cell? ⟨w.heap.size + 1 + 1 + 1 + 1, 0, none⟩ = some (.bool true) ∧ ((((u.setCell ⟨w.heap.size + 1 + 1, 0, none⟩ a).setCell ⟨w.heap.size + 1 + 1, 1, none⟩ b).setCell ⟨w.heap.size + 1 + 1, 2, none⟩ c).setCell ⟨w.heap.size + 1 + 1, 3, none⟩ d).cell? ⟨w.heap.size + 1 + 1 + 1 + 1, 1, none⟩ = some v6 ∧ ((((u.setCell ⟨w.heap.size + 1 + 1, 0, none⟩ a).setCell ⟨w.heap.size + 1 + 1, 1, none⟩ b).setCell ⟨w.heap.size + 1 + 1, 2, none⟩ c).setCell ⟨w.heap.size + 1 + 1, 3, none⟩ d).cell? ⟨w.heap.size + 1 + 1 + 1 + 1, 2, none⟩ = some (.slice none 0 0) ∧ ((((u.setCell ⟨w.heap.size + 1 + 1, 0, none⟩ a).setCell ⟨w.heap.size + 1 + 1, 1, none⟩ b).setCell ⟨w.heap.size + 1 + 1, 2, none⟩ c).setCell ⟨w.heap.size + 1 + 1, 3, none⟩ d).cell? ⟨w.heap.size + 1 + 1 + 1 + 1, 3, none⟩ = some (.slice none 0 0))) := fun u a b c d hu => ⟨four_of (blk_gr (blk_on hu h52.out) (gr_four u (w.heap.size + 1 + 1) a b c d) (by omega)), four_of (blk_gr (blk_on hu h62.out) (gr_four u (w.heap.size + 1 + 1) a b c d) (by omega))⟩
  have HS24 : Hid (∀ (u : World) (a b c d a' b' c' d' : Value), Below w2.heap.size w2 u → ((((((((((u.setCell ⟨w.heap.size + 1, 0, none⟩ a).setCell ⟨w.heap.size + 1, 1, none⟩ b).setCell ⟨w.heap.size + 1, 2, none⟩ c).setCell ⟨w.heap.size + 1, 3, none⟩ d).setCell ⟨w.heap.size + 1 + 1, 0, none⟩ a').setCell ⟨w.heap.size + 1 + 1, 1, none⟩ b').setCell ⟨w.heap.size + 1 + 1, 2, none⟩ c').setCell ⟨w.heap.size + 1 + 1, 3, none⟩ d').cell? ⟨w.heap.size + 1 + 1 + 1, 0, none⟩ = some (.bool true) ∧ ((((((((u.setCell ⟨w.heap.size + 1, 0, none⟩ a).setCell ⟨w.heap.size + 1, 1, none⟩ b).setCell ⟨w.heap.size + 1, 2, none⟩ c).setCell ⟨w.heap.size + 1, 3, none⟩ d).setCell ⟨w.heap.size + 1 + 1, 0, none⟩ a').setCell ⟨w.heap.size + 1 + 1, 1, none⟩ b').setCell ⟨w.heap.size + 1 + 1, 2, none⟩ c').setCell ⟨w.heap.size + 1 + 1, 3, none⟩ d').cell? ⟨w.heap.size + 1 + 1 + 1, 1, none⟩ = some v5 ∧ ((((((((u.setCell ⟨w.heap.size + 1, 0, none⟩ a).setCell ⟨w.heap.size + 1, 1, none⟩ b).setCell ⟨w.heap.size + 1, 2, none⟩ c).setCell ⟨w.heap.size + 1, 3, none⟩ d).setCell ⟨w.heap.size + 1 + 1, 0, none⟩ a').setCell ⟨w.heap.size + 1 + 1, 1, none⟩ b').setCell ⟨w.heap.size + 1 + 1, 2, none⟩ c').setCell ⟨w.heap.size + 1 + 1, 3, none⟩ d').cell? ⟨w.heap.size + 1 + 1 + 1, 2, none⟩ = some (.slice none 0 0) ∧ ((((((((u.setCell ⟨w.heap.size + 1, 0, none⟩ a).setCell ⟨w.heap.size + 1, 1, none⟩ b).setCell ⟨w.heap.size + 1, 2, none⟩ c).setCell ⟨w.heap.size + 1, 3, none⟩ d).setCell ⟨w.heap.size + 1 + 1, 0, none⟩ a').setCell ⟨w.heap.size + 1 + 1, 1, none⟩ b').setCell ⟨w.heap.size + 1 + 1, 2, none⟩ c').setCell ⟨w.heap.size + 1 + 1, 3, none⟩ d').cell? ⟨w.heap.size + 1 + 1 + 1, 3, none⟩ = some (.slice none 0 0)) ∧ ((((((((u.setCell ⟨w.heap.size + 1, 0, none⟩ a).setCell ⟨w.heap.size + 1, 1, none⟩ b).setCell ⟨w.heap.size + 1, 2, none⟩ c).setCell ⟨w.heap.size + 1, 3, none⟩ d).setCell ⟨w.heap.size + 1 + 1, 0, none⟩ a').setCell ⟨w.heap.size + 1 + 1, 1, none⟩ b').setCell ⟨w.heap.size + 1 + 1, 2, none⟩ c').setCell ⟨w.heap.size + 1 + 1, 3, none⟩ d').cell? ⟨w.heap.size + 1 + 1 + 1 + 1, 0, none⟩ = some (.bool true) ∧ ((((((((u.setCell ⟨w.heap.size + 1, 0, none⟩ a).setCell ⟨w.heap.size + 1, 1, none⟩ b).setCell ⟨w.heap.size + 1, 2, none⟩ c).setCell ⟨w.heap.size + 1, 3, none⟩ d).setCell ⟨w.heap.size + 1 + 1, 0, none⟩ a').setCell ⟨w.heap.size + 1 + 1, 1, none⟩ b').setCell ⟨w.heap.size + 1 + 1, 2, none⟩ c').setCell ⟨w.heap.size + 1 + 1, 3, none⟩ d').cell? ⟨w.heap.size + 1 + 1 + 1 + 1, 1, none⟩ = some v6 ∧ ((((((((u.setCell ⟨w.heap.size + 1, 0, none⟩ a).setCell ⟨w.heap.size + 1, 1, none⟩ b).setCell ⟨w.heap.size + 1, 2, none⟩ c).setCell ⟨w.heap.size + 1, 3, none⟩ d).setCell ⟨w.heap.size + 1 + 1, 0, none⟩ a').setCell ⟨w.heap.size + 1 + 1, 1, none⟩ b').setCell ⟨w.heap.size + 1 + 1, 2, none⟩ c').setCell ⟨w.heap.size + 1 + 1, 3, none⟩ d').cell? ⟨w.heap.size + 1 + 1 + 1 + 1, 2, none⟩ = some (.slice none 0 0) ∧ ((((((((u.setCell ⟨w.heap.size + 1, 0, none⟩ a).setCell ⟨w.heap.size + 1, 1, none⟩ b).setCell ⟨w.heap.size + 1, 2, none⟩ c).setCell ⟨w.heap.size + 1, 3, none⟩ d).setCell ⟨w.heap.size + 1 + 1, 0, none⟩ a').setCell ⟨w.heap.size + 1 + 1, 1, none⟩ b').setCell ⟨w.heap.size + 1 + 1, 2, none⟩ c').setCell ⟨w.heap.size + 1 + 1, 3, none⟩ d').cell? ⟨w.heap.size + 1 + 1 + 1 + 1, 3, none⟩ = some (.slice none 0 0))) := fun u a b c d a' b' c' d' hu => ⟨four_of (blk_gr (blk_gr (blk_on hu h52.out) (gr_four u (w.heap.size + 1) a b c d) (by omega)) (gr_four _ (w.heap.size + 1 + 1) a' b' c' d') (by omega)), four_of (blk_gr (blk_gr (blk_on hu h62.out) (gr_four u (w.heap.size + 1) a b c d) (by omega)) (gr_four _ (w.heap.size + 1 + 1) a' b' c' d') (by omega))⟩
  have HS42 : Hid (∀ (u : World) (a b c d a' b' c' d' : Value), Below w2.heap.size w2 u → ((((((((((u.setCell ⟨w.heap.size + 1 + 1, 0, none⟩ a).setCell ⟨w.heap.size + 1 + 1, 1, none⟩ b).setCell ⟨w.heap.size + 1 + 1, 2, none⟩ c).setCell ⟨w.heap.size + 1 + 1, 3, none⟩ d).setCell ⟨w.heap.size + 1, 0, none⟩ a').setCell ⟨w.heap.size + 1, 1, none⟩ b').setCell ⟨w.heap.size + 1, 2, none⟩ c').setCell ⟨w.heap.size + 1, 3, none⟩ d').cell? ⟨w.heap.size + 1 + 1 + 1, 0, none⟩ = some (.bool true) ∧ ((((((((u.setCell ⟨w.heap.size + 1 + 1, 0, none⟩ a).setCell ⟨w.heap.size + 1 + 1, 1, none⟩ b).setCell ⟨w.heap.size + 1 + 1, 2, none⟩ c).setCell ⟨w.heap.size + 1 + 1, 3, none⟩ d).setCell ⟨w.heap.size + 1, 0, none⟩ a').setCell ⟨w.heap.size + 1, 1, none⟩ b').setCell ⟨w.heap.size + 1, 2, none⟩ c').setCell ⟨w.heap.size + 1, 3, none⟩ d').cell? ⟨w.heap.size + 1 + 1 + 1, 1, none⟩ = some v5 ∧ ((((((((u.setCell ⟨w.heap.size + 1 + 1, 0, none⟩ a).setCell ⟨w.heap.size + 1 + 1, 1, none⟩ b).setCell ⟨w.heap.size + 1 + 1, 2, none⟩ c).setCell ⟨w.heap.size + 1 + 1, 3, none⟩ d).setCell ⟨w.heap.size + 1, 0, none⟩ a').setCell ⟨w.heap.size + 1, 1, none⟩ b').setCell ⟨w.heap.size + 1, 2, none⟩ c').setCell ⟨w.heap.size + 1, 3, none⟩ d').cell? ⟨w.heap.size + 1 + 1 + 1, 2, none⟩ = some (.slice none 0 0) ∧ ((((((((u.setCell ⟨w.heap.size + 1 + 1, 0, none⟩ a).setCell ⟨w.heap.size + 1 + 1, 1, none⟩ b).setCell ⟨w.heap.size + 1 + 1, 2, none⟩ c).setCell ⟨w.heap.size + 1 + 1, 3, none⟩ d).setCell ⟨w.heap.size + 1, 0, none⟩ a').setCell ⟨w.heap.size + 1, 1, none⟩ b').setCell ⟨w.heap.size + 1, 2, none⟩ c').setCell ⟨w.heap.size + 1, 3, none⟩ d').cell? ⟨w.heap.size + 1 + 1 + 1, 3, none⟩ = some (.slice none 0 0)) ∧ ((((((((u.setCell ⟨w.heap.size + 1 + 1, 0, none⟩ a).setCell ⟨w.heap.size + 1 + 1, 1, none⟩ b).setCell ⟨w.heap.size + 1 + 1, 2, none⟩ c).setCell ⟨w.heap.size + 1 + 1, 3, none⟩ d).setCell ⟨w.heap.size + 1, 0, none⟩ a').setCell ⟨w.heap.size + 1, 1, none⟩ b').setCell ⟨w.heap.size + 1, 2, none⟩ c').setCell ⟨w.heap.size + 1, 3, none⟩ d').cell? ⟨w.heap.size + 1 + 1 + 1 + 1, 0, none⟩ = some (.bool true) ∧ ((((((((u.setCell ⟨w.heap.size + 1 + 1, 0, none⟩ a).setCell ⟨w.heap.size + 1 + 1, 1, none⟩ b).setCell ⟨w.heap.size + 1 + 1, 2, none⟩ c).setCell ⟨w.heap.size + 1 + 1, 3, none⟩ d).setCell ⟨w.heap.size + 1, 0, none⟩ a').setCell ⟨w.heap.size + 1, 1, none⟩ b').setCell ⟨w.heap.size + 1, 2, none⟩ c').setCell ⟨w.heap.size + 1, 3, none⟩ d').cell? ⟨w.heap.size + 1 + 1 + 1 + 1, 1, none⟩ = some v6 ∧ ((((((((u.setCell ⟨w.heap.size + 1 + 1, 0, none⟩ a).setCell ⟨w.heap.size + 1 + 1, 1, none⟩ b).setCell ⟨w.heap.size + 1 + 1, 2, none⟩ c).setCell ⟨w.heap.size + 1 + 1, 3, none⟩ d).setCell ⟨w.heap.size + 1, 0, none⟩ a').setCell ⟨w.heap.size + 1, 1, none⟩ b').setCell ⟨w.heap.size + 1, 2, none⟩ c').setCell ⟨w.heap.size + 1, 3, none⟩ d').cell? ⟨w.heap.size + 1 + 1 + 1 + 1, 2, none⟩ = some (.slice none 0 0) ∧ ((((((((u.setCell ⟨w.heap.size + 1 + 1, 0, none⟩ a).setCell ⟨w.heap.size + 1 + 1, 1, none⟩ b).setCell ⟨w.heap.size + 1 + 1, 2, none⟩ c).setCell ⟨w.heap.size + 1 + 1, 3, none⟩ d).setCell ⟨w.heap.size + 1, 0, none⟩ a').setCell ⟨w.heap.size + 1, 1, none⟩ b').setCell ⟨w.heap.size + 1, 2, none⟩ c').setCell ⟨w.heap.size + 1, 3, none⟩ d').cell? ⟨w.heap.size + 1 + 1 + 1 + 1, 3, none⟩ = some (.slice none 0 0))) := fun u a b c d a' b' c' d' hu => ⟨four_of (blk_gr (blk_gr (blk_on hu h52.out) (gr_four u (w.heap.size + 1 + 1) a b c d) (by omega)) (gr_four _ (w.heap.size + 1) a' b' c' d') (by omega)), four_of (blk_gr (blk_gr (blk_on hu h62.out) (gr_four u (w.heap.size + 1 + 1) a b c d) (by omega)) (gr_four _ (w.heap.size + 1) a' b' c' d') (by omega))⟩
  have HSS := Lib.hid SS
  have B0 : Below w2.heap.size w2 w2.drew := (Below.refl _ w2).drew
  clear SS
  go_region_held3 (fun u => (u.cell? ⟨w.heap.size + 1 + 1 + 1, 0, none⟩ = some (.bool true) ∧ u.cell? ⟨w.heap.size + 1 + 1 + 1, 1, none⟩ = some v5 ∧ u.cell? ⟨w.heap.size + 1 + 1 + 1, 2, none⟩ = some (.slice none 0 0) ∧ u.cell? ⟨w.heap.size + 1 + 1 + 1, 3, none⟩ = some (.slice none 0 0)) ∧ u.cell? ⟨w.heap.size + 1 + 1 + 1 + 1, 0, none⟩ = some (.bool true) ∧ u.cell? ⟨w.heap.size + 1 + 1 + 1 + 1, 1, none⟩ = some v6 ∧ u.cell? ⟨w.heap.size + 1 + 1 + 1 + 1, 2, none⟩ = some (.slice none 0 0) ∧ u.cell? ⟨w.heap.size + 1 + 1 + 1 + 1, 3, none⟩ = some (.slice none 0 0)) (first | with_reducible exact HSS.out _ (by with_reducible assumption) | with_reducible exact HS2.out _ _ _ _ _ (by with_reducible assumption) | with_reducible exact HS4.out _ _ _ _ _ (by with_reducible assumption) | with_reducible exact HS24.out _ _ _ _ _ _ _ _ _ (by with_reducible assumption) | with_reducible exact HS42.out _ _ _ _ _ _ _ _ _ (by with_reducible assumption))
    (first
      | (go_at_call 54; with_reducible refine (cK.out _ (bel_then HB2.out (by with_reducible assumption))).mono ?_; rintro e wk ⟨vk, rfl, hnk, hbk⟩
         have Bk : Below w2.heap.size w2 wk := bel_then (by with_reducible assumption) hbk
         obtain ⟨kp', kc', rfl, -, -⟩ := hnk.bs.slice
         have HNk := Lib.hid (hnk.mono (Nat.le_trans HB2.out.size (by with_reducible assumption : Below w2.heap.size w2 _).size))
         try replace HNa := Lib.hid (HNa.out.on hbk)
         try replace HNb := Lib.hid (HNb.out.on hbk)
         obtain ⟨x0, x1, x2, x3⟩ := four_of (blk_on Bk h22.out); obtain ⟨y0, y1, y2, y3⟩ := four_of (blk_on Bk h42.out)
         have xf0 := four_fr (blk_on Bk h22.out) 0; have xf1 := four_fr (blk_on Bk h22.out) 1; have xf2 := four_fr (blk_on Bk h22.out) 2; have xf3 := four_fr (blk_on Bk h22.out) 3
         have yf0 := four_fr (blk_on Bk h42.out) 0; have yf1 := four_fr (blk_on Bk h42.out) 1; have yf2 := four_fr (blk_on Bk h42.out) 2; have yf3 := four_fr (blk_on Bk h42.out) 3
         clear hnk hbk)
      | (go_at_call 26; with_reducible refine (cA.out _ (bel_then HB2.out (by with_reducible assumption))).mono ?_; rintro e wa ⟨va, rfl, hna, hba⟩
         have Ba : Below w2.heap.size w2 wa := bel_then (by with_reducible assumption) hba
         obtain ⟨r1, f1, r2, f2, r3, f3, rfl⟩ := hna.hdr
         have HNa := Lib.hid (hna.low (Nat.le_trans HB2.out.size (by with_reducible assumption : Below w2.heap.size w2 _).size))
         try replace HNk := Lib.hid (HNk.out.on hba)
         try replace HNb := Lib.hid (HNb.out.on hba)
         obtain ⟨x0, x1, x2, x3⟩ := four_of (blk_on Ba h22.out); obtain ⟨y0, y1, y2, y3⟩ := four_of (blk_on Ba h42.out)
         have xf0 := four_fr (blk_on Ba h22.out) 0; have xf1 := four_fr (blk_on Ba h22.out) 1; have xf2 := four_fr (blk_on Ba h22.out) 2; have xf3 := four_fr (blk_on Ba h22.out) 3
         have yf0 := four_fr (blk_on Ba h42.out) 0; have yf1 := four_fr (blk_on Ba h42.out) 1; have yf2 := four_fr (blk_on Ba h42.out) 2; have yf3 := four_fr (blk_on Ba h42.out) 3
         clear hna hba)
      | (go_at_call 26; with_reducible refine (cB.out _ (bel_then HB2.out (by with_reducible assumption))).mono ?_; rintro e wb ⟨vb, rfl, hnb, hbb⟩
         have Bb : Below w2.heap.size w2 wb := bel_then (by with_reducible assumption) hbb
         obtain ⟨r1', f1', r2', f2', r3', f3', rfl⟩ := hnb.hdr
         have HNb := Lib.hid (hnb.low (Nat.le_trans HB2.out.size (by with_reducible assumption : Below w2.heap.size w2 _).size))
         try replace HNk := Lib.hid (HNk.out.on hbb)
         try replace HNa := Lib.hid (HNa.out.on hbb)
         obtain ⟨x0, x1, x2, x3⟩ := four_of (blk_on Bb h22.out); obtain ⟨y0, y1, y2, y3⟩ := four_of (blk_on Bb h42.out)
         have xf0 := four_fr (blk_on Bb h22.out) 0; have xf1 := four_fr (blk_on Bb h22.out) 1; have xf2 := four_fr (blk_on Bb h22.out) 2; have xf3 := four_fr (blk_on Bb h22.out) 3
         have yf0 := four_fr (blk_on Bb h42.out) 0; have yf1 := four_fr (blk_on Bb h42.out) 1; have yf2 := four_fr (blk_on Bb h42.out) 2; have yf3 := four_fr (blk_on Bb h42.out) 3
         clear hnb hbb))
  all_goals
    go_wp2
    first
      | (obtain ⟨e1, e2, eA, eK, eB, eW⟩ := spl_end (g := w.heap.size + 1) (g' := w.heap.size + 1 + 1) HB2.out (by with_reducible assumption) h22.out h42.out (by omega) (by omega) (by omega) HNa.out HNb.out HNk.out
         with_reducible refine bodyPost_ret (results_split Try.results22 _ _ (w.heap.size + 1) (w.heap.size + 1 + 1) _ _ _ _ _ _ _ _ 26 26 rfl e1 rfl e2) rfl ?_
         exact ⟨_, _, _, rfl, eA, eK, eB, eW⟩)
      | (obtain ⟨e1, e2, eA, eK, eB, eW⟩ := spl_end (g := w.heap.size + 1 + 1) (g' := w.heap.size + 1) HB2.out (by with_reducible assumption) h42.out h22.out (by omega) (by omega) (by omega) HNb.out HNa.out HNk.out
         with_reducible refine bodyPost_ret (results_split Try.results22 _ _ (w.heap.size + 1) (w.heap.size + 1 + 1) _ _ _ _ _ _ _ _ 26 26 rfl e2 rfl e1) rfl ?_
         exact ⟨_, _, _, rfl, eB, eK, eA, eW⟩)
end Go.Proofs.Ytbkpgppaahpalaa
