/-
  The document's Split of a node that is not parted.
-/
import Derived.Test.YtbkpgppaahpalaaRsd
namespace Go.Proofs.Ytbkpgppaahpalaa
open Go.RowKit
set_option linter.unusedVariables false      -- a walk need not use every condition

/-- A clone is laid into its three places. -/
theorem no_end {w u : World} {n : Nd} {g : Nat} {A : Array Value} {l x y z : Value} (hb : Below w.heap.size w u) (hA : u.heap[g]? = some (.cells A 26)) (h2 : u.heap[g + 1]? = some (Obj.cells #[.bool false, .slice none 0 0, .slice none 0 0, .slice none 0 0] 26)) (h4 : u.heap[g + 1 + 1]? = some (Obj.cells #[.bool false, .slice none 0 0, .slice none 0 0, .slice none 0 0] 26)) (hg : w.heap.size ≤ g) (hn : NdO w.heap.size u (.agg #[l, x, y, z]) n) :
    ((((((((((((u.setCell ⟨g, 0, none⟩ l).setCell ⟨g, 1, none⟩ x).setCell ⟨g, 2, none⟩ y).setCell ⟨g, 3, none⟩ z).setCell ⟨g + 1, 0, none⟩ l).setCell ⟨g + 1, 1, none⟩ x).setCell ⟨g + 1, 2, none⟩ y).setCell ⟨g + 1, 3, none⟩ z).setCell ⟨g + 1 + 1, 0, none⟩ (.bool false)).setCell ⟨g + 1 + 1, 1, none⟩ (.slice none 0 0)).setCell ⟨g + 1 + 1, 2, none⟩ (.slice none 0 0)).setCell ⟨g + 1 + 1, 3, none⟩ (.slice none 0 0)).heap[g + 1]? = some (.cells #[l, x, y, z] 26) ∧ ((((((((((((u.setCell ⟨g, 0, none⟩ l).setCell ⟨g, 1, none⟩ x).setCell ⟨g, 2, none⟩ y).setCell ⟨g, 3, none⟩ z).setCell ⟨g + 1, 0, none⟩ l).setCell ⟨g + 1, 1, none⟩ x).setCell ⟨g + 1, 2, none⟩ y).setCell ⟨g + 1, 3, none⟩ z).setCell ⟨g + 1 + 1, 0, none⟩ (.bool false)).setCell ⟨g + 1 + 1, 1, none⟩ (.slice none 0 0)).setCell ⟨g + 1 + 1, 2, none⟩ (.slice none 0 0)).setCell ⟨g + 1 + 1, 3, none⟩ (.slice none 0 0)).heap[g + 1 + 1]? = some (Obj.cells #[.bool false, .slice none 0 0, .slice none 0 0, .slice none 0 0] 26) ∧ NdS ((((((((((((u.setCell ⟨g, 0, none⟩ l).setCell ⟨g, 1, none⟩ x).setCell ⟨g, 2, none⟩ y).setCell ⟨g, 3, none⟩ z).setCell ⟨g + 1, 0, none⟩ l).setCell ⟨g + 1, 1, none⟩ x).setCell ⟨g + 1, 2, none⟩ y).setCell ⟨g + 1, 3, none⟩ z).setCell ⟨g + 1 + 1, 0, none⟩ (.bool false)).setCell ⟨g + 1 + 1, 1, none⟩ (.slice none 0 0)).setCell ⟨g + 1 + 1, 2, none⟩ (.slice none 0 0)).setCell ⟨g + 1 + 1, 3, none⟩ (.slice none 0 0)) (.agg #[l, x, y, z]) n ∧ Below w.heap.size w ((((((((((((u.setCell ⟨g, 0, none⟩ l).setCell ⟨g, 1, none⟩ x).setCell ⟨g, 2, none⟩ y).setCell ⟨g, 3, none⟩ z).setCell ⟨g + 1, 0, none⟩ l).setCell ⟨g + 1, 1, none⟩ x).setCell ⟨g + 1, 2, none⟩ y).setCell ⟨g + 1, 3, none⟩ z).setCell ⟨g + 1 + 1, 0, none⟩ (.bool false)).setCell ⟨g + 1 + 1, 1, none⟩ (.slice none 0 0)).setCell ⟨g + 1 + 1, 2, none⟩ (.slice none 0 0)).setCell ⟨g + 1 + 1, 3, none⟩ (.slice none 0 0)) := by
  have g1 := gr_four u g l x y z
  have b2 := blk_gr h2 g1 (by omega)
  have b4 := blk_gr h4 g1 (by omega)
  have n1 := hn.gr g1 hA (by decide) (by decide) (by decide) (by decide)
  have g2 := gr_four ((((u.setCell ⟨g, 0, none⟩ l).setCell ⟨g, 1, none⟩ x).setCell ⟨g, 2, none⟩ y).setCell ⟨g, 3, none⟩ z) (g + 1) l x y z
  have c2 := blk_four b2 l x y z
  have c4 := blk_gr b4 g2 (by omega)
  have n2 := n1.gr g2 b2 (by decide) (by decide) (by decide) (by decide)
  have g3 := gr_four ((((((((u.setCell ⟨g, 0, none⟩ l).setCell ⟨g, 1, none⟩ x).setCell ⟨g, 2, none⟩ y).setCell ⟨g, 3, none⟩ z).setCell ⟨g + 1, 0, none⟩ l).setCell ⟨g + 1, 1, none⟩ x).setCell ⟨g + 1, 2, none⟩ y).setCell ⟨g + 1, 3, none⟩ z) (g + 1 + 1) (.bool false) (.slice none 0 0) (.slice none 0 0) (.slice none 0 0)
  exact ⟨blk_gr c2 g3 (by omega), blk_four c4 _ _ _ _, (n2.gr g3 c4 (by decide) (by decide) (by decide) (by decide)).s, bel_put (bel_put (bel_put hb g1 hg) g2 (by omega)) g3 (by omega)⟩
set_option maxHeartbeats 8000000 in
set_option maxRecDepth 100000 in
theorem rsplit_no0 (w : World) (v : Value) (n : Nd) (h : NdS w v n) (hf : Fit n) (hL : n.leaf = true) (h2 : ¬ 1 < n.cells.length) (hl : n.cells.length * 64 ≤ 140737488352000) (hP : ¬ Parts n) :
    Calls Try.prog 23 #[v] w fun e w' => ∃ va vk vb, e = .returned (.tuple #[va, vk, vb]) ∧ NdS w' va (spl n).1 ∧ Bs w' vk (spl n).2.1 ∧ NdS w' vb (spl n).2.2 ∧ Below w.heap.size w w' := by
  rw [spl_no hP]
  have c24 := fun (u : World) (hu : Below w.heap.size w u) => rclone24 u v n (h.on hu) hf
  obtain ⟨vc, vk, vi, rfl, hC, hK, hI⟩ := h
  obtain ⟨pc, cc, rfl, -, lc⟩ := hC.hdr
  obtain ⟨pk, ck, rfl, -, lk⟩ := hK.hdr
  obtain ⟨pi, ci, rfl, -, li⟩ := hI.hdr
  clear hC hK hI
  obtain ⟨W, hW⟩ : ∃ W, W = ((w.alloc (Obj.cells #[.bool n.leaf, .slice pc n.cells.length cc, .slice pk n.keys.length ck, .slice pi n.kids.length ci] 26)).alloc (Obj.cells #[.bool false, .slice none 0 0, .slice none 0 0, .slice none 0 0] 26)).alloc (Obj.cells #[.bool false, .slice none 0 0, .slice none 0 0, .slice none 0 0] 26) := ⟨_, rfl⟩
  obtain ⟨hWs, hWA, hW2, hW4⟩ : W.heap.size = w.heap.size + 3 ∧ W.heap[w.heap.size]? = some (Obj.cells #[.bool n.leaf, .slice pc n.cells.length cc, .slice pk n.keys.length ck, .slice pi n.kids.length ci] 26) ∧ W.heap[w.heap.size + 1]? = some (Obj.cells #[.bool false, .slice none 0 0, .slice none 0 0, .slice none 0 0] 26) ∧ W.heap[w.heap.size + 1 + 1]? = some (Obj.cells #[.bool false, .slice none 0 0, .slice none 0 0, .slice none 0 0] 26) := by rw [hW]; exact three_new w _ _ _
  have hWB : Below w.heap.size w W := by rw [hW]; exact bel_then (bel_then (bel1 _ _) (bel1 _ _)) (bel1 _ _)
  have c24' := c24 W hWB
  rw [hL] at c24' hW hWA ⊢
  have HWA := Lib.hid hWA
  have HW2 := Lib.hid hW2
  have HW4 := Lib.hid hW4
  have HWB := Lib.hid hWB
  have HW := Lib.hid hW
  have HL := Lib.hid hL
  clear hWs hWA hW2 hW4 hWB c24 hP hL
  have z1 : IntKind.i64.wrap ((n.cells.length : Int) - 1) = (n.cells.length : Int) - 1 := by rw [IntKind.wrap_i64]; omega
  have z2 : (n.cells.length : Int) - 1 < 1 := by omega
  clear h2
  generalize hNc : n.cells.length = N at *
  generalize hMk : n.keys.length = M at *
  generalize hPi : n.kids.length = P at *
  have HN := Lib.hid hNc
  have HM := Lib.hid hMk
  have HPi := Lib.hid hPi
  clear hNc hMk hPi
  go_enter Try.func23, Try.ntmps23
  go_wp2_with (fail)
  rw [← HW.out]
  clear hW
  refine c24'.mono ?_
  rintro e w1 ⟨v1, rfl, hn1, hb1⟩
  obtain ⟨r1, f1, r2, f2, r3, f3, rfl⟩ := hn1.hdr
  have hA1 := blk_on hb1 HWA.out
  have h21 := blk_on hb1 HW2.out
  have h41 := blk_on hb1 HW4.out
  have HE := Lib.hid (no_end (bel_then HWB.out hb1) hA1 h21 h41 (Nat.le_refl _) (hn1.low HWB.out.size))
  obtain ⟨a0, a1, a2, a3⟩ := four_of hA1
  have af0 := four_fr hA1 0
  have af1 := four_fr hA1 1
  have af2 := four_fr hA1 2
  have af3 := four_fr hA1 3
  obtain ⟨x0, x1, x2, x3⟩ := four_of h21
  have xf0 := four_fr h21 0
  have xf1 := four_fr h21 1
  have xf2 := four_fr h21 2
  have xf3 := four_fr h21 3
  obtain ⟨y0, y1, y2, y3⟩ := four_of h41
  have yf0 := four_fr h41 0
  have yf1 := four_fr h41 1
  have yf2 := four_fr h41 2
  have yf3 := four_fr h41 3
  have HL2 := HL.out
  have e1 := HN.out
  have e2 := HM.out
  have e3 := HPi.out
  rw [HL2, e1, e2, e3] at HE
  simp only [HL2, e1, e2, e3]
  clear hb1 hn1 hA1 c24' HWA HW2 HW4 HWB h21 h41 HL2 e1 e2 e3
  go_wp2
  obtain ⟨H2, H4, HNf, HBf⟩ := HE.out
  with_reducible refine bodyPost_ret (results_split Try.results23 _ _ (w.heap.size + 1) (w.heap.size + 1 + 1) _ _ _ _ _ _ _ _ 26 26 rfl H2 rfl H4) rfl ?_
  exact ⟨_, _, _, rfl, HNf, bs_nil _, ⟨_, _, _, rfl, cs_nil _, ks_nil _, is_nil _⟩, HBf⟩
set_option maxHeartbeats 8000000 in
set_option maxRecDepth 100000 in
theorem rsplit_no1 (w : World) (v : Value) (n : Nd) (h : NdS w v n) (hf : Fit n) (hL : n.leaf = false) (h1 : ¬ 0 < n.keys.length) (hP : ¬ Parts n) :
    Calls Try.prog 23 #[v] w fun e w' => ∃ va vk vb, e = .returned (.tuple #[va, vk, vb]) ∧ NdS w' va (spl n).1 ∧ Bs w' vk (spl n).2.1 ∧ NdS w' vb (spl n).2.2 ∧ Below w.heap.size w w' := by
  rw [spl_no hP]
  have c24 := fun (u : World) (hu : Below w.heap.size w u) => rclone24 u v n (h.on hu) hf
  obtain ⟨vc, vk, vi, rfl, hC, hK, hI⟩ := h
  obtain ⟨pc, cc, rfl, -, lc⟩ := hC.hdr
  obtain ⟨pk, ck, rfl, -, lk⟩ := hK.hdr
  obtain ⟨pi, ci, rfl, -, li⟩ := hI.hdr
  clear hC hK hI
  obtain ⟨W, hW⟩ : ∃ W, W = ((w.alloc (Obj.cells #[.bool n.leaf, .slice pc n.cells.length cc, .slice pk n.keys.length ck, .slice pi n.kids.length ci] 26)).alloc (Obj.cells #[.bool false, .slice none 0 0, .slice none 0 0, .slice none 0 0] 26)).alloc (Obj.cells #[.bool false, .slice none 0 0, .slice none 0 0, .slice none 0 0] 26) := ⟨_, rfl⟩
  obtain ⟨hWs, hWA, hW2, hW4⟩ : W.heap.size = w.heap.size + 3 ∧ W.heap[w.heap.size]? = some (Obj.cells #[.bool n.leaf, .slice pc n.cells.length cc, .slice pk n.keys.length ck, .slice pi n.kids.length ci] 26) ∧ W.heap[w.heap.size + 1]? = some (Obj.cells #[.bool false, .slice none 0 0, .slice none 0 0, .slice none 0 0] 26) ∧ W.heap[w.heap.size + 1 + 1]? = some (Obj.cells #[.bool false, .slice none 0 0, .slice none 0 0, .slice none 0 0] 26) := by rw [hW]; exact three_new w _ _ _
  have hWB : Below w.heap.size w W := by rw [hW]; exact bel_then (bel_then (bel1 _ _) (bel1 _ _)) (bel1 _ _)
  have c24' := c24 W hWB
  rw [hL] at c24' hW hWA ⊢
  have HWA := Lib.hid hWA
  have HW2 := Lib.hid hW2
  have HW4 := Lib.hid hW4
  have HWB := Lib.hid hWB
  have HW := Lib.hid hW
  have HL := Lib.hid hL
  clear hWs hWA hW2 hW4 hWB c24 hP hL
  have hz0 : n.keys.length = 0 := by omega
  have z1 : IntKind.i64.wrap ((n.keys.length : Int) - 1) = -1 := by rw [hz0]; rfl
  clear h1 hz0
  generalize hNc : n.cells.length = N at *
  generalize hMk : n.keys.length = M at *
  generalize hPi : n.kids.length = P at *
  have HN := Lib.hid hNc
  have HM := Lib.hid hMk
  have HPi := Lib.hid hPi
  clear hNc hMk hPi
  go_enter Try.func23, Try.ntmps23
  go_wp2_with (fail)
  rw [← HW.out]
  clear hW
  refine c24'.mono ?_
  rintro e w1 ⟨v1, rfl, hn1, hb1⟩
  obtain ⟨r1, f1, r2, f2, r3, f3, rfl⟩ := hn1.hdr
  have hA1 := blk_on hb1 HWA.out
  have h21 := blk_on hb1 HW2.out
  have h41 := blk_on hb1 HW4.out
  have HE := Lib.hid (no_end (bel_then HWB.out hb1) hA1 h21 h41 (Nat.le_refl _) (hn1.low HWB.out.size))
  obtain ⟨a0, a1, a2, a3⟩ := four_of hA1
  have af0 := four_fr hA1 0
  have af1 := four_fr hA1 1
  have af2 := four_fr hA1 2
  have af3 := four_fr hA1 3
  obtain ⟨x0, x1, x2, x3⟩ := four_of h21
  have xf0 := four_fr h21 0
  have xf1 := four_fr h21 1
  have xf2 := four_fr h21 2
  have xf3 := four_fr h21 3
  obtain ⟨y0, y1, y2, y3⟩ := four_of h41
  have yf0 := four_fr h41 0
  have yf1 := four_fr h41 1
  have yf2 := four_fr h41 2
  have yf3 := four_fr h41 3
  have HL2 := HL.out
  have e1 := HN.out
  have e2 := HM.out
  have e3 := HPi.out
  rw [HL2, e1, e2, e3] at HE
  simp only [HL2, e1, e2, e3]
  clear hb1 hn1 hA1 c24' HWA HW2 HW4 HWB h21 h41 HL2 e1 e2 e3
  go_wp2
  obtain ⟨H2, H4, HNf, HBf⟩ := HE.out
  with_reducible refine bodyPost_ret (results_split Try.results23 _ _ (w.heap.size + 1) (w.heap.size + 1 + 1) _ _ _ _ _ _ _ _ 26 26 rfl H2 rfl H4) rfl ?_
  exact ⟨_, _, _, rfl, HNf, bs_nil _, ⟨_, _, _, rfl, cs_nil _, ks_nil _, is_nil _⟩, HBf⟩
set_option maxHeartbeats 8000000 in
set_option maxRecDepth 100000 in
theorem rsplit_no2 (w : World) (v : Value) (n : Nd) (h : NdS w v n) (hf : Fit n) (hL : n.leaf = false) (h1 : 0 < n.keys.length) (h2 : ¬ n.keys.length < n.kids.length) (hP : ¬ Parts n) :
    Calls Try.prog 23 #[v] w fun e w' => ∃ va vk vb, e = .returned (.tuple #[va, vk, vb]) ∧ NdS w' va (spl n).1 ∧ Bs w' vk (spl n).2.1 ∧ NdS w' vb (spl n).2.2 ∧ Below w.heap.size w w' := by
  rw [spl_no hP]
  have c24 := fun (u : World) (hu : Below w.heap.size w u) => rclone24 u v n (h.on hu) hf
  obtain ⟨vc, vk, vi, rfl, hC, hK, hI⟩ := h
  obtain ⟨pc, cc, rfl, -, lc⟩ := hC.hdr
  obtain ⟨pk, ck, rfl, -, lk⟩ := hK.hdr
  obtain ⟨pi, ci, rfl, -, li⟩ := hI.hdr
  clear hC hK hI
  obtain ⟨W, hW⟩ : ∃ W, W = ((w.alloc (Obj.cells #[.bool n.leaf, .slice pc n.cells.length cc, .slice pk n.keys.length ck, .slice pi n.kids.length ci] 26)).alloc (Obj.cells #[.bool false, .slice none 0 0, .slice none 0 0, .slice none 0 0] 26)).alloc (Obj.cells #[.bool false, .slice none 0 0, .slice none 0 0, .slice none 0 0] 26) := ⟨_, rfl⟩
  obtain ⟨hWs, hWA, hW2, hW4⟩ : W.heap.size = w.heap.size + 3 ∧ W.heap[w.heap.size]? = some (Obj.cells #[.bool n.leaf, .slice pc n.cells.length cc, .slice pk n.keys.length ck, .slice pi n.kids.length ci] 26) ∧ W.heap[w.heap.size + 1]? = some (Obj.cells #[.bool false, .slice none 0 0, .slice none 0 0, .slice none 0 0] 26) ∧ W.heap[w.heap.size + 1 + 1]? = some (Obj.cells #[.bool false, .slice none 0 0, .slice none 0 0, .slice none 0 0] 26) := by rw [hW]; exact three_new w _ _ _
  have hWB : Below w.heap.size w W := by rw [hW]; exact bel_then (bel_then (bel1 _ _) (bel1 _ _)) (bel1 _ _)
  have c24' := c24 W hWB
  rw [hL] at c24' hW hWA ⊢
  have HWA := Lib.hid hWA
  have HW2 := Lib.hid hW2
  have HW4 := Lib.hid hW4
  have HWB := Lib.hid hWB
  have HW := Lib.hid hW
  have HL := Lib.hid hL
  clear hWs hWA hW2 hW4 hWB c24 hP hL
  have z1 : IntKind.i64.wrap ((n.keys.length : Int) - 1) = (n.keys.length : Int) - 1 := by rw [IntKind.wrap_i64]; omega
  have z2 : ¬ (n.keys.length : Int) - 1 < 0 := by omega
  have z3 : (n.kids.length : Int) ≤ (n.keys.length : Int) := by omega
  clear h1 h2
  generalize hNc : n.cells.length = N at *
  generalize hMk : n.keys.length = M at *
  generalize hPi : n.kids.length = P at *
  have HN := Lib.hid hNc
  have HM := Lib.hid hMk
  have HPi := Lib.hid hPi
  clear hNc hMk hPi
  go_enter Try.func23, Try.ntmps23
  go_wp2_with (fail)
  rw [← HW.out]
  clear hW
  refine c24'.mono ?_
  rintro e w1 ⟨v1, rfl, hn1, hb1⟩
  obtain ⟨r1, f1, r2, f2, r3, f3, rfl⟩ := hn1.hdr
  have hA1 := blk_on hb1 HWA.out
  have h21 := blk_on hb1 HW2.out
  have h41 := blk_on hb1 HW4.out
  have HE := Lib.hid (no_end (bel_then HWB.out hb1) hA1 h21 h41 (Nat.le_refl _) (hn1.low HWB.out.size))
  obtain ⟨a0, a1, a2, a3⟩ := four_of hA1
  have af0 := four_fr hA1 0
  have af1 := four_fr hA1 1
  have af2 := four_fr hA1 2
  have af3 := four_fr hA1 3
  obtain ⟨x0, x1, x2, x3⟩ := four_of h21
  have xf0 := four_fr h21 0
  have xf1 := four_fr h21 1
  have xf2 := four_fr h21 2
  have xf3 := four_fr h21 3
  obtain ⟨y0, y1, y2, y3⟩ := four_of h41
  have yf0 := four_fr h41 0
  have yf1 := four_fr h41 1
  have yf2 := four_fr h41 2
  have yf3 := four_fr h41 3
  have HL2 := HL.out
  have e1 := HN.out
  have e2 := HM.out
  have e3 := HPi.out
  rw [HL2, e1, e2, e3] at HE
  simp only [HL2, e1, e2, e3]
  clear hb1 hn1 hA1 c24' HWA HW2 HW4 HWB h21 h41 HL2 e1 e2 e3
  go_wp2
  obtain ⟨H2, H4, HNf, HBf⟩ := HE.out
  with_reducible refine bodyPost_ret (results_split Try.results23 _ _ (w.heap.size + 1) (w.heap.size + 1 + 1) _ _ _ _ _ _ _ _ 26 26 rfl H2 rfl H4) rfl ?_
  exact ⟨_, _, _, rfl, HNf, bs_nil _, ⟨_, _, _, rfl, cs_nil _, ks_nil _, is_nil _⟩, HBf⟩
end Go.Proofs.Ytbkpgppaahpalaa
