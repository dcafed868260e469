/-
  The document's halves of a node.
-/
import Derived.Test.YtbkpgppaahpalaaRcm
import Derived.Deep.RegionHeld3
namespace Go.Proofs.Ytbkpgppaahpalaa
open Go.RowKit
set_option linter.unusedVariables false      -- a walk need not use every condition

theorem three_new (w : World) (o1 o2 o3 : Obj) : (((w.alloc o1).alloc o2).alloc o3).heap.size = w.heap.size + 3 ∧ (((w.alloc o1).alloc o2).alloc o3).heap[w.heap.size]? = some o1 ∧ (((w.alloc o1).alloc o2).alloc o3).heap[w.heap.size + 1]? = some o2 ∧ (((w.alloc o1).alloc o2).alloc o3).heap[w.heap.size + 1 + 1]? = some o3 := by
  have h1 := World.alloc_heap_new w o1
  have h2 := World.alloc_heap_new (w.alloc o1) o2
  have h3 := World.alloc_heap_new ((w.alloc o1).alloc o2) o3
  simp only [World.size_alloc] at h2 h3
  exact ⟨by simp, blk_on (bel1 _ _) (blk_on (bel1 _ _) h1), blk_on (bel1 _ _) h2, h3⟩
theorem blk_dr {w : World} {k : Nat} {o : Obj} (h : w.heap[k]? = some o) : w.drew.heap[k]? = some o := h
/-- Two nodes are laid into their places. -/
theorem hlv_end {w u : World} {A B : Nd} {K : List UInt8} {g g' : Nat} {l x y z l' x' y' z' vk : Value} (hu : Below w.heap.size w u) (hg : u.heap[g]? = some (.cells #[.bool false, .slice none 0 0, .slice none 0 0, .slice none 0 0] 26)) (hg' : u.heap[g']? = some (.cells #[.bool false, .slice none 0 0, .slice none 0 0, .slice none 0 0] 26)) (hl : w.heap.size ≤ g) (hl' : w.heap.size ≤ g') (hne : g ≠ g')
    (hA : ∀ u', Below w.heap.size w u' → NdS u' (.agg #[l, x, y, z]) A) (hB : ∀ u', Below w.heap.size w u' → NdS u' (.agg #[l', x', y', z']) B) {X : Prop} (hK : Bts u w.heap.size vk K ∨ X) :
    ((((((((u.setCell ⟨g, 0, none⟩ l).setCell ⟨g, 1, none⟩ x).setCell ⟨g, 2, none⟩ y).setCell ⟨g, 3, none⟩ z).setCell ⟨g', 0, none⟩ l').setCell ⟨g', 1, none⟩ x').setCell ⟨g', 2, none⟩ y').setCell ⟨g', 3, none⟩ z').heap[g]? = some (.cells #[l, x, y, z] 26) ∧ ((((((((u.setCell ⟨g, 0, none⟩ l).setCell ⟨g, 1, none⟩ x).setCell ⟨g, 2, none⟩ y).setCell ⟨g, 3, none⟩ z).setCell ⟨g', 0, none⟩ l').setCell ⟨g', 1, none⟩ x').setCell ⟨g', 2, none⟩ y').setCell ⟨g', 3, none⟩ z').heap[g']? = some (.cells #[l', x', y', z'] 26) ∧ NdS ((((((((u.setCell ⟨g, 0, none⟩ l).setCell ⟨g, 1, none⟩ x).setCell ⟨g, 2, none⟩ y).setCell ⟨g, 3, none⟩ z).setCell ⟨g', 0, none⟩ l').setCell ⟨g', 1, none⟩ x').setCell ⟨g', 2, none⟩ y').setCell ⟨g', 3, none⟩ z') (.agg #[l, x, y, z]) A ∧ (Bts ((((((((u.setCell ⟨g, 0, none⟩ l).setCell ⟨g, 1, none⟩ x).setCell ⟨g, 2, none⟩ y).setCell ⟨g, 3, none⟩ z).setCell ⟨g', 0, none⟩ l').setCell ⟨g', 1, none⟩ x').setCell ⟨g', 2, none⟩ y').setCell ⟨g', 3, none⟩ z') w.heap.size vk K ∨ X) ∧ NdS ((((((((u.setCell ⟨g, 0, none⟩ l).setCell ⟨g, 1, none⟩ x).setCell ⟨g, 2, none⟩ y).setCell ⟨g, 3, none⟩ z).setCell ⟨g', 0, none⟩ l').setCell ⟨g', 1, none⟩ x').setCell ⟨g', 2, none⟩ y').setCell ⟨g', 3, none⟩ z') (.agg #[l', x', y', z']) B ∧ Below w.heap.size w ((((((((u.setCell ⟨g, 0, none⟩ l).setCell ⟨g, 1, none⟩ x).setCell ⟨g, 2, none⟩ y).setCell ⟨g, 3, none⟩ z).setCell ⟨g', 0, none⟩ l').setCell ⟨g', 1, none⟩ x').setCell ⟨g', 2, none⟩ y').setCell ⟨g', 3, none⟩ z') := by
  have g1 := gr_four u g l x y z
  have g2 := gr_four ((((u.setCell ⟨g, 0, none⟩ l).setCell ⟨g, 1, none⟩ x).setCell ⟨g, 2, none⟩ y).setCell ⟨g, 3, none⟩ z) g' l' x' y' z'
  have b2 := blk_gr hg' g1 (Ne.symm hne)
  have hB2 := bel_put (bel_put hu g1 hl) g2 hl'
  refine ⟨blk_gr (blk_four hg _ _ _ _) g2 hne, blk_four b2 _ _ _ _, hA _ hB2, ?_, hB _ hB2, hB2⟩
  rcases hK with hK | hK
  · have h1 : Bts _ w.heap.size vk K := own_other hK g1 hg (by decide)
    have h2 : Bts _ w.heap.size vk K := own_other h1 g2 b2 (by decide)
    exact .inl h2
  · exact .inr hK
theorem NdS.parts {u : World} {l vc vk vi : Value} {n : Nd} (h : NdS u (.agg #[l, vc, vk, vi]) n) : Cs u vc n.cells ∧ Ks u vk n.keys ∧ Is u vi n.kids := by
  obtain ⟨vc', vk', vi', e, hC, hK, hI⟩ := h
  injection e with e
  obtain rfl : vc = vc' := congrArg (fun a : Array Value => a.getD 1 undef) e
  obtain rfl : vk = vk' := congrArg (fun a : Array Value => a.getD 2 undef) e
  obtain rfl : vi = vi' := congrArg (fun a : Array Value => a.getD 3 undef) e
  exact ⟨hC, hK, hI⟩
theorem fl_firstk {w : World} {g o cap s N k : Nat} {vs : List Value} (h : Fl w (.slice (some ⟨g, o, none⟩) N cap) s N vs) (hk : k ≤ N) : Fl w (.slice (some ⟨g, o, none⟩) k k) s k (vs.take (k * s)) := by
  obtain ⟨p', c', e, h1, h2, h3, h4, h5⟩ := fl_first h hk
  injection e with e1 e2 e3
  subst e1 e3
  obtain ⟨p9, c9, e9, i1, i2, -⟩ := h
  injection e9 with e91 e92 e93
  exact ⟨_, k, rfl, Nat.le_refl _, by omega, fun e => (by cases e), h4, h5⟩
theorem Cs.firstk {w : World} {g o cap k : Nat} {L : List C} (h : Cs w (.slice (some ⟨g, o, none⟩) L.length cap) L) (hk : k ≤ L.length) : Cs w (.slice (some ⟨g, o, none⟩) k k) (L.take k) := by
  obtain ⟨vs, hf, he⟩ := h
  refine ⟨vs.take (k * 4), ?_, he.take k⟩
  rw [List.length_take, Nat.min_eq_left hk]
  exact fl_firstk hf hk
theorem Ks.firstk {w : World} {g o cap k : Nat} {L : List (List UInt8)} (h : Ks w (.slice (some ⟨g, o, none⟩) L.length cap) L) (hk : k ≤ L.length) : Ks w (.slice (some ⟨g, o, none⟩) k k) (L.take k) := by
  obtain ⟨vs, hf, he⟩ := h
  refine ⟨vs.take (k * 1), ?_, he.take k⟩
  rw [List.length_take, Nat.min_eq_left hk]
  exact fl_firstk hf hk
theorem Is.firstk {w : World} {g o cap k : Nat} {L : List Int} (h : Is w (.slice (some ⟨g, o, none⟩) L.length cap) L) (hk : k ≤ L.length) : Is w (.slice (some ⟨g, o, none⟩) k k) (L.take k) := by
  obtain ⟨vs, hf, he⟩ := h
  refine ⟨vs.take (k * 1), ?_, he.take k⟩
  rw [List.length_take, Nat.min_eq_left hk]
  exact fl_firstk hf hk
set_option maxHeartbeats 8000000 in
set_option maxRecDepth 100000 in
theorem halves_leaf (w : World) (v : Value) (n : Nd) (k : Nat) (h : NdS w v n) (hf : Fit n) (hL : n.leaf = true) (hk : k < n.cells.length) :
    Calls Try.prog 55 #[v, .int .i64 k] w fun e w' => ∃ va vk vb, e = .returned (.tuple #[va, vk, vb]) ∧ (∀ u, NdS u v n → NdS u va ⟨true, n.cells.take k, [], []⟩ ∧ NdS u vb ⟨true, n.cells.drop k, [], []⟩) ∧ Bts w' w.heap.size vk (n.cells[k]).key ∧ Below w.heap.size w w' := by
  have HND := Lib.hid h
  obtain ⟨vc, vk, vi, rfl, hC, hK, hI⟩ := h
  obtain ⟨pk, ck, rfl, -, lk⟩ := hK.hdr
  obtain ⟨pi, ci, rfl, -, li⟩ := hI.hdr
  obtain ⟨g0, o0, cc, kk, xx, rfl, k0, -, -, -, hBk, -⟩ := hC.at hk
  have hcc : n.cells.length ≤ cc := by
    obtain ⟨p', c', e, h1, -⟩ := hC.hdr
    injection e with e1 e2 e3
    omega
  have fk := (hf.2.2.2.1 _ (List.getElem_mem hk)).1
  have HF : Hid (∀ u, NdS u (.agg #[.bool n.leaf, .slice (some ⟨g0, o0, none⟩) n.cells.length cc, .slice pk n.keys.length ck, .slice pi n.kids.length ci]) n → Cs u (.slice (some ⟨g0, o0, none⟩) k k) (n.cells.take k)) := fun u hu => hu.parts.1.firstk (Nat.le_of_lt hk)
  have HD : Hid (∀ u, NdS u (.agg #[.bool n.leaf, .slice (some ⟨g0, o0, none⟩) n.cells.length cc, .slice pk n.keys.length ck, .slice pi n.kids.length ci]) n → Cs u (.slice (some ⟨g0, o0 + k * 4, none⟩) (n.cells.length - k) (cc - k)) (n.cells.drop k)) := fun u hu => hu.parts.1.last (Nat.le_of_lt hk)
  have HBK := Lib.hid hBk
  have hBk0 := hBk
  obtain ⟨kp, kc, rfl, -, -⟩ := hBk0.slice
  clear hC hK hI hBk0 hBk
  rw [hL] at HF HD HND ⊢
  obtain ⟨key, hkey⟩ : ∃ k', (n.cells[k]).key = k' := ⟨_, rfl⟩
  rw [hkey] at HBK fk k0 ⊢
  obtain ⟨A, hA⟩ : ∃ a : Nd, (⟨true, n.cells.take k, [], []⟩ : Nd) = a := ⟨_, rfl⟩
  obtain ⟨B, hB⟩ : ∃ a : Nd, (⟨true, n.cells.drop k, [], []⟩ : Nd) = a := ⟨_, rfl⟩
  rw [hA, hB]
  obtain ⟨N, hN⟩ : ∃ k', n.cells.length = k' := ⟨_, rfl⟩
  rw [hN] at hk hcc HD HF HND ⊢
  have cA : Hid (∀ u, NdS u (.agg #[.bool true, .slice (some ⟨g0, o0, none⟩) N cc, .slice pk n.keys.length ck, .slice pi n.kids.length ci]) n → NdS u (.agg #[.bool true, .slice (some ⟨g0, o0, none⟩) k k, .slice none 0 0, .slice none 0 0]) A) := fun u hu => by rw [← hA]; exact ⟨_, _, _, rfl, HF.out u hu, ks_nil u, is_nil u⟩
  have cB : Hid (∀ u, NdS u (.agg #[.bool true, .slice (some ⟨g0, o0, none⟩) N cc, .slice pk n.keys.length ck, .slice pi n.kids.length ci]) n → NdS u (.agg #[.bool true, .slice (some ⟨g0, o0 + k * 4, none⟩) (N - k) (cc - k), .slice none 0 0, .slice none 0 0]) B) := fun u hu => by rw [← hB]; exact ⟨_, _, _, rfl, HD.out u hu, ks_nil u, is_nil u⟩
  have z2 : (k : Int) < (N : Int) := by omega
  have z3 : (0 : Int) ≤ (k : Int) := by omega
  have z4 : (k : Int) ≤ (cc : Int) := by omega
  have z5 : (N : Int) ≤ (cc : Int) := by omega
  have z6 : ¬ cc = k := by omega
  have z7 : (k : Int) ≤ (N : Int) := by omega
  obtain ⟨W, hW⟩ : ∃ W, W = ((w.alloc (Obj.cells #[.bool true, .slice (some ⟨g0, o0, none⟩) N cc, .slice pk n.keys.length ck, .slice pi n.kids.length ci] 26)).alloc (Obj.cells #[.bool false, .slice none 0 0, .slice none 0 0, .slice none 0 0] 26)).alloc (Obj.cells #[.bool false, .slice none 0 0, .slice none 0 0, .slice none 0 0] 26) := ⟨_, rfl⟩
  obtain ⟨hWs, hWA, hW4, hW6⟩ : W.heap.size = w.heap.size + 3 ∧ W.heap[w.heap.size]? = some (Obj.cells #[.bool true, .slice (some ⟨g0, o0, none⟩) N cc, .slice pk n.keys.length ck, .slice pi n.kids.length ci] 26) ∧ W.heap[w.heap.size + 1]? = some (Obj.cells #[.bool false, .slice none 0 0, .slice none 0 0, .slice none 0 0] 26) ∧ W.heap[w.heap.size + 1 + 1]? = some (Obj.cells #[.bool false, .slice none 0 0, .slice none 0 0, .slice none 0 0] 26) := by rw [hW]; exact three_new w _ _ _
  have hWB : Below w.heap.size w W := by rw [hW]; exact bel_then (bel_then (bel1 _ _) (bel1 _ _)) (bel1 _ _)
  have bd : Below W.heap.size W W.drew := (Below.refl _ W).drew
  obtain ⟨k1, l1, v1, p1, b1, o1⟩ := key_steps W.drew _ key (HBK.out.on (bel_then hWB bd)) (by omega)
  have bW1 : Below W.heap.size W v1 := bel_then bd b1
  have HP1 := Lib.hid p1
  have hK1 : Hid (Bts v1 w.heap.size (.slice k1 key.length l1) key) := o1.mono (by have := hWB.size; exact this)
  have HS : Hid (∀ u, Below W.heap.size W u → (u.cell? ⟨w.heap.size, 1, none⟩ = some (.slice (some ⟨g0, o0, none⟩) N cc) ∧ u.cell? ⟨g0, o0 + k * 4, none⟩ = some (.slice kp key.length kc))) := fun u hu => ⟨(four_of (blk_on hu hWA)).2.1, cell_past hu (cell_past hWB k0)⟩
  have HS4 : Hid (∀ (u : World) (a b c d : Value), Below W.heap.size W u → (((((u.setCell ⟨w.heap.size + 1, 0, none⟩ a).setCell ⟨w.heap.size + 1, 1, none⟩ b).setCell ⟨w.heap.size + 1, 2, none⟩ c).setCell ⟨w.heap.size + 1, 3, none⟩ d).cell? ⟨w.heap.size, 1, none⟩ = some (.slice (some ⟨g0, o0, none⟩) N cc) ∧ ((((u.setCell ⟨w.heap.size + 1, 0, none⟩ a).setCell ⟨w.heap.size + 1, 1, none⟩ b).setCell ⟨w.heap.size + 1, 2, none⟩ c).setCell ⟨w.heap.size + 1, 3, none⟩ d).cell? ⟨g0, o0 + k * 4, none⟩ = some (.slice kp key.length kc))) := fun u a b c d hu => ⟨(four_of (blk_gr (blk_on hu hWA) (gr_four u (w.heap.size + 1) a b c d) (by omega))).2.1, (cell_past (bel_put (bel_then hWB hu) (gr_four u (w.heap.size + 1) a b c d) (by omega)) k0)⟩
  have HS6 : Hid (∀ (u : World) (a b c d : Value), Below W.heap.size W u → (((((u.setCell ⟨w.heap.size + 1 + 1, 0, none⟩ a).setCell ⟨w.heap.size + 1 + 1, 1, none⟩ b).setCell ⟨w.heap.size + 1 + 1, 2, none⟩ c).setCell ⟨w.heap.size + 1 + 1, 3, none⟩ d).cell? ⟨w.heap.size, 1, none⟩ = some (.slice (some ⟨g0, o0, none⟩) N cc) ∧ ((((u.setCell ⟨w.heap.size + 1 + 1, 0, none⟩ a).setCell ⟨w.heap.size + 1 + 1, 1, none⟩ b).setCell ⟨w.heap.size + 1 + 1, 2, none⟩ c).setCell ⟨w.heap.size + 1 + 1, 3, none⟩ d).cell? ⟨g0, o0 + k * 4, none⟩ = some (.slice kp key.length kc))) := fun u a b c d hu => ⟨(four_of (blk_gr (blk_on hu hWA) (gr_four u (w.heap.size + 1 + 1) a b c d) (by omega))).2.1, (cell_past (bel_put (bel_then hWB hu) (gr_four u (w.heap.size + 1 + 1) a b c d) (by omega)) k0)⟩
  have HS46 : Hid (∀ (u : World) (a b c d a' b' c' d' : Value), Below W.heap.size W u → (((((((((u.setCell ⟨w.heap.size + 1, 0, none⟩ a).setCell ⟨w.heap.size + 1, 1, none⟩ b).setCell ⟨w.heap.size + 1, 2, none⟩ c).setCell ⟨w.heap.size + 1, 3, none⟩ d).setCell ⟨w.heap.size + 1 + 1, 0, none⟩ a').setCell ⟨w.heap.size + 1 + 1, 1, none⟩ b').setCell ⟨w.heap.size + 1 + 1, 2, none⟩ c').setCell ⟨w.heap.size + 1 + 1, 3, none⟩ d').cell? ⟨w.heap.size, 1, none⟩ = some (.slice (some ⟨g0, o0, none⟩) N cc) ∧ ((((((((u.setCell ⟨w.heap.size + 1, 0, none⟩ a).setCell ⟨w.heap.size + 1, 1, none⟩ b).setCell ⟨w.heap.size + 1, 2, none⟩ c).setCell ⟨w.heap.size + 1, 3, none⟩ d).setCell ⟨w.heap.size + 1 + 1, 0, none⟩ a').setCell ⟨w.heap.size + 1 + 1, 1, none⟩ b').setCell ⟨w.heap.size + 1 + 1, 2, none⟩ c').setCell ⟨w.heap.size + 1 + 1, 3, none⟩ d').cell? ⟨g0, o0 + k * 4, none⟩ = some (.slice kp key.length kc))) := fun u a b c d a' b' c' d' hu => ⟨(four_of (blk_gr (blk_gr (blk_on hu hWA) (gr_four u (w.heap.size + 1) a b c d) (by omega)) (gr_four _ (w.heap.size + 1 + 1) a' b' c' d') (by omega))).2.1, (cell_past (bel_put (bel_put (bel_then hWB hu) (gr_four u (w.heap.size + 1) a b c d) (by omega)) (gr_four _ (w.heap.size + 1 + 1) a' b' c' d') (by omega)) k0)⟩
  have HS64 : Hid (∀ (u : World) (a b c d a' b' c' d' : Value), Below W.heap.size W u → (((((((((u.setCell ⟨w.heap.size + 1 + 1, 0, none⟩ a).setCell ⟨w.heap.size + 1 + 1, 1, none⟩ b).setCell ⟨w.heap.size + 1 + 1, 2, none⟩ c).setCell ⟨w.heap.size + 1 + 1, 3, none⟩ d).setCell ⟨w.heap.size + 1, 0, none⟩ a').setCell ⟨w.heap.size + 1, 1, none⟩ b').setCell ⟨w.heap.size + 1, 2, none⟩ c').setCell ⟨w.heap.size + 1, 3, none⟩ d').cell? ⟨w.heap.size, 1, none⟩ = some (.slice (some ⟨g0, o0, none⟩) N cc) ∧ ((((((((u.setCell ⟨w.heap.size + 1 + 1, 0, none⟩ a).setCell ⟨w.heap.size + 1 + 1, 1, none⟩ b).setCell ⟨w.heap.size + 1 + 1, 2, none⟩ c).setCell ⟨w.heap.size + 1 + 1, 3, none⟩ d).setCell ⟨w.heap.size + 1, 0, none⟩ a').setCell ⟨w.heap.size + 1, 1, none⟩ b').setCell ⟨w.heap.size + 1, 2, none⟩ c').setCell ⟨w.heap.size + 1, 3, none⟩ d').cell? ⟨g0, o0 + k * 4, none⟩ = some (.slice kp key.length kc))) := fun u a b c d a' b' c' d' hu => ⟨(four_of (blk_gr (blk_gr (blk_on hu hWA) (gr_four u (w.heap.size + 1 + 1) a b c d) (by omega)) (gr_four _ (w.heap.size + 1) a' b' c' d') (by omega))).2.1, (cell_past (bel_put (bel_put (bel_then hWB hu) (gr_four u (w.heap.size + 1 + 1) a b c d) (by omega)) (gr_four _ (w.heap.size + 1) a' b' c' d') (by omega)) k0)⟩
  have h41 : Hid (v1.heap[w.heap.size + 1]? = some (Obj.cells #[.bool false, .slice none 0 0, .slice none 0 0, .slice none 0 0] 26)) := blk_on bW1 hW4
  have h61 : Hid (v1.heap[w.heap.size + 1 + 1]? = some (Obj.cells #[.bool false, .slice none 0 0, .slice none 0 0, .slice none 0 0] 26)) := blk_on bW1 hW6
  obtain ⟨y0, y1, y2, y3⟩ := four_of h41.out
  obtain ⟨x0, x1, x2, x3⟩ := four_of h61.out
  have yf0 := four_fr h41.out 0
  have yf1 := four_fr h41.out 1
  have yf2 := four_fr h41.out 2
  have yf3 := four_fr h41.out 3
  have xf0 := four_fr h61.out 0
  have xf1 := four_fr h61.out 1
  have xf2 := four_fr h61.out 2
  have xf3 := four_fr h61.out 3
  obtain ⟨a0, -, -, -⟩ := four_of hWA
  have HW := Lib.hid hW
  have HB1 := Lib.hid (bel_then hWB bW1)
  clear HF HD hA hB hkey hN hf hcc hL hWs hWA hW4 hW6 hWB p1 b1 o1 k0
  go_enter Try.func55, Try.ntmps55
  go_wp2
  rw [← HW.out]
  clear hW
  go_region_held3 (fun u => u.cell? ⟨w.heap.size, 1, none⟩ = some (.slice (some ⟨g0, o0, none⟩) N cc) ∧ u.cell? ⟨g0, o0 + k * 4, none⟩ = some (.slice kp key.length kc)) (first | with_reducible exact HS.out _ (by with_reducible assumption) | with_reducible exact HS4.out _ _ _ _ _ (by with_reducible assumption) | with_reducible exact HS6.out _ _ _ _ _ (by with_reducible assumption) | with_reducible exact HS46.out _ _ _ _ _ _ _ _ _ (by with_reducible assumption) | with_reducible exact HS64.out _ _ _ _ _ _ _ _ _ (by with_reducible assumption))
    (refine step_run (by rfl) _ _ 27 (by rfl) _ _ _ _ (by rfl) (by rfl) HP1.out ?_)
  all_goals
    go_wp2
    first
      | (obtain ⟨e1, e2, eA, eK, eB, eW⟩ := hlv_end (K := key) (g := w.heap.size + 1) (g' := w.heap.size + 1 + 1) HB1.out h41.out h61.out (by omega) (by omega) (by omega) (fun u hu => cA.out u (HND.out.on hu)) (fun u hu => cB.out u (HND.out.on hu)) (X := False) (.inl hK1.out)
         with_reducible refine bodyPost_ret (results_split Try.results55 _ _ (w.heap.size + 1) (w.heap.size + 1 + 1) _ _ _ _ _ _ _ _ 26 26 rfl e1 rfl e2) rfl ?_
         exact ⟨_, _, _, rfl, fun u hu => ⟨cA.out u hu, cB.out u hu⟩, eK.resolve_right (fun h => h.elim), eW⟩)
      | (obtain ⟨e1, e2, eA, eK, eB, eW⟩ := hlv_end (K := key) (g := w.heap.size + 1 + 1) (g' := w.heap.size + 1) HB1.out h61.out h41.out (by omega) (by omega) (by omega) (fun u hu => cB.out u (HND.out.on hu)) (fun u hu => cA.out u (HND.out.on hu)) (X := False) (.inl hK1.out)
         with_reducible refine bodyPost_ret (results_split Try.results55 _ _ (w.heap.size + 1) (w.heap.size + 1 + 1) _ _ _ _ _ _ _ _ 26 26 rfl e2 rfl e1) rfl ?_
         exact ⟨_, _, _, rfl, fun u hu => ⟨cA.out u hu, cB.out u hu⟩, eK.resolve_right (fun h => h.elim), eW⟩)
end Go.Proofs.Ytbkpgppaahpalaa
