/-
  Insert of package node.
-/
import Derived.Test.YtbkpgppaahpalaaCln
import Derived.Test.YtbkpgppaahpalaaFnd
import Derived.Test.YtbkpgppaahpalaaWth
import Derived.Test.YtbkpgppaahpalaaPar
namespace Go.Proofs.Ytbkpgppaahpalaa
open Go.RowKit
set_option linter.unusedVariables false      -- a walk need not use every condition

theorem fndB_lt (key : List UInt8) : ∀ L : List C, fndB key L = true → fnd key L < L.length
  | [], h => by cases h
  | c :: r, h => by
    unfold fndB at h
    unfold fnd
    split at h
    · rename_i h1
      rw [if_pos h1]
      simp
    · rename_i h1
      rw [if_neg h1]
      have := fndB_lt key r h
      simp only [List.length_cons]
      omega
def insC (c : C) (L : List C) : List C := if fndB c.key L then L.take (fnd c.key L) ++ c :: L.drop (fnd c.key L + 1) else L.take (fnd c.key L) ++ c :: L.drop (fnd c.key L)
def insN (n : Nd) (c : C) : Nd := ⟨n.leaf, insC c n.cells, n.keys, n.kids⟩
theorem put_again (L : List C) (c : C) (k : Nat) (hk : k ≤ L.length) : (L.take k ++ L.drop (k + 1)).take k ++ c :: (L.take k ++ L.drop (k + 1)).drop k = L.take k ++ c :: L.drop (k + 1) := by
  have hl : (L.take k).length = k := by rw [List.length_take]; omega
  rw [List.take_append_of_le_length (by omega), List.take_of_length_le (by omega), List.drop_append_of_le_length (by omega), List.drop_of_length_le (by omega), List.nil_append]
theorem blk_one1 {w : World} {g : Nat} {t : TypeId} {l x y z : Value} (h : w.heap[g]? = some (.cells #[l, x, y, z] t)) (a : Value) : (w.setCell ⟨g, 1, none⟩ a).heap[g]? = some (.cells #[l, a, y, z] t) := by
  simp [World.setCell, Array.getElem?_modify, h]
set_option maxHeartbeats 8000000 in
set_option maxRecDepth 100000 in
theorem insert_new (w : World) (v x : Value) (n : Nd) (c : C) (h : NdS w v n) (hx : CeS w x c) (hf : Fit (insN n c)) (hb : (n.cells.length + 1) * 64 ≤ 140737488355328) (hn : fndB c.key n.cells = false) :
    Calls Try.prog 27 #[v, x] w fun e w' => ∃ v', e = .returned v' ∧ NdO w.heap.size w' v' (insN n c) ∧ Below w.heap.size w w' := by
  have HX := Lib.hid hx
  have HN := Lib.hid h
  have HF := Lib.hid hf
  have hle := fnd_le c.key n.cells
  have hins : insC c n.cells = n.cells.take (fnd c.key n.cells) ++ c :: n.cells.drop (fnd c.key n.cells) := by unfold insC; rw [if_neg (by rw [hn]; decide)]
  obtain ⟨vc, vk, vi, rfl, hC, hK, hI⟩ := h
  have HK := Lib.hid hK
  have HI := Lib.hid hI
  obtain ⟨xs, hFl, hEn⟩ := hC
  have HFl := Lib.hid hFl
  have HEn := Lib.hid hEn
  obtain ⟨pc, cc, rfl, -⟩ := hFl
  obtain ⟨pk, ck, rfl, -, -⟩ := hK.hdr
  obtain ⟨pi, ci, rfl, -, -⟩ := hI.hdr
  obtain ⟨ka, xa, rfl, hBk, hBx, hIo, hIl⟩ := hx
  have HBk := Lib.hid hBk
  obtain ⟨kp, kc, rfl, -, -⟩ := hBk.slice
  obtain ⟨xp, xc, rfl, -, -⟩ := hBx.slice
  have HIns := Lib.hid hins
  clear hK hI hBk hBx hIo hIl hEn hf hins
  obtain ⟨W, hW⟩ : ∃ W, W = ((w.alloc (Obj.cells #[.bool n.leaf, .slice pc n.cells.length cc, .slice pk n.keys.length ck, .slice pi n.kids.length ci] 26)).alloc (Obj.cells #[.slice kp c.key.length kc, .slice xp c.val.length xc, .int .i64 c.over, .int .i64 c.len] 44)).alloc (Obj.cells #[.bool false, .slice none 0 0, .slice none 0 0, .slice none 0 0] 26) := ⟨_, rfl⟩
  have hWs : W.heap.size = w.heap.size + 1 + 1 + 1 := by rw [hW]; simp
  have hWA : W.heap[w.heap.size]? = some (Obj.cells #[.bool n.leaf, .slice pc n.cells.length cc, .slice pk n.keys.length ck, .slice pi n.kids.length ci] 26) := by rw [hW]; exact blk_on (bel1 _ _) (blk_on (bel1 _ _) (World.alloc_heap_new w _))
  have hWC : W.heap[w.heap.size + 1]? = some (Obj.cells #[.slice kp c.key.length kc, .slice xp c.val.length xc, .int .i64 c.over, .int .i64 c.len] 44) := by
    rw [hW]
    have := World.alloc_heap_new (w.alloc (Obj.cells #[.bool n.leaf, .slice pc n.cells.length cc, .slice pk n.keys.length ck, .slice pi n.kids.length ci] 26)) (Obj.cells #[.slice kp c.key.length kc, .slice xp c.val.length xc, .int .i64 c.over, .int .i64 c.len] 44)
    rw [World.size_alloc] at this
    exact blk_on (bel1 _ _) this
  have hWZ : W.heap[w.heap.size + 1 + 1]? = some (Obj.cells #[.bool false, .slice none 0 0, .slice none 0 0, .slice none 0 0] 26) := by
    rw [hW]
    have := World.alloc_heap_new ((w.alloc (Obj.cells #[.bool n.leaf, .slice pc n.cells.length cc, .slice pk n.keys.length ck, .slice pi n.kids.length ci] 26)).alloc (Obj.cells #[.slice kp c.key.length kc, .slice xp c.val.length xc, .int .i64 c.over, .int .i64 c.len] 44)) (Obj.cells #[.bool false, .slice none 0 0, .slice none 0 0, .slice none 0 0] 26)
    rwa [World.size_alloc, World.size_alloc] at this
  have hWB : Below w.heap.size w W := by rw [hW]; exact bel_then (bel_then (bel1 _ _) (bel1 _ _)) (bel1 _ _)
  have c34 := find34 W _ _ n c.key (HN.out.on hWB) (HBk.out.on hWB)
  rw [hn] at c34
  have c64 := fun (u : World) (hu : Below w.heap.size w u) => with64 u w _ _ n.cells xs c (fnd c.key n.cells) (HFl.out.on hu) HEn.out HX.out hle hb
  have HW := Lib.hid hW
  have HA := Lib.hid hWA
  have HCb := Lib.hid hWC
  have HZb := Lib.hid hWZ
  have HWB := Lib.hid hWB
  have HWs := Lib.hid hWs
  have c26 := fun (u : World) (y : Value) (hy : NdS u y (insN n c)) => clone26 u y (insN n c) hy HF.out
  generalize fnd c.key n.cells = k at *
  generalize n.keys.length = M at *
  generalize n.kids.length = P at *
  generalize hK1 : c.key.length = K1 at *
  generalize hK2 : c.val.length = K2 at *
  generalize hN9 : n.cells.length = N at *
  have HN9 := Lib.hid hN9
  clear hWs hWA hWC hWZ hWB hn hK1 hK2 hN9
  go_enter Try.func27, Try.ntmps27
  go_wp2_with (fail)
  rw [← HW.out]
  clear hW
  refine c34.mono ?_
  rintro e w4 ⟨rfl, hB4⟩
  have HB4 := Lib.hid (bel_then HWB.out hB4)
  have HA4 := Lib.hid (blk_on hB4 HA.out)
  have HC4 := Lib.hid (blk_on hB4 HCb.out)
  have HZ4 := Lib.hid (blk_on hB4 HZb.out)
  have hz4 : w.heap.size + 1 + 1 + 1 ≤ w4.heap.size := by have := hB4.size; have := HWs.out; omega
  obtain ⟨a0, a1, a2, a3⟩ := four_of HA4.out
  have af1 := four_fr HA4.out 1
  obtain ⟨b0, b1, b2, b3⟩ := four_of HC4.out
  clear hB4 c34
  have NDS : Hid (∀ (u : World) (p6 : Option Addr) (c6 : Nat) (zs : List Value), u.ownsRow w4.heap.size 44 4 (.slice p6 (N + 1) c6) (N + 1) zs → Enc cellV 4 w (n.cells.take k ++ c :: n.cells.drop k) zs → Below w.heap.size w u → u.heap[w.heap.size]? = some (Obj.cells #[.bool n.leaf, .slice pc N cc, .slice pk M ck, .slice pi P ci] 26) →
      NdS (u.setCell ⟨w.heap.size, 1, none⟩ (.slice p6 (N + 1) c6)) (.agg #[.bool n.leaf, .slice p6 (N + 1) c6, .slice pk M ck, .slice pi P ci]) (insN n c)) := by
    intro u p6 c6 zs ho he hB hA
    have g := gr_set u w.heap.size 1 (.slice p6 (N + 1) c6)
    have hB' := bel_put hB g (Nat.le_refl _)
    have hl : (insN n c).cells.length = N + 1 := by
      show (insC c n.cells).length = N + 1
      rw [HIns.out, List.length_append, List.length_take, List.length_cons, List.length_drop, HN9.out]
      have := hle
      omega
    refine ⟨_, _, _, rfl, ⟨zs, ?_, ?_⟩, HK.out.on hB', HI.out.on hB'⟩
    · rw [hl]
      exact fl_own (own_other ho g hA (by decide))
    · show Enc cellV 4 _ (insC c n.cells) zs
      rw [HIns.out]
      exact he.on fun a x hx => hx.on hB'
  have HLE := Lib.hid hle
  clear hle
  go_wp2_with (first
    | (go_at_call 64; refine (c64 w4 HB4.out).mono ?_; rintro e w6 ⟨v6, zs, rfl, ho6, he6, hB6⟩
       have HO6' := Lib.hid ho6; have HE6 := Lib.hid he6; have HB6 := Lib.hid (bel_then HB4.out hB6)
       have HA6 := Lib.hid (blk_on hB6 HA4.out); have HZ6 := Lib.hid (blk_on hB6 HZ4.out)
       obtain ⟨a0, a1, a2, a3⟩ := four_of HA6.out
       have af1 := four_fr HA6.out 1
       obtain ⟨p6, c6, rfl, -⟩ := own_hdr ho6
       have HO6 := Lib.hid ho6
       clear ho6 he6 hB6 HO6')
    | (go_at_call 26; refine (c26 _ _ (NDS.out _ _ _ _ HO6.out HE6.out HB6.out HA6.out)).mono ?_; rintro e w7 ⟨v7, rfl, hn7, hB7⟩
       have HN7 := Lib.hid hn7
       obtain ⟨r1, f1, r2, f2, r3, f3, rfl⟩ := hn7.hdr
       have HB7 := Lib.hid hB7
       have HZ7 := Lib.hid (blk_on hB7 (blk_gr HZ6.out (gr_set w6 w.heap.size 1 (.slice p6 (N + 1) c6)) (by omega)))
       obtain ⟨x0, x1, x2, x3⟩ := four_of HZ7.out
       have xf0 := four_fr HZ7.out 0
       have xf1 := four_fr HZ7.out 1
       have xf2 := four_fr HZ7.out 2
       have xf3 := four_fr HZ7.out 3
       clear hn7 hB7))
  have g := gr_four w7 (w.heap.size + 1 + 1) (.bool (insN n c).leaf) (.slice r1 (insN n c).cells.length f1) (.slice r2 (insN n c).keys.length f2) (.slice r3 (insN n c).kids.length f3)
  have g6 := gr_set w6 w.heap.size 1 (.slice p6 (N + 1) c6)
  refine bodyPost_ret (results_c26 Try.results27 _ _ (w.heap.size + 1 + 1) _ _ _ _ 26 rfl (blk_four HZ7.out _ _ _ _)) rfl ?_
  have hz6 := HB6.out.size
  have hB67 : Below w.heap.size w w7 := bel_then (bel_put HB6.out g6 (Nat.le_refl _)) HB7.out
  exact ⟨_, rfl, (HN7.out.gr g HZ7.out (by decide) (by decide) (by decide) (by decide)).low (by have := g6.size; omega), bel_put hB67 g (by omega)⟩
set_option maxHeartbeats 8000000 in
set_option maxRecDepth 100000 in
theorem insert_old (w : World) (v x : Value) (n : Nd) (c : C) (h : NdS w v n) (hx : CeS w x c) (hf : Fit (insN n c)) (hb : (n.cells.length + 1) * 64 ≤ 140737488355328) (hn : fndB c.key n.cells = true) :
    Calls Try.prog 27 #[v, x] w fun e w' => ∃ v', e = .returned v' ∧ NdO w.heap.size w' v' (insN n c) ∧ Below w.heap.size w w' := by
  have HX := Lib.hid hx
  have HN := Lib.hid h
  have HF := Lib.hid hf
  have hle := fnd_le c.key n.cells
  have hlt := fndB_lt c.key n.cells hn
  have hins : insC c n.cells = n.cells.take (fnd c.key n.cells) ++ c :: n.cells.drop (fnd c.key n.cells + 1) := by unfold insC; rw [if_pos hn]
  obtain ⟨vc, vk, vi, rfl, hC, hK, hI⟩ := h
  have HK := Lib.hid hK
  have HI := Lib.hid hI
  obtain ⟨xs, hFl, hEn⟩ := hC
  have HFl := Lib.hid hFl
  have HEn := Lib.hid hEn
  obtain ⟨pc, cc, rfl, -⟩ := hFl
  obtain ⟨pk, ck, rfl, -, -⟩ := hK.hdr
  obtain ⟨pi, ci, rfl, -, -⟩ := hI.hdr
  obtain ⟨ka, xa, rfl, hBk, hBx, hIo, hIl⟩ := hx
  have HBk := Lib.hid hBk
  obtain ⟨kp, kc, rfl, -, -⟩ := hBk.slice
  obtain ⟨xp, xc, rfl, -, -⟩ := hBx.slice
  have HIns := Lib.hid hins
  clear hK hI hBk hBx hIo hIl hEn hf hins
  obtain ⟨W, hW⟩ : ∃ W, W = ((w.alloc (Obj.cells #[.bool n.leaf, .slice pc n.cells.length cc, .slice pk n.keys.length ck, .slice pi n.kids.length ci] 26)).alloc (Obj.cells #[.slice kp c.key.length kc, .slice xp c.val.length xc, .int .i64 c.over, .int .i64 c.len] 44)).alloc (Obj.cells #[.bool false, .slice none 0 0, .slice none 0 0, .slice none 0 0] 26) := ⟨_, rfl⟩
  have hWs : W.heap.size = w.heap.size + 1 + 1 + 1 := by rw [hW]; simp
  have hWA : W.heap[w.heap.size]? = some (Obj.cells #[.bool n.leaf, .slice pc n.cells.length cc, .slice pk n.keys.length ck, .slice pi n.kids.length ci] 26) := by rw [hW]; exact blk_on (bel1 _ _) (blk_on (bel1 _ _) (World.alloc_heap_new w _))
  have hWC : W.heap[w.heap.size + 1]? = some (Obj.cells #[.slice kp c.key.length kc, .slice xp c.val.length xc, .int .i64 c.over, .int .i64 c.len] 44) := by
    rw [hW]
    have := World.alloc_heap_new (w.alloc (Obj.cells #[.bool n.leaf, .slice pc n.cells.length cc, .slice pk n.keys.length ck, .slice pi n.kids.length ci] 26)) (Obj.cells #[.slice kp c.key.length kc, .slice xp c.val.length xc, .int .i64 c.over, .int .i64 c.len] 44)
    rw [World.size_alloc] at this
    exact blk_on (bel1 _ _) this
  have hWZ : W.heap[w.heap.size + 1 + 1]? = some (Obj.cells #[.bool false, .slice none 0 0, .slice none 0 0, .slice none 0 0] 26) := by
    rw [hW]
    have := World.alloc_heap_new ((w.alloc (Obj.cells #[.bool n.leaf, .slice pc n.cells.length cc, .slice pk n.keys.length ck, .slice pi n.kids.length ci] 26)).alloc (Obj.cells #[.slice kp c.key.length kc, .slice xp c.val.length xc, .int .i64 c.over, .int .i64 c.len] 44)) (Obj.cells #[.bool false, .slice none 0 0, .slice none 0 0, .slice none 0 0] 26)
    rwa [World.size_alloc, World.size_alloc] at this
  have hWB : Below w.heap.size w W := by rw [hW]; exact bel_then (bel_then (bel1 _ _) (bel1 _ _)) (bel1 _ _)
  have c34 := find34 W _ _ n c.key (HN.out.on hWB) (HBk.out.on hWB)
  rw [hn] at c34
  have c63 := fun (u : World) (hu : Below w.heap.size w u) => without63 u w _ n.cells xs (fnd c.key n.cells) (HFl.out.on hu) HEn.out hlt (by omega)
  have hL1 : (n.cells.take (fnd c.key n.cells) ++ n.cells.drop (fnd c.key n.cells + 1)).length = n.cells.length - 1 := by rw [List.length_append, List.length_take, List.length_drop]; omega
  have c64 := fun (u : World) (v5 : Value) (ys : List Value) (hu : Fl u v5 4 (n.cells.take (fnd c.key n.cells) ++ n.cells.drop (fnd c.key n.cells + 1)).length ys) (he : Enc cellV 4 w (n.cells.take (fnd c.key n.cells) ++ n.cells.drop (fnd c.key n.cells + 1)) ys) => with64 u w v5 _ _ ys c (fnd c.key n.cells) hu he HX.out (by rw [hL1]; omega) (by rw [hL1]; omega)
  rw [put_again _ _ _ hle, hL1] at c64
  have HW := Lib.hid hW
  have HA := Lib.hid hWA
  have HCb := Lib.hid hWC
  have HZb := Lib.hid hWZ
  have HWB := Lib.hid hWB
  have HWs := Lib.hid hWs
  have c26 := fun (u : World) (y : Value) (hy : NdS u y (insN n c)) => clone26 u y (insN n c) hy HF.out
  generalize fnd c.key n.cells = k at *
  generalize n.keys.length = M at *
  generalize n.kids.length = P at *
  generalize hK1 : c.key.length = K1 at *
  generalize hK2 : c.val.length = K2 at *
  generalize hN9 : n.cells.length = N at *
  have HN9 := Lib.hid hN9
  obtain ⟨N', hN'⟩ : ∃ N', N = N' + 1 := ⟨N - 1, by omega⟩
  have HNN := Lib.hid hN'
  have eN : N - 1 = N' := by omega
  rw [eN] at c63 c64
  clear hN' eN hL1
  clear hWs hWA hWC hWZ hWB hn hK1 hK2 hN9
  go_enter Try.func27, Try.ntmps27
  go_wp2_with (fail)
  rw [← HW.out]
  clear hW
  refine c34.mono ?_
  rintro e w4 ⟨rfl, hB4⟩
  have HB4 := Lib.hid (bel_then HWB.out hB4)
  have HA4 := Lib.hid (blk_on hB4 HA.out)
  have HC4 := Lib.hid (blk_on hB4 HCb.out)
  have HZ4 := Lib.hid (blk_on hB4 HZb.out)
  have hz4 : w.heap.size + 1 + 1 + 1 ≤ w4.heap.size := by have := hB4.size; have := HWs.out; omega
  obtain ⟨a0, a1, a2, a3⟩ := four_of HA4.out
  have af1 := four_fr HA4.out 1
  obtain ⟨b0, b1, b2, b3⟩ := four_of HC4.out
  clear hB4 c34
  have NDS : Hid (∀ (u : World) (p6 : Option Addr) (c6 : Nat) (zs : List Value), u.ownsRow w4.heap.size 44 4 (.slice p6 (N' + 1) c6) (N' + 1) zs → Enc cellV 4 w (n.cells.take k ++ c :: n.cells.drop (k + 1)) zs → Below w.heap.size w u → (∃ y, u.heap[w.heap.size]? = some (Obj.cells #[.bool n.leaf, y, .slice pk M ck, .slice pi P ci] 26)) →
      NdS (u.setCell ⟨w.heap.size, 1, none⟩ (.slice p6 (N' + 1) c6)) (.agg #[.bool n.leaf, .slice p6 (N' + 1) c6, .slice pk M ck, .slice pi P ci]) (insN n c)) := by
    rintro u p6 c6 zs ho he hB ⟨y, hA⟩
    have g := gr_set u w.heap.size 1 (.slice p6 (N' + 1) c6)
    have hB' := bel_put hB g (Nat.le_refl _)
    have hl : (insN n c).cells.length = N' + 1 := by
      show (insC c n.cells).length = N' + 1
      rw [HIns.out, List.length_append, List.length_take, List.length_cons, List.length_drop, HN9.out]
      have := hle
      have := hlt
      have := HNN.out
      omega
    refine ⟨_, _, _, rfl, ⟨zs, ?_, ?_⟩, HK.out.on hB', HI.out.on hB'⟩
    · rw [hl]
      exact fl_own (own_other ho g hA (by decide))
    · show Enc cellV 4 _ (insC c n.cells) zs
      rw [HIns.out]
      exact he.on fun a x hx => hx.on hB'
  have ROW : Hid (∀ (u : World) (v5 : Value) (ys : List Value), ((∀ q, Fl q (.slice pc N cc) 4 N xs → Fl q v5 4 N' ys) ∨ u.ownsRow w4.heap.size 44 4 v5 N' ys) → Below w.heap.size w u → u.heap[w.heap.size]? = some (Obj.cells #[.bool n.leaf, .slice pc N cc, .slice pk M ck, .slice pi P ci] 26) →
      ∃ p5 c5, v5 = .slice p5 N' c5 ∧ Hid (Fl (u.setCell ⟨w.heap.size, 1, none⟩ v5) v5 4 N' ys)) := by
    intro u v5 ys hor hB hA
    have g := gr_set u w.heap.size 1 v5
    rcases hor with h | h
    · have hw := h w HFl.out
      have hw2 := hw.on (bel_put hB g (Nat.le_refl _))
      obtain ⟨p5, c5, e, -⟩ := hw
      exact ⟨p5, c5, e, hw2⟩
    · obtain ⟨p5, c5, e, -⟩ := own_hdr h
      exact ⟨p5, c5, e, fl_own (own_other h g hA (by decide))⟩
  have HLE := Lib.hid hle
  clear hle hlt
  go_wp2_with (first
    | (go_at_call 63; refine (c63 w4 HB4.out).mono ?_; rintro e w5 ⟨v5, ys, rfl, hor, he5, hB5⟩
       have HE5 := Lib.hid he5; have HBB := Lib.hid (bel_then HB4.out hB5)
       have HB5' := Lib.hid hB5
       have HA5 := Lib.hid (blk_on hB5 HA4.out); have HZ5 := Lib.hid (blk_on hB5 HZ4.out); have HC5 := Lib.hid (blk_on hB5 HC4.out)
       obtain ⟨p5, c5, HF5⟩ := ROW.out w5 v5 ys hor HBB.out HA5.out
       obtain ⟨rfl, HF5⟩ := HF5
       obtain ⟨a0, a1, a2, a3⟩ := four_of HA5.out
       have af1 := four_fr HA5.out 1
       obtain ⟨b0, b1, b2, b3⟩ := four_of HC5.out
       have hneC : ¬ w.heap.size + 1 = w.heap.size := (by omega)
       have hneC' : ¬ w.heap.size = w.heap.size + 1 := (by omega)
       clear he5 hB5 hor)
    | (go_at_call 64; refine (c64 (w5.setCell ⟨w.heap.size, 1, none⟩ (.slice p5 N' c5)) _ ys HF5.out HE5.out).mono ?_; rintro e w6 ⟨v6, zs, rfl, ho6, he6, hB6⟩
       replace ho6 := World.ownsRow.mono ho6 (show w4.heap.size ≤ (w5.setCell ⟨w.heap.size, 1, none⟩ (.slice p5 N' c5)).heap.size from Nat.le_trans HB5'.out.size (gr_set w5 w.heap.size 1 (.slice p5 N' c5)).size)
       have g5 := gr_set w5 w.heap.size 1 (.slice p5 N' c5)
       have HO6' := Lib.hid ho6; have HE6 := Lib.hid he6; have HB6 := Lib.hid (bel_then (bel_put HBB.out g5 (Nat.le_refl _)) hB6)
       have HA6 := Lib.hid (blk_on hB6 (blk_one1 HA5.out (.slice p5 N' c5))); have HZ6 := Lib.hid (blk_on hB6 (blk_gr HZ5.out g5 (by omega)))
       obtain ⟨a0, a1, a2, a3⟩ := four_of HA6.out
       have af1 := four_fr HA6.out 1
       obtain ⟨p6, c6, rfl, -⟩ := own_hdr ho6
       have HO6 := Lib.hid ho6
       clear ho6 he6 hB6 HO6' g5)
    | (go_at_call 26; refine (c26 _ _ (NDS.out _ _ _ _ HO6.out HE6.out HB6.out ⟨_, HA6.out⟩)).mono ?_; rintro e w7 ⟨v7, rfl, hn7, hB7⟩
       have HN7 := Lib.hid hn7
       obtain ⟨r1, f1, r2, f2, r3, f3, rfl⟩ := hn7.hdr
       have HB7 := Lib.hid hB7
       have HZ7 := Lib.hid (blk_on hB7 (blk_gr HZ6.out (gr_set w6 w.heap.size 1 (.slice p6 (N' + 1) c6)) (by omega)))
       obtain ⟨x0, x1, x2, x3⟩ := four_of HZ7.out
       have xf0 := four_fr HZ7.out 0
       have xf1 := four_fr HZ7.out 1
       have xf2 := four_fr HZ7.out 2
       have xf3 := four_fr HZ7.out 3
       clear hn7 hB7))
  have g := gr_four w7 (w.heap.size + 1 + 1) (.bool (insN n c).leaf) (.slice r1 (insN n c).cells.length f1) (.slice r2 (insN n c).keys.length f2) (.slice r3 (insN n c).kids.length f3)
  have g6 := gr_set w6 w.heap.size 1 (.slice p6 (N' + 1) c6)
  refine bodyPost_ret (results_c26 Try.results27 _ _ (w.heap.size + 1 + 1) _ _ _ _ 26 rfl (blk_four HZ7.out _ _ _ _)) rfl ?_
  have hz6 := HB6.out.size
  have hB67 : Below w.heap.size w w7 := bel_then (bel_put HB6.out g6 (Nat.le_refl _)) HB7.out
  exact ⟨_, rfl, (HN7.out.gr g HZ7.out (by decide) (by decide) (by decide) (by decide)).low (by have := g6.size; omega), bel_put hB67 g (by omega)⟩
theorem insert27 (w : World) (v x : Value) (n : Nd) (c : C) (h : NdS w v n) (hx : CeS w x c) (hf : Fit (insN n c)) (hb : (n.cells.length + 1) * 64 ≤ 140737488355328) :
    Calls Try.prog 27 #[v, x] w fun e w' => ∃ v', e = .returned v' ∧ NdO w.heap.size w' v' (insN n c) ∧ Below w.heap.size w w' := by
  cases hn : fndB c.key n.cells with
  | true => exact insert_old w v x n c h hx hf hb hn
  | false => exact insert_new w v x n c h hx hf hb hn
end Go.Proofs.Ytbkpgppaahpalaa
