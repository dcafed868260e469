/-
  Adopt of package node, at place 0.
-/
import Derived.Test.YtbkpgppaahpalaaMut
import Derived.Test.YtbkpgppaahpalaaWtk
import Derived.Test.YtbkpgppaahpalaaPar
namespace Go.Proofs.Ytbkpgppaahpalaa
open Go.RowKit
set_option linter.unusedVariables false      -- a walk need not use every condition

theorem within65 (n : Nat) (w : World) : Calls Try.prog 65 #[.int .i64 0, .int .i64 n] w fun e w' => e = .returned (.int .i64 0) ∧ w' = w := by
  go_enter Try.func65, Try.ntmps65
  go_wp2
  go_ret
  exact ⟨rfl, rfl⟩
/-- A node with a key and a kid more. -/
def adN (n : Nd) (c : List UInt8) (x : Int) : Nd := ⟨n.leaf, n.cells, n.keys.take 0 ++ c :: n.keys.drop 0, n.kids.take (min 1 n.kids.length) ++ x :: n.kids.drop (min 1 n.kids.length)⟩
set_option maxHeartbeats 4000000 in
set_option maxRecDepth 100000 in
theorem adopt28 (w : World) (v k : Value) (n : Nd) (c : List UInt8) (x : Int) (h : NdS w v n) (hk : Bs w k c) (hx : I64 x) (hf : Fit (adN n c x)) (h1 : (n.keys.length + 1) * 24 ≤ 140737488355328) (h2 : (n.kids.length + 1) * 8 ≤ 140737488355328) :
    Calls Try.prog 28 #[v, .int .i64 0, k, .int .i64 x] w fun e w' => ∃ v', e = .returned v' ∧ NdO w.heap.size w' v' (adN n c x) ∧ Below w.heap.size w w' := by
  obtain ⟨vc, vk, vi, rfl, hC, hK, hI⟩ := h
  have HC := Lib.hid hC
  obtain ⟨pc, cc, rfl, -, lc⟩ := hC.hdr
  obtain ⟨ks, hFk, hEk⟩ := hK
  obtain ⟨is, hFi, hEi⟩ := hI
  have c66 := fun (u : World) (hu : Below w.heap.size w u) => with66 u w vk k n.keys ks c 0 (hFk.on hu) hEk hk (Nat.zero_le _) h1
  have c67 := fun (k : Nat) (hk : k ≤ n.kids.length) (u : World) (hu : Below w.heap.size w u) => with67 u w vi n.kids is x k (hFi.on hu) hEi hx hk h2
  obtain ⟨pk, ck, rfl, -⟩ := hFk
  obtain ⟨pi, ci, rfl, -⟩ := hFi
  obtain ⟨yp, yc, rfl, -⟩ := hk
  have HF := Lib.hid hf
  obtain ⟨A, hA⟩ : ∃ A, A = Obj.cells #[.bool n.leaf, .slice pc n.cells.length cc, .slice pk n.keys.length ck, .slice pi n.kids.length ci] 26 := ⟨_, rfl⟩
  obtain ⟨Z, hZ⟩ : ∃ Z, Z = Obj.cells #[.bool false, .slice none 0 0, .slice none 0 0, .slice none 0 0] 26 := ⟨_, rfl⟩
  have hbA : ((w.alloc A).alloc Z).heap[w.heap.size]? = some A := blk_on (bel1 _ _) (World.alloc_heap_new w A)
  have hbZ : ((w.alloc A).alloc Z).heap[w.heap.size + 1]? = some Z := by
    have := World.alloc_heap_new (w.alloc A) Z
    rwa [show (w.alloc A).heap.size = w.heap.size + 1 by simp] at this
  have hB0 : Below w.heap.size w ((w.alloc A).alloc Z) := bel_then (bel1 _ _) (bel1 _ _)
  rw [hA, hZ] at hbA hbZ hB0
  clear hA hZ A Z
  have HA := Lib.hid hbA
  have HZ := Lib.hid hbZ
  have HB0 := Lib.hid hB0
  have C66 := Lib.hid c66
  have C67 := Lib.hid c67
  clear c66 c67 hC hEk hEi hbA hbZ hB0 hf
  go_enter Try.func28, Try.ntmps28
  go_wp2_with (fail)
  refine (within65 _ _).mono ?_
  rintro e w1 ⟨rfl, rfl⟩
  go_wp2_with (fail)
  refine (C66.out _ HB0.out).mono ?_
  rintro e w2 ⟨v2, ys, rfl, ho2, he2, hb2⟩
  obtain ⟨g2, cap2, cur2, rfl, hg2, hh2⟩ := own_pos ho2 (Nat.succ_pos _)
  have hA2 := blk_on hb2 HA.out
  have hZ2 := blk_on hb2 HZ.out
  obtain ⟨a0, a1, a2, a3⟩ := four_of hA2
  have af2 := four_fr hA2 2
  have hB2 := bel_then HB0.out hb2
  obtain ⟨w3, hw3⟩ : ∃ w3, w3 = w2.setCell ⟨w.heap.size, 2, none⟩ (.slice (some ⟨g2, 0, none⟩) (n.keys.length + 1) cap2) := ⟨_, rfl⟩
  have hgr3 : w2.grownBy w3 (some w.heap.size) := by rw [hw3]; exact gr_set _ _ _ _
  have HA3 : Hid (w3.heap[w.heap.size]? = some (.cells #[.bool n.leaf, .slice pc n.cells.length cc, .slice (some ⟨g2, 0, none⟩) (n.keys.length + 1) cap2, .slice pi n.kids.length ci] 26)) := by rw [hw3]; exact blk_setc hA2 _
  have HZ3 := Lib.hid (blk_gr hZ2 hgr3 (by omega))
  have HB3 := Lib.hid (bel_put hB2 hgr3 (Nat.le_refl _))
  have HO3 := Lib.hid (own_other ho2 hgr3 hA2 (by decide))
  have HE2 := Lib.hid he2
  have HW3 := Lib.hid hw3
  obtain ⟨b0, b1, b2, b3⟩ := four_of HA3.out
  rw [HW3.out] at b0 b1 b2 b3
  clear ho2 he2 hh2 hgr3 hw3 hb2 hA2 hZ2
  by_cases hz : n.kids.length = 0
  case pos =>
    have hz1 : ¬ (1 : Int) ≤ (n.kids.length : Int) := by omega
    have HZZ := Lib.hid hz
    clear hz
    go_wp2_with (fail)
    rw [← HW3.out]
    refine (C67.out n.kids.length (by omega) _ HB3.out).mono ?_
    rintro e w4 ⟨v4, zs, rfl, ho4, he4, hb4⟩
    obtain ⟨g4, cap4, cur4, rfl, hg4, hh4⟩ := own_pos ho4 (Nat.succ_pos _)
    have hA4 := blk_on hb4 HA3.out
    have hZ4 := blk_on hb4 HZ3.out
    obtain ⟨c0, c1, c2, c3⟩ := four_of hA4
    have af3 := four_fr hA4 3
    have hB4 := bel_then HB3.out hb4
    have hO4 := own_bel HO3.out hb4
    obtain ⟨w5, hw5⟩ : ∃ w5, w5 = w4.setCell ⟨w.heap.size, 3, none⟩ (.slice (some ⟨g4, 0, none⟩) (n.kids.length + 1) cap4) := ⟨_, rfl⟩
    have hgr5 : w4.grownBy w5 (some w.heap.size) := by rw [hw5]; exact gr_set _ _ _ _
    have HA5 : Hid (w5.heap[w.heap.size]? = some (.cells #[.bool n.leaf, .slice pc n.cells.length cc, .slice (some ⟨g2, 0, none⟩) (n.keys.length + 1) cap2, .slice (some ⟨g4, 0, none⟩) (n.kids.length + 1) cap4] 26)) := by rw [hw5]; exact blk_setc hA4 _
    have HZ5 := Lib.hid (blk_gr hZ4 hgr5 (by omega))
    have HB5 := Lib.hid (bel_put hB4 hgr5 (Nat.le_refl _))
    have hkm : min 1 n.kids.length = n.kids.length := by have := HZZ.out; omega
    have hnd : NdS w5 (.agg #[.bool n.leaf, .slice pc n.cells.length cc, .slice (some ⟨g2, 0, none⟩) (n.keys.length + 1) cap2, .slice (some ⟨g4, 0, none⟩) (n.kids.length + 1) cap4]) (adN n c x) := by
      refine ⟨_, _, _, rfl, HC.out.on HB5.out, ⟨ys, ?_, HE2.out.on fun a y hy => hy.on HB5.out⟩, ⟨zs, ?_, ?_⟩⟩
      · rw [show (adN n c x).keys.length = n.keys.length + 1 by simp [adN]]
        exact fl_own (own_other hO4 hgr5 hA4 (by decide))
      · rw [show (adN n c x).kids.length = n.kids.length + 1 by simp [adN]; omega]
        exact fl_own (own_other ho4 hgr5 hA4 (by decide))
      · show Enc kidV 1 w5 (n.kids.take (min 1 n.kids.length) ++ x :: n.kids.drop (min 1 n.kids.length)) zs
        rw [hkm]
        exact he4.on fun a y hy => hy
    have hc26 := clone26 w5 _ _ hnd HF.out
    obtain ⟨d0, d1, d2, d3⟩ := four_of HA5.out
    have HW5 := Lib.hid hw5
    rw [HW5.out] at d0 d1 d2 d3
    have HC26 := Lib.hid hc26
    clear ho4 he4 hb4 hh4 hA4 hZ4 hO4 hgr5 hw5 hnd hc26
    go_wp2_with (fail)
    rw [← HW5.out]
    refine HC26.out.mono ?_
    rintro e w7 ⟨v7, rfl, hn7, hb7⟩
    obtain ⟨r1, f1, r2, f2, r3, f3, rfl⟩ := hn7.hdr
    have hZ7 := blk_on hb7 HZ5.out
    have HZ7 := Lib.hid hZ7
    obtain ⟨x0, x1, x2, x3⟩ := four_of hZ7
    have xf0 := four_fr hZ7 0
    have xf1 := four_fr hZ7 1
    have xf2 := four_fr hZ7 2
    have xf3 := four_fr hZ7 3
    have hB7 := bel_then HB5.out hb7
    go_wp2
    have g := gr_four w7 (w.heap.size + 1) (.bool (adN n c x).leaf) (.slice r1 (adN n c x).cells.length f1) (.slice r2 (adN n c x).keys.length f2) (.slice r3 (adN n c x).kids.length f3)
    refine bodyPost_ret (results_c26 Try.results28 _ _ (w.heap.size + 1) _ _ _ _ 26 rfl (blk_four HZ7.out _ _ _ _)) rfl ?_
    exact ⟨_, rfl, (hn7.gr g HZ7.out (by decide) (by decide) (by decide) (by decide)).low HB5.out.size, bel_put hB7 g (by omega)⟩
  case neg =>
    have hz1 : (1 : Int) ≤ (n.kids.length : Int) := by omega
    go_wp2_with (fail)
    rw [← HW3.out]
    refine (C67.out 1 (by omega) _ HB3.out).mono ?_
    rintro e w4 ⟨v4, zs, rfl, ho4, he4, hb4⟩
    obtain ⟨g4, cap4, cur4, rfl, hg4, hh4⟩ := own_pos ho4 (Nat.succ_pos _)
    have hA4 := blk_on hb4 HA3.out
    have hZ4 := blk_on hb4 HZ3.out
    obtain ⟨c0, c1, c2, c3⟩ := four_of hA4
    have af3 := four_fr hA4 3
    have hB4 := bel_then HB3.out hb4
    have hO4 := own_bel HO3.out hb4
    obtain ⟨w5, hw5⟩ : ∃ w5, w5 = w4.setCell ⟨w.heap.size, 3, none⟩ (.slice (some ⟨g4, 0, none⟩) (n.kids.length + 1) cap4) := ⟨_, rfl⟩
    have hgr5 : w4.grownBy w5 (some w.heap.size) := by rw [hw5]; exact gr_set _ _ _ _
    have HA5 : Hid (w5.heap[w.heap.size]? = some (.cells #[.bool n.leaf, .slice pc n.cells.length cc, .slice (some ⟨g2, 0, none⟩) (n.keys.length + 1) cap2, .slice (some ⟨g4, 0, none⟩) (n.kids.length + 1) cap4] 26)) := by rw [hw5]; exact blk_setc hA4 _
    have HZ5 := Lib.hid (blk_gr hZ4 hgr5 (by omega))
    have HB5 := Lib.hid (bel_put hB4 hgr5 (Nat.le_refl _))
    have hkm : min 1 n.kids.length = 1 := by omega
    have hnd : NdS w5 (.agg #[.bool n.leaf, .slice pc n.cells.length cc, .slice (some ⟨g2, 0, none⟩) (n.keys.length + 1) cap2, .slice (some ⟨g4, 0, none⟩) (n.kids.length + 1) cap4]) (adN n c x) := by
      refine ⟨_, _, _, rfl, HC.out.on HB5.out, ⟨ys, ?_, HE2.out.on fun a y hy => hy.on HB5.out⟩, ⟨zs, ?_, ?_⟩⟩
      · rw [show (adN n c x).keys.length = n.keys.length + 1 by simp [adN]]
        exact fl_own (own_other hO4 hgr5 hA4 (by decide))
      · rw [show (adN n c x).kids.length = n.kids.length + 1 by simp [adN]; omega]
        exact fl_own (own_other ho4 hgr5 hA4 (by decide))
      · show Enc kidV 1 w5 (n.kids.take (min 1 n.kids.length) ++ x :: n.kids.drop (min 1 n.kids.length)) zs
        rw [hkm]
        exact he4.on fun a y hy => hy
    have hc26 := clone26 w5 _ _ hnd HF.out
    obtain ⟨d0, d1, d2, d3⟩ := four_of HA5.out
    have HW5 := Lib.hid hw5
    rw [HW5.out] at d0 d1 d2 d3
    have HC26 := Lib.hid hc26
    clear ho4 he4 hb4 hh4 hA4 hZ4 hO4 hgr5 hw5 hnd hc26
    go_wp2_with (fail)
    rw [← HW5.out]
    refine HC26.out.mono ?_
    rintro e w7 ⟨v7, rfl, hn7, hb7⟩
    obtain ⟨r1, f1, r2, f2, r3, f3, rfl⟩ := hn7.hdr
    have hZ7 := blk_on hb7 HZ5.out
    have HZ7 := Lib.hid hZ7
    obtain ⟨x0, x1, x2, x3⟩ := four_of hZ7
    have xf0 := four_fr hZ7 0
    have xf1 := four_fr hZ7 1
    have xf2 := four_fr hZ7 2
    have xf3 := four_fr hZ7 3
    have hB7 := bel_then HB5.out hb7
    go_wp2
    have g := gr_four w7 (w.heap.size + 1) (.bool (adN n c x).leaf) (.slice r1 (adN n c x).cells.length f1) (.slice r2 (adN n c x).keys.length f2) (.slice r3 (adN n c x).kids.length f3)
    refine bodyPost_ret (results_c26 Try.results28 _ _ (w.heap.size + 1) _ _ _ _ 26 rfl (blk_four HZ7.out _ _ _ _)) rfl ?_
    exact ⟨_, rfl, (hn7.gr g HZ7.out (by decide) (by decide) (by decide) (by decide)).low HB5.out.size, bel_put hB7 g (by omega)⟩
end Go.Proofs.Ytbkpgppaahpalaa
