/-
  The document's halves of a node.
-/
import Derived.Test.YtbkpgppaahpalaaHla
import Derived.Deep.RegionHeld3
namespace Go.Proofs.Ytbkpgppaahpalaa
open Go.RowKit
set_option linter.unusedVariables false      -- a walk need not use every condition

set_option maxHeartbeats 8000000 in
set_option maxRecDepth 100000 in
theorem halves_inner (w : World) (g0 o0 ck : Nat) (vc vi : Value) (n : Nd) (k : Nat) (h : NdS w (.agg #[.bool n.leaf, vc, .slice (some ⟨g0, o0, none⟩) n.keys.length ck, vi]) n) (hf : Fit n) (hL : n.leaf = false) (hk : k < n.keys.length) (h2 : n.keys.length < n.kids.length) (hc : ¬ ck = k + 1) :
    Calls Try.prog 55 #[.agg #[.bool n.leaf, vc, .slice (some ⟨g0, o0, none⟩) n.keys.length ck, vi], .int .i64 k] w fun e w' => ∃ va vk vb, e = .returned (.tuple #[va, vk, vb]) ∧ (∀ u, NdS u (.agg #[.bool n.leaf, vc, .slice (some ⟨g0, o0, none⟩) n.keys.length ck, vi]) n → NdS u va ⟨false, [], n.keys.take k, n.kids.take (k + 1)⟩ ∧ NdS u vb ⟨false, [], n.keys.drop (k + 1), n.kids.drop (k + 1)⟩) ∧ w.cell? ⟨g0, o0 + k, none⟩ = some vk ∧ Below w.heap.size w w' := by
  have lk63 : n.keys.length < 9223372036854775807 := by have := hf.2.1; omega
  have HND := Lib.hid h
  obtain ⟨vc', vk', vi', e9, hC, hK, hI⟩ := h
  injection e9 with e9
  obtain rfl : vc = vc' := congrArg (fun a : Array Value => a.getD 1 undef) e9
  obtain rfl : _ = vk' := congrArg (fun a : Array Value => a.getD 2 undef) e9
  obtain rfl : vi = vi' := congrArg (fun a : Array Value => a.getD 3 undef) e9
  clear e9
  obtain ⟨pc, cc, rfl, -, lc⟩ := hC.hdr
  obtain ⟨g9, o9, c9, kk, e9, k0, hBk⟩ := hK.at hk
  injection e9 with e91 e92 e93
  injection e91 with e91
  injection e91 with e94 e95
  subst e93 e94 e95
  clear e92
  obtain ⟨g1, o1, ci, rfl, -, -⟩ := hI.at (i := 0) (by omega)
  have hcc : n.keys.length ≤ ck := by
    obtain ⟨p', c', e, h1, -⟩ := hK.hdr
    injection e with e1 e2 e3
    omega
  have hci : n.kids.length ≤ ci := by
    obtain ⟨p', c', e, h1, -⟩ := hI.hdr
    injection e with e1 e2 e3
    omega
  have HKf : Hid (∀ u, NdS u (.agg #[.bool n.leaf, .slice pc n.cells.length cc, .slice (some ⟨g0, o0, none⟩) n.keys.length ck, .slice (some ⟨g1, o1, none⟩) n.kids.length ci]) n → Ks u (.slice (some ⟨g0, o0, none⟩) k k) (n.keys.take k)) := fun u hu => hu.parts.2.1.firstk (Nat.le_of_lt hk)
  have HKd : Hid (∀ u, NdS u (.agg #[.bool n.leaf, .slice pc n.cells.length cc, .slice (some ⟨g0, o0, none⟩) n.keys.length ck, .slice (some ⟨g1, o1, none⟩) n.kids.length ci]) n → Ks u (.slice (some ⟨g0, o0 + (k + 1), none⟩) (n.keys.length - (k + 1)) (ck - (k + 1))) (n.keys.drop (k + 1))) := fun u hu => hu.parts.2.1.last (k := k + 1) (by omega)
  have HIf : Hid (∀ u, NdS u (.agg #[.bool n.leaf, .slice pc n.cells.length cc, .slice (some ⟨g0, o0, none⟩) n.keys.length ck, .slice (some ⟨g1, o1, none⟩) n.kids.length ci]) n → Is u (.slice (some ⟨g1, o1, none⟩) (k + 1) (k + 1)) (n.kids.take (k + 1))) := fun u hu => hu.parts.2.2.firstk (k := k + 1) (by omega)
  have HId : Hid (∀ u, NdS u (.agg #[.bool n.leaf, .slice pc n.cells.length cc, .slice (some ⟨g0, o0, none⟩) n.keys.length ck, .slice (some ⟨g1, o1, none⟩) n.kids.length ci]) n → Is u (.slice (some ⟨g1, o1 + (k + 1), none⟩) (n.kids.length - (k + 1)) (ci - (k + 1))) (n.kids.drop (k + 1))) := fun u hu => hu.parts.2.2.last (k := k + 1) (by omega)
  have HBK := Lib.hid hBk
  have hBk0 := hBk
  obtain ⟨kp, kc, rfl, -, -⟩ := hBk0.slice
  clear hC hK hI hBk0 hBk
  rw [hL] at HKf HKd HIf HId HND ⊢
  have HK0 := Lib.hid k0
  obtain ⟨key, hkey⟩ : ∃ k', n.keys[k] = k' := ⟨_, rfl⟩
  rw [hkey] at HBK k0 HK0
  obtain ⟨A, hA⟩ : ∃ a : Nd, (⟨false, [], n.keys.take k, n.kids.take (k + 1)⟩ : Nd) = a := ⟨_, rfl⟩
  obtain ⟨B, hB⟩ : ∃ a : Nd, (⟨false, [], n.keys.drop (k + 1), n.kids.drop (k + 1)⟩ : Nd) = a := ⟨_, rfl⟩
  rw [hA, hB]
  obtain ⟨N, hN⟩ : ∃ k', n.keys.length = k' := ⟨_, rfl⟩
  obtain ⟨P, hP⟩ : ∃ k', n.kids.length = k' := ⟨_, rfl⟩
  rw [hN] at hk hcc HKd HKf HIf HId h2 lk63 HND ⊢
  rw [hP] at hci HId HIf HKf HKd h2 HND ⊢
  have cA : Hid (∀ u, NdS u (.agg #[.bool false, .slice pc n.cells.length cc, .slice (some ⟨g0, o0, none⟩) N ck, .slice (some ⟨g1, o1, none⟩) P ci]) n → NdS u (.agg #[.bool false, .slice none 0 0, .slice (some ⟨g0, o0, none⟩) k k, .slice (some ⟨g1, o1, none⟩) (k + 1) (k + 1)]) A) := fun u hu => by rw [← hA]; exact ⟨_, _, _, rfl, cs_nil u, HKf.out u hu, HIf.out u hu⟩
  have cB : Hid (∀ u, NdS u (.agg #[.bool false, .slice pc n.cells.length cc, .slice (some ⟨g0, o0, none⟩) N ck, .slice (some ⟨g1, o1, none⟩) P ci]) n → NdS u (.agg #[.bool false, .slice none 0 0, .slice (some ⟨g0, o0 + (k + 1), none⟩) (N - (k + 1)) (ck - (k + 1)), .slice (some ⟨g1, o1 + (k + 1), none⟩) (P - (k + 1)) (ci - (k + 1))]) B) := fun u hu => by rw [← hB]; exact ⟨_, _, _, rfl, cs_nil u, HKd.out u hu, HId.out u hu⟩
  have z0 : (0 : Int) < (N : Int) := by omega
  have z2 : (k : Int) < (N : Int) := by omega
  have z3 : (0 : Int) ≤ (k : Int) := by omega
  have z4 : (k : Int) ≤ (ck : Int) := by omega
  have z5 : (N : Int) ≤ (ck : Int) := by omega
  have z6 : (k : Int) + 1 ≤ (ci : Int) := by omega
  have z7 : (P : Int) ≤ (ci : Int) := by omega
  have z8 : (k : Int) + 1 ≤ (P : Int) := by omega
  have z9 : (k : Int) + 1 ≤ (N : Int) := by omega
  have za : ¬ ci = k + 1 := by omega
  have zb : IntKind.i64.wrap ((k : Int) + 1) = (k : Int) + 1 := by rw [IntKind.wrap_i64]; omega
  have zc : (0 : Int) ≤ (k : Int) + 1 := by omega
  obtain ⟨W, hW⟩ : ∃ W, W = ((w.alloc (Obj.cells #[.bool false, .slice pc n.cells.length cc, .slice (some ⟨g0, o0, none⟩) N ck, .slice (some ⟨g1, o1, none⟩) P ci] 26)).alloc (Obj.cells #[.bool false, .slice none 0 0, .slice none 0 0, .slice none 0 0] 26)).alloc (Obj.cells #[.bool false, .slice none 0 0, .slice none 0 0, .slice none 0 0] 26) := ⟨_, rfl⟩
  obtain ⟨hWs, hWA, hW4, hW6⟩ : W.heap.size = w.heap.size + 3 ∧ W.heap[w.heap.size]? = some (Obj.cells #[.bool false, .slice pc n.cells.length cc, .slice (some ⟨g0, o0, none⟩) N ck, .slice (some ⟨g1, o1, none⟩) P ci] 26) ∧ W.heap[w.heap.size + 1]? = some (Obj.cells #[.bool false, .slice none 0 0, .slice none 0 0, .slice none 0 0] 26) ∧ W.heap[w.heap.size + 1 + 1]? = some (Obj.cells #[.bool false, .slice none 0 0, .slice none 0 0, .slice none 0 0] 26) := by rw [hW]; exact three_new w _ _ _
  have hWB : Below w.heap.size w W := by rw [hW]; exact bel_then (bel_then (bel1 _ _) (bel1 _ _)) (bel1 _ _)
  have bd : Below W.heap.size W W.drew := (Below.refl _ W).drew
  have bW1 : Below W.heap.size W W.drew := bd
  have s0 : W.drew.cell? ⟨w.heap.size, 2, none⟩ = some (.slice (some ⟨g0, o0, none⟩) N ck) ∧ W.drew.cell? ⟨w.heap.size, 3, none⟩ = some (.slice (some ⟨g1, o1, none⟩) P ci) ∧ W.drew.cell? ⟨g0, o0 + k, none⟩ = some (.slice kp key.length kc) := ⟨(four_of (blk_dr hWA)).2.2.1, (four_of (blk_dr hWA)).2.2.2, cell_past (hWB).drew k0⟩
  have s4 : ((((W.setCell ⟨w.heap.size + 1, 0, none⟩ (.bool false)).setCell ⟨w.heap.size + 1, 1, none⟩ (.slice none 0 0)).setCell ⟨w.heap.size + 1, 2, none⟩ (.slice (some ⟨g0, o0, none⟩) k k)).setCell ⟨w.heap.size + 1, 3, none⟩ (.slice (some ⟨g1, o1, none⟩) (k + 1) (k + 1))).drew.cell? ⟨w.heap.size, 2, none⟩ = some (.slice (some ⟨g0, o0, none⟩) N ck) ∧ ((((W.setCell ⟨w.heap.size + 1, 0, none⟩ (.bool false)).setCell ⟨w.heap.size + 1, 1, none⟩ (.slice none 0 0)).setCell ⟨w.heap.size + 1, 2, none⟩ (.slice (some ⟨g0, o0, none⟩) k k)).setCell ⟨w.heap.size + 1, 3, none⟩ (.slice (some ⟨g1, o1, none⟩) (k + 1) (k + 1))).drew.cell? ⟨w.heap.size, 3, none⟩ = some (.slice (some ⟨g1, o1, none⟩) P ci) ∧ ((((W.setCell ⟨w.heap.size + 1, 0, none⟩ (.bool false)).setCell ⟨w.heap.size + 1, 1, none⟩ (.slice none 0 0)).setCell ⟨w.heap.size + 1, 2, none⟩ (.slice (some ⟨g0, o0, none⟩) k k)).setCell ⟨w.heap.size + 1, 3, none⟩ (.slice (some ⟨g1, o1, none⟩) (k + 1) (k + 1))).drew.cell? ⟨g0, o0 + k, none⟩ = some (.slice kp key.length kc) := ⟨(four_of (blk_dr (blk_gr hWA (gr_four W (w.heap.size + 1) (.bool false) (.slice none 0 0) (.slice (some ⟨g0, o0, none⟩) k k) (.slice (some ⟨g1, o1, none⟩) (k + 1) (k + 1))) (by omega)))).2.2.1, (four_of (blk_dr (blk_gr hWA (gr_four W (w.heap.size + 1) (.bool false) (.slice none 0 0) (.slice (some ⟨g0, o0, none⟩) k k) (.slice (some ⟨g1, o1, none⟩) (k + 1) (k + 1))) (by omega)))).2.2.2, cell_past ((bel_put hWB (gr_four W (w.heap.size + 1) (.bool false) (.slice none 0 0) (.slice (some ⟨g0, o0, none⟩) k k) (.slice (some ⟨g1, o1, none⟩) (k + 1) (k + 1))) (by omega))).drew k0⟩
  have s6 : ((((W.setCell ⟨w.heap.size + 1 + 1, 0, none⟩ (.bool false)).setCell ⟨w.heap.size + 1 + 1, 1, none⟩ (.slice none 0 0)).setCell ⟨w.heap.size + 1 + 1, 2, none⟩ (.slice (some ⟨g0, o0 + (k + 1), none⟩) (N - (k + 1)) (ck - (k + 1)))).setCell ⟨w.heap.size + 1 + 1, 3, none⟩ (.slice (some ⟨g1, o1 + (k + 1), none⟩) (P - (k + 1)) (ci - (k + 1)))).drew.cell? ⟨w.heap.size, 2, none⟩ = some (.slice (some ⟨g0, o0, none⟩) N ck) ∧ ((((W.setCell ⟨w.heap.size + 1 + 1, 0, none⟩ (.bool false)).setCell ⟨w.heap.size + 1 + 1, 1, none⟩ (.slice none 0 0)).setCell ⟨w.heap.size + 1 + 1, 2, none⟩ (.slice (some ⟨g0, o0 + (k + 1), none⟩) (N - (k + 1)) (ck - (k + 1)))).setCell ⟨w.heap.size + 1 + 1, 3, none⟩ (.slice (some ⟨g1, o1 + (k + 1), none⟩) (P - (k + 1)) (ci - (k + 1)))).drew.cell? ⟨w.heap.size, 3, none⟩ = some (.slice (some ⟨g1, o1, none⟩) P ci) ∧ ((((W.setCell ⟨w.heap.size + 1 + 1, 0, none⟩ (.bool false)).setCell ⟨w.heap.size + 1 + 1, 1, none⟩ (.slice none 0 0)).setCell ⟨w.heap.size + 1 + 1, 2, none⟩ (.slice (some ⟨g0, o0 + (k + 1), none⟩) (N - (k + 1)) (ck - (k + 1)))).setCell ⟨w.heap.size + 1 + 1, 3, none⟩ (.slice (some ⟨g1, o1 + (k + 1), none⟩) (P - (k + 1)) (ci - (k + 1)))).drew.cell? ⟨g0, o0 + k, none⟩ = some (.slice kp key.length kc) := ⟨(four_of (blk_dr (blk_gr hWA (gr_four W (w.heap.size + 1 + 1) (.bool false) (.slice none 0 0) (.slice (some ⟨g0, o0 + (k + 1), none⟩) (N - (k + 1)) (ck - (k + 1))) (.slice (some ⟨g1, o1 + (k + 1), none⟩) (P - (k + 1)) (ci - (k + 1)))) (by omega)))).2.2.1, (four_of (blk_dr (blk_gr hWA (gr_four W (w.heap.size + 1 + 1) (.bool false) (.slice none 0 0) (.slice (some ⟨g0, o0 + (k + 1), none⟩) (N - (k + 1)) (ck - (k + 1))) (.slice (some ⟨g1, o1 + (k + 1), none⟩) (P - (k + 1)) (ci - (k + 1)))) (by omega)))).2.2.2, cell_past ((bel_put hWB (gr_four W (w.heap.size + 1 + 1) (.bool false) (.slice none 0 0) (.slice (some ⟨g0, o0 + (k + 1), none⟩) (N - (k + 1)) (ck - (k + 1))) (.slice (some ⟨g1, o1 + (k + 1), none⟩) (P - (k + 1)) (ci - (k + 1)))) (by omega))).drew k0⟩
  have s46 : ((((((((W.setCell ⟨w.heap.size + 1, 0, none⟩ (.bool false)).setCell ⟨w.heap.size + 1, 1, none⟩ (.slice none 0 0)).setCell ⟨w.heap.size + 1, 2, none⟩ (.slice (some ⟨g0, o0, none⟩) k k)).setCell ⟨w.heap.size + 1, 3, none⟩ (.slice (some ⟨g1, o1, none⟩) (k + 1) (k + 1))).setCell ⟨w.heap.size + 1 + 1, 0, none⟩ (.bool false)).setCell ⟨w.heap.size + 1 + 1, 1, none⟩ (.slice none 0 0)).setCell ⟨w.heap.size + 1 + 1, 2, none⟩ (.slice (some ⟨g0, o0 + (k + 1), none⟩) (N - (k + 1)) (ck - (k + 1)))).setCell ⟨w.heap.size + 1 + 1, 3, none⟩ (.slice (some ⟨g1, o1 + (k + 1), none⟩) (P - (k + 1)) (ci - (k + 1)))).drew.cell? ⟨w.heap.size, 2, none⟩ = some (.slice (some ⟨g0, o0, none⟩) N ck) ∧ ((((((((W.setCell ⟨w.heap.size + 1, 0, none⟩ (.bool false)).setCell ⟨w.heap.size + 1, 1, none⟩ (.slice none 0 0)).setCell ⟨w.heap.size + 1, 2, none⟩ (.slice (some ⟨g0, o0, none⟩) k k)).setCell ⟨w.heap.size + 1, 3, none⟩ (.slice (some ⟨g1, o1, none⟩) (k + 1) (k + 1))).setCell ⟨w.heap.size + 1 + 1, 0, none⟩ (.bool false)).setCell ⟨w.heap.size + 1 + 1, 1, none⟩ (.slice none 0 0)).setCell ⟨w.heap.size + 1 + 1, 2, none⟩ (.slice (some ⟨g0, o0 + (k + 1), none⟩) (N - (k + 1)) (ck - (k + 1)))).setCell ⟨w.heap.size + 1 + 1, 3, none⟩ (.slice (some ⟨g1, o1 + (k + 1), none⟩) (P - (k + 1)) (ci - (k + 1)))).drew.cell? ⟨w.heap.size, 3, none⟩ = some (.slice (some ⟨g1, o1, none⟩) P ci) ∧ ((((((((W.setCell ⟨w.heap.size + 1, 0, none⟩ (.bool false)).setCell ⟨w.heap.size + 1, 1, none⟩ (.slice none 0 0)).setCell ⟨w.heap.size + 1, 2, none⟩ (.slice (some ⟨g0, o0, none⟩) k k)).setCell ⟨w.heap.size + 1, 3, none⟩ (.slice (some ⟨g1, o1, none⟩) (k + 1) (k + 1))).setCell ⟨w.heap.size + 1 + 1, 0, none⟩ (.bool false)).setCell ⟨w.heap.size + 1 + 1, 1, none⟩ (.slice none 0 0)).setCell ⟨w.heap.size + 1 + 1, 2, none⟩ (.slice (some ⟨g0, o0 + (k + 1), none⟩) (N - (k + 1)) (ck - (k + 1)))).setCell ⟨w.heap.size + 1 + 1, 3, none⟩ (.slice (some ⟨g1, o1 + (k + 1), none⟩) (P - (k + 1)) (ci - (k + 1)))).drew.cell? ⟨g0, o0 + k, none⟩ = some (.slice kp key.length kc) := ⟨(four_of (blk_dr (blk_gr (blk_gr hWA (gr_four W (w.heap.size + 1) (.bool false) (.slice none 0 0) (.slice (some ⟨g0, o0, none⟩) k k) (.slice (some ⟨g1, o1, none⟩) (k + 1) (k + 1))) (by omega)) (gr_four ((((W.setCell ⟨w.heap.size + 1, 0, none⟩ (.bool false)).setCell ⟨w.heap.size + 1, 1, none⟩ (.slice none 0 0)).setCell ⟨w.heap.size + 1, 2, none⟩ (.slice (some ⟨g0, o0, none⟩) k k)).setCell ⟨w.heap.size + 1, 3, none⟩ (.slice (some ⟨g1, o1, none⟩) (k + 1) (k + 1))) (w.heap.size + 1 + 1) (.bool false) (.slice none 0 0) (.slice (some ⟨g0, o0 + (k + 1), none⟩) (N - (k + 1)) (ck - (k + 1))) (.slice (some ⟨g1, o1 + (k + 1), none⟩) (P - (k + 1)) (ci - (k + 1)))) (by omega)))).2.2.1, (four_of (blk_dr (blk_gr (blk_gr hWA (gr_four W (w.heap.size + 1) (.bool false) (.slice none 0 0) (.slice (some ⟨g0, o0, none⟩) k k) (.slice (some ⟨g1, o1, none⟩) (k + 1) (k + 1))) (by omega)) (gr_four ((((W.setCell ⟨w.heap.size + 1, 0, none⟩ (.bool false)).setCell ⟨w.heap.size + 1, 1, none⟩ (.slice none 0 0)).setCell ⟨w.heap.size + 1, 2, none⟩ (.slice (some ⟨g0, o0, none⟩) k k)).setCell ⟨w.heap.size + 1, 3, none⟩ (.slice (some ⟨g1, o1, none⟩) (k + 1) (k + 1))) (w.heap.size + 1 + 1) (.bool false) (.slice none 0 0) (.slice (some ⟨g0, o0 + (k + 1), none⟩) (N - (k + 1)) (ck - (k + 1))) (.slice (some ⟨g1, o1 + (k + 1), none⟩) (P - (k + 1)) (ci - (k + 1)))) (by omega)))).2.2.2, cell_past ((bel_put (bel_put hWB (gr_four W (w.heap.size + 1) (.bool false) (.slice none 0 0) (.slice (some ⟨g0, o0, none⟩) k k) (.slice (some ⟨g1, o1, none⟩) (k + 1) (k + 1))) (by omega)) (gr_four ((((W.setCell ⟨w.heap.size + 1, 0, none⟩ (.bool false)).setCell ⟨w.heap.size + 1, 1, none⟩ (.slice none 0 0)).setCell ⟨w.heap.size + 1, 2, none⟩ (.slice (some ⟨g0, o0, none⟩) k k)).setCell ⟨w.heap.size + 1, 3, none⟩ (.slice (some ⟨g1, o1, none⟩) (k + 1) (k + 1))) (w.heap.size + 1 + 1) (.bool false) (.slice none 0 0) (.slice (some ⟨g0, o0 + (k + 1), none⟩) (N - (k + 1)) (ck - (k + 1))) (.slice (some ⟨g1, o1 + (k + 1), none⟩) (P - (k + 1)) (ci - (k + 1)))) (by omega))).drew k0⟩
  have s64 : ((((((((W.setCell ⟨w.heap.size + 1 + 1, 0, none⟩ (.bool false)).setCell ⟨w.heap.size + 1 + 1, 1, none⟩ (.slice none 0 0)).setCell ⟨w.heap.size + 1 + 1, 2, none⟩ (.slice (some ⟨g0, o0 + (k + 1), none⟩) (N - (k + 1)) (ck - (k + 1)))).setCell ⟨w.heap.size + 1 + 1, 3, none⟩ (.slice (some ⟨g1, o1 + (k + 1), none⟩) (P - (k + 1)) (ci - (k + 1)))).setCell ⟨w.heap.size + 1, 0, none⟩ (.bool false)).setCell ⟨w.heap.size + 1, 1, none⟩ (.slice none 0 0)).setCell ⟨w.heap.size + 1, 2, none⟩ (.slice (some ⟨g0, o0, none⟩) k k)).setCell ⟨w.heap.size + 1, 3, none⟩ (.slice (some ⟨g1, o1, none⟩) (k + 1) (k + 1))).drew.cell? ⟨w.heap.size, 2, none⟩ = some (.slice (some ⟨g0, o0, none⟩) N ck) ∧ ((((((((W.setCell ⟨w.heap.size + 1 + 1, 0, none⟩ (.bool false)).setCell ⟨w.heap.size + 1 + 1, 1, none⟩ (.slice none 0 0)).setCell ⟨w.heap.size + 1 + 1, 2, none⟩ (.slice (some ⟨g0, o0 + (k + 1), none⟩) (N - (k + 1)) (ck - (k + 1)))).setCell ⟨w.heap.size + 1 + 1, 3, none⟩ (.slice (some ⟨g1, o1 + (k + 1), none⟩) (P - (k + 1)) (ci - (k + 1)))).setCell ⟨w.heap.size + 1, 0, none⟩ (.bool false)).setCell ⟨w.heap.size + 1, 1, none⟩ (.slice none 0 0)).setCell ⟨w.heap.size + 1, 2, none⟩ (.slice (some ⟨g0, o0, none⟩) k k)).setCell ⟨w.heap.size + 1, 3, none⟩ (.slice (some ⟨g1, o1, none⟩) (k + 1) (k + 1))).drew.cell? ⟨w.heap.size, 3, none⟩ = some (.slice (some ⟨g1, o1, none⟩) P ci) ∧ ((((((((W.setCell ⟨w.heap.size + 1 + 1, 0, none⟩ (.bool false)).setCell ⟨w.heap.size + 1 + 1, 1, none⟩ (.slice none 0 0)).setCell ⟨w.heap.size + 1 + 1, 2, none⟩ (.slice (some ⟨g0, o0 + (k + 1), none⟩) (N - (k + 1)) (ck - (k + 1)))).setCell ⟨w.heap.size + 1 + 1, 3, none⟩ (.slice (some ⟨g1, o1 + (k + 1), none⟩) (P - (k + 1)) (ci - (k + 1)))).setCell ⟨w.heap.size + 1, 0, none⟩ (.bool false)).setCell ⟨w.heap.size + 1, 1, none⟩ (.slice none 0 0)).setCell ⟨w.heap.size + 1, 2, none⟩ (.slice (some ⟨g0, o0, none⟩) k k)).setCell ⟨w.heap.size + 1, 3, none⟩ (.slice (some ⟨g1, o1, none⟩) (k + 1) (k + 1))).drew.cell? ⟨g0, o0 + k, none⟩ = some (.slice kp key.length kc) := ⟨(four_of (blk_dr (blk_gr (blk_gr hWA (gr_four W (w.heap.size + 1 + 1) (.bool false) (.slice none 0 0) (.slice (some ⟨g0, o0 + (k + 1), none⟩) (N - (k + 1)) (ck - (k + 1))) (.slice (some ⟨g1, o1 + (k + 1), none⟩) (P - (k + 1)) (ci - (k + 1)))) (by omega)) (gr_four ((((W.setCell ⟨w.heap.size + 1 + 1, 0, none⟩ (.bool false)).setCell ⟨w.heap.size + 1 + 1, 1, none⟩ (.slice none 0 0)).setCell ⟨w.heap.size + 1 + 1, 2, none⟩ (.slice (some ⟨g0, o0 + (k + 1), none⟩) (N - (k + 1)) (ck - (k + 1)))).setCell ⟨w.heap.size + 1 + 1, 3, none⟩ (.slice (some ⟨g1, o1 + (k + 1), none⟩) (P - (k + 1)) (ci - (k + 1)))) (w.heap.size + 1) (.bool false) (.slice none 0 0) (.slice (some ⟨g0, o0, none⟩) k k) (.slice (some ⟨g1, o1, none⟩) (k + 1) (k + 1))) (by omega)))).2.2.1, (four_of (blk_dr (blk_gr (blk_gr hWA (gr_four W (w.heap.size + 1 + 1) (.bool false) (.slice none 0 0) (.slice (some ⟨g0, o0 + (k + 1), none⟩) (N - (k + 1)) (ck - (k + 1))) (.slice (some ⟨g1, o1 + (k + 1), none⟩) (P - (k + 1)) (ci - (k + 1)))) (by omega)) (gr_four ((((W.setCell ⟨w.heap.size + 1 + 1, 0, none⟩ (.bool false)).setCell ⟨w.heap.size + 1 + 1, 1, none⟩ (.slice none 0 0)).setCell ⟨w.heap.size + 1 + 1, 2, none⟩ (.slice (some ⟨g0, o0 + (k + 1), none⟩) (N - (k + 1)) (ck - (k + 1)))).setCell ⟨w.heap.size + 1 + 1, 3, none⟩ (.slice (some ⟨g1, o1 + (k + 1), none⟩) (P - (k + 1)) (ci - (k + 1)))) (w.heap.size + 1) (.bool false) (.slice none 0 0) (.slice (some ⟨g0, o0, none⟩) k k) (.slice (some ⟨g1, o1, none⟩) (k + 1) (k + 1))) (by omega)))).2.2.2, cell_past ((bel_put (bel_put hWB (gr_four W (w.heap.size + 1 + 1) (.bool false) (.slice none 0 0) (.slice (some ⟨g0, o0 + (k + 1), none⟩) (N - (k + 1)) (ck - (k + 1))) (.slice (some ⟨g1, o1 + (k + 1), none⟩) (P - (k + 1)) (ci - (k + 1)))) (by omega)) (gr_four ((((W.setCell ⟨w.heap.size + 1 + 1, 0, none⟩ (.bool false)).setCell ⟨w.heap.size + 1 + 1, 1, none⟩ (.slice none 0 0)).setCell ⟨w.heap.size + 1 + 1, 2, none⟩ (.slice (some ⟨g0, o0 + (k + 1), none⟩) (N - (k + 1)) (ck - (k + 1)))).setCell ⟨w.heap.size + 1 + 1, 3, none⟩ (.slice (some ⟨g1, o1 + (k + 1), none⟩) (P - (k + 1)) (ci - (k + 1)))) (w.heap.size + 1) (.bool false) (.slice none 0 0) (.slice (some ⟨g0, o0, none⟩) k k) (.slice (some ⟨g1, o1, none⟩) (k + 1) (k + 1))) (by omega))).drew k0⟩
  obtain ⟨y0, y1, y2, y3⟩ := four_of hW4
  obtain ⟨x0, x1, x2, x3⟩ := four_of hW6
  have yf0 := four_fr hW4 0
  have yf1 := four_fr hW4 1
  have yf2 := four_fr hW4 2
  have yf3 := four_fr hW4 3
  have xf0 := four_fr hW6 0
  have xf1 := four_fr hW6 1
  have xf2 := four_fr hW6 2
  have xf3 := four_fr hW6 3
  obtain ⟨a0, -, -, -⟩ := four_of hWA
  have HW := Lib.hid hW
  have HWB := Lib.hid hWB
  have H4 := Lib.hid hW4
  have H6 := Lib.hid hW6
  clear HKf HKd HIf HId hA hB hkey hN hP hf hcc hci hL h2 lk63 hWs hWA hW4 hW6 hWB bW1 bd k0
  go_enter Try.func55, Try.ntmps55
  go_wp2
  rw [← HW.out]
  clear hW
  go_region_held3 (fun u => u.cell? ⟨w.heap.size, 2, none⟩ = some (.slice (some ⟨g0, o0, none⟩) N ck) ∧ u.cell? ⟨w.heap.size, 3, none⟩ = some (.slice (some ⟨g1, o1, none⟩) P ci) ∧ u.cell? ⟨g0, o0 + k, none⟩ = some (.slice kp key.length kc)) (first | with_reducible exact s0 | with_reducible exact s4 | with_reducible exact s6 | with_reducible exact s46 | with_reducible exact s64) (fail)
  all_goals
    go_wp2
    first
      | (obtain ⟨e1, e2, eA, eK, eB, eW⟩ := hlv_end (K := key) (vk := .slice kp key.length kc) (g := w.heap.size + 1) (g' := w.heap.size + 1 + 1) HWB.out H4.out H6.out (by omega) (by omega) (by omega) (fun u hu => cA.out u (HND.out.on hu)) (fun u hu => cB.out u (HND.out.on hu)) (.inr HBK.out)
         with_reducible refine bodyPost_ret (results_split Try.results55 _ _ (w.heap.size + 1) (w.heap.size + 1 + 1) _ _ _ _ _ _ _ _ 26 26 rfl (blk_dr e1) rfl (blk_dr e2)) rfl ?_
         exact ⟨_, _, _, rfl, fun u hu => ⟨cA.out u hu, cB.out u hu⟩, HK0.out, eW.drew⟩)
      | (obtain ⟨e1, e2, eA, eK, eB, eW⟩ := hlv_end (K := key) (vk := .slice kp key.length kc) (g := w.heap.size + 1 + 1) (g' := w.heap.size + 1) HWB.out H6.out H4.out (by omega) (by omega) (by omega) (fun u hu => cB.out u (HND.out.on hu)) (fun u hu => cA.out u (HND.out.on hu)) (.inr HBK.out)
         with_reducible refine bodyPost_ret (results_split Try.results55 _ _ (w.heap.size + 1) (w.heap.size + 1 + 1) _ _ _ _ _ _ _ _ 26 26 rfl (blk_dr e2) rfl (blk_dr e1)) rfl ?_
         exact ⟨_, _, _, rfl, fun u hu => ⟨cA.out u hu, cB.out u hu⟩, HK0.out, eW.drew⟩)
end Go.Proofs.Ytbkpgppaahpalaa
