/-
  Elem of package keys, of an edge's entry under a vertex.
-/
import Derived.Test.YtbgikgeknnmelaaGreatZKrdKrfKrgKrh
namespace Go.Proofs.YtbgikgeknnmelaaGreat
open Go.RowKit
set_option linter.unusedVariables false      -- a walk need not use every condition

set_option maxHeartbeats 4000000 in
set_option maxRecDepth 20000 in
theorem elem38o (w : World) (kh vh : Value) (a id : Int) (s : ByteArray) (o : Nat) (ha : bad (vEl a) = 0) (hia : I64 a) (hid : bad (eEl id) = 0) (hie : I64 id) (hsb : bad (strV s) = 0) (hnm : nm s.data.toList = true) (ho : 0 < o) (hom : o ≤ 281474976710656)
    (hk : Bs w kh (3 :: (kForm (vEl a) ++ (kForm (strV s) ++ (kForm (eEl id) ++ []))))) (hv : Bs w vh (enc o ++ [])) :
    Calls Tryz.prog 38 #[.agg #[kh, vh]] w fun e w' => ∃ sl, e = .returned (.tuple #[(eEl id).agg sl, .int .i64 o, .int .i64 0]) ∧ (eEl id).In w' 0 sl ∧ Below w.heap.size w w' := by
  obtain ⟨pk, ck, rfl, hk1⟩ := hk.slice
  obtain ⟨pv, cv, rfl, hv1⟩ := hv.slice
  have c72 := fun W E h => index72o W E a id s o ha hia hid hie hsb hnm ho hom h
  generalize (3 :: (kForm (vEl a) ++ (kForm (strV s) ++ (kForm (eEl id) ++ []))) : List UInt8) = KT' at *
  generalize enc o ++ [] = VT at *
  generalize KT'.length = KL at *
  generalize VT.length = VL at *
  have hb0 := bel2 w (.cells #[.slice pk KL ck, .slice pv VL cv] 39) (.cells #[.int .i64 0, .int .i64 0, .string ⟨#[]⟩, .slice none 0 0] 29)
  have k0 := blk_new (w.alloc (.cells #[.slice pk KL ck, .slice pv VL cv] 39)) (.cells #[.int .i64 0, .int .i64 0, .string ⟨#[]⟩, .slice none 0 0] 29)
  rw [World.size_alloc] at k0
  have c64 := read64 _ _ _ _ _ (hk.on hb0) (hv.on hb0)
  unfold V.agg at c72 ⊢
  simp only [eEl, V.k, V.n, V.s] at c72 ⊢
  clear hk hv
  go_enter Tryz.func38, Tryz.ntmps38
  go_wp2_with (fail)
  refine c64.mono ?_
  rintro e w1 ⟨rfl, hER, hB1⟩
  have k1 := blk_on hB1 k0
  have B1 := bel_then hb0 hB1
  simp only [World.size_alloc] at hER ⊢
  obtain ⟨E, hE⟩ : ∃ E, w.heap.size + 1 + 1 + 1 = E := ⟨_, rfl⟩
  have hEw : w.heap.size + 1 < E := by omega
  have hEw0 : w.heap.size ≤ E := by omega
  rw [hE] at hER ⊢
  clear hE c64 hb0 k0 hB1
  go_wp2_with (fail)
  refine (c72 w1 E hER).mono ?_
  rintro e w2 ⟨sl, rfl, hin, hq⟩
  obtain ⟨p1, n1, q1, rfl⟩ := hin.header
  have k2 := hq.blk k1 (by omega)
  have B2 : Below w.heap.size w w2 := B1.grown hq.1 B1.size (fun k e => by injection e with e; omega)
  have hi := Lib.hid (fun u : World => hin.any (w' := u) (lo' := 0) rfl)
  have c69 := check69 (w2.alloc (.cells #[.int .i64 7, .int .i64 id, .string ⟨#[]⟩, .slice p1 n1 q1] 29)) E (hq.2.on (bel1 w2 _))
  have k3 := blk_old (o' := .cells #[.int .i64 7, .int .i64 id, .string ⟨#[]⟩, .slice p1 n1 q1] 29) k2
  have kn := blk_new w2 (.cells #[.int .i64 7, .int .i64 id, .string ⟨#[]⟩, .slice p1 n1 q1] 29)
  obtain ⟨y0, y1, y2, y3, yf⟩ := four_of k3
  obtain ⟨z0, z1, z2, z3, zf⟩ := four_of kn
  have B3 := bel_al B2 (.cells #[.int .i64 7, .int .i64 id, .string ⟨#[]⟩, .slice p1 n1 q1] 29)
  have B4 := B3.trans (below_put4 (w := w2.alloc (.cells #[.int .i64 7, .int .i64 id, .string ⟨#[]⟩, .slice p1 n1 q1] 29)) (g := w.heap.size + 1) (i := 0) (B := w.heap.size) (by omega) (.int .i64 7) (.int .i64 id) (.string ⟨#[]⟩) (.slice p1 n1 q1))
  unfold put4 at B4
  clear hin hq k1 k2 k3 kn c72 B1 B2 B3 hER
  go_wp2_with (fail)
  refine c69.mono ?_
  rintro e w3 ⟨rfl, rfl⟩
  go_wp2
  simp [bodyPost, results, Tryz.results38, go_sem, y0, y1, y2, y3]
  exact ⟨hi.out _, B4⟩
end Go.Proofs.YtbgikgeknnmelaaGreat
