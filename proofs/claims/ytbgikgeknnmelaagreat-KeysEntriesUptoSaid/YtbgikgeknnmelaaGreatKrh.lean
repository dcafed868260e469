/-
  Elem of package keys, of an edge's entry under a vertex.
-/
import Derived.Test.YtbgikgeknnmelaaGreatKrg
namespace Go.Proofs.YtbgikgeknnmelaaGreat
open Go.RowKit
set_option linter.unusedVariables false      -- a walk need not use every condition

theorem Bl.up {w : World} {v : Value} {t : List UInt8} {B B' : Nat} (h : Bl w v t B) (hb : B ≤ B') : Bl w v t B' := by
  refine ⟨h.1, ?_⟩
  rcases h.2 with h | ⟨g, o, n, c, e, hl⟩
  · exact .inl h
  · exact .inr ⟨g, o, n, c, e, by omega⟩
theorem pTake_there {v : V} (hv : bad v = 0) (hw : v.wide) (r : List UInt8) : pTake (kForm v ++ r) = .ok (v, r) := chk_ok (form_there hv hw r) ((bad_iff v).1 hv).1
set_option maxHeartbeats 1000000 in
set_option maxRecDepth 20000 in
theorem read64 (w : World) (kh vh : Value) (kt vt : List UInt8) (hk : Bs w kh kt) (hv : Bs w vh vt) :
    Calls Tryz.prog 64 #[.agg #[kh, vh]] w fun e w' => e = .returned (.pointer (some ⟨w.heap.size + 1, 0, none⟩)) ∧ ER w' (w.heap.size + 1) kt vt ∧ Below w.heap.size w w' := by
  have bk := hk.low
  have bv := hv.low
  obtain ⟨p, c, rfl, h1, h2⟩ := hk.slice
  obtain ⟨q, d, rfl, h3, h4⟩ := hv.slice
  have hb := bel2 w (.cells #[.slice p kt.length c, .slice q vt.length d] 39) (.cells #[.slice p kt.length c, .bool false, .slice q vt.length d, .bool false] 93)
  have hn := blk_new (w.alloc (.cells #[.slice p kt.length c, .slice q vt.length d] 39)) (.cells #[.slice p kt.length c, .bool false, .slice q vt.length d, .bool false] 93)
  rw [World.size_alloc] at hn
  have hER : Hid (ER ((w.alloc (.cells #[.slice p kt.length c, .slice q vt.length d] 39)).alloc (.cells #[.slice p kt.length c, .bool false, .slice q vt.length d, .bool false] 93)) (w.heap.size + 1) kt vt) :=
    ⟨p, c, q, d, hn, h1, h3, (bk.grown (gr_bel hb none) (fun j hj => by cases hj)).up (by omega), (bv.grown (gr_bel hb none) (fun j hj => by cases hj)).up (by omega)⟩
  clear hn bk bv hk hv
  generalize kt.length = K at *
  generalize vt.length = N at *
  go_enter Tryz.func64, Tryz.ntmps64
  go_wp2
  go_ret
  exact ⟨rfl, hER.out, hb⟩
theorem drop_tail (a b : List UInt8) : (a ++ b).drop ((a ++ b).length - b.length) = b := by simp
set_option maxHeartbeats 4000000 in
set_option maxRecDepth 20000 in
theorem index72o (w : World) (E : Nat) (a id : Int) (s : ByteArray) (o : Nat) (ha : bad (vEl a) = 0) (hia : I64 a) (hid : bad (eEl id) = 0) (hie : I64 id) (hsb : bad (strV s) = 0) (hnm : nm s.data.toList = true) (ho : 0 < o) (hom : o ≤ 281474976710656)
    (h : ER w E (3 :: (kForm (vEl a) ++ (kForm (strV s) ++ (kForm (eEl id) ++ [])))) (enc o ++ [])) :
    Calls Tryz.prog 72 #[.pointer (some ⟨E, 0, none⟩)] w fun e w' => ∃ sl, e = .returned (.tuple #[(eEl id).agg sl, .int .i64 o]) ∧ (eEl id).In w' 0 sl ∧ EQ E [] [] w w' := by
  have hE := h.lt
  have hw1 : (vEl a).wide := by simp [vEl, V.wide, wideL]; exact hia
  have hw2 : (strV s).wide := by simp [strV, V.wide, wideL]; unfold I64; omega
  have hw3 : (eEl id).wide := by simp [eEl, V.wide, wideL]; exact hie
  have p1 := pTake_there ha hw1 (kForm (strV s) ++ (kForm (eEl id) ++ []))
  have p2 := pTake_there hsb hw2 (kForm (eEl id) ++ [])
  have p3 := pTake_there hid hw3 []
  have l1 := kForm_len (vEl a)
  have l2 := kForm_len (strV s)
  have l3 := kForm_len (eEl id)
  have m1 : (vEl a).many = 1 := rfl
  have m3 : (eEl id).many = 1 := rfl
  have m2 : (strV s).many ≤ 200 := by
    have hm := ((bad_iff _).1 hsb).1
    simp [strV, V.may, onlyB] at hm
    simp [strV, V.many, manyL]; omega
  have d1 := drop_tail (kForm (vEl a)) (kForm (strV s) ++ (kForm (eEl id) ++ []))
  have d2 := drop_tail (kForm (strV s)) (kForm (eEl id) ++ [])
  have d3 := drop_tail (kForm (eEl id)) []
  have hlen : (kForm (vEl a) ++ (kForm (strV s) ++ (kForm (eEl id) ++ []))).length ≤ 140737488351232 := by simp; omega
  have hlen2 : (kForm (strV s) ++ (kForm (eEl id) ++ [])).length ≤ 140737488351232 := by simp; omega
  have hlen3 : (kForm (eEl id) ++ []).length ≤ 140737488351232 := by simp; omega
  have e1 : (kForm (strV s) ++ (kForm (eEl id) ++ [])).length ≤ (kForm (vEl a) ++ (kForm (strV s) ++ (kForm (eEl id) ++ []))).length := by simp
  have e2 : (kForm (eEl id) ++ []).length ≤ (kForm (strV s) ++ (kForm (eEl id) ++ [])).length := by simp
  have pn := num_there o (by omega) []
  have hb0 := bel1 w (.cells #[.int .i64 0, .int .i64 0, .string ⟨#[]⟩, .slice none 0 0] 29)
  have k0 := blk_new w (.cells #[.int .i64 0, .int .i64 0, .string ⟨#[]⟩, .slice none 0 0] 29)
  have h0 := h.on hb0
  have c87 := one87k _ E 3 _ _ h0
  have c66a := fun W h => form66k W E _ _ (enc o ++ []) h (vEl a) rfl p1 d1 e1 hlen
  have c96 := fun W h => nameForm96k W E _ _ (enc o ++ []) h s hnm p2 d2 e2 hlen2
  have c66b := fun W h => form66k W E _ _ (enc o ++ []) h (eEl id) rfl p3 d3 (by simp) hlen3
  have c70 := fun W h => id70v W E [] (enc o ++ []) [] h o pn ho hom
  generalize enc o ++ [] = VT at *
  generalize kForm (eEl id) ++ [] = K3 at *
  generalize kForm (strV s) ++ K3 = K2 at *
  generalize kForm (vEl a) ++ K2 = K1 at *
  unfold V.agg at c66a c66b ⊢
  simp only [vEl, eEl, V.k, V.n, V.s] at c66a c66b ⊢
  clear p1 p2 p3 d1 d2 d3 hlen hlen2 hlen3 e1 e2 pn l1 l2 l3 m1 m2 m3 h h0 hw1 hw2 hw3
  have tk : True := trivial
  go_enter Tryz.func72, Tryz.ntmps72
  go_wp2_with (first
    | (go_at_call 87; refine c87.mono ?_; rintro e w1 ⟨rfl, hq1⟩; have k1 := hq1.blk k0 (by omega); have Q1 := EQ.lowb hb0 hq1)
    | (go_at_call 66; clear tk; refine (c66a _ Q1.2).mono ?_; rintro e w2 ⟨sl2, rfl, hin2, hq2⟩; obtain ⟨px, nx, cx, rfl⟩ := hin2.header; have k2 := hq2.blk k1 (by omega); have Q2 := Q1.trans hq2)
    | (go_at_call 96; refine (c96 _ Q2.2).mono ?_; rintro e w3 ⟨rfl, hq3⟩; have k3 := hq3.blk k2 (by omega); have Q3 := Q2.trans hq3))
  have q3 : EQ E K3 VT w w3.drew := Q3.bel (Below.refl _ w3).drew
  have k3d : w3.drew.heap[w.heap.size]? = some (.cells #[.int .i64 0, .int .i64 0, .string ⟨#[]⟩, .slice none 0 0] 29) := k3
  clear hq1 hq2 hq3 Q1 Q2 Q3 k1 k2 k3 k0 hb0 c87 c66a c96 hin2
  go_region_held3 (fun _ => True) (trivial)
    (first
      | (go_at_call 66; refine (c66b _ q3.2).mono ?_; rintro e w4 ⟨sl4, rfl, hin4, hq4⟩; obtain ⟨py, ny, cy, rfl⟩ := hin4.header; have k4 := Lib.hid (hq4.blk k3d (by omega)); have Q4 := q3.trans hq4; have hi4 := Lib.hid (fun u : World => hin4.any (w' := u) (lo' := 0) rfl); have P4 := Lib.hid (show EQ E [] VT w (((((w4.setCell ⟨w.heap.size, 0, none⟩ (.int .i64 7)).setCell ⟨w.heap.size, 0 + 1, none⟩ (.int .i64 id)).setCell ⟨w.heap.size, 0 + 2, none⟩ (.string ⟨#[]⟩)).setCell ⟨w.heap.size, 0 + 3, none⟩ (.slice py ny cy))) from Q4.far (gr_put4 w4 w.heap.size 0 (.int .i64 7) (.int .i64 id) (.string ⟨#[]⟩) (.slice py ny cy)) hE (fun j hj => by injection hj with hj; omega)); have B4 := Lib.hid (blk_put4 k4.out (.int .i64 7) (.int .i64 id) (.string ⟨#[]⟩) (.slice py ny cy)); obtain ⟨y0, y1, y2, y3, yf⟩ := four_of k4.out; have R4 : ER w4 E [] VT := hq4.2; have R4s : ER ((((w4.setCell ⟨w.heap.size, 0, none⟩ (.int .i64 7)).setCell ⟨w.heap.size, 1, none⟩ (.int .i64 id)).setCell ⟨w.heap.size, 2, none⟩ (.string ⟨#[]⟩)).setCell ⟨w.heap.size, 3, none⟩ (.slice py ny cy)) E [] VT := P4.out.2; replace Q4 := Lib.hid Q4; clear hin4 hq4)
      | (go_at_call 70; (with_reducible refine (c70 _ R4).mono ?_); go_loud (rintro e w5 ⟨rfl, hq5⟩; have k5 := Lib.hid (hq5.blk k4.out (by omega)); obtain ⟨z0, z1, z2, z3, zf⟩ := four_of k5.out; have F5 := Lib.hid (show EQ E [] [] w ((((w5.setCell ⟨w.heap.size, 0, none⟩ (.int .i64 7)).setCell ⟨w.heap.size, 0 + 1, none⟩ (.int .i64 id)).setCell ⟨w.heap.size, 0 + 2, none⟩ (.string ⟨#[]⟩)).setCell ⟨w.heap.size, 0 + 3, none⟩ (.slice py ny cy)) from ((Q4.out.trans hq5).far (gr_put4 w5 w.heap.size 0 (.int .i64 7) (.int .i64 id) (.string ⟨#[]⟩) (.slice py ny cy)) hE (fun j hj => by injection hj with hj; omega))); clear hq5))
      | (go_at_call 70; (with_reducible refine (c70 _ R4s).mono ?_); rintro e w5 ⟨rfl, hq5⟩; have k5 := Lib.hid (hq5.blk B4.out (by omega)); obtain ⟨z0, z1, z2, z3, zf⟩ := four_of k5.out; have F5 := Lib.hid (P4.out.trans hq5); clear hq5))
  all_goals go_wp2
  all_goals (simp [bodyPost, results, Tryz.results72, go_sem, z0, z1, z2, z3])
  all_goals first
    | exact ⟨hi4.out _, F5.out⟩
    | (have F := F5.out; simp only [Nat.zero_add] at F; exact ⟨hi4.out _, F⟩)
end Go.Proofs.YtbgikgeknnmelaaGreat
