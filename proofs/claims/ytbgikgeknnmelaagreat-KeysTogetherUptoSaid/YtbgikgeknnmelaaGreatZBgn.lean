/-
  What the statements' own begun does: the entries of an edge, and what one names.
-/
import Derived.Test.YtbgikgeknnmelaaGreatZElm
import Derived.Test.YtbgikgeknnmelaaGreatRef
namespace Go.Proofs.YtbgikgeknnmelaaGreat
open Go.RowKit
set_option linter.unusedVariables false      -- a walk need not use every condition

set_option maxHeartbeats 400000 in
theorem refVertex35 (n : Int) (w : World) : Calls Tryz.prog 35 #[.int .i64 n] w fun e w' => e = .returned (.agg #[.int .i64 6, .int .i64 n, .string ⟨#[]⟩, .slice none 0 0]) ∧ Below w.heap.size w w' := by
  go_enter Tryz.func35, Tryz.ntmps35
  go_wp2
  simp [bodyPost, results, Tryz.results35, go_sem]
  exact bel1 w _
set_option maxHeartbeats 400000 in
theorem refEdge36 (n : Int) (w : World) : Calls Tryz.prog 36 #[.int .i64 n] w fun e w' => e = .returned (.agg #[.int .i64 7, .int .i64 n, .string ⟨#[]⟩, .slice none 0 0]) ∧ Below w.heap.size w w' := by
  go_enter Tryz.func36, Tryz.ntmps36
  go_wp2
  simp [bodyPost, results, Tryz.results36, go_sem]
  exact bel1 w _
def knows : ByteArray := ⟨#[107, 110, 111, 119, 115]⟩
def lkB : Lk := ⟨3, knows, 1, 2, []⟩
def keyB : List UInt8 := [1, 6, 128, 0, 0, 0, 0, 0, 0, 1]
/-- Bytes that were just laid. -/
theorem bs_lit (w : World) (t : List UInt8) (ht : t.length ≤ maxLen) : Bs (w.alloc (.cells (t.map fun c => Value.int .u8 c.toNat).toArray 5)) (.slice (some ⟨w.heap.size, 0, none⟩) t.length t.length) t := by
  refine ⟨_, t.length, rfl, Nat.le_refl _, ht, fun e => (by cases e), .inr ⟨w.heap.size, 0, rfl, fun i hi => ?_⟩⟩
  have hc := cells_new w (t.map fun c => Value.int .u8 c.toNat) 5 i (.int .u8 t[i].toNat) (by simp [hi])
  rw [Go.WideShapes.add_plain] at hc
  exact hc
theorem key_b : keyQ (vEl 1) = keyB := by decide +kernel
theorem len_b : (lkQ lkB).length = 4 := by decide +kernel
theorem lit_b (w : World) : Bs (w.alloc (.cells #[.int .u8 1, .int .u8 6, .int .u8 128, .int .u8 0, .int .u8 0, .int .u8 0, .int .u8 0, .int .u8 0, .int .u8 0, .int .u8 1] 5)) (.slice (some ⟨w.heap.size, 0, none⟩) 10 10) keyB :=
  bs_lit w keyB (by unfold maxLen; decide)
def oneK : List UInt8 := 3 :: (kForm (vEl 1) ++ (kForm (strV knows) ++ (kForm (eEl 3) ++ [])))
theorem one_k : ((lkQ lkB)[1]?).map (·.key) = some oneK := by decide +kernel
theorem one_v : ((lkQ lkB)[1]?).map (·.val) = some (enc 2 ++ []) := by decide +kernel
theorem one_b {h : 1 < (lkQ lkB).length} : (lkQ lkB)[1].key = oneK ∧ (lkQ lkB)[1].val = enc 2 ++ [] := by
  have k := one_k
  have v := one_v
  rw [List.getElem?_eq_getElem h] at k v
  exact ⟨by simpa using k, by simpa using v⟩
theorem nm_b : nm knows.data.toList = true := by decide +kernel
theorem bad_b : bad (vEl 1) = 0 ∧ bad (strV knows) = 0 ∧ bad (eEl 3) = 0 := by decide +kernel
set_option maxHeartbeats 4000000 in
set_option maxRecDepth 20000 in
theorem begun8 (w : World) : Calls Tryz.prog 8 #[] w fun e w' => e = .returned (.bool true) ∧ Below w.heap.size w w' := by
  have c12 := fun w => edge12 lkB (.slice none 0 0) w ⟨by unfold I64; decide, by unfold S64; decide, by unfold I64; decide, by unfold I64; decide, ⟨none, 0, rfl, Nat.le_refl _, by unfold maxLen; omega, by decide, .inl rfl⟩⟩ (by decide) (by decide)
  have c19 := fun W => key19 (vEl 1) (.slice none 0 0) W (in_plain (by unfold I64; omega) (by unfold I64; omega) (by decide) W 0) (by decide)
  rw [key_b] at c19
  unfold Lk.agg at c12
  unfold V.agg at c19
  simp only [lkB, vEl, V.k, V.n, V.s] at c12 c19
  have hL : (lkQ ⟨3, knows, 1, 2, []⟩).length = 4 := len_b
  have h1 : 1 < (lkQ ⟨3, knows, 1, 2, []⟩).length := by omega
  have ho := one_b (h := h1)
  have c38 := fun W kh vh hk hv => elem38o W kh vh 1 3 knows 2 bad_b.1 (by unfold I64; omega) bad_b.2.2 (by unfold I64; omega) bad_b.2.1 nm_b (by omega) (by omega) hk hv
  have hE3 : ∀ W, (eEl 3).In W 0 (.slice none 0 0) := fun W => in_plain (by unfold I64; omega) (by unfold I64; omega) (by decide) W 0
  have c39 := fun W sl h => refSame_any (eEl 3) (eEl 3) sl (.slice none 0 0) W h (hE3 W)
  rw [show (V.cmp (eEl 3) (eEl 3) == 0) = true by rw [cmp_self]; rfl] at c39
  unfold V.agg at c38 c39
  simp only [eEl, V.k, V.n, V.s] at c38 c39
  have lb := fun W => lit_b W
  have hoK : Hid (oneK = 3 :: (kForm (vEl 1) ++ (kForm (strV knows) ++ (kForm (V.mk 7 3 ⟨#[]⟩ []) ++ [])))) := (rfl : _ = _)
  rw [← hoK.out] at c38
  have hkn : knows = ⟨#[107, 110, 111, 119, 115]⟩ := rfl
  have ho1 : (lkQ ⟨3, knows, 1, 2, []⟩)[1].key = oneK := ho.1
  have ho2 : (lkQ ⟨3, knows, 1, 2, []⟩)[1].val = enc 2 ++ [] := ho.2
  clear ho
  generalize lkQ ⟨3, knows, 1, 2, []⟩ = LQ at *
  rw [hkn] at c12
  generalize keyB = KB at *
  generalize oneK = OK at *
  generalize enc 2 ++ [] = OV at *
  clear hkn hoK
  go_enter Tryz.func8, Tryz.ntmps8
  go_wp2_with (fail)
  refine (c12 w).mono ?_
  rintro e w1 ⟨v1, rfl, hr1, hB1⟩
  obtain ⟨p, cap, rfl, hcl, hcm, hx⟩ := hr1.es
  obtain ⟨g, o, rfl, hc⟩ := hx.resolve_left (by intro e; rw [e] at h1; simp at h1)
  obtain ⟨kh, vh, c0, c1, k0, k1⟩ := hc 1 h1
  rw [ho1] at k0
  rw [ho2] at k1
  rw [hL] at hcl ⊢
  unfold maxLen at hcm
  clear hc hx hr1 ho1 ho2 hL h1 c12
  go_wp2_with (fail)
  refine (refVertex35 1 _).mono ?_
  rintro e w2 ⟨rfl, hB2⟩
  go_wp2_with (fail)
  refine (c19 _).mono ?_
  rintro e w3 ⟨b3, rfl, hb3, hB3⟩
  obtain ⟨p3, n3, q3, rfl⟩ := bts_hdr hb3
  have c14 := equal14 (w3.alloc (.cells #[.int .u8 1, .int .u8 6, .int .u8 128, .int .u8 0, .int .u8 0, .int .u8 0, .int .u8 0, .int .u8 0, .int .u8 0, .int .u8 1] 5)) _ _ KB KB (hb3.bs.on (bel1 w3 _)) (lb w3)
  rw [beq_self_eq_true] at c14
  have B3 := bel_al (bel_then (bel_then hB1 hB2) hB3) (.cells #[.int .u8 1, .int .u8 6, .int .u8 128, .int .u8 0, .int .u8 0, .int .u8 0, .int .u8 0, .int .u8 0, .int .u8 0, .int .u8 1] 5)
  have B13 := bel_al (bel_then hB2 hB3) (.cells #[.int .u8 1, .int .u8 6, .int .u8 128, .int .u8 0, .int .u8 0, .int .u8 0, .int .u8 0, .int .u8 0, .int .u8 0, .int .u8 1] 5)
  have d0 := some_on B13 c0
  have d1 := some_on B13 c1
  have k0' := k0.on B13
  have k1' := k1.on B13
  clear c0 c1 k0 k1 hb3 hB1 hB2 hB3 B13 c19 lb
  go_wp2_with (fail)
  refine c14.mono ?_
  rintro e w4 ⟨rfl, rfl⟩
  clear c14
  generalize w3.alloc (.cells #[.int .u8 1, .int .u8 6, .int .u8 128, .int .u8 0, .int .u8 0, .int .u8 0, .int .u8 0, .int .u8 0, .int .u8 0, .int .u8 1] 5) = W4 at *
  go_wp2_with (fail)
  refine (c38 W4 kh vh k0' k1').mono ?_
  rintro e w5 ⟨sl, rfl, hin, hB5⟩
  obtain ⟨p5, n5, q5, rfl⟩ := hin.header
  have B5 := bel_then B3 hB5
  clear B3 hB5 d0 d1 k0' k1' c38 hcl hcm
  go_wp2
  have E5 := blk_new w5 (.cells #[.int .i64 7, .int .i64 3, .string ⟨#[]⟩, .slice p5 n5 q5] 29)
  have S0 := four_S E5
  have S1 := S0
  have S2 := S0
  have B6 := bel_drew (bel_al B5 (.cells #[.int .i64 7, .int .i64 3, .string ⟨#[]⟩, .slice p5 n5 q5] 29))
  have hi := Lib.hid (fun u : World => hin.any (w' := u) (lo' := 0) rfl)
  clear B5 E5 hin
  generalize w5.alloc (.cells #[.int .i64 7, .int .i64 3, .string ⟨#[]⟩, .slice p5 n5 q5] 29) = W6 at *
  generalize w5.heap.size = G at *
  go_region_held3 (fun u => u.cell? ⟨G, 0, none⟩ = some (.int .i64 7) ∧ u.cell? ⟨G, 1, none⟩ = some (.int .i64 3) ∧ u.cell? ⟨G, 2, none⟩ = some (.string ⟨#[]⟩) ∧ u.cell? ⟨G, 3, none⟩ = some (.slice p5 n5 q5))
    (first | with_reducible exact S_dr S0 | with_reducible exact S1 | with_reducible exact S2)
    (first
      | (go_at_call 36; refine (refEdge36 3 _).mono ?_; rintro e w7 ⟨rfl, hB7⟩; have S1 := S_on hB7 (S_dr S0); have B7 := bel_then B6 hB7)
      | (go_at_call 39; refine (c39 _ _ (hi.out _)).mono ?_; rintro e w8 ⟨rfl, hB8⟩; have S2 := S_on hB8 S1; have B8 := Lib.hid (bel_then B7 hB8)))
  all_goals go_wp2
  all_goals go_ret
  all_goals exact ⟨rfl, B8.out⟩
end Go.Proofs.YtbgikgeknnmelaaGreat
