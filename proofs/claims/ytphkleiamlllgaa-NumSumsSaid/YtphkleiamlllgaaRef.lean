/-
  What Add, Sub, Mul and Neg of the document's answer do.
-/
import Derived.Test.YtphkleiamlllgaaWideA
namespace Go.Proofs.Ytphkleiamlllgaa
open Go.RowKit Go.Shelf

theorem ret_two {k k' : IntKind} {a b c d : Int} (h : a = b) (h' : c = d) : Ending.returned (.tuple #[.int k a, .int k' c]) = .returned (.tuple #[.int k b, .int k' d]) := by rw [h, h']

set_option maxHeartbeats 400000 in
theorem refAdd_any (a b : Int) (ha : fits a = true) (hb : fits b = true) (w : World) :
    Calls Try.prog 8 #[.int .i64 a, .int .i64 b] w fun e w' =>
      e = .returned (.tuple #[.int .i64 (nv (a + b)), .int .i64 (ne (a + b))]) ∧ w' = w := by
  obtain ⟨a1, a2⟩ := (fits_iff a).1 ha
  obtain ⟨b1, b2⟩ := (fits_iff b).1 hb
  clear ha hb
  by_cases hp : 0 < b
  · by_cases ht : 9223372036854775807 - b < a
    · have hn : fits (a + b) = false := by rw [fits_not]; omega
      rw [nv_no hn, ne_no hn]
      go_enter Try.func8, Try.ntmps8
      go_wp2
      go_ret2
      exact ⟨rfl, rfl⟩
    · have hn : fits (a + b) = true := by rw [fits_iff]; omega
      rw [nv_yes hn, ne_yes hn]
      go_enter Try.func8, Try.ntmps8
      go_wp2
      go_ret2
      exact ⟨rfl, rfl⟩
  · by_cases hm : b < 0
    · by_cases ht : a < -9223372036854775808 - b
      · have hn : fits (a + b) = false := by rw [fits_not]; omega
        rw [nv_no hn, ne_no hn]
        go_enter Try.func8, Try.ntmps8
        go_wp2
        go_ret2
        exact ⟨rfl, rfl⟩
      · have hn : fits (a + b) = true := by rw [fits_iff]; omega
        rw [nv_yes hn, ne_yes hn]
        go_enter Try.func8, Try.ntmps8
        go_wp2
        go_ret2
        exact ⟨rfl, rfl⟩
    · have hn : fits (a + b) = true := by rw [fits_iff]; omega
      rw [nv_yes hn, ne_yes hn]
      go_enter Try.func8, Try.ntmps8
      go_wp2
      go_ret2
      exact ⟨rfl, rfl⟩

set_option maxHeartbeats 400000 in
theorem refSub_any (a b : Int) (ha : fits a = true) (hb : fits b = true) (w : World) :
    Calls Try.prog 10 #[.int .i64 a, .int .i64 b] w fun e w' =>
      e = .returned (.tuple #[.int .i64 (nv (a - b)), .int .i64 (ne (a - b))]) ∧ w' = w := by
  obtain ⟨a1, a2⟩ := (fits_iff a).1 ha
  obtain ⟨b1, b2⟩ := (fits_iff b).1 hb
  clear ha hb
  by_cases hp : b < 0
  · by_cases ht : 9223372036854775807 + b < a
    · have hn : fits (a - b) = false := by rw [fits_not]; omega
      rw [nv_no hn, ne_no hn]
      go_enter Try.func10, Try.ntmps10
      go_wp2
      go_ret2
      exact ⟨rfl, rfl⟩
    · have hn : fits (a - b) = true := by rw [fits_iff]; omega
      rw [nv_yes hn, ne_yes hn]
      go_enter Try.func10, Try.ntmps10
      go_wp2
      go_ret2
      exact ⟨rfl, rfl⟩
  · by_cases hm : 0 < b
    · by_cases ht : a < -9223372036854775808 + b
      · have hn : fits (a - b) = false := by rw [fits_not]; omega
        rw [nv_no hn, ne_no hn]
        go_enter Try.func10, Try.ntmps10
        go_wp2
        go_ret2
        exact ⟨rfl, rfl⟩
      · have hn : fits (a - b) = true := by rw [fits_iff]; omega
        rw [nv_yes hn, ne_yes hn]
        go_enter Try.func10, Try.ntmps10
        go_wp2
        go_ret2
        exact ⟨rfl, rfl⟩
    · have hn : fits (a - b) = true := by rw [fits_iff]; omega
      rw [nv_yes hn, ne_yes hn]
      go_enter Try.func10, Try.ntmps10
      go_wp2
      go_ret2
      exact ⟨rfl, rfl⟩

set_option maxHeartbeats 400000 in
theorem refNeg_any (a : Int) (ha : fits a = true) (w : World) :
    Calls Try.prog 14 #[.int .i64 a] w fun e w' =>
      e = .returned (.tuple #[.int .i64 (nv (-a)), .int .i64 (ne (-a))]) ∧ w' = w := by
  obtain ⟨a1, a2⟩ := (fits_iff a).1 ha
  by_cases ht : a = -9223372036854775808
  · subst ht
    have hn : fits (- -9223372036854775808) = false := by decide
    rw [nv_no hn, ne_no hn]
    go_enter Try.func14, Try.ntmps14
    go_wp2
    go_ret2
    exact ⟨rfl, rfl⟩
  · have hn : fits (-a) = true := by rw [fits_iff]; omega
    rw [nv_yes hn, ne_yes hn]
    have ht' : (a == -9223372036854775808) = false := by simpa using ht
    have a3 : -9223372036854775807 ≤ a := by omega
    clear ht a1
    go_enter Try.func14, Try.ntmps14
    go_wp2
    go_ret2
    exact ⟨ret_two (by first | rfl | (unfold wrap64; omega)) rfl, rfl⟩

/-- A number without its sign. -/
def ab (n : Int) : Int := if n < 0 then -n else n
theorem ab_bd {a : Int} (ha : fits a = true) : 0 ≤ ab a ∧ ab a ≤ 9223372036854775808 := by
  have := (fits_iff a).1 ha; unfold ab; split <;> omega

set_option maxHeartbeats 400000 in
theorem bare_any (a : Int) (ha : fits a = true) (w : World) :
    Calls Try.prog 31 #[.int .i64 a] w fun e w' => e = .returned (.int .u64 (ab a)) ∧ w' = w := by
  obtain ⟨a1, a2⟩ := (fits_iff a).1 ha
  clear ha
  by_cases h : a < 0
  · go_enter Try.func31, Try.ntmps31
    go_wp2
    go_ret
    exact ⟨ret_int (by simp only [IntKind.wrap_u64]; unfold ab; rw [if_pos h]; omega), rfl⟩
  · go_enter Try.func31, Try.ntmps31
    go_wp2
    go_ret
    exact ⟨ret_int (by unfold ab; rw [if_neg (by omega)]), rfl⟩

set_option maxHeartbeats 400000 in
theorem signed_neg (u : Int) (h0 : 0 ≤ u) (h1 : u ≤ 9223372036854775808) (w : World) :
    Calls Try.prog 32 #[.bool true, .int .u64 u] w fun e w' => e = .returned (.int .i64 (-u)) ∧ w' = w := by
  go_enter Try.func32, Try.ntmps32
  go_wp2
  go_ret
  exact ⟨ret_int (by simp only [IntKind.wrap_u64]; unfold wrap64; omega), rfl⟩

set_option maxHeartbeats 400000 in
theorem signed_not (u : Int) (h0 : 0 ≤ u) (h1 : u ≤ 9223372036854775807) (w : World) :
    Calls Try.prog 32 #[.bool false, .int .u64 u] w fun e w' => e = .returned (.int .i64 u) ∧ w' = w := by
  go_enter Try.func32, Try.ntmps32
  go_wp2
  go_ret
  exact ⟨ret_int (by first | rfl | (simp only [IntKind.wrap_i64]; omega)), rfl⟩

theorem ab_unlike {a b : Int} (hs : (decide (a < 0) == decide (b < 0)) = false) : a * b = -(ab a * ab b) := by
  unfold ab
  by_cases ca : a < 0 <;> by_cases cb : b < 0 <;> simp [ca, cb, Int.neg_mul, Int.mul_neg] at hs ⊢
theorem ab_like {a b : Int} (hs : (decide (a < 0) == decide (b < 0)) = true) : a * b = ab a * ab b := by
  unfold ab
  by_cases ca : a < 0 <;> by_cases cb : b < 0 <;> simp [ca, cb, Int.neg_mul, Int.mul_neg] at hs ⊢

theorem ab_zero {a : Int} (h : (ab a == 0) = true) : a = 0 := by
  have h' : ab a = 0 := by simpa using h
  unfold ab at h'; split at h' <;> omega

set_option maxHeartbeats 400000 in
/-- The signs are unlike. -/
theorem refMul_unlike (a b : Int) (ha : fits a = true) (hb : fits b = true) (za : (ab a == 0) = false) (zb : (ab b == 0) = false) (hs : (decide (a < 0) == decide (b < 0)) = false) (w : World) :
    Calls Try.prog 12 #[.int .i64 a, .int .i64 b] w fun e w' =>
      e = .returned (.tuple #[.int .i64 (nv (a * b)), .int .i64 (ne (a * b))]) ∧ w' = w := by
  obtain ⟨a0, a1⟩ := ab_bd ha
  obtain ⟨b0, b1⟩ := ab_bd hb
  have hp := ab_unlike hs
  have b2 : 0 < ab b := by have : ab b ≠ 0 := by simpa using zb
                           omega
  have hd := Int.le_ediv_iff_mul_le (a := ab a) (b := 9223372036854775808) b2
  obtain ⟨q, hq⟩ : ∃ q, ab a * ab b = q := ⟨_, rfl⟩
  rw [hq] at hd hp
  have q0 : 0 ≤ q := by rw [← hq]; exact Int.mul_nonneg a0 b0
  rw [hp]
  clear hp
  by_cases ht : 9223372036854775808 / ab b < ab a
  · have hn : fits (-q) = false := by rw [fits_not]; omega
    rw [nv_no hn, ne_no hn]
    clear hd hq
    go_enter Try.func12, Try.ntmps12
    go_wp2_with (first
      | (go_at_call 31; refine (bare_any _ (by assumption) _).mono ?_; rintro e w' ⟨rfl, rfl⟩))
    go_ret2
    exact ⟨rfl, rfl⟩
  · have hn : fits (-q) = true := by rw [fits_iff]; omega
    have q1 : q ≤ 9223372036854775808 := by omega
    have hw : IntKind.u64.wrap q = q := by rw [IntKind.wrap_u64]; omega
    rw [nv_yes hn, ne_yes hn]
    clear hd hn
    go_enter Try.func12, Try.ntmps12
    go_wp2_with (first
      | (go_at_call 31; refine (bare_any _ (by assumption) _).mono ?_; rintro e w' ⟨rfl, rfl⟩)
      | (go_at_call 32; refine (signed_neg q q0 q1 _).mono ?_; rintro e w' ⟨rfl, rfl⟩))
    go_ret2
    exact ⟨rfl, rfl⟩

set_option maxHeartbeats 400000 in
/-- The signs are alike. -/
theorem refMul_like (a b : Int) (ha : fits a = true) (hb : fits b = true) (za : (ab a == 0) = false) (zb : (ab b == 0) = false) (hs : (decide (a < 0) == decide (b < 0)) = true) (w : World) :
    Calls Try.prog 12 #[.int .i64 a, .int .i64 b] w fun e w' =>
      e = .returned (.tuple #[.int .i64 (nv (a * b)), .int .i64 (ne (a * b))]) ∧ w' = w := by
  obtain ⟨a0, a1⟩ := ab_bd ha
  obtain ⟨b0, b1⟩ := ab_bd hb
  have hp := ab_like hs
  have b2 : 0 < ab b := by have : ab b ≠ 0 := by simpa using zb
                           omega
  have hd := Int.le_ediv_iff_mul_le (a := ab a) (b := 9223372036854775807) b2
  obtain ⟨q, hq⟩ : ∃ q, ab a * ab b = q := ⟨_, rfl⟩
  rw [hq] at hd hp
  have q0 : 0 ≤ q := by rw [← hq]; exact Int.mul_nonneg a0 b0
  rw [hp]
  clear hp
  by_cases ht : 9223372036854775807 / ab b < ab a
  · have hn : fits q = false := by rw [fits_not]; omega
    rw [nv_no hn, ne_no hn]
    clear hd hq
    go_enter Try.func12, Try.ntmps12
    go_wp2_with (first
      | (go_at_call 31; refine (bare_any _ (by assumption) _).mono ?_; rintro e w' ⟨rfl, rfl⟩))
    go_ret2
    exact ⟨rfl, rfl⟩
  · have hn : fits q = true := by rw [fits_iff]; omega
    have q1 : q ≤ 9223372036854775807 := by omega
    have hw : IntKind.u64.wrap q = q := by rw [IntKind.wrap_u64]; omega
    rw [nv_yes hn, ne_yes hn]
    clear hd hn
    go_enter Try.func12, Try.ntmps12
    go_wp2_with (first
      | (go_at_call 31; refine (bare_any _ (by assumption) _).mono ?_; rintro e w' ⟨rfl, rfl⟩)
      | (go_at_call 32; refine (signed_not q q0 q1 _).mono ?_; rintro e w' ⟨rfl, rfl⟩))
    go_ret2
    exact ⟨rfl, rfl⟩

set_option maxHeartbeats 400000 in
theorem refMul_zero (a b : Int) (ha : fits a = true) (hb : fits b = true) (za : (ab a == 0) = true) (w : World) :
    Calls Try.prog 12 #[.int .i64 a, .int .i64 b] w fun e w' =>
      e = .returned (.tuple #[.int .i64 (nv (a * b)), .int .i64 (ne (a * b))]) ∧ w' = w := by
  have e1 : nv (a * b) = 0 := by rw [ab_zero za, Int.zero_mul]; decide
  have e2 : ne (a * b) = 0 := by rw [ab_zero za, Int.zero_mul]; decide
  rw [e1, e2]
  clear e1 e2
  go_enter Try.func12, Try.ntmps12
  go_wp2_with (first
      | (go_at_call 31; refine (bare_any _ (by assumption) _).mono ?_; rintro e w' ⟨rfl, rfl⟩))
  go_ret2
  exact ⟨rfl, rfl⟩

set_option maxHeartbeats 400000 in
theorem refMul_zero' (a b : Int) (ha : fits a = true) (hb : fits b = true) (za : (ab a == 0) = false) (zb : (ab b == 0) = true) (w : World) :
    Calls Try.prog 12 #[.int .i64 a, .int .i64 b] w fun e w' =>
      e = .returned (.tuple #[.int .i64 (nv (a * b)), .int .i64 (ne (a * b))]) ∧ w' = w := by
  have e1 : nv (a * b) = 0 := by rw [ab_zero zb, Int.mul_zero]; decide
  have e2 : ne (a * b) = 0 := by rw [ab_zero zb, Int.mul_zero]; decide
  rw [e1, e2]
  clear e1 e2
  go_enter Try.func12, Try.ntmps12
  go_wp2_with (first
      | (go_at_call 31; refine (bare_any _ (by assumption) _).mono ?_; rintro e w' ⟨rfl, rfl⟩))
  go_ret2
  exact ⟨rfl, rfl⟩

theorem refMul_any (a b : Int) (ha : fits a = true) (hb : fits b = true) (w : World) :
    Calls Try.prog 12 #[.int .i64 a, .int .i64 b] w fun e w' =>
      e = .returned (.tuple #[.int .i64 (nv (a * b)), .int .i64 (ne (a * b))]) ∧ w' = w := by
  rcases Bool.eq_false_or_eq_true (ab a == 0) with za | za
  · exact refMul_zero a b ha hb za w
  rcases Bool.eq_false_or_eq_true (ab b == 0) with zb | zb
  · exact refMul_zero' a b ha hb za zb w
  rcases Bool.eq_false_or_eq_true (decide (a < 0) == decide (b < 0)) with hs | hs
  · exact refMul_like a b ha hb za zb hs w
  · exact refMul_unlike a b ha hb za zb hs w

end Go.Proofs.Ytphkleiamlllgaa
