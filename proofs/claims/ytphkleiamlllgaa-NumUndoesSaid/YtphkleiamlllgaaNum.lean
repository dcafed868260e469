/-
  What Add, Sub, Mul and Neg of package num do.
-/
import Derived.Test.YtphkleiamlllgaaWideB
namespace Go.Proofs.Ytphkleiamlllgaa
open Go.RowKit Go.Shelf

set_option maxHeartbeats 400000 in
theorem numAdd_any (a b : Int) (ha : fits a = true) (hb : fits b = true) (w : World) :
    Calls Try.prog 7 #[.int .i64 a, .int .i64 b] w fun e w' =>
      e = .returned (.tuple #[.int .i64 (nv (a + b)), .int .i64 (ne (a + b))]) ∧ Gb w w' := by
  have h1 := (fits_iff a).1 ha
  have h2 := (fits_iff b).1 hb
  have k1 : -170141183460469231731687303715884105728 ≤ a + b := by omega
  have k2 : a + b < 170141183460469231731687303715884105728 := by omega
  clear h1 h2
  go_enter Try.func7, Try.ntmps7
  go_wp2_with (first
    | (go_at_call 26; refine (widen_any a ha w).mono ?_; rintro e w' ⟨rfl, c1, rfl⟩)
    | (go_at_call 26; refine (widen_any b hb _).mono ?_; rintro e w' ⟨rfl, c2, rfl⟩)
    | (go_at_call 27; refine (plus_any a b _).mono ?_; rintro e w3 ⟨rfl, hg3⟩)
    | (go_at_call 28; refine (narrow_any (a + b) k1 k2 _).mono ?_; rintro e w4 ⟨rfl, hg4⟩))
  go_ret2
  exact ⟨rfl, Gb.trans (((Gb.refl _).alloc _ _).alloc _ _) (Gb.trans hg3 hg4)⟩

set_option maxHeartbeats 400000 in
theorem numSub_any (a b : Int) (ha : fits a = true) (hb : fits b = true) (w : World) :
    Calls Try.prog 9 #[.int .i64 a, .int .i64 b] w fun e w' =>
      e = .returned (.tuple #[.int .i64 (nv (a - b)), .int .i64 (ne (a - b))]) ∧ Gb w w' := by
  have h1 := (fits_iff a).1 ha
  have h2 := (fits_iff b).1 hb
  have k1 : -170141183460469231731687303715884105728 ≤ a - b := by omega
  have k2 : a - b < 170141183460469231731687303715884105728 := by omega
  clear h1 h2
  go_enter Try.func9, Try.ntmps9
  go_wp2_with (first
    | (go_at_call 26; refine (widen_any a ha w).mono ?_; rintro e w' ⟨rfl, c1, rfl⟩)
    | (go_at_call 26; refine (widen_any b hb _).mono ?_; rintro e w' ⟨rfl, c2, rfl⟩)
    | (go_at_call 29; refine (minus_any a b _).mono ?_; rintro e w3 ⟨rfl, hg3⟩)
    | (go_at_call 28; refine (narrow_any (a - b) k1 k2 _).mono ?_; rintro e w4 ⟨rfl, hg4⟩))
  go_ret2
  exact ⟨rfl, Gb.trans (((Gb.refl _).alloc _ _).alloc _ _) (Gb.trans hg3 hg4)⟩

set_option maxHeartbeats 400000 in
theorem numMul_any (a b : Int) (ha : fits a = true) (hb : fits b = true) (w : World) :
    Calls Try.prog 11 #[.int .i64 a, .int .i64 b] w fun e w' =>
      e = .returned (.tuple #[.int .i64 (nv (a * b)), .int .i64 (ne (a * b))]) ∧ Gb w w' := by
  obtain ⟨k1, k2⟩ := mul_bd a b ha hb
  go_enter Try.func11, Try.ntmps11
  go_wp2_with (first
    | (go_at_call 30; refine (product_any a b ha hb _).mono ?_; rintro e w3 ⟨rfl, hg3⟩)
    | (go_at_call 28; refine (narrow_any (a * b) k1 k2 _).mono ?_; rintro e w4 ⟨rfl, hg4⟩))
  go_ret2
  exact ⟨rfl, Gb.trans hg3 hg4⟩

theorem fits_zero : fits 0 = true := by decide

set_option maxHeartbeats 400000 in
theorem numNeg_any (a : Int) (ha : fits a = true) (w : World) :
    Calls Try.prog 13 #[.int .i64 a] w fun e w' =>
      e = .returned (.tuple #[.int .i64 (nv (-a)), .int .i64 (ne (-a))]) ∧ Gb w w' := by
  have hz := numSub_any 0 a fits_zero ha
  simp only [Int.zero_sub] at hz
  go_enter Try.func13, Try.ntmps13
  go_wp2_with (go_at_call 9; refine (hz _).mono ?_; rintro e w3 ⟨rfl, hg3⟩)
  go_ret2
  exact ⟨rfl, hg3⟩

end Go.Proofs.Ytphkleiamlllgaa
