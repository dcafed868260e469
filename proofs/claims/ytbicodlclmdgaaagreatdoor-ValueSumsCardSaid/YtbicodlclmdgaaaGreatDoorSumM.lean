/-
  Sums of numbers: plain mathematics.
-/
namespace Go.Proofs.YtbicodlclmdgaaaGreatDoor.sums

/-- The high word of a whole number's 128 bits. -/
def wHi (x : Int) : Int := x / 18446744073709551616 % 18446744073709551616
/-- The low word. -/
def wLo (x : Int) : Int := x % 18446744073709551616
/-- Sub64's borrow. -/
def bor (x y : Int) : Int := if x < y then 1 else 0
/-- What is answered of a result: itself and OK (0) where an int64 is that, else 0 and ErrOver (7). -/
def fits (x : Int) : Bool := decide (-9223372036854775808 ≤ x) && decide (x ≤ 9223372036854775807)
def nv (x : Int) : Int := if fits x then x else 0
def ne (x : Int) : Int := if fits x then 0 else 7
/-- The word of a sign. -/
def sb (n : Int) : Int := if n < 0 then 18446744073709551615 else 0

theorem wHi_bd (x : Int) : 0 ≤ wHi x ∧ wHi x < 18446744073709551616 := by unfold wHi; omega
theorem wLo_bd (x : Int) : 0 ≤ wLo x ∧ wLo x < 18446744073709551616 := by unfold wLo; omega
theorem bor_bd (x y : Int) : 0 ≤ bor x y ∧ bor x y ≤ 1 := by unfold bor; split <;> omega
theorem fits_iff (x : Int) : fits x = true ↔ -9223372036854775808 ≤ x ∧ x ≤ 9223372036854775807 := by unfold fits; simp
theorem fits_not (x : Int) : fits x = false ↔ ¬ (-9223372036854775808 ≤ x ∧ x ≤ 9223372036854775807) := by rw [← fits_iff]; simp
theorem nv_yes {x : Int} (h : fits x = true) : nv x = x := by unfold nv; simp [h]
theorem ne_yes {x : Int} (h : fits x = true) : ne x = 0 := by unfold ne; simp [h]
theorem nv_no {x : Int} (h : fits x = false) : nv x = 0 := by unfold nv; simp [h]
theorem ne_no {x : Int} (h : fits x = false) : ne x = 7 := by unfold ne; simp [h]
theorem nv_bd (x : Int) : -9223372036854775808 ≤ nv x ∧ nv x ≤ 9223372036854775807 := by
  by_cases h : fits x = true
  · rw [nv_yes h]; exact (fits_iff x).1 h
  · rw [nv_no (by simpa using h)]; omega

theorem plus_hi (x y : Int) : (wHi x + wHi y + (wLo x + wLo y) / 18446744073709551616) % 18446744073709551616 = wHi (x + y) := by unfold wHi wLo; omega
theorem plus_lo (x y : Int) : (wLo x + wLo y) % 18446744073709551616 = wLo (x + y) := by unfold wLo; omega
theorem minus_hi (x y : Int) : (wHi x - wHi y - bor (wLo x) (wLo y)) % 18446744073709551616 = wHi (x - y) := by unfold wHi wLo bor; split <;> omega
theorem minus_lo (x y : Int) : (wLo x - wLo y) % 18446744073709551616 = wLo (x - y) := by unfold wLo; omega
theorem sb_wide {n : Int} (h : fits n = true) : sb n = wHi n := by
  have := (fits_iff n).1 h; unfold sb wHi; split <;> omega

/-- The product: of the words without their signs the high half has the other one once too often for each sign. -/
theorem prod_lo (a b : Int) : (a % 18446744073709551616) * (b % 18446744073709551616) % 18446744073709551616 = wLo (a * b) := by
  unfold wLo; exact (Int.mul_emod a b 18446744073709551616).symm
theorem prod_hi (a b : Int) (ha : fits a = true) (hb : fits b = true) :
    (((a % 18446744073709551616) * (b % 18446744073709551616) / 18446744073709551616 - (if a < 0 then b % 18446744073709551616 else 0)) % 18446744073709551616 - (if b < 0 then a % 18446744073709551616 else 0)) % 18446744073709551616 = wHi (a * b) := by
  have h1 := (fits_iff a).1 ha
  have h2 := (fits_iff b).1 hb
  obtain ⟨p, hp⟩ : ∃ p, (a % 18446744073709551616) * (b % 18446744073709551616) = p := ⟨_, rfl⟩
  have key : a * b = p - (if a < 0 then b % 18446744073709551616 else 0) * 18446744073709551616 - (if b < 0 then a % 18446744073709551616 else 0) * 18446744073709551616 + (if a < 0 ∧ b < 0 then 18446744073709551616 * 18446744073709551616 else 0) := by
    by_cases ca : a < 0 <;> by_cases cb : b < 0
    · have ea : a % 18446744073709551616 = a + 18446744073709551616 := by omega
      have eb : b % 18446744073709551616 = b + 18446744073709551616 := by omega
      rw [ea, eb] at hp ⊢
      simp only [ca, cb, and_self, if_true]
      rw [Int.add_mul, Int.mul_add, Int.mul_add] at hp
      omega
    · have ea : a % 18446744073709551616 = a + 18446744073709551616 := by omega
      have eb : b % 18446744073709551616 = b := by omega
      rw [ea, eb] at hp ⊢
      simp only [ca, cb, and_false, if_true, if_false]
      rw [Int.add_mul] at hp
      omega
    · have ea : a % 18446744073709551616 = a := by omega
      have eb : b % 18446744073709551616 = b + 18446744073709551616 := by omega
      rw [ea, eb] at hp ⊢
      simp only [ca, cb, false_and, if_true, if_false]
      rw [Int.mul_add] at hp
      omega
    · have ea : a % 18446744073709551616 = a := by omega
      have eb : b % 18446744073709551616 = b := by omega
      rw [ea, eb] at hp ⊢
      simp only [ca, cb, and_self, if_false]
      omega
  rw [hp, key]
  unfold wHi
  by_cases ca : a < 0 <;> by_cases cb : b < 0 <;> simp only [ca, cb, and_self, and_false, false_and, if_true, if_false] <;> omega

/-- Which wide number an int64 is. -/
theorem narrow_iff (x : Int) (h1 : -170141183460469231731687303715884105728 ≤ x) (h2 : x < 170141183460469231731687303715884105728) :
    fits x = true ↔ sb ((wLo x + 9223372036854775808) % 18446744073709551616 - 9223372036854775808) = wHi x := by
  rw [fits_iff]; unfold sb wHi wLo; split <;> omega
theorem narrow_val {x : Int} (h : fits x = true) : (wLo x + 9223372036854775808) % 18446744073709551616 - 9223372036854775808 = x := by
  have := (fits_iff x).1 h; unfold wLo; omega
theorem mul_bd (a b : Int) (ha : fits a = true) (hb : fits b = true) : -170141183460469231731687303715884105728 ≤ a * b ∧ a * b < 170141183460469231731687303715884105728 := by
  have h1 := (fits_iff a).1 ha
  have h2 := (fits_iff b).1 hb
  have n1 : a.natAbs ≤ 9223372036854775808 := by omega
  have n2 : b.natAbs ≤ 9223372036854775808 := by omega
  have hm : (a * b).natAbs ≤ 9223372036854775808 * 9223372036854775808 := by rw [Int.natAbs_mul]; exact Nat.mul_le_mul n1 n2
  omega
end Go.Proofs.YtbicodlclmdgaaaGreatDoor.sums
