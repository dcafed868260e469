/-
  A number in groups of 7 bits, as bytes: plain lists, no Go text.
-/
import Derived.Lib.Bytes
namespace Go.Proofs.Ytphkleiamlllgab

/-- The bytes of u, of at most f + 1 groups. -/
def encF : Nat → Nat → List Int
  | 0, u => [(u : Int)]
  | f + 1, u => if u < 128 then [(u : Int)] else ((u % 128 + 128 : Nat) : Int) :: encF f (u / 128)
/-- The bytes of a number of 64 bits. -/
def enc (u : Nat) : List Int := encF 9 u

theorem encF_pos (f u : Nat) : 0 < (encF f u).length := by
  cases f with
  | zero => simp [encF]
  | succ f => unfold encF; split <;> simp
theorem encF_le (f u : Nat) : (encF f u).length ≤ f + 1 := by
  induction f generalizing u with
  | zero => simp [encF]
  | succ f ih => unfold encF; split <;> simp; exact ih _
theorem encF_low (f u : Nat) (h : u < 128) : encF f u = [(u : Int)] := by
  cases f with
  | zero => rfl
  | succ f => unfold encF; rw [if_pos h]
theorem encF_high (f u : Nat) (h : 128 ≤ u) : encF (f + 1) u = ((u % 128 + 128 : Nat) : Int) :: encF f (u / 128) := by
  rw [encF, if_neg (by omega)]

/-- Every number of the list is a byte. -/
theorem encF_byte (f u : Nat) (hu : u < 128 ^ (f + 1)) : ∀ x ∈ encF f u, 0 ≤ x ∧ x < 256 := by
  induction f generalizing u with
  | zero => intro x hx; simp [encF] at hx hu; omega
  | succ f ih =>
    intro x hx
    by_cases h : u < 128
    · rw [encF_low _ _ h] at hx; simp at hx; omega
    · rw [encF_high _ _ (by omega)] at hx
      simp only [List.mem_cons] at hx
      rcases hx with rfl | hx
      · omega
      · exact ih (u / 128) (by rw [Nat.pow_succ] at hu; omega) x hx

theorem ofNat_inj {a b : Nat} (ha : a < 256) (hb : b < 256) (h : UInt8.ofNat a = UInt8.ofNat b) : a = b := by
  have := congrArg UInt8.toNat h
  simpa [Nat.mod_eq_of_lt ha, Nat.mod_eq_of_lt hb] using this

/-- None is a beginning of another one's. -/
theorem encF_prefix (f u v : Nat) (hu : u < 128 ^ (f + 1)) (hv : v < 128 ^ (f + 1)) (h : (Lib.bytesOf (encF f u)).isPrefixOf (Lib.bytesOf (encF f v)) = true) : u = v := by
  induction f generalizing u v with
  | zero =>
    simp [encF, Lib.bytesOf, List.isPrefixOf] at h hu hv
    exact ofNat_inj (by omega) (by omega) h
  | succ f ih =>
    by_cases h1 : u < 128 <;> by_cases h2 : v < 128
    · rw [encF_low _ _ h1, encF_low _ _ h2] at h
      simp [Lib.bytesOf, List.isPrefixOf] at h
      exact ofNat_inj (by omega) (by omega) h
    · rw [encF_low _ _ h1, encF_high _ _ (by omega)] at h
      simp only [Lib.bytesOf, List.map_cons, List.isPrefixOf, Bool.and_eq_true, beq_iff_eq, Int.toNat_natCast] at h
      have := ofNat_inj (by omega) (by omega) h.1
      omega
    · rw [encF_high _ _ (by omega), encF_low _ _ h2] at h
      simp only [Lib.bytesOf, List.map_cons, List.isPrefixOf, Bool.and_eq_true, beq_iff_eq, Int.toNat_natCast] at h
      have := ofNat_inj (by omega) (by omega) h.1
      omega
    · rw [encF_high _ _ (by omega), encF_high _ _ (by omega)] at h
      simp only [Lib.bytesOf, List.map_cons, List.isPrefixOf, Bool.and_eq_true, beq_iff_eq, Int.toNat_natCast] at h
      have e1 := ofNat_inj (by omega) (by omega) h.1
      have e2 := ih (u / 128) (v / 128) (by rw [Nat.pow_succ] at hu; omega) (by rw [Nat.pow_succ] at hv; omega) h.2
      omega

theorem enc_le (u : Nat) : (enc u).length ≤ 10 := encF_le 9 u
theorem enc_pos (u : Nat) : 0 < (enc u).length := encF_pos 9 u
theorem enc_prefix (u v : Nat) (hu : u < 18446744073709551616) (hv : v < 18446744073709551616) (h : u ≠ v) : (Lib.bytesOf (enc u)).isPrefixOf (Lib.bytesOf (enc v)) = false := by
  rw [Bool.eq_false_iff]
  intro e
  exact h (encF_prefix 9 u v (by omega) (by omega) e)
end Go.Proofs.Ytphkleiamlllgab
