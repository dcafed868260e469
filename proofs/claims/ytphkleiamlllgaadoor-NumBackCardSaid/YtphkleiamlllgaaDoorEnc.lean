/-
  A number in groups of 7 bits, as bytes: which groups there are, and that they say the number; no Go text.
-/
import Derived.Test.YtphkleiamlllgaaDoorMath
namespace Go.Proofs.YtphkleiamlllgaaDoor

/-- The bytes of u, of at most f + 1 groups. -/
def encF : Nat → Nat → List Int
  | 0, u => [(u : Int)]
  | f + 1, u => if u < 128 then [(u : Int)] else ((u % 128 + 128 : Nat) : Int) :: encF f (u / 128)
/-- The bytes of a number of 64 bits. -/
def enc (u : Nat) : List Int := encF 9 u

theorem encF_pos (f u : Nat) : 0 < (encF f u).length := by
  cases f with
  | zero => simp [encF]
  | succ f => unfold encF; split <;> simp
theorem encF_le (f u : Nat) : (encF f u).length ≤ f + 1 := by
  induction f generalizing u with
  | zero => simp [encF]
  | succ f ih => unfold encF; split <;> simp; exact ih _
theorem encF_low (f u : Nat) (h : u < 128) : encF f u = [(u : Int)] := by
  cases f with
  | zero => rfl
  | succ f => unfold encF; rw [if_pos h]
theorem encF_high (f u : Nat) (h : 128 ≤ u) : encF (f + 1) u = ((u % 128 + 128 : Nat) : Int) :: encF f (u / 128) := by
  rw [encF, if_neg (by omega)]

theorem enc_le (u : Nat) : (enc u).length ≤ 10 := encF_le 9 u
theorem enc_pos (u : Nat) : 0 < (enc u).length := encF_pos 9 u

/-- The groups, one by one. -/
theorem encF_spec (f u : Nat) (hu : u < 128 ^ (f + 1)) :
    u < 128 ^ (encF f u).length ∧ (1 < (encF f u).length → 128 ^ ((encF f u).length - 1) ≤ u) ∧
      ∀ k, k < (encF f u).length → (encF f u).getD k 0 = ((u / 128 ^ k % 128 + (if k + 1 < (encF f u).length then 128 else 0) : Nat) : Int) := by
  induction f generalizing u with
  | zero =>
    refine ⟨by simpa [encF] using hu, by simp [encF], fun k hk => ?_⟩
    obtain rfl : k = 0 := by simp [encF] at hk; exact hk
    simp [encF]
    simp at hu
    omega
  | succ f ih =>
    by_cases h : u < 128
    · rw [encF_low _ _ h]
      refine ⟨by simpa using h, by simp, fun k hk => ?_⟩
      obtain rfl : k = 0 := by simp at hk; exact hk
      simp
      omega
    · rw [encF_high _ _ (by omega)]
      have hp : 128 ^ (f + 1 + 1) = 128 ^ (f + 1) * 128 := Nat.pow_succ ..
      obtain ⟨h1, h2, h3⟩ := ih (u / 128) (by omega)
      have hL := encF_pos f (u / 128)
      generalize hl : encF f (u / 128) = l at h1 h2 h3 hL
      simp only [List.length_cons]
      have hp1 : 128 ^ (l.length + 1) = 128 ^ l.length * 128 := Nat.pow_succ ..
      have hp2 : 128 ^ l.length = 128 ^ (l.length - 1) * 128 := by rw [← Nat.pow_succ]; congr 1; omega
      refine ⟨by omega, fun _ => ?_, fun k hk => ?_⟩
      · rw [show l.length + 1 - 1 = l.length by omega, hp2]
        by_cases h1l : 1 < l.length
        · have := h2 h1l; omega
        · have : l.length = 1 := by omega
          rw [this]; simp; omega
      · cases k with
        | zero => simp [hL]
        | succ k =>
          have e := h3 k (by omega)
          have hq : u / 128 ^ (k + 1) = u / 128 / 128 ^ k := by rw [Nat.pow_succ, Nat.mul_comm, Nat.div_div_eq_div_mul]
          rw [List.getD_cons_succ, e, hq]
          by_cases hk1 : k + 1 < l.length
          · rw [if_pos hk1, if_pos (show k + 1 + 1 < l.length + 1 by omega)]
          · rw [if_neg hk1, if_neg (show ¬ k + 1 + 1 < l.length + 1 by omega)]

theorem enc_spec (u : Nat) (hu : u < 18446744073709551616) : u < 128 ^ (enc u).length ∧ (1 < (enc u).length → 128 ^ ((enc u).length - 1) ≤ u) ∧
      ∀ k, k < (enc u).length → (enc u).getD k 0 = ((u / 128 ^ k % 128 + (if k + 1 < (enc u).length then 128 else 0) : Nat) : Int) := encF_spec 9 u (by omega)

/-- Behind k groups. -/
theorem enc_step (u k : Nat) : u % 128 ^ (k + 1) = u % 128 ^ k + 128 ^ k * (u / 128 ^ k % 128) := Nat.mod_pow_succ

/-- A byte ahead of the last one: 128 or more; the last one: below; what it may be. -/
theorem enc_more (u : Nat) (hu : u < 18446744073709551616) (k : Nat) (hk : k + 1 < (enc u).length) : (128 : Int) ≤ (enc u).getD k 0 ∧ (enc u).getD k 0 < 256 := by
  have := (enc_spec u hu).2.2 k (by omega)
  rw [if_pos hk] at this
  have hm : u / 128 ^ k % 128 < 128 := Nat.mod_lt _ (by omega)
  omega
theorem enc_last (u : Nat) (hu : u < 18446744073709551616) : 0 ≤ (enc u).getD ((enc u).length - 1) 0 ∧ (enc u).getD ((enc u).length - 1) 0 < 128 ∧
    (1 < (enc u).length → 0 < (enc u).getD ((enc u).length - 1) 0) ∧ ((enc u).length = 10 → (enc u).getD ((enc u).length - 1) 0 ≤ 1) := by
  have hp := enc_pos u
  obtain ⟨h1, h2, h3⟩ := enc_spec u hu
  have e := h3 ((enc u).length - 1) (by omega)
  rw [if_neg (by omega)] at e
  have hm : u / 128 ^ ((enc u).length - 1) % 128 < 128 := Nat.mod_lt _ (by omega)
  have hlt : u / 128 ^ ((enc u).length - 1) < 128 := by
    rw [Nat.div_lt_iff_lt_mul (Nat.pow_pos (by omega))]
    have e2 : 128 ^ (enc u).length = 128 ^ ((enc u).length - 1) * 128 := by rw [← Nat.pow_succ]; congr 1; omega
    omega
  refine ⟨by omega, by omega, fun h => ?_, fun h => ?_⟩
  · have hpos : 0 < u / 128 ^ ((enc u).length - 1) := Nat.div_pos (h2 h) (Nat.pow_pos (by omega))
    rw [Nat.mod_eq_of_lt hlt] at e
    omega
  · rw [h] at e hlt ⊢
    rw [Nat.mod_eq_of_lt hlt] at e
    have : u / 128 ^ (10 - 1) ≤ 1 := by
      have : u / 9223372036854775808 ≤ 1 := by omega
      exact this
    omega
end Go.Proofs.YtphkleiamlllgaaDoor
