/-
  There and back, as plain lists: a number's digits say it, digits in the one form are those of what they say.
-/
import Derived.Test.YtbicodlclmdgaaaGreatDoorMath
namespace Go.Proofs.YtbicodlclmdgaaaGreatDoor
open Go.Lib

theorem dv_byte (x : Nat) (h : x < 10) : dv (UInt8.ofNat (48 + x)) = x := by
  unfold dv
  rw [UInt8.toNat_ofNat', Nat.mod_eq_of_lt (by omega)]
  omega
theorem isDig_byte (x : Nat) (h : x < 10) : isDig (UInt8.ofNat (48 + x)) = true := by
  unfold isDig
  rw [UInt8.toNat_ofNat', Nat.mod_eq_of_lt (by omega)]
  simp; omega
theorem decDigits_more {u : Nat} (h : ¬ u < 10) : decDigits u = decDigits (u / 10) ++ [UInt8.ofNat (48 + u % 10)] := by rw [decDigits, dif_neg h]

theorem mag_digits (u : Nat) : mag 0 (decDigits u) = u := by
  induction u using Nat.strongRecOn with
  | ind u ih =>
    by_cases h : u < 10
    · rw [decDigits_one h, mag_cons, mag_nil, dv_byte u h]; omega
    · rw [decDigits_more h, mag_append, ih (u / 10) (by omega), mag_cons, mag_nil, dv_byte _ (by omega)]; omega
theorem all_digits (u : Nat) : (decDigits u).all isDig = true := by
  induction u using Nat.strongRecOn with
  | ind u ih =>
    by_cases h : u < 10
    · rw [decDigits_one h, List.all_cons, isDig_byte u h]; rfl
    · rw [decDigits_more h, List.all_append, ih (u / 10) (by omega), List.all_cons, isDig_byte (u % 10) (by omega)]; rfl
theorem digits_ne (u : Nat) : decDigits u ≠ [] := by
  intro e
  have := nDigits_pos u
  rw [← decDigits_length, e] at this
  simp at this
/-- No 0 ahead, but of 0. -/
theorem digits_head (u : Nat) (hu : 0 < u) : dig0 (decDigits u) = false := by
  induction u using Nat.strongRecOn with
  | ind u ih =>
    by_cases h : u < 10
    · rw [decDigits_one h]
      show decide ((UInt8.ofNat (48 + u)).toNat = 48) = false
      rw [UInt8.toNat_ofNat', Nat.mod_eq_of_lt (by omega)]
      exact decide_eq_false (by omega)
    · have h1 := ih (u / 10) (by omega) (by omega)
      rw [decDigits_more h]
      cases e : decDigits (u / 10) with
      | nil => exact absurd e (digits_ne _)
      | cons c r => rw [e] at h1; exact h1
theorem digits_not_neg (u : Nat) : negl (decDigits u) = false := by
  have h := all_digits u
  cases e : decDigits u with
  | nil => rfl
  | cons c r =>
    rw [e] at h
    simp only [List.all_cons, Bool.and_eq_true] at h
    have hc : 48 ≤ c.toNat ∧ c.toNat ≤ 57 := by simpa [isDig] using h.1
    simp only [negl, decide_eq_false_iff_not]; omega

/-- A number's text is in the one form, and says it. -/
theorem form_itoa (n : Int) : form (itoa n) = true ∧ sval (itoa n) = n := by
  unfold itoa
  by_cases h : n < 0
  · rw [if_pos h]
    have hn : negl (45 :: decDigits n.natAbs) = true := rfl
    have hb : body (45 :: decDigits n.natAbs) = decDigits n.natAbs := rfl
    refine ⟨?_, ?_⟩
    · unfold form
      rw [hb, all_digits, digits_head _ (by omega)]
      cases e : decDigits n.natAbs with
      | nil => exact absurd e (digits_ne _)
      | cons c r => rfl
    · unfold sval
      rw [hn, hb, mag_digits]
      simp only [if_true]; omega
  · rw [if_neg h]
    have hn := digits_not_neg n.toNat
    have hb : body (decDigits n.toNat) = decDigits n.toNat := by unfold body; rw [hn]; rfl
    refine ⟨?_, ?_⟩
    · unfold form
      rw [hb, all_digits, hn]
      by_cases h0 : n.toNat = 0
      · rw [h0]; decide +kernel
      · rw [digits_head _ (by omega)]
        cases e : decDigits n.toNat with
        | nil => exact absurd e (digits_ne _)
        | cons c r => rfl
    · unfold sval
      rw [hn, hb, mag_digits]
      simp only [Bool.false_eq_true, if_false]; omega

theorem isDig_eq {c : UInt8} (h : isDig c = true) : c = UInt8.ofNat (48 + dv c) ∧ dv c < 10 := by
  have hc : 48 ≤ c.toNat ∧ c.toNat ≤ 57 := by simpa [isDig] using h
  have e : 48 + dv c = c.toNat := by unfold dv; omega
  exact ⟨by rw [e]; simp, by unfold dv; omega⟩

/-- Digits with no 0 ahead are those of the number that they say. -/
theorem digits_mag (l : List UInt8) (hl : l.all isDig = true) (hne : l ≠ []) (h0 : dig0 l = false ∨ l = [48]) : decDigits (mag 0 l) = l := by
  rcases h0 with h0 | rfl
  · skip
    have key : ∀ (r : List UInt8) (p : List UInt8), r.all isDig = true → p ≠ [] → 0 < mag 0 p → decDigits (mag 0 p) = p → decDigits (mag 0 (p ++ r)) = p ++ r := by
      intro r
      induction r with
      | nil => intro p _ _ _ h; simpa using h
      | cons c r ih =>
        intro p hr hp hpos hd
        simp only [List.all_cons, Bool.and_eq_true] at hr
        obtain ⟨hc, hd10⟩ := isDig_eq hr.1
        have hm : mag 0 (p ++ [c]) = mag 0 p * 10 + dv c := by rw [mag_append, mag_cons, mag_nil]
        have e1 : decDigits (mag 0 (p ++ [c])) = p ++ [c] := by
          rw [hm, decDigits_more (by omega), show (mag 0 p * 10 + dv c) / 10 = mag 0 p by omega, show (mag 0 p * 10 + dv c) % 10 = dv c by omega, hd, ← hc]
        have := ih (p ++ [c]) hr.2 (by simp) (by rw [hm]; omega) e1
        simpa using this
    cases l with
    | nil => exact absurd rfl hne
    | cons c r =>
      simp only [List.all_cons, Bool.and_eq_true] at hl
      obtain ⟨hc, hd10⟩ := isDig_eq hl.1
      have hm : mag 0 [c] = dv c := by rw [mag_cons, mag_nil]; omega
      have hpos : 0 < dv c := by
        have : ¬ c.toNat = 48 := by simpa [dig0] using h0
        have hc2 : 48 ≤ c.toNat ∧ c.toNat ≤ 57 := by simpa [isDig] using hl.1
        unfold dv; omega
      have := key r [c] hl.2 (by simp) (by rw [hm]; exact hpos) (by rw [hm, decDigits_one hd10, ← hc])
      simpa using this
  · decide +kernel

/-- What a text in the one form says has it as its text. -/
theorem itoa_form (l : List UInt8) (hf : form l = true) : itoa (sval l) = l := by
  unfold form at hf
  simp only [Bool.and_eq_true, Bool.not_eq_true', Bool.or_eq_true, decide_eq_true_eq] at hf
  obtain ⟨⟨h1, h2⟩, h3⟩ := hf
  have hne : body l ≠ [] := by intro e; rw [e] at h2; simp at h2
  rcases Bool.eq_false_or_eq_true (negl l) with hn | hn
  · have hd0 : dig0 (body l) = false := by
      rcases h3 with h | h
      · exact h
      · rw [hn] at h; exact absurd h.2 (by simp)
    have hm := digits_mag _ h1 hne (.inl hd0)
    cases l with
    | nil => cases hn
    | cons c r =>
      have hc : c.toNat = 45 := by simpa [negl] using hn
      have hb : body (c :: r) = r := by unfold body; rw [hn]; rfl
      rw [hb] at hm hd0 hne
      have hc' : c = 45 := UInt8.toNat_inj.1 hc
      have hs : sval (c :: r) = -(mag 0 r : Int) := by unfold sval; rw [hn, hb]; rfl
      have hpos : 0 < mag 0 r := by
        rcases Nat.eq_zero_or_pos (mag 0 r) with h | h
        · rw [h] at hm
          rw [← hm] at hd0
          exact absurd hd0 (by decide +kernel)
        · exact h
      rw [hs]
      unfold itoa
      rw [if_pos (by omega), show (-(mag 0 r : Int)).natAbs = mag 0 r by omega, hm, hc']
  · have hb : body l = l := by unfold body; rw [hn]; rfl
    rw [hb] at h1 hne h3
    have h0 : dig0 l = false ∨ l = [48] := by
      rcases h3 with h | h
      · exact .inl h
      · rcases Bool.eq_false_or_eq_true (dig0 l) with hd | hd
        · right
          cases l with
          | nil => cases hd
          | cons c r =>
            have : r = [] := List.eq_nil_of_length_eq_zero (by have := h.1; simp at this; simp [this])
            subst this
            rw [show c = 48 from UInt8.toNat_inj.1 (by simpa [dig0] using hd)]
        · exact .inl hd
    have hm := digits_mag l h1 hne h0
    have hs : sval l = (mag 0 l : Int) := by unfold sval; rw [hn, hb]; rfl
    rw [hs]
    unfold itoa
    rw [if_neg (by omega), Int.toNat_natCast, hm]
end Go.Proofs.YtbicodlclmdgaaaGreatDoor
