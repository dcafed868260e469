/-
  Texts of numbers as plain lists of bytes: which are in the one form, and what they say; no Go text in it.
-/
import Derived.Lib.ParseIntB
import Derived.Lib.ItoaNum
import Derived.Lib.ItoaLen
import Derived.Lib.Strings
namespace Go.Proofs.YtbicodlclmdgaaaGreatDoor
open Go.Lib

def isDig (c : UInt8) : Bool := decide (48 ≤ c.toNat) && decide (c.toNat ≤ 57)
/-- Is there a - ahead? -/
def negl : List UInt8 → Bool
  | [] => false
  | c :: _ => decide (c.toNat = 45)
/-- What stands behind the -. -/
def body (l : List UInt8) : List UInt8 := if negl l then l.drop 1 else l
def dig0 : List UInt8 → Bool
  | [] => false
  | c :: _ => decide (c.toNat = 48)
/-- In the one form: digits, one at least, no 0 ahead of others, no -0. -/
def form (l : List UInt8) : Bool := (body l).all isDig && !(body l).isEmpty && (!dig0 (body l) || (decide (l.length = 1) && !negl l))
def dv (c : UInt8) : Nat := c.toNat - 48
/-- The number that digits say, behind acc. -/
def mag (acc : Nat) (l : List UInt8) : Nat := l.foldl (fun a c => a * 10 + dv c) acc
def sval (l : List UInt8) : Int := if negl l then -(mag 0 (body l) : Int) else (mag 0 (body l) : Int)
def fits (x : Int) : Bool := decide (-9223372036854775808 ≤ x) && decide (x ≤ 9223372036854775807)
/-- What Parse answers: the number, and which error. -/
def pv (l : List UInt8) : Int := if form l && fits (sval l) then sval l else 0
def pe (l : List UInt8) : Int := if form l then (if fits (sval l) then 0 else 7) else 10

theorem fits_iff (x : Int) : fits x = true ↔ -9223372036854775808 ≤ x ∧ x ≤ 9223372036854775807 := by simp only [fits, Bool.and_eq_true, decide_eq_true_eq]
theorem fits_not (x : Int) : fits x = false ↔ ¬ (-9223372036854775808 ≤ x ∧ x ≤ 9223372036854775807) := by rw [← fits_iff, Bool.not_eq_true]

theorem mag_nil (acc : Nat) : mag acc [] = acc := List.foldl_nil
theorem mag_cons (acc : Nat) (c : UInt8) (r : List UInt8) : mag acc (c :: r) = mag (acc * 10 + dv c) r := List.foldl_cons
theorem mag_append (acc : Nat) (a b : List UInt8) : mag acc (a ++ b) = mag (mag acc a) b := List.foldl_append
theorem mag_ge (l : List UInt8) (acc : Nat) : acc ≤ mag acc l := by
  induction l generalizing acc with
  | nil => rw [mag_nil]; exact Nat.le_refl _
  | cons c r ih => rw [mag_cons]; exact Nat.le_trans (by omega) (ih (acc * 10 + dv c))

theorem trim_body (l : List UInt8) : Lib.trimPrefix l [45] = body l := by
  unfold Lib.trimPrefix Lib.hasPrefix body
  cases l with
  | nil => rfl
  | cons c r =>
    have e : ([45] : List UInt8).isPrefixOf (c :: r) = decide (c.toNat = 45) := by
      simp only [List.isPrefixOf, Bool.and_true]
      rw [Bool.eq_iff_iff]
      simp only [beq_iff_eq, decide_eq_true_eq]
      constructor
      · intro h; rw [← h]; rfl
      · intro h; exact (UInt8.toNat_inj.1 h).symm
    rw [e]; simp [negl]

/-- ParseUint's end at digits alone. -/
theorem uint_digits (l : List UInt8) (acc : Nat) (hl : l.all isDig = true) (ha : acc ≤ 18446744073709551615) :
    parseUintM 18446744073709551615 acc l = if mag acc l ≤ 18446744073709551615 then .ok (mag acc l) else .range := by
  induction l generalizing acc with
  | nil => rw [mag_nil, if_pos ha, parseUintM]
  | cons c r ih =>
    simp only [List.all_cons, Bool.and_eq_true] at hl
    have hc : 48 ≤ c.toNat ∧ c.toNat ≤ 57 := by simpa [isDig] using hl.1
    rw [parseUintM, if_pos hc]
    have hg := mag_ge r (acc * 10 + dv c)
    rw [show c.toNat - 48 = dv c from rfl]
    rw [mag_cons]
    split
    · rw [if_neg (by omega)]
    · split
      · rw [if_neg (by omega)]
      · exact ih _ hl.2 (by omega)

theorem body_not_plus {c : UInt8} {r : List UInt8} (h : (body (c :: r)).all isDig = true) (hn : negl (c :: r) = false) : ¬ (c.toNat = 43 ∨ c.toNat = 45) := by
  have hb : body (c :: r) = c :: r := by unfold body; rw [hn]; rfl
  rw [hb] at h
  simp only [List.all_cons, Bool.and_eq_true] at h
  have hc : 48 ≤ c.toNat ∧ c.toNat ≤ 57 := by simpa [isDig] using h.1
  omega

/-- strconv.ParseInt's end at a text in the one form. -/
theorem int_form (l : List UInt8) (hf : form l = true) : parseIntB 64 l = if fits (sval l) then .ok (sval l) else .range := by
  unfold form at hf
  simp only [Bool.and_eq_true, Bool.not_eq_true'] at hf
  obtain ⟨⟨h1, h2⟩, _⟩ := hf
  have hne : body l ≠ [] := by intro e; rw [e] at h2; simp at h2
  cases l with
  | nil => simp [body, negl] at hne
  | cons c r =>
    have hu := uint_digits (body (c :: r)) 0 h1 (by omega)
    have e64 : (2 ^ 64 - 1 : Nat) = 18446744073709551615 := by decide
    have e63 : (2 ^ (64 - 1) : Nat) = 9223372036854775808 := by decide
    rcases Bool.eq_false_or_eq_true (negl (c :: r)) with hn | hn
    · have hc : c.toNat = 45 := by simpa [negl] using hn
      have hb : body (c :: r) = r := by unfold body; rw [hn]; rfl
      rw [hb] at hu hne
      unfold parseIntB
      simp only [hc, or_true, if_true, not_true, false_and, if_false, true_and]
      unfold parseUintB
      rw [if_neg hne, e64, hu, e63]
      have hs : sval (c :: r) = -(mag 0 r : Int) := by unfold sval; rw [hn, hb]; rfl
      rw [hs]
      by_cases hm : mag 0 r ≤ 18446744073709551615
      · rw [if_pos hm]
        simp only
        by_cases hm2 : 9223372036854775808 < mag 0 r
        · rw [if_pos hm2, if_neg (by rw [fits_iff]; omega)]
        · rw [if_neg hm2, if_pos (by rw [fits_iff]; omega)]
      · rw [if_neg hm, if_neg (by rw [fits_iff]; omega)]
    · have hc := body_not_plus h1 hn
      have hb : body (c :: r) = c :: r := by unfold body; rw [hn]; rfl
      have hc45 : ¬ c.toNat = 45 := fun h => hc (Or.inr h)
      have hc43 : ¬ c.toNat = 43 := fun h => hc (Or.inl h)
      rw [hb] at hu hne
      unfold parseIntB
      simp only [hc43, hc45, or_self, if_false, not_false_eq_true, true_and, false_and]
      unfold parseUintB
      rw [if_neg hne, e64, hu, e63]
      have hs : sval (c :: r) = (mag 0 (c :: r) : Int) := by unfold sval; rw [hn, hb]; rfl
      rw [hs]
      by_cases hm : mag 0 (c :: r) ≤ 18446744073709551615
      · rw [if_pos hm]
        simp only
        by_cases hm2 : 9223372036854775808 ≤ mag 0 (c :: r)
        · rw [if_pos hm2, if_neg (by rw [fits_iff]; omega)]
        · rw [if_neg hm2, if_pos (by rw [fits_iff]; omega)]
      · rw [if_neg hm, if_neg (by rw [fits_iff]; omega)]
end Go.Proofs.YtbicodlclmdgaaaGreatDoor
