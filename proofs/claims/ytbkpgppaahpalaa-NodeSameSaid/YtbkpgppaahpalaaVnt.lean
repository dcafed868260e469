/-
  Numbers in groups of 7 bits, as mathematics: there and back. No walk.
-/
import Derived.WalkKit
namespace Go.Proofs.Ytbkpgppaahpalaa

theorem toNat_of {n : Nat} (h : n < 256) : (UInt8.ofNat n).toNat = n := by rw [UInt8.toNat_ofNat', Nat.mod_eq_of_lt (by omega)]
/-! ### Numbers in groups of 7 bits -/

/-- The bytes of u, of at most f + 1 groups. -/
def vntF : Nat → Nat → List UInt8
  | 0, u => [UInt8.ofNat u]
  | f + 1, u => if u < 128 then [UInt8.ofNat u] else UInt8.ofNat (u % 128 + 128) :: vntF f (u / 128)
/-- The bytes of a number of 64 bits. -/
def vnt (u : Nat) : List UInt8 := vntF 9 u
theorem vntF_pos (f u : Nat) : 0 < (vntF f u).length := by
  cases f with
  | zero => simp [vntF]
  | succ f => unfold vntF; split <;> simp
theorem vntF_le (f u : Nat) : (vntF f u).length ≤ f + 1 := by
  induction f generalizing u with
  | zero => simp [vntF]
  | succ f ih => unfold vntF; split <;> simp; exact ih _
theorem vntF_low (f u : Nat) (h : u < 128) : vntF f u = [UInt8.ofNat u] := by
  cases f with
  | zero => rfl
  | succ f => unfold vntF; rw [if_pos h]
theorem vntF_high (f u : Nat) (h : 128 ≤ u) : vntF (f + 1) u = UInt8.ofNat (u % 128 + 128) :: vntF f (u / 128) := by
  rw [vntF, if_neg (by omega)]
theorem vnt_le (u : Nat) : (vnt u).length ≤ 10 := vntF_le 9 u
theorem vnt_pos (u : Nat) : 0 < (vnt u).length := vntF_pos 9 u

/-- The first byte below 128. -/
def fb : List UInt8 → Option Nat
  | [] => none
  | c :: r => if c.toNat < 128 then some 0 else (fb r).map (· + 1)
/-- The number that groups say. -/
def gv : List UInt8 → Nat
  | [] => 0
  | c :: r => c.toNat % 128 + 128 * gv r
/-- So many groups, with that last one, are in the one form. -/
def inF (n : Nat) (c : UInt8) : Bool := decide (n ≤ 10) && (decide (n ≠ 10) || decide (c.toNat ≤ 1)) && (decide (c.toNat ≠ 0) || decide (n = 1))
theorem fb_lt : ∀ {l : List UInt8} {i : Nat}, fb l = some i → i < l.length
  | [], _, h => by cases h
  | c :: r, i, h => by
    simp only [fb] at h
    split at h
    · injection h with h; subst h; simp
    · cases hr : fb r with
      | none => rw [hr] at h; cases h
      | some j =>
        rw [hr] at h
        injection h with h
        have := fb_lt hr
        subst h
        simp; omega
theorem fb_app : ∀ {l : List UInt8} {i : Nat} (r : List UInt8), fb l = some i → fb (l ++ r) = some i
  | [], _, _, h => by cases h
  | c :: l, i, r, h => by
    simp only [fb, List.cons_append] at h ⊢
    split at h
    · rw [if_pos (by assumption)]; exact h
    · rw [if_neg (by assumption)]
      cases hr : fb l with
      | none => rw [hr] at h; cases h
      | some j => rw [fb_app r hr]; rw [hr] at h; exact h
/-- Groups: all but the last from 128 on. -/
theorem vntF_spec : ∀ (f u : Nat), u < 128 ^ (f + 1) → fb (vntF f u) = some ((vntF f u).length - 1) ∧ gv (vntF f u) = u ∧ ∃ c, (vntF f u)[(vntF f u).length - 1]? = some c ∧ (1 < (vntF f u).length → c.toNat ≠ 0) ∧ c.toNat < 128 ∧ 128 ^ ((vntF f u).length - 1) * c.toNat ≤ u := by
  intro f
  induction f with
  | zero =>
    intro u hu
    have hu' : u < 128 := by simpa using hu
    have e := toNat_of (show u < 256 by omega)
    simp only [vntF, List.length_cons, List.length_nil, fb, gv]
    refine ⟨by rw [if_pos (by omega)], by omega, UInt8.ofNat u, rfl, fun h => by omega, by omega, by rw [e]; simp⟩
  | succ f ih =>
    intro u hu
    by_cases h : u < 128
    · rw [vntF_low _ _ h]
      have e := toNat_of (show u < 256 by omega)
      simp only [List.length_cons, List.length_nil, fb, gv]
      refine ⟨by rw [if_pos (by omega)], by omega, UInt8.ofNat u, rfl, fun h => by omega, by omega, by rw [e]; simp⟩
    · rw [vntF_high _ _ (by omega)]
      have e := toNat_of (show u % 128 + 128 < 256 by omega)
      obtain ⟨h1, h2, c, h3, h4, h5, h6⟩ := ih (u / 128) (by rw [Nat.pow_succ] at hu; omega)
      have hp := vntF_pos f (u / 128)
      generalize vntF f (u / 128) = l at *
      simp only [List.length_cons, fb, gv]
      rw [if_neg (by omega), h1, h2]
      refine ⟨by simp; omega, by omega, c, ?_, fun _ => ?_, h5, ?_⟩
      · rw [show l.length + 1 - 1 = (l.length - 1) + 1 by omega, List.getElem?_cons_succ]; exact h3
      · by_cases hl : 1 < l.length
        · exact h4 hl
        · have hl1 : l.length = 1 := by omega
          match l, hl1 with
          | [d], _ =>
            simp at h3
            simp [gv] at h2
            subst h3
            omega
      · rw [show l.length + 1 - 1 = (l.length - 1) + 1 by omega, Nat.pow_succ]
        have : 128 ^ (l.length - 1) * 128 * c.toNat = 128 * (128 ^ (l.length - 1) * c.toNat) := by
          rw [Nat.mul_comm (128 ^ (l.length - 1)) 128, Nat.mul_assoc]
        omega
theorem gv_lt : ∀ (l : List UInt8) (c : UInt8), gv (l ++ [c]) < 128 ^ l.length * (c.toNat % 128 + 1)
  | [], c => by simp [gv]
  | d :: l, c => by
    have h := gv_lt l c
    simp only [List.cons_append, gv, List.length_cons, Nat.pow_succ]
    have hd := Nat.mod_lt d.toNat (show 128 > 0 by omega)
    have : 128 ^ l.length * 128 * (c.toNat % 128 + 1) = 128 * (128 ^ l.length * (c.toNat % 128 + 1)) := by
      rw [Nat.mul_comm (128 ^ l.length) 128, Nat.mul_assoc]
    omega
theorem gv_pos : ∀ (l : List UInt8) (c : UInt8), c.toNat % 128 ≠ 0 → 0 < gv (l ++ [c])
  | [], c, h => by simp [gv]; omega
  | d :: l, c, h => by
    have := gv_pos l c h
    simp only [List.cons_append, gv]; omega
/-- Groups in the one form are those of the number that they say. -/
theorem vnt_gv : ∀ (l : List UInt8) (c : UInt8) (f : Nat), (∀ d ∈ l, 128 ≤ d.toNat) → c.toNat < 128 → (l ≠ [] → c.toNat ≠ 0) → l.length ≤ f → vntF f (gv (l ++ [c])) = l ++ [c]
  | [], c, f, _, hc, _, _ => by
    simp only [List.nil_append, gv]
    rw [Nat.mod_eq_of_lt hc, Nat.mul_zero, Nat.add_zero, vntF_low _ _ hc, UInt8.ofNat_toNat]
  | d :: l, c, f, hl, hc, hne, hf => by
    have hc0 := hne (by simp)
    obtain ⟨f, rfl⟩ : ∃ g, f = g + 1 := ⟨f - 1, by simp at hf; omega⟩
    have hp := gv_pos l c (by omega)
    have ih := vnt_gv l c f (fun x hx => hl x (by simp [hx])) hc (fun _ => hc0) (by simpa using hf)
    have hd := hl d (by simp)
    have hd2 := d.toNat_lt
    simp only [List.cons_append, gv]
    rw [vntF_high _ _ (by omega), show (d.toNat % 128 + 128 * gv (l ++ [c])) / 128 = gv (l ++ [c]) by omega, ih, show (d.toNat % 128 + 128 * gv (l ++ [c])) % 128 + 128 = d.toNat by omega, UInt8.ofNat_toNat]
theorem fb_split : ∀ {t : List UInt8} {i : Nat}, fb t = some i → ∃ (l : List UInt8) (c : UInt8) (r : List UInt8), t = l ++ c :: r ∧ l.length = i ∧ (∀ d ∈ l, 128 ≤ d.toNat) ∧ c.toNat < 128
  | [], _, h => by cases h
  | c :: t, i, h => by
    simp only [fb] at h
    by_cases hc : c.toNat < 128
    · rw [if_pos hc] at h
      injection h with h
      exact ⟨[], c, t, rfl, h, fun _ h => (by cases h), hc⟩
    · rw [if_neg hc] at h
      cases hr : fb t with
      | none => rw [hr] at h; cases h
      | some j =>
        rw [hr] at h
        injection h with h
        obtain ⟨l, d, r, e, h1, h2, h3⟩ := fb_split hr
        exact ⟨c :: l, d, r, by rw [e]; rfl, by rw [List.length_cons, h1]; exact h, fun x hx => by
          rcases List.mem_cons.1 hx with rfl | hx
          · omega
          · exact h2 x hx, h3⟩

/-- The number with which bytes begin, and how many bytes it has. -/
def tk (t : List UInt8) : Option (Nat × Nat) := match fb t with
  | none => none
  | some i => if inF (i + 1) (t.getD i 0) then some (gv (t.take (i + 1)), i + 1) else none
theorem tk_there (u : Nat) (hu : u < 18446744073709551616) (r : List UInt8) : tk (vnt u ++ r) = some (u, (vnt u).length) := by
  obtain ⟨h1, h2, c, h3, h4, h5, h6⟩ := vntF_spec 9 u (by omega)
  have hl := vntF_le 9 u
  have hp := vntF_pos 9 u
  unfold tk vnt
  generalize vntF 9 u = l at *
  rw [fb_app r h1]
  have hi : l.length - 1 + 1 = l.length := by omega
  have hg : (l ++ r).getD (l.length - 1) 0 = c := by
    rw [List.getD_eq_getElem?_getD, List.getElem?_append_left (by omega), h3]; rfl
  have hF : inF (l.length - 1 + 1) c = true := by
    unfold inF
    rw [hi]
    have a1 : l.length ≤ 10 := by omega
    have a2 : l.length ≠ 10 ∨ c.toNat ≤ 1 := by
      by_cases h : l.length = 10
      · right
        rw [h] at h6
        have e : 128 ^ (10 - 1) = 9223372036854775808 := by decide
        rw [e] at h6
        omega
      · exact .inl h
    have a3 : c.toNat ≠ 0 ∨ l.length = 1 := by
      by_cases h : 1 < l.length
      · exact .inl (h4 h)
      · exact .inr (by omega)
    simp only [decide_eq_true a1, Bool.true_and, Bool.and_eq_true, Bool.or_eq_true, decide_eq_true_eq]
    exact ⟨a2, a3⟩
  simp only [hg, hF, if_true]
  rw [hi, List.take_left, h2]
theorem tk_back {t : List UInt8} {u k : Nat} (h : tk t = some (u, k)) : t = vnt u ++ t.drop k ∧ u < 18446744073709551616 ∧ 1 ≤ k ∧ k ≤ t.length ∧ k = (vnt u).length := by
  unfold tk at h
  cases hf : fb t with
  | none => rw [hf] at h; cases h
  | some i =>
    rw [hf] at h
    obtain ⟨l, c, s, rfl, h1, h2, h3⟩ := fb_split hf
    subst h1
    have hg : (l ++ c :: s).getD l.length 0 = c := by
      rw [List.getD_eq_getElem?_getD, List.getElem?_append_right (Nat.le_refl _)]; simp
    simp only [hg] at h
    by_cases hF : inF (l.length + 1) c = true
    · rw [if_pos hF] at h
      injection h with h
      injection h with e1 e2
      have hq : l ++ c :: s = (l ++ [c]) ++ s := by simp
      have hn : l.length + 1 = (l ++ [c]).length := by simp
      have ht : (l ++ c :: s).take (l.length + 1) = l ++ [c] := by rw [hq, hn, List.take_left]
      have hd : (l ++ c :: s).drop (l.length + 1) = s := by rw [hq, hn, List.drop_left]
      rw [ht] at e1
      subst e2
      rw [hd]
      unfold inF at hF
      simp only [Bool.and_eq_true, Bool.or_eq_true, decide_eq_true_eq] at hF
      obtain ⟨⟨a1, a2⟩, a3⟩ := hF
      have he := vnt_gv l c 9 h2 h3 (fun hne => by
        rcases a3 with a3 | a3
        · exact a3
        · exact absurd (List.eq_nil_of_length_eq_zero (by omega)) hne) (by omega)
      rw [e1] at he
      refine ⟨?_, ?_, by omega, by simp, by unfold vnt; rw [he]; simp⟩
      · unfold vnt; rw [he]; simp
      · have hlt := gv_lt l c
        rw [e1, Nat.mod_eq_of_lt h3] at hlt
        by_cases h9 : l.length = 9
        · have hc1 : c.toNat ≤ 1 := by omega
          rw [h9] at hlt
          have : 128 ^ 9 * (c.toNat + 1) ≤ 128 ^ 9 * 2 := Nat.mul_le_mul_left _ (by omega)
          omega
        · have h8 : 128 ^ l.length ≤ 128 ^ 8 := Nat.pow_le_pow_right (by omega) (by omega)
          have : 128 ^ l.length * (c.toNat + 1) ≤ 128 ^ 8 * 128 := Nat.mul_le_mul h8 (by omega)
          omega
    · rw [if_neg hF] at h; cases h
end Go.Proofs.Ytbkpgppaahpalaa
