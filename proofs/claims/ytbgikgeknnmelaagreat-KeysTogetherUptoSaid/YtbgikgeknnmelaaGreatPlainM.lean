/-
  Plain bytes of values as mathematics: numbers in groups of 7 bits, what is written, what is read, there and back.
-/
import Derived.Test.YtbgikgeknnmelaaGreatKeyM
namespace Go.Proofs.YtbgikgeknnmelaaGreat
open Go.RowKit

/-! ### Numbers in groups of 7 bits -/

/-- The bytes of u, of at most f + 1 groups. -/
def encF : Nat → Nat → List UInt8
  | 0, u => [UInt8.ofNat u]
  | f + 1, u => if u < 128 then [UInt8.ofNat u] else UInt8.ofNat (u % 128 + 128) :: encF f (u / 128)
/-- The bytes of a number of 64 bits. -/
def enc (u : Nat) : List UInt8 := encF 9 u
theorem encF_pos (f u : Nat) : 0 < (encF f u).length := by
  cases f with
  | zero => simp [encF]
  | succ f => unfold encF; split <;> simp
theorem encF_le (f u : Nat) : (encF f u).length ≤ f + 1 := by
  induction f generalizing u with
  | zero => simp [encF]
  | succ f ih => unfold encF; split <;> simp; exact ih _
theorem encF_low (f u : Nat) (h : u < 128) : encF f u = [UInt8.ofNat u] := by
  cases f with
  | zero => rfl
  | succ f => unfold encF; rw [if_pos h]
theorem encF_high (f u : Nat) (h : 128 ≤ u) : encF (f + 1) u = UInt8.ofNat (u % 128 + 128) :: encF f (u / 128) := by
  rw [encF, if_neg (by omega)]
theorem enc_le (u : Nat) : (enc u).length ≤ 10 := encF_le 9 u
theorem enc_pos (u : Nat) : 0 < (enc u).length := encF_pos 9 u

/-- The first byte below 128. -/
def fb : List UInt8 → Option Nat
  | [] => none
  | c :: r => if c.toNat < 128 then some 0 else (fb r).map (· + 1)
/-- The number that groups say. -/
def gv : List UInt8 → Nat
  | [] => 0
  | c :: r => c.toNat % 128 + 128 * gv r
/-- So many groups, with that last one, are in the one form. -/
def inF (n : Nat) (c : UInt8) : Bool := decide (n ≤ 10) && (decide (n ≠ 10) || decide (c.toNat ≤ 1)) && (decide (c.toNat ≠ 0) || decide (n = 1))
theorem fb_lt : ∀ {l : List UInt8} {i : Nat}, fb l = some i → i < l.length
  | [], _, h => by cases h
  | c :: r, i, h => by
    simp only [fb] at h
    split at h
    · injection h with h; subst h; simp
    · cases hr : fb r with
      | none => rw [hr] at h; cases h
      | some j =>
        rw [hr] at h
        injection h with h
        have := fb_lt hr
        subst h
        simp; omega
theorem fb_app : ∀ {l : List UInt8} {i : Nat} (r : List UInt8), fb l = some i → fb (l ++ r) = some i
  | [], _, _, h => by cases h
  | c :: l, i, r, h => by
    simp only [fb, List.cons_append] at h ⊢
    split at h
    · rw [if_pos (by assumption)]; exact h
    · rw [if_neg (by assumption)]
      cases hr : fb l with
      | none => rw [hr] at h; cases h
      | some j => rw [fb_app r hr]; rw [hr] at h; exact h
/-- Groups: all but the last from 128 on. -/
theorem encF_spec : ∀ (f u : Nat), u < 128 ^ (f + 1) → fb (encF f u) = some ((encF f u).length - 1) ∧ gv (encF f u) = u ∧ ∃ c, (encF f u)[(encF f u).length - 1]? = some c ∧ (1 < (encF f u).length → c.toNat ≠ 0) ∧ c.toNat < 128 ∧ 128 ^ ((encF f u).length - 1) * c.toNat ≤ u := by
  intro f
  induction f with
  | zero =>
    intro u hu
    have hu' : u < 128 := by simpa using hu
    have e := toNat_of (show u < 256 by omega)
    simp only [encF, List.length_cons, List.length_nil, fb, gv]
    refine ⟨by rw [if_pos (by omega)], by omega, UInt8.ofNat u, rfl, fun h => by omega, by omega, by rw [e]; simp⟩
  | succ f ih =>
    intro u hu
    by_cases h : u < 128
    · rw [encF_low _ _ h]
      have e := toNat_of (show u < 256 by omega)
      simp only [List.length_cons, List.length_nil, fb, gv]
      refine ⟨by rw [if_pos (by omega)], by omega, UInt8.ofNat u, rfl, fun h => by omega, by omega, by rw [e]; simp⟩
    · rw [encF_high _ _ (by omega)]
      have e := toNat_of (show u % 128 + 128 < 256 by omega)
      obtain ⟨h1, h2, c, h3, h4, h5, h6⟩ := ih (u / 128) (by rw [Nat.pow_succ] at hu; omega)
      have hp := encF_pos f (u / 128)
      generalize encF f (u / 128) = l at *
      simp only [List.length_cons, fb, gv]
      rw [if_neg (by omega), h1, h2]
      refine ⟨by simp; omega, by omega, c, ?_, fun _ => ?_, h5, ?_⟩
      · rw [show l.length + 1 - 1 = (l.length - 1) + 1 by omega, List.getElem?_cons_succ]; exact h3
      · by_cases hl : 1 < l.length
        · exact h4 hl
        · have hl1 : l.length = 1 := by omega
          match l, hl1 with
          | [d], _ =>
            simp at h3
            simp [gv] at h2
            subst h3
            omega
      · rw [show l.length + 1 - 1 = (l.length - 1) + 1 by omega, Nat.pow_succ]
        have : 128 ^ (l.length - 1) * 128 * c.toNat = 128 * (128 ^ (l.length - 1) * c.toNat) := by
          rw [Nat.mul_comm (128 ^ (l.length - 1)) 128, Nat.mul_assoc]
        omega
theorem gv_lt : ∀ (l : List UInt8) (c : UInt8), gv (l ++ [c]) < 128 ^ l.length * (c.toNat % 128 + 1)
  | [], c => by simp [gv]
  | d :: l, c => by
    have h := gv_lt l c
    simp only [List.cons_append, gv, List.length_cons, Nat.pow_succ]
    have hd := Nat.mod_lt d.toNat (show 128 > 0 by omega)
    have : 128 ^ l.length * 128 * (c.toNat % 128 + 1) = 128 * (128 ^ l.length * (c.toNat % 128 + 1)) := by
      rw [Nat.mul_comm (128 ^ l.length) 128, Nat.mul_assoc]
    omega
theorem gv_pos : ∀ (l : List UInt8) (c : UInt8), c.toNat % 128 ≠ 0 → 0 < gv (l ++ [c])
  | [], c, h => by simp [gv]; omega
  | d :: l, c, h => by
    have := gv_pos l c h
    simp only [List.cons_append, gv]; omega
/-- Groups in the one form are those of the number that they say. -/
theorem enc_gv : ∀ (l : List UInt8) (c : UInt8) (f : Nat), (∀ d ∈ l, 128 ≤ d.toNat) → c.toNat < 128 → (l ≠ [] → c.toNat ≠ 0) → l.length ≤ f → encF f (gv (l ++ [c])) = l ++ [c]
  | [], c, f, _, hc, _, _ => by
    simp only [List.nil_append, gv]
    rw [Nat.mod_eq_of_lt hc, Nat.mul_zero, Nat.add_zero, encF_low _ _ hc, UInt8.ofNat_toNat]
  | d :: l, c, f, hl, hc, hne, hf => by
    have hc0 := hne (by simp)
    obtain ⟨f, rfl⟩ : ∃ g, f = g + 1 := ⟨f - 1, by simp at hf; omega⟩
    have hp := gv_pos l c (by omega)
    have ih := enc_gv l c f (fun x hx => hl x (by simp [hx])) hc (fun _ => hc0) (by simpa using hf)
    have hd := hl d (by simp)
    have hd2 := d.toNat_lt
    simp only [List.cons_append, gv]
    rw [encF_high _ _ (by omega), show (d.toNat % 128 + 128 * gv (l ++ [c])) / 128 = gv (l ++ [c]) by omega, ih, show (d.toNat % 128 + 128 * gv (l ++ [c])) % 128 + 128 = d.toNat by omega, UInt8.ofNat_toNat]
theorem fb_split : ∀ {t : List UInt8} {i : Nat}, fb t = some i → ∃ (l : List UInt8) (c : UInt8) (r : List UInt8), t = l ++ c :: r ∧ l.length = i ∧ (∀ d ∈ l, 128 ≤ d.toNat) ∧ c.toNat < 128
  | [], _, h => by cases h
  | c :: t, i, h => by
    simp only [fb] at h
    by_cases hc : c.toNat < 128
    · rw [if_pos hc] at h
      injection h with h
      exact ⟨[], c, t, rfl, h, fun _ h => (by cases h), hc⟩
    · rw [if_neg hc] at h
      cases hr : fb t with
      | none => rw [hr] at h; cases h
      | some j =>
        rw [hr] at h
        injection h with h
        obtain ⟨l, d, r, e, h1, h2, h3⟩ := fb_split hr
        exact ⟨c :: l, d, r, by rw [e]; rfl, by rw [List.length_cons, h1]; exact h, fun x hx => by
          rcases List.mem_cons.1 hx with rfl | hx
          · omega
          · exact h2 x hx, h3⟩

/-! ### What is read -/

/-- What is read, and what is left; or an error. -/
abbrev R (α : Type) := Except Int (α × List UInt8)
def thn {α β : Type} (x : R α) (f : α → List UInt8 → R β) : R β := match x with | .error e => .error e | .ok (a, s) => f a s
theorem thn_err {α β : Type} (e : Int) (f : α → List UInt8 → R β) : thn (.error e) f = .error e := rfl
theorem thn_ok {α β : Type} (a : α) (s : List UInt8) (f : α → List UInt8 → R β) : thn (.ok (a, s)) f = f a s := rfl
theorem thn_is {α β : Type} {x : R α} {f : α → List UInt8 → R β} {b : β} {s : List UInt8} (h : thn x f = .ok (b, s)) : ∃ a r, x = .ok (a, r) ∧ f a r = .ok (b, s) := by
  cases x with
  | error e => cases h
  | ok y => obtain ⟨a, r⟩ := y; exact ⟨a, r, rfl, h⟩

def pNum (t : List UInt8) : R Nat := match fb t with
  | none => .error 11
  | some i => if inF (i + 1) (t.getD i 0) then .ok (gv (t.take (i + 1)), t.drop (i + 1)) else .error 30
theorem num_there (u : Nat) (hu : u < 18446744073709551616) (r : List UInt8) : pNum (enc u ++ r) = .ok (u, r) := by
  obtain ⟨h1, h2, c, h3, h4, h5, h6⟩ := encF_spec 9 u (by omega)
  have hl := encF_le 9 u
  have hp := encF_pos 9 u
  unfold pNum enc
  generalize encF 9 u = l at *
  rw [fb_app r h1]
  have hi : l.length - 1 + 1 = l.length := by omega
  have hg : (l ++ r).getD (l.length - 1) 0 = c := by
    rw [List.getD_eq_getElem?_getD, List.getElem?_append_left (by omega), h3]; rfl
  have hF : inF (l.length - 1 + 1) c = true := by
    unfold inF
    rw [hi]
    have a1 : l.length ≤ 10 := by omega
    have a2 : l.length ≠ 10 ∨ c.toNat ≤ 1 := by
      by_cases h : l.length = 10
      · right
        rw [h] at h6
        have e : 128 ^ (10 - 1) = 9223372036854775808 := by decide
        rw [e] at h6
        omega
      · exact .inl h
    have a3 : c.toNat ≠ 0 ∨ l.length = 1 := by
      by_cases h : 1 < l.length
      · exact .inl (h4 h)
      · exact .inr (by omega)
    simp only [decide_eq_true a1, Bool.true_and, Bool.and_eq_true, Bool.or_eq_true, decide_eq_true_eq]
    exact ⟨a2, a3⟩
  simp only [hg, hF, if_true]
  rw [hi, List.take_left, List.drop_left, h2]
theorem num_back {t r : List UInt8} {u : Nat} (h : pNum t = .ok (u, r)) : t = enc u ++ r ∧ u < 18446744073709551616 := by
  unfold pNum at h
  cases hf : fb t with
  | none => rw [hf] at h; cases h
  | some i =>
    rw [hf] at h
    obtain ⟨l, c, s, rfl, h1, h2, h3⟩ := fb_split hf
    subst h1
    have hg : (l ++ c :: s).getD l.length 0 = c := by
      rw [List.getD_eq_getElem?_getD, List.getElem?_append_right (Nat.le_refl _)]; simp
    simp only [hg] at h
    by_cases hF : inF (l.length + 1) c = true
    · rw [if_pos hF] at h
      injection h with h
      injection h with e1 e2
      have hq : l ++ c :: s = (l ++ [c]) ++ s := by simp
      have hn : l.length + 1 = (l ++ [c]).length := by simp
      have ht : (l ++ c :: s).take (l.length + 1) = l ++ [c] := by rw [hq, hn, List.take_left]
      have hd : (l ++ c :: s).drop (l.length + 1) = s := by rw [hq, hn, List.drop_left]
      rw [ht] at e1
      rw [hd] at e2
      subst e2
      unfold inF at hF
      simp only [Bool.and_eq_true, Bool.or_eq_true, decide_eq_true_eq] at hF
      obtain ⟨⟨a1, a2⟩, a3⟩ := hF
      have he := enc_gv l c 9 h2 h3 (fun hne => by
        rcases a3 with a3 | a3
        · exact a3
        · exact absurd (List.eq_nil_of_length_eq_zero (by omega)) hne) (by omega)
      rw [e1] at he
      refine ⟨?_, ?_⟩
      · unfold enc; rw [he]; simp
      · have hlt := gv_lt l c
        rw [e1, Nat.mod_eq_of_lt h3] at hlt
        by_cases h9 : l.length = 9
        · have hc1 : c.toNat ≤ 1 := by omega
          rw [h9] at hlt
          have : 128 ^ 9 * (c.toNat + 1) ≤ 128 ^ 9 * 2 := Nat.mul_le_mul_left _ (by omega)
          omega
        · have h8 : 128 ^ l.length ≤ 128 ^ 8 := Nat.pow_le_pow_right (by omega) (by omega)
          have : 128 ^ l.length * (c.toNat + 1) ≤ 128 ^ 8 * 128 := Nat.mul_le_mul h8 (by omega)
          omega
    · rw [if_neg hF] at h; cases h

/-! ### Numbers with a sign -/

def zigN (n : Int) : Nat := if n < 0 then (-2 * n - 1).toNat else (2 * n).toNat
def zagN (u : Nat) : Int := if u % 2 = 1 then -((u / 2 : Nat) : Int) - 1 else ((u / 2 : Nat) : Int)
theorem zigN_lt {n : Int} (h : I64 n) : zigN n < 18446744073709551616 := by unfold zigN I64 at *; split <;> omega
theorem zag_zig (n : Int) : zagN (zigN n) = n := by unfold zagN zigN; split <;> split <;> omega
theorem zig_zag (u : Nat) : zigN (zagN u) = u := by unfold zagN zigN; split <;> split <;> omega
theorem zag_i64 {u : Nat} (h : u < 18446744073709551616) : I64 (zagN u) := by unfold zagN I64; split <;> omega

/-! ### Values -/

mutual
/-- A value's bytes. -/
def V.pl : V → List UInt8
  | .mk k n s l => UInt8.ofNat k.toNat :: (if k = 1 then enc (zigN n) else if k = 6 ∨ k = 7 then enc n.toNat else if k = 3 then [UInt8.ofNat n.toNat]
      else if k = 2 then enc s.size ++ s.data.toList else enc l.length ++ plL l)
def plL : List V → List UInt8
  | [] => []
  | v :: l => V.pl v ++ plL l
end
def pItems (pe : List UInt8 → R V) : Nat → List UInt8 → R (List V)
  | 0, b => .ok ([], b)
  | n + 1, b => thn (pe b) fun v r => thn (pItems pe n r) fun l s => .ok (v :: l, s)
def pBody (pe : List UInt8 → R V) (k : Nat) (r : List UInt8) : R V :=
  if k = 1 then thn (pNum r) fun u s => .ok (.mk 1 (zagN u) ⟨#[]⟩ [], s)
  else if k = 6 ∨ k = 7 then thn (pNum r) fun u s => .ok (.mk k (min u 9223372036854775807 : Nat) ⟨#[]⟩ [], s)
  else if k = 3 then (match r with | [] => .error 11 | c :: s => .ok (.mk 3 c.toNat ⟨#[]⟩ [], s))
  else if k = 2 then thn (pNum r) fun u s => if 128 < u then .error 30 else if s.length < u then .error 11 else .ok (.mk 2 0 ⟨(s.take u).toArray⟩ [], s.drop u)
  else if k = 4 then thn (pNum r) fun u s => if 256 < u then .error 30 else thn (pItems pe u s) fun l q => .ok (.mk 4 0 ⟨#[]⟩ l, q)
  else if k = 5 then thn (pNum r) fun u s => if 512 < u then .error 30 else thn (pItems pe u s) fun l q => .ok (.mk 5 0 ⟨#[]⟩ l, q)
  else .error 30
/-- A value that stands so deep that n more may stand one within the other. -/
def pVal : Nat → List UInt8 → R V
  | _, [] => .error 11
  | 0, _ :: _ => .error 30
  | n + 1, k :: r => pBody (pVal n) k.toNat r

theorem items_there {pe : List UInt8 → R V} : ∀ (l : List V) (_ : ∀ v ∈ l, ∀ r, pe (v.pl ++ r) = .ok (v, r)) (r : List UInt8), pItems pe l.length (plL l ++ r) = .ok (l, r)
  | [], _, r => rfl
  | v :: l, h, r => by
    simp only [List.length_cons, pItems, plL]
    rw [List.append_assoc, h v (by simp), thn_ok, items_there l (fun u hu => h u (by simp [hu])) r, thn_ok]
theorem size_toArray (s : ByteArray) : (⟨s.data.toList.toArray⟩ : ByteArray) = s := by simp
theorem pl_num {k n : Int} {s : ByteArray} {l : List V} (h : k = 6 ∨ k = 7) : (V.mk k n s l).pl = UInt8.ofNat k.toNat :: enc n.toNat := by
  have : k ≠ 1 := by omega
  simp [V.pl, this, h]
theorem pl_list {k n : Int} {s : ByteArray} {l : List V} (h : k = 4 ∨ k = 5) : (V.mk k n s l).pl = UInt8.ofNat k.toNat :: (enc l.length ++ plL l) := by
  have h1 : k ≠ 1 := by omega
  have h2 : k ≠ 2 := by omega
  have h3 : k ≠ 3 := by omega
  have h6 : k ≠ 6 := by omega
  have h7 : k ≠ 7 := by omega
  simp [V.pl, h1, h2, h3, h6, h7]
theorem val_there : ∀ (n d : Nat), d + n = 9 → ∀ v : V, v.wide → v.may d = true → ∀ r, pVal n (v.pl ++ r) = .ok (v, r)
  | 0, d, hd, v, _, hm, r => by
    cases v with | mk k n s l =>
    simp only [V.may, Bool.and_eq_true, decide_eq_true_eq] at hm
    omega
  | m + 1, d, hd, .mk k n s l, hw, hm, r => by
    simp only [V.wide] at hw
    have hm0 := hm
    simp only [V.may, Bool.and_eq_true] at hm
    obtain ⟨⟨-, ho⟩, hb⟩ := hm
    have items : allMay l ((d : Int) + 1) = true → ∀ q, pItems (pVal m) l.length (plL l ++ q) = .ok (l, q) := fun ha q =>
      items_there l (fun v hv q => val_there m (d + 1) (by omega) v (wideL_mem hw.2 v hv) (by have := allMay_mem ha v hv; exact_mod_cast this) q) q
    by_cases h1 : k = 1
    · subst h1
      simp [onlyB] at ho
      obtain ⟨hs, rfl⟩ := ho
      subst hs
      have e : (V.mk 1 n ByteArray.empty []).pl = 1 :: enc (zigN n) := by simp [V.pl]
      rw [e]
      simp only [List.cons_append, pVal, pBody]
      rw [if_pos (by decide), num_there _ (zigN_lt hw.1), thn_ok, zag_zig]; rfl
    · rw [if_neg h1] at hb
      by_cases h2 : k = 2
      · subst h2
        simp [onlyB] at ho
        simp at hb
        obtain ⟨rfl, rfl⟩ := ho
        have e : (V.mk 2 0 s []).pl = 2 :: (enc s.size ++ s.data.toList) := by simp [V.pl]
        rw [e]
        have hsl : s.data.toList.length = s.size := Array.length_toList
        simp only [List.cons_append, pVal, pBody]
        rw [if_neg (by decide), if_neg (by decide), if_neg (by decide), if_pos (by decide), List.append_assoc, num_there _ (by omega), thn_ok, if_neg (by omega), if_neg (by simp only [List.length_append]; omega)]
        rw [← hsl, List.take_left, List.drop_left, size_toArray]
      · rw [if_neg h2] at hb
        by_cases h3 : k = 3
        · subst h3
          simp [onlyB] at ho
          simp at hb
          obtain ⟨hs, rfl⟩ := ho
          subst hs
          have e : (V.mk 3 n ByteArray.empty []).pl = [3, UInt8.ofNat n.toNat] := by simp [V.pl]
          rw [e]
          simp only [List.cons_append, List.nil_append, pVal, pBody]
          rw [if_neg (by decide), if_neg (by decide), if_pos (by decide)]
          rcases hb with rfl | rfl <;> rfl
        · rw [if_neg h3] at hb
          by_cases h6 : k = 6 ∨ k = 7
          · rw [if_pos h6] at hb
            simp at hb
            have k4 : k ≠ 4 := by omega
            have k5 : k ≠ 5 := by omega
            simp [onlyB, h2, k4, k5] at ho
            obtain ⟨hs, rfl⟩ := ho
            subst hs
            rw [pl_num h6]
            simp only [List.cons_append, pVal, pBody]
            have hk : (UInt8.ofNat k.toNat).toNat = k.toNat := toNat_of (by omega)
            rw [hk, if_neg (by omega), if_pos (by omega), num_there _ (by omega), thn_ok]
            have e1 : ((k.toNat : Nat) : Int) = k := by omega
            have e2 : ((min n.toNat 9223372036854775807 : Nat) : Int) = n := by omega
            rw [e1, e2]; rfl
          · rw [if_neg h6] at hb
            by_cases h4 : k = 4
            · subst h4
              rw [if_pos rfl] at hb
              simp [onlyB] at ho
              obtain ⟨rfl, hs⟩ := ho
              subst hs
              simp only [Bool.and_eq_true, decide_eq_true_eq] at hb
              rw [pl_list (.inl rfl)]
              simp only [List.cons_append, pVal, pBody]
              rw [if_neg (by decide), if_neg (by decide), if_neg (by decide), if_neg (by decide), if_pos (by decide), List.append_assoc, num_there _ (by omega), thn_ok, if_neg (by omega), items hb.2, thn_ok]; rfl
            · rw [if_neg h4] at hb
              by_cases h5 : k = 5
              · subst h5
                rw [if_pos rfl] at hb
                simp [onlyB] at ho
                obtain ⟨rfl, hs⟩ := ho
                subst hs
                simp only [Bool.and_eq_true, decide_eq_true_eq] at hb
                rw [pl_list (.inr rfl)]
                simp only [List.cons_append, pVal, pBody]
                rw [if_neg (by decide), if_neg (by decide), if_neg (by decide), if_neg (by decide), if_neg (by decide), if_pos (by decide), List.append_assoc, num_there _ (by omega), thn_ok, if_neg (by omega), items hb.1.2, thn_ok]; rfl
              · rw [if_neg h5] at hb; cases hb
end Go.Proofs.YtbgikgeknnmelaaGreat
