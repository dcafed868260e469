/-
  Back: what is read of plain bytes has those bytes; keys: what is read of them, there and back.
-/
import Derived.Test.YtbgikgeknnmelaaGreatPlainM
namespace Go.Proofs.YtbgikgeknnmelaaGreat
open Go.RowKit

theorem items_len {pe : List UInt8 → R V} : ∀ {n : Nat} {b : List UInt8} {l : List V} {r : List UInt8}, pItems pe n b = .ok (l, r) → l.length = n
  | 0, b, l, r, h => by
    simp only [pItems] at h
    injection h with h; injection h with h1 h2
    subst h1; rfl
  | n + 1, b, l, r, h => by
    simp only [pItems] at h
    obtain ⟨v, s, -, h⟩ := thn_is h
    obtain ⟨m, q, h1, h⟩ := thn_is h
    injection h with h; injection h with h2 h3
    subst h2
    simp [items_len h1]
theorem items_back {pe : List UInt8 → R V} : ∀ {n : Nat} {b : List UInt8} {l : List V} {r : List UInt8}, pItems pe n b = .ok (l, r) → (∀ v ∈ l, ∀ s q, pe s = .ok (v, q) → s = v.pl ++ q) → b = plL l ++ r
  | 0, b, l, r, h, _ => by
    simp only [pItems] at h
    injection h with h; injection h with h1 h2
    subst h1 h2; rfl
  | n + 1, b, l, r, h, hp => by
    simp only [pItems] at h
    obtain ⟨v, s, h0, h⟩ := thn_is h
    obtain ⟨m, q, h1, h⟩ := thn_is h
    injection h with h; injection h with h2 h3
    subst h2 h3
    rw [hp v (by simp) _ _ h0, items_back h1 (fun u hu => hp u (by simp [hu]))]
    simp [plL]
theorem min_id {u : Nat} (h : ((min u 9223372036854775807 : Nat) : Int) ≤ 281474976710656) : (((min u 9223372036854775807 : Nat) : Int)).toNat = u := by omega
theorem may_list {k n : Int} {s : ByteArray} {l : List V} {d : Int} (h : (V.mk k n s l).may d = true) (hk : k = 4 ∨ k = 5) : allMay l (d + 1) = true := by
  simp only [V.may, Bool.and_eq_true] at h
  have hb := h.2
  rw [if_neg (by omega), if_neg (by omega), if_neg (by omega), if_neg (by omega)] at hb
  rcases hk with rfl | rfl
  · rw [if_pos rfl] at hb
    simp only [Bool.and_eq_true] at hb
    exact hb.2
  · rw [if_neg (by omega), if_pos rfl] at hb
    simp only [Bool.and_eq_true] at hb
    exact hb.1.2
theorem may_id {k n : Int} {s : ByteArray} {l : List V} {d : Int} (h : (V.mk k n s l).may d = true) (hk : k = 6 ∨ k = 7) : n ≤ 281474976710656 := by
  simp only [V.may, Bool.and_eq_true] at h
  have hb := h.2
  rw [if_neg (by omega), if_neg (by omega), if_neg (by omega), if_pos hk] at hb
  simp at hb
  exact hb.2
theorem val_back : ∀ (n d : Nat), d + n = 9 → ∀ (b : List UInt8) (v : V) (r : List UInt8), pVal n b = .ok (v, r) → v.may d = true → b = v.pl ++ r
  | 0, d, hd, b, v, r, h, _ => by
    cases b with
    | nil => cases h
    | cons c b => cases h
  | m + 1, d, hd, b, v, r, h, hm => by
    cases b with
    | nil => cases h
    | cons c b =>
      simp only [pVal, pBody] at h
      have hcc : UInt8.ofNat c.toNat = c := UInt8.ofNat_toNat
      by_cases h1 : c.toNat = 1
      · rw [if_pos h1] at h
        obtain ⟨u, s, h2, h⟩ := thn_is h
        injection h with h; injection h with e1 e2
        subst e1 e2
        have e : (V.mk 1 (zagN u) ⟨#[]⟩ []).pl = 1 :: enc (zigN (zagN u)) := by simp [V.pl]
        rw [e, zig_zag, (num_back h2).1, show c = 1 from UInt8.toNat_inj.1 h1]; rfl
      · rw [if_neg h1] at h
        by_cases h6 : c.toNat = 6 ∨ c.toNat = 7
        · rw [if_pos h6] at h
          obtain ⟨u, s, h2, h⟩ := thn_is h
          injection h with h; injection h with e1 e2
          subst e1 e2
          have hi := may_id hm (by omega)
          rw [pl_num (by omega), min_id hi, (num_back h2).1, Int.toNat_natCast, hcc]; rfl
        · rw [if_neg h6] at h
          by_cases h3 : c.toNat = 3
          · rw [if_pos h3] at h
            cases b with
            | nil => cases h
            | cons x b =>
              simp only at h
              injection h with h; injection h with e1 e2
              subst e1 e2
              have e : (V.mk 3 (x.toNat : Int) ⟨#[]⟩ []).pl = [3, UInt8.ofNat ((x.toNat : Int)).toNat] := by simp [V.pl]
              rw [e, Int.toNat_natCast, UInt8.ofNat_toNat, show c = 3 from UInt8.toNat_inj.1 h3]; rfl
          · rw [if_neg h3] at h
            by_cases h2 : c.toNat = 2
            · rw [if_pos h2] at h
              obtain ⟨u, s, h4, h⟩ := thn_is h
              by_cases h5 : 128 < u
              · rw [if_pos h5] at h; cases h
              · rw [if_neg h5] at h
                by_cases h7 : s.length < u
                · rw [if_pos h7] at h; cases h
                · rw [if_neg h7] at h
                  injection h with h; injection h with e1 e2
                  subst e1 e2
                  have e : (V.mk 2 0 ⟨(s.take u).toArray⟩ []).pl = 2 :: (enc (⟨(s.take u).toArray⟩ : ByteArray).size ++ (s.take u)) := by simp [V.pl]
                  have hsz : (⟨(s.take u).toArray⟩ : ByteArray).size = u := by show (s.take u).toArray.size = u; simp; omega
                  rw [e, hsz, (num_back h4).1, show c = 2 from UInt8.toNat_inj.1 h2]
                  simp
            · rw [if_neg h2] at h
              by_cases h4 : c.toNat = 4
              · rw [if_pos h4] at h
                obtain ⟨u, s, h5, h⟩ := thn_is h
                by_cases h7 : 256 < u
                · rw [if_pos h7] at h; cases h
                · rw [if_neg h7] at h
                  obtain ⟨l, q, h8, h⟩ := thn_is h
                  injection h with h; injection h with e1 e2
                  subst e1 e2
                  have ha := may_list hm (.inl rfl)
                  have hb := items_back h8 fun v hv s q hp => val_back m (d + 1) (by omega) s v q hp (by have := allMay_mem ha v hv; exact_mod_cast this)
                  rw [pl_list (.inl rfl), items_len h8, (num_back h5).1, hb, show c = 4 from UInt8.toNat_inj.1 h4]
                  simp
              · rw [if_neg h4] at h
                by_cases h5 : c.toNat = 5
                · rw [if_pos h5] at h
                  obtain ⟨u, s, h9, h⟩ := thn_is h
                  by_cases h7 : 512 < u
                  · rw [if_pos h7] at h; cases h
                  · rw [if_neg h7] at h
                    obtain ⟨l, q, h8, h⟩ := thn_is h
                    injection h with h; injection h with e1 e2
                    subst e1 e2
                    have ha := may_list hm (.inr rfl)
                    have hb := items_back h8 fun v hv s q hp => val_back m (d + 1) (by omega) s v q hp (by have := allMay_mem ha v hv; exact_mod_cast this)
                    rw [pl_list (.inr rfl), items_len h8, (num_back h9).1, hb, show c = 5 from UInt8.toNat_inj.1 h5]
                    simp
                · rw [if_neg h5] at h; cases h

/-! ### Keys -/

def pMarked : List UInt8 → R (List UInt8)
  | [] => .error 11
  | c :: r => if c = 0 then (match r with | [] => .error 11 | d :: q => if d = 1 then .ok ([], q) else if d = 255 then thn (pMarked q) fun s z => .ok (0 :: s, z) else .error 30)
    else thn (pMarked r) fun s z => .ok (c :: s, z)
theorem pMarked_more {c : UInt8} (h : c ≠ 0) (r : List UInt8) : pMarked (c :: r) = thn (pMarked r) fun s z => .ok (c :: s, z) := by
  cases r <;> simp [pMarked, h]
theorem pMarked_zero (d : UInt8) (q : List UInt8) : pMarked (0 :: d :: q) = if d = 1 then .ok ([], q) else if d = 255 then thn (pMarked q) fun s z => .ok (0 :: s, z) else .error 30 := by
  simp [pMarked]
theorem pMarked_end : pMarked [0] = .error 11 := by simp [pMarked]
theorem marked_there : ∀ s r : List UInt8, pMarked (marked s ++ r) = .ok (s, r)
  | [], r => by simp [marked_nil, pMarked]
  | c :: s, r => by
    by_cases hc : c = 0
    · subst hc
      rw [marked_zero]
      simp only [List.cons_append]
      rw [pMarked_zero, if_neg (by decide), if_pos rfl, marked_there s r, thn_ok]
    · rw [marked_more hc]
      simp only [List.cons_append]
      rw [pMarked_more hc, marked_there s r, thn_ok]
theorem marked_back : ∀ {b s r : List UInt8}, pMarked b = .ok (s, r) → b = marked s ++ r
  | [], _, _, h => by cases h
  | c :: b, s, r, h => by
    by_cases hc : c = 0
    · subst hc
      cases b with
      | nil => rw [pMarked_end] at h; cases h
      | cons d q =>
        rw [pMarked_zero] at h
        by_cases h1 : d = 1
        · rw [if_pos h1] at h
          injection h with h; injection h with e1 e2
          subst e1 e2 h1
          rfl
        · rw [if_neg h1] at h
          by_cases h2 : d = 255
          · rw [if_pos h2] at h
            obtain ⟨z, y, h3, h⟩ := thn_is h
            injection h with h; injection h with e1 e2
            subst e1 e2 h2
            rw [marked_back h3, marked_zero]; rfl
          · rw [if_neg h2] at h; cases h
    · rw [pMarked_more hc] at h
      obtain ⟨z, y, h3, h⟩ := thn_is h
      injection h with h; injection h with e1 e2
      subst e1 e2
      rw [marked_back h3, marked_more hc]; rfl
/-- A value as it stands in a key. -/
def pForm : List UInt8 → R V
  | [] => .error 11
  | k :: r => if k.toNat = 1 ∨ k.toNat = 6 ∨ k.toNat = 7 then (if r.length < 8 then .error 11 else .ok (.mk k.toNat (wordI (deN (r.take 8))) ⟨#[]⟩ [], r.drop 8))
    else if k.toNat = 3 then (match r with | [] => .error 11 | c :: s => .ok (.mk 3 c.toNat ⟨#[]⟩ [], s))
    else if k.toNat = 2 then thn (pMarked r) fun s q => .ok (.mk 2 0 ⟨s.toArray⟩ [], q)
    else .error 30
/-- The value, if it may be. -/
def chk (x : R V) : R V := thn x fun v r => if v.may 1 = true then .ok (v, r) else .error 30
def pTake (b : List UInt8) : R V := chk (pForm b)
theorem chk_is {x : R V} {v : V} {r : List UInt8} (h : chk x = .ok (v, r)) : x = .ok (v, r) ∧ v.may 1 = true := by
  obtain ⟨u, s, h1, h⟩ := thn_is h
  by_cases hm : u.may 1 = true
  · rw [if_pos hm] at h
    injection h with h; injection h with e1 e2
    subst e1 e2
    exact ⟨h1, hm⟩
  · rw [if_neg hm] at h; cases h
theorem form_there {v : V} (hv : bad v = 0) (hw : v.wide) (r : List UInt8) : pForm (kForm v ++ r) = .ok (v, r) := by
  cases kk_of hv with
  | num k n hk =>
    simp only [V.wide] at hw
    rw [kForm_num (by omega) (by omega)]
    have hkk : (UInt8.ofNat k.toNat).toNat = k.toNat := toNat_of (by omega)
    have e1 : ((k.toNat : Nat) : Int) = k := by omega
    have hl : (beN 8 (wordU n)).length = 8 := beN_length 8 _
    simp only [List.cons_append, pForm]
    rw [hkk, if_pos (by omega), if_neg (by simp only [List.length_append]; omega)]
    have ht : (beN 8 (wordU n) ++ r).take 8 = beN 8 (wordU n) := List.take_left' hl
    have hd : (beN 8 (wordU n) ++ r).drop 8 = r := List.drop_left' hl
    rw [ht, hd, deN_beN, Nat.mod_eq_of_lt (wordU_lt hw.1), word_there hw.1, e1]
  | bool n hn =>
    rw [kForm_bool]
    simp only [List.cons_append, List.nil_append, pForm]
    rw [if_neg (by decide), if_pos (by decide)]
    rcases hn with rfl | rfl <;> rfl
  | str s hs =>
    rw [kForm_str]
    simp only [List.cons_append, pForm]
    rw [if_neg (by decide), if_neg (by decide), if_pos (by decide), marked_there, thn_ok, size_toArray]
theorem take_there {v : V} (hv : bad v = 0) (hw : v.wide) (r : List UInt8) : pTake (kForm v ++ r) = .ok (v, r) := by
  unfold pTake chk
  rw [form_there hv hw r, thn_ok, if_pos ((bad_iff v).1 hv).1]
theorem form_back {b : List UInt8} {v : V} {r : List UInt8} (h : pForm b = .ok (v, r)) : b = kForm v ++ r ∧ v.k ≠ 4 ∧ v.k ≠ 5 := by
  cases b with
  | nil => cases h
  | cons k b =>
    simp only [pForm] at h
    by_cases h1 : k.toNat = 1 ∨ k.toNat = 6 ∨ k.toNat = 7
    · rw [if_pos h1] at h
      by_cases h8 : b.length < 8
      · rw [if_pos h8] at h; cases h
      · rw [if_neg h8] at h
        injection h with h; injection h with e1 e2
        subst e1 e2
        have hl : (b.take 8).length = 8 := by simp; omega
        have hb : beN 8 (deN (b.take 8)) = b.take 8 := by have := beN_deN (b.take 8); rwa [hl] at this
        refine ⟨?_, by simp only [V.k]; omega, by simp only [V.k]; omega⟩
        rw [kForm_num (by omega) (by omega), word_back, hb, Int.toNat_natCast, UInt8.ofNat_toNat]
        simp
    · rw [if_neg h1] at h
      by_cases h3 : k.toNat = 3
      · rw [if_pos h3] at h
        cases b with
        | nil => cases h
        | cons c b =>
          simp only at h
          injection h with h; injection h with e1 e2
          subst e1 e2
          refine ⟨?_, by simp [V.k], by simp [V.k]⟩
          rw [kForm_bool, Int.toNat_natCast, UInt8.ofNat_toNat, show k = 3 from UInt8.toNat_inj.1 h3]; rfl
      · rw [if_neg h3] at h
        by_cases h2 : k.toNat = 2
        · rw [if_pos h2] at h
          obtain ⟨s, q, h4, h⟩ := thn_is h
          injection h with h; injection h with e1 e2
          subst e1 e2
          refine ⟨?_, by simp [V.k], by simp [V.k]⟩
          rw [kForm_str, marked_back h4, show k = 2 from UInt8.toNat_inj.1 h2]; rfl
        · rw [if_neg h2] at h; cases h
theorem take_back {b : List UInt8} {v : V} {r : List UInt8} (h : pTake b = .ok (v, r)) : b = kForm v ++ r ∧ bad v = 0 := by
  obtain ⟨h1, h2⟩ := chk_is h
  obtain ⟨h3, h4, h5⟩ := form_back h1
  exact ⟨h3, (bad_iff v).2 ⟨h2, h4, h5⟩⟩
/-- The values whose key it is. -/
def pValues : Nat → List UInt8 → Except Int (List V)
  | _, [] => .ok []
  | 0, _ :: _ => .error 0
  | f + 1, c :: b => match pTake (c :: b) with
    | .error e => .error e
    | .ok (v, r) => match pValues f r with | .error e => .error e | .ok l => .ok (v :: l)
theorem values_there : ∀ (l : List V) (f : Nat), (∀ v ∈ l, bad v = 0 ∧ v.wide) → l.length ≤ f → pValues f (keyL l) = .ok l
  | [], f, _, _ => by cases f <;> rfl
  | v :: l, f, h, hf => by
    obtain ⟨f, rfl⟩ : ∃ g, f = g + 1 := ⟨f - 1, by simp at hf; omega⟩
    obtain ⟨hv, hw⟩ := h v (by simp)
    have hk : keyL (v :: l) = kForm v ++ keyL l := by simp [keyL]
    have ht := take_there hv hw (keyL l)
    rw [hk]
    obtain ⟨c, x, hc⟩ : ∃ c x, kForm v = c :: x := ⟨_, _, rfl⟩
    rw [hc] at ht ⊢
    simp only [List.cons_append] at ht ⊢
    simp only [pValues]
    rw [ht]
    simp only
    rw [values_there l f (fun u hu => h u (by simp [hu])) (by simpa using hf)]
theorem values_back : ∀ {f : Nat} {b : List UInt8} {l : List V}, pValues f b = .ok l → b = keyL l ∧ ∀ v ∈ l, bad v = 0
  | f, [], l, h => by
    have : l = [] := by cases f <;> (injection h with h; exact h.symm)
    subst this
    exact ⟨rfl, fun _ h => by cases h⟩
  | 0, c :: b, l, h => by cases h
  | f + 1, c :: b, l, h => by
    simp only [pValues] at h
    cases ht : pTake (c :: b) with
    | error e => rw [ht] at h; cases h
    | ok x =>
      obtain ⟨v, r⟩ := x
      rw [ht] at h
      simp only at h
      cases hr : pValues f r with
      | error e => rw [hr] at h; cases h
      | ok m =>
        rw [hr] at h
        injection h with h
        subst h
        obtain ⟨h1, h2⟩ := take_back ht
        obtain ⟨h3, h4⟩ := values_back hr
        refine ⟨by rw [h1, h3]; simp [keyL], fun u hu => ?_⟩
        rcases List.mem_cons.1 hu with rfl | hu
        · exact h2
        · exact h4 u hu

/-! ### How long bytes are -/

mutual
theorem pl_len : ∀ v : V, v.pl.length ≤ 11 * v.many
  | .mk k n s l => by
    have hl := plL_len l
    have h1 := enc_le (zigN n)
    have h2 := enc_le n.toNat
    have h3 := enc_le s.size
    have h4 := enc_le l.length
    have hs : s.data.toList.length = s.size := Array.length_toList
    simp only [V.pl, V.many, List.length_cons]
    split
    · omega
    · split
      · omega
      · split
        · simp; omega
        · split
          · rw [List.length_append]; omega
          · rw [List.length_append]; omega
theorem plL_len : ∀ l : List V, (plL l).length ≤ 11 * manyL l
  | [] => by simp [plL]
  | v :: l => by
    have h1 := pl_len v
    have h2 := plL_len l
    simp only [plL, manyL, List.length_append]; omega
end
end Go.Proofs.YtbgikgeknnmelaaGreat
