/-
  A value's text, and what is read of a text, as plain functions on lists of bytes; no Go text in it.
-/
import Derived.Test.YtbicodlclmdgaaaGreatDoorCheck
import Derived.Test.YtbicodlclmdgaaaGreatDoorBackN
namespace Go.Proofs.YtbicodlclmdgaaaGreatDoor

/-! ### A value's text -/

def hexd (n : Nat) : UInt8 := if n < 10 then UInt8.ofNat (48 + n) else UInt8.ofNat (87 + n)
/-- It can't be seen. -/
def noSg (c : UInt8) : Bool := decide (c.toNat < 32) || decide (126 < c.toNat)
def chT (c : UInt8) : List UInt8 :=
  if c.toNat = 39 ∨ c.toNat = 92 then [92, c] else if noSg c then [92, 120, hexd (c.toNat / 16), hexd (c.toNat % 16)] else [c]
def strT (s : List UInt8) : List UInt8 := 39 :: (s.flatMap chT ++ [39])
def boolT (n : Int) : List UInt8 := if n ≠ 0 then [116, 114, 117, 101] else [102, 97, 108, 115, 101]
/-- The text, so deep, if what lies within has the texts f. -/
def oneT (d : Nat) (k n : Int) (s : List UInt8) (tl tm : List UInt8) : List UInt8 :=
  if 8 < d then [63] else if k = 1 then Lib.itoa n else if k = 2 then strT s else if k = 3 then boolT n
  else if k = 4 then 91 :: (tl ++ [93]) else if k = 5 then 123 :: (tm ++ [125])
  else if k = 6 then [118, 91] ++ Lib.itoa n ++ [93] else if k = 7 then [101, 91] ++ Lib.itoa n ++ [93] else [63]
/-- What stands ahead of another one. -/
def sep (f : Bool) : List UInt8 := if f then [] else [44, 32]
mutual
def V.txt : V → Nat → List UInt8
  | .mk k n s l, d => oneT d k n s.data.toList (txtL l (d + 1) true) (txtM l (d + 1) true)
def txtL : List V → Nat → Bool → List UInt8
  | [], _, _ => []
  | v :: l, d, f => sep f ++ V.txt v d ++ txtL l d false
def txtM : List V → Nat → Bool → List UInt8
  | [], _, _ => []
  | [_], _, _ => []
  | a :: b :: l, d, f => sep f ++ V.txt a d ++ [58, 32] ++ V.txt b d ++ txtM l d false
end

/-! ### What is read -/

def strip : List UInt8 → List UInt8 → Option (List UInt8)
  | [], s => some s
  | _ :: _, [] => none
  | a :: w, c :: s => if a = c then strip w s else none
def hexv (c : UInt8) : Option Nat := if 48 ≤ c.toNat ∧ c.toNat ≤ 57 then some (c.toNat - 48) else if 97 ≤ c.toNat ∧ c.toNat ≤ 102 then some (c.toNat - 87) else none
def pHid : List UInt8 → Option (UInt8 × List UInt8)
  | h :: s => match hexv h with
    | none => none
    | some a => if noSg (UInt8.ofNat (16 * a)) || noSg (UInt8.ofNat (16 * a + 15)) then
        (match s with
        | [] => none
        | l :: s => match hexv l with
          | none => none
          | some b => if noSg (UInt8.ofNat (16 * a + b)) then some (UInt8.ofNat (16 * a + b), s) else none)
      else none
  | [] => none
def pEsc : List UInt8 → Option (UInt8 × List UInt8)
  | [] => none
  | c :: s => if c.toNat = 39 ∨ c.toNat = 92 then some (c, s) else if c.toNat = 120 then pHid s else none
def pChr : List UInt8 → Option (UInt8 × List UInt8)
  | [] => none
  | c :: s => if noSg c then none else if c.toNat ≠ 92 then some (c, s) else pEsc s
def pStr : Nat → List UInt8 → Option (List UInt8 × List UInt8)
  | 0, _ => none
  | _ + 1, [] => none
  | f + 1, c :: s => if c.toNat = 39 then some ([], s) else
      match pChr (c :: s) with
      | none => none
      | some (b, s1) => match pStr f s1 with
        | none => none
        | some (l, s2) => some (b :: l, s2)
def pDig : List UInt8 → Int → List UInt8 → Option (Int × List UInt8)
  | _, n, [] => some (n, [])
  | pre, n, c :: s => if isDig c then (if form (pre ++ [c]) && fits (sval (pre ++ [c])) then pDig (pre ++ [c]) (sval (pre ++ [c])) s else none) else some (n, c :: s)
def pNum1 (pre : List UInt8) : List UInt8 → Option (Int × List UInt8)
  | [] => none
  | c :: s => if isDig c then pDig pre 0 (c :: s) else none
def pNum : List UInt8 → Option (Int × List UInt8)
  | [] => none
  | c :: s => if c.toNat = 45 then pNum1 [c] s else pNum1 [] (c :: s)
def pId (head : List UInt8) (s : List UInt8) : Option (Int × List UInt8) :=
  match strip head s with
  | none => none
  | some s1 => match pNum s1 with
    | none => none
    | some (n, s2) => match strip [93] s2 with
      | none => none
      | some s3 => some (n, s3)
/-- What comes next: closed (true), or another one. -/
def pNext (cl : UInt8) (more : Bool) : List UInt8 → Option (Bool × List UInt8)
  | [] => none
  | c :: s => if c = cl then some (true, s) else
      match strip (sep (!more)) (c :: s) with
      | none => none
      | some s1 => some (false, s1)
def pItems (pe : List UInt8 → Option (V × List UInt8)) : Nat → Bool → List UInt8 → Option (List V × List UInt8)
  | 0, _, _ => none
  | f + 1, more, s => match pNext 93 more s with
    | none => none
    | some (true, s1) => some ([], s1)
    | some (false, s1) => match pe s1 with
      | none => none
      | some (v, s2) => match pItems pe f true s2 with
        | none => none
        | some (l, s3) => some (v :: l, s3)
/-- A key, and its value. -/
def pPair (pe : List UInt8 → Option (V × List UInt8)) (s : List UInt8) : Option ((V × V) × List UInt8) :=
  match pe s with
  | none => none
  | some (a, s1) => match strip [58, 32] s1 with
    | none => none
    | some s2 => match pe s2 with
      | none => none
      | some (b, s3) => some ((a, b), s3)
def pPairs (pe : List UInt8 → Option (V × List UInt8)) : Nat → Bool → List UInt8 → Option (List V × List UInt8)
  | 0, _, _ => none
  | f + 1, more, s => match pNext 125 more s with
    | none => none
    | some (true, s1) => some ([], s1)
    | some (false, s1) => match pPair pe s1 with
      | none => none
      | some ((a, b), s2) => match pPairs pe f true s2 with
        | none => none
        | some (l, s3) => some (a :: b :: l, s3)
def vzero : V := .mk 0 0 ⟨#[]⟩ []
/-- What is read of a value whose text does not open with a question mark, if pe reads what lies within. -/
def pOne (pe : List UInt8 → Option (V × List UInt8)) : List UInt8 → Option (V × List UInt8)
  | [] => none
  | c :: s =>
    if c.toNat = 39 then (pStr (s.length + 1) s).map fun x => (.mk 2 0 ⟨x.1.toArray⟩ [], x.2)
    else if c.toNat = 116 then (strip [116, 114, 117, 101] (c :: s)).map fun x => (.mk 3 1 ⟨#[]⟩ [], x)
    else if c.toNat = 102 then (strip [102, 97, 108, 115, 101] (c :: s)).map fun x => (.mk 3 0 ⟨#[]⟩ [], x)
    else if c.toNat = 91 then (pItems pe (s.length + 1) false s).map fun x => (.mk 4 0 ⟨#[]⟩ x.1, x.2)
    else if c.toNat = 123 then (pPairs pe (s.length + 1) false s).map fun x => (.mk 5 0 ⟨#[]⟩ x.1, x.2)
    else if c.toNat = 118 then (pId [118, 91] (c :: s)).map fun x => (.mk 6 x.1 ⟨#[]⟩ [], x.2)
    else if c.toNat = 101 then (pId [101, 91] (c :: s)).map fun x => (.mk 7 x.1 ⟨#[]⟩ [], x.2)
    else (pNum (c :: s)).map fun x => (.mk 1 x.1 ⟨#[]⟩ [], x.2)
/-- What is read, with so many values one within the other. -/
def pVal : Nat → List UInt8 → Option (V × List UInt8)
  | 0, s => match s with
    | [] => none
    | c :: s => if c.toNat = 63 then some (vzero, s) else none
  | n + 1, s => match s with
    | [] => none
    | c :: s => if c.toNat = 63 then some (vzero, s) else pOne (pVal n) (c :: s)

/-! ### What is read has that text -/

theorem strip_eq : ∀ {w s r : List UInt8}, strip w s = some r → s = w ++ r
  | [], s, r, h => by simpa [strip] using h
  | a :: w, [], r, h => by simp [strip] at h
  | a :: w, c :: s, r, h => by
    simp only [strip] at h
    split at h
    · rename_i e; subst e
      rw [strip_eq h]; rfl
    · cases h
theorem strip_app : ∀ (w r : List UInt8), strip w (w ++ r) = some r
  | [], r => rfl
  | a :: w, r => by simp [strip, strip_app w r]

theorem hex_back {c : UInt8} {a : Nat} (h : hexv c = some a) : a < 16 ∧ hexd a = c := by
  unfold hexv at h
  split at h
  · rename_i e
    injection h with h
    subst h
    refine ⟨by omega, ?_⟩
    unfold hexd
    rw [if_pos (by omega), show 48 + (c.toNat - 48) = c.toNat by omega]; simp
  · split at h
    · rename_i e
      injection h with h
      subst h
      refine ⟨by omega, ?_⟩
      unfold hexd
      rw [if_neg (by omega), show 87 + (c.toNat - 87) = c.toNat by omega]; simp
    · cases h
theorem hex_there {a : Nat} (h : a < 16) : hexv (hexd a) = some a := by
  unfold hexd
  split
  · unfold hexv
    rw [UInt8.toNat_ofNat', Nat.mod_eq_of_lt (by omega), if_pos (by omega)]
    congr 1; omega
  · unfold hexv
    rw [UInt8.toNat_ofNat', Nat.mod_eq_of_lt (by omega), if_neg (by omega), if_pos (by omega)]
    congr 1; omega
theorem chr_back {s : List UInt8} {c : UInt8} {r : List UInt8} (h : pChr s = some (c, r)) (hq : ∀ s', s ≠ 39 :: s') : s = chT c ++ r := by
  cases s with
  | nil => simp [pChr] at h
  | cons x s =>
    simp only [pChr] at h
    split at h
    · cases h
    · rename_i hx
      split at h
      · rename_i h92
        injection h with h; injection h with h1 h2; subst h1 h2
        have h39 : ¬ x.toNat = 39 := fun e => hq s (by rw [show x = 39 from UInt8.toNat_inj.1 e])
        unfold chT
        rw [if_neg (by omega), if_neg hx]; rfl
      · rename_i h92
        have hx92 : x = 92 := UInt8.toNat_inj.1 (by simpa using h92)
        subst hx92
        cases s with
        | nil => simp [pEsc] at h
        | cons y s =>
          simp only [pEsc] at h
          split at h
          · rename_i hy
            injection h with h; injection h with h1 h2; subst h1 h2
            unfold chT
            rw [if_pos hy]; rfl
          · split at h
            · rename_i hy hy2
              have hy120 : y = 120 := UInt8.toNat_inj.1 hy2
              subst hy120
              cases s with
              | nil => simp [pHid] at h
              | cons z s =>
                simp only [pHid] at h
                split at h
                · cases h
                · rename_i a ha
                  obtain ⟨ha1, ha2⟩ := hex_back ha
                  split at h
                  · split at h
                    · cases h
                    · rename_i l s' 
                      split at h
                      · cases h
                      · rename_i b hb
                        obtain ⟨hb1, hb2⟩ := hex_back hb
                        split at h
                        · rename_i hno
                          injection h with h; injection h with h1 h2; subst h1 h2
                          have e : (UInt8.ofNat (16 * a + b)).toNat = 16 * a + b := by rw [UInt8.toNat_ofNat', Nat.mod_eq_of_lt (by omega)]
                          unfold chT
                          rw [if_neg (by
                            intro h
                            unfold noSg at hno
                            rcases h with h | h <;> rw [h] at hno <;> simp at hno), if_pos hno, e, show (16 * a + b) / 16 = a by omega, show (16 * a + b) % 16 = b by omega, ha2, hb2]
                          rfl
                        · cases h
                  · cases h
            · cases h
theorem str_back : ∀ {f : Nat} {s l r : List UInt8}, pStr f s = some (l, r) → s = l.flatMap chT ++ 39 :: r
  | 0, s, l, r, h => by simp [pStr] at h
  | f + 1, [], l, r, h => by simp [pStr] at h
  | f + 1, c :: s, l, r, h => by
    simp only [pStr] at h
    split at h
    · rename_i hc
      injection h with h; injection h with h1 h2; subst h1 h2
      rw [show c = 39 from UInt8.toNat_inj.1 hc]; rfl
    · rename_i hc
      split at h
      · cases h
      · rename_i b s1 hb
        split at h
        · cases h
        · rename_i l' s2 hl
          injection h with h; injection h with h1 h2; subst h1 h2
          rw [chr_back hb (fun s' e => hc (by injection e with e1 e2; rw [e1]; rfl)), str_back hl]
          simp
theorem dig_back : ∀ {s pre : List UInt8} {n m : Int} {r : List UInt8}, pDig pre n s = some (m, r) → (m = n ∧ s = r) ∨ ∃ x, x ≠ [] ∧ s = x ++ r ∧ form (pre ++ x) = true ∧ fits (sval (pre ++ x)) = true ∧ m = sval (pre ++ x)
  | [], pre, n, m, r, h => by
    simp only [pDig, Option.some.injEq, Prod.mk.injEq] at h
    exact .inl ⟨h.1.symm, h.2⟩
  | c :: s, pre, n, m, r, h => by
    simp only [pDig] at h
    split at h
    · split at h
      · rename_i hf
        simp only [Bool.and_eq_true] at hf
        rcases dig_back h with ⟨rfl, rfl⟩ | ⟨x, hx, rfl, h1, h2, h3⟩
        · exact .inr ⟨[c], by simp, rfl, hf.1, hf.2, rfl⟩
        · exact .inr ⟨c :: x, by simp, rfl, by simpa using h1, by simpa using h2, by simpa using h3⟩
      · cases h
    · simp only [Option.some.injEq, Prod.mk.injEq] at h
      exact .inl ⟨h.1.symm, h.2⟩
theorem num1_back {pre s : List UInt8} {m : Int} {r : List UInt8} (h : pNum1 pre s = some (m, r)) : pre ++ s = Lib.itoa m ++ r ∧ fits m = true := by
  cases s with
  | nil => simp [pNum1] at h
  | cons c s =>
    simp only [pNum1] at h
    split at h
    · rename_i hd
      rcases dig_back h with ⟨rfl, e⟩ | ⟨x, hx, e, h1, h2, rfl⟩
      · simp only [pDig, hd, if_true] at h
        split at h
        · rename_i hf
          simp only [Bool.and_eq_true] at hf
          rcases dig_back h with ⟨e1, e2⟩ | ⟨x, hx, e2, h1, h2, h3⟩
          · subst e2; exact absurd e (by simp)
          · have := congrArg List.length (e.trans rfl)
            rw [e2] at this
            rw [← e] at this
            simp at this
            omega
        · cases h
      · rw [itoa_form _ h1, e]
        exact ⟨by simp, h2⟩
    · cases h
theorem num_back {s : List UInt8} {m : Int} {r : List UInt8} (h : pNum s = some (m, r)) : s = Lib.itoa m ++ r ∧ fits m = true := by
  cases s with
  | nil => simp [pNum] at h
  | cons c s =>
    simp only [pNum] at h
    split at h
    · exact num1_back h
    · exact num1_back h
theorem id_back {hd s : List UInt8} {m : Int} {r : List UInt8} (h : pId hd s = some (m, r)) : s = hd ++ Lib.itoa m ++ [93] ++ r ∧ fits m = true := by
  unfold pId at h
  split at h
  · cases h
  · rename_i s1 h1
    split at h
    · cases h
    · rename_i n s2 h2
      split at h
      · cases h
      · rename_i s3 h3
        injection h with h; injection h with e1 e2; subst e1 e2
        obtain ⟨e, hf⟩ := num_back h2
        refine ⟨?_, hf⟩
        rw [strip_eq h1, e, strip_eq h3]; simp
theorem next_back {cl : UInt8} {more : Bool} {s r : List UInt8} : (pNext cl more s = some (true, r) → s = cl :: r) ∧ (pNext cl more s = some (false, r) → s = sep (!more) ++ r) := by
  cases s with
  | nil => simp [pNext]
  | cons c s =>
    simp only [pNext]
    constructor
    · intro h
      split at h
      · rename_i e; subst e; simpa using h
      · split at h <;> simp at h
    · intro h
      split at h
      · simp at h
      · split at h
        · cases h
        · rename_i s1 h1
          simp only [Option.some.injEq, Prod.mk.injEq, true_and] at h
          subst h
          exact strip_eq h1
theorem items_back {pe : List UInt8 → Option (V × List UInt8)} {d : Nat} (hpe : ∀ s v r, pe s = some (v, r) → s = v.txt d ++ r) : ∀ {f : Nat} {more : Bool} {s : List UInt8} {l : List V} {r : List UInt8},
    pItems pe f more s = some (l, r) → s = txtL l d (!more) ++ 93 :: r
  | 0, _, _, _, _, h => by simp [pItems] at h
  | f + 1, more, s, l, r, h => by
    simp only [pItems] at h
    split at h
    · cases h
    · rename_i s1 h1
      injection h with h; injection h with e1 e2; subst e1 e2
      rw [next_back.1 h1]; rfl
    · rename_i s1 h1
      split at h
      · cases h
      · rename_i v s2 h2
        split at h
        · cases h
        · rename_i l' s3 h3
          injection h with h; injection h with e1 e2; subst e1 e2
          rw [next_back.2 h1, hpe _ _ _ h2, items_back hpe h3]
          simp [txtL]
theorem pairs_back {pe : List UInt8 → Option (V × List UInt8)} {d : Nat} (hpe : ∀ s v r, pe s = some (v, r) → s = v.txt d ++ r) : ∀ {f : Nat} {more : Bool} {s : List UInt8} {l : List V} {r : List UInt8},
    pPairs pe f more s = some (l, r) → s = txtM l d (!more) ++ 125 :: r
  | 0, _, _, _, _, h => by simp [pPairs] at h
  | f + 1, more, s, l, r, h => by
    simp only [pPairs] at h
    split at h
    · cases h
    · rename_i s1 h1
      injection h with h; injection h with e1 e2; subst e1 e2
      rw [next_back.1 h1]; rfl
    · rename_i s1 h1
      split at h
      · cases h
      · rename_i a b s2 h2
        split at h
        · cases h
        · rename_i l' s3 h3
          injection h with h; injection h with e1 e2; subst e1 e2
          unfold pPair at h2
          split at h2
          · cases h2
          · rename_i a' t1 k1
            split at h2
            · cases h2
            · rename_i t2 k2
              split at h2
              · cases h2
              · rename_i b' t3 k3
                simp only [Option.some.injEq, Prod.mk.injEq] at h2
                obtain ⟨⟨rfl, rfl⟩, rfl⟩ := h2
                rw [next_back.2 h1, hpe _ _ _ k1, strip_eq k2, hpe _ _ _ k3, pairs_back hpe h3]
                simp [txtM]
theorem one_back {pe : List UInt8 → Option (V × List UInt8)} {d : Nat} (hd : d ≤ 8) (hpe : ∀ s v r, pe s = some (v, r) → s = v.txt (d + 1) ++ r) {s : List UInt8} {v : V} {r : List UInt8} (h : pOne pe s = some (v, r)) : s = v.txt d ++ r := by
  cases s with
  | nil => simp [pOne] at h
  | cons c s =>
    have h8 : ¬ 8 < d := by omega
    simp only [pOne] at h
    repeat' split at h
    all_goals
      rename_i hc
      rw [Option.map_eq_some_iff] at h
      obtain ⟨x, hx, he⟩ := h
      simp only [Prod.mk.injEq] at he
      obtain ⟨rfl, rfl⟩ := he
      simp only [V.txt, oneT, if_neg h8]
    · have := str_back (l := x.1) (r := x.2) hx
      rw [this, show c = 39 from UInt8.toNat_inj.1 hc]
      simp [strT]
    · rw [strip_eq hx]; simp [boolT]
    · rw [strip_eq hx]; simp [boolT]
    · have := items_back (l := x.1) (r := x.2) hpe hx
      rw [this, show c = 91 from UInt8.toNat_inj.1 hc]
      simp
    · have := pairs_back (l := x.1) (r := x.2) hpe hx
      rw [this, show c = 123 from UInt8.toNat_inj.1 hc]
      simp
    · rw [(id_back (m := x.1) (r := x.2) hx).1]; simp
    · rw [(id_back (m := x.1) (r := x.2) hx).1]; simp
    · rw [(num_back (m := x.1) (r := x.2) hx).1]; simp
theorem val_back : ∀ (n d : Nat), d + n = 9 → ∀ s v r, pVal n s = some (v, r) → s = v.txt d ++ r
  | 0, d, hd, s, v, r, h => by
    cases s with
    | nil => simp [pVal] at h
    | cons c s =>
      simp only [pVal] at h
      split at h
      · rename_i hc
        injection h with h; injection h with e1 e2; subst e1 e2
        simp only [vzero, V.txt, oneT, if_pos (show 8 < d by omega)]
        rw [show c = 63 from UInt8.toNat_inj.1 hc]; rfl
      · cases h
  | n + 1, d, hd, s, v, r, h => by
    cases s with
    | nil => simp [pVal] at h
    | cons c s =>
      simp only [pVal] at h
      split at h
      · rename_i hc
        injection h with h; injection h with e1 e2; subst e1 e2
        rw [show c = 63 from UInt8.toNat_inj.1 hc]
        simp [vzero, V.txt, oneT]
      · exact one_back (by omega) (val_back n (d + 1) (by omega)) h
end Go.Proofs.YtbicodlclmdgaaaGreatDoor
