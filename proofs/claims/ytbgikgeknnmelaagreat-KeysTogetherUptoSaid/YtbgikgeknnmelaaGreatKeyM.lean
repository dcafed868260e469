/-
  Values that are the same; how many letters a value holds; keys as mathematics: what is written, and why bytes stand as the values do.
-/
import Derived.Test.YtbgikgeknnmelaaGreatCheck
namespace Go.Proofs.YtbgikgeknnmelaaGreat
open Go.RowKit

theorem empty_arr {s : ByteArray} (h : s.size = 0) : s = ⟨#[]⟩ := by
  obtain ⟨⟨l⟩⟩ := s
  cases l with
  | nil => rfl
  | cons a l => simp [ByteArray.size] at h
theorem empty_eq {s : ByteArray} (h : s = ByteArray.empty) : s = ⟨#[]⟩ := h
theorem allMay_mem {l : List V} {d : Int} (h : allMay l d = true) : ∀ v ∈ l, v.may d = true := by
  induction l with
  | nil => intro v hv; cases hv
  | cons a l ih =>
    simp only [allMay, Bool.and_eq_true] at h
    intro v hv
    rcases List.mem_cons.1 hv with rfl | hv
    · exact h.1
    · exact ih h.2 v hv
mutual
/-- Every number in it has room. -/
def V.wide : V → Prop
  | .mk _ n _ l => I64 n ∧ wideL l
def wideL : List V → Prop
  | [] => True
  | v :: l => V.wide v ∧ wideL l
end
mutual
theorem V.In.wide {w : World} {lo : Nat} : ∀ (v : V) (sl : Value), v.In w lo sl → v.wide
  | .mk k n s l, sl, h => by
    simp only [V.In] at h
    obtain ⟨h1, h2, h3, p, cap, e, hc, hm, h56, hx⟩ := h
    simp only [V.wide]
    refine ⟨h2, ?_⟩
    rcases hx with hx | ⟨b, o, hp, hb, hx⟩
    · subst hx; simp only [wideL]
    · exact Ls.wide l b o hx
theorem Ls.wide {w : World} {lo : Nat} : ∀ (l : List V) (b o : Nat), Ls w lo l b o → wideL l
  | [], _, _, _ => by simp only [wideL]
  | v :: l, b, o, h => by
    simp only [Ls] at h
    obtain ⟨sl, c0, c1, c2, c3, hv, hr⟩ := h
    simp only [wideL]
    exact ⟨V.In.wide v sl hv, Ls.wide l b (o + 4) hr⟩
end
theorem wideL_mem {l : List V} (h : wideL l) : ∀ v ∈ l, v.wide := by
  induction l with
  | nil => intro v hv; cases hv
  | cons a l ih =>
    simp only [wideL] at h
    intro v hv
    rcases List.mem_cons.1 hv with rfl | hv
    · exact h.1
    · exact ih h.2 v hv
theorem bytes_eq : ∀ x y : List UInt8, Lib.compareBytes x y = 0 → x = y
  | [], [], _ => rfl
  | [], _ :: _, h => by simp [Lib.compareBytes] at h
  | _ :: _, [], h => by simp [Lib.compareBytes] at h
  | a :: x, b :: y, h => by
    simp only [Lib.compareBytes, UInt8.lt_iff_toNat_lt] at h
    split at h
    · simp at h
    · split at h
      · simp at h
      · rw [bytes_eq x y h, show a = b from UInt8.toNat_inj.1 (by omega)]
mutual
theorem cmp_eq : ∀ a b : V, a.cmp b = 0 → a = b
  | .mk k n s l, .mk k' n' s' l', h => by
    simp only [V.cmp] at h
    have l0 : ∀ {c d : Int}, lex c d = 0 → c = 0 ∧ d = 0 := by intro c d h; unfold lex at h; split at h <;> omega
    obtain ⟨h1, h⟩ := l0 h
    obtain ⟨h2, h⟩ := l0 h
    obtain ⟨h3, h4⟩ := l0 h
    have i0 : ∀ {x y : Int}, icmp x y = 0 → x = y := by intro x y h; unfold icmp at h; split at h <;> (try split at h) <;> omega
    have e3 : s = s' := by
      have := bytes_eq _ _ h3
      obtain ⟨⟨x⟩⟩ := s
      obtain ⟨⟨y⟩⟩ := s'
      exact congrArg (fun z => (⟨⟨z⟩⟩ : ByteArray)) this
    rw [i0 h1, i0 h2, e3, cmpL_eq l l' h4]
theorem cmpL_eq : ∀ a b : List V, cmpL a b = 0 → a = b
  | [], [], _ => rfl
  | [], _ :: _, h => by simp [cmpL] at h
  | _ :: _, [], h => by simp [cmpL] at h
  | a :: l, b :: m, h => by
    simp only [cmpL] at h
    have l0 : ∀ {c d : Int}, lex c d = 0 → c = 0 ∧ d = 0 := by intro c d h; unfold lex at h; split at h <;> omega
    rw [cmp_eq a b (l0 h).1, cmpL_eq l m (l0 h).2]
end

/-! ### How long a text is -/

mutual
/-- How many values and letters it holds. -/
def V.many : V → Nat
  | .mk _ _ s l => s.size + manyL l + 1
def manyL : List V → Nat
  | [] => 0
  | v :: l => V.many v + manyL l
end

/-! ### Numbers, the highest byte first -/

def beN : Nat → Nat → List UInt8
  | 0, _ => []
  | k + 1, u => UInt8.ofNat (u / 256 ^ k % 256) :: beN k u
theorem beN_length (k u : Nat) : (beN k u).length = k := by
  induction k with
  | zero => rfl
  | succ k ih => simp [beN, ih]
theorem toNat_of {n : Nat} (h : n < 256) : (UInt8.ofNat n).toNat = n := by rw [UInt8.toNat_ofNat', Nat.mod_eq_of_lt (by omega)]
theorem ofNat_lt {a b : Nat} (ha : a < 256) (hb : b < 256) : (UInt8.ofNat a < UInt8.ofNat b) ↔ a < b := by rw [UInt8.lt_iff_toNat_lt, toNat_of ha, toNat_of hb]
theorem cmp_beN (p q : List UInt8) : ∀ k u v : Nat, Lib.compareBytes (beN k u ++ p) (beN k v ++ q) = if u % 256 ^ k < v % 256 ^ k then -1 else if v % 256 ^ k < u % 256 ^ k then 1 else Lib.compareBytes p q := by
  intro k
  induction k with
  | zero => intro u v; simp [beN, Nat.mod_one]
  | succ k ih =>
    intro u v
    simp only [beN, List.cons_append, Lib.compareBytes]
    simp only [ofNat_lt (Nat.mod_lt (u / 256 ^ k) (show 256 > 0 by omega)) (Nat.mod_lt (v / 256 ^ k) (show 256 > 0 by omega)), ofNat_lt (Nat.mod_lt (v / 256 ^ k) (show 256 > 0 by omega)) (Nat.mod_lt (u / 256 ^ k) (show 256 > 0 by omega))]
    rw [ih u v, Nat.mod_pow_succ, Nat.mod_pow_succ]
    have hM : 0 < 256 ^ k := Nat.pow_pos (by omega)
    have hx := Nat.mod_lt u hM
    have hy := Nat.mod_lt v hM
    generalize u / 256 ^ k % 256 = a
    generalize v / 256 ^ k % 256 = b
    generalize u % 256 ^ k = x at *
    generalize v % 256 ^ k = y at *
    generalize 256 ^ k = M at *
    rcases Nat.lt_trichotomy a b with h | h | h
    · have h1 : M * (a + 1) ≤ M * b := Nat.mul_le_mul_left M h
      rw [Nat.mul_add, Nat.mul_one] at h1
      rw [if_pos h, if_pos (by omega)]
    · subst h
      simp only [Nat.lt_irrefl, if_false, Nat.add_lt_add_iff_right]
    · have h1 : M * (b + 1) ≤ M * a := Nat.mul_le_mul_left M h
      rw [Nat.mul_add, Nat.mul_one] at h1
      rw [if_neg (show ¬ a < b by omega), if_pos h, if_neg (show ¬ x + M * a < y + M * b by omega), if_pos (by omega)]

/-- The number that bytes say. -/
def deF (a : Nat) (l : List UInt8) : Nat := l.foldl (fun a c => a * 256 + c.toNat) a
def deN (l : List UInt8) : Nat := deF 0 l
theorem deF_cons (a : Nat) (c : UInt8) (l : List UInt8) : deF a (c :: l) = deF (a * 256 + c.toNat) l := rfl
theorem deF_eq : ∀ (l : List UInt8) (a : Nat), deF a l = a * 256 ^ l.length + deN l
  | [], a => by simp [deF, deN]
  | c :: l, a => by
    unfold deN
    rw [deF_cons, deF_cons, deF_eq l, deF_eq l (0 * 256 + c.toNat), List.length_cons, Nat.pow_succ, Nat.add_mul, Nat.zero_mul, Nat.zero_add, Nat.mul_assoc, Nat.mul_comm 256, Nat.add_assoc]
theorem deN_cons (c : UInt8) (l : List UInt8) : deN (c :: l) = c.toNat * 256 ^ l.length + deN l := by
  show deF 0 (c :: l) = _
  rw [deF_cons, deF_eq]; simp
theorem deN_lt : ∀ l : List UInt8, deN l < 256 ^ l.length
  | [] => by simp [deN, deF]
  | c :: l => by
    have h := deN_lt l
    have hc := c.toNat_lt
    rw [deN_cons, List.length_cons, Nat.pow_succ]
    have h1 : (c.toNat + 1) * 256 ^ l.length ≤ 256 * 256 ^ l.length := Nat.mul_le_mul_right _ (by omega)
    rw [Nat.add_mul, Nat.one_mul] at h1
    rw [Nat.mul_comm _ 256]
    omega
theorem beN_mod (u : Nat) : ∀ k m : Nat, k ≤ m → beN k (u % 256 ^ m) = beN k u := by
  intro k
  induction k with
  | zero => intros; rfl
  | succ k ih =>
    intro m hm
    simp only [beN]
    rw [ih m (by omega)]
    congr 2
    obtain ⟨j, rfl⟩ : ∃ j, m = k + (j + 1) := ⟨m - k - 1, by omega⟩
    rw [Nat.pow_add, Nat.mod_mul_right_div_self, Nat.pow_succ, Nat.mod_mul_left_mod]
theorem deN_beN : ∀ k u : Nat, deN (beN k u) = u % 256 ^ k := by
  intro k
  induction k with
  | zero => intro u; simp [beN, deN, deF, Nat.mod_one]
  | succ k ih =>
    intro u
    simp only [beN]
    rw [deN_cons, beN_length, ih, toNat_of (Nat.mod_lt _ (by omega)), Nat.mod_pow_succ, Nat.mul_comm]; omega
theorem beN_deN : ∀ l : List UInt8, beN l.length (deN l) = l
  | [] => rfl
  | c :: l => by
    have h := deN_lt l
    have hM : 0 < 256 ^ l.length := Nat.pow_pos (by omega)
    have hc := c.toNat_lt
    simp only [List.length_cons, beN]
    have e1 : deN (c :: l) / 256 ^ l.length % 256 = c.toNat := by
      rw [deN_cons, Nat.mul_comm, Nat.mul_add_div hM, Nat.div_eq_of_lt h, Nat.add_zero, Nat.mod_eq_of_lt hc]
    have e2 : beN l.length (deN (c :: l)) = l := by
      rw [← beN_mod _ l.length l.length (Nat.le_refl _), deN_cons, Nat.mul_comm, Nat.mul_add_mod, Nat.mod_eq_of_lt h]
      exact beN_deN l
    rw [e1, e2, UInt8.ofNat_toNat]

/-- A number with its highest bit turned. -/
def wordU (n : Int) : Nat := (n + 9223372036854775808).toNat
def wordI (u : Nat) : Int := (u : Int) - 9223372036854775808
theorem wordU_lt {n : Int} (h : I64 n) : wordU n < 256 ^ 8 := by unfold wordU I64 at *; omega
theorem word_there {n : Int} (h : I64 n) : wordI (wordU n) = n := by unfold wordU wordI I64 at *; omega
theorem word_back (u : Nat) : wordU (wordI u) = u := by unfold wordU wordI; omega
theorem wordI_i64 {u : Nat} (h : u < 256 ^ 8) : I64 (wordI u) := by unfold wordI I64; omega

/-! ### Strings in a key -/

def mk1 (c : UInt8) : List UInt8 := if c = 0 then [0, 255] else [c]
def marked (s : List UInt8) : List UInt8 := s.flatMap mk1 ++ [0, 1]
theorem marked_nil : marked [] = [0, 1] := rfl
theorem marked_zero (r : List UInt8) : marked (0 :: r) = 0 :: 255 :: marked r := by simp [marked, mk1]
theorem marked_more {c : UInt8} (h : c ≠ 0) (r : List UInt8) : marked (c :: r) = c :: marked r := by simp [marked, mk1, h]
theorem cmp_same (c : UInt8) (p q : List UInt8) : Lib.compareBytes (c :: p) (c :: q) = Lib.compareBytes p q := by
  simp only [Lib.compareBytes, UInt8.lt_iff_toNat_lt]
  rw [if_neg (by omega), if_neg (by omega)]
theorem cmp_less {c d : UInt8} (h : c.toNat < d.toNat) (p q : List UInt8) : Lib.compareBytes (c :: p) (d :: q) = -1 := by
  simp only [Lib.compareBytes, UInt8.lt_iff_toNat_lt]
  rw [if_pos h]
theorem cmp_more {c d : UInt8} (h : d.toNat < c.toNat) (p q : List UInt8) : Lib.compareBytes (c :: p) (d :: q) = 1 := by
  simp only [Lib.compareBytes, UInt8.lt_iff_toNat_lt]
  rw [if_neg (by omega), if_pos h]
theorem pos_of_ne {c : UInt8} (h : c ≠ 0) : 0 < c.toNat := by
  rcases Nat.eq_zero_or_pos c.toNat with e | e
  · exact absurd (UInt8.toNat_inj.1 e) h
  · exact e
theorem cmp_marked : ∀ (s t p q : List UInt8), s ≠ t → Lib.compareBytes (marked s ++ p) (marked t ++ q) = Lib.compareBytes s t
  | [], [], _, _, h => absurd rfl h
  | [], d :: t, p, q, _ => by
    rw [marked_nil]
    by_cases hd : d = 0
    · subst hd
      rw [marked_zero]
      simp only [List.cons_append, List.nil_append]
      rw [cmp_same, cmp_less (by decide)]; rfl
    · rw [marked_more hd]
      simp only [List.cons_append]
      rw [cmp_less (by have := pos_of_ne hd; exact this)]; rfl
  | c :: s, [], p, q, _ => by
    rw [marked_nil]
    by_cases hd : c = 0
    · subst hd
      rw [marked_zero]
      simp only [List.cons_append, List.nil_append]
      rw [cmp_same, cmp_more (by decide)]; rfl
    · rw [marked_more hd]
      simp only [List.cons_append]
      rw [cmp_more (by have := pos_of_ne hd; exact this)]; rfl
  | c :: s, d :: t, p, q, h => by
    by_cases hcd : c = d
    · subst hcd
      have h' : s ≠ t := fun e => h (by rw [e])
      rw [cmp_same]
      by_cases hc : c = 0
      · subst hc
        rw [marked_zero, marked_zero]
        simp only [List.cons_append]
        rw [cmp_same, cmp_same]
        exact cmp_marked s t p q h'
      · rw [marked_more hc, marked_more hc]
        simp only [List.cons_append]
        rw [cmp_same]
        exact cmp_marked s t p q h'
    · have hh : ∀ (x : UInt8) (r z : List UInt8), ∃ y, marked (x :: r) ++ z = x :: y := fun x r z => by
        by_cases hx : x = 0
        · subst hx; exact ⟨_, by rw [marked_zero]; rfl⟩
        · exact ⟨_, by rw [marked_more hx]; rfl⟩
      obtain ⟨y1, e1⟩ := hh c s p
      obtain ⟨y2, e2⟩ := hh d t q
      rw [e1, e2]
      rcases Nat.lt_trichotomy c.toNat d.toNat with h1 | h1 | h1
      · rw [cmp_less h1, cmp_less h1]
      · exact absurd (UInt8.toNat_inj.1 h1) hcd
      · rw [cmp_more h1, cmp_more h1]

/-! ### Keys -/

/-- A value's form in a key. -/
def kForm (v : V) : List UInt8 :=
  UInt8.ofNat v.k.toNat :: (if v.k = 3 then [UInt8.ofNat v.n.toNat] else if v.k = 2 then marked v.s.data.toList else beN 8 (wordU v.n))
def keyL (l : List V) : List UInt8 := l.flatMap kForm
/-- What is wrong with a value in a key. -/
def bad (v : V) : Int := if v.may 1 = false then 20 else if v.k = 4 ∨ v.k = 5 then 21 else 0
/-- What is wrong with the first of which something is. -/
def bads : List V → Int
  | [] => 0
  | v :: l => if bad v = 0 then bads l else bad v
theorem bad_iff (v : V) : bad v = 0 ↔ v.may 1 = true ∧ v.k ≠ 4 ∧ v.k ≠ 5 := by
  unfold bad
  cases v.may 1 <;> simp
theorem bads_mem : ∀ {l : List V}, bads l = 0 → ∀ v ∈ l, bad v = 0
  | [], _, v, hv => by cases hv
  | a :: l, h, v, hv => by
    simp only [bads] at h
    by_cases ha : bad a = 0
    · rw [if_pos ha] at h
      rcases List.mem_cons.1 hv with rfl | hv
      · exact ha
      · exact bads_mem h v hv
    · rw [if_neg ha] at h; exact absurd h ha
theorem bads_of : ∀ {l : List V}, (∀ v ∈ l, bad v = 0) → bads l = 0
  | [], _ => rfl
  | a :: l, h => by
    simp only [bads]
    rw [if_pos (h a (by simp))]
    exact bads_of fun v hv => h v (by simp [hv])
/-- The kinds of a value that stands in a key. -/
inductive KK : V → Prop
  | num (k n : Int) : (k = 1 ∨ k = 6 ∨ k = 7) → KK (.mk k n ⟨#[]⟩ [])
  | bool (n : Int) : (n = 0 ∨ n = 1) → KK (.mk 3 n ⟨#[]⟩ [])
  | str (s : ByteArray) : s.size ≤ 128 → KK (.mk 2 0 s [])
theorem nil_of_len {l : List V} (h : l.length = 0) : l = [] := List.eq_nil_of_length_eq_zero h
theorem kk_of {v : V} (h : bad v = 0) : KK v := by
  obtain ⟨hm, h4, h5⟩ := (bad_iff v).1 h
  cases v with | mk k n s l =>
  simp only [V.k] at h4 h5
  simp only [V.may, Bool.and_eq_true] at hm
  obtain ⟨⟨-, ho⟩, hb⟩ := hm
  rw [if_neg h4, if_neg h5] at hb
  by_cases h1 : k = 1
  · subst h1
    simp [onlyB] at ho
    rw [empty_eq ho.1, ho.2]
    exact .num _ _ (.inl rfl)
  · rw [if_neg h1] at hb
    by_cases h2 : k = 2
    · subst h2
      simp [onlyB] at ho
      simp at hb
      rw [ho.1, ho.2]
      exact .str _ hb
    · rw [if_neg h2] at hb
      by_cases h3 : k = 3
      · subst h3
        simp [onlyB] at ho
        simp at hb
        rw [empty_eq ho.1, ho.2]
        exact .bool _ hb
      · rw [if_neg h3] at hb
        by_cases h6 : k = 6 ∨ k = 7
        · simp [onlyB, h2, h4, h5] at ho
          rw [empty_eq ho.1, ho.2]
          exact .num _ _ (by omega)
        · rw [if_neg h6] at hb; cases hb
theorem kForm_num {k n : Int} {s : ByteArray} {l : List V} (h2 : k ≠ 2) (h3 : k ≠ 3) : kForm (.mk k n s l) = UInt8.ofNat k.toNat :: beN 8 (wordU n) := by simp [kForm, V.k, V.n, h2, h3]
theorem kForm_bool {n : Int} {s : ByteArray} {l : List V} : kForm (.mk 3 n s l) = [3, UInt8.ofNat n.toNat] := by simp [kForm, V.k, V.n]
theorem kForm_str {n : Int} {s : ByteArray} {l : List V} : kForm (.mk 2 n s l) = 2 :: marked s.data.toList := by simp [kForm, V.k, V.s]
theorem kForm_pos (v : V) : 0 < (kForm v).length := by simp [kForm]

theorem icmp_of {x y : Int} : icmp x y = if x < y then -1 else if y < x then 1 else 0 := rfl
theorem cmp_zero (a b : List UInt8) (h : a = b) : Lib.compareBytes a b = 0 := by
  subst h
  have := anti_bytes a a
  omega
/-- Two forms stand as the values do, where these are not the same. -/
theorem cmp_forms {x y : V} (hx : bad x = 0) (hy : bad y = 0) (wx : x.wide) (wy : y.wide) (hne : x.cmp y ≠ 0) (p q : List UInt8) : Lib.compareBytes (kForm x ++ p) (kForm y ++ q) = x.cmp y := by
  have kx := kk_of hx
  have ky := kk_of hy
  have hr : ∀ {v : V}, KK v → 1 ≤ v.k ∧ v.k ≤ 7 := by
    intro v hv
    cases hv <;> simp only [V.k] <;> omega
  by_cases hk : x.k = y.k
  · cases kx with
    | num k n hk1 =>
      cases ky with
      | num k' n' hk2 =>
        simp only [V.k] at hk
        subst hk
        have i1 : I64 n := by simp only [V.wide] at wx; exact wx.1
        have i2 : I64 n' := by simp only [V.wide] at wy; exact wy.1
        have u1 := wordU_lt i1
        have u2 := wordU_lt i2
        have k2 : k ≠ 2 := by omega
        have k3 : k ≠ 3 := by omega
        simp only [V.cmp, cmpL] at hne ⊢
        rw [cmp_zero _ _ rfl] at hne ⊢
        have e0 : icmp k k = 0 := by unfold icmp; rw [if_neg (by omega), if_neg (by omega)]
        rw [e0] at hne ⊢
        have l1 : ∀ c : Int, lex 0 c = c := fun c => by simp [lex]
        have l2 : lex (icmp n n') (lex 0 0) = icmp n n' := by unfold lex; by_cases h : icmp n n' = 0 <;> simp [h]
        rw [l1, l2] at hne ⊢
        rw [kForm_num k2 k3, kForm_num k2 k3]
        simp only [List.cons_append]
        rw [cmp_same, cmp_beN, Nat.mod_eq_of_lt u1, Nat.mod_eq_of_lt u2]
        unfold icmp wordU at *
        unfold I64 at i1 i2
        by_cases h1 : n < n'
        · rw [if_pos h1, if_pos (by omega)]
        · rw [if_neg h1] at hne ⊢
          by_cases h2 : n' < n
          · rw [if_pos h2, if_neg (by omega), if_pos (by omega)]
          · rw [if_neg h2] at hne; exact absurd rfl hne
      | bool n' _ => simp only [V.k] at hk; omega
      | str s _ => simp only [V.k] at hk; omega
    | bool n hn =>
      cases ky with
      | num k' n' hk2 => simp only [V.k] at hk; omega
      | bool n' hn' =>
        simp only [V.cmp, cmpL] at hne ⊢
        rw [cmp_zero _ _ rfl] at hne ⊢
        have e0 : icmp 3 3 = 0 := rfl
        rw [e0] at hne ⊢
        have l1 : ∀ c : Int, lex 0 c = c := fun c => by simp [lex]
        have l2 : lex (icmp n n') (lex 0 0) = icmp n n' := by unfold lex; by_cases h : icmp n n' = 0 <;> simp [h]
        rw [l1, l2] at hne ⊢
        rw [kForm_bool, kForm_bool]
        simp only [List.cons_append, List.nil_append]
        rw [cmp_same]
        rcases hn with rfl | rfl <;> rcases hn' with rfl | rfl
        · exact absurd rfl hne
        · rw [cmp_less (by decide)]; rfl
        · rw [cmp_more (by decide)]; rfl
        · exact absurd rfl hne
      | str s _ => simp only [V.k] at hk; omega
    | str s hs =>
      cases ky with
      | num k' n' hk2 => simp only [V.k] at hk; omega
      | bool n' hn' => simp only [V.k] at hk; omega
      | str s' hs' =>
        simp only [V.cmp, cmpL] at hne ⊢
        have e0 : icmp 2 2 = 0 := rfl
        have e1 : icmp 0 0 = 0 := rfl
        have l1 : ∀ c : Int, lex 0 c = c := fun c => by simp [lex]
        have l2 : ∀ c : Int, lex c 0 = c := fun c => by unfold lex; by_cases h : c = 0 <;> simp [h]
        rw [e0, e1, l1, l1, l2] at hne ⊢
        rw [kForm_str, kForm_str]
        simp only [List.cons_append]
        rw [cmp_same]
        exact cmp_marked _ _ _ _ fun e => hne (cmp_zero _ _ e)
  · have r1 := hr kx
    have r2 := hr ky
    have hc : x.cmp y = icmp x.k y.k := by
      cases x with | mk k n s l =>
      cases y with | mk k' n' s' l' =>
      simp only [V.cmp, V.k] at hk ⊢
      have : icmp k k' ≠ 0 := by unfold icmp; split <;> (try split) <;> omega
      unfold lex; rw [if_pos this]
    rw [hc]
    simp only [kForm, List.cons_append]
    have t1 : (UInt8.ofNat x.k.toNat).toNat = x.k.toNat := toNat_of (by omega)
    have t2 : (UInt8.ofNat y.k.toNat).toNat = y.k.toNat := toNat_of (by omega)
    unfold icmp
    by_cases h1 : x.k < y.k
    · rw [if_pos h1, cmp_less (by rw [t1, t2]; omega)]
    · rw [if_neg h1, if_pos (show y.k < x.k by omega), cmp_more (by rw [t1, t2]; omega)]

/-- How many bytes a form has. -/
theorem mk1_len (c : UInt8) : (mk1 c).length ≤ 2 := by unfold mk1; split <;> simp
theorem flat1_len : ∀ l : List UInt8, (l.flatMap mk1).length ≤ 2 * l.length
  | [] => by simp
  | c :: l => by
    have h1 := mk1_len c
    have h2 := flat1_len l
    simp only [List.flatMap_cons, List.length_append, List.length_cons]; omega
theorem marked_len (l : List UInt8) : (marked l).length ≤ 2 * l.length + 2 := by
  have := flat1_len l
  simp only [marked, List.length_append, List.length_cons, List.length_nil]; omega
theorem kForm_len (v : V) : (kForm v).length ≤ 9 * v.many := by
  cases v with | mk k n s l =>
  simp only [V.many]
  by_cases h3 : k = 3
  · subst h3; rw [kForm_bool]; simp; omega
  · by_cases h2 : k = 2
    · subst h2
      have := marked_len s.data.toList
      have e : s.data.toList.length = s.size := Array.length_toList
      rw [kForm_str, List.length_cons]
      omega
    · rw [kForm_num h2 h3, List.length_cons, beN_length]; omega
theorem keyL_len : ∀ l : List V, (keyL l).length ≤ 9 * manyL l
  | [] => by simp [keyL]
  | v :: l => by
    have h1 := kForm_len v
    have h2 := keyL_len l
    simp only [keyL, List.flatMap_cons, List.length_append, manyL] at *
    omega
end Go.Proofs.YtbgikgeknnmelaaGreat
