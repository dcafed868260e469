/-
  Values as plain data, their order, and how a value lies in memory: no walk.
-/
import Derived.WalkKit
import Derived.Lib.Bytealg
namespace Go.Proofs.YtbgikgeknnmelaaGreat
open Go.RowKit

inductive V where
  | mk (k n : Int) (s : ByteArray) (l : List V)

def V.k : V → Int | .mk k _ _ _ => k
def V.n : V → Int | .mk _ n _ _ => n
def V.s : V → ByteArray | .mk _ _ s _ => s
def V.l : V → List V | .mk _ _ _ l => l

def icmp (x y : Int) : Int := if x < y then -1 else if y < x then 1 else 0
/-- The first that is not 0. -/
def lex (c d : Int) : Int := if c ≠ 0 then c else d

mutual
def V.cmp : V → V → Int
  | .mk k n s l, .mk k' n' s' l' => lex (icmp k k') (lex (icmp n n') (lex (Lib.compareBytes s.data.toList s'.data.toList) (cmpL l l')))
def cmpL : List V → List V → Int
  | [], [] => 0
  | [], _ :: _ => -1
  | _ :: _, [] => 1
  | a :: l, b :: m => lex (V.cmp a b) (cmpL l m)
end

/-! ### It is an order -/

/-- What ab, bc, ac of an order have in common. -/
def Tri (ab bc ac : Int) : Prop := ab ≤ 0 → bc ≤ 0 → ac ≤ 0 ∧ (ac = 0 → ab = 0 ∧ bc = 0)

theorem tri_lex {a b c x y z : Int} (h : Tri a b c) (h' : Tri x y z) : Tri (lex a x) (lex b y) (lex c z) := by
  unfold Tri lex at *
  intro h1 h2
  have ha : a ≤ 0 := by split at h1 <;> omega
  have hb : b ≤ 0 := by split at h2 <;> omega
  obtain ⟨hc, hcc⟩ := h ha hb
  by_cases h0 : c = 0
  · obtain ⟨rfl, rfl⟩ := hcc h0
    subst h0
    simp only [ne_eq, not_true_eq_false, if_false] at h1 h2 ⊢
    exact h' h1 h2
  · rw [if_pos h0]; omega
theorem tri_icmp (x y z : Int) : Tri (icmp x y) (icmp y z) (icmp x z) := by
  unfold Tri icmp
  repeat' split
  all_goals omega
theorem tri_bytes : ∀ x y z : List UInt8, Tri (Lib.compareBytes x y) (Lib.compareBytes y z) (Lib.compareBytes x z)
  | [], [], [] => by simp [Tri, Lib.compareBytes]
  | [], [], _ :: _ => by simp [Tri, Lib.compareBytes]
  | [], _ :: _, [] => by simp [Tri, Lib.compareBytes]
  | [], _ :: _, _ :: _ => by simp [Tri, Lib.compareBytes]
  | _ :: _, [], _ => by simp [Tri, Lib.compareBytes]
  | _ :: _, _ :: _, [] => by simp [Tri, Lib.compareBytes]
  | a :: x, b :: y, c :: z => by
    have ih := tri_bytes x y z
    unfold Tri at *
    simp only [Lib.compareBytes, UInt8.lt_iff_toNat_lt]
    repeat' split
    all_goals first | omega | exact ih
mutual
theorem tri_cmp : ∀ a b c : V, Tri (a.cmp b) (b.cmp c) (a.cmp c)
  | .mk k n s l, .mk k' n' s' l', .mk k2 n2 s2 l2 => by
    simp only [V.cmp]
    exact tri_lex (tri_icmp _ _ _) (tri_lex (tri_icmp _ _ _) (tri_lex (tri_bytes _ _ _) (tri_cmpL l l' l2)))
theorem tri_cmpL : ∀ a b c : List V, Tri (cmpL a b) (cmpL b c) (cmpL a c)
  | [], [], [] => by simp [Tri, cmpL]
  | [], [], _ :: _ => by simp [Tri, cmpL]
  | [], _ :: _, [] => by simp [Tri, cmpL]
  | [], _ :: _, _ :: _ => by simp [Tri, cmpL]
  | _ :: _, [], _ => by simp [Tri, cmpL]
  | _ :: _, _ :: _, [] => by simp [Tri, cmpL]
  | a :: l, b :: m, c :: n => by
    simp only [cmpL]
    exact tri_lex (tri_cmp a b c) (tri_cmpL l m n)
end

theorem anti_lex {a b c d : Int} (h : a = -b) (h' : c = -d) : lex a c = -lex b d := by
  unfold lex; subst h; subst h'; by_cases hb : b = 0 <;> simp [hb]
theorem anti_icmp (x y : Int) : icmp x y = -icmp y x := by
  unfold icmp; repeat' split
  all_goals omega
theorem anti_bytes : ∀ x y : List UInt8, Lib.compareBytes x y = -Lib.compareBytes y x
  | [], [] => rfl
  | [], _ :: _ => rfl
  | _ :: _, [] => rfl
  | a :: x, b :: y => by
    have ih := anti_bytes x y
    simp only [Lib.compareBytes, UInt8.lt_iff_toNat_lt]
    repeat' split
    all_goals omega
mutual
theorem anti_cmp : ∀ a b : V, a.cmp b = -b.cmp a
  | .mk k n s l, .mk k' n' s' l' => by
    simp only [V.cmp]
    exact anti_lex (anti_icmp _ _) (anti_lex (anti_icmp _ _) (anti_lex (anti_bytes _ _) (anti_cmpL l l')))
theorem anti_cmpL : ∀ a b : List V, cmpL a b = -cmpL b a
  | [], [] => rfl
  | [], _ :: _ => rfl
  | _ :: _, [] => rfl
  | a :: l, b :: m => by simp only [cmpL]; exact anti_lex (anti_cmp a b) (anti_cmpL l m)
end

def Sgn (c : Int) : Prop := c = -1 ∨ c = 0 ∨ c = 1
theorem sgn_lex {a b : Int} (h : Sgn a) (h' : Sgn b) : Sgn (lex a b) := by unfold lex; split <;> assumption
theorem sgn_icmp (x y : Int) : Sgn (icmp x y) := by
  unfold Sgn icmp; repeat' split
  all_goals omega
theorem sgn_bytes : ∀ x y : List UInt8, Sgn (Lib.compareBytes x y)
  | [], [] => by simp [Sgn, Lib.compareBytes]
  | [], _ :: _ => by simp [Sgn, Lib.compareBytes]
  | _ :: _, [] => by simp [Sgn, Lib.compareBytes]
  | a :: x, b :: y => by
    have ih := sgn_bytes x y
    simp only [Lib.compareBytes]
    repeat' split
    all_goals first | exact ih | simp [Sgn]
mutual
theorem sgn_cmp : ∀ a b : V, Sgn (a.cmp b)
  | .mk k n s l, .mk k' n' s' l' => by
    simp only [V.cmp]
    exact sgn_lex (sgn_icmp _ _) (sgn_lex (sgn_icmp _ _) (sgn_lex (sgn_bytes _ _) (sgn_cmpL l l')))
theorem sgn_cmpL : ∀ a b : List V, Sgn (cmpL a b)
  | [], [] => by simp [Sgn, cmpL]
  | [], _ :: _ => by simp [Sgn, cmpL]
  | _ :: _, [] => by simp [Sgn, cmpL]
  | a :: l, b :: m => by simp only [cmpL]; exact sgn_lex (sgn_cmp a b) (sgn_cmpL l m)
end
theorem cmp_self (a : V) : a.cmp a = 0 := by have := anti_cmp a a; omega

/-! ### How a value lies in memory -/

def I64 (x : Int) : Prop := -9223372036854775808 ≤ x ∧ x ≤ 9223372036854775807

mutual
/-- A value whose field L has the header sl; from block lo on lies all that it leads to. -/
def V.In (w : World) (lo : Nat) : V → Value → Prop
  | .mk k n s l, sl => I64 k ∧ I64 n ∧ s.size ≤ 140737488351232 ∧ ∃ p cap, sl = .slice p l.length cap ∧ l.length ≤ cap ∧ cap ≤ maxLen ∧ l.length * 56 ≤ 140737488351232 ∧
      (l = [] ∨ ∃ b o, p = some ⟨b, o, none⟩ ∧ lo ≤ b ∧ Ls w lo l b o)
/-- Values one behind the other, four cells each. -/
def Ls (w : World) (lo : Nat) : List V → Nat → Nat → Prop
  | [], _, _ => True
  | v :: l, b, o => ∃ sl, w.cell? ⟨b, o, none⟩ = some (.int .i64 v.k) ∧ w.cell? ⟨b, o + 1, none⟩ = some (.int .i64 v.n) ∧
      w.cell? ⟨b, o + 2, none⟩ = some (.string v.s) ∧ w.cell? ⟨b, o + 3, none⟩ = some sl ∧ V.In w lo v sl ∧ Ls w lo l b (o + 4)
end
/-- A slice of values. -/
def Sl (w : World) (lo : Nat) (l : List V) (sl : Value) : Prop := ∃ p cap, sl = .slice p l.length cap ∧ l.length ≤ cap ∧ cap ≤ maxLen ∧ l.length * 56 ≤ 140737488351232 ∧
      (l = [] ∨ ∃ b o, p = some ⟨b, o, none⟩ ∧ lo ≤ b ∧ Ls w lo l b o)
/-- A value as the four cells that it is handed on in. -/
def V.agg (v : V) (sl : Value) : Value := .agg #[.int .i64 v.k, .int .i64 v.n, .string v.s, sl]

theorem V.in_iff (w : World) (lo : Nat) (v : V) (sl : Value) : v.In w lo sl ↔ I64 v.k ∧ I64 v.n ∧ v.s.size ≤ 140737488351232 ∧ Sl w lo v.l sl := by
  cases v with | mk k n s l => simp only [V.In, V.k, V.n, V.s, V.l, Sl]

/-- The header of L is a slice. -/
theorem V.In.header {w : World} {lo : Nat} {v : V} {sl : Value} (h : v.In w lo sl) : ∃ p n c, sl = .slice p n c := by
  obtain ⟨_, _, _, p, c, e, _⟩ := (V.in_iff w lo v sl).1 h
  exact ⟨p, _, c, e⟩

theorem cell_lt {w : World} {a : Addr} {v : Value} (h : w.cell? a = some v) : a.block < w.heap.size := by
  unfold World.cell? at h
  by_cases hb : a.block < w.heap.size
  · exact hb
  · rw [Array.getElem?_eq_none (by omega)] at h; simp at h

theorem some_on {w w' : World} (h : Below w.heap.size w w') {a : Addr} {v : Value} (hc : w.cell? a = some v) : w'.cell? a = some v := (h.cell (cell_lt hc)).trans hc

/-- Two worlds that agree on the cells from block lo on, where the first has cells. -/
def Keep (lo : Nat) (w w' : World) : Prop := ∀ (a : Addr) v, lo ≤ a.block → w.cell? a = some v → w'.cell? a = some v

mutual
theorem V.In.keep {lo lo' : Nat} {w w' : World} (hk : Keep lo w w') (hl : lo' ≤ lo) : ∀ (v : V) (sl : Value), v.In w lo sl → v.In w' lo' sl
  | .mk k n s l, sl, h => by
    simp only [V.In] at h ⊢
    obtain ⟨h1, h2, h3, p, cap, e, hc, hm, h56, hx⟩ := h
    refine ⟨h1, h2, h3, p, cap, e, hc, hm, h56, ?_⟩
    rcases hx with hx | ⟨b, o, hp, hb, hx⟩
    · exact Or.inl hx
    · exact Or.inr ⟨b, o, hp, by omega, Ls.keep hk hl l b o hb hx⟩
theorem Ls.keep {lo lo' : Nat} {w w' : World} (hk : Keep lo w w') (hl : lo' ≤ lo) : ∀ (l : List V) (b o : Nat), lo ≤ b → Ls w lo l b o → Ls w' lo' l b o
  | [], _, _, _, _ => by simp only [Ls]
  | v :: l, b, o, hb, h => by
    simp only [Ls] at h ⊢
    obtain ⟨sl, c0, c1, c2, c3, hv, hr⟩ := h
    exact ⟨sl, hk _ _ hb c0, hk _ _ hb c1, hk _ _ hb c2, hk _ _ hb c3, V.In.keep hk hl v sl hv, Ls.keep hk hl l b (o + 4) hb hr⟩
end
theorem Sl.keep {lo lo' : Nat} {w w' : World} (hk : Keep lo w w') (hl : lo' ≤ lo) {l : List V} {sl : Value} (h : Sl w lo l sl) : Sl w' lo' l sl := by
  obtain ⟨p, cap, e, hc, hm, h56, hx⟩ := h
  refine ⟨p, cap, e, hc, hm, h56, ?_⟩
  rcases hx with hx | ⟨b, o, hp, hb, hx⟩
  · exact Or.inl hx
  · exact Or.inr ⟨b, o, hp, by omega, Ls.keep hk hl l b o hb hx⟩

theorem keep_below {lo : Nat} {w w' : World} (h : Below w.heap.size w w') : Keep lo w w' := fun _ _ _ hc => (h.cell (cell_lt hc)).trans hc
theorem V.In.on {lo : Nat} {w w' : World} (h : Below w.heap.size w w') {v : V} {sl : Value} (hv : v.In w lo sl) : v.In w' lo sl := V.In.keep (keep_below h) (Nat.le_refl _) v sl hv
theorem Sl.on {lo : Nat} {w w' : World} (h : Below w.heap.size w w') {l : List V} {sl : Value} (hv : Sl w lo l sl) : Sl w' lo l sl := hv.keep (keep_below h) (Nat.le_refl _)
theorem Ls.on {lo : Nat} {w w' : World} (h : Below w.heap.size w w') {l : List V} {b o : Nat} (hb : lo ≤ b) (hv : Ls w lo l b o) : Ls w' lo l b o := Ls.keep (keep_below h) (Nat.le_refl _) l b o hb hv

/-- One more behind. -/
theorem Ls.snoc {w : World} {lo b : Nat} {v : V} {sl : Value} : ∀ {l : List V} {o : Nat} (_ : Ls w lo l b o) (_ : w.cell? ⟨b, o + l.length * 4, none⟩ = some (.int .i64 v.k)) (_ : w.cell? ⟨b, o + l.length * 4 + 1, none⟩ = some (.int .i64 v.n))
    (_ : w.cell? ⟨b, o + l.length * 4 + 2, none⟩ = some (.string v.s)) (_ : w.cell? ⟨b, o + l.length * 4 + 3, none⟩ = some sl) (_ : v.In w lo sl), Ls w lo (l ++ [v]) b o
  | [], o, _, c0, c1, c2, c3, hv => by
    simp only [List.length_nil, Nat.zero_mul, Nat.add_zero] at c0 c1 c2 c3
    simp only [List.nil_append, Ls]
    exact ⟨sl, c0, c1, c2, c3, hv, trivial⟩
  | a :: l, o, h, c0, c1, c2, c3, hv => by
    simp only [Ls, List.cons_append] at h ⊢
    obtain ⟨sa, a0, a1, a2, a3, ha, hr⟩ := h
    rw [List.length_cons, show o + (l.length + 1) * 4 = o + 4 + l.length * 4 by omega] at c0 c1 c2 c3
    exact ⟨sa, a0, a1, a2, a3, ha, Ls.snoc hr c0 c1 c2 c3 hv⟩
/-- A store into another place of the row, or into no block of the values. -/
theorem Ls.row {w w' : World} {lo b : Nat} (hk : Keep lo w w') : ∀ {l : List V} {o : Nat} (_ : ∀ j v, j < l.length * 4 → w.cell? ⟨b, o + j, none⟩ = some v → w'.cell? ⟨b, o + j, none⟩ = some v) (_ : Ls w lo l b o), Ls w' lo l b o
  | [], _, _, _ => by simp only [Ls]
  | v :: l, o, hc, h => by
    simp only [Ls] at h ⊢
    obtain ⟨sl, c0, c1, c2, c3, hv, hr⟩ := h
    refine ⟨sl, hc 0 _ (by simp) c0, hc 1 _ (by simp; omega) c1, hc 2 _ (by simp; omega) c2, hc 3 _ (by simp; omega) c3, V.In.keep hk (Nat.le_refl _) v sl hv, Ls.row hk (fun j u hj hu => ?_) hr⟩
    have := hc (4 + j) u (by simp; omega)
    rw [← Nat.add_assoc] at this
    exact this hu

/-- The element at i. -/
theorem Ls.at {w : World} {lo b : Nat} : ∀ {l : List V} {o : Nat} (_ : Ls w lo l b o) (i : Nat) (hi : i < l.length),
    ∃ sl, w.cell? ⟨b, o + i * 4, none⟩ = some (.int .i64 l[i].k) ∧ w.cell? ⟨b, o + i * 4 + 1, none⟩ = some (.int .i64 l[i].n) ∧
      w.cell? ⟨b, o + i * 4 + 2, none⟩ = some (.string l[i].s) ∧ w.cell? ⟨b, o + i * 4 + 3, none⟩ = some sl ∧ l[i].In w lo sl
  | [], _, _, i, hi => absurd hi (Nat.not_lt_zero _)
  | v :: l, o, h, 0, _ => by
    simp only [Ls] at h
    simp only [Nat.zero_mul, Nat.add_zero]
    obtain ⟨sl, c0, c1, c2, c3, hv, _⟩ := h
    exact ⟨sl, c0, c1, c2, c3, hv⟩
  | v :: l, o, h, i + 1, hi => by
    simp only [Ls] at h
    obtain ⟨_, _, _, _, _, _, hr⟩ := h
    have := hr.at i (by simpa using hi)
    rw [show o + 4 + i * 4 = o + (i + 1) * 4 by omega] at this
    simpa using this
end Go.Proofs.YtbgikgeknnmelaaGreat
