/-
  Values as plain data, their order, and how a value lies in memory: no walk.
  Rows of elements of several cells each, one header of a slice in each, wherever they lie; properties, vertices, edges, graphs as plain data: no walk.
  Graphs as plain data: which may be; which edges go out of a vertex and come into one: no walk.
-/
import Derived.WalkKit
import Derived.Lib.Bytealg
namespace Go.Proofs.Yteknbploiombiaa
open Go.RowKit

inductive V where
  | mk (k n : Int) (s : ByteArray) (l : List V)

def V.k : V → Int | .mk k _ _ _ => k
def V.n : V → Int | .mk _ n _ _ => n
def V.s : V → ByteArray | .mk _ _ s _ => s
def V.l : V → List V | .mk _ _ _ l => l

def icmp (x y : Int) : Int := if x < y then -1 else if y < x then 1 else 0
/-- The first that is not 0. -/
def lex (c d : Int) : Int := if c ≠ 0 then c else d

mutual
def V.cmp : V → V → Int
  | .mk k n s l, .mk k' n' s' l' => lex (icmp k k') (lex (icmp n n') (lex (Lib.compareBytes s.data.toList s'.data.toList) (cmpL l l')))
def cmpL : List V → List V → Int
  | [], [] => 0
  | [], _ :: _ => -1
  | _ :: _, [] => 1
  | a :: l, b :: m => lex (V.cmp a b) (cmpL l m)
end

/-! ### It is an order -/

/-- What ab, bc, ac of an order have in common. -/
def Tri (ab bc ac : Int) : Prop := ab ≤ 0 → bc ≤ 0 → ac ≤ 0 ∧ (ac = 0 → ab = 0 ∧ bc = 0)

theorem tri_lex {a b c x y z : Int} (h : Tri a b c) (h' : Tri x y z) : Tri (lex a x) (lex b y) (lex c z) := by
  unfold Tri lex at *
  intro h1 h2
  have ha : a ≤ 0 := by split at h1 <;> omega
  have hb : b ≤ 0 := by split at h2 <;> omega
  obtain ⟨hc, hcc⟩ := h ha hb
  by_cases h0 : c = 0
  · obtain ⟨rfl, rfl⟩ := hcc h0
    subst h0
    simp only [ne_eq, not_true_eq_false, if_false] at h1 h2 ⊢
    exact h' h1 h2
  · rw [if_pos h0]; omega
theorem tri_icmp (x y z : Int) : Tri (icmp x y) (icmp y z) (icmp x z) := by
  unfold Tri icmp
  repeat' split
  all_goals omega
theorem tri_bytes : ∀ x y z : List UInt8, Tri (Lib.compareBytes x y) (Lib.compareBytes y z) (Lib.compareBytes x z)
  | [], [], [] => by simp [Tri, Lib.compareBytes]
  | [], [], _ :: _ => by simp [Tri, Lib.compareBytes]
  | [], _ :: _, [] => by simp [Tri, Lib.compareBytes]
  | [], _ :: _, _ :: _ => by simp [Tri, Lib.compareBytes]
  | _ :: _, [], _ => by simp [Tri, Lib.compareBytes]
  | _ :: _, _ :: _, [] => by simp [Tri, Lib.compareBytes]
  | a :: x, b :: y, c :: z => by
    have ih := tri_bytes x y z
    unfold Tri at *
    simp only [Lib.compareBytes, UInt8.lt_iff_toNat_lt]
    repeat' split
    all_goals first | omega | exact ih
mutual
theorem tri_cmp : ∀ a b c : V, Tri (a.cmp b) (b.cmp c) (a.cmp c)
  | .mk k n s l, .mk k' n' s' l', .mk k2 n2 s2 l2 => by
    simp only [V.cmp]
    exact tri_lex (tri_icmp _ _ _) (tri_lex (tri_icmp _ _ _) (tri_lex (tri_bytes _ _ _) (tri_cmpL l l' l2)))
theorem tri_cmpL : ∀ a b c : List V, Tri (cmpL a b) (cmpL b c) (cmpL a c)
  | [], [], [] => by simp [Tri, cmpL]
  | [], [], _ :: _ => by simp [Tri, cmpL]
  | [], _ :: _, [] => by simp [Tri, cmpL]
  | [], _ :: _, _ :: _ => by simp [Tri, cmpL]
  | _ :: _, [], _ => by simp [Tri, cmpL]
  | _ :: _, _ :: _, [] => by simp [Tri, cmpL]
  | a :: l, b :: m, c :: n => by
    simp only [cmpL]
    exact tri_lex (tri_cmp a b c) (tri_cmpL l m n)
end

theorem anti_lex {a b c d : Int} (h : a = -b) (h' : c = -d) : lex a c = -lex b d := by
  unfold lex; subst h; subst h'; by_cases hb : b = 0 <;> simp [hb]
theorem anti_icmp (x y : Int) : icmp x y = -icmp y x := by
  unfold icmp; repeat' split
  all_goals omega
theorem anti_bytes : ∀ x y : List UInt8, Lib.compareBytes x y = -Lib.compareBytes y x
  | [], [] => rfl
  | [], _ :: _ => rfl
  | _ :: _, [] => rfl
  | a :: x, b :: y => by
    have ih := anti_bytes x y
    simp only [Lib.compareBytes, UInt8.lt_iff_toNat_lt]
    repeat' split
    all_goals omega
mutual
theorem anti_cmp : ∀ a b : V, a.cmp b = -b.cmp a
  | .mk k n s l, .mk k' n' s' l' => by
    simp only [V.cmp]
    exact anti_lex (anti_icmp _ _) (anti_lex (anti_icmp _ _) (anti_lex (anti_bytes _ _) (anti_cmpL l l')))
theorem anti_cmpL : ∀ a b : List V, cmpL a b = -cmpL b a
  | [], [] => rfl
  | [], _ :: _ => rfl
  | _ :: _, [] => rfl
  | a :: l, b :: m => by simp only [cmpL]; exact anti_lex (anti_cmp a b) (anti_cmpL l m)
end

def Sgn (c : Int) : Prop := c = -1 ∨ c = 0 ∨ c = 1
theorem sgn_lex {a b : Int} (h : Sgn a) (h' : Sgn b) : Sgn (lex a b) := by unfold lex; split <;> assumption
theorem sgn_icmp (x y : Int) : Sgn (icmp x y) := by
  unfold Sgn icmp; repeat' split
  all_goals omega
theorem sgn_bytes : ∀ x y : List UInt8, Sgn (Lib.compareBytes x y)
  | [], [] => by simp [Sgn, Lib.compareBytes]
  | [], _ :: _ => by simp [Sgn, Lib.compareBytes]
  | _ :: _, [] => by simp [Sgn, Lib.compareBytes]
  | a :: x, b :: y => by
    have ih := sgn_bytes x y
    simp only [Lib.compareBytes]
    repeat' split
    all_goals first | exact ih | simp [Sgn]
mutual
theorem sgn_cmp : ∀ a b : V, Sgn (a.cmp b)
  | .mk k n s l, .mk k' n' s' l' => by
    simp only [V.cmp]
    exact sgn_lex (sgn_icmp _ _) (sgn_lex (sgn_icmp _ _) (sgn_lex (sgn_bytes _ _) (sgn_cmpL l l')))
theorem sgn_cmpL : ∀ a b : List V, Sgn (cmpL a b)
  | [], [] => by simp [Sgn, cmpL]
  | [], _ :: _ => by simp [Sgn, cmpL]
  | _ :: _, [] => by simp [Sgn, cmpL]
  | a :: l, b :: m => by simp only [cmpL]; exact sgn_lex (sgn_cmp a b) (sgn_cmpL l m)
end
theorem cmp_self (a : V) : a.cmp a = 0 := by have := anti_cmp a a; omega

/-! ### How a value lies in memory -/

def I64 (x : Int) : Prop := -9223372036854775808 ≤ x ∧ x ≤ 9223372036854775807

mutual
/-- A value whose field L has the header sl; from block lo on lies all that it leads to. -/
def V.In (w : World) (lo : Nat) : V → Value → Prop
  | .mk k n s l, sl => I64 k ∧ I64 n ∧ s.size ≤ 140737488351232 ∧ ∃ p cap, sl = .slice p l.length cap ∧ l.length ≤ cap ∧ cap ≤ maxLen ∧ l.length * 56 ≤ 140737488351232 ∧
      (l = [] ∨ ∃ b o, p = some ⟨b, o, none⟩ ∧ lo ≤ b ∧ Ls w lo l b o)
/-- Values one behind the other, four cells each. -/
def Ls (w : World) (lo : Nat) : List V → Nat → Nat → Prop
  | [], _, _ => True
  | v :: l, b, o => ∃ sl, w.cell? ⟨b, o, none⟩ = some (.int .i64 v.k) ∧ w.cell? ⟨b, o + 1, none⟩ = some (.int .i64 v.n) ∧
      w.cell? ⟨b, o + 2, none⟩ = some (.string v.s) ∧ w.cell? ⟨b, o + 3, none⟩ = some sl ∧ V.In w lo v sl ∧ Ls w lo l b (o + 4)
end
/-- A slice of values. -/
def Sl (w : World) (lo : Nat) (l : List V) (sl : Value) : Prop := ∃ p cap, sl = .slice p l.length cap ∧ l.length ≤ cap ∧ cap ≤ maxLen ∧ l.length * 56 ≤ 140737488351232 ∧
      (l = [] ∨ ∃ b o, p = some ⟨b, o, none⟩ ∧ lo ≤ b ∧ Ls w lo l b o)
/-- A value as the four cells that it is handed on in. -/
def V.agg (v : V) (sl : Value) : Value := .agg #[.int .i64 v.k, .int .i64 v.n, .string v.s, sl]

theorem V.in_iff (w : World) (lo : Nat) (v : V) (sl : Value) : v.In w lo sl ↔ I64 v.k ∧ I64 v.n ∧ v.s.size ≤ 140737488351232 ∧ Sl w lo v.l sl := by
  cases v with | mk k n s l => simp only [V.In, V.k, V.n, V.s, V.l, Sl]

/-- The header of L is a slice. -/
theorem V.In.header {w : World} {lo : Nat} {v : V} {sl : Value} (h : v.In w lo sl) : ∃ p n c, sl = .slice p n c := by
  obtain ⟨_, _, _, p, c, e, _⟩ := (V.in_iff w lo v sl).1 h
  exact ⟨p, _, c, e⟩

theorem cell_lt {w : World} {a : Addr} {v : Value} (h : w.cell? a = some v) : a.block < w.heap.size := by
  unfold World.cell? at h
  by_cases hb : a.block < w.heap.size
  · exact hb
  · rw [Array.getElem?_eq_none (by omega)] at h; simp at h

theorem some_on {w w' : World} (h : Below w.heap.size w w') {a : Addr} {v : Value} (hc : w.cell? a = some v) : w'.cell? a = some v := (h.cell (cell_lt hc)).trans hc

/-- Two worlds that agree on the cells from block lo on, where the first has cells. -/
def Keep (lo : Nat) (w w' : World) : Prop := ∀ (a : Addr) v, lo ≤ a.block → w.cell? a = some v → w'.cell? a = some v

mutual
theorem V.In.keep {lo lo' : Nat} {w w' : World} (hk : Keep lo w w') (hl : lo' ≤ lo) : ∀ (v : V) (sl : Value), v.In w lo sl → v.In w' lo' sl
  | .mk k n s l, sl, h => by
    simp only [V.In] at h ⊢
    obtain ⟨h1, h2, h3, p, cap, e, hc, hm, h56, hx⟩ := h
    refine ⟨h1, h2, h3, p, cap, e, hc, hm, h56, ?_⟩
    rcases hx with hx | ⟨b, o, hp, hb, hx⟩
    · exact Or.inl hx
    · exact Or.inr ⟨b, o, hp, by omega, Ls.keep hk hl l b o hb hx⟩
theorem Ls.keep {lo lo' : Nat} {w w' : World} (hk : Keep lo w w') (hl : lo' ≤ lo) : ∀ (l : List V) (b o : Nat), lo ≤ b → Ls w lo l b o → Ls w' lo' l b o
  | [], _, _, _, _ => by simp only [Ls]
  | v :: l, b, o, hb, h => by
    simp only [Ls] at h ⊢
    obtain ⟨sl, c0, c1, c2, c3, hv, hr⟩ := h
    exact ⟨sl, hk _ _ hb c0, hk _ _ hb c1, hk _ _ hb c2, hk _ _ hb c3, V.In.keep hk hl v sl hv, Ls.keep hk hl l b (o + 4) hb hr⟩
end
theorem Sl.keep {lo lo' : Nat} {w w' : World} (hk : Keep lo w w') (hl : lo' ≤ lo) {l : List V} {sl : Value} (h : Sl w lo l sl) : Sl w' lo' l sl := by
  obtain ⟨p, cap, e, hc, hm, h56, hx⟩ := h
  refine ⟨p, cap, e, hc, hm, h56, ?_⟩
  rcases hx with hx | ⟨b, o, hp, hb, hx⟩
  · exact Or.inl hx
  · exact Or.inr ⟨b, o, hp, by omega, Ls.keep hk hl l b o hb hx⟩

theorem keep_below {lo : Nat} {w w' : World} (h : Below w.heap.size w w') : Keep lo w w' := fun _ _ _ hc => (h.cell (cell_lt hc)).trans hc
theorem V.In.on {lo : Nat} {w w' : World} (h : Below w.heap.size w w') {v : V} {sl : Value} (hv : v.In w lo sl) : v.In w' lo sl := V.In.keep (keep_below h) (Nat.le_refl _) v sl hv
theorem Sl.on {lo : Nat} {w w' : World} (h : Below w.heap.size w w') {l : List V} {sl : Value} (hv : Sl w lo l sl) : Sl w' lo l sl := hv.keep (keep_below h) (Nat.le_refl _)
theorem Ls.on {lo : Nat} {w w' : World} (h : Below w.heap.size w w') {l : List V} {b o : Nat} (hb : lo ≤ b) (hv : Ls w lo l b o) : Ls w' lo l b o := Ls.keep (keep_below h) (Nat.le_refl _) l b o hb hv

/-- One more behind. -/
theorem Ls.snoc {w : World} {lo b : Nat} {v : V} {sl : Value} : ∀ {l : List V} {o : Nat} (_ : Ls w lo l b o) (_ : w.cell? ⟨b, o + l.length * 4, none⟩ = some (.int .i64 v.k)) (_ : w.cell? ⟨b, o + l.length * 4 + 1, none⟩ = some (.int .i64 v.n))
    (_ : w.cell? ⟨b, o + l.length * 4 + 2, none⟩ = some (.string v.s)) (_ : w.cell? ⟨b, o + l.length * 4 + 3, none⟩ = some sl) (_ : v.In w lo sl), Ls w lo (l ++ [v]) b o
  | [], o, _, c0, c1, c2, c3, hv => by
    simp only [List.length_nil, Nat.zero_mul, Nat.add_zero] at c0 c1 c2 c3
    simp only [List.nil_append, Ls]
    exact ⟨sl, c0, c1, c2, c3, hv, trivial⟩
  | a :: l, o, h, c0, c1, c2, c3, hv => by
    simp only [Ls, List.cons_append] at h ⊢
    obtain ⟨sa, a0, a1, a2, a3, ha, hr⟩ := h
    rw [List.length_cons, show o + (l.length + 1) * 4 = o + 4 + l.length * 4 by omega] at c0 c1 c2 c3
    exact ⟨sa, a0, a1, a2, a3, ha, Ls.snoc hr c0 c1 c2 c3 hv⟩
/-- A store into another place of the row, or into no block of the values. -/
theorem Ls.row {w w' : World} {lo b : Nat} (hk : Keep lo w w') : ∀ {l : List V} {o : Nat} (_ : ∀ j v, j < l.length * 4 → w.cell? ⟨b, o + j, none⟩ = some v → w'.cell? ⟨b, o + j, none⟩ = some v) (_ : Ls w lo l b o), Ls w' lo l b o
  | [], _, _, _ => by simp only [Ls]
  | v :: l, o, hc, h => by
    simp only [Ls] at h ⊢
    obtain ⟨sl, c0, c1, c2, c3, hv, hr⟩ := h
    refine ⟨sl, hc 0 _ (by simp) c0, hc 1 _ (by simp; omega) c1, hc 2 _ (by simp; omega) c2, hc 3 _ (by simp; omega) c3, V.In.keep hk (Nat.le_refl _) v sl hv, Ls.row hk (fun j u hj hu => ?_) hr⟩
    have := hc (4 + j) u (by simp; omega)
    rw [← Nat.add_assoc] at this
    exact this hu

/-- The element at i. -/
theorem Ls.at {w : World} {lo b : Nat} : ∀ {l : List V} {o : Nat} (_ : Ls w lo l b o) (i : Nat) (hi : i < l.length),
    ∃ sl, w.cell? ⟨b, o + i * 4, none⟩ = some (.int .i64 l[i].k) ∧ w.cell? ⟨b, o + i * 4 + 1, none⟩ = some (.int .i64 l[i].n) ∧
      w.cell? ⟨b, o + i * 4 + 2, none⟩ = some (.string l[i].s) ∧ w.cell? ⟨b, o + i * 4 + 3, none⟩ = some sl ∧ l[i].In w lo sl
  | [], _, _, i, hi => absurd hi (Nat.not_lt_zero _)
  | v :: l, o, h, 0, _ => by
    simp only [Ls] at h
    simp only [Nat.zero_mul, Nat.add_zero]
    obtain ⟨sl, c0, c1, c2, c3, hv, _⟩ := h
    exact ⟨sl, c0, c1, c2, c3, hv⟩
  | v :: l, o, h, i + 1, hi => by
    simp only [Ls] at h
    obtain ⟨_, _, _, _, _, _, hr⟩ := h
    have := hr.at i (by simpa using hi)
    rw [show o + 4 + i * 4 = o + (i + 1) * 4 by omega] at this
    simpa using this
end Go.Proofs.Yteknbploiombiaa
namespace Go.Proofs.Yteknbploiombiaa
open Go.RowKit
set_option linter.unusedVariables false

/-- These cells lie there. -/
def Ats (w : World) (b o : Nat) (l : List Value) : Prop := ∀ j u, l[j]? = some u → w.cell? ⟨b, o + j, none⟩ = some u
/-- A kind of elements: how many cells, which, and what the header in them leads to. -/
structure El (α : Type) where
  n : Nat
  bytes : Nat
  cs : α → Value → List Value
  In : World → Nat → α → Value → Prop
  keep : ∀ {lo lo' : Nat} {w w' : World}, Keep lo w w' → lo' ≤ lo → ∀ (x : α) (sl : Value), In w lo x sl → In w' lo' x sl
variable {α : Type}
/-- Elements one behind the other. -/
def Lq (R : El α) (w : World) (lo : Nat) : List α → Nat → Nat → Prop
  | [], _, _ => True
  | x :: l, b, o => ∃ sl, Ats w b o (R.cs x sl) ∧ R.In w lo x sl ∧ Lq R w lo l b (o + R.n)
/-- A slice of them. -/
def Sq (R : El α) (w : World) (lo : Nat) (l : List α) (sl : Value) : Prop := ∃ p cap, sl = .slice p l.length cap ∧ l.length ≤ cap ∧ cap ≤ maxLen ∧ l.length * R.bytes ≤ 140737488351232 ∧
      (l = [] ∨ ∃ b o, p = some ⟨b, o, none⟩ ∧ lo ≤ b ∧ Lq R w lo l b o)

theorem Ats.keep {lo : Nat} {w w' : World} (hk : Keep lo w w') {b o : Nat} (hb : lo ≤ b) {l : List Value} (h : Ats w b o l) : Ats w' b o l := fun j u hj => hk _ _ hb (h j u hj)
theorem Lq.keep {R : El α} {lo lo' : Nat} {w w' : World} (hk : Keep lo w w') (hl : lo' ≤ lo) : ∀ (l : List α) (b o : Nat), lo ≤ b → Lq R w lo l b o → Lq R w' lo' l b o
  | [], _, _, _, _ => trivial
  | x :: l, b, o, hb, h => by
    obtain ⟨sl, c, hv, hr⟩ := h
    exact ⟨sl, c.keep hk hb, R.keep hk hl x sl hv, Lq.keep hk hl l b _ hb hr⟩
theorem Sq.keep {R : El α} {lo lo' : Nat} {w w' : World} (hk : Keep lo w w') (hl : lo' ≤ lo) {l : List α} {sl : Value} (h : Sq R w lo l sl) : Sq R w' lo' l sl := by
  obtain ⟨p, cap, e, hc, hm, h56, hx⟩ := h
  refine ⟨p, cap, e, hc, hm, h56, ?_⟩
  rcases hx with hx | ⟨b, o, hp, hb, hx⟩
  · exact Or.inl hx
  · exact Or.inr ⟨b, o, hp, by omega, Lq.keep hk hl l b o hb hx⟩
theorem Lq.on {R : El α} {w w' : World} (h : Below w.heap.size w w') {lo : Nat} {l : List α} {b o : Nat} (hb : lo ≤ b) (hv : Lq R w lo l b o) : Lq R w' lo l b o := Lq.keep (keep_below h) (Nat.le_refl _) l b o hb hv
theorem Lq.on' {R : El α} {w w' : World} (h : Below w.heap.size w w') {l : List α} {b o : Nat} (hv : Lq R w 0 l b o) : Lq R w' 0 l b o := hv.on h (Nat.zero_le _)
theorem Sq.on {R : El α} {lo : Nat} {w w' : World} (h : Below w.heap.size w w') {l : List α} {sl : Value} (hv : Sq R w lo l sl) : Sq R w' lo l sl := hv.keep (keep_below h) (Nat.le_refl _)
theorem El.on (R : El α) {lo : Nat} {w w' : World} (h : Below w.heap.size w w') {x : α} {sl : Value} (hv : R.In w lo x sl) : R.In w' lo x sl := R.keep (keep_below h) (Nat.le_refl _) x sl hv
theorem El.low (R : El α) {lo lo' : Nat} {w : World} (hl : lo' ≤ lo) {x : α} {sl : Value} (hv : R.In w lo x sl) : R.In w lo' x sl := R.keep (fun _ _ _ h => h) hl x sl hv
theorem Lq.low {R : El α} {w : World} {lo lo' : Nat} (hl : lo' ≤ lo) {b : Nat} : ∀ {l : List α} {o : Nat}, Lq R w lo l b o → Lq R w lo' l b o
  | [], _, _ => trivial
  | x :: l, o, ⟨sl, c, hv, hr⟩ => ⟨sl, c, R.low hl hv, Lq.low hl hr⟩
theorem Sq.low {R : El α} {w : World} {lo lo' : Nat} (hl : lo' ≤ lo) {l : List α} {sl : Value} (h : Sq R w lo l sl) : Sq R w lo' l sl := h.keep (fun _ _ _ h => h) hl
theorem Sq.header {R : El α} {w : World} {lo : Nat} {l : List α} {sl : Value} (h : Sq R w lo l sl) : ∃ p c, sl = .slice p l.length c := by
  obtain ⟨p, c, e, _⟩ := h; exact ⟨p, c, e⟩
theorem Sq.nil {R : El α} (w : World) (lo : Nat) : Sq R w lo [] (.slice none 0 0) := ⟨none, 0, rfl, Nat.le_refl _, by unfold maxLen; omega, by simp, .inl rfl⟩
/-- One more behind. -/
theorem Lq.snoc {R : El α} {w : World} {lo b : Nat} {x : α} {sl : Value} : ∀ {l : List α} {o : Nat} (_ : Lq R w lo l b o) (_ : Ats w b (o + l.length * R.n) (R.cs x sl)) (_ : R.In w lo x sl), Lq R w lo (l ++ [x]) b o
  | [], o, _, c, hv => by
    simp only [List.length_nil, Nat.zero_mul, Nat.add_zero] at c
    exact ⟨sl, c, hv, trivial⟩
  | a :: l, o, ⟨sa, ca, ha, hr⟩, c, hv => by
    rw [List.length_cons, show o + (l.length + 1) * R.n = o + R.n + l.length * R.n by rw [Nat.succ_mul]; omega] at c
    exact ⟨sa, ca, ha, Lq.snoc hr c hv⟩
/-- What is written elsewhere than in the row and the elements' memory. -/
theorem Lq.row {R : El α} {w w' : World} {lo b : Nat} (hcs : ∀ x sl, (R.cs x sl).length = R.n) (hk : Keep lo w w') : ∀ {l : List α} {o : Nat} (_ : ∀ j v, j < l.length * R.n → w.cell? ⟨b, o + j, none⟩ = some v → w'.cell? ⟨b, o + j, none⟩ = some v) (_ : Lq R w lo l b o), Lq R w' lo l b o
  | [], _, _, _ => trivial
  | x :: l, o, hc, ⟨sl, c, hv, hr⟩ => by
    refine ⟨sl, fun j u hj => hc j u ?_ (c j u hj), R.keep hk (Nat.le_refl _) x sl hv, Lq.row hcs hk (fun j u hj hu => ?_) hr⟩
    · have := (List.getElem?_eq_some_iff.1 hj).1
      rw [hcs] at this
      rw [List.length_cons, Nat.succ_mul]; omega
    · have := hc (R.n + j) u (by rw [List.length_cons, Nat.succ_mul]; omega)
      rw [← Nat.add_assoc] at this
      exact this hu
/-- The element at i. -/
theorem Lq.at {R : El α} {w : World} {lo b : Nat} : ∀ {l : List α} {o : Nat} (_ : Lq R w lo l b o) (i : Nat) (hi : i < l.length),
    ∃ sl, Ats w b (o + i * R.n) (R.cs l[i] sl) ∧ R.In w lo l[i] sl
  | [], _, _, i, hi => absurd hi (Nat.not_lt_zero _)
  | x :: l, o, ⟨sl, c, hv, _⟩, 0, _ => ⟨sl, by simpa using c, hv⟩
  | x :: l, o, ⟨_, _, _, hr⟩, i + 1, hi => by
    have := hr.at i (by simpa using hi)
    rw [show o + R.n + i * R.n = o + (i + 1) * R.n by rw [Nat.succ_mul]; omega] at this
    simpa using this
/-- Rows are rows of their parts. -/
theorem Lq.of_at {R : El α} {w : World} {lo b : Nat} : ∀ {l : List α} {o : Nat} (_ : ∀ i (hi : i < l.length), ∃ sl, Ats w b (o + i * R.n) (R.cs l[i] sl) ∧ R.In w lo l[i] sl), Lq R w lo l b o
  | [], _, _ => trivial
  | x :: l, o, h => by
    obtain ⟨sl, c, hv⟩ := h 0 (by simp)
    refine ⟨sl, by simpa using c, hv, Lq.of_at fun i hi => ?_⟩
    have := h (i + 1) (by simpa using hi)
    rw [show o + (i + 1) * R.n = o + R.n + i * R.n by rw [Nat.succ_mul]; omega] at this
    simpa using this

theorem ats3 {w : World} {b o : Nat} {x y z : Value} (h : Ats w b o [x, y, z]) : w.cell? ⟨b, o, none⟩ = some x ∧ w.cell? ⟨b, o + 1, none⟩ = some y ∧ w.cell? ⟨b, o + 2, none⟩ = some z :=
  ⟨h 0 _ rfl, h 1 _ rfl, h 2 _ rfl⟩
theorem ats5 {w : World} {b o : Nat} {x y z s t : Value} (h : Ats w b o [x, y, z, s, t]) : w.cell? ⟨b, o, none⟩ = some x ∧ w.cell? ⟨b, o + 1, none⟩ = some y ∧ w.cell? ⟨b, o + 2, none⟩ = some z ∧ w.cell? ⟨b, o + 3, none⟩ = some s ∧ w.cell? ⟨b, o + 4, none⟩ = some t :=
  ⟨h 0 _ rfl, h 1 _ rfl, h 2 _ rfl, h 3 _ rfl, h 4 _ rfl⟩
theorem ats_of3 {w : World} {b o : Nat} {x y z : Value} (h0 : w.cell? ⟨b, o, none⟩ = some x) (h1 : w.cell? ⟨b, o + 1, none⟩ = some y) (h2 : w.cell? ⟨b, o + 2, none⟩ = some z) : Ats w b o [x, y, z]
  | 0, _, e => by cases e; exact h0
  | 1, _, e => by cases e; exact h1
  | 2, _, e => by cases e; exact h2
  | _ + 3, _, e => by simp at e
theorem ats_of5 {w : World} {b o : Nat} {x y z s t : Value} (h0 : w.cell? ⟨b, o, none⟩ = some x) (h1 : w.cell? ⟨b, o + 1, none⟩ = some y) (h2 : w.cell? ⟨b, o + 2, none⟩ = some z) (h3 : w.cell? ⟨b, o + 3, none⟩ = some s) (h4 : w.cell? ⟨b, o + 4, none⟩ = some t) : Ats w b o [x, y, z, s, t]
  | 0, _, e => by cases e; exact h0
  | 1, _, e => by cases e; exact h1
  | 2, _, e => by cases e; exact h2
  | 3, _, e => by cases e; exact h3
  | 4, _, e => by cases e; exact h4
  | _ + 5, _, e => by simp at e

/-! ### Properties, vertices, edges, graphs -/

structure Pr where
  nm : ByteArray
  v : V
structure Vx where
  id : Int
  lb : ByteArray
  ps : List Pr
structure Lk where
  id : Int
  lb : ByteArray
  out : Int
  inn : Int
  ps : List Pr
structure Gg where
  vs : List Vx
  es : List Lk
  last : Int
def S64 (s : ByteArray) : Prop := s.size ≤ 140737488351232

def RP : El Pr where
  n := 5
  bytes := 72
  cs p sl := [.string p.nm, .int .i64 p.v.k, .int .i64 p.v.n, .string p.v.s, sl]
  In w lo p sl := S64 p.nm ∧ p.v.In w lo sl
  keep hk hl x sl h := ⟨h.1, V.In.keep hk hl x.v sl h.2⟩
def RV : El Vx where
  n := 3
  bytes := 48
  cs x sl := [.int .i64 x.id, .string x.lb, sl]
  In w lo x sl := I64 x.id ∧ S64 x.lb ∧ Sq RP w lo x.ps sl
  keep hk hl x sl h := ⟨h.1, h.2.1, h.2.2.keep hk hl⟩
def RL : El Lk where
  n := 5
  bytes := 64
  cs x sl := [.int .i64 x.id, .string x.lb, .int .i64 x.out, .int .i64 x.inn, sl]
  In w lo x sl := I64 x.id ∧ S64 x.lb ∧ I64 x.out ∧ I64 x.inn ∧ Sq RP w lo x.ps sl
  keep hk hl x sl h := ⟨h.1, h.2.1, h.2.2.1, h.2.2.2.1, h.2.2.2.2.keep hk hl⟩
theorem len_RP (x : Pr) (sl : Value) : (RP.cs x sl).length = RP.n := rfl
theorem len_RV (x : Vx) (sl : Value) : (RV.cs x sl).length = RV.n := rfl
theorem len_RL (x : Lk) (sl : Value) : (RL.cs x sl).length = RL.n := rfl

def Pr.agg (p : Pr) (sl : Value) : Value := .agg #[.string p.nm, .int .i64 p.v.k, .int .i64 p.v.n, .string p.v.s, sl]
def Vx.agg (x : Vx) (sl : Value) : Value := .agg #[.int .i64 x.id, .string x.lb, sl]
def Lk.agg (x : Lk) (sl : Value) : Value := .agg #[.int .i64 x.id, .string x.lb, .int .i64 x.out, .int .i64 x.inn, sl]
def Gg.agg (g : Gg) (sv se : Value) : Value := .agg #[sv, se, .int .i64 g.last]
/-- How a graph lies in memory, all from block lo on. -/
def Gg.In (w : World) (lo : Nat) (g : Gg) (sv se : Value) : Prop := I64 g.last ∧ Sq RV w lo g.vs sv ∧ Sq RL w lo g.es se
theorem Gg.In.keep {lo lo' : Nat} {w w' : World} (hk : Keep lo w w') (hl : lo' ≤ lo) {g : Gg} {sv se : Value} (h : Gg.In w lo g sv se) : Gg.In w' lo' g sv se := ⟨h.1, h.2.1.keep hk hl, h.2.2.keep hk hl⟩
theorem Gg.In.on {lo : Nat} {w w' : World} (h : Below w.heap.size w w') {g : Gg} {sv se : Value} (hv : Gg.In w lo g sv se) : Gg.In w' lo g sv se := hv.keep (keep_below h) (Nat.le_refl _)
theorem Gg.In.low {lo lo' : Nat} {w : World} (hl : lo' ≤ lo) {g : Gg} {sv se : Value} (hv : Gg.In w lo g sv se) : Gg.In w lo' g sv se := hv.keep (fun _ _ _ h => h) hl
end Go.Proofs.Yteknbploiombiaa
namespace Go.Proofs.Yteknbploiombiaa
open Go.RowKit
set_option linter.unusedVariables false

/-- Vertices whose ids rise from behind a number on. -/
def up : Int → List Int → Bool
  | _, [] => true
  | a, i :: r => decide (a < i) && up i r
theorem up_lt : ∀ {l : List Int} {a : Int}, up a l = true → ∀ x ∈ l, a < x
  | [], _, _ => fun x h => absurd h (by simp)
  | i :: r, a, h => by
    simp only [up, Bool.and_eq_true, decide_eq_true_eq] at h
    intro x hx
    rcases List.mem_cons.1 hx with rfl | hx
    · exact h.1
    · have := up_lt h.2 x hx; omega
theorem up_nodup : ∀ {l : List Int} {a : Int}, up a l = true → l.Nodup
  | [], _, _ => List.nodup_nil
  | i :: r, a, h => by
    simp only [up, Bool.and_eq_true, decide_eq_true_eq] at h
    exact List.nodup_cons.2 ⟨fun hm => by have := up_lt h.2 i hm; omega, up_nodup h.2⟩
theorem up_sorted : ∀ {l : List Int} {a : Int}, up a l = true → ∀ i j (hi : i < l.length) (hj : j < l.length), i < j → l[i] < l[j]
  | [], _, _ => fun i _ hi => absurd hi (Nat.not_lt_zero _)
  | x :: r, a, h => by
    simp only [up, Bool.and_eq_true, decide_eq_true_eq] at h
    intro i j hi hj hij
    cases j with
    | zero => omega
    | succ j =>
      cases i with
      | zero => simpa using up_lt h.2 _ (List.getElem_mem (by simpa using hj))
      | succ i => simpa using up_sorted h.2 i j (by simpa using hi) (by simpa using hj) (by omega)

theorem sum_none (a : Int) : ∀ {l : List Int}, a ∉ l → (l.map fun i => if a = i then 1 else 0).sum = 0
  | [], _ => rfl
  | b :: r, hn => by
    simp only [List.map_cons, List.sum_cons]
    rw [if_neg (fun e => hn (by simp [e])), Nat.zero_add]
    exact sum_none a (fun hm => hn (by simp [hm]))
theorem sum_ite (a : Int) : ∀ {l : List Int}, l.Nodup → a ∈ l → (l.map fun i => if a = i then 1 else 0).sum = 1
  | [], _, h => absurd h (by simp)
  | i :: r, hn, h => by
    obtain ⟨h1, h2⟩ := List.nodup_cons.1 hn
    simp only [List.map_cons, List.sum_cons]
    by_cases e : a = i
    · rw [if_pos e, sum_none a (by rw [e]; exact h1)]
    · rw [if_neg e, Nat.zero_add]
      exact sum_ite a h2 ((List.mem_cons.1 h).resolve_left e)
theorem sum_add {α : Type} (f g : α → Nat) : ∀ l : List α, (l.map fun x => f x + g x).sum = (l.map f).sum + (l.map g).sum
  | [] => rfl
  | x :: l => by simp only [List.map_cons, List.sum_cons, sum_add f g l]; omega
/-- Each of some things is counted once, whichever its place. -/
theorem count_by {α : Type} (f : α → Int) {ids : List Int} (hn : ids.Nodup) : ∀ {es : List α}, (∀ e ∈ es, f e ∈ ids) → (ids.map fun i => (es.filter fun e => decide (f e = i)).length).sum = es.length
  | [], _ => by
    simp only [List.filter_nil, List.length_nil]
    clear hn
    induction ids with
    | nil => rfl
    | cons a r ih => simp only [List.map_cons, List.sum_cons, ih (by simp)]
  | e :: es, h => by
    have hs := sum_ite (f e) hn (h e (by simp))
    have ih := count_by f hn (es := es) (fun x hx => h x (by simp [hx]))
    have : (fun i => ((e :: es).filter fun e => decide (f e = i)).length) = fun i => (if f e = i then 1 else 0) + (es.filter fun e => decide (f e = i)).length := by
      funext i
      by_cases c : f e = i
      · rw [List.filter_cons_of_pos (by simpa using c), List.length_cons, if_pos c]; omega
      · rw [List.filter_cons_of_neg (by simpa using c), if_neg c]; omega
    rw [this, sum_add, hs, ih, List.length_cons]; omega

/-- A label is one of some; any, if there are none. -/
def amg (ls : List ByteArray) (s : ByteArray) : Bool := ls.isEmpty || ls.any (fun x => decide (x = s))
def outL (g : Gg) (id : Int) (ls : List ByteArray) : List Lk := g.es.filter fun e => decide (e.out = id) && amg ls e.lb
def inL (g : Gg) (id : Int) (ls : List ByteArray) : List Lk := g.es.filter fun e => decide (e.inn = id) && amg ls e.lb
theorem outL_nil (g : Gg) (id : Int) : outL g id [] = g.es.filter fun e => decide (e.out = id) := by simp [outL, amg]
theorem inL_nil (g : Gg) (id : Int) : inL g id [] = g.es.filter fun e => decide (e.inn = id) := by simp [inL, amg]
theorem mem_inL {g : Gg} {e : Lk} (h : e ∈ g.es) : e ∈ inL g e.inn [e.lb] := by simp [inL, amg, h]
theorem mem_outL {g : Gg} {e : Lk} (h : e ∈ g.es) : e ∈ outL g e.out [e.lb] := by simp [outL, amg, h]
theorem both_count {g : Gg} {a : Int} (hu : up a (g.vs.map Vx.id) = true) (ho : ∀ e ∈ g.es, e.out ∈ g.vs.map Vx.id) (hi : ∀ e ∈ g.es, e.inn ∈ g.vs.map Vx.id) :
    (g.vs.map fun v => (outL g v.id []).length + (inL g v.id []).length).sum = 2 * g.es.length := by
  have h1 := count_by Lk.out (up_nodup hu) ho
  have h2 := count_by Lk.inn (up_nodup hu) hi
  rw [List.map_map] at h1 h2
  rw [sum_add]
  simp only [outL_nil, inL_nil]
  have e1 : (g.vs.map fun x => (g.es.filter fun e => decide (e.out = x.id)).length) = g.vs.map ((fun i => (g.es.filter fun e => decide (e.out = i)).length) ∘ Vx.id) := rfl
  have e2 : (g.vs.map fun x => (g.es.filter fun e => decide (e.inn = x.id)).length) = g.vs.map ((fun i => (g.es.filter fun e => decide (e.inn = i)).length) ∘ Vx.id) := rfl
  rw [e1, e2, h1, h2]; omega
end Go.Proofs.Yteknbploiombiaa
