/-
  Rows of elements of several cells each, one header of a slice in each, wherever they lie; properties, vertices, edges, graphs as plain data: no walk.
-/
import Derived.Test.YtbgikgeknnmelaaGreatVal
namespace Go.Proofs.YtbgikgeknnmelaaGreat
open Go.RowKit
set_option linter.unusedVariables false

/-- These cells lie there. -/
def Ats (w : World) (b o : Nat) (l : List Value) : Prop := ∀ j u, l[j]? = some u → w.cell? ⟨b, o + j, none⟩ = some u
/-- A kind of elements: how many cells, which, and what the header in them leads to. -/
structure El (α : Type) where
  n : Nat
  bytes : Nat
  cs : α → Value → List Value
  In : World → Nat → α → Value → Prop
  keep : ∀ {lo lo' : Nat} {w w' : World}, Keep lo w w' → lo' ≤ lo → ∀ (x : α) (sl : Value), In w lo x sl → In w' lo' x sl
variable {α : Type}
/-- Elements one behind the other. -/
def Lq (R : El α) (w : World) (lo : Nat) : List α → Nat → Nat → Prop
  | [], _, _ => True
  | x :: l, b, o => ∃ sl, Ats w b o (R.cs x sl) ∧ R.In w lo x sl ∧ Lq R w lo l b (o + R.n)
/-- A slice of them. -/
def Sq (R : El α) (w : World) (lo : Nat) (l : List α) (sl : Value) : Prop := ∃ p cap, sl = .slice p l.length cap ∧ l.length ≤ cap ∧ cap ≤ maxLen ∧ l.length * R.bytes ≤ 140737488351232 ∧
      (l = [] ∨ ∃ b o, p = some ⟨b, o, none⟩ ∧ lo ≤ b ∧ Lq R w lo l b o)

theorem Ats.keep {lo : Nat} {w w' : World} (hk : Keep lo w w') {b o : Nat} (hb : lo ≤ b) {l : List Value} (h : Ats w b o l) : Ats w' b o l := fun j u hj => hk _ _ hb (h j u hj)
theorem Lq.keep {R : El α} {lo lo' : Nat} {w w' : World} (hk : Keep lo w w') (hl : lo' ≤ lo) : ∀ (l : List α) (b o : Nat), lo ≤ b → Lq R w lo l b o → Lq R w' lo' l b o
  | [], _, _, _, _ => trivial
  | x :: l, b, o, hb, h => by
    obtain ⟨sl, c, hv, hr⟩ := h
    exact ⟨sl, c.keep hk hb, R.keep hk hl x sl hv, Lq.keep hk hl l b _ hb hr⟩
theorem Sq.keep {R : El α} {lo lo' : Nat} {w w' : World} (hk : Keep lo w w') (hl : lo' ≤ lo) {l : List α} {sl : Value} (h : Sq R w lo l sl) : Sq R w' lo' l sl := by
  obtain ⟨p, cap, e, hc, hm, h56, hx⟩ := h
  refine ⟨p, cap, e, hc, hm, h56, ?_⟩
  rcases hx with hx | ⟨b, o, hp, hb, hx⟩
  · exact Or.inl hx
  · exact Or.inr ⟨b, o, hp, by omega, Lq.keep hk hl l b o hb hx⟩
theorem Lq.on {R : El α} {w w' : World} (h : Below w.heap.size w w') {lo : Nat} {l : List α} {b o : Nat} (hb : lo ≤ b) (hv : Lq R w lo l b o) : Lq R w' lo l b o := Lq.keep (keep_below h) (Nat.le_refl _) l b o hb hv
theorem Lq.on' {R : El α} {w w' : World} (h : Below w.heap.size w w') {l : List α} {b o : Nat} (hv : Lq R w 0 l b o) : Lq R w' 0 l b o := hv.on h (Nat.zero_le _)
theorem Sq.on {R : El α} {lo : Nat} {w w' : World} (h : Below w.heap.size w w') {l : List α} {sl : Value} (hv : Sq R w lo l sl) : Sq R w' lo l sl := hv.keep (keep_below h) (Nat.le_refl _)
theorem El.on (R : El α) {lo : Nat} {w w' : World} (h : Below w.heap.size w w') {x : α} {sl : Value} (hv : R.In w lo x sl) : R.In w' lo x sl := R.keep (keep_below h) (Nat.le_refl _) x sl hv
theorem El.low (R : El α) {lo lo' : Nat} {w : World} (hl : lo' ≤ lo) {x : α} {sl : Value} (hv : R.In w lo x sl) : R.In w lo' x sl := R.keep (fun _ _ _ h => h) hl x sl hv
theorem Lq.low {R : El α} {w : World} {lo lo' : Nat} (hl : lo' ≤ lo) {b : Nat} : ∀ {l : List α} {o : Nat}, Lq R w lo l b o → Lq R w lo' l b o
  | [], _, _ => trivial
  | x :: l, o, ⟨sl, c, hv, hr⟩ => ⟨sl, c, R.low hl hv, Lq.low hl hr⟩
theorem Sq.low {R : El α} {w : World} {lo lo' : Nat} (hl : lo' ≤ lo) {l : List α} {sl : Value} (h : Sq R w lo l sl) : Sq R w lo' l sl := h.keep (fun _ _ _ h => h) hl
theorem Sq.header {R : El α} {w : World} {lo : Nat} {l : List α} {sl : Value} (h : Sq R w lo l sl) : ∃ p c, sl = .slice p l.length c := by
  obtain ⟨p, c, e, _⟩ := h; exact ⟨p, c, e⟩
theorem Sq.nil {R : El α} (w : World) (lo : Nat) : Sq R w lo [] (.slice none 0 0) := ⟨none, 0, rfl, Nat.le_refl _, by unfold maxLen; omega, by simp, .inl rfl⟩
/-- One more behind. -/
theorem Lq.snoc {R : El α} {w : World} {lo b : Nat} {x : α} {sl : Value} : ∀ {l : List α} {o : Nat} (_ : Lq R w lo l b o) (_ : Ats w b (o + l.length * R.n) (R.cs x sl)) (_ : R.In w lo x sl), Lq R w lo (l ++ [x]) b o
  | [], o, _, c, hv => by
    simp only [List.length_nil, Nat.zero_mul, Nat.add_zero] at c
    exact ⟨sl, c, hv, trivial⟩
  | a :: l, o, ⟨sa, ca, ha, hr⟩, c, hv => by
    rw [List.length_cons, show o + (l.length + 1) * R.n = o + R.n + l.length * R.n by rw [Nat.succ_mul]; omega] at c
    exact ⟨sa, ca, ha, Lq.snoc hr c hv⟩
/-- What is written elsewhere than in the row and the elements' memory. -/
theorem Lq.row {R : El α} {w w' : World} {lo b : Nat} (hcs : ∀ x sl, (R.cs x sl).length = R.n) (hk : Keep lo w w') : ∀ {l : List α} {o : Nat} (_ : ∀ j v, j < l.length * R.n → w.cell? ⟨b, o + j, none⟩ = some v → w'.cell? ⟨b, o + j, none⟩ = some v) (_ : Lq R w lo l b o), Lq R w' lo l b o
  | [], _, _, _ => trivial
  | x :: l, o, hc, ⟨sl, c, hv, hr⟩ => by
    refine ⟨sl, fun j u hj => hc j u ?_ (c j u hj), R.keep hk (Nat.le_refl _) x sl hv, Lq.row hcs hk (fun j u hj hu => ?_) hr⟩
    · have := (List.getElem?_eq_some_iff.1 hj).1
      rw [hcs] at this
      rw [List.length_cons, Nat.succ_mul]; omega
    · have := hc (R.n + j) u (by rw [List.length_cons, Nat.succ_mul]; omega)
      rw [← Nat.add_assoc] at this
      exact this hu
/-- The element at i. -/
theorem Lq.at {R : El α} {w : World} {lo b : Nat} : ∀ {l : List α} {o : Nat} (_ : Lq R w lo l b o) (i : Nat) (hi : i < l.length),
    ∃ sl, Ats w b (o + i * R.n) (R.cs l[i] sl) ∧ R.In w lo l[i] sl
  | [], _, _, i, hi => absurd hi (Nat.not_lt_zero _)
  | x :: l, o, ⟨sl, c, hv, _⟩, 0, _ => ⟨sl, by simpa using c, hv⟩
  | x :: l, o, ⟨_, _, _, hr⟩, i + 1, hi => by
    have := hr.at i (by simpa using hi)
    rw [show o + R.n + i * R.n = o + (i + 1) * R.n by rw [Nat.succ_mul]; omega] at this
    simpa using this
/-- Rows are rows of their parts. -/
theorem Lq.of_at {R : El α} {w : World} {lo b : Nat} : ∀ {l : List α} {o : Nat} (_ : ∀ i (hi : i < l.length), ∃ sl, Ats w b (o + i * R.n) (R.cs l[i] sl) ∧ R.In w lo l[i] sl), Lq R w lo l b o
  | [], _, _ => trivial
  | x :: l, o, h => by
    obtain ⟨sl, c, hv⟩ := h 0 (by simp)
    refine ⟨sl, by simpa using c, hv, Lq.of_at fun i hi => ?_⟩
    have := h (i + 1) (by simpa using hi)
    rw [show o + (i + 1) * R.n = o + R.n + i * R.n by rw [Nat.succ_mul]; omega] at this
    simpa using this

theorem ats3 {w : World} {b o : Nat} {x y z : Value} (h : Ats w b o [x, y, z]) : w.cell? ⟨b, o, none⟩ = some x ∧ w.cell? ⟨b, o + 1, none⟩ = some y ∧ w.cell? ⟨b, o + 2, none⟩ = some z :=
  ⟨h 0 _ rfl, h 1 _ rfl, h 2 _ rfl⟩
theorem ats5 {w : World} {b o : Nat} {x y z s t : Value} (h : Ats w b o [x, y, z, s, t]) : w.cell? ⟨b, o, none⟩ = some x ∧ w.cell? ⟨b, o + 1, none⟩ = some y ∧ w.cell? ⟨b, o + 2, none⟩ = some z ∧ w.cell? ⟨b, o + 3, none⟩ = some s ∧ w.cell? ⟨b, o + 4, none⟩ = some t :=
  ⟨h 0 _ rfl, h 1 _ rfl, h 2 _ rfl, h 3 _ rfl, h 4 _ rfl⟩
theorem ats_of3 {w : World} {b o : Nat} {x y z : Value} (h0 : w.cell? ⟨b, o, none⟩ = some x) (h1 : w.cell? ⟨b, o + 1, none⟩ = some y) (h2 : w.cell? ⟨b, o + 2, none⟩ = some z) : Ats w b o [x, y, z]
  | 0, _, e => by cases e; exact h0
  | 1, _, e => by cases e; exact h1
  | 2, _, e => by cases e; exact h2
  | _ + 3, _, e => by simp at e
theorem ats_of5 {w : World} {b o : Nat} {x y z s t : Value} (h0 : w.cell? ⟨b, o, none⟩ = some x) (h1 : w.cell? ⟨b, o + 1, none⟩ = some y) (h2 : w.cell? ⟨b, o + 2, none⟩ = some z) (h3 : w.cell? ⟨b, o + 3, none⟩ = some s) (h4 : w.cell? ⟨b, o + 4, none⟩ = some t) : Ats w b o [x, y, z, s, t]
  | 0, _, e => by cases e; exact h0
  | 1, _, e => by cases e; exact h1
  | 2, _, e => by cases e; exact h2
  | 3, _, e => by cases e; exact h3
  | 4, _, e => by cases e; exact h4
  | _ + 5, _, e => by simp at e

/-! ### Properties, vertices, edges, graphs -/

structure Pr where
  nm : ByteArray
  v : V
structure Vx where
  id : Int
  lb : ByteArray
  ps : List Pr
structure Lk where
  id : Int
  lb : ByteArray
  out : Int
  inn : Int
  ps : List Pr
structure Gg where
  vs : List Vx
  es : List Lk
  last : Int
def S64 (s : ByteArray) : Prop := s.size ≤ 140737488351232

def RP : El Pr where
  n := 5
  bytes := 72
  cs p sl := [.string p.nm, .int .i64 p.v.k, .int .i64 p.v.n, .string p.v.s, sl]
  In w lo p sl := S64 p.nm ∧ p.v.In w lo sl
  keep hk hl x sl h := ⟨h.1, V.In.keep hk hl x.v sl h.2⟩
def RV : El Vx where
  n := 3
  bytes := 48
  cs x sl := [.int .i64 x.id, .string x.lb, sl]
  In w lo x sl := I64 x.id ∧ S64 x.lb ∧ Sq RP w lo x.ps sl
  keep hk hl x sl h := ⟨h.1, h.2.1, h.2.2.keep hk hl⟩
def RL : El Lk where
  n := 5
  bytes := 64
  cs x sl := [.int .i64 x.id, .string x.lb, .int .i64 x.out, .int .i64 x.inn, sl]
  In w lo x sl := I64 x.id ∧ S64 x.lb ∧ I64 x.out ∧ I64 x.inn ∧ Sq RP w lo x.ps sl
  keep hk hl x sl h := ⟨h.1, h.2.1, h.2.2.1, h.2.2.2.1, h.2.2.2.2.keep hk hl⟩
theorem len_RP (x : Pr) (sl : Value) : (RP.cs x sl).length = RP.n := rfl
theorem len_RV (x : Vx) (sl : Value) : (RV.cs x sl).length = RV.n := rfl
theorem len_RL (x : Lk) (sl : Value) : (RL.cs x sl).length = RL.n := rfl

def Pr.agg (p : Pr) (sl : Value) : Value := .agg #[.string p.nm, .int .i64 p.v.k, .int .i64 p.v.n, .string p.v.s, sl]
def Vx.agg (x : Vx) (sl : Value) : Value := .agg #[.int .i64 x.id, .string x.lb, sl]
def Lk.agg (x : Lk) (sl : Value) : Value := .agg #[.int .i64 x.id, .string x.lb, .int .i64 x.out, .int .i64 x.inn, sl]
def Gg.agg (g : Gg) (sv se : Value) : Value := .agg #[sv, se, .int .i64 g.last]
/-- How a graph lies in memory, all from block lo on. -/
def Gg.In (w : World) (lo : Nat) (g : Gg) (sv se : Value) : Prop := I64 g.last ∧ Sq RV w lo g.vs sv ∧ Sq RL w lo g.es se
theorem Gg.In.keep {lo lo' : Nat} {w w' : World} (hk : Keep lo w w') (hl : lo' ≤ lo) {g : Gg} {sv se : Value} (h : Gg.In w lo g sv se) : Gg.In w' lo' g sv se := ⟨h.1, h.2.1.keep hk hl, h.2.2.keep hk hl⟩
theorem Gg.In.on {lo : Nat} {w w' : World} (h : Below w.heap.size w w') {g : Gg} {sv se : Value} (hv : Gg.In w lo g sv se) : Gg.In w' lo g sv se := hv.keep (keep_below h) (Nat.le_refl _)
theorem Gg.In.low {lo lo' : Nat} {w : World} (hl : lo' ≤ lo) {g : Gg} {sv se : Value} (hv : Gg.In w lo g sv se) : Gg.In w lo' g sv se := hv.keep (fun _ _ _ h => h) hl
end Go.Proofs.YtbgikgeknnmelaaGreat
