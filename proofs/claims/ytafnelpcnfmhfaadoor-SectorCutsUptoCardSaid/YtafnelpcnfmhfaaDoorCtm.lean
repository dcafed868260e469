/-
  Pieces of bytes, and a row of them of one's own.
-/
import Derived.Test.YtafnelpcnfmhfaaDoorJn
import Derived.RangeFuncBox
namespace Go.Proofs.YtafnelpcnfmhfaaDoor
open Go.RowKit
set_option linter.unusedVariables false      -- a walk need not use every condition

/-- The piece x. -/
def pc (t : List UInt8) (x : Nat) : List UInt8 := (t.drop (112 * x)).take 112
/-- How many pieces. -/
def pn (t : List UInt8) : Nat := (t.length + 111) / 112
def cutL (t : List UInt8) : List (List UInt8) := (List.range (pn t)).map (pc t)
theorem cut_len (t : List UInt8) : (cutL t).length = pn t := by simp [cutL]
theorem pc_len (t : List UInt8) (x : Nat) : (pc t x).length = min 112 (t.length - 112 * x) := by simp [pc]
theorem pcs_take (t : List UInt8) : ∀ k, ((List.range k).map (pc t)).flatten = t.take (112 * k)
  | 0 => by simp
  | k + 1 => by
    rw [List.range_succ, List.map_append, List.flatten_append, pcs_take t k, show 112 * (k + 1) = 112 * k + 112 by omega, List.take_add]
    simp [pc]
theorem cut_flat (t : List UInt8) : (cutL t).flatten = t := by
  unfold cutL
  rw [pcs_take, List.take_of_length_le (by unfold pn; omega)]
theorem info22 : (Tryd.prog.info? 22).map (fun i => (i.zero, i.size, i.bytes)) = some (some (.slice none 0 0), 1, 24) := by kernel_rfl
/-- A row of one's own of bytes of one's own. -/
def RowB (w : World) (base : Nat) (v : Value) (L : List (List UInt8)) : Prop :=
  ∃ vs : List Value, w.ownsRow base 22 1 v L.length vs ∧ ∀ i (h : i < L.length), ∃ x, vs[i]? = some x ∧ Bts w base x L[i]
theorem rowB_nil (w : World) (base : Nat) : RowB w base (.slice none 0 0) [] := ⟨[], World.ownsRow_nil _ _ _ _, fun i h => absurd h (Nat.not_lt_zero _)⟩
theorem RowB.bss {w : World} {base : Nat} {v : Value} {L : List (List UInt8)} (h : RowB w base v L) : Bss w v L := by
  obtain ⟨vs, ho, he⟩ := h
  rcases ho.2 with ⟨rfl, h0⟩ | ⟨g, cap, cur, rfl, hbg, hg, hnc, hcm, hcs, htake⟩
  · have : L = [] := List.eq_nil_of_length_eq_zero h0
    subst this
    exact ⟨none, 0, rfl, .inl rfl⟩
  · refine ⟨_, cap, rfl, .inr ⟨g, 0, rfl, fun i hi => ?_⟩⟩
    obtain ⟨x, hx, hB⟩ := he i hi
    have := ho.cells (g := g) rfl i x hx
    rw [Go.WideShapes.add_plain] at this
    exact ⟨x, this, hB.bs⟩
theorem own_bel {w w' : World} {base : Nat} {e : TypeId} {size : Nat} {v : Value} {n : Nat} {xs : List Value} (h : w.ownsRow base e size v n xs) (hb : Below w.heap.size w w') : w'.ownsRow base e size v n xs := by
  refine World.ownsRow.kept h (gr_bel hb none) ?_
  cases hv : v.ownBlock with
  | none => exact .inl rfl
  | some g => exact .inr (by simp)
theorem RowB.on {w w' : World} {base : Nat} {v : Value} {L : List (List UInt8)} (h : RowB w base v L) (hb : Below w.heap.size w w') : RowB w' base v L := by
  obtain ⟨vs, ho, he⟩ := h
  refine ⟨vs, own_bel ho hb, fun i hi => ?_⟩
  obtain ⟨x, hx, hB⟩ := he i hi
  exact ⟨x, hx, hB.on hb⟩
/-- Rows of two types are not one. -/
theorem own_types {w : World} {b1 b2 : Nat} {e1 e2 : TypeId} {s1 s2 : Nat} {v1 v2 : Value} {n1 n2 : Nat} {x1 x2 : List Value} (h1 : w.ownsRow b1 e1 s1 v1 n1 x1) (h2 : w.ownsRow b2 e2 s2 v2 n2 x2) (hne : e1 ≠ e2) : v1.ownBlock = none ∨ v1.ownBlock ≠ v2.ownBlock := by
  rcases h1.2 with ⟨rfl, -⟩ | ⟨g, cap, cur, rfl, -, hg, -⟩
  · exact .inl rfl
  · refine .inr fun e => ?_
    rcases h2.2 with ⟨rfl, -⟩ | ⟨g2, cap2, cur2, rfl, -, hg2, -⟩
    · cases e
    · injection e with e
      have e : g = g2 := e
      subst e
      rw [hg] at hg2
      injection hg2 with hg2
      injection hg2 with _ hg2
      exact hne hg2
theorem own_nc {X Y : World} {base : Nat} {e : TypeId} {size : Nat} {v : Value} {n : Nat} {xs : List Value} {row : Option Nat} (h : X.ownsRow base e size v n xs) (hg : X.grownBy Y row) (hrow : ∀ r, row = some r → ∃ o : Obj, X.heap[r]? = some o ∧ o.isCells = false) : Y.ownsRow base e size v n xs := by
  refine h.kept hg ?_
  rcases h.2 with ⟨rfl, _⟩ | ⟨g, cap, cur, rfl, _, hgb, _⟩
  · exact .inl rfl
  · refine .inr fun e' => ?_
    obtain ⟨o, ho, hc⟩ := hrow g (by simpa [Value.ownBlock] using e'.symm)
    rw [hgb] at ho; cases ho; cases hc
theorem RowB.nc {X Y : World} {base : Nat} {v : Value} {L : List (List UInt8)} {row : Option Nat} (h : RowB X base v L) (hg : X.grownBy Y row) (hrow : ∀ r, row = some r → ∃ o : Obj, X.heap[r]? = some o ∧ o.isCells = false) : RowB Y base v L := by
  obtain ⟨vs, ho, he⟩ := h
  refine ⟨vs, own_nc ho hg hrow, fun i hi => ?_⟩
  obtain ⟨x, hx, hB⟩ := he i hi
  exact ⟨x, hx, own_nc hB hg hrow⟩
/-- A box of another type is set. -/
theorem RowB.set {X : World} {base B : Nat} {v u : Value} {L : List (List UInt8)} (h : RowB X base v L) (hb : Boxed X B 55 u) (u' : Value) : RowB (X.setCell ⟨B, 0, none⟩ u') base v L := by
  obtain ⟨vs, ho, he⟩ := h
  refine ⟨vs, ho.kept (grownBy_setCell' X B u') (.inr (hb.not_row (by decide) ho).symm), fun i hi => ?_⟩
  obtain ⟨x, hx, hB⟩ := he i hi
  exact ⟨x, hx, World.ownsRow.kept hB (grownBy_setCell' X B u') (.inr (hb.not_row (by decide) hB).symm)⟩
theorem row_app (w : World) (base g0 : Nat) (v y : Value) (L : List (List UInt8)) (u : List UInt8) (h : RowB w base v L) (hu : Bts w base y u) (hy : w.cell? ⟨g0, 0, none⟩ = some y) (hbase : base ≤ w.heap.size) (hlen : L.length + 1 ≤ 4398046511104) (ty : TypeId) :
    ∃ v' w', (Builtin.append_ #[55, 55] ty #[v, .slice (some ⟨g0, 0, none⟩) 1 1]).run Tryd.prog w = .ok v' w' ∧ RowB w' base v' (L ++ [u]) ∧ w.grownBy w' v.ownBlock ∧ (∃ g cap, v' = .slice (some ⟨g, 0, none⟩) (L.length + 1) cap) := by
  obtain ⟨i0, hi, hz0, hz1, hz2⟩ := info_parts info22
  obtain ⟨vs, ho, he⟩ := h
  have hy1 : y.oneCell' = true := by obtain ⟨p, c, rfl, -⟩ := hu.bs; rfl
  have hvs : vs.length = L.length := by have := ho.1; omega
  obtain ⟨v', w', hr, hown, hg, -⟩ := run_append_own (P := Tryd.prog) w base 55 ty 22 i0 (.slice none 0 0) 1 24 Tryd.underlying55 hi hz0 hz1 hz2 rfl (by decide) v L.length vs ho ⟨g0, 0, none⟩ 1 1 [y] rfl
    (fun j z hz => by
      cases j with
      | zero => simp at hz; subst hz; rw [Go.WideShapes.add_plain]; exact hy
      | succ j => simp at hz)
    (fun z hz => by simp at hz; subst hz; exact hy1) (by unfold maxLen; omega) (by omega) hbase
  refine ⟨v', w', hr, ⟨vs ++ [y], by rw [List.length_append]; exact hown, fun i hi => ?_⟩, hg, ownsRow_succ hown⟩
  have kp : ∀ {x : Value} {t : List UInt8}, Bts w base x t → Bts w' base x t := fun hB => World.ownsRow.kept hB hg (own_types hB ho (by decide))
  rw [List.length_append, List.length_singleton] at hi
  by_cases hl : i < L.length
  · obtain ⟨x, hx, hB⟩ := he i hl
    exact ⟨x, by rw [List.getElem?_append_left (by omega)]; exact hx, by rw [List.getElem_append_left hl]; exact kp hB⟩
  · obtain rfl : i = L.length := by omega
    exact ⟨y, by rw [List.getElem?_append_right (by omega), hvs, Nat.sub_self]; rfl, by simpa using kp hu⟩
theorem Bts.mono {w : World} {b b' : Nat} {v : Value} {t : List UInt8} (h : Bts w b' v t) (hb : b ≤ b') : Bts w b v t := by
  refine ⟨h.1, ?_⟩
  rcases h.2 with h | ⟨g, cap, cur, rfl, hbg, r⟩
  · exact .inl h
  · exact .inr ⟨g, cap, cur, rfl, Nat.le_trans hb hbg, r⟩
end Go.Proofs.YtafnelpcnfmhfaaDoor
