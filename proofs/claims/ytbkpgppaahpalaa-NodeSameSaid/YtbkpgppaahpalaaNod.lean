/-
  Nodes as plain data, and how they lie in memory. No walk.
-/
import Derived.Test.YtbkpgppaahpalaaBas
namespace Go.Proofs.Ytbkpgppaahpalaa
open Go.RowKit
set_option linter.unusedVariables false      -- a walk need not use every condition

/-- A cell. -/
structure C where
  key : List UInt8
  val : List UInt8
  over : Int
  len : Int
/-- A node. -/
structure Nd where
  leaf : Bool
  cells : List C
  keys : List (List UInt8)
  kids : List Int
def I64 (x : Int) : Prop := -9223372036854775808 ≤ x ∧ x ≤ 9223372036854775807

/-- n things of s cells each lie one behind the other, wherever that is: these cells. -/
def Fl (w : World) (v : Value) (s n : Nat) (vs : List Value) : Prop := ∃ p cap, v = .slice p n cap ∧ n ≤ cap ∧ cap ≤ maxLen ∧ (p = none → cap = 0) ∧ vs.length = n * s ∧
  (n = 0 ∨ ∃ g o, p = some ⟨g, o, none⟩ ∧ w.rangeAt g o vs)
theorem Fl.on {w w' : World} {v : Value} {s n : Nat} {vs : List Value} (h : Fl w v s n vs) (hb : Below w.heap.size w w') : Fl w' v s n vs := by
  obtain ⟨p, cap, rfl, h1, h2, h3, h4, h5⟩ := h
  refine ⟨p, cap, rfl, h1, h2, h3, h4, ?_⟩
  rcases h5 with h5 | ⟨g, o, rfl, h5⟩
  · exact .inl h5
  · exact .inr ⟨g, o, rfl, range_on h5 hb⟩
theorem Fl.len {w : World} {v : Value} {s n : Nat} {vs : List Value} (h : Fl w v s n vs) : vs.length = n * s := by
  obtain ⟨p, cap, rfl, h1, h2, h3, h4, h5⟩ := h
  exact h4
theorem fl_nil (w : World) (s : Nat) : Fl w (.slice none 0 0) s 0 [] := ⟨none, 0, rfl, Nat.le_refl _, by unfold maxLen; omega, fun _ => rfl, by simp, .inl rfl⟩
theorem range_sub {w : World} {g o : Nat} {vs : List Value} (h : w.rangeAt g o vs) (a b : Nat) : w.rangeAt g (o + a) ((vs.drop a).take b) := fun j v hv => by
  rw [List.getElem?_take] at hv
  split at hv
  · rw [List.getElem?_drop] at hv
    have := h (a + j) v hv
    rwa [← Nat.add_assoc] at this
  · cases hv
/-- A row of one's own. -/
theorem fl_own {w : World} {base s n : Nat} {e : TypeId} {v : Value} {vs : List Value} (h : w.ownsRow base e s v n vs) : Fl w v s n vs := by
  have hl := h.1
  rcases h.2 with ⟨rfl, h0⟩ | ⟨g, cap, cur, rfl, hbg, hg, hnc, hcm, hcs, htake⟩
  · subst h0
    have : vs = [] := List.eq_nil_of_length_eq_zero (by rw [hl]; simp)
    subst this
    exact fl_nil w s
  · refine ⟨_, cap, rfl, hnc, hcm, fun e => (by cases e), hl, .inr ⟨g, 0, rfl, fun j u hu => ?_⟩⟩
    have := h.cells (g := g) rfl j u hu
    rw [Go.WideShapes.add_plain] at this
    exact this

/-- These cells are those of the things, s each. -/
def Enc {α : Type} (R : World → α → List Value → Prop) (s : Nat) (w : World) (L : List α) (vs : List Value) : Prop :=
  vs.length = L.length * s ∧ ∀ i (h : i < L.length), R w L[i] ((vs.drop (i * s)).take s)
theorem enc_nil {α : Type} (R : World → α → List Value → Prop) (s : Nat) (w : World) : Enc R s w [] [] := ⟨by simp, fun i h => absurd h (Nat.not_lt_zero _)⟩
theorem Enc.on {α : Type} {R : World → α → List Value → Prop} {s : Nat} {w w' : World} {L : List α} {vs : List Value} (h : Enc R s w L vs) (hR : ∀ a x, R w a x → R w' a x) : Enc R s w' L vs := ⟨h.1, fun i hi => hR _ _ (h.2 i hi)⟩
theorem Enc.take {α : Type} {R : World → α → List Value → Prop} {s : Nat} {w : World} {L : List α} {vs : List Value} (h : Enc R s w L vs) (k : Nat) : Enc R s w (L.take k) (vs.take (k * s)) := by
  by_cases hk : k ≤ L.length
  · have hks : k * s ≤ L.length * s := Nat.mul_le_mul_right _ hk
    refine ⟨by rw [List.length_take, List.length_take, h.1, Nat.min_eq_left hk, Nat.min_eq_left hks], fun i hi => ?_⟩
    rw [List.length_take] at hi
    have hik : (i + 1) * s ≤ k * s := Nat.mul_le_mul_right _ (by omega)
    rw [Nat.succ_mul] at hik
    rw [List.getElem_take, List.drop_take, List.take_take, Nat.min_eq_left (by omega)]
    exact h.2 i (by omega)
  · have hks : L.length * s ≤ k * s := Nat.mul_le_mul_right _ (by omega)
    rw [List.take_of_length_le (by omega), List.take_of_length_le (by rw [h.1]; exact hks)]
    exact h
theorem Enc.drop {α : Type} {R : World → α → List Value → Prop} {s : Nat} {w : World} {L : List α} {vs : List Value} (h : Enc R s w L vs) (k : Nat) : Enc R s w (L.drop k) (vs.drop (k * s)) := by
  refine ⟨by rw [List.length_drop, List.length_drop, h.1, Nat.sub_mul], fun i hi => ?_⟩
  rw [List.length_drop] at hi
  rw [List.getElem_drop, List.drop_drop, ← Nat.add_mul]
  exact h.2 (k + i) (by omega)
theorem Enc.app {α : Type} {R : World → α → List Value → Prop} {s : Nat} {w : World} {L M : List α} {vs us : List Value} (h : Enc R s w L vs) (h' : Enc R s w M us) : Enc R s w (L ++ M) (vs ++ us) := by
  refine ⟨by rw [List.length_append, List.length_append, h.1, h'.1, Nat.add_mul], fun i hi => ?_⟩
  rw [List.length_append] at hi
  by_cases hl : i < L.length
  · have : (i + 1) * s ≤ L.length * s := Nat.mul_le_mul_right _ (by omega)
    rw [Nat.succ_mul] at this
    rw [List.getElem_append_left hl, List.drop_append_of_le_length (by rw [h.1]; omega), List.take_append_of_le_length (by rw [List.length_drop, h.1]; omega)]
    exact h.2 i hl
  · rw [List.getElem_append_right (by omega), List.drop_append, List.drop_eq_nil_of_le (by rw [h.1]; exact Nat.mul_le_mul_right _ (by omega)), List.nil_append, h.1, ← Nat.sub_mul]
    exact h'.2 (i - L.length) (by omega)
theorem enc_one {α : Type} {R : World → α → List Value → Prop} {s : Nat} {w : World} {a : α} {x : List Value} (h : R w a x) (hs : x.length = s) : Enc R s w [a] x := by
  refine ⟨by simp [hs], fun i hi => ?_⟩
  obtain rfl : i = 0 := by simpa using hi
  simp only [Nat.zero_mul, List.drop_zero, List.getElem_cons_zero]
  rw [List.take_of_length_le (by omega)]
  exact h

/-! ### Cells, keys, kids -/

def cellV (w : World) (c : C) (x : List Value) : Prop := ∃ k v, x = [k, v, .int .i64 c.over, .int .i64 c.len] ∧ Bs w k c.key ∧ Bs w v c.val ∧ I64 c.over ∧ I64 c.len
def keyV (w : World) (t : List UInt8) (x : List Value) : Prop := ∃ k, x = [k] ∧ Bs w k t
def kidV (w : World) (n : Int) (x : List Value) : Prop := x = [.int .i64 n] ∧ I64 n
theorem cellV.on {w w' : World} {c : C} {x : List Value} (h : cellV w c x) (hb : Below w.heap.size w w') : cellV w' c x := by
  obtain ⟨k, v, rfl, h1, h2, h3⟩ := h
  exact ⟨k, v, rfl, h1.on hb, h2.on hb, h3⟩
theorem keyV.on {w w' : World} {c : List UInt8} {x : List Value} (h : keyV w c x) (hb : Below w.heap.size w w') : keyV w' c x := by
  obtain ⟨k, rfl, h1⟩ := h
  exact ⟨k, rfl, h1.on hb⟩
/-- Slices of cells, of keys, of numbers, wherever they lie. -/
def Cs (w : World) (v : Value) (L : List C) : Prop := ∃ vs, Fl w v 4 L.length vs ∧ Enc cellV 4 w L vs
def Ks (w : World) (v : Value) (L : List (List UInt8)) : Prop := ∃ vs, Fl w v 1 L.length vs ∧ Enc keyV 1 w L vs
def Is (w : World) (v : Value) (L : List Int) : Prop := ∃ vs, Fl w v 1 L.length vs ∧ Enc kidV 1 w L vs
theorem Cs.on {w w' : World} {v : Value} {L : List C} (h : Cs w v L) (hb : Below w.heap.size w w') : Cs w' v L := by
  obtain ⟨vs, h1, h2⟩ := h
  exact ⟨vs, h1.on hb, h2.on fun a x hx => hx.on hb⟩
theorem Ks.on {w w' : World} {v : Value} {L : List (List UInt8)} (h : Ks w v L) (hb : Below w.heap.size w w') : Ks w' v L := by
  obtain ⟨vs, h1, h2⟩ := h
  exact ⟨vs, h1.on hb, h2.on fun a x hx => hx.on hb⟩
theorem Is.on {w w' : World} {v : Value} {L : List Int} (h : Is w v L) (hb : Below w.heap.size w w') : Is w' v L := by
  obtain ⟨vs, h1, h2⟩ := h
  exact ⟨vs, h1.on hb, h2.on fun a x hx => hx⟩
theorem Cs.hdr {w : World} {v : Value} {L : List C} (h : Cs w v L) : ∃ p cap, v = .slice p L.length cap ∧ L.length ≤ cap ∧ L.length ≤ 9223372036854775807 := by
  obtain ⟨vs, ⟨p, cap, e, h1, h2, -⟩, -⟩ := h
  unfold maxLen at h2
  exact ⟨p, cap, e, h1, by omega⟩
theorem Ks.hdr {w : World} {v : Value} {L : List (List UInt8)} (h : Ks w v L) : ∃ p cap, v = .slice p L.length cap ∧ L.length ≤ cap ∧ L.length ≤ 9223372036854775807 := by
  obtain ⟨vs, ⟨p, cap, e, h1, h2, -⟩, -⟩ := h
  unfold maxLen at h2
  exact ⟨p, cap, e, h1, by omega⟩
theorem Is.hdr {w : World} {v : Value} {L : List Int} (h : Is w v L) : ∃ p cap, v = .slice p L.length cap ∧ L.length ≤ cap ∧ L.length ≤ 9223372036854775807 := by
  obtain ⟨vs, ⟨p, cap, e, h1, h2, -⟩, -⟩ := h
  unfold maxLen at h2
  exact ⟨p, cap, e, h1, by omega⟩
theorem cs_nil (w : World) : Cs w (.slice none 0 0) [] := ⟨[], fl_nil w 4, enc_nil _ _ _⟩
theorem ks_nil (w : World) : Ks w (.slice none 0 0) [] := ⟨[], fl_nil w 1, enc_nil _ _ _⟩
theorem is_nil (w : World) : Is w (.slice none 0 0) [] := ⟨[], fl_nil w 1, enc_nil _ _ _⟩
/-- The place i of a slice. -/
theorem Cs.at {w : World} {v : Value} {L : List C} (h : Cs w v L) {i : Nat} (hi : i < L.length) : ∃ g o cap k x, v = .slice (some ⟨g, o, none⟩) L.length cap ∧
    w.cell? ⟨g, o + i * 4, none⟩ = some k ∧ w.cell? ⟨g, o + i * 4 + 1, none⟩ = some x ∧ w.cell? ⟨g, o + i * 4 + 2, none⟩ = some (.int .i64 L[i].over) ∧ w.cell? ⟨g, o + i * 4 + 3, none⟩ = some (.int .i64 L[i].len) ∧
    Bs w k L[i].key ∧ Bs w x L[i].val ∧ I64 L[i].over ∧ I64 L[i].len := by
  obtain ⟨vs, ⟨p, cap, rfl, h1, h2, h3, h4, h5⟩, he⟩ := h
  obtain ⟨g, o, rfl, hr⟩ := h5.resolve_left (by omega)
  obtain ⟨k, x, hx, hk, hv, ho, hl⟩ := he.2 i hi
  have hR := range_sub hr (i * 4) 4
  rw [hx] at hR
  exact ⟨g, o, cap, k, x, rfl, hR 0 _ rfl, hR 1 _ rfl, hR 2 _ rfl, hR 3 _ rfl, hk, hv, ho, hl⟩
theorem Ks.at {w : World} {v : Value} {L : List (List UInt8)} (h : Ks w v L) {i : Nat} (hi : i < L.length) : ∃ g o cap k, v = .slice (some ⟨g, o, none⟩) L.length cap ∧
    w.cell? ⟨g, o + i, none⟩ = some k ∧ Bs w k L[i] := by
  obtain ⟨vs, ⟨p, cap, rfl, h1, h2, h3, h4, h5⟩, he⟩ := h
  obtain ⟨g, o, rfl, hr⟩ := h5.resolve_left (by omega)
  obtain ⟨k, hx, hk⟩ := he.2 i hi
  have hR := range_sub hr (i * 1) 1
  rw [hx, Nat.mul_one] at hR
  exact ⟨g, o, cap, k, rfl, hR 0 _ rfl, hk⟩
theorem Is.at {w : World} {v : Value} {L : List Int} (h : Is w v L) {i : Nat} (hi : i < L.length) : ∃ g o cap, v = .slice (some ⟨g, o, none⟩) L.length cap ∧
    w.cell? ⟨g, o + i, none⟩ = some (.int .i64 L[i]) ∧ I64 L[i] := by
  obtain ⟨vs, ⟨p, cap, rfl, h1, h2, h3, h4, h5⟩, he⟩ := h
  obtain ⟨g, o, rfl, hr⟩ := h5.resolve_left (by omega)
  obtain ⟨hx, hk⟩ := he.2 i hi
  have hR := range_sub hr (i * 1) 1
  rw [hx, Nat.mul_one] at hR
  exact ⟨g, o, cap, rfl, hR 0 _ rfl, hk⟩
/-- A node, wherever it lies. -/
def NdS (w : World) (v : Value) (n : Nd) : Prop := ∃ vc vk vi, v = .agg #[.bool n.leaf, vc, vk, vi] ∧ Cs w vc n.cells ∧ Ks w vk n.keys ∧ Is w vi n.kids
theorem NdS.on {w w' : World} {v : Value} {n : Nd} (h : NdS w v n) (hb : Below w.heap.size w w') : NdS w' v n := by
  obtain ⟨vc, vk, vi, e, h1, h2, h3⟩ := h
  exact ⟨vc, vk, vi, e, h1.on hb, h2.on hb, h3.on hb⟩
/-- A cell, wherever its bytes lie. -/
def CeS (w : World) (v : Value) (c : C) : Prop := ∃ k x, v = .agg #[k, x, .int .i64 c.over, .int .i64 c.len] ∧ Bs w k c.key ∧ Bs w x c.val ∧ I64 c.over ∧ I64 c.len
theorem CeS.on {w w' : World} {v : Value} {n : C} (h : CeS w v n) (hb : Below w.heap.size w w') : CeS w' v n := by
  obtain ⟨vc, vk, e, h1, h2, h3⟩ := h
  exact ⟨vc, vk, e, h1.on hb, h2.on hb, h3⟩
end Go.Proofs.Ytbkpgppaahpalaa
