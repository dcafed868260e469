/-
  Numbers turned in memory of one's own: what stays. No walk.
-/
import Derived.Test.YtbkpgppaahpalaaCln
namespace Go.Proofs.Ytbkpgppaahpalaa
open Go.RowKit
set_option linter.unusedVariables false      -- a walk need not use every condition

/-- From one world to a later one: what lies below stays; all else keeps its headers, and its numbers are numbers. -/
structure Mut (B : Nat) (w w' : World) : Prop where
  bel : Below B w w'
  hdr : ∀ b o p n c, w.cell? ⟨b, o, none⟩ = some (.slice p n c) → w'.cell? ⟨b, o, none⟩ = some (.slice p n c)
  int : ∀ b o k n, w.cell? ⟨b, o, none⟩ = some (.int k n) → ∃ m, w'.cell? ⟨b, o, none⟩ = some (.int k m)
  fr : ∀ b o, b < w.heap.size → w.frozen? ⟨b, o, none⟩ = false → w'.frozen? ⟨b, o, none⟩ = false
theorem Mut.refl (B : Nat) (w : World) : Mut B w w := ⟨Below.refl _ _, fun _ _ _ _ _ h => h, fun _ _ _ n h => ⟨n, h⟩, fun _ _ _ h => h⟩
theorem Mut.trans {B : Nat} {a b c : World} (h : Mut B a b) (k : Mut B b c) : Mut B a c :=
  ⟨h.bel.trans k.bel, fun x o p n c e => k.hdr x o p n c (h.hdr x o p n c e), fun x o q n e => by obtain ⟨m, e⟩ := h.int x o q n e; exact k.int x o q m e, fun x o l e => k.fr x o (Nat.lt_of_lt_of_le l h.bel.size) (h.fr x o l e)⟩
theorem cell_bel {w w' : World} (h : Below w.heap.size w w') {a : Addr} {v : Value} (e : w.cell? a = some v) : w'.cell? a = some v := by
  rw [h.cell (World.block_lt_of_cell? w a e)]; exact e
theorem Mut.of {B : Nat} {w w' : World} (h : Below w.heap.size w w') (hB : B ≤ w.heap.size) : Mut B w w' := by
  refine ⟨h.mono hB, fun b o p n c e => cell_bel h e, fun b o k n e => ⟨n, cell_bel h e⟩, fun b o hl e => ?_⟩
  unfold World.frozen? at e ⊢
  simp only at e ⊢
  rw [h.block b hl]
  exact e
theorem cell_setc (w : World) (g o b q : Nat) (v : Value) : (w.setCell ⟨g, o, none⟩ v).cell? ⟨b, q, none⟩ = if b = g ∧ q = o ∧ (w.cell? ⟨b, q, none⟩).isSome = true then some v else w.cell? ⟨b, q, none⟩ := by
  unfold World.cell? World.setCell
  simp only [Array.getElem?_modify, Option.isSome_none, Bool.false_eq_true, if_false]
  by_cases hb : g = b
  · subst hb
    simp only [if_true]
    cases e : w.heap[g]? with
    | none => simp
    | some x =>
      cases x with
      | cells c t f =>
        simp only [Option.map_some, Array.getElem?_setIfInBounds]
        by_cases hq : o = q
        · subst hq
          by_cases hl : o < c.size
          · simp [hl]
          · simp [hl]
        · simp [hq]
          intro h1 h2
          exact absurd h1.symm hq
      | _ => simp
  · rw [if_neg hb, if_neg (fun h => hb h.1.symm)]
theorem froz_setc (w : World) (g o b q : Nat) (v : Value) : (w.setCell ⟨g, o, none⟩ v).frozen? ⟨b, q, none⟩ = w.frozen? ⟨b, q, none⟩ := by
  unfold World.frozen? World.setCell
  simp only [Array.getElem?_modify]
  by_cases hb : g = b
  · subst hb
    simp only [if_true]
    cases e : w.heap[g]? with
    | none => simp
    | some x => cases x <;> simp
  · rw [if_neg hb]
theorem Mut.set {B : Nat} {w : World} {g o : Nat} {k : IntKind} {n : Int} (hg : B ≤ g) (h : w.cell? ⟨g, o, none⟩ = some (.int k n)) (m : Int) : Mut B w (w.setCell ⟨g, o, none⟩ (.int k m)) := by
  have hs : g < w.heap.size := World.block_lt_of_cell? w ⟨g, o, none⟩ h
  refine ⟨(Below.refl B w).grown (gr_set w g o _) (by omega) (fun e h => by injection h with h; omega), fun b q p n' c e => ?_, fun b q k' n' e => ?_, fun b q hl e => ?_⟩
  · rw [cell_setc]
    by_cases hq : b = g ∧ q = o
    · obtain ⟨rfl, rfl⟩ := hq
      rw [h] at e; cases e
    · rw [if_neg (fun h => hq ⟨h.1, h.2.1⟩)]; exact e
  · rw [cell_setc]
    by_cases hq : b = g ∧ q = o
    · obtain ⟨rfl, rfl⟩ := hq
      rw [h] at e
      injection e with e
      injection e with e1 e2
      subst e1
      exact ⟨m, by rw [if_pos ⟨rfl, rfl, by rw [h]; rfl⟩]⟩
    · exact ⟨n', by rw [if_neg (fun h => hq ⟨h.1, h.2.1⟩)]; exact e⟩
  · rw [froz_setc]; exact e
theorem own_froz {w : World} {B : Nat} {e : TypeId} {s : Nat} {v : Value} {n : Nat} {xs : List Value} (h : w.ownsRow B e s v n xs) (hn : 0 < n) : ∃ g cap, v = .slice (some ⟨g, 0, none⟩) n cap ∧ B ≤ g ∧ g < w.heap.size ∧ ∀ o, w.frozen? ⟨g, o, none⟩ = false := by
  obtain ⟨g, cap, cur, rfl, hb, hg⟩ := own_pos h hn
  exact ⟨g, cap, rfl, hb, (Array.getElem?_eq_some_iff.1 hg).1, fun o => by simp [World.frozen?, hg]⟩
/-- The place i of cells of one's own. -/
theorem CsO.cell {B : Nat} {w : World} {v : Value} {L : List C} (h : CsO B w v L) {i : Nat} (hi : i < L.length) : ∃ g cap k, v = .slice (some ⟨g, 0, none⟩) L.length cap ∧ B ≤ g ∧ g < w.heap.size ∧ (∀ o, w.frozen? ⟨g, o, none⟩ = false) ∧
    w.cell? ⟨g, i * 4, none⟩ = some k ∧ w.cell? ⟨g, i * 4 + 2, none⟩ = some (.int .i64 L[i].over) ∧ w.cell? ⟨g, i * 4 + 3, none⟩ = some (.int .i64 L[i].len) ∧ Bts w B k L[i].key := by
  obtain ⟨vs, ho, he⟩ := h
  obtain ⟨g, cap, e, hb, hs, hf⟩ := own_froz ho (by omega)
  obtain ⟨g', o', cap', k, x, e', z0, z1, z2, z3, -⟩ := (CsO.s ⟨vs, ho, he⟩).at hi
  obtain ⟨k', x', hx, hk, -⟩ := he.2 i hi
  rw [e] at e'
  injection e' with e1 e2 e3
  injection e1 with e1
  injection e1 with e1 e4
  subst e1 e4
  have hr := (fl_own ho)
  obtain ⟨p, c, e5, -, -, -, -, h5⟩ := hr
  rw [e] at e5
  injection e5 with e5
  obtain ⟨g2, o2, e6, hr⟩ := h5.resolve_left (by omega)
  rw [← e5] at e6
  injection e6 with e6
  injection e6 with e6 e7
  subst e6 e7
  have hR := range_sub hr (i * 4) 4
  rw [hx] at hR
  have z0' := hR 0 _ rfl
  simp only [Nat.zero_add, Nat.add_zero] at z0 z1 z2 z3 z0'
  rw [z0] at z0'
  injection z0' with z0'
  subst z0'
  exact ⟨g, cap, k, e, hb, hs, hf, z0, z2, z3, hk⟩
theorem KsO.key {B : Nat} {w : World} {v : Value} {L : List (List UInt8)} (h : KsO B w v L) {i : Nat} (hi : i < L.length) : ∃ g cap k, v = .slice (some ⟨g, 0, none⟩) L.length cap ∧ B ≤ g ∧ g < w.heap.size ∧ w.cell? ⟨g, i, none⟩ = some k ∧ Bts w B k L[i] := by
  obtain ⟨vs, ho, he⟩ := h
  obtain ⟨g, cap, e, hb, hs, hf⟩ := own_froz ho (by omega)
  obtain ⟨k', hx, hk⟩ := he.2 i hi
  have hr := (fl_own ho)
  obtain ⟨p, c, e5, -, -, -, -, h5⟩ := hr
  rw [e] at e5
  injection e5 with e5
  obtain ⟨g2, o2, e6, hr⟩ := h5.resolve_left (by omega)
  rw [← e5] at e6
  injection e6 with e6
  injection e6 with e6 e7
  subst e6 e7
  have hR := range_sub hr (i * 1) 1
  rw [hx] at hR
  have z0' := hR 0 _ rfl
  simp only [Nat.zero_add, Nat.add_zero, Nat.mul_one] at z0'
  exact ⟨g, cap, k', e, hb, hs, z0', hk⟩
theorem IsO.kid {B : Nat} {w : World} {v : Value} {L : List Int} (h : IsO B w v L) {i : Nat} (hi : i < L.length) : ∃ g cap, v = .slice (some ⟨g, 0, none⟩) L.length cap ∧ B ≤ g ∧ g < w.heap.size ∧ (∀ o, w.frozen? ⟨g, o, none⟩ = false) ∧ w.cell? ⟨g, i, none⟩ = some (.int .i64 L[i]) := by
  obtain ⟨vs, ho, he⟩ := h
  obtain ⟨g, cap, e, hb, hs, hf⟩ := own_froz ho (by omega)
  obtain ⟨hx, hk⟩ := he.2 i hi
  have hr := (fl_own ho)
  obtain ⟨p, c, e5, -, -, -, -, h5⟩ := hr
  rw [e] at e5
  injection e5 with e5
  obtain ⟨g2, o2, e6, hr⟩ := h5.resolve_left (by omega)
  rw [← e5] at e6
  injection e6 with e6
  injection e6 with e6 e7
  subst e6 e7
  have hR := range_sub hr (i * 1) 1
  rw [hx] at hR
  have z0' := hR 0 _ rfl
  simp only [Nat.zero_add, Nat.add_zero, Nat.mul_one] at z0'
  exact ⟨g, cap, e, hb, hs, hf, z0'⟩
theorem Bts.byte {B : Nat} {w : World} {v : Value} {t : List UInt8} (h : Bts w B v t) {i : Nat} (hi : i < t.length) : ∃ g cap, v = .slice (some ⟨g, 0, none⟩) t.length cap ∧ B ≤ g ∧ g < w.heap.size ∧ (∀ o, w.frozen? ⟨g, o, none⟩ = false) ∧ ∃ x, w.cell? ⟨g, i, none⟩ = some (.int .u8 x) := by
  unfold Bts at h
  obtain ⟨g, cap, e, hb, hs, hf⟩ := own_froz h (by omega)
  have hr := (fl_own h)
  obtain ⟨p, c, e5, -, -, -, -, h5⟩ := hr
  rw [e] at e5
  injection e5 with e5
  obtain ⟨g2, o2, e6, hr⟩ := h5.resolve_left (by omega)
  rw [← e5] at e6
  injection e6 with e6
  injection e6 with e6 e7
  subst e6 e7
  have := hr i (.int .u8 (t[i].toNat : Int)) (by simp [enc, hi])
  simp only [Nat.zero_add] at this
  exact ⟨g, cap, e, hb, hs, hf, _, this⟩
end Go.Proofs.Ytbkpgppaahpalaa
