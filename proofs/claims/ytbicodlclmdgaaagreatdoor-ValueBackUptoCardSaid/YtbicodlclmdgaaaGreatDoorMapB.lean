/-
  What Map of package value does, the second part: the pairs put one behind the other.
-/
import Derived.Test.YtbicodlclmdgaaaGreatDoorMap
import Derived.Test.YtbicodlclmdgaaaGreatDoorPairZ
namespace Go.Proofs.YtbicodlclmdgaaaGreatDoor
open Go.RowKit
open Go.Sort (HoldsK flatK get_flatK)

/-- A pair's eight cells in a row that holds pairs. -/
theorem pair_cells {w0 W : World} {g : Nat} {d : Array (Pr w0)} (h : HoldsK encP 8 W g 0 d) (i : Nat) (hi : i < d.size) :
    W.cell? ⟨g, i * 8, none⟩ = some (.int .i64 d[i].1.1.1.k) ∧ W.cell? ⟨g, i * 8 + 1, none⟩ = some (.int .i64 d[i].1.1.1.n) ∧ W.cell? ⟨g, i * 8 + 2, none⟩ = some (.string d[i].1.1.1.s) ∧ W.cell? ⟨g, i * 8 + 3, none⟩ = some d[i].1.1.2 ∧
    W.cell? ⟨g, i * 8 + 4, none⟩ = some (.int .i64 d[i].1.2.1.k) ∧ W.cell? ⟨g, i * 8 + 5, none⟩ = some (.int .i64 d[i].1.2.1.n) ∧ W.cell? ⟨g, i * 8 + 6, none⟩ = some (.string d[i].1.2.1.s) ∧ W.cell? ⟨g, i * 8 + 7, none⟩ = some d[i].1.2.2 := by
  have at_ : ∀ r (hr : r < 8), W.cell? ⟨g, i * 8 + r, none⟩ = some ((encP d[i])[r]'hr) := by
    intro r hr
    have hj : i * 8 + r < d.size * 8 := by omega
    have := (h (i * 8 + r) (by simpa using hj)).1
    rw [Nat.zero_add, get_flatK _ _ _ _ hj, show (i * 8 + r) / 8 = i by omega, show (i * 8 + r) % 8 = r by omega, getElem!_pos d i hi] at this
    rw [this]
    simp only [id]
    rw [getElem!_pos (encP d[i]) r hr]
  exact ⟨at_ 0 (by omega), at_ 1 (by omega), at_ 2 (by omega), at_ 3 (by omega), at_ 4 (by omega), at_ 5 (by omega), at_ 6 (by omega), at_ 7 (by omega)⟩

theorem ls_flat {w0 W : World} (hB : Below w0.heap.size w0 W) {g : Nat} : ∀ (L : List (Pr w0)) (o : Nat) (_ : ∀ j, j < L.length * 8 → W.cell? ⟨g, o + j, none⟩ = (L.flatMap encP)[j]?), Ls W 0 (flat2 L) g o
  | [], o, _ => by simp only [flat2, List.flatMap_nil, Ls]
  | x :: L, o, h => by
    have c : ∀ r (hr : r < 8), W.cell? ⟨g, o + r, none⟩ = some ((encP x)[r]'hr) := by
      intro r hr
      rw [h r (by simp; omega), List.flatMap_cons, List.getElem?_append_left (by show r < 8; exact hr)]
      exact List.getElem?_eq_getElem (show r < (encP x).length from hr)
    have hr : Ls W 0 (flat2 L) g (o + 4 + 4) := ls_flat hB L (o + 4 + 4) fun j hj => by
      have := h (j + 8) (by simp; omega)
      rw [List.flatMap_cons, List.getElem?_append_right (by show 8 ≤ _; omega)] at this
      rw [show o + 4 + 4 + j = o + (j + 8) by omega, this]
      congr 1
    show Ls W 0 (x.1.1.1 :: x.1.2.1 :: flat2 L) g o
    simp only [Ls]
    exact ⟨x.1.1.2, c 0 (by omega), c 1 (by omega), c 2 (by omega), c 3 (by omega), x.2.1.on hB, x.1.2.2, c 4 (by omega), c 5 (by omega), c 6 (by omega), c 7 (by omega), x.2.2.on hB, hr⟩
theorem flat2_len {w : World} (L : List (Pr w)) : (flat2 L).length = 2 * L.length := by
  induction L with
  | nil => rfl
  | cons x L ih => show (x.1.1.1 :: x.1.2.1 :: flat2 L).length = _; simp [ih]; omega

theorem pairs_any (l : List V) (sl : Value) (m : Nat) (w : World) (hS : Sl w 0 l sl) (hlen : l.length = 2 * m) :
    ∃ pr : Fin m → Pr w, (∀ x : Fin m, (pr x).1.1.1 = l[2 * x.1]'(by omega) ∧ (pr x).1.2.1 = l[2 * x.1 + 1]'(by omega)) ∧ Calls Tryz.prog 44 #[sl] w fun e w' => Sorted44 w m pr e w' := by
  obtain ⟨p, cap, rfl, hc, hcm, h56, hx⟩ := hS
  by_cases hm0 : m = 0
  · subst hm0
    refine ⟨fun x => x.elim0, fun x => x.elim0, ?_⟩
    rw [hlen]
    exact callsIn_wide.1 (pairs44z p cap w _)
  have hm : 1 ≤ m := by omega
  obtain ⟨b, o, rfl, -, hx1⟩ := hx.resolve_left (by rintro rfl; simp at hlen; omega)
  unfold maxLen at hcm
  have hat := fun i (hi : i < l.length) => hx1.at i hi
  obtain ⟨hd, hhd⟩ : ∃ hd : (i : Nat) → i < l.length → Value, ∀ i (hi : i < l.length), w.cell? ⟨b, o + i * 4, none⟩ = some (.int .i64 l[i].k) ∧ w.cell? ⟨b, o + i * 4 + 1, none⟩ = some (.int .i64 l[i].n) ∧
      w.cell? ⟨b, o + i * 4 + 2, none⟩ = some (.string l[i].s) ∧ w.cell? ⟨b, o + i * 4 + 3, none⟩ = some (hd i hi) ∧ l[i].In w 0 (hd i hi) := ⟨fun i hi => Classical.choose (hat i hi), fun i hi => Classical.choose_spec (hat i hi)⟩
  let pr : Fin m → Pr w := fun x => ⟨((l[2 * x.1]'(by omega), hd (2 * x.1) (by omega)), (l[2 * x.1 + 1]'(by omega), hd (2 * x.1 + 1) (by omega))), (hhd (2 * x.1) (by omega)).2.2.2.2, (hhd (2 * x.1 + 1) (by omega)).2.2.2.2⟩
  let C : Nat → Value := fun i => (w.cell? ⟨b, o + i, none⟩).getD default
  have hC : ∀ i, i < 2 * m * 4 → ∃ v, w.cell? ⟨b, o + i, none⟩ = some v ∧ v.oneCell' = true := by
    intro i hi
    obtain ⟨c0, c1, c2, c3, hv⟩ := hhd (i / 4) (by omega)
    obtain ⟨p1, n1, q1, e1⟩ := hv.header
    have : i % 4 = 0 ∨ i % 4 = 1 ∨ i % 4 = 2 ∨ i % 4 = 3 := by omega
    rcases this with h | h | h | h
    · exact ⟨_, by rw [show o + i = o + i / 4 * 4 by omega]; exact c0, rfl⟩
    · exact ⟨_, by rw [show o + i = o + i / 4 * 4 + 1 by omega]; exact c1, rfl⟩
    · exact ⟨_, by rw [show o + i = o + i / 4 * 4 + 2 by omega]; exact c2, rfl⟩
    · exact ⟨_, by rw [show o + i = o + i / 4 * 4 + 3 by omega]; exact c3, by rw [e1]; rfl⟩
  refine ⟨pr, fun x => ⟨rfl, rfl⟩, ?_⟩
  rw [hlen]
  refine callsIn_wide.1 (pairs44 m b o cap hm (by omega) (by omega) (by omega) C w (fun i hi => ?_) (fun i hi => ?_) pr (fun x => ?_))
  · obtain ⟨v, hv, _⟩ := hC i hi
    rw [hv]; simp only [C, hv, Option.getD_some]
  · obtain ⟨v, hv, h1⟩ := hC i hi
    simp only [C, hv, Option.getD_some, h1]
  · have hx := x.2
    obtain ⟨c0, c1, c2, c3, -⟩ := hhd (2 * x.1) (by omega)
    obtain ⟨d0, d1, d2, d3, -⟩ := hhd (2 * x.1 + 1) (by omega)
    rw [show o + (2 * x.1 + 1) * 4 = o + (2 * x.1 * 4 + 4) by omega] at d0 d1 d2 d3
    simp only [Nat.add_assoc] at c1 c2 c3 d1 d2 d3
    simp only [eight, encP, C, c0, c1, c2, c3, d0, d1, d2, d3, Option.getD_some, pr]
end Go.Proofs.YtbicodlclmdgaaaGreatDoor
