/-
  What slices.Clone of values does: the same values in a row of its own.
-/
import Derived.Test.YtbicodlclmdgaabGreatDoorTurn
import Derived.WalkSpells
namespace Go.Proofs.YtbicodlclmdgaabGreatDoor
open Go.RowKit

/-- What the clone of a slice is. -/
def Scl (l : List V) (w : World) (e : Ending) (w' : World) : Prop := Below w.heap.size w w' ∧
  ∃ P cap, e = .returned (.slice P l.length cap) ∧ l.length ≤ cap ∧ cap ≤ maxLen ∧ (l ≠ [] → ∃ g E, P = some ⟨g, 0, none⟩ ∧ w.heap.size ≤ g ∧ Row w' g cap ∧ RowE w' g l.length E ∧
     ∀ i (hi : i < l.length), (E i).1 = l[i] ∧ l[i].In w 0 (E i).2)

/-- The four cells of a value. -/
def enc4 (x : V × Value) : List Value := [.int .i64 x.1.k, .int .i64 x.1.n, .string x.1.s, x.2]
theorem flat_at4 {α : Type} (f : α → List Value) (h : ∀ x, (f x).length = 4) : ∀ (L : List α) (t : Nat), (L.flatMap f)[t]? = (L[t / 4]?).bind fun x => (f x)[t % 4]?
  | [], t => by simp
  | a :: L, t => by
    rw [List.flatMap_cons]
    by_cases ht : t < 4
    · rw [List.getElem?_append_left (by rw [h]; exact ht), Nat.div_eq_of_lt ht, Nat.mod_eq_of_lt ht]; rfl
    · obtain ⟨u, rfl⟩ : ∃ u, t = u + 4 := ⟨t - 4, by omega⟩
      rw [List.getElem?_append_right (by rw [h]; omega), h, show u + 4 - 4 = u by omega, flat_at4 f h L u, show (u + 4) / 4 = u / 4 + 1 by omega, show (u + 4) % 4 = u % 4 by omega, List.getElem?_cons_succ]
def flatE (E : El) (n : Nat) : List Value := (List.range n).flatMap fun i => enc4 (E i)
theorem flatE_len (E : El) (n : Nat) : (flatE E n).length = n * 4 := by
  unfold flatE; rw [List.length_flatMap]
  induction n with
  | zero => rfl
  | succ n ih => rw [List.range_succ, List.map_append, List.sum_append, ih]; simp [enc4]; omega
theorem flatE_at (E : El) (n i r : Nat) (hi : i < n) (hr : r < 4) : (flatE E n)[i * 4 + r]? = (enc4 (E i))[r]? := by
  unfold flatE
  rw [flat_at4 (fun i => enc4 (E i)) (fun _ => rfl), show (i * 4 + r) / 4 = i by omega, show (i * 4 + r) % 4 = r by omega, List.getElem?_range hi]; rfl

set_option maxRecDepth 20000 in
set_option maxHeartbeats 1000000 in
theorem clone6 (l : List V) (sl : Value) (w : World) (hS : Sl w 0 l sl) : Calls Tryz.prog 6 #[sl] w fun e w' => Scl l w e w' := by
  obtain ⟨p, cap, rfl, hc, hcm, h56, hx⟩ := hS
  have hn : ∀ (W : World) (n : Nat), (binOp .eql 22 (.slice p n cap) (.slice none 0 0)).run Tryz.prog W = .ok (.bool p.isNone) W := fun W n => Lib.run_eql_slice_nil W 22 25 p n cap 0 0 Tryz.underlying22
  by_cases h0 : l = []
  · subst h0
    have key : ∀ (e : Ending) (w' : World) (p : Option Addr) (cap : Nat), Below w.heap.size w w' → e = .returned (.slice p 0 cap) → cap ≤ maxLen → Scl [] w e w' := fun e w' p cap h1 h2 h3 => ⟨h1, p, cap, h2, Nat.zero_le _, h3, fun h => absurd rfl h⟩
    clear hx
    rw [List.length_nil]
    cases p
    · go_enter Tryz.func6, Tryz.ntmps6
      go_wp2
      go_ret
      exact key _ _ none 0 (Below.refl _ _) rfl (Nat.zero_le _)
    · go_enter Tryz.func6, Tryz.ntmps6
      go_wp2
      go_ret
      exact key _ _ (some ⟨w.heap.size, 0, none⟩) 0 (bel1 w _) rfl (Nat.zero_le _)
  · obtain ⟨b, o, rfl, -, hx1⟩ := hx.resolve_left h0
    obtain ⟨i0, hi, hz0, hz1, hz2⟩ := info_parts info24
    have hat := fun i (hi : i < l.length) => hx1.at i hi
    let E : El := fun i => if h : i < l.length then (l[i], Classical.choose (hat i h)) else (zeroV, .int .i64 0)
    have hE : ∀ i (hi : i < l.length), (E i).1 = l[i] ∧ w.cell? ⟨b, o + i * 4, none⟩ = some (.int .i64 (E i).1.k) ∧ w.cell? ⟨b, o + i * 4 + 1, none⟩ = some (.int .i64 (E i).1.n) ∧
      w.cell? ⟨b, o + i * 4 + 2, none⟩ = some (.string (E i).1.s) ∧ w.cell? ⟨b, o + i * 4 + 3, none⟩ = some (E i).2 ∧ (E i).1.In w 0 (E i).2 := fun i hi => by
      have e : E i = (l[i], Classical.choose (hat i hi)) := dif_pos hi
      rw [e]
      exact ⟨rfl, Classical.choose_spec (hat i hi)⟩
    clear_value E
    have hnews : ∀ (W : World) (_ : Below w.heap.size w W) (j : Nat) (u : Value), (flatE E l.length)[j]? = some u → W.cell? ((⟨b, o, none⟩ : Addr).add j) = some u := fun W hW j u hu => by
      have hj : j < l.length * 4 := by
        have := (List.getElem?_eq_some_iff.1 hu).1
        rwa [flatE_len] at this
      have hadd : (⟨b, o, none⟩ : Addr).add j = ⟨b, o + j, none⟩ := by unfold Addr.add; split <;> simp_all
      obtain ⟨-, c0, c1, c2, c3, -⟩ := hE (j / 4) (by omega)
      rw [hadd]
      refine some_on hW ?_
      have hu2 := flatE_at E l.length (j / 4) (j % 4) (by omega) (by omega)
      rw [show j / 4 * 4 + j % 4 = j by omega, hu] at hu2
      have h4 : j % 4 = 0 ∨ j % 4 = 1 ∨ j % 4 = 2 ∨ j % 4 = 3 := by omega
      rcases h4 with h | h | h | h <;> rw [h] at hu2 <;> simp only [enc4, List.getElem?_cons_zero, List.getElem?_cons_succ, Option.some.injEq] at hu2 <;> subst hu2
      · rw [show o + j = o + j / 4 * 4 by omega]; exact c0
      · rw [show o + j = o + j / 4 * 4 + 1 by omega]; exact c1
      · rw [show o + j = o + j / 4 * 4 + 2 by omega]; exact c2
      · rw [show o + j = o + j / 4 * 4 + 3 by omega]; exact c3
    have hone : ∀ u ∈ flatE E l.length, u.oneCell' = true := fun u hu => by
      obtain ⟨i, hi, hu⟩ := List.mem_flatMap.1 hu
      obtain ⟨-, -, -, -, -, hin⟩ := hE i (List.mem_range.1 hi)
      obtain ⟨p1, n1, q1, e1⟩ := hin.header
      simp only [enc4, e1, List.mem_cons, List.not_mem_nil, or_false] at hu
      rcases hu with rfl | rfl | rfl | rfl <;> rfl
    have key : ∀ (e : Ending) (w' : World) (g cap : Nat), Below w.heap.size w w' → e = .returned (.slice (some ⟨g, 0, none⟩) l.length cap) → w'.ownsRow w.heap.size 25 4 (.slice (some ⟨g, 0, none⟩) l.length cap) l.length (flatE E l.length) → Scl l w e w' := fun e w' g cap h1 h2 h3 => by
      have h3' := h3
      obtain ⟨-, h | ⟨g2, cap2, cur, h, a1, a2, a3, a4, a5, a6⟩⟩ := h3
      · exact absurd h.1 (by simp)
      · cases h
        refine ⟨h1, some ⟨g, 0, none⟩, cap, h2, a3, a4, fun _ => ⟨g, E, rfl, a1, ⟨cur, a2, a5⟩, fun i hi => ?_, fun i hi => ⟨(hE i hi).1, by rw [← (hE i hi).1]; exact (hE i hi).2.2.2.2.2⟩⟩⟩
        have hh : ∀ r, r < 4 → w'.cell? ⟨g, i * 4 + r, none⟩ = (enc4 (E i))[r]? := fun r hr => by rw [h3'.cellAt (i * 4 + r) (by omega), flatE_at E _ i r hi hr]
        exact ⟨hh 0 (by omega), hh 1 (by omega), hh 2 (by omega), hh 3 (by omega)⟩
    have hpos : 0 < l.length := List.length_pos_iff.2 h0
    have hlen := flatE_len E l.length
    clear hE hat hx1 hx h0
    generalize hF : flatE E l.length = F at *
    clear hF
    generalize l.length = n at *
    go_enter Tryz.func6, Tryz.ntmps6
    go_wp2_with (at_builtin; refine wpList_append_lies _ rfl _ _ 22 rfl w.heap.size 25 i0 zVal 4 56 Tryz.underlying22 hi hz0 hz1 hz2 rfl (by decide) _ _ _ rfl (World.ownsRow_made w #[] 0 (Nat.le_refl _) (Nat.zero_le _) rfl) ⟨b, o, none⟩ n cap F rfl hlen (hnews _ (bel1 w _)) hone hpos (by omega) (by omega) (by simp) _ rfl ?_; intro g2 cap2 w4 hown hgrow hg2 hlt)
    go_ret
    rw [Nat.zero_add, List.nil_append] at hown
    refine key _ _ g2 cap2 ?_ (by simp) hown
    exact (bel1 w _).grown hgrow (by simp) (fun k e => by have e2 : w.heap.size = k := Option.some.inj e; omega)
end Go.Proofs.YtbicodlclmdgaabGreatDoor
