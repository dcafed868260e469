/-
  Pairs in another order: plain mathematics, and rows of values in memory.
-/
import Derived.Test.YtbicodlclmdgaaaGreatDoorMapD
namespace Go.Proofs.YtbicodlclmdgaaaGreatDoor
open Go.RowKit

/-! ### Pairs in the order of their keys, no key twice: there is one such list -/

theorem rises_of {L : List (V × V)} (h : L.Pairwise (fun x y => 0 ≤ V.cmp y.1 x.1)) (ht : twiceP L = false) : L.Pairwise (fun x y => V.cmp x.1 y.1 < 0) := by
  induction L with
  | nil => exact List.Pairwise.nil
  | cons a L ih =>
    rw [List.pairwise_cons] at h ⊢
    match L, h, ht, ih with
    | [], _, _, _ => exact ⟨by simp, List.Pairwise.nil⟩
    | b :: L, ⟨h1, h2⟩, ht, ih =>
      simp only [twiceP, Bool.or_eq_false_iff, decide_eq_false_iff_not] at ht
      obtain ⟨hab, ht⟩ := ht
      have ih' := ih h2 ht
      refine ⟨fun c hc => ?_, ih'⟩
      have hb : V.cmp a.1 b.1 < 0 := by
        have h3 := h1 b (by simp)
        have h4 := anti_cmp b.1 a.1
        omega
      rcases List.mem_cons.1 hc with rfl | hc
      · exact hb
      · have hbc : V.cmp b.1 c.1 < 0 := (List.pairwise_cons.1 ih').1 c hc
        obtain ⟨h5, h6⟩ := tri_cmp a.1 b.1 c.1 (by omega) (by omega)
        by_cases h0 : V.cmp a.1 c.1 = 0
        · have := h6 h0; omega
        · omega

theorem one_list {L L' : List (V × V)} (hp : L'.Perm L) (h : L.Pairwise (fun x y => 0 ≤ V.cmp y.1 x.1)) (h' : L'.Pairwise (fun x y => 0 ≤ V.cmp y.1 x.1)) (ht : twiceP L = false) : L' = L := by
  have hr := rises_of h ht
  refine List.Perm.eq_of_pairwise (fun a b ha hb h1 h2 => ?_) h' h hp
  have ha' : a ∈ L := hp.subset ha
  have h4 := anti_cmp b.1 a.1
  obtain ⟨i, hi, rfl⟩ := List.getElem_of_mem ha'
  obtain ⟨j, hj, rfl⟩ := List.getElem_of_mem hb
  rw [List.pairwise_iff_getElem] at hr
  rcases Nat.lt_trichotomy i j with h5 | h5 | h5
  · have := hr i j hi hj h5; omega
  · subst h5; rfl
  · have := hr j i hj hi h5; omega

/-! ### A row of values in memory -/

/-- The values of a row with their headers. -/
abbrev El := Nat → V × Value
def RowE (W : World) (g N : Nat) (E : El) : Prop := ∀ i, i < N → W.cell? ⟨g, i * 4, none⟩ = some (.int .i64 (E i).1.k) ∧ W.cell? ⟨g, i * 4 + 1, none⟩ = some (.int .i64 (E i).1.n) ∧
  W.cell? ⟨g, i * 4 + 2, none⟩ = some (.string (E i).1.s) ∧ W.cell? ⟨g, i * 4 + 3, none⟩ = some (E i).2
def upd (E : El) (a : Nat) (x : V × Value) : El := fun k => if k = a then x else E k
theorem rowE_put {W : World} {g N cap : Nat} {E : El} (h : RowE W g N E) (hr : Row W g cap) (hN : N ≤ cap) (a : Nat) (ha : a < N) (x : V × Value) :
    RowE (put4 W g (a * 4) (.int .i64 x.1.k) (.int .i64 x.1.n) (.string x.1.s) x.2) g N (upd E a x) := by
  intro i hi
  unfold put4
  have r1 := hr.set (a * 4) (.int .i64 x.1.k)
  have r2 := r1.set (a * 4 + 1) (.int .i64 x.1.n)
  have r3 := r2.set (a * 4 + 2) (.string x.1.s)
  by_cases e : i = a
  · subst e
    simp only [upd, if_true]
    have c0 := set_other (u := x.2) (g := g) (i := i * 4 + 3) (set_other (u := .string x.1.s) (g := g) (i := i * 4 + 2) (set_other (u := .int .i64 x.1.n) (g := g) (i := i * 4 + 1) (hr.get (i * 4) (by omega) (.int .i64 x.1.k)) (.inr (by show i * 4 ≠ _; omega))) (.inr (by show i * 4 ≠ _; omega))) (.inr (by show i * 4 ≠ _; omega))
    have c1 := set_other (u := x.2) (g := g) (i := i * 4 + 3) (set_other (u := .string x.1.s) (g := g) (i := i * 4 + 2) (r1.get (i * 4 + 1) (by omega) (.int .i64 x.1.n)) (.inr (by show i * 4 + 1 ≠ _; omega))) (.inr (by show i * 4 + 1 ≠ _; omega))
    have c2 := set_other (u := x.2) (g := g) (i := i * 4 + 3) (r2.get (i * 4 + 2) (by omega) (.string x.1.s)) (.inr (by show i * 4 + 2 ≠ _; omega))
    exact ⟨c0, c1, c2, r3.get (i * 4 + 3) (by omega) x.2⟩
  · obtain ⟨c0, c1, c2, c3⟩ := h i hi
    simp only [upd, if_neg e]
    refine ⟨?_, ?_, ?_, ?_⟩
    · exact set_other (set_other (set_other (set_other c0 (.inr (by show i * 4 ≠ _; omega))) (.inr (by show i * 4 ≠ _; omega))) (.inr (by show i * 4 ≠ _; omega))) (.inr (by show i * 4 ≠ _; omega))
    · exact set_other (set_other (set_other (set_other c1 (.inr (by show i * 4 + 1 ≠ _; omega))) (.inr (by show i * 4 + 1 ≠ _; omega))) (.inr (by show i * 4 + 1 ≠ _; omega))) (.inr (by show i * 4 + 1 ≠ _; omega))
    · exact set_other (set_other (set_other (set_other c2 (.inr (by show i * 4 + 2 ≠ _; omega))) (.inr (by show i * 4 + 2 ≠ _; omega))) (.inr (by show i * 4 + 2 ≠ _; omega))) (.inr (by show i * 4 + 2 ≠ _; omega))
    · exact set_other (set_other (set_other (set_other c3 (.inr (by show i * 4 + 3 ≠ _; omega))) (.inr (by show i * 4 + 3 ≠ _; omega))) (.inr (by show i * 4 + 3 ≠ _; omega))) (.inr (by show i * 4 + 3 ≠ _; omega))
theorem RowE.drew {W : World} {g N : Nat} {E : El} (h : RowE W g N E) : RowE W.drew g N E := h
theorem Row.drew {W : World} {g n : Nat} (h : Row W g n) : Row W.drew g n := h

/-- Two values change places. -/
def sw (E : El) (a b : Nat) : El := upd (upd E a (E b)) b (E a)
/-- The world behind it. -/
def swW (W : World) (g : Nat) (E : El) (a b : Nat) : World :=
  put4 (put4 W g (a * 4) (.int .i64 (E b).1.k) (.int .i64 (E b).1.n) (.string (E b).1.s) (E b).2) g (b * 4) (.int .i64 (E a).1.k) (.int .i64 (E a).1.n) (.string (E a).1.s) (E a).2
theorem rowE_sw {W : World} {g N cap : Nat} {E : El} (h : RowE W g N E) (hr : Row W g cap) (hN : N ≤ cap) {a b : Nat} (ha : a < N) (hb : b < N) : RowE (swW W g E a b) g N (sw E a b) ∧ Row (swW W g E a b) g cap :=
  ⟨rowE_put (rowE_put h hr hN a ha (E b)) (hr.put4 _ _ _ _) hN b hb (E a), (hr.put4 _ _ _ _).put4 _ _ _ _⟩
theorem below_sw {W : World} {g B : Nat} (h : B ≤ g) (E : El) (a b : Nat) : Below B W (swW W g E a b) := (below_put4 h _ _ _ _).trans (below_put4 h _ _ _ _)

/-- The pairs of a row. -/
def prE (E : El) (j : Nat) : V × V := ((E (2 * j)).1, (E (2 * j + 1)).1)
def prs (E : El) (n : Nat) : List (V × V) := (List.range n).map (prE E)
/-- Two places change. -/
def sg (i j k : Nat) : Nat := if k = i then j else if k = j then i else k
theorem sg_lt {i j k n : Nat} (hi : i < n) (hj : j < n) (hk : k < n) : sg i j k < n := by
  unfold sg
  split
  · exact hj
  · split <;> assumption
theorem sg_sg (i j k : Nat) : sg i j (sg i j k) = k := by unfold sg; repeat' split <;> simp_all
theorem sg_perm (i j n : Nat) (hi : i < n) (hj : j < n) : ((List.range n).map (sg i j)).Perm (List.range n) := by
  refine (List.perm_ext_iff_of_nodup ?_ List.nodup_range).2 fun a => ?_
  · unfold List.Nodup
    rw [List.pairwise_map]
    exact List.nodup_range.imp fun {a b} hab e => hab (by rw [← sg_sg i j a, e, sg_sg])
  · rw [List.mem_map, List.mem_range]
    constructor
    · rintro ⟨k, hk, rfl⟩
      exact sg_lt hi hj (List.mem_range.1 hk)
    · intro ha
      exact ⟨sg i j a, List.mem_range.2 (sg_lt hi hj ha), sg_sg i j a⟩
theorem prE_sw (E : El) (i j k : Nat) : prE (sw (sw E (2 * i) (2 * j)) (2 * i + 1) (2 * j + 1)) k = prE E (sg i j k) := by
  unfold prE sw upd sg
  by_cases e1 : k = i
  · subst e1
    by_cases e2 : k = j
    · subst e2; simp
    · have h3 : ¬ (2 * k = 2 * j + 1) := by omega
      have h4 : ¬ (2 * k = 2 * k + 1) := by omega
      have h5 : ¬ (2 * k = 2 * j) := by omega
      have h6 : ¬ (2 * k + 1 = 2 * j + 1) := by omega
      have h7 : ¬ (2 * j + 1 = 2 * j) := by omega
      have h8 : ¬ (2 * j + 1 = 2 * k) := by omega
      simp [h3, h5, h8]
  · have h1 : ¬ (2 * k = 2 * i) := by omega
    have h2 : ¬ (2 * k = 2 * i + 1) := by omega
    have h3 : ¬ (2 * k + 1 = 2 * i + 1) := by omega
    have h4 : ¬ (2 * k + 1 = 2 * i) := by omega
    by_cases e2 : k = j
    · subst e2
      have h5 : ¬ (2 * i + 1 = 2 * k) := by omega
      simp [e1, h2, h5]
    · have h5 : ¬ (2 * k = 2 * j) := by omega
      have h6 : ¬ (2 * k = 2 * j + 1) := by omega
      have h7 : ¬ (2 * k + 1 = 2 * j) := by omega
      simp [e1, e2, h1, h2, h4, h5, h6, h7]
theorem prs_sw (E : El) (n i j : Nat) (hi : i < n) (hj : j < n) : (prs (sw (sw E (2 * i) (2 * j)) (2 * i + 1) (2 * j + 1)) n).Perm (prs E n) := by
  have h := (sg_perm i j n hi hj).map (prE E)
  rw [List.map_map] at h
  refine (List.Perm.of_eq ?_).trans h
  unfold prs
  exact List.map_congr_left fun k _ => prE_sw E i j k

/-- The values of a row, as a slice. -/
theorem rowE_ls {w W : World} {g : Nat} {E : El} (hb : Below w.heap.size w W) : ∀ (N o : Nat) (_ : RowE W g (o + N) E) (_ : ∀ i, i < o + N → (E i).1.In w 0 (E i).2), Ls W 0 ((List.range' o N).map fun i => (E i).1) g (o * 4)
  | 0, o, _, _ => by simp [Ls]
  | N + 1, o, h, hi => by
    obtain ⟨c0, c1, c2, c3⟩ := h o (by omega)
    simp only [List.range'_succ, List.map_cons, Ls]
    refine ⟨(E o).2, c0, c1, c2, c3, (hi o (by omega)).on hb, ?_⟩
    have := rowE_ls hb N (o + 1) (by rw [show o + 1 + N = o + (N + 1) by omega]; exact h) (by rw [show o + 1 + N = o + (N + 1) by omega]; exact hi)
    rw [show (o + 1) * 4 = o * 4 + 4 by omega] at this
    exact this
theorem pairsOf_prs (E : El) : ∀ (n o : Nat), pairsOf ((List.range' (2 * o) (2 * n)).map fun i => (E i).1) = (List.range' o n).map (prE E)
  | 0, o => by simp [pairsOf]
  | n + 1, o => by
    have := pairsOf_prs E n (o + 1)
    rw [show 2 * (n + 1) = 2 * n + 1 + 1 by omega, List.range'_succ, List.range'_succ, List.range'_succ]
    simp only [List.map_cons, pairsOf]
    rw [show 2 * o + 1 + 1 = 2 * (o + 1) by omega, this]
    rfl
end Go.Proofs.YtbicodlclmdgaaaGreatDoor
