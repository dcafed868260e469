/-
  The document's Sum, its first loop: numbers below 0 in one list, all others in another one; no Go text is walked here.
-/
import Derived.Test.YtbicodlclmdgaaaGreatDoorSumA
namespace Go.Proofs.YtbicodlclmdgaaaGreatDoor.sums
open Go.RowKit Go.Shelf

/-- The numbers below 0 among the first k, and the others. -/
def lows (zs : List Int) (k : Nat) : List Int := (zs.take k).filter (fun x => decide (x < 0))
def highs (zs : List Int) (k : Nat) : List Int := (zs.take k).filter (fun x => !decide (x < 0))
theorem lows_le (zs : List Int) (k : Nat) : (lows zs k).length ≤ k := Nat.le_trans (List.length_filter_le _ _) (List.length_take_le _ _)
theorem highs_le (zs : List Int) (k : Nat) : (highs zs k).length ≤ k := Nat.le_trans (List.length_filter_le _ _) (List.length_take_le _ _)
theorem lows_neg (zs : List Int) (k : Nat) : ∀ x ∈ lows zs k, x < 0 := fun x hx => by simpa using (List.mem_filter.1 hx).2
theorem highs_not (zs : List Int) (k : Nat) : ∀ x ∈ highs zs k, 0 ≤ x := fun x hx => by simpa using (List.mem_filter.1 hx).2
theorem lows_mem (zs : List Int) (k : Nat) : ∀ x ∈ lows zs k, x ∈ zs := fun _ hx => List.mem_of_mem_take (List.mem_filter.1 hx).1
theorem highs_mem (zs : List Int) (k : Nat) : ∀ x ∈ highs zs k, x ∈ zs := fun _ hx => List.mem_of_mem_take (List.mem_filter.1 hx).1
theorem take_snoc (zs : List Int) (k : Nat) (h : k < zs.length) : zs.take (k + 1) = zs.take k ++ [zs.getD k 0] := by
  rw [List.take_succ_eq_append_getElem h]; simp [List.getD, h]
theorem lows_hit (zs : List Int) (k : Nat) (h : k < zs.length) (hx : zs.getD k 0 < 0) : lows zs (k + 1) = lows zs k ++ [zs.getD k 0] ∧ highs zs (k + 1) = highs zs k := by
  unfold lows highs; rw [take_snoc zs k h, List.filter_append, List.filter_append]; constructor
  · rw [List.filter_cons_of_pos (by simpa using hx)]; rfl
  · rw [List.filter_cons_of_neg (by simpa using hx)]; simp
theorem highs_hit (zs : List Int) (k : Nat) (h : k < zs.length) (hx : ¬ zs.getD k 0 < 0) : highs zs (k + 1) = highs zs k ++ [zs.getD k 0] ∧ lows zs (k + 1) = lows zs k := by
  unfold lows highs; rw [take_snoc zs k h, List.filter_append, List.filter_append]; constructor
  · rw [List.filter_cons_of_pos (by simpa using hx)]; rfl
  · rw [List.filter_cons_of_neg (by simpa using hx)]; simp
theorem tot_parts (zs : List Int) (k : Nat) : tot (lows zs k) + tot (highs zs k) = tot (zs.take k) := by
  unfold lows highs
  induction zs.take k with
  | nil => rfl
  | cons x r ih =>
    by_cases hx : x < 0
    · rw [List.filter_cons_of_pos (by simpa using hx), List.filter_cons_of_neg (by simpa using hx)]; simp only [tot]; omega
    · rw [List.filter_cons_of_neg (by simpa using hx), List.filter_cons_of_pos (by simpa using hx)]; simp only [tot]; omega

/-- A list of numbers that the call itself has made. -/
def Own (w : World) (B : Nat) (v : Value) (l : List Int) : Prop := w.ownsRow B 2 1 v l.length (l.map (Value.int .i64)) ∧ (l = [] → v = .slice none 0 0)

/-- Lists whose first numbers are unlike lie in blocks of their own. -/
theorem own_apart {w : World} {B : Nat} {v u : Value} {l h : List Int} (hv : Own w B v l) (hu : Own w B u h) (hl : ∀ x ∈ l, x < 0) (hh : ∀ x ∈ h, 0 ≤ x) : v.ownBlock = none ∨ v.ownBlock ≠ u.ownBlock := by
  obtain ⟨⟨_, hv1⟩, hv2⟩ := hv
  obtain ⟨⟨_, hu1⟩, hu2⟩ := hu
  rcases hv1 with ⟨rfl, _⟩ | ⟨g, cap, cur, rfl, _, hg, _, _, _, ht⟩
  · exact .inl rfl
  · refine .inr ?_
    rcases hu1 with ⟨rfl, _⟩ | ⟨g', cap', cur', rfl, _, hg', _, _, _, ht'⟩
    · simp [Value.ownBlock]
    · intro e
      simp [Value.ownBlock] at e
      subst e
      rw [hg] at hg'
      simp at hg'
      subst hg'
      match l, h, hv2, hu2 with
      | [], _, hv2, _ => simpa using hv2 rfl
      | _ :: _, [], _, hu2 => simpa using hu2 rfl
      | x :: l', y :: h', _, _ =>
        have e1 : cur.toList[0]? = some (.int .i64 x) := by
          have := congrArg (fun t => t[0]?) ht
          simpa [List.getElem?_take] using this
        have e2 : cur.toList[0]? = some (.int .i64 y) := by
          have := congrArg (fun t => t[0]?) ht'
          simpa [List.getElem?_take] using this
        rw [e1] at e2
        simp at e2
        have := hl x (by simp)
        have := hh y (by simp)
        omega

theorem own_alloc {w : World} {B : Nat} {v : Value} {l : List Int} (h : Own w B v l) (o : Obj) : Own (w.alloc o) B v l := ⟨h.1.alloc o, h.2⟩

/-- What an append to one of the two lists does. -/
theorem own_step {w wr w1 : World} {B : Nat} {v u v' : Value} {l h : List Int} {x : Int} {o : Obj} (hv : Own wr B v l) (hu : Own wr B u h) (hap : u.ownBlock = none ∨ u.ownBlock ≠ v.ownBlock)
    (hbel : Below B w wr) (hB : B ≤ wr.heap.size) (hown' : w1.ownsRow B 2 1 v' (l.length + 1) (l.map (Value.int .i64) ++ [.int .i64 x])) (hgrow : (wr.alloc o).grownBy w1 v.ownBlock) :
    Own w1 B v' (l ++ [x]) ∧ Own w1 B u h ∧ Below B w w1 ∧ B ≤ w1.heap.size := by
  refine ⟨⟨by simpa using hown', by simp⟩, ⟨(hu.1.alloc o).kept hgrow hap, hu.2⟩, ?_, ?_⟩
  · exact (hbel.alloc hB o).grown hgrow (by simp; omega) (fun k e => (hv.1.lt k e).1)
  · have := hgrow.size; simp at this; omega
end Go.Proofs.YtbicodlclmdgaaaGreatDoor.sums
