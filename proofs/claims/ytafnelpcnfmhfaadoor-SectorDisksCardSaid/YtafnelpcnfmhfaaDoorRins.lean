/-
  A number put into rising numbers, as the document's Write does it: as mathematics.
-/
import Derived.Test.YtafnelpcnfmhfaaDoorDirty
import Derived.Test.YtafnelpcnfmhfaaDoorWrite
namespace Go.Proofs.YtafnelpcnfmhfaaDoor

/-- Rising numbers with the same members are the same. -/
theorem rising_ext : ∀ {a b : List Nat}, a.Pairwise (· < ·) → b.Pairwise (· < ·) → (∀ x, x ∈ a ↔ x ∈ b) → a = b
  | [], [], _, _, _ => rfl
  | [], y :: b, _, _, h => by have := (h y).2 (List.mem_cons_self ..); cases this
  | x :: a, [], _, _, h => by have := (h x).1 (List.mem_cons_self ..); cases this
  | x :: a, y :: b, ha, hb, h => by
    obtain ⟨hx, ha'⟩ := List.pairwise_cons.1 ha
    obtain ⟨hy, hb'⟩ := List.pairwise_cons.1 hb
    have e : x = y := by
      rcases List.mem_cons.1 ((h x).1 (List.mem_cons_self ..)) with h1 | h1
      · exact h1
      · rcases List.mem_cons.1 ((h y).2 (List.mem_cons_self ..)) with h2 | h2
        · exact h2.symm
        · have := hy x h1; have := hx y h2; omega
    subst e
    congr 1
    refine rising_ext ha' hb' (fun z => ⟨fun hz => ?_, fun hz => ?_⟩)
    · rcases List.mem_cons.1 ((h z).1 (List.mem_cons_of_mem _ hz)) with h1 | h1
      · have := hx z hz; omega
      · exact h1
    · rcases List.mem_cons.1 ((h z).2 (List.mem_cons_of_mem _ hz)) with h1 | h1
      · have := hy z hz; omega
      · exact h1
/-- What the loop has made of the numbers so far, and whether the new one is in. -/
def insD (L : List Nat) (k i : Nat) : Bool := (L.take i).any fun j => decide (k ≤ j)
def insL (L : List Nat) (k i : Nat) : List Nat := (L.take i).filter (fun j => decide (j < k)) ++ (if insD L k i then [k] else []) ++ (L.take i).filter (fun j => decide (k < j))
theorem insL_zero (L : List Nat) (k : Nat) : insL L k 0 = [] ∧ insD L k 0 = false := by simp [insL, insD]
theorem insD_succ {L : List Nat} {k i : Nat} (hi : i < L.length) : insD L k (i + 1) = (insD L k i || decide (k ≤ L[i])) := by
  unfold insD
  rw [List.take_succ_eq_append_getElem hi, List.any_append]
  simp
/-- One more: the new one first where it is due, then the old one where it is another. -/
theorem insL_succ {L : List Nat} (hL : L.Pairwise (· < ·)) {k i : Nat} (hi : i < L.length) :
    insL L k (i + 1) = insL L k i ++ (if insD L k i = false ∧ k ≤ L[i] then [k] else []) ++ (if L[i] ≠ k then [L[i]] else []) := by
  have hlow : insD L k i = true → ∀ j ∈ L.take i, j < L[i] := fun _ j hj => by
    obtain ⟨m, hm, e⟩ := List.mem_iff_getElem.1 hj
    rw [List.length_take] at hm
    rw [List.getElem_take] at e
    have := List.pairwise_iff_getElem.1 hL m i (by omega) hi (by omega)
    omega
  have hgt : insD L k i = true → k < L[i] := fun h => by
    unfold insD at h
    obtain ⟨j, hj, hk⟩ := List.any_eq_true.1 h
    have := hlow (by unfold insD; exact h) j hj
    simp at hk
    omega
  have hno : insD L k i = false → (L.take i).filter (fun j => decide (k < j)) = [] := fun h => by
    rw [List.filter_eq_nil_iff]
    intro j hj hk
    unfold insD at h
    rw [List.any_eq_false] at h
    have := h j hj
    simp at this hk
    omega
  unfold insL
  rw [insD_succ hi, List.take_succ_eq_append_getElem hi, List.filter_append, List.filter_append]
  cases hd : insD L k i with
  | true =>
    have h1 := hgt hd
    simp [show ¬ L[i] < k by omega, h1, show L[i] ≠ k by omega]
  | false =>
    rw [hno hd]
    by_cases h1 : L[i] < k
    · simp [h1, show ¬ k ≤ L[i] by omega, show ¬ k < L[i] by omega, show L[i] ≠ k by omega]
    · by_cases h2 : L[i] = k
      · simp [h2]
      · simp [h1, h2, show k ≤ L[i] by omega, show k < L[i] by omega]
/-- In the end it is the numbers of the disk with the new one. -/
theorem insL_all (s : Dsk) {k : Nat} (hk : k < s.N) (bs : List UInt8) :
    insL s.dirty k s.dirty.length ++ (if insD s.dirty k s.dirty.length = false then [k] else []) = ({ s with ca := upd s.ca k (some bs) } : Dsk).dirty := by
  have hL := dirty_sorted s
  have e : insL s.dirty k s.dirty.length ++ (if insD s.dirty k s.dirty.length = false then [k] else []) = s.dirty.filter (fun j => decide (j < k)) ++ ([k] ++ s.dirty.filter (fun j => decide (k < j))) := by
    unfold insL
    simp only [List.take_length]
    cases hd : insD s.dirty k s.dirty.length with
    | true => simp
    | false =>
      have : s.dirty.filter (fun j => decide (k < j)) = [] := by
        rw [List.filter_eq_nil_iff]
        intro j hj hkj
        unfold insD at hd
        rw [List.take_length, List.any_eq_false] at hd
        have := hd j hj
        simp at this hkj
        omega
      rw [this]
      simp
  rw [e]
  refine rising_ext ?_ (dirty_sorted _) (fun x => ?_)
  · rw [List.pairwise_append]
    refine ⟨hL.filter _, ?_, fun a ha b hb => ?_⟩
    · rw [List.singleton_append, List.pairwise_cons]
      exact ⟨fun b hb => by simpa using (List.mem_filter.1 hb).2, hL.filter _⟩
    · have h1 : a < k := by simpa using (List.mem_filter.1 ha).2
      rcases List.mem_append.1 hb with h | h
      · have := List.mem_singleton.1 h; omega
      · have : k < b := by simpa using (List.mem_filter.1 h).2
        omega
  · rw [mem_dirty]
    simp only [List.mem_append, List.mem_filter, List.mem_singleton, decide_eq_true_eq, mem_dirty]
    by_cases hx : x = k
    · subst hx; simp [upd_same, hk]
    · rw [upd_other _ _ hx]
      constructor
      · rintro (⟨h, -⟩ | h | ⟨h, -⟩)
        · exact h
        · exact absurd h hx
        · exact h
      · intro h
        rcases Nat.lt_or_gt_of_ne hx with h1 | h1
        · exact .inl ⟨h, h1⟩
        · exact .inr (.inr ⟨h, h1⟩)
end Go.Proofs.YtafnelpcnfmhfaaDoor
