/-
  The halves of a node that may be: as mathematics. No walk.
-/
import Derived.Test.YtbkpgppaahpalaaSpm
import Derived.Test.YtbkpgppaahpalaaPlm
import Derived.Test.YtbkpgppaahpalaaNer
namespace Go.Proofs.Ytbkpgppaahpalaa
set_option linter.unusedVariables false      -- a walk need not use every condition

theorem cmp_nil {k : List UInt8} (h : 1 ≤ k.length) : Lib.compareBytes [] k < 0 := by
  cases k with
  | nil => simp at h
  | cons a r => simp [Lib.compareBytes]
theorem fol_nil {l k : List UInt8} (h : fol l k = true) : fol [] k = true := by
  unfold fol at h ⊢
  simp only [Bool.and_eq_true, decide_eq_true_eq] at h ⊢
  exact ⟨h.1, cmp_nil h.1.1⟩
theorem mayC_nil {l : List UInt8} {L : List C} (h : mayC l L = true) : mayC [] L = true := by
  cases L with
  | nil => rfl
  | cons c r =>
    unfold mayC at h ⊢
    simp only [Bool.and_eq_true] at h ⊢
    exact ⟨⟨fol_nil h.1.1, h.1.2⟩, h.2⟩
theorem mayC_take : ∀ {l : List UInt8} {L : List C} (k : Nat), mayC l L = true → mayC l (L.take k) = true
  | _, [], k, _ => by simp [mayC]
  | _, c :: r, 0, _ => by simp [mayC]
  | l, c :: r, k + 1, h => by
    unfold mayC at h
    simp only [Bool.and_eq_true] at h
    rw [List.take_succ_cons]
    unfold mayC
    simp only [Bool.and_eq_true]
    exact ⟨h.1, mayC_take k h.2⟩
theorem mayC_drop : ∀ {l : List UInt8} {L : List C} (k : Nat), mayC l L = true → mayC [] (L.drop k) = true
  | _, L, 0, h => mayC_nil h
  | _, [], k + 1, _ => by simp [mayC]
  | l, c :: r, k + 1, h => by
    unfold mayC at h
    simp only [Bool.and_eq_true] at h
    rw [List.drop_succ_cons]
    exact mayC_drop k h.2
theorem mayK_nil {l : List UInt8} {L : List (List UInt8)} (h : mayK l L = true) : mayK [] L = true := by
  cases L with
  | nil => rfl
  | cons c r =>
    unfold mayK at h ⊢
    simp only [Bool.and_eq_true] at h ⊢
    exact ⟨fol_nil h.1, h.2⟩
theorem mayK_take : ∀ {l : List UInt8} {L : List (List UInt8)} (k : Nat), mayK l L = true → mayK l (L.take k) = true
  | _, [], k, _ => by simp [mayK]
  | _, c :: r, 0, _ => by simp [mayK]
  | l, c :: r, k + 1, h => by
    unfold mayK at h
    simp only [Bool.and_eq_true] at h
    rw [List.take_succ_cons]
    unfold mayK
    simp only [Bool.and_eq_true]
    exact ⟨h.1, mayK_take k h.2⟩
theorem mayK_drop : ∀ {l : List UInt8} {L : List (List UInt8)} (k : Nat), mayK l L = true → mayK [] (L.drop k) = true
  | _, L, 0, h => mayK_nil h
  | _, [], k + 1, _ => by simp [mayK]
  | l, c :: r, k + 1, h => by
    unfold mayK at h
    simp only [Bool.and_eq_true] at h
    rw [List.drop_succ_cons]
    exact mayK_drop k h.2
theorem mayK_above : ∀ {l : List UInt8} {L : List (List UInt8)} {k : List UInt8}, mayK l L = true → (Lib.compareBytes k l < 0 ∨ k = l) → ∀ d ∈ L, Lib.compareBytes k d < 0
  | _, [], _, _, _, d, hd => by cases hd
  | l, c :: r, k, h, hk, d, hd => by
    unfold mayK at h
    simp only [Bool.and_eq_true] at h
    obtain ⟨h1, h3⟩ := h
    unfold fol at h1
    simp only [Bool.and_eq_true, decide_eq_true_eq] at h1
    have hc : Lib.compareBytes k c < 0 := by
      rcases hk with hk | rfl
      · exact cmp_trans hk h1.2
      · exact h1.2
    rcases List.mem_cons.1 hd with rfl | hd
    · exact hc
    · exact mayK_above h3 (.inl hc) d hd
theorem apartC : ∀ {l : List UInt8} {L : List C} {k : Nat} (hk : k < L.length), mayC l L = true → (∀ c ∈ L.take k, Lib.compareBytes c.key L[k].key < 0) ∧ (∀ c ∈ L.drop k, 0 ≤ Lib.compareBytes c.key L[k].key)
  | _, d :: r, 0, hk, h => by
    unfold mayC at h
    simp only [Bool.and_eq_true] at h
    refine ⟨fun c hc => by simp at hc, fun c hc => ?_⟩
    simp only [List.drop_zero, List.getElem_cons_zero] at hc ⊢
    rcases List.mem_cons.1 hc with rfl | hc
    · rw [cmp_refl]; exact Int.le_refl _
    · have := mayC_above h.2 (.inr rfl) c hc
      rw [cmp_neg] at this
      omega
  | _, d :: r, k + 1, hk, h => by
    unfold mayC at h
    simp only [Bool.and_eq_true] at h
    have hk' : k < r.length := by simpa using hk
    obtain ⟨i1, i2⟩ := apartC hk' h.2
    refine ⟨fun c hc => ?_, fun c hc => ?_⟩
    · rw [List.take_succ_cons] at hc
      simp only [List.getElem_cons_succ]
      rcases List.mem_cons.1 hc with rfl | hc
      · exact mayC_above h.2 (.inr rfl) _ (List.getElem_mem hk')
      · exact i1 c hc
    · rw [List.drop_succ_cons] at hc
      exact i2 c hc
theorem apartK : ∀ {l : List UInt8} {L : List (List UInt8)} {k : Nat} (hk : k < L.length), mayK l L = true → (∀ c ∈ L.take k, Lib.compareBytes c L[k] < 0) ∧ (∀ c ∈ L.drop (k + 1), 0 < Lib.compareBytes c L[k])
  | _, d :: r, 0, hk, h => by
    unfold mayK at h
    simp only [Bool.and_eq_true] at h
    refine ⟨fun c hc => by simp at hc, fun c hc => ?_⟩
    simp only [List.drop_succ_cons, List.drop_zero, List.getElem_cons_zero] at hc ⊢
    have := mayK_above h.2 (.inr rfl) c hc
    rw [cmp_neg] at this
    omega
  | _, d :: r, k + 1, hk, h => by
    unfold mayK at h
    simp only [Bool.and_eq_true] at h
    have hk' : k < r.length := by simpa using hk
    obtain ⟨i1, i2⟩ := apartK hk' h.2
    refine ⟨fun c hc => ?_, fun c hc => ?_⟩
    · rw [List.take_succ_cons] at hc
      simp only [List.getElem_cons_succ]
      rcases List.mem_cons.1 hc with rfl | hc
      · exact mayK_above h.2 (.inr rfl) _ (List.getElem_mem hk')
      · exact i1 c hc
    · rw [List.drop_succ_cons] at hc
      exact i2 c hc
theorem may_leaf {n : Nd} (hL : n.leaf = true) (h : may n = true) : n.keys = [] ∧ n.kids = [] ∧ mayC [] n.cells = true := by
  unfold may at h
  rw [hL, if_pos rfl] at h
  unfold leafOk at h
  simp only [Bool.and_eq_true, List.isEmpty_iff] at h
  exact ⟨h.1.1, h.1.2, h.2⟩
theorem may_inner {n : Nd} (hL : n.leaf = false) (h : may n = true) : n.cells = [] ∧ n.kids.length = n.keys.length + 1 ∧ mayK [] n.keys = true ∧ n.kids.all pageOk = true := by
  unfold may at h
  rw [hL, if_neg (by decide)] at h
  unfold innerOk at h
  simp only [Bool.and_eq_true, List.isEmpty_iff, decide_eq_true_eq] at h
  exact ⟨h.1.1.1, h.1.1.2, h.1.2, h.2⟩
theorem mayC_each : ∀ {l : List UInt8} {L : List C}, mayC l L = true → ∀ c ∈ L, 1 ≤ c.key.length ∧ c.key.length ≤ 96 ∧ valOk c = true
  | _, [], _, c, hc => by cases hc
  | l, d :: r, h, c, hc => by
    unfold mayC at h
    simp only [Bool.and_eq_true] at h
    rcases List.mem_cons.1 hc with rfl | hc
    · have h1 := h.1.1
      unfold fol at h1
      simp only [Bool.and_eq_true, decide_eq_true_eq] at h1
      exact ⟨h1.1.1, h1.1.2, h.1.2⟩
    · exact mayC_each h.2 c hc
theorem mayK_each : ∀ {l : List UInt8} {L : List (List UInt8)}, mayK l L = true → ∀ c ∈ L, 1 ≤ c.length ∧ c.length ≤ 96
  | _, [], _, c, hc => by cases hc
  | l, d :: r, h, c, hc => by
    unfold mayK at h
    simp only [Bool.and_eq_true] at h
    rcases List.mem_cons.1 hc with rfl | hc
    · have h1 := h.1
      unfold fol at h1
      simp only [Bool.and_eq_true, decide_eq_true_eq] at h1
      exact ⟨h1.1.1, h1.1.2⟩
    · exact mayK_each h.2 c hc
theorem cellF_le {c : C} (h1 : c.key.length ≤ 96) (h2 : valOk c = true) : (cellF c).length ≤ 200 := by
  unfold cellF valF keyF
  have := vnt_le c.key.length
  have := vnt_le c.val.length
  have := nI_le c.len
  have := nI_le c.over
  rw [List.length_append, List.length_append]
  split
  · rename_i h0
    unfold valOk at h2
    rw [if_pos h0] at h2
    simp only [Bool.and_eq_true, decide_eq_true_eq] at h2
    rw [List.length_cons, List.length_append]
    omega
  · rw [List.length_cons, List.length_append]
    omega
/-- What the halves are, of a node that may be and is parted. -/
theorem halves_may {n : Nd} (h : may n = true) (ht : (form n).length ≤ 4611686018427387904) (hP : (n.leaf = true ∧ 1 < n.cells.length) ∨ (n.leaf = false ∧ 0 < n.keys.length)) :
    may (spl n).1 = true ∧ may (spl n).2.2 = true ∧ (spl n).1.leaf = n.leaf ∧ (spl n).2.2.leaf = n.leaf ∧ (spl n).1.cells ++ (spl n).2.2.cells = n.cells ∧ (spl n).1.kids ++ (spl n).2.2.kids = n.kids ∧
      (n.leaf = true → (spl n).1.keys ++ (spl n).2.2.keys = n.keys) ∧ (n.leaf = false → (spl n).1.keys ++ ([(spl n).2.1] ++ (spl n).2.2.keys) = n.keys) ∧ 1 ≤ (spl n).2.1.length ∧
      (∀ c ∈ (spl n).1.cells, Lib.compareBytes c.key (spl n).2.1 < 0) ∧ (∀ x ∈ (spl n).1.keys, Lib.compareBytes x (spl n).2.1 < 0) ∧ (∀ c ∈ (spl n).2.2.cells, 0 ≤ Lib.compareBytes c.key (spl n).2.1) ∧ (∀ x ∈ (spl n).2.2.keys, 0 < Lib.compareBytes x (spl n).2.1) ∧
      ((form (nearN n)).length ≤ 448 → (form (spl n).1).length ≤ 448 ∧ (form (spl n).2.2).length ≤ 448) := by
  rcases hP with ⟨hL, h2⟩ | ⟨hL, h2⟩
  · obtain ⟨m1, m2, m3⟩ := may_leaf hL h
    obtain ⟨q1, q2, q3, -⟩ := atL_is hL h2 ht
    have hs : spl n = (⟨true, n.cells.take (atL n.cells), [], []⟩, (n.cells[atL n.cells]).key, ⟨true, n.cells.drop (atL n.cells), [], []⟩) := by
      unfold spl
      rw [if_pos ⟨hL, h2⟩, List.getElem?_eq_getElem q2]
      rfl
    obtain ⟨a1, a2⟩ := apartC q2 m3
    rw [hs]
    refine ⟨?_, ?_, hL.symm, hL.symm, List.take_append_drop _ _, by rw [m2]; rfl, fun _ => by rw [m1]; rfl, fun e => (by rw [hL] at e; cases e), (mayC_each m3 _ (List.getElem_mem q2)).1, a1, fun x hx => (by cases hx), a2, fun x hx => (by cases hx), fun hn => ?_⟩
    · unfold may
      simp only [if_true]
      unfold leafOk
      simp only [List.isEmpty_nil, Bool.true_and]
      exact mayC_take _ m3
    · unfold may
      simp only [if_true]
      unfold leafOk
      simp only [List.isEmpty_nil, Bool.true_and]
      exact mayC_drop _ m3
    · have hq := q3 (n.cells.length - 1) (by omega) (by omega)
      have e1 : (form ⟨true, n.cells.take (atL n.cells), [], []⟩).length = lF n.cells (atL n.cells) := by
        rw [form_leaf rfl]
        unfold lF
        simp only [List.length_take, Nat.min_eq_left (Nat.le_of_lt q2)]
        omega
      have e2 : (form ⟨true, n.cells.drop (atL n.cells), [], []⟩).length = lS n.cells (atL n.cells) := by
        rw [form_leaf rfl]
        unfold lS
        simp only [List.length_drop]
        omega
      have e3 : (form (nearN n)).length = lF n.cells (n.cells.length - 1) := by
        unfold nearN
        rw [if_pos hL, form_leaf rfl]
        unfold lF
        simp only [List.length_take, Nat.min_eq_left (Nat.sub_le _ _)]
        omega
      have e4 : lS n.cells (n.cells.length - 1) ≤ 448 := by
        unfold lS
        have hd : n.cells.drop (n.cells.length - 1) = [n.cells[n.cells.length - 1]'(by omega)] := by
          rw [List.drop_eq_getElem_cons (by omega), List.drop_of_length_le (by omega)]
        have hm := mayC_each m3 _ (List.getElem_mem (show n.cells.length - 1 < n.cells.length by omega))
        have := cellF_le hm.2.1 hm.2.2
        have := vnt_le (n.cells.length - (n.cells.length - 1))
        rw [hd]
        simp only [List.flatMap_cons, List.flatMap_nil, List.append_nil]
        omega
      simp only
      rw [e1, e2]
      omega
  · obtain ⟨m1, m2, m3, m4⟩ := may_inner hL h
    obtain ⟨q2, q3, -⟩ := atI_is hL h2 ht
    have hs : spl n = (⟨false, [], n.keys.take (atI n.keys n.kids), n.kids.take (atI n.keys n.kids + 1)⟩, n.keys[atI n.keys n.kids], ⟨false, [], n.keys.drop (atI n.keys n.kids + 1), n.kids.drop (atI n.keys n.kids + 1)⟩) := by
      unfold spl
      rw [if_neg (by rw [hL]; simp), if_pos ⟨hL, h2, by omega⟩, List.getElem?_eq_getElem q2]
      rfl
    obtain ⟨a1, a2⟩ := apartK q2 m3
    have hall := List.all_eq_true.1 m4
    rw [hs]
    refine ⟨?_, ?_, hL.symm, hL.symm, by rw [m1]; rfl, List.take_append_drop _ _, fun e => (by rw [hL] at e; cases e), fun _ => ?_, (mayK_each m3 _ (List.getElem_mem q2)).1, fun x hx => (by cases hx), a1, fun x hx => (by cases hx), a2, fun hn => ?_⟩
    · unfold may
      simp only [Bool.false_eq_true, if_false]
      unfold innerOk
      simp only [List.isEmpty_nil, Bool.true_and, Bool.and_eq_true, decide_eq_true_eq, List.length_take]
      exact ⟨⟨by omega, mayK_take _ m3⟩, List.all_eq_true.2 fun x hx => hall x (List.mem_of_mem_take hx)⟩
    · unfold may
      simp only [Bool.false_eq_true, if_false]
      unfold innerOk
      simp only [List.isEmpty_nil, Bool.true_and, Bool.and_eq_true, decide_eq_true_eq, List.length_drop]
      exact ⟨⟨by omega, mayK_drop _ m3⟩, List.all_eq_true.2 fun x hx => hall x (List.mem_of_mem_drop hx)⟩
    · simp only [List.singleton_append]
      rw [← List.drop_eq_getElem_cons q2, List.take_append_drop]
    · have hq := q3 (n.keys.length - 1) (by omega)
      have e1 : (form ⟨false, [], n.keys.take (atI n.keys n.kids), n.kids.take (atI n.keys n.kids + 1)⟩).length = iF n.keys n.kids (atI n.keys n.kids) := by
        rw [form_inner rfl]
        unfold iF
        simp only [List.length_take, Nat.min_eq_left (Nat.le_of_lt q2)]
        omega
      have e2 : (form ⟨false, [], n.keys.drop (atI n.keys n.kids + 1), n.kids.drop (atI n.keys n.kids + 1)⟩).length = iS n.keys n.kids (atI n.keys n.kids) := by
        rw [form_inner rfl]
        unfold iS
        simp only [List.length_drop]
        rw [show n.keys.length - (atI n.keys n.kids + 1) = n.keys.length - atI n.keys n.kids - 1 by omega]
        omega
      have e3 : (form (nearN n)).length = iF n.keys n.kids (n.keys.length - 1) := by
        unfold nearN
        rw [if_neg (by rw [hL]; decide), if_pos h2, form_inner rfl]
        unfold iF
        simp only [List.length_take, Nat.min_eq_left (Nat.sub_le _ _)]
        rw [show n.kids.length - 1 = n.keys.length - 1 + 1 by omega]
        omega
      have e4 : iS n.keys n.kids (n.keys.length - 1) ≤ 448 := by
        unfold iS
        have hd : n.kids.drop (n.keys.length - 1 + 1) = [n.kids[n.keys.length]'(by omega)] := by
          rw [show n.keys.length - 1 + 1 = n.keys.length by omega, List.drop_eq_getElem_cons (by omega), List.drop_of_length_le (by omega)]
        have := nI_le (n.kids[n.keys.length]'(by omega))
        have := vnt_le (n.keys.length - (n.keys.length - 1) - 1)
        rw [hd, List.drop_of_length_le (show n.keys.length ≤ n.keys.length - 1 + 1 by omega)]
        simp only [List.flatMap_cons, List.flatMap_nil, List.append_nil, List.length_nil]
        omega
      simp only
      rw [e1, e2]
      omega
end Go.Proofs.Ytbkpgppaahpalaa
