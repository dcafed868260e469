/-
  What is inserted is found, all else stays; removed, it is what it was: as mathematics. No walk.
-/
import Derived.Test.YtbkpgppaahpalaaRmv
namespace Go.Proofs.Ytbkpgppaahpalaa
set_option linter.unusedVariables false      -- a walk need not use every condition

theorem cmp_refl : ∀ a : List UInt8, Lib.compareBytes a a = 0
  | [] => rfl
  | x :: a => by
    unfold Lib.compareBytes
    rw [if_neg (by rw [UInt8.lt_iff_toNat_lt]; omega), if_neg (by rw [UInt8.lt_iff_toNat_lt]; omega)]
    exact cmp_refl a
theorem cmp_eq : ∀ {a b : List UInt8}, Lib.compareBytes a b = 0 → a = b
  | [], [], _ => rfl
  | [], _ :: _, h => by simp [Lib.compareBytes] at h
  | _ :: _, [], h => by simp [Lib.compareBytes] at h
  | x :: a, y :: b, h => by
    unfold Lib.compareBytes at h
    split at h
    · cases h
    · split at h
      · cases h
      · rename_i h1 h2
        rw [UInt8.lt_iff_toNat_lt] at h1 h2
        have : x = y := UInt8.toNat_inj.1 (by omega)
        rw [this, cmp_eq h]
theorem cmp_neg : ∀ (a b : List UInt8), Lib.compareBytes a b = - Lib.compareBytes b a
  | [], [] => by simp [Lib.compareBytes]
  | [], _ :: _ => by simp [Lib.compareBytes]
  | _ :: _, [] => by simp [Lib.compareBytes]
  | x :: a, y :: b => by
    have ih := cmp_neg a b
    unfold Lib.compareBytes
    by_cases h1 : x < y
    · have h2 : ¬ y < x := by rw [UInt8.lt_iff_toNat_lt] at *; omega
      simp [h1, h2]
    · by_cases h2 : y < x
      · simp [h1, h2]
      · simp only [h1, h2, if_false]
        exact ih
theorem cmp_trans : ∀ {a b c : List UInt8}, Lib.compareBytes a b < 0 → Lib.compareBytes b c < 0 → Lib.compareBytes a c < 0
  | [], _, [], h1, h2 => by
    rename_i b
    cases b with
    | nil => simp [Lib.compareBytes] at h1
    | cons y b => simp [Lib.compareBytes] at h2
  | [], _, _ :: _, _, _ => by simp [Lib.compareBytes]
  | x :: a, [], _, h1, _ => by simp [Lib.compareBytes] at h1
  | x :: a, y :: b, [], _, h2 => by simp [Lib.compareBytes] at h2
  | x :: a, y :: b, z :: c, h1, h2 => by
    unfold Lib.compareBytes at h1 h2 ⊢
    by_cases xy : x < y
    · by_cases yz : y < z
      · have xz : x < z := by rw [UInt8.lt_iff_toNat_lt] at *; omega
        simp [xz]
      · by_cases zy : z < y
        · simp [yz, zy] at h2
        · have : y = z := by rw [UInt8.lt_iff_toNat_lt] at *; exact UInt8.toNat_inj.1 (by omega)
          subst this
          simp [xy]
    · by_cases yx : y < x
      · simp [xy, yx] at h1
      · have e : x = y := by rw [UInt8.lt_iff_toNat_lt] at *; exact UInt8.toNat_inj.1 (by omega)
        subst e
        simp only [xy, if_false] at h1
        by_cases yz : x < z
        · simp [yz]
        · by_cases zy : z < x
          · simp [yz, zy] at h2
          · simp only [yz, zy, if_false] at h2 ⊢
            exact cmp_trans h1 h2
def keyOk' (c : C) : Bool := decide (1 ≤ c.key.length) && decide (c.key.length ≤ 96)
/-- Insert, cell by cell. -/
def insR (c : C) : List C → List C
  | [] => [c]
  | d :: r => if 0 ≤ Lib.compareBytes d.key c.key then (if Lib.compareBytes d.key c.key = 0 then c :: r else c :: d :: r) else d :: insR c r
theorem insC_eq (c : C) : ∀ L : List C, insC c L = insR c L
  | [] => by simp [insC, fndB, fnd, insR]
  | d :: r => by
    have ih := insC_eq c r
    unfold insC at ih ⊢
    unfold fndB fnd insR
    by_cases h : 0 ≤ Lib.compareBytes d.key c.key
    · simp only [h, if_true]
      by_cases h0 : Lib.compareBytes d.key c.key = 0
      · simp [h0]
      · simp [h0]
    · simp only [h, if_false]
      rw [← ih]
      split <;> simp
/-- Keys that rise from a key on are not that key. -/
theorem mayC_above : ∀ {l : List UInt8} {L : List C} {k : List UInt8}, mayC l L = true → (Lib.compareBytes k l < 0 ∨ k = l) → ∀ d ∈ L, Lib.compareBytes k d.key < 0
  | _, [], _, _, _, d, hd => by cases hd
  | l, c :: r, k, h, hk, d, hd => by
    unfold mayC at h
    simp only [Bool.and_eq_true] at h
    obtain ⟨⟨h1, -⟩, h3⟩ := h
    unfold fol at h1
    simp only [Bool.and_eq_true, decide_eq_true_eq] at h1
    have hc : Lib.compareBytes k c.key < 0 := by
      rcases hk with hk | rfl
      · exact cmp_trans hk h1.2
      · exact h1.2
    rcases List.mem_cons.1 hd with rfl | hd
    · exact hc
    · exact mayC_above h3 (.inl hc) d hd
theorem idx_none {key : List UInt8} : ∀ {L : List C}, (∀ d ∈ L, Lib.compareBytes key d.key < 0) → idxK key L = -1
  | [], _ => rfl
  | d :: r, h => by
    have hd := h d (by simp)
    have ih := idx_none (L := r) fun e he => h e (by simp [he])
    unfold idxK
    have : (d.key == key) = false := by
      simp only [beq_eq_false_iff_ne]
      intro e
      rw [e, cmp_refl] at hd
      omega
    rw [this, ih]
    simp
theorem place_find (c : C) : ∀ L : List C, fnd c.key (insR c L) = fnd c.key L ∧ fndB c.key (insR c L) = true
  | [] => by simp [insR, fnd, fndB, cmp_refl]
  | d :: r => by
    obtain ⟨i1, i2⟩ := place_find c r
    unfold insR
    by_cases h : 0 ≤ Lib.compareBytes d.key c.key
    · by_cases h0 : Lib.compareBytes d.key c.key = 0
      · simp [h0, fnd, fndB, cmp_refl]
      · simp [h, h0, fnd, fndB, cmp_refl]
    · simp [h, fnd, fndB, i1, i2]
theorem place_is (c : C) : ∀ L : List C, (insR c L)[fnd c.key L]? = some c
  | [] => by simp [insR, fnd]
  | d :: r => by
    have ih := place_is c r
    unfold insR fnd
    by_cases h : 0 ≤ Lib.compareBytes d.key c.key
    · by_cases h0 : Lib.compareBytes d.key c.key = 0
      · simp [h0]
      · simp [h, h0]
    · simp [h, ih]
theorem place_len (c : C) : ∀ L : List C, (insR c L).length = L.length + (if fndB c.key L then 0 else 1)
  | [] => by simp [insR, fndB]
  | d :: r => by
    have ih := place_len c r
    unfold insR fndB
    by_cases h : 0 ≤ Lib.compareBytes d.key c.key
    · by_cases h0 : Lib.compareBytes d.key c.key = 0
      · simp [h0]
      · simp [h, h0]
    · simp only [h, if_false, List.length_cons, ih]
      omega
theorem place_may (c : C) (hk : keyOk' c = true) (hv : valOk c = true) : ∀ {l : List UInt8} {L : List C}, mayC l L = true → Lib.compareBytes l c.key < 0 → mayC l (insR c L) = true
  | l, [], _, hl => by
    unfold insR mayC fol
    unfold keyOk' at hk
    simp only [Bool.and_eq_true, decide_eq_true_eq] at hk ⊢
    exact ⟨⟨⟨hk, hl⟩, hv⟩, rfl⟩
  | l, d :: r, h, hl => by
    have h' := h
    unfold mayC at h
    simp only [Bool.and_eq_true] at h
    obtain ⟨⟨h1, h2⟩, h3⟩ := h
    unfold keyOk' at hk
    simp only [Bool.and_eq_true, decide_eq_true_eq] at hk
    unfold insR
    by_cases hc : 0 ≤ Lib.compareBytes d.key c.key
    · by_cases h0 : Lib.compareBytes d.key c.key = 0
      · have e := cmp_eq h0
        simp only [h0, Int.le_refl, if_true]
        unfold mayC fol
        simp only [Bool.and_eq_true, decide_eq_true_eq]
        exact ⟨⟨⟨hk, hl⟩, hv⟩, by rw [← e]; exact h3⟩
      · simp only [hc, h0, if_true, if_false]
        have hcd : Lib.compareBytes c.key d.key < 0 := by rw [cmp_neg]; omega
        unfold fol at h1
        simp only [Bool.and_eq_true, decide_eq_true_eq] at h1
        unfold mayC fol
        simp only [Bool.and_eq_true, decide_eq_true_eq]
        refine ⟨⟨⟨hk, hl⟩, hv⟩, ?_⟩
        unfold mayC fol
        simp only [Bool.and_eq_true, decide_eq_true_eq]
        exact ⟨⟨⟨h1.1, hcd⟩, h2⟩, h3⟩
    · simp only [hc, if_false]
      unfold mayC
      simp only [Bool.and_eq_true]
      exact ⟨⟨h1, h2⟩, place_may c (by unfold keyOk'; simp only [Bool.and_eq_true, decide_eq_true_eq]; exact hk) hv h3 (by omega)⟩
/-- The first cell of a key taken out, cell by cell. -/
def rmR (key : List UInt8) : List C → List C
  | [] => []
  | d :: r => if d.key == key then r else d :: rmR key r
theorem rmC_eq (key : List UInt8) : ∀ L : List C, rmC key L = rmR key L
  | [] => by simp [rmC, idxK, rmR]
  | d :: r => by
    have ih := rmC_eq key r
    have hge := idxK_ge key r
    unfold rmC at ih ⊢
    unfold idxK rmR
    cases he : (d.key == key) with
    | true => simp
    | false =>
      simp only [Bool.false_eq_true, if_false]
      by_cases h1 : idxK key r = -1
      · rw [if_pos h1]
        rw [h1] at ih
        simp only [show (-1 : Int) < 0 by decide, if_true] at ih ⊢
        rw [← ih]
      · rw [if_neg h1, if_neg (by omega)]
        rw [if_neg (by omega)] at ih
        obtain ⟨k, hk⟩ := Int.eq_ofNat_of_zero_le (show 0 ≤ idxK key r by omega)
        rw [hk] at ih ⊢
        rw [show ((k : Int) + 1).toNat = k + 1 by omega]
        rw [Int.toNat_natCast] at ih
        simp only [List.take_succ_cons, List.drop_succ_cons, List.cons_append]
        rw [ih]
theorem place_back (c : C) : ∀ {l : List UInt8} {L : List C}, mayC l L = true → rmR c.key (insR c L) = rmR c.key L ∧ (fndB c.key L = false → rmR c.key L = L) ∧ decide (0 ≤ idxK c.key L) = fndB c.key L ∧ decide (0 ≤ idxK c.key (insR c L)) = true
  | _, [], _ => by simp [insR, rmR, idxK, fndB]
  | l, d :: r, h => by
    unfold mayC at h
    simp only [Bool.and_eq_true] at h
    obtain ⟨⟨h1, h2⟩, h3⟩ := h
    obtain ⟨i1, i2, i3, i4⟩ := place_back c h3
    have hge := idxK_ge c.key r
    have hge2 := idxK_ge c.key (insR c r)
    by_cases hc : 0 ≤ Lib.compareBytes d.key c.key
    · by_cases h0 : Lib.compareBytes d.key c.key = 0
      · have e := cmp_eq h0
        simp [insR, rmR, fndB, idxK, e, cmp_refl]
      · have hne : (d.key == c.key) = false := by
          simp only [beq_eq_false_iff_ne]
          intro e
          rw [e, cmp_refl] at h0
          exact h0 rfl
        have hcd : Lib.compareBytes c.key d.key < 0 := by rw [cmp_neg]; omega
        have hn := idx_none (key := c.key) (L := r) (mayC_above h3 (.inl hcd))
        have hrm : rmR c.key r = r := by
          rw [← rmC_eq]
          unfold rmC
          rw [hn]
          simp
        refine ⟨?_, ?_, ?_, ?_⟩
        · simp [insR, rmR, hc, h0, hne, hrm]
        · intro _
          simp [rmR, hne, hrm]
        · simp [idxK, hne, hn, fndB, hc, h0]
        · simp [insR, hc, h0, idxK]
    · have hne : (d.key == c.key) = false := by
        simp only [beq_eq_false_iff_ne]
        intro e
        rw [e, cmp_refl] at hc
        exact hc (by omega)
      simp only [decide_eq_true_eq] at i4
      refine ⟨?_, ?_, ?_, ?_⟩
      · simp [insR, rmR, hc, hne, i1]
      · intro hf
        simp only [fndB, hc, if_false] at hf
        simp [rmR, hne, i2 hf]
      · simp only [idxK, hne, Bool.false_eq_true, if_false, fndB, hc]
        rw [← i3]
        by_cases hx : idxK c.key r = -1
        · simp [hx]
        · rw [if_neg hx]
          have : (0 ≤ idxK c.key r + 1) ↔ (0 ≤ idxK c.key r) := by omega
          simp [this]
      · simp only [insR, hc, if_false, idxK, hne, Bool.false_eq_true, decide_eq_true_eq]
        rw [if_neg (by omega)]
        omega
end Go.Proofs.Ytbkpgppaahpalaa
