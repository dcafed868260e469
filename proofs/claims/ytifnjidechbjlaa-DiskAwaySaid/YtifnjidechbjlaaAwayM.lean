/-
  What a call of a disk with a fuse comes to: as mathematics, and of Flush and Write.
-/
import Derived.Test.YtifnjidechbjlaaBegun
namespace Go.Proofs.Ytifnjidechbjlaa
open Go.RowKit Go.Maps

/-- A disk of eight sectors whose fuse was F at first. -/
def Inv (F : Int) (s : Dsk) : Prop :=
  s.N = 8 ∧ ((F = 0 ∧ s.down = false ∧ s.fuse = 0) ∨ (0 < F ∧ s.down = false ∧ 1 ≤ s.fuse ∧ s.fuse ≤ F ∧ s.calls = F - s.fuse) ∨ (0 < F ∧ s.down = true ∧ s.calls = F - 1))
/-- What comes of a call. -/
def Res (F : Int) (s : Dsk) (E : Int) (s' : Dsk) : Prop :=
  Inv F s' ∧ ((s.down = true ∧ E = 9 ∧ s'.down = true ∧ s'.calls = s.calls) ∨ (s.down = false ∧ E = 9 ∧ s'.down = true ∧ s'.calls = s.calls ∧ 0 < F ∧ s.calls = F - 1) ∨ (s.down = false ∧ E = 0 ∧ s'.down = false ∧ s'.calls = wrap64 (s.calls + 1)))
/-- Two disks that part in no more than their sectors. -/
def Core (s s' : Dsk) : Prop := s'.N = s.N ∧ s'.down = s.down ∧ s'.fuse = s.fuse ∧ s'.calls = s.calls
theorem Inv.core {F : Int} {s s' : Dsk} (h : Inv F s) (c : Core s s') : Inv F s' := by
  obtain ⟨c1, c2, c3, c4⟩ := c
  unfold Inv at *
  rw [c1, c2, c3, c4]
  exact h
theorem res_of {F : Int} (hF : F ≤ 255) {s s' : Dsk} (h : Inv F s) (E : Int) (hE : E = if s.down then 9 else s.call.1) (hc : Core (if s.down then s else s.call.2) s') : Res F s E s' := by
  obtain ⟨hN, hs⟩ := h
  cases hd : s.down with
  | true =>
    rw [hd] at hE hc
    simp only [if_true] at hE hc
    refine ⟨Inv.core ⟨hN, hs⟩ hc, .inl ⟨hd, hE, hc.2.1.trans hd, hc.2.2.2⟩⟩
  | false =>
    rw [hd] at hE hc
    simp only [Bool.false_eq_true, if_false] at hE hc
    have hs2 : (F = 0 ∧ s.fuse = 0) ∨ (0 < F ∧ 1 ≤ s.fuse ∧ s.fuse ≤ F ∧ s.calls = F - s.fuse) := by
      rcases hs with ⟨h1, h2, h3⟩ | ⟨h1, h2, h3⟩ | ⟨h1, h2, h3⟩
      · exact .inl ⟨h1, h3⟩
      · exact .inr ⟨h1, h3⟩
      · rw [hd] at h2; cases h2
    obtain ⟨c1, c2, c3, c4⟩ := hc
    by_cases h1 : s.fuse = 1
    · have e : s.call = (9, { s with fuse := 0, down := true }) := by unfold Dsk.call; rw [if_pos h1]
      rw [e] at hE c1 c2 c3 c4
      have hF0 : 0 < F ∧ s.calls = F - 1 := by
        rcases hs2 with ⟨-, h⟩ | ⟨h, -, -, h'⟩
        · omega
        · exact ⟨h, by omega⟩
      exact ⟨⟨c1.trans hN, .inr (.inr ⟨hF0.1, c2, c4.trans hF0.2⟩)⟩, .inr (.inl ⟨hd, hE, c2, c4, hF0.1, hF0.2⟩)⟩
    · by_cases h2 : 0 < s.fuse
      · have e : s.call = (0, { s with fuse := s.fuse - 1, calls := wrap64 (s.calls + 1) }) := by unfold Dsk.call; rw [if_neg h1, if_pos h2]
        rw [e] at hE c1 c2 c3 c4
        simp only at hE c1 c2 c3 c4
        have hq : 0 < F ∧ 1 ≤ s.fuse ∧ s.fuse ≤ F ∧ s.calls = F - s.fuse := by
          rcases hs2 with ⟨-, h⟩ | h
          · omega
          · exact h
        have hw : wrap64 (s.calls + 1) = s.calls + 1 := by unfold wrap64; omega
        refine ⟨⟨c1.trans hN, .inr (.inl ⟨hq.1, c2.trans hd, by omega, by omega, ?_⟩)⟩, .inr (.inr ⟨hd, hE, c2.trans hd, c4⟩)⟩
        rw [c4, c3, hw]; omega
      · have e : s.call = (0, { s with calls := wrap64 (s.calls + 1) }) := by unfold Dsk.call; rw [if_neg h1, if_neg h2]
        rw [e] at hE c1 c2 c3 c4
        simp only at hE c1 c2 c3 c4
        have hq : F = 0 ∧ s.fuse = 0 := by
          rcases hs2 with h | ⟨-, h, -⟩
          · exact h
          · omega
        exact ⟨⟨c1.trans hN, .inl ⟨hq.1, c2.trans hd, c3.trans hq.2⟩⟩, .inr (.inr ⟨hd, hE, c2.trans hd, c4⟩)⟩
theorem call_N (s : Dsk) : s.call.2.N = s.N := by unfold Dsk.call; split; rfl; split <;> rfl
theorem flush_res {F : Int} (hF : F ≤ 255) {s : Dsk} (h : Inv F s) : Res F s s.flush.1 s.flush.2 := by
  refine res_of hF h _ ?_ ?_
  · unfold Dsk.flush
    cases s.down
    · simp only [Bool.false_eq_true, if_false]
      by_cases hc : s.call.1 = 0
      · rw [if_neg (fun e => e hc), hc]
      · rw [if_pos hc]
    · rfl
  · unfold Dsk.flush
    cases s.down
    · simp only [Bool.false_eq_true, if_false]
      by_cases hc : s.call.1 = 0
      · rw [if_neg (fun e => e hc)]; exact ⟨rfl, rfl, rfl, rfl⟩
      · rw [if_pos hc]; exact ⟨rfl, rfl, rfl, rfl⟩
    · exact ⟨rfl, rfl, rfl, rfl⟩
theorem write_res {F : Int} (hF : F ≤ 255) {s : Dsk} (h : Inv F s) {n : Int} (h0 : 0 ≤ n) (h8 : n < 8) (bs : List UInt8) : Res F s (s.write n bs).1 (s.write n bs).2 := by
  have hb : s.hasB n = true := by unfold Dsk.hasB; rw [h.1]; simp [h0, h8]
  refine res_of hF h _ ?_ ?_
  · unfold Dsk.write Dsk.reach
    cases s.down
    · simp only [Bool.false_eq_true, if_false, hb, if_true, ne_eq, not_true_eq_false]
      by_cases hc : s.call.1 = 0
      · rw [if_neg (fun e => e hc), hc]
      · rw [if_pos hc]
    · simp
  · unfold Dsk.write Dsk.reach
    cases s.down
    · simp only [Bool.false_eq_true, if_false, hb, if_true, ne_eq, not_true_eq_false]
      by_cases hc : s.call.1 = 0
      · rw [if_neg (fun e => e hc)]; exact ⟨rfl, rfl, rfl, rfl⟩
      · rw [if_pos hc]; exact ⟨rfl, rfl, rfl, rfl⟩
    · simp only [if_true]; exact ⟨rfl, rfl, rfl, rfl⟩
theorem inv_start {F : Int} (h0 : 0 ≤ F) : Inv F ((made 8).setFuse F).2 ∧ ((made 8).setFuse F).1 = 0 := by
  have e : (made 8).setFuse F = (0, { made 8 with fuse := F }) := by
    unfold Dsk.setFuse
    rw [if_neg (by simp [made]), if_neg (by omega)]
  rw [e]
  refine ⟨⟨rfl, ?_⟩, rfl⟩
  by_cases h : F = 0
  · exact .inl ⟨h, rfl, h⟩
  · exact .inr (.inl ⟨by omega, rfl, by show 1 ≤ F; omega, Int.le_refl _, by simp [made]⟩)
end Go.Proofs.Ytifnjidechbjlaa
