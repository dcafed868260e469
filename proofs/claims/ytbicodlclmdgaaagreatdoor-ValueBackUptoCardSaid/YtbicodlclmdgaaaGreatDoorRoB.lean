/-
  The reader of package value, open or not, and whatever is wrong: words.
-/
import Derived.Test.YtbicodlclmdgaaaGreatDoorRo
namespace Go.Proofs.YtbicodlclmdgaaaGreatDoor
open Go.RowKit
set_option linter.unusedVariables false      -- a walk need not use every condition

theorem drop_cons (s : ByteArray) {j : Nat} (hj : j < s.size) : s.data.toList.drop j = s[j] :: s.data.toList.drop (j + 1) := by
  rw [List.drop_eq_getElem_cons (by simpa using hj)]; rfl
theorem strip_more {s T : ByteArray} {j q : Nat} (hj : j < s.size) (hq : q < T.size) (he : T[q] = s[j]) : strip (s.data.toList.drop j) (rest T q) = strip (s.data.toList.drop (j + 1)) (rest T (q + 1)) := by
  rw [drop_cons s hj, rest_cons hq, he]; simp only [strip, if_true]
theorem strip_other {s T : ByteArray} {j q : Nat} (hj : j < s.size) (hq : q < T.size) (he : T[q] ≠ s[j]) : strip (s.data.toList.drop j) (rest T q) = none := by
  rw [drop_cons s hj, rest_cons hq]; simp only [strip]; rw [if_neg (fun e => he e.symm)]
theorem strip_end {s T : ByteArray} {j q : Nat} (hj : j < s.size) (hq : q = T.size) : strip (s.data.toList.drop j) (rest T q) = none := by
  rw [drop_cons s hj, rest_nil hq]; rfl
theorem strip_done {s : ByteArray} {x : List UInt8} : strip (s.data.toList.drop s.size) x = some x := by
  rw [List.drop_of_length_le (by simp)]; rfl

/-- What a method of the reader comes to: an answer, or that it was given up; and what that means where the text is not open. -/
def Comes {α : Type} (r : Nat) (T : ByteArray) (o : Bool) (w : World) (spec : Option (α × List UInt8)) (Q : α → Nat → Ending → World → Prop) (e : Ending) (w' : World) : Prop :=
  (∃ (a : α) (p' : Nat), p' ≤ T.size ∧ Q a p' e w' ∧ Hid (o = false → spec = some (a, rest T p'))) ∨ (Fails r T w e w' ∧ Hid (o = false → spec = none))

set_option maxHeartbeats 2000000 in
theorem word99o (w : World) (r : Nat) (T s : ByteArray) (p : Nat) (o : Bool) (k : Nat) (h : Ro w r T p o k) (hp : p ≤ T.size) (hT : T.size ≤ maxLen) :
    Calls Tryz.prog 99 #[.pointer (some ⟨r, 0, none⟩), .string s] w
      (Comes r T o w ((strip s.data.toList (rest T p)).map fun x => ((), x)) fun _ p' e w' => e = .returned (.tuple #[]) ∧ p ≤ p' ∧ (0 < s.size → p < T.size → p < p') ∧ Rq r T p' o k w w') := by
  unfold maxLen at hT
  go_enter Tryz.func99, Tryz.ntmps99
  go_wp2
  go_loopg [7] s.size (fun c i wr => ∃ j : Nat, c + j = s.size ∧ i = .int .i64 j ∧ Hid (p + j ≤ T.size) ∧ Hid (Rq r T (p + j) o k w wr) ∧ Hid (strip s.data.toList (rest T p) = strip (s.data.toList.drop j) (rest T (p + j))))
  case atStart => exact ⟨0, rfl, rfl, hp, Rq.refl h, rfl⟩
  case round =>
    obtain ⟨j, hj, rfl, hle, hR, hst⟩ := hrel
    obtain ⟨q, hq⟩ : ∃ q, Hid (q = p + j) := ⟨_, rfl⟩
    simp only [← hq.out] at hR hle hst
    by_cases hlt : j < s.size
    · by_cases hqT : q < T.size
      · by_cases he : T[q] = s[j]
        · have hst' : Hid (strip s.data.toList (rest T p) = strip (s.data.toList.drop (j + 1)) (rest T (q + 1))) := hst.out.trans (strip_more hlt hqT he)
          have hne : ((T[q].toNat : Int) != (s[j].toNat : Int)) = false := by rw [he]; simp
          clear he hst
          go_wp2_with (go_at_call 96; refine (cut96_no _ r T q o k hR.out.2 hqT).mono ?_; rintro e w1 ⟨rfl, h1⟩; obtain ⟨c0, c1, c2, c3, cf⟩ := h1.2.cells)
          go_region
          go_wp2
          have hw : IntKind.i64.wrap ((q : Int) + 1) = ((q + 1 : Nat) : Int) := by rw [IntKind.wrap_i64]; omega
          have hqe : p + (j + 1) = q + 1 := by rw [hq.out]; omega
          have hjT : j < T.size := by have := hq.out; omega
          have hj1 : wrap64 ((j : Int) + 1) = ((j + 1 : Nat) : Int) := by unfold wrap64; omega
          go_roundg (gk - 1)
          case rel =>
            refine ⟨j + 1, by omega, by rw [hj1], ?_, ?_, ?_⟩
            · show _ ≤ _; rw [hqe]; omega
            · show Rq r T (p + (j + 1)) o k w _
              rw [hqe]
              exact (hR.out.trans h1).step.dr
            · show _ = _
              rw [hqe]; exact hst'.out
          case measure => omega
        · have hst' : Hid (strip s.data.toList (rest T p) = none) := hst.out.trans (strip_other hlt hqT he)
          have hne : ((T[q].toNat : Int) != (s[j].toNat : Int)) = true := by
            simp; intro e; exact he (UInt8.toNat_inj.1 (by omega))
          clear he hst
          go_wp2_with (go_at_call 96; refine (cut96_no _ r T q o k hR.out.2 hqT).mono ?_; rintro e w1 ⟨rfl, h1⟩; obtain ⟨c0, c1, c2, c3, cf⟩ := h1.2.cells)
          go_region
          go_wp2_with (go_at_call 81; refine (giveUp81 _ r T q o k h1.dr.2 (by omega)).mono ?_; rintro e w2 ⟨q2, hq2, rfl, hg⟩)
          exact ⟨rfl, .inr ⟨⟨q2, hq2, rfl, (hR.out.trans h1).dr.1.trans hg⟩, fun _ => by rw [hst'.out]; rfl⟩⟩
      · have hqe : q = T.size := by have := hle.out; omega
        have hst' : Hid (strip s.data.toList (rest T p) = none) := hst.out.trans (strip_end hlt hqe)
        clear hst
        go_wp2_with (go_at_call 96; refine (cut96_end _ r T q o k hR.out.2 hqe).mono ?_; rintro e w1 (⟨ho, rfl, h1⟩ | ⟨ho, q2, hq2, rfl, hg⟩))
        · refine bodyPost_ret (results_none rfl _ _ _) rfl ?_
          refine .inl ⟨(), q, by omega, ⟨rfl, by rw [hq.out]; omega, fun _ _ => by omega, hR.out.trans h1⟩, fun h => by rw [ho] at h; cases h⟩
        · exact ⟨rfl, .inr ⟨⟨q2, hq2, rfl, hR.out.1.trans hg⟩, fun _ => by rw [hst'.out]; rfl⟩⟩
    · obtain rfl : j = s.size := by omega
      have hst' : Hid (strip s.data.toList (rest T p) = some (rest T q)) := hst.out.trans strip_done
      clear hst
      go_wp2
      go_end0
      refine .inl ⟨(), q, hle.out, ⟨rfl, by rw [hq.out]; omega, fun _ _ => by rw [hq.out]; omega, hR.out⟩, fun _ => by rw [hst'.out]; rfl⟩
end Go.Proofs.YtbicodlclmdgaaaGreatDoor
