/-
  Whether a number is in a row of numbers.
-/
import Derived.Test.YtifnjidechbjlaaDecW
namespace Go.Proofs.Ytifnjidechbjlaa
open Go.RowKit Go.Maps
set_option linter.unusedVariables false      -- a walk need not use every condition

/-- A row of numbers in memory. -/
def RowN (w : World) (p : Option Addr) (L : List Nat) : Prop := L = [] ∨ ∃ g, p = some ⟨g, 0, none⟩ ∧ g < w.heap.size ∧ ∀ i (hi : i < L.length), w.cell? ⟨g, i, none⟩ = some (.int .i64 (L[i] : Nat))
set_option maxHeartbeats 800000 in
theorem index41 (w : World) (p : Option Addr) (cap : Nat) (L : List Nat) (n : Nat) (hL : L.length ≤ 16384) (hr : RowN w p L) :
    Calls Try.prog 41 #[.slice p L.length cap, .int .i64 n] w fun e w' => (∃ j : Int, e = .returned (.int .i64 j) ∧ (0 ≤ j ↔ n ∈ L)) ∧ w' = w := by
  go_enter Try.func41, Try.ntmps41
  go_wp2
  go_loopg [8] L.length (fun g s8 wr => ∃ i : Nat, i + g = L.length ∧ s8 = .int .i64 i ∧ wr = w ∧ n ∉ L.take i)
  case atStart => exact ⟨0, by omega, rfl, rfl, by simp⟩
  case round =>
    obtain ⟨i, hig, rfl, rfl, hno⟩ := hrel
    cases gk with
    | zero =>
      obtain rfl : i = L.length := by omega
      have HN : Hid (n ∉ L.take L.length) := hno
      clear hno hr hig
      go_wp2
      go_ret
      refine ⟨⟨_, rfl, ?_⟩, rfl⟩
      have := HN.out
      rw [List.take_length] at this
      exact ⟨fun h => by omega, fun h => absurd h this⟩
    | succ gk =>
      have hi : i < L.length := by omega
      obtain ⟨g, rfl, -, hc⟩ := hr.resolve_left (fun e => by rw [e] at hi; simp at hi)
      have ci := hc i hi
      have hiz : (i : Int) < (L.length : Int) := by omega
      have hiz0 : (0 : Int) ≤ (i : Int) := by omega
      have HN : Hid (n ∉ L.take (i + 1) ∨ L[i] = n) := by
        by_cases e : L[i] = n
        · exact .inr e
        · refine .inl ?_
          rw [List.take_succ_eq_append_getElem hi, List.mem_append, List.mem_singleton]
          rintro (h | h)
          · exact hno h
          · exact e h.symm
      have HL : Hid (i + (gk + 1) = L.length) := hig
      have HM : Hid (L[i] ∈ L) := List.getElem_mem hi
      generalize L[i] = m at *
      clear hc hno hig
      by_cases e : n = m
      · subst e
        go_wp2
        go_ret
        exact ⟨⟨_, rfl, fun _ => HM.out, fun _ => hiz0⟩, rfl⟩
      · have e1 : ((n : Int) == (m : Int)) = false := by simp; omega
        go_wp2
        go_roundg gk
        case measure => omega
        case rel => exact ⟨i + 1, by have := HL.out; omega, by first | rfl | simp, rfl, HN.out.resolve_right (fun h => e h.symm)⟩
theorem contains23 (w : World) (p : Option Addr) (cap : Nat) (L : List Nat) (n : Nat) (hL : L.length ≤ 16384) (hr : RowN w p L) :
    Calls Try.prog 23 #[.slice p L.length cap, .int .i64 n] w fun e w' => e = .returned (.bool (decide (n ∈ L))) ∧ w' = w := by
  have c := index41 w p cap L n hL hr
  clear hr
  go_enter Try.func23, Try.ntmps23
  go_wp2_with (first | (go_at_call 41; refine c.mono ?_; rintro e w' ⟨⟨j, rfl, hj⟩, rfl⟩; have HJ : Hid (0 ≤ j ↔ n ∈ L) := hj; clear hj))
  go_ret
  exact ⟨by rw [show decide (n ∈ L) = decide (0 ≤ j) from decide_eq_decide.2 HJ.out.symm]; rfl, rfl⟩
end Go.Proofs.Ytifnjidechbjlaa
