/-
  What Put of package num does behind nil: the number's bytes, in memory of its own.
-/
import Derived.Test.YtphkleiamlllgabRows
import Derived.Test.YtphkleiamlllgabMath
import Derived.WalkKit
import Derived.WalkSpells
import Derived.WalkLawsBesides
import Derived.Laws.BitsAllLaws
import Derived.Laws.Bits128
import Derived.Lib.SliceRun
namespace Go.Proofs.Ytphkleiamlllgab
open Go.RowKit

theorem info5 : (Try.prog.info? 5).map (fun i => (i.zero, i.size, i.bytes)) = some (some (.int .u8 0), 1, 1) := by kernel_rfl

theorem or128 (m : Nat) : bits .or .u8 ((m : Int) % 256) 128 = ((m % 128 + 128 : Nat) : Int) := by
  have h : ∀ x : Fin 256, bits .or .u8 ((x.val : Nat) : Int) 128 = ((x.val % 128 + 128 : Nat) : Int) := by decide +kernel
  have e : (m : Int) % 256 = ((m % 256 : Nat) : Int) := by omega
  rw [e, h ⟨m % 256, by omega⟩]
  simp

/-- slices.Clone of nil. -/
theorem clone_nil (w : World) : Calls Try.prog 7 #[.slice none 0 0] w fun e w' => e = .returned (.slice none 0 0) ∧ w' = w := by
  have hsn := fun w => Lib.run_eql_slice_nil (P := Try.prog) w 23 5 none 0 0 0 0 Try.underlying23
  go_enter Try.func7, Try.ntmps7
  go_wp2
  go_ret
  exact ⟨rfl, rfl⟩

set_option maxHeartbeats 1000000 in
set_option maxRecDepth 100000 in
theorem put_nil (u : Nat) (hu : u < 18446744073709551616) (w : World) :
    Calls Try.prog 4 #[.slice none 0 0, .int .u64 u] w fun e w' => ∃ v, e = .returned v ∧ w'.ownsRow w.heap.size 5 1 v (enc u).length ((enc u).map (Value.int .u8)) ∧ Below w.heap.size w w' := by
  obtain ⟨i0, hi, hz0, hz1, hz2⟩ := info_parts info5
  go_enter Try.func4, Try.ntmps4
  go_wp2_with (go_at_call 7; refine (clone_nil _).mono ?_; rintro e w' ⟨rfl, rfl⟩)
  go_loopw [1, 5] (fun a v wr => ∃ (f m : Nat) (pre : List Int), f ≤ 9 ∧ a = .int .u64 m ∧ m < 128 ^ (f + 1) ∧ pre.length + f = 9 ∧ pre ++ encF f m = enc u ∧ wr.ownsRow w'.heap.size 5 1 v pre.length (pre.map (Value.int .u8)) ∧ Below w'.heap.size w' wr ∧ w'.heap.size ≤ wr.heap.size)
    (fun a _ _ => (intOf a).toNat)
  case atStart => exact ⟨9, u, [], Nat.le_refl _, rfl, by omega, rfl, rfl, World.ownsRow_nil _ _ _ _, Below.refl _ _, Nat.le_refl _⟩
  case round =>
    obtain ⟨f, m, pre, hf, rfl, hm, hlen, hE, hown, hbel, hB⟩ := hrel
    by_cases hge : 128 ≤ m
    · have ho := or128 m
      obtain ⟨f, rfl⟩ : ∃ g, f = g + 1 := by
        cases f with
        | zero => simp at hm; omega
        | succ g => exact ⟨g, rfl⟩
      rw [encF_high _ _ hge] at hE
      obtain ⟨x, hx⟩ : ∃ x, ((m % 128 + 128 : Nat) : Int) = x := ⟨_, rfl⟩
      rw [hx] at ho hE
      have HX : Hid (m / 128 < 128 ^ (f + 1)) := by rw [Nat.pow_succ] at hm; exact Nat.div_lt_of_lt_mul (by rw [Nat.mul_comm]; exact hm)
      have HE : Hid (pre ++ x :: encF f (m / 128) = enc u) := hE
      clear hx hm hE
      go_wp2_with (first
        | (at_builtin; refine wpList_append_own _ rfl _ _ 23 rfl w'.heap.size 5 i0 (.int .u8 0) 1 1 Try.underlying23 hi hz0 hz1 hz2 rfl (by decide) _ _ _ rfl (hown.alloc _) ⟨wr.heap.size, 0, none⟩ 1 1 [.int .u8 x] rfl rfl (cell_one_new _ _ _) (by intro q hq; simp at hq; subst hq; rfl) (by unfold maxLen; omega) (by omega) (by simp; omega) ?_)
        | go_in)
      intro v' w1 hown' hgrow _
      have hS : Below w'.heap.size w' w1 ∧ w'.heap.size ≤ w1.heap.size := by
        refine ⟨(hbel.alloc hB _).grown hgrow (by simp; omega) (fun k e => (hown.lt k e).1), ?_⟩
        have := hgrow.size; simp at this; omega
      clear hgrow hown hbel hB
      go_wp2
      go_roundw
      case rel => exact ⟨f, m / 128, pre ++ [x], by omega, by go_num, HX.out, by simp; omega, by have := HE.out; simpa using this, by simpa using hown', hS.1, hS.2⟩
      case measure => simp [intOf]; omega
    · rw [encF_low _ _ (by omega)] at hE
      have hb8 : (m : Int) % 256 = m := by omega
      have HE : Hid (pre ++ [(m : Int)] = enc u) := hE
      clear hE hm
      go_wp2_with (first
        | (at_builtin; refine wpList_append_own _ rfl _ _ 23 rfl w'.heap.size 5 i0 (.int .u8 0) 1 1 Try.underlying23 hi hz0 hz1 hz2 rfl (by decide) _ _ _ rfl (hown.alloc _) ⟨wr.heap.size, 0, none⟩ 1 1 [.int .u8 m] rfl rfl (cell_one_new _ _ _) (by intro q hq; simp at hq; subst hq; rfl) (by unfold maxLen; omega) (by omega) (by simp; omega) ?_)
        | go_in)
      intro v' w1 hown' hgrow _
      have hS : Below w'.heap.size w' w1 := (hbel.alloc hB _).grown hgrow (by simp; omega) (fun k e => (hown.lt k e).1)
      clear hgrow hown hbel hB
      go_wp2
      go_ret
      exact ⟨_, rfl, by rw [← HE.out]; simpa using hown', hS⟩

/-- Put behind nil, its result told: a slice at the head of a new block, whose cells are the number's bytes. -/
theorem put_told (u : Nat) (hu : u < 18446744073709551616) (w : World) :
    Calls Try.prog 4 #[.slice none 0 0, .int .u64 u] w fun e w' => ∃ g cap, e = .returned (.slice (some ⟨g, 0, none⟩) (enc u).length cap) ∧ (enc u).length ≤ cap ∧ g < w'.heap.size ∧
      (∀ i, i < (enc u).length → w'.cell? ⟨g, 0 + i, none⟩ = some (.int .u8 ((enc u).getD i 0))) ∧ Below w.heap.size w w' := by
  refine (put_nil u hu w).mono ?_
  rintro e w' ⟨v, rfl, hown, hb⟩
  have hp := enc_pos u
  have hown0 := hown
  rcases hown.2 with ⟨_, h0⟩ | ⟨g, cap, cur, rfl, _, hg, hnc, _⟩
  · omega
  · refine ⟨g, cap, rfl, hnc, (hown0.lt g rfl).2, fun i hi => ?_, hb⟩
    rw [Nat.zero_add, hown0.cellAt i (by omega)]
    simp [List.getD, hi]
end Go.Proofs.Ytphkleiamlllgab
