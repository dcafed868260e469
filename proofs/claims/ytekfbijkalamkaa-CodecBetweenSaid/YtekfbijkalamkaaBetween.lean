/-
  The walk of CodecBetween.
-/
import Derived.Test.YtekfbijkalamkaaAfter
import Derived.Test.YtekfbijkalamkaaBegun
namespace Go.Proofs.Ytekfbijkalamkaa
open Go.RowKit
set_option linter.unusedVariables false      -- a walk need not use every condition

set_option maxHeartbeats 2000000 in
set_option maxRecDepth 20000 in
theorem between7 (w : World) (b x : Value) (t u : List UInt8) (hb : Bs w b t) (hx : Bs w x u) (ht : t.length ≤ 140737488355328) :
    Calls Try.prog 7 #[b, x] w fun e w' => e = .returned (.bool true) ∧ Below w.heap.size w w' := by
  have c17 := after17 w b t hb ht
  have c10 := fun w => begun10 w
  have hbt := between t u
  unfold AfterR at c17
  have hlm := hb.len
  unfold maxLen at hlm
  cases ha : aft t with
  | none =>
    have hall := aft_all ha
    rw [ha] at c17 hbt
    simp only [below, Bool.and_true] at hbt
    obtain ⟨P, hP⟩ : ∃ P, begins u t = P := ⟨_, rfl⟩
    have c29 := fun w hx hb => hasPrefix29 w x b u t hx hb
    have c28 := fun w hx hb => compare28 w x b u t hx hb
    obtain ⟨c, hc⟩ : ∃ c, Lib.compareBytes u t = c := ⟨_, rfl⟩
    rw [hP] at c29 hbt
    rw [hc] at c28 hbt
    clear ha hP hc
    have hb0 := hb
    obtain ⟨pb, cb, rfl, hb1, -, -, hb4⟩ := hb
    have hle : (P = true → 0 ≤ c) ∧ (P = false → ¬ 0 ≤ c) := by
      constructor
      · intro h; rw [h] at hbt; exact of_decide_eq_true hbt
      · intro h; rw [h] at hbt; exact of_decide_eq_false hbt
    clear hbt
    by_cases h0 : t.length = 0
    · have h0' : ¬ 0 < t.length := by omega
      cases P with
      | true =>
        have hc := hle.1 rfl
        clear hle hb4 hall h0
        go_enter Try.func7, Try.ntmps7
        go_wp2_with (first
          | (go_at_call 17; refine c17.mono ?_; rintro e w1 (⟨-, rfl, hB1⟩ | ⟨a, v, hh, rfl, -⟩); rotate_left; (focus (cases hh)))
          | (go_at_call 10; refine (c10 _).mono ?_; rintro e w2 ⟨rfl, hB2⟩; have hB := bel_then hB1 hB2; have hbw := hb0.on hB; have hxw := hx.on hB)
          | (go_at_call 28; refine (c28 _ hxw hbw).mono ?_; rintro e w3 ⟨rfl, rfl⟩)
          | (go_at_call 29; refine (c29 _ hxw hbw).mono ?_; rintro e w3 ⟨rfl, rfl⟩))
        go_ret
        exact ⟨rfl, hB⟩
      | false =>
        have hc := hle.2 rfl
        clear hle hb4 hall h0
        go_enter Try.func7, Try.ntmps7
        go_wp2_with (first
          | (go_at_call 17; refine c17.mono ?_; rintro e w1 (⟨-, rfl, hB1⟩ | ⟨a, v, hh, rfl, -⟩); rotate_left; (focus (cases hh)))
          | (go_at_call 10; refine (c10 _).mono ?_; rintro e w2 ⟨rfl, hB2⟩; have hB := bel_then hB1 hB2; have hbw := hb0.on hB; have hxw := hx.on hB)
          | (go_at_call 28; refine (c28 _ hxw hbw).mono ?_; rintro e w3 ⟨rfl, rfl⟩)
          | (go_at_call 29; refine (c29 _ hxw hbw).mono ?_; rintro e w3 ⟨rfl, rfl⟩))
        go_ret
        exact ⟨rfl, hB⟩
    · have h0' : 0 < t.length := by omega
      obtain ⟨g, o, rfl, hcell⟩ := hb4.resolve_left (by intro e; rw [e] at h0; exact h0 rfl)
      have hce : Hid (∀ (w' : World), Below w.heap.size w w' → ∀ k, k < t.length → w'.cell? ⟨g, o + k, none⟩ = some (.int .u8 255)) := fun w' hB k hk => by
        have := some_on hB (hcell k hk)
        rw [hall _ (List.getElem_mem hk)] at this
        exact this
      cases P with
      | true =>
        have hc := hle.1 rfl
        clear hle hb4 hall h0 hcell
        go_enter Try.func7, Try.ntmps7
        go_wp2_with (first
          | (go_at_call 17; refine c17.mono ?_; rintro e w1 (⟨-, rfl, hB1⟩ | ⟨a, v, hh, rfl, -⟩); rotate_left; (focus (cases hh)))
          | (go_at_call 10; refine (c10 _).mono ?_; rintro e w2 ⟨rfl, hB2⟩; have hB := bel_then hB1 hB2; have hbw := hb0.on hB; have hxw := hx.on hB)
          | (go_at_call 28; refine (c28 _ hxw hbw).mono ?_; rintro e w3 ⟨rfl, rfl⟩))
        go_loop [40] (fun i => ∃ k : Nat, k ≤ t.length ∧ i = .int .i64 k) (fun i => t.length - (intOf i).toNat)
        case atStart => exact ⟨0, Nat.zero_le _, rfl⟩
        case round =>
          obtain ⟨k, hk, rfl⟩ := hrel
          by_cases hkl : k < t.length
          · have hck := hce.out _ hB k hkl
            go_wp2
            go_round
            case rel => exact ⟨k + 1, by omega, by go_num⟩
            case measure => simp [intOf]; omega
          · obtain rfl : k = t.length := by omega
            go_wp2_with (go_at_call 29; refine (c29 _ hxw hbw).mono ?_; rintro e w4 ⟨rfl, rfl⟩)
            go_ret
            exact ⟨rfl, hB⟩
      | false =>
        have hc := hle.2 rfl
        clear hle hb4 hall h0 hcell
        go_enter Try.func7, Try.ntmps7
        go_wp2_with (first
          | (go_at_call 17; refine c17.mono ?_; rintro e w1 (⟨-, rfl, hB1⟩ | ⟨a, v, hh, rfl, -⟩); rotate_left; (focus (cases hh)))
          | (go_at_call 10; refine (c10 _).mono ?_; rintro e w2 ⟨rfl, hB2⟩; have hB := bel_then hB1 hB2; have hbw := hb0.on hB; have hxw := hx.on hB)
          | (go_at_call 28; refine (c28 _ hxw hbw).mono ?_; rintro e w3 ⟨rfl, rfl⟩))
        go_loop [40] (fun i => ∃ k : Nat, k ≤ t.length ∧ i = .int .i64 k) (fun i => t.length - (intOf i).toNat)
        case atStart => exact ⟨0, Nat.zero_le _, rfl⟩
        case round =>
          obtain ⟨k, hk, rfl⟩ := hrel
          by_cases hkl : k < t.length
          · have hck := hce.out _ hB k hkl
            go_wp2
            go_round
            case rel => exact ⟨k + 1, by omega, by go_num⟩
            case measure => simp [intOf]; omega
          · obtain rfl : k = t.length := by omega
            go_wp2_with (go_at_call 29; refine (c29 _ hxw hbw).mono ?_; rintro e w4 ⟨rfl, rfl⟩)
            go_ret
            exact ⟨rfl, hB⟩
  | some a =>
    have hno := aft_not ha
    rw [ha] at c17 hbt
    simp only [below] at hbt
    have c29 := fun w hx hb => hasPrefix29 w x b u t hx hb
    have c28 := fun w hx hb => compare28 w x b u t hx hb
    have c29a := fun w v hx hb => hasPrefix29 w v b a t hx hb
    have c28a := fun w v hx hb => compare28 w x v u a hx hb
    rw [hno] at c29a
    generalize begins u t = P at *
    generalize Lib.compareBytes u t = c at *
    generalize Lib.compareBytes u a = d at *
    clear hno ha
    have hb0 := hb
    have hxs := hx
    obtain ⟨pb, cb, rfl, hb1, -, -, hb4⟩ := hb
    clear hb4
    have tk : True := trivial
    have tk2 : True := trivial
    go_enter Try.func7, Try.ntmps7
    go_wp2_with (first
      | (go_at_call 17; refine c17.mono ?_; rintro e w1 (⟨hh, rfl, hB1⟩ | ⟨a', v, hh, rfl, hbt1, hB1⟩); (focus (cases hh)); obtain rfl : a = a' := Option.some.inj hh; have hav := hbt1.bs; clear hh hbt1)
      | (go_at_call 10; refine (c10 _).mono ?_; rintro e w2 ⟨rfl, hB2⟩; have hB := bel_then hB1 hB2; have hbw := hb0.on hB; have hxw := hx.on hB; have havw := hav.on hB2)
      | (go_at_call 28; clear tk; refine (c28 _ hxw hbw).mono ?_; rintro e w3 ⟨rfl, rfl⟩)
      | (go_at_call 28; refine (c28a _ _ hxw havw).mono ?_; rintro e w3 ⟨rfl, rfl⟩)
      | (go_at_call 29; clear tk2; refine (c29 _ hxw hbw).mono ?_; rintro e w3 ⟨rfl, rfl⟩)
      | (go_at_call 29; refine (c29a _ _ havw hbw).mono ?_; rintro e w3 ⟨rfl, rfl⟩))
    all_goals first
      | (go_ret; exact ⟨rfl, hB⟩)
      | (exfalso; rw [decide_eq_true (by assumption : (0 : Int) ≤ c), Bool.true_and] at hbt; exact absurd hbt (by assumption))
      | (exfalso; rw [decide_eq_false (by omega : ¬ (0 : Int) ≤ c), Bool.false_and] at hbt; rw [← hbt] at *; simp_all; done)
end Go.Proofs.Ytekfbijkalamkaa
