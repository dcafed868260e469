/-
  Which nodes may be: the document's Check.
-/
import Derived.Test.YtbkpgppaahpalaaChi
import Derived.Lib.QuietBelow
import Derived.BigQuiet
namespace Go.Proofs.Ytbkpgppaahpalaa
open Go.RowKit
set_option linter.unusedVariables false      -- a walk need not use every condition

/-- The document's order of strings is the program's of bytes. -/
theorem less_cmp : ∀ (k l : List UInt8), (Op.bytesLess k l || (k == l)) = !decide (Lib.compareBytes l k < 0)
  | [], [] => by decide
  | [], b :: l => by simp [Op.bytesLess, Lib.compareBytes]
  | a :: k, [] => by simp [Op.bytesLess, Lib.compareBytes]
  | a :: k, b :: l => by
    have ih := less_cmp k l
    unfold Op.bytesLess Lib.compareBytes
    by_cases h1 : b < a
    · have h2 : ¬ a < b := by rw [UInt8.lt_iff_toNat_lt] at *; omega
      have h3 : ¬ a = b := by rintro rfl; exact absurd h1 (by rw [UInt8.lt_iff_toNat_lt]; omega)
      simp [h1, h2, h3]
    · by_cases h2 : a < b
      · simp [h1, h2]
      · have h3 : a = b := by
          rw [UInt8.lt_iff_toNat_lt] at *
          exact UInt8.toNat_inj.1 (by omega)
        subst h3
        rw [if_neg h1, if_neg h2]
        rw [← ih]
        simp [h1]
theorem arr_list (t : List UInt8) : (⟨t.toArray⟩ : ByteArray).toList = t := by simp
def keyOk (k : List UInt8) : Bool := decide (1 ≤ k.length) && decide (k.length ≤ 96)
theorem fol_eq (l k : List UInt8) : fol l k = (keyOk k && !(Op.bytesLess k l || (k == l))) := by
  unfold fol keyOk
  rw [less_cmp, Bool.not_not]
theorem fol_first (k : List UInt8) : fol [] k = keyOk k := by
  unfold fol keyOk
  cases k with
  | nil => decide
  | cons a k => simp [Lib.compareBytes]
set_option maxHeartbeats 1000000 in
theorem key42 (w : World) (b : Value) (t : List UInt8) (hb : Bs w b t) : Calls Try.prog 42 #[b] w fun e w' => e = .returned (.bool (keyOk t)) ∧ w' = w := by
  obtain ⟨p, cap, rfl, -, -⟩ := hb.slice
  unfold keyOk
  by_cases h1 : 1 ≤ t.length
  · have z1 : (1 : Int) ≤ (t.length : Int) := by omega
    by_cases h2 : t.length ≤ 96
    · have z2 : (t.length : Int) ≤ 96 := by omega
      rw [decide_eq_true h1, decide_eq_true h2]
      go_enter Try.func42, Try.ntmps42
      go_wp2
      go_ret
      exact ⟨rfl, rfl⟩
    · have z2 : ¬ (t.length : Int) ≤ 96 := by omega
      rw [decide_eq_true h1, decide_eq_false h2]
      go_enter Try.func42, Try.ntmps42
      go_wp2
      go_ret
      exact ⟨rfl, rfl⟩
  · have z1 : ¬ (1 : Int) ≤ (t.length : Int) := by omega
    rw [decide_eq_false h1]
    go_enter Try.func42, Try.ntmps42
    go_wp2
    go_ret
    exact ⟨rfl, rfl⟩
set_option maxHeartbeats 2000000 in
theorem cell41 (w : World) (v : Value) (c : C) (h : CeS w v c) : Calls Try.prog 41 #[v] w fun e w' => e = .returned (.bool (keyOk c.key && valOk c)) ∧ Below w.heap.size w w' := by
  obtain ⟨k, x, rfl, hk, hx, ho, hl⟩ := h
  obtain ⟨kp, kc, rfl, -, -⟩ := hk.slice
  obtain ⟨xp, xc, rfl, -, -⟩ := hx.slice
  have c42 := key42 _ _ _ (hk.on (bel1 w (.cells #[.slice kp c.key.length kc, .slice xp c.val.length xc, .int .i64 c.over, .int .i64 c.len] 44)))
  have hB := Lib.hid (bel1 w (.cells #[.slice kp c.key.length kc, .slice xp c.val.length xc, .int .i64 c.over, .int .i64 c.len] 44))
  generalize keyOk c.key = kk at *
  unfold valOk pageOk
  generalize c.key.length = K at *
  generalize hV : c.val.length = V at *
  generalize c.over = O at *
  generalize c.len = L at *
  clear hk hx hV
  cases kk with
  | false =>
    rw [Bool.false_and]
    go_enter Try.func41, Try.ntmps41
    go_wp2_with (go_at_call 42; refine c42.mono ?_; rintro e w' ⟨rfl, rfl⟩)
    go_ret
    exact ⟨rfl, hB.out⟩
  | true =>
    rw [Bool.true_and]
    by_cases h1 : O < 0
    · rw [if_neg (by omega), decide_eq_false (by omega), Bool.false_and, Bool.false_and, Bool.false_and, Bool.false_and]
      go_enter Try.func41, Try.ntmps41
      go_wp2_with (go_at_call 42; refine c42.mono ?_; rintro e w' ⟨rfl, rfl⟩)
      go_ret
      exact ⟨rfl, hB.out⟩
    · by_cases h2 : 2048 ≤ O
      · rw [if_neg (by omega), decide_eq_false (show ¬ O < 2048 by omega), Bool.and_false, Bool.false_and, Bool.false_and, Bool.false_and]
        go_enter Try.func41, Try.ntmps41
        go_wp2_with (go_at_call 42; refine c42.mono ?_; rintro e w' ⟨rfl, rfl⟩)
        go_ret
        exact ⟨rfl, hB.out⟩
      · by_cases h3 : 64 < V
        · have z3 : (64 : Int) < (V : Int) := by omega
          have e : (if O = 0 then decide (V ≤ 64) && decide (L = 0) else (decide (1 ≤ O) && decide (O < 2048)) && decide (V = 0) && decide (64 < L) && decide (L ≤ 1099511627776)) = false := by
            split
            · rw [decide_eq_false (by omega)]; rfl
            · rw [decide_eq_false (show ¬ V = 0 by omega), Bool.and_false, Bool.false_and, Bool.false_and]
          rw [e]
          go_enter Try.func41, Try.ntmps41
          go_wp2_with (go_at_call 42; refine c42.mono ?_; rintro e w' ⟨rfl, rfl⟩)
          go_ret
          exact ⟨rfl, hB.out⟩
        · have z3 : ¬ (64 : Int) < (V : Int) := by omega
          by_cases h4 : O = 0
          · rw [if_pos h4, decide_eq_true (by omega), Bool.true_and]
            have z4 : (O == 0) = true := by simp [h4]
            clear h4
            go_enter Try.func41, Try.ntmps41
            go_wp2_with (go_at_call 42; refine c42.mono ?_; rintro e w' ⟨rfl, rfl⟩)
            go_ret
            exact ⟨by first | rfl | (simp only [Ending.returned.injEq, Value.bool.injEq]; rfl) | simp, hB.out⟩
          · rw [if_neg h4, decide_eq_true (show 1 ≤ O by omega), decide_eq_true (show O < 2048 by omega), Bool.true_and, Bool.true_and]
            have z4 : (O == 0) = false := by simp [h4]
            by_cases h5 : V = 0
            · have z5 : ((V : Int) == 0) = true := by simp; omega
              rw [decide_eq_true h5, Bool.true_and]
              by_cases h6 : 64 < L
              · rw [decide_eq_true h6, Bool.true_and]
                clear h4 h5
                go_enter Try.func41, Try.ntmps41
                go_wp2_with (go_at_call 42; refine c42.mono ?_; rintro e w' ⟨rfl, rfl⟩)
                go_ret
                exact ⟨rfl, hB.out⟩
              · rw [decide_eq_false h6, Bool.false_and]
                clear h4 h5
                go_enter Try.func41, Try.ntmps41
                go_wp2_with (go_at_call 42; refine c42.mono ?_; rintro e w' ⟨rfl, rfl⟩)
                go_ret
                exact ⟨rfl, hB.out⟩
            · have z5 : ((V : Int) == 0) = false := by simp; omega
              rw [decide_eq_false h5, Bool.false_and, Bool.false_and]
              clear h4 h5
              go_enter Try.func41, Try.ntmps41
              go_wp2_with (go_at_call 42; refine c42.mono ?_; rintro e w' ⟨rfl, rfl⟩)
              go_ret
              exact ⟨rfl, hB.out⟩
end Go.Proofs.Ytbkpgppaahpalaa
