/-
  Key, Prop, Sign of package keys.
-/
import Derived.Test.YtbgikgeknnmelaaGreatKey1
namespace Go.Proofs.YtbgikgeknnmelaaGreat
open Go.RowKit
set_option linter.unusedVariables false      -- a walk need not use every condition

set_option maxHeartbeats 400000 in
theorem isNested78 (k : Int) (w : World) : Calls Tryz.prog 78 #[.int .i64 k] w fun e w' => e = .returned (.bool (decide (k = 4) || decide (k = 5))) ∧ w' = w := by
  by_cases h4 : k = 4
  · subst h4
    go_enter Tryz.func78, Tryz.ntmps78
    go_wp2
    go_ret
    exact ⟨rfl, rfl⟩
  · by_cases h5 : k = 5
    · subst h5
      go_enter Tryz.func78, Tryz.ntmps78
      go_wp2
      go_ret
      exact ⟨rfl, rfl⟩
    · have e4 : (k == 4) = false := by simp [h4]
      have e5 : (k == 5) = false := by simp [h5]
      rw [decide_eq_false h4, decide_eq_false h5]
      clear h4 h5
      go_enter Tryz.func78, Tryz.ntmps78
      go_wp2
      go_ret
      exact ⟨rfl, rfl⟩
set_option maxHeartbeats 1000000 in
set_option maxRecDepth 20000 in
/-- Put behind nothing, of any value. -/
theorem putQ74 (v : V) (sl : Value) (w : World) (hin : v.In w 0 sl) (hm : v.many ≤ 1048576) : Calls Tryz.prog 74 #[.slice none 0 0, v.agg sl] w (AppR w (plq v)) := by
  cases hb : v.may 1 with
  | true =>
    have hp := pl_len v
    have c := put74 v sl w hin hb (.slice none 0 0) [] (bs_nil _) (by simp; omega)
    refine c.mono ?_
    rintro e w' ⟨b, rfl, h1, h2⟩
    refine ⟨b, rfl, ?_, h2⟩
    unfold plq; rw [if_pos hb]; exact h1
  | false =>
    have e0 : plq v = [] := by unfold plq; rw [hb]; rfl
    rw [e0]
    have c57 := fun u h => check_any v sl u h
    unfold V.err at c57
    rw [hb] at c57
    simp only [Bool.false_eq_true, if_false] at c57
    obtain ⟨p1, n1, q1, rfl⟩ := hin.header
    unfold V.agg at c57 ⊢
    have hbel := bel1 w (.cells #[.int .i64 v.k, .int .i64 v.n, .string v.s, .slice p1 n1 q1] 29)
    have hin1 := hin.on hbel
    go_enter Tryz.func74, Tryz.ntmps74
    go_wp2_with (first
      | (go_at_call 101; refine (clone_nil _).mono ?_; rintro e w1 ⟨rfl, rfl⟩)
      | (go_at_call 57; refine (c57 _ hin1).mono ?_; rintro e w2 ⟨rfl, hB2⟩))
    go_ret
    exact ⟨_, rfl, World.ownsRow_nil _ _ _ _, bel_then hbel hB2⟩
theorem Bs.own_take {w : World} {base : Nat} {v : Value} {t : List UInt8} (h : Bts w base v t) {p : Option Addr} {n c : Nat} (e : v = .slice p n c) (m : Nat) (hm : m ≤ t.length) : Bs w (.slice p m c) (t.take m) := by
  have h1 := h.bs
  subst e
  obtain ⟨p', c', e, -⟩ := h1.slice
  injection e with e1 e2 e3
  subst e1 e2 e3
  exact h1.take hm
set_option maxHeartbeats 1000000 in
set_option maxRecDepth 20000 in
theorem stem54 (v : V) (sl : Value) (w : World) (hin : v.In w 0 sl) (hm : v.many ≤ 1048576) : Calls Tryz.prog 54 #[v.agg sl] w fun e w' => ∃ b, e = .returned b ∧ Bs w' b (stem v) ∧ Below w.heap.size w w' := by
  obtain ⟨p1, n1, q1, rfl⟩ := hin.header
  have hbel := bel1 w (.cells #[.int .i64 v.k, .int .i64 v.n, .string v.s, .slice p1 n1 q1] 29)
  have hin1 := hin.on hbel
  have c74 := putQ74 v _ _ hin1 hm
  have c76 := fun g hg => keyOne76 v _ _ g hg hin1 hm
  have c78 := fun w => isNested78 v.k w
  have l1 := plq_len v
  have l2 := kq_len v
  obtain ⟨S, hS⟩ : ∃ S, stem v = S := ⟨_, rfl⟩
  rw [hS]
  have hmn : ∀ n : Nat, n ≤ 140737488355328 → min (n : Int) 40 = ((min n 40 : Nat) : Int) := fun n _ => by omega
  by_cases h45 : v.k = 4 ∨ v.k = 5
  · have e45 : (decide (v.k = 4) || decide (v.k = 5)) = true := by simpa using h45
    rw [e45] at c78
    have hS' : Hid (S = (plq v).take 40) := by show _ = _; rw [← hS]; unfold stem stemF; rw [if_pos h45]
    clear hS e45 h45 c76
    unfold V.agg at c74 ⊢
    generalize plq v = P at *
    go_enter Tryz.func54, Tryz.ntmps54
    go_wp2_with (fail)
    refine (c78 _).mono ?_
    rintro e w1 ⟨rfl, rfl⟩
    go_wp2_with (fail)
    refine c74.mono ?_
    rintro e w2 ⟨b2, rfl, hb2, hB2⟩
    obtain ⟨p, cap, e2, hc1, hc2⟩ := hb2.bs.slice
    have hcm : cap ≤ maxLen := by obtain ⟨p', cap', e', h1, h2, -⟩ := hb2.bs; rw [e2] at e'; injection e' with _ _ e3; omega
    unfold maxLen at hcm
    have hfin := bel_then hbel hB2
    have hT1 : Hid (P.length ≤ 40 → Bs w2 (.slice p P.length cap) S) := fun h => by
      have := Bs.own_take hb2 e2 P.length (Nat.le_refl _)
      rw [hS'.out, List.take_of_length_le h]
      rwa [List.take_length] at this
    have hT2 : Hid (40 ≤ P.length → Bs w2 (.slice p 40 cap) S) := fun h => by
      rw [hS'.out]
      exact Bs.own_take hb2 e2 40 h
    subst e2
    clear hb2 hS' hmn
    generalize P.length = N at *
    go_wp2
    all_goals
      go_ret
      first
        | exact ⟨_, rfl, hT1.out (by omega), hfin⟩
        | exact ⟨_, rfl, hT2.out (by omega), hfin⟩
  · have e45 : (decide (v.k = 4) || decide (v.k = 5)) = false := by simpa using h45
    rw [e45] at c78
    have hS' : Hid (S = (kq v).take 40) := by show _ = _; rw [← hS]; unfold stem stemF; rw [if_neg h45]
    clear hS e45 h45 c74
    unfold V.agg
    generalize kq v = P at *
    go_enter Tryz.func54, Tryz.ntmps54
    go_wp2_with (fail)
    refine (c78 _).mono ?_
    rintro e w1 ⟨rfl, rfl⟩
    go_wp2_with (fail)
    refine (c76 _ (by simp)).mono ?_
    rintro e w2 ⟨b2, n2, rfl, hb2, hB2⟩
    obtain ⟨p, cap, e2, hc1, hc2⟩ := hb2.bs.slice
    have hcm : cap ≤ maxLen := by obtain ⟨p', cap', e', h1, h2, -⟩ := hb2.bs; rw [e2] at e'; injection e' with _ _ e3; omega
    unfold maxLen at hcm
    have hfin := bel_then hbel hB2
    have hT1 : Hid (P.length ≤ 40 → Bs w2 (.slice p P.length cap) S) := fun h => by
      have := Bs.own_take hb2 e2 P.length (Nat.le_refl _)
      rw [hS'.out, List.take_of_length_le h]
      rwa [List.take_length] at this
    have hT2 : Hid (40 ≤ P.length → Bs w2 (.slice p 40 cap) S) := fun h => by
      rw [hS'.out]
      exact Bs.own_take hb2 e2 40 h
    subst e2
    clear hb2 hS' hmn
    generalize P.length = N at *
    go_wp2
    all_goals
      go_ret
      first
        | exact ⟨_, rfl, hT1.out (by omega), hfin⟩
        | exact ⟨_, rfl, hT2.out (by omega), hfin⟩
end Go.Proofs.YtbgikgeknnmelaaGreat
