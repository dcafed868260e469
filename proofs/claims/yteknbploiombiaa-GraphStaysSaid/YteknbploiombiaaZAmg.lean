/-
  Which labels are meant: among, slices.Contains and slices.Index of strings.
-/
import Derived.Test.YteknbploiombiaaZGroGrw
namespace Go.Proofs.Yteknbploiombiaa
open Go.RowKit
set_option linter.unusedVariables false      -- a walk need not use every condition

/-- Strings one behind the other. -/
def RB : El ByteArray where
  n := 1
  bytes := 16
  cs s _ := [.string s]
  In _ _ s _ := S64 s
  keep _ _ _ _ h := h
theorem str_eq (a b : ByteArray) : (a.toList == b.toList) = decide (a = b) := by
  rw [Bool.eq_iff_iff]
  simp only [beq_iff_eq, decide_eq_true_eq]
  constructor
  · intro h
    rw [Go.Lib.toList_data, Go.Lib.toList_data] at h
    cases a; cases b
    simp at h
    rw [h]
  · rintro rfl; rfl
theorem any_no {ls : List ByteArray} {s : ByteArray} (h : ∀ t (ht : t < ls.length), decide (ls[t] = s) = false) : ls.any (fun x => decide (x = s)) = false := by
  rw [List.any_eq_false]
  intro x hx
  obtain ⟨t, ht, rfl⟩ := List.getElem_of_mem hx
  simpa using h t ht
theorem any_yes {ls : List ByteArray} {s : ByteArray} {t : Nat} (ht : t < ls.length) (h : decide (ls[t] = s) = true) : ls.any (fun x => decide (x = s)) = true := by
  rw [List.any_eq_true]
  exact ⟨_, List.getElem_mem ht, h⟩
set_option maxHeartbeats 2000000 in
theorem index90 (ls : List ByteArray) (sl : Value) (s : ByteArray) (w : World) (hs : Sq RB w 0 ls sl) :
    Calls Try.prog 90 #[sl, .string s] w fun e w' => ∃ k : Int, e = .returned (.int .i64 k) ∧ (decide (0 ≤ k)) = ls.any (fun x => decide (x = s)) ∧ w' = w := by
  obtain ⟨p, cap, rfl, hc, hcm, -, hx⟩ := hs
  unfold maxLen at hcm
  have hx := Lib.hid hx
  obtain ⟨N, hN⟩ : ∃ n, ls.length = n := ⟨_, rfl⟩
  rw [hN] at hc ⊢
  have hlen := Lib.hid hN
  clear hN
  obtain ⟨Res, hRes⟩ : ∃ R, ls.any (fun x => decide (x = s)) = R := ⟨_, rfl⟩
  rw [hRes]
  have HR := Lib.hid hRes
  clear hRes
  go_enter Try.func90, Try.ntmps90
  go_wp2
  go_loopg [8, 5] N (fun c s8 s5 wr => ∃ i : Nat, i + c = N ∧ s8 = .int .i64 i ∧ wr = w ∧ Hid (∀ t (ht : t < ls.length), t < i → decide (ls[t] = s) = false))
  case atStart => exact ⟨0, by omega, rfl, rfl, fun t _ h => absurd h (Nat.not_lt_zero _)⟩
  case round =>
    obtain ⟨i, hig, rfl, rfl, hall⟩ := hrel
    cases gk with
    | succ c =>
      have hi : i < ls.length := by have := hlen.out; omega
      have hiz : (i : Int) < (N : Int) := by omega
      have hi0 : (0 : Int) ≤ (i : Int) := by omega
      obtain ⟨b, o, rfl, -, hx1⟩ := hx.out.resolve_left (by rintro rfl; simp at hi)
      obtain ⟨s1, hat, -⟩ := hx1.at i hi
      have a0 := hat 0 _ rfl
      simp only [show RB.n = 1 from rfl, Nat.add_zero, Nat.mul_one] at a0
      have hF : Hid (decide (ls[i] = s) = false → ∀ t (ht : t < ls.length), t < i + 1 → decide (ls[t] = s) = false) := fun h t ht hti => by
        by_cases e : t = i
        · subst e; exact h
        · exact hall.out t ht (by omega)
      have hT : Hid (decide (ls[i] = s) = true → Res = true) := fun h => by rw [← HR.out]; exact any_yes hi h
      have hq := str_eq s ls[i]
      have hsym : Hid (decide (s = ls[i]) = decide (ls[i] = s)) := by show _ = _; rw [Bool.eq_iff_iff]; simp only [decide_eq_true_eq]; exact eq_comm
      rw [hsym.out] at hq
      clear hx hx1 hat hsym
      generalize ls[i] = y at *
      obtain ⟨q, hq'⟩ : ∃ q, decide (y = s) = q := ⟨_, rfl⟩
      rw [hq'] at hq hF hT
      clear hq'
      cases q with
      | false =>
        have hr := Lib.hid (hF.out rfl)
        go_wp2
        go_roundg c
        case measure => omega
        case rel => exact ⟨i + 1, by omega, by first | rfl | simp, rfl, hr.out⟩
      | true =>
        have hr := Lib.hid (hT.out rfl)
        go_wp2
        go_ret
        exact ⟨i, rfl, by rw [hr.out]; simp, rfl⟩
    | zero =>
      have hr : Hid (Res = false) := by
        show _ = _
        rw [← HR.out]
        exact any_no fun t ht => hall.out t ht (by have := hlen.out; omega)
      obtain rfl : i = N := by omega
      clear hx
      go_wp2
      go_ret
      exact ⟨-1, rfl, by rw [hr.out]; simp, rfl⟩
theorem contains68 (ls : List ByteArray) (sl : Value) (s : ByteArray) (w : World) (hs : Sq RB w 0 ls sl) :
    Calls Try.prog 68 #[sl, .string s] w fun e w' => e = .returned (.bool (ls.any (fun x => decide (x = s)))) ∧ w' = w := by
  have c118 := index90 ls sl s w hs
  obtain ⟨p, c, rfl⟩ := hs.header
  generalize ls.any (fun x => decide (x = s)) = R at *
  clear hs
  go_enter Try.func68, Try.ntmps68
  go_wp2_with (go_at_call 90; refine c118.mono ?_; rintro e w' ⟨k, rfl, hk, rfl⟩)
  go_ret
  exact ⟨by rw [← hk]; simp, rfl⟩
theorem among33 (ls : List ByteArray) (sl : Value) (s : ByteArray) (w : World) (hs : Sq RB w 0 ls sl) :
    Calls Try.prog 33 #[sl, .string s] w fun e w' => e = .returned (.bool (amg ls s)) ∧ w' = w := by
  have c102 := contains68 ls sl s w hs
  obtain ⟨p, c, rfl⟩ := hs.header
  have ham : Hid (amg ls s = (ls.isEmpty || ls.any (fun x => decide (x = s)))) := rfl
  rw [ham.out]
  cases ls with
  | nil =>
    clear c102 hs
    go_enter Try.func33, Try.ntmps33
    go_wp2
    go_ret
    exact ⟨rfl, rfl⟩
  | cons a l =>
    rw [show ((a :: l).isEmpty || (a :: l).any (fun x => decide (x = s))) = (a :: l).any (fun x => decide (x = s)) from rfl]
    have hne : (((a :: l).length : Int) == 0) = false := by simp only [List.length_cons]; rw [beq_eq_false_iff_ne]; omega
    generalize (a :: l).any (fun x => decide (x = s)) = R at *
    generalize (a :: l).length = N at *
    have hne' : ¬ (N : Int) = 0 := by simpa using hne
    clear hs
    go_enter Try.func33, Try.ntmps33
    go_wp2_with (go_at_call 68; refine c102.mono ?_; rintro e w' ⟨rfl, rfl⟩)
    go_ret
    exact ⟨rfl, rfl⟩
end Go.Proofs.Yteknbploiombiaa
