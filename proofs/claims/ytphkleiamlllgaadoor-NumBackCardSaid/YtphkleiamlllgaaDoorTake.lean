/-
  What Take of package num does to bytes that begin with those of a number.
-/
import Derived.Test.YtphkleiamlllgaaDoorPut
import Derived.Test.YtphkleiamlllgaaDoorRefParse
import Derived.Laws.Bits64b
namespace Go.Proofs.YtphkleiamlllgaaDoor
open Go.RowKit

theorem below128 (c : Int) (w : World) : Calls Tryd.prog 24 #[.int .u8 c] w fun e w' => e = .returned (.bool (decide (c < 128))) ∧ w' = w := by
  go_enter Tryd.func24, Tryd.ntmps24
  go_wp2
  go_ret
  exact ⟨rfl, rfl⟩

/-- How the bytes lie: L of them, all but the last one from 128 on, behind them others. -/
structure Lies (w : World) (g : Nat) (xs : List Int) (L : Nat) : Prop where
  len : xs.length = L
  pos : 0 < L
  ten : L ≤ 10
  cell : ∀ i, i < L → w.cell? ⟨g, 0 + i, none⟩ = some (.int .u8 (xs.getD i 0))
  more : ∀ i, i + 1 < L → (128 : Int) ≤ xs.getD i 0 ∧ xs.getD i 0 < 256
  last0 : 0 ≤ xs.getD (L - 1) 0
  last : xs.getD (L - 1) 0 < 128
  some0 : 1 < L → 0 < xs.getD (L - 1) 0
  top : L = 10 → xs.getD (L - 1) 0 ≤ 1

set_option maxHeartbeats 1000000 in
theorem index_any (g n cap L : Nat) (xs : List Int) (w : World) (h : Lies w g xs L) (hLn : L ≤ n) (hn : n ≤ 281474976710656) :
    Calls Tryd.prog 23 #[.slice (some ⟨g, 0, none⟩) n cap, .func (.func 24) #[] #[]] w fun e w' => e = .returned (.int .i64 ((L - 1 : Nat) : Int)) ∧ w' = w := by
  have hp := h.pos
  go_enter Tryd.func23, Tryd.ntmps23
  go_wp2
  go_loop [8] (fun i => ∃ k : Nat, k < L ∧ i = .int .i64 k) (fun i => L - (intOf i).toNat)
  case atStart => exact ⟨0, hp, rfl⟩
  case round =>
    obtain ⟨k, hk, rfl⟩ := hrel
    have hc := h.cell k hk
    rw [Nat.zero_add] at hc
    by_cases hl : k + 1 < L
    · obtain ⟨m1, m2⟩ := h.more k hl
      obtain ⟨c, hcc⟩ : ∃ c, xs.getD k 0 = c := ⟨_, rfl⟩
      rw [hcc] at hc m1 m2
      have hd : decide (c < 128) = false := decide_eq_false (by omega)
      have cc := below128 c
      rw [hd] at cc
      clear hcc
      go_wp2_with (go_at_call 24; refine (cc _).mono ?_; rintro e w' ⟨rfl, rfl⟩)
      go_round
      case rel => exact ⟨k + 1, by omega, by go_num⟩
      case measure => simp [intOf]; omega
    · have e1 : k = L - 1 := by omega
      have m1 := h.last
      rw [← e1] at m1
      obtain ⟨c, hcc⟩ : ∃ c, xs.getD k 0 = c := ⟨_, rfl⟩
      rw [hcc] at hc m1
      have hd : decide (c < 128) = true := decide_eq_true (by omega)
      have cc := below128 c
      rw [hd] at cc
      have HE : Hid (((L - 1 : Nat) : Int) = (k : Int)) := by show (_ : Int) = _; omega
      clear hcc e1
      go_wp2_with (go_at_call 24; refine (cc _).mono ?_; rintro e w' ⟨rfl, rfl⟩)
      go_ret
      exact ⟨ret_int HE.out.symm, rfl⟩

set_option maxHeartbeats 1000000 in
theorem inForm_any (g cap L : Nat) (xs : List Int) (w : World) (h : Lies w g xs L) :
    Calls Tryd.prog 25 #[.slice (some ⟨g, 0, none⟩) L cap] w fun e w' => e = .returned (.bool true) ∧ w' = w := by
  have hp := h.pos
  have ht := h.ten
  have hc := h.cell (L - 1) (by omega)
  rw [Nat.zero_add] at hc
  have l0 := h.last0
  have l1 := h.last
  have l2 := h.some0
  have l3 := h.top
  obtain ⟨c, hcc⟩ : ∃ c, xs.getD (L - 1) 0 = c := ⟨_, rfl⟩
  rw [hcc] at hc l0 l1 l2 l3
  clear h hcc
  rcases (show L = 10 ∨ (1 < L ∧ L < 10) ∨ L = 1 by omega) with rfl | ⟨h1, h2⟩ | rfl
  · have c1 := l3 rfl
    have c2 := l2 (by omega)
    clear l2 l3
    go_enter Tryd.func25, Tryd.ntmps25
    go_wp2
    go_ret
    exact ⟨rfl, rfl⟩
  · have c2 := l2 h1
    have c3 : ((L : Int) == 10) = false := by simp; omega
    have c4 : (c == 0) = false := by simp; omega
    clear l2 l3
    go_enter Tryd.func25, Tryd.ntmps25
    go_wp2
    all_goals (go_ret; exact ⟨rfl, rfl⟩)
  · clear l2 l3
    go_enter Tryd.func25, Tryd.ntmps25
    go_wp2
    all_goals (go_ret; exact ⟨rfl, rfl⟩)
end Go.Proofs.YtphkleiamlllgaaDoor
