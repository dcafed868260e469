/-
  isThat of package graph: an element is a kind and an id, and no other field.
-/
import Derived.Test.YteknbploiombiaaZCmp
namespace Go.Proofs.Yteknbploiombiaa
open Go.RowKit
set_option linter.unusedVariables false      -- a walk need not use every condition

/-- A value without a text and without a list. -/
def plain (s : ByteArray) (l : List V) : Bool := decide (s.data = #[]) && l.isEmpty
theorem icmp_zero (a b : Int) : (icmp a b = 0) ↔ a = b := by
  unfold icmp
  split
  · omega
  · split <;> omega
theorem bytes_zero (s : List UInt8) : Lib.compareBytes s [] = 0 ↔ s = [] := by
  cases s with
  | nil => simp [Lib.compareBytes]
  | cons a l => simp [Lib.compareBytes]
theorem cmpL_nil (l : List V) : cmpL l [] = 0 ↔ l = [] := by
  cases l with
  | nil => simp [cmpL]
  | cons a l => simp [cmpL]
theorem cmp_that (k n id : Int) (s : ByteArray) (l : List V) : ((V.mk k n s l).cmp (V.mk k id ⟨#[]⟩ []) == 0) = (decide (id = n) && plain s l) := by
  rw [Bool.eq_iff_iff]
  simp only [V.cmp, plain, beq_iff_eq, Bool.and_eq_true, decide_eq_true_eq, List.isEmpty_iff]
  have h0 : icmp k k = 0 := (icmp_zero k k).2 rfl
  have hs : s.data = #[] ↔ s.data.toList = [] := by simp
  have hb := bytes_zero s.data.toList
  have hl := cmpL_nil l
  have hn := icmp_zero n id
  unfold lex
  rw [h0]
  show (if icmp n id ≠ 0 then icmp n id else if Lib.compareBytes s.data.toList [] ≠ 0 then Lib.compareBytes s.data.toList [] else cmpL l []) = 0 ↔ _
  rw [hs]
  by_cases a : icmp n id = 0
  · rw [if_neg (by simpa using a)]
    by_cases b : Lib.compareBytes s.data.toList [] = 0
    · rw [if_neg (by simpa using b)]
      constructor
      · intro h; exact ⟨(hn.1 a).symm, hb.1 b, hl.1 h⟩
      · intro h; exact hl.2 h.2.2
    · rw [if_pos b]
      constructor
      · intro h; exact absurd h b
      · intro h; exact absurd (hb.2 h.2.1) b
  · rw [if_pos a]
    constructor
    · intro h; exact absurd h a
    · intro h; exact absurd (hn.2 h.1.symm) a
set_option maxHeartbeats 1000000 in
theorem isThat69 (k n : Int) (s : ByteArray) (l : List V) (p : Option Addr) (m d : Nat) (id : Int) (hid : I64 id) (w : World) (h : (V.mk k n s l).In w 0 (.slice p m d)) :
    Calls Try.prog 69 #[.agg #[.int .i64 k, .int .i64 n, .string s, .slice p m d], .int .i64 id] w fun e w' => e = .returned (.bool (decide (id = n) && plain s l)) ∧ Below w.heap.size w w' := by
  have hk := ((V.in_iff _ _ _ _).1 h).1
  have hy : ∀ W : World, (V.mk k id ⟨#[]⟩ []).In W 0 (.slice none 0 0) := fun W => (V.in_iff _ _ _ _).2 ⟨hk, hid, by show (0 : Nat) ≤ _; omega, none, 0, rfl, Nat.le_refl _, by unfold maxLen; omega, by simp [V.l], .inl rfl⟩
  have c91 := fun W (hW : Below w.heap.size w W) => same_any (V.mk k n s l) (V.mk k id ⟨#[]⟩ []) _ _ W (h.on hW) (hy W)
  rw [cmp_that] at c91
  generalize (decide (id = n) && plain s l) = R at *
  unfold V.agg at c91
  simp only [V.k, V.n, V.s] at c91
  go_enter Try.func69, Try.ntmps69
  go_wp2_with (go_at_call 91; refine (c91 _ (bel1 w _)).mono ?_; rintro e w1 ⟨rfl, hb1⟩)
  go_ret
  exact ⟨rfl, bel_then (bel1 w _) hb1.bel⟩
end Go.Proofs.Yteknbploiombiaa
