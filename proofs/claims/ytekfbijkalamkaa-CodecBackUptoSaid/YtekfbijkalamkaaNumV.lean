/-
  The reader of plain bytes: Zag, id, count, text.
-/
import Derived.Test.YtekfbijkalamkaaNumU
namespace Go.Proofs.Ytekfbijkalamkaa
open Go.RowKit
set_option linter.unusedVariables false      -- a walk need not use every condition

theorem ixor_ones (x : Int) (h0 : 0 ≤ x) (h1 : x ≤ 9223372036854775807) : bits .xor .i64 x (-1) = -1 - x := by
  show IntKind.i64.wrap (((BitVec.ofInt 64 x ^^^ BitVec.ofInt 64 (-1)).toNat : Nat) : Int) = _
  have e1 : BitVec.ofInt 64 (-1) = BitVec.allOnes 64 := by decide
  obtain ⟨m, rfl⟩ := Int.eq_ofNat_of_zero_le h0
  rw [e1, BitVec.xor_allOnes, BitVec.toNat_not, BitVec.ofInt_natCast, BitVec.toNat_ofNat, Nat.mod_eq_of_lt (by omega), IntKind.wrap_i64]
  omega
theorem ixor_zero (x : Int) (h0 : 0 ≤ x) (h1 : x ≤ 9223372036854775807) : bits .xor .i64 x 0 = x := by
  show IntKind.i64.wrap (((BitVec.ofInt 64 x ^^^ BitVec.ofInt 64 0).toNat : Nat) : Int) = _
  have e1 : BitVec.ofInt 64 0 = 0#64 := by decide
  obtain ⟨m, rfl⟩ := Int.eq_ofNat_of_zero_le h0
  rw [e1, BitVec.xor_zero, BitVec.ofInt_natCast, BitVec.toNat_ofNat, Nat.mod_eq_of_lt (by omega), IntKind.wrap_i64]
  omega
theorem and_one (u : Int) (h0 : 0 ≤ u) (h1 : u < 18446744073709551616) : bits .and .u64 u 1 = u % 2 := by
  obtain ⟨m, rfl⟩ := Int.eq_ofNat_of_zero_le h0
  have := bits_and_u64_nat m 1 (by omega) (by omega)
  rw [Nat.and_one_is_mod] at this
  rw [show ((1 : Nat) : Int) = 1 from rfl] at this
  rw [this]; omega
set_option maxHeartbeats 400000 in
theorem zag76 (u : Nat) (h1 : u < 18446744073709551616) (w : World) :
    Calls Try.prog 76 #[.int .u64 u] w fun e w' => e = .returned (.int .i64 (zagN u)) ∧ w' = w := by
  have ha := and_one u (by omega) (by omega)
  go_enter Try.func76, Try.ntmps76
  go_wp2
  go_ret
  refine ⟨ret_int ?_, rfl⟩
  unfold zagN
  by_cases h : u % 2 = 1
  · rw [if_pos h, show (u : Int) % 2 = 1 by omega, ixor_ones _ (by omega) (by omega)]; omega
  · rw [if_neg h, show (u : Int) % 2 = 0 by omega, Int.neg_zero, ixor_zero _ (by omega) (by omega)]; omega
theorem ret_pair {k k' : IntKind} {a b c : Int} (h : a = b) : Ending.returned (.tuple #[.int k a, .int k' c]) = .returned (.tuple #[.int k b, .int k' c]) := by rw [h]
/-- What id comes to. -/
def IdR (spec : R Nat) (r : Nat) (w : World) (e : Ending) (w' : World) : Prop :=
  (∃ u q, spec = .ok (u, q) ∧ e = .returned (.tuple #[.int .i64 (min u 9223372036854775807 : Nat), .int .i64 0]) ∧ Rq r q w w') ∨
    (∃ n, spec = .error n ∧ n ≠ 0 ∧ e = .returned (.tuple #[.int .i64 0, .int .i64 n]) ∧ w' = w)
set_option maxHeartbeats 1000000 in
theorem id77 (w : World) (r : Nat) (t : List UInt8) (h : Rd w r t) : Calls Try.prog 77 #[.pointer (some ⟨r, 0, none⟩)] w (IdR (pNum t) r w) := by
  have c75 := number75 w r t h
  cases hp : pNum t with
  | error n =>
    rw [hp] at c75
    go_enter Try.func77, Try.ntmps77
    go_wp2_with (go_at_call 75; refine c75.mono ?_; rintro e w' (⟨u, q, hh, -⟩ | ⟨n', hh, hn, rfl, rfl⟩); (focus (cases hh)); obtain rfl : n = n' := Except.error.inj hh; clear hh)
    go_ret2
    exact .inr ⟨n, rfl, hn, rfl, rfl⟩
  | ok x =>
    obtain ⟨u, q⟩ := x
    rw [hp] at c75
    have hm := Lib.hid (num_back hp).2
    clear hp
    go_enter Try.func77, Try.ntmps77
    go_wp2_with (go_at_call 75; refine c75.mono ?_; rintro e w' (⟨u', q', hh, hu, rfl, hq⟩ | ⟨n', hh, -⟩); rotate_left; (focus (cases hh)); go_must (obtain ⟨rfl, rfl⟩ : u = u' ∧ q = q' := by have := Except.ok.inj hh; exact ⟨congrArg Prod.fst this, congrArg Prod.snd this⟩); clear hh)
    all_goals (go_ret2; exact .inl ⟨u, q, rfl, ret_pair (by omega), hq⟩)
/-- What count comes to. -/
def pCount (most : Nat) (t : List UInt8) : R Nat := thn (pNum t) fun u s => if most < u then .error 30 else .ok (u, s)
def CntR (spec : R Nat) (r : Nat) (w : World) (e : Ending) (w' : World) : Prop :=
  (∃ u q, spec = .ok (u, q) ∧ e = .returned (.tuple #[.int .i64 u, .int .i64 0]) ∧ Rq r q w w') ∨
    (∃ n, spec = .error n ∧ n ≠ 0 ∧ e = .returned (.tuple #[.int .i64 0, .int .i64 n]) ∧ w.grownBy w' (some r))
set_option maxHeartbeats 1000000 in
theorem count83 (most : Nat) (hmost : most ≤ 512) (w : World) (r : Nat) (t : List UInt8) (h : Rd w r t) : Calls Try.prog 83 #[.pointer (some ⟨r, 0, none⟩), .int .u64 most] w (CntR (pCount most t) r w) := by
  have c75 := number75 w r t h
  unfold pCount
  cases hp : pNum t with
  | error n =>
    rw [hp] at c75
    go_enter Try.func83, Try.ntmps83
    go_wp2_with (go_at_call 75; refine c75.mono ?_; rintro e w' (⟨u, q, hh, -⟩ | ⟨n', hh, hn, rfl, rfl⟩); (focus (cases hh)); obtain rfl : n = n' := Except.error.inj hh; clear hh; have hn1 : (n == 0) = false := (by simp; omega); have hn2 : (n != 0) = true := (by simp; omega))
    go_ret2
    exact .inr ⟨n, rfl, hn, rfl, World.grownBy.refl _ _⟩
  | ok x =>
    obtain ⟨u, q⟩ := x
    rw [hp] at c75
    rw [thn_ok]
    clear hp
    by_cases hlt : most < u
    · rw [if_pos hlt]
      go_enter Try.func83, Try.ntmps83
      go_wp2_with (go_at_call 75; refine c75.mono ?_; rintro e w' (⟨u', q', hh, hu, rfl, hq⟩ | ⟨n', hh, -⟩); rotate_left; (focus (cases hh)); go_must (obtain ⟨rfl, rfl⟩ : u = u' ∧ q = q' := by have := Except.ok.inj hh; exact ⟨congrArg Prod.fst this, congrArg Prod.snd this⟩); clear hh)
      go_ret2
      exact .inr ⟨30, rfl, by decide, rfl, hq.1⟩
    · rw [if_neg hlt]
      have hI : u ≤ 512 := by omega
      go_enter Try.func83, Try.ntmps83
      go_wp2_with (go_at_call 75; refine c75.mono ?_; rintro e w' (⟨u', q', hh, hu, rfl, hq⟩ | ⟨n', hh, -⟩); rotate_left; (focus (cases hh)); go_must (obtain ⟨rfl, rfl⟩ : u = u' ∧ q = q' := by have := Except.ok.inj hh; exact ⟨congrArg Prod.fst this, congrArg Prod.snd this⟩); clear hh)
      go_ret2
      exact .inl ⟨u, q, rfl, rfl, hq⟩
/-- What text comes to. -/
def pText (t : List UInt8) : R (List UInt8) := thn (pCount 128 t) fun u s => if s.length < u then .error 11 else .ok (s.take u, s.drop u)
def TxtR (spec : R (List UInt8)) (r : Nat) (w : World) (e : Ending) (w' : World) : Prop :=
  (∃ s q, spec = .ok (s, q) ∧ e = .returned (.tuple #[.string ⟨s.toArray⟩, .int .i64 0]) ∧ Rq r q w w') ∨
    (∃ n x, spec = .error n ∧ n ≠ 0 ∧ e = .returned (.tuple #[.string x, .int .i64 n]) ∧ w.grownBy w' (some r))
theorem cntR_err {n : Int} {r : Nat} {w : World} {e : Ending} {w' : World} (h : CntR (.error n) r w e w') : n ≠ 0 ∧ e = .returned (.tuple #[.int .i64 0, .int .i64 n]) ∧ w.grownBy w' (some r) := by
  rcases h with ⟨u, q, hh, -⟩ | ⟨n', hh, h⟩
  · cases hh
  · obtain rfl := Except.error.inj hh
    exact h
theorem cntR_ok {u : Nat} {q : List UInt8} {r : Nat} {w : World} {e : Ending} {w' : World} (h : CntR (.ok (u, q)) r w e w') : e = .returned (.tuple #[.int .i64 u, .int .i64 0]) ∧ Rq r q w w' := by
  rcases h with ⟨u', q', hh, h⟩ | ⟨n', hh, -⟩
  · have := Except.ok.inj hh
    obtain ⟨rfl, rfl⟩ : u = u' ∧ q = q' := ⟨congrArg Prod.fst this, congrArg Prod.snd this⟩
    exact h
  · cases hh
set_option maxHeartbeats 1000000 in
theorem text78 (w : World) (r : Nat) (t : List UInt8) (h : Rd w r t) : Calls Try.prog 78 #[.pointer (some ⟨r, 0, none⟩)] w (TxtR (pText t) r w) := by
  have c83 := count83 128 (by decide) w r t h
  unfold pText
  cases hp : pCount 128 t with
  | error n =>
    rw [hp] at c83
    go_enter Try.func78, Try.ntmps78
    go_wp2_with (go_at_call 83; refine c83.mono ?_; rintro e w' hrr; obtain ⟨hn, rfl, hg⟩ := cntR_err hrr; clear hrr; have hn2 : (n != 0) = true := (by simp; omega))
    go_ret2
    exact .inr ⟨n, _, rfl, hn, rfl, hg⟩
  | ok x =>
    obtain ⟨u, s⟩ := x
    rw [hp] at c83
    rw [thn_ok]
    clear hp
    by_cases hlt : s.length < u
    · rw [if_pos hlt]
      have c69 := fun w h => pass_no w r s h u hlt
      have cv := fun w => (bs_nil w).str
      clear hlt
      go_enter Try.func78, Try.ntmps78
      go_wp2_with (first
        | (go_at_call 83; refine c83.mono ?_; rintro e w1 hrr; obtain ⟨rfl, hq⟩ := cntR_ok hrr; clear hrr)
        | (go_at_call 69; refine (c69 _ hq.2).mono ?_; rintro e w2 ⟨rfl, rfl⟩))
      go_ret2
      exact .inr ⟨11, _, rfl, by decide, rfl, hq.1⟩
    · rw [if_neg hlt]
      have c69 := fun w h => pass_yes w r s h u (by omega)
      generalize s.take u = x at *
      generalize s.drop u = y at *
      clear hlt
      go_enter Try.func78, Try.ntmps78
      go_wp2_with (first
        | (go_at_call 83; refine c83.mono ?_; rintro e w1 hrr; obtain ⟨rfl, hq⟩ := cntR_ok hrr; clear hrr)
        | (go_at_call 69; refine (c69 _ hq.2).mono ?_; rintro e w2 ⟨v, rfl, hb, hq2⟩; have cv := hb.1.str; obtain ⟨pv, nv, rfl, -, -⟩ := hb.1.slice; clear hb; have hq3 := hq.trans hq2))
      go_ret2
      exact .inl ⟨x, y, rfl, rfl, hq3⟩
end Go.Proofs.Ytekfbijkalamkaa
