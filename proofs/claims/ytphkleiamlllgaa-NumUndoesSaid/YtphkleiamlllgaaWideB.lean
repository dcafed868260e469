/-
  What product and narrow of package num do.
-/
import Derived.Test.YtphkleiamlllgaaWideA
import Derived.Deep.RegionHeld3
import Derived.ChangeKeysEq
namespace Go.Proofs.Ytphkleiamlllgaa
open Go.RowKit Go.Shelf

/-- The other factor's word where a factor is below 0, else 0. -/
def ms (a b : Int) : Int := if a < 0 then b % 18446744073709551616 else 0

theorem and_sb (a b : Int) : bits .and .u64 (sb a) (wLo b) = ms a b := by
  obtain ⟨h0, h1⟩ := wLo_bd b
  obtain ⟨m, hm⟩ := Int.eq_ofNat_of_zero_le h0
  have e : b % 18446744073709551616 = (m : Int) := hm
  unfold ms
  rw [hm, e]
  rw [hm] at h1
  unfold sb
  split
  · have h := bits_and_u64_nat 18446744073709551615 m (by omega) (by omega)
    rw [Nat.and_comm, show m &&& 18446744073709551615 = m % 18446744073709551616 from Nat.and_two_pow_sub_one_eq_mod m 64, Nat.mod_eq_of_lt (by omega)] at h
    exact h
  · have h := bits_and_u64_nat 0 m (by omega) (by omega)
    rw [Nat.zero_and] at h
    exact h

set_option maxHeartbeats 400000 in
theorem product_any (a b : Int) (ha : fits a = true) (hb : fits b = true) (w : World) :
    Calls Try.prog 30 #[.int .i64 a, .int .i64 b] w fun e w' =>
      e = .returned (.agg #[.int .u64 (wHi (a * b)), .int .u64 (wLo (a * b))]) ∧ Gb w w' := by
  obtain ⟨a0, a1⟩ := wLo_bd a
  obtain ⟨b0, b1⟩ := wLo_bd b
  have wa := wrap_lo a
  have wb := wrap_lo b
  have na := and_sb a b
  have nb := and_sb b a
  have hp := prod_hi a b ha hb
  have hp' : IntKind.u64.wrap (IntKind.u64.wrap (wLo a * wLo b / 18446744073709551616 - ms a b) - ms b a) = wHi (a * b) := by
    rw [IntKind.wrap_u64, IntKind.wrap_u64]; exact hp
  have hl : wLo a * wLo b % 18446744073709551616 = wLo (a * b) := prod_lo a b
  clear hp
  go_enter Try.func30, Try.ntmps30
  go_wp2_with (first | (go_at_call 40; refine (mul64_any _ _ a0 a1 b0 b1 _).mono ?_; rintro e w' ⟨rfl, rfl⟩) | (go_at_call 37; refine (signBits_any _ (by assumption) _).mono ?_; rintro e w' ⟨rfl, rfl⟩))
  simp [bodyPost, results, Try.results30, go_sem]
  exact (Gb.refl _).alloc _ _

theorem cells32 : Try.prog.cellsOf 32 = 1 := by kernel_rfl
theorem info32 : (Try.prog.info? 32).isSome = true := by kernel_rfl
theorem eq42 (a b c d : Int) (w : World) : (Op.equalIn 10000 42 (.agg #[.int .u64 a, .int .u64 b]) (.agg #[.int .u64 c, .int .u64 d])).run Try.prog w =
    .ok (a == c && b == d) w := by
  obtain ⟨i, hi⟩ := Option.isSome_iff_exists.1 info32
  rw [run_equalIn_array w 9999 _ _ Try.underlying42 hi, cells32]
  simp [List.range, List.range.loop, Op.eqItems, part, go_sem, Try.underlying32]
  by_cases h : a = c <;> by_cases h' : b = d <;> simp [h, h']
theorem eq42_same (a b : Int) (w : World) : (Op.equalIn 10000 42 (.agg #[.int .u64 a, .int .u64 b]) (.agg #[.int .u64 a, .int .u64 b])).run Try.prog w = .ok true w := by
  rw [eq42]; simp
theorem eq42_not (a b c d : Int) (h : a ≠ c) (w : World) : (Op.equalIn 10000 42 (.agg #[.int .u64 a, .int .u64 b]) (.agg #[.int .u64 c, .int .u64 d])).run Try.prog w = .ok false w := by
  rw [eq42]; simp [h]

set_option maxHeartbeats 400000 in
theorem narrow_yes (x : Int) (h : fits x = true) (w : World) :
    Calls Try.prog 28 #[.agg #[.int .u64 (wHi x), .int .u64 (wLo x)]] w fun e w' =>
      e = .returned (.tuple #[.int .i64 x, .int .i64 0]) ∧ Gb w w' := by
  have e1 : IntKind.i64.wrap (wLo x) = x := by rw [IntKind.wrap_i64]; exact narrow_val h
  have e2 := eq42_same (wHi x) (wLo x)
  go_enter Try.func28, Try.ntmps28
  go_wp2
  go_region_held3 (fun w' => w'.cell? ⟨w.heap.size, 0, none⟩ = some (.int .u64 (wHi x)) ∧ w'.cell? ⟨w.heap.size, 1, none⟩ = some (.int .u64 (wLo x))) (simp [go_sem, World.cell?_alloc_past])
    (first
      | (go_at_call 26; refine (widen_any x h _).mono ?_; rintro e w' ⟨rfl, o1, rfl⟩))
  go_wp2
  go_ret2
  exact ⟨rfl, by repeat (first | exact Gb.refl _ | apply Gb.drew | apply Gb.alloc)⟩

set_option maxHeartbeats 400000 in
theorem narrow_no (x : Int) (h : fits x = false) (h1 : -170141183460469231731687303715884105728 ≤ x) (h2 : x < 170141183460469231731687303715884105728) (w : World) :
    Calls Try.prog 28 #[.agg #[.int .u64 (wHi x), .int .u64 (wLo x)]] w fun e w' =>
      e = .returned (.tuple #[.int .i64 0, .int .i64 7]) ∧ Gb w w' := by
  have hi := narrow_iff x h1 h2
  obtain ⟨m, hm⟩ : ∃ m, IntKind.i64.wrap (wLo x) = m := ⟨_, rfl⟩
  have hm' : (wLo x + 9223372036854775808) % 18446744073709551616 - 9223372036854775808 = m := by rw [← hm, IntKind.wrap_i64]
  have hf : fits m = true := by rw [fits_iff]; omega
  rw [hm', sb_wide hf] at hi
  have hne : wHi m ≠ wHi x := fun e => by rw [hi.2 e] at h; cases h
  have e2 := fun o => eq42_not (wHi m) o (wHi x) (wLo x) hne
  clear hi hm' h1 h2 hne
  go_enter Try.func28, Try.ntmps28
  go_wp2
  go_region_held3 (fun w' => w'.cell? ⟨w.heap.size, 0, none⟩ = some (.int .u64 (wHi x)) ∧ w'.cell? ⟨w.heap.size, 1, none⟩ = some (.int .u64 (wLo x))) (simp [go_sem, World.cell?_alloc_past])
    (first
      | (go_at_call 26; refine (widen_any m hf _).mono ?_; rintro e w' ⟨rfl, o1, rfl⟩))
  go_wp2
  go_ret2
  exact ⟨rfl, by repeat (first | exact Gb.refl _ | apply Gb.drew | apply Gb.alloc)⟩

theorem narrow_any (x : Int) (h1 : -170141183460469231731687303715884105728 ≤ x) (h2 : x < 170141183460469231731687303715884105728) (w : World) :
    Calls Try.prog 28 #[.agg #[.int .u64 (wHi x), .int .u64 (wLo x)]] w fun e w' =>
      e = .returned (.tuple #[.int .i64 (nv x), .int .i64 (ne x)]) ∧ Gb w w' := by
  by_cases h : fits x = true
  · rw [nv_yes h, ne_yes h]; exact narrow_yes x h w
  · have h' : fits x = false := by simpa using h
    rw [nv_no h', ne_no h']; exact narrow_no x h' h1 h2 w

end Go.Proofs.Ytphkleiamlllgaa
