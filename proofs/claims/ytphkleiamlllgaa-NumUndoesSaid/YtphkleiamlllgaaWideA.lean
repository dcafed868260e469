/-
  What the inner functions of package num do: signBits, widen, plus, minus, Mul64.
-/
import Derived.Test.YtphkleiamlllgaaRows
import Derived.Test.YtphkleiamlllgaaMath
import Derived.WalkKit
import Derived.WalkSpells
import Derived.RowKit3
import Derived.Below
import Derived.Laws.Bits64b
import Derived.Shelf.Bits.Mul64
import Derived.Laws.Externs
import Derived.Shelf.Spec.BitsCarry
namespace Go.Proofs.Ytphkleiamlllgaa
open Go.RowKit Go.Shelf

/-- At most new blocks and draws: of what was there nothing has turned, in both of the kit's words for it. -/
def Gb (w w' : World) : Prop := Grown w w' ∧ Below w.heap.size w w'
theorem Gb.refl (w : World) : Gb w w := ⟨Grown.refl _, Below.refl _ _⟩
theorem Gb.alloc {w w' : World} (h : Gb w w') (c : Array Value) (t : TypeId) : Gb w (w'.alloc (.cells c t)) := ⟨h.1.alloc c t, h.2.alloc h.2.size _⟩
theorem Gb.drew {w w' : World} (h : Gb w w') : Gb w w'.drew := ⟨h.1.drew, h.2.drew⟩
theorem Gb.trans {u v w : World} (h : Gb u v) (k : Gb v w) : Gb u w :=
  ⟨⟨World.keptBut_trans h.1.1 k.1.1, fun a => (k.1.2.1 a).trans (h.1.2.1 a), Nat.le_trans h.1.2.2 k.1.2.2⟩, h.2.trans (k.2.mono h.2.size)⟩

theorem add64 (x y c : Int) (hx : 0 ≤ x) (hy : 0 ≤ y) (hc0 : 0 ≤ c) (hc : c ≤ 1) (w : World) : (callFunc 38 #[.int .u64 x, .int .u64 y, .int .u64 c]).run Try.prog w =
    .ok (.value (.tuple #[.int .u64 ((x + y + c) % 18446744073709551616), .int .u64 ((x + y + c) / 18446744073709551616)])) w := by
  rw [run_callFunc_extern Try.func38 (by kernel_rfl) (by kernel_rfl) (by kernel_rfl) (e := add64Entry) (by kernel_rfl), run_add64 x y c hx hy hc0 hc]
  rfl
theorem add64_0 (x y : Int) (hx : 0 ≤ x) (hy : 0 ≤ y) (w : World) : (callFunc 38 #[.int .u64 x, .int .u64 y, .int .u64 0]).run Try.prog w =
    .ok (.value (.tuple #[.int .u64 ((x + y) % 18446744073709551616), .int .u64 ((x + y) / 18446744073709551616)])) w := by
  simpa using add64 x y 0 hx hy (Int.le_refl 0) (by decide) w
theorem sub64 (x y b : Int) (hx : 0 ≤ x) (hy : 0 ≤ y) (hy' : y < 18446744073709551616) (hb0 : 0 ≤ b) (hb : b ≤ 1) (w : World) : (callFunc 39 #[.int .u64 x, .int .u64 y, .int .u64 b]).run Try.prog w =
    .ok (.value (.tuple #[.int .u64 ((x - y - b) % 18446744073709551616), .int .u64 (bor x (y + b))])) w := by
  obtain ⟨x, rfl⟩ := Int.eq_ofNat_of_zero_le hx
  obtain ⟨y, rfl⟩ := Int.eq_ofNat_of_zero_le hy
  obtain ⟨b, rfl⟩ := Int.eq_ofNat_of_zero_le hb0
  have e1 : (((x + 18446744073709551616 - y - b) % 18446744073709551616 : Nat) : Int) = ((x : Int) - y - b) % 18446744073709551616 := by omega
  have e2 : ((if x < y + b then 1 else 0 : Nat) : Int) = bor (x : Int) (y + b) := by unfold bor; split <;> split <;> omega
  rw [← e1, ← e2]
  rw [run_callFunc_extern Try.func39 (by kernel_rfl) (by kernel_rfl) (by kernel_rfl) (e := sub64Entry) (by kernel_rfl), run_sub64 x y b (by omega)]
  rfl
theorem sub64_0 (x y : Int) (hx : 0 ≤ x) (hy : 0 ≤ y) (hy' : y < 18446744073709551616) (w : World) : (callFunc 39 #[.int .u64 x, .int .u64 y, .int .u64 0]).run Try.prog w =
    .ok (.value (.tuple #[.int .u64 ((x - y) % 18446744073709551616), .int .u64 (bor x y)])) w := by
  simpa using sub64 x y 0 hx hy hy' (Int.le_refl 0) (by decide) w

theorem ret_int {k : IntKind} {a b : Int} (h : a = b) : Ending.returned (.int k a) = .returned (.int k b) := by rw [h]

set_option maxHeartbeats 400000 in
theorem signBits_any (n : Int) (hn : fits n = true) (w : World) :
    Calls Try.prog 37 #[.int .i64 n] w fun e w' => e = .returned (.int .u64 (sb n)) ∧ w' = w := by
  have hb := (fits_iff n).1 hn
  obtain ⟨h1, h2⟩ := hb
  clear hn
  go_enter Try.func37, Try.ntmps37
  go_wp2
  go_ret
  exact ⟨ret_int (by rw [IntKind.wrap_u64]; unfold sb; split <;> omega), rfl⟩

theorem wrap_lo (n : Int) : IntKind.u64.wrap n = wLo n := by rw [IntKind.wrap_u64]; rfl

set_option maxHeartbeats 400000 in
theorem widen_any (n : Int) (hn : fits n = true) (w : World) :
    Calls Try.prog 26 #[.int .i64 n] w fun e w' => e = .returned (.agg #[.int .u64 (wHi n), .int .u64 (wLo n)]) ∧ ∃ c : Array Value, w' = w.alloc (.cells c 42) := by
  have hs := sb_wide hn
  go_enter Try.func26, Try.ntmps26
  go_wp2_with (go_at_call 37; refine (signBits_any n hn _).mono ?_; rintro e w' ⟨rfl, rfl⟩)
  simp [bodyPost, results, Try.results26, go_sem, wrap_lo]
  exact ⟨_, rfl⟩

set_option maxHeartbeats 400000 in
/-- plus, with its three new blocks told. -/
theorem plus_laid (x y : Int) (w : World) :
    Calls Try.prog 27 #[.agg #[.int .u64 (wHi x), .int .u64 (wLo x)], .agg #[.int .u64 (wHi y), .int .u64 (wLo y)]] w fun e w' =>
      e = .returned (.agg #[.int .u64 (wHi (x + y)), .int .u64 (wLo (x + y))]) ∧ ∃ c1 c2 c3 : Array Value, w' = ((w.alloc (.cells c1 42)).alloc (.cells c2 42)).alloc (.cells c3 42) := by
  obtain ⟨a1, a2⟩ := wHi_bd x; obtain ⟨b1, b2⟩ := wLo_bd x; obtain ⟨c1, c2⟩ := wHi_bd y; obtain ⟨d1, d2⟩ := wLo_bd y
  have k0 : 0 ≤ (wLo x + wLo y) / 18446744073709551616 := by omega
  have k1 : (wLo x + wLo y) / 18446744073709551616 ≤ 1 := by omega
  go_enter Try.func27, Try.ntmps27
  go_wp2_with (first | simp only [add64_0 (wLo x) (wLo y) b1 d1] | simp only [add64 (wHi x) (wHi y) _ a1 c1 k0 k1])
  simp [bodyPost, results, Try.results27, go_sem]
  exact ⟨⟨plus_hi x y, plus_lo x y⟩, _, _, _, rfl⟩

theorem plus_any (x y : Int) (w : World) :
    Calls Try.prog 27 #[.agg #[.int .u64 (wHi x), .int .u64 (wLo x)], .agg #[.int .u64 (wHi y), .int .u64 (wLo y)]] w fun e w' =>
      e = .returned (.agg #[.int .u64 (wHi (x + y)), .int .u64 (wLo (x + y))]) ∧ Gb w w' := by
  refine (plus_laid x y w).mono ?_
  rintro e w' ⟨he, c1, c2, c3, rfl⟩
  exact ⟨he, (((Gb.refl _).alloc _ _).alloc _ _).alloc _ _⟩

set_option maxHeartbeats 400000 in
theorem minus_any (x y : Int) (w : World) :
    Calls Try.prog 29 #[.agg #[.int .u64 (wHi x), .int .u64 (wLo x)], .agg #[.int .u64 (wHi y), .int .u64 (wLo y)]] w fun e w' =>
      e = .returned (.agg #[.int .u64 (wHi (x - y)), .int .u64 (wLo (x - y))]) ∧ Gb w w' := by
  obtain ⟨a1, a2⟩ := wHi_bd x; obtain ⟨b1, b2⟩ := wLo_bd x; obtain ⟨c1, c2⟩ := wHi_bd y; obtain ⟨d1, d2⟩ := wLo_bd y
  obtain ⟨k0, k1⟩ := bor_bd (wLo x) (wLo y)
  go_enter Try.func29, Try.ntmps29
  go_wp2_with (first | simp only [sub64_0 (wLo x) (wLo y) b1 d1 d2] | simp only [sub64 (wHi x) (wHi y) _ a1 c1 c2 k0 k1])
  simp [bodyPost, results, Try.results29, go_sem]
  exact ⟨⟨minus_hi x y, minus_lo x y⟩, (((Gb.refl _).alloc _ _).alloc _ _).alloc _ _⟩

def lays264_ren : Ren := ⟨fun | 264 => 40 | n => n, fun | 53 => 32 | 46 => 52 | n => n, fun | n => n⟩
theorem lays264 : Lays.n264 Try.prog lays264_ren := {
  mixed := by kernel_rfl
  f264 := Try.func40.trans (congrArg some (by kernel_rfl))
  t46 := Try.underlying52
  a46 := Try.isAgg52
  z46 := Try.sizeOf52
  v46 := Try.zeroValue52
  t53 := Try.underlying32
  a53 := Try.isAgg32
  z53 := Try.sizeOf32
  v53 := Try.zeroValue32 }
theorem mul64_nat (x y : Nat) (hx : x < 18446744073709551616) (hy : y < 18446744073709551616) (w : World) :
    Calls Try.prog 40 #[.int .u64 x, .int .u64 y] w fun e w' => e = .returned (.tuple #[.int .u64 ((x * y / 18446744073709551616 : Nat) : Int), .int .u64 ((x * y % 18446744073709551616 : Nat) : Int)]) ∧ w' = w :=
  Any.bits_Mul64 lays264 x y hx hy w

theorem mul64_any (x y : Int) (hx0 : 0 ≤ x) (hx : x < 18446744073709551616) (hy0 : 0 ≤ y) (hy : y < 18446744073709551616) (w : World) :
    Calls Try.prog 40 #[.int .u64 x, .int .u64 y] w fun e w' => e = .returned (.tuple #[.int .u64 (x * y / 18446744073709551616), .int .u64 (x * y % 18446744073709551616)]) ∧ w' = w := by
  obtain ⟨x, rfl⟩ := Int.eq_ofNat_of_zero_le hx0
  obtain ⟨y, rfl⟩ := Int.eq_ofNat_of_zero_le hy0
  have := mul64_nat x y (by omega) (by omega) w
  simpa using this

end Go.Proofs.Ytphkleiamlllgaa
