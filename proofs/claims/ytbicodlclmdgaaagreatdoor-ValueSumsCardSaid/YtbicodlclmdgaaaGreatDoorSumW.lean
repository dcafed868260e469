/-
  What the inner functions of package num for sums do.
-/
import Derived.Test.YtbicodlclmdgaaaGreatDoorChecked
import Derived.Test.YtbicodlclmdgaaaGreatDoorSumM
import Derived.WalkKit
import Derived.WalkSpells
import Derived.RowKit3
import Derived.Below
import Derived.Laws.Bits64b
import Derived.Laws.Externs
import Derived.Shelf.Spec.BitsCarry
import Derived.Deep.RegionHeld3
import Derived.ChangeKeysEq
namespace Go.Proofs.YtbicodlclmdgaaaGreatDoor.sums
open Go.RowKit Go.Shelf

/-- At most new blocks and draws: of what was there nothing has turned, in both of the kit's words for it. -/
def Gb (w w' : World) : Prop := Grown w w' ∧ Below w.heap.size w w'
theorem Gb.refl (w : World) : Gb w w := ⟨Grown.refl _, Below.refl _ _⟩
theorem Gb.alloc {w w' : World} (h : Gb w w') (c : Array Value) (t : TypeId) : Gb w (w'.alloc (.cells c t)) := ⟨h.1.alloc c t, h.2.alloc h.2.size _⟩
theorem Gb.drew {w w' : World} (h : Gb w w') : Gb w w'.drew := ⟨h.1.drew, h.2.drew⟩
theorem Gb.trans {u v w : World} (h : Gb u v) (k : Gb v w) : Gb u w :=
  ⟨⟨World.keptBut_trans h.1.1 k.1.1, fun a => (k.1.2.1 a).trans (h.1.2.1 a), Nat.le_trans h.1.2.2 k.1.2.2⟩, h.2.trans (k.2.mono h.2.size)⟩

theorem add64 (x y c : Int) (hx : 0 ≤ x) (hy : 0 ≤ y) (hc0 : 0 ≤ c) (hc : c ≤ 1) (w : World) : (callFunc 94 #[.int .u64 x, .int .u64 y, .int .u64 c]).run Tryz.prog w =
    .ok (.value (.tuple #[.int .u64 ((x + y + c) % 18446744073709551616), .int .u64 ((x + y + c) / 18446744073709551616)])) w := by
  rw [run_callFunc_extern Tryz.func94 (by kernel_rfl) (by kernel_rfl) (by kernel_rfl) (e := add64Entry) (by kernel_rfl), run_add64 x y c hx hy hc0 hc]
  rfl
theorem add64_0 (x y : Int) (hx : 0 ≤ x) (hy : 0 ≤ y) (w : World) : (callFunc 94 #[.int .u64 x, .int .u64 y, .int .u64 0]).run Tryz.prog w =
    .ok (.value (.tuple #[.int .u64 ((x + y) % 18446744073709551616), .int .u64 ((x + y) / 18446744073709551616)])) w := by
  simpa using add64 x y 0 hx hy (Int.le_refl 0) (by decide) w
theorem ret_int {k : IntKind} {a b : Int} (h : a = b) : Ending.returned (.int k a) = .returned (.int k b) := by rw [h]

set_option maxHeartbeats 400000 in
theorem signBits_any (n : Int) (hn : fits n = true) (w : World) :
    Calls Tryz.prog 95 #[.int .i64 n] w fun e w' => e = .returned (.int .u64 (sb n)) ∧ w' = w := by
  have hb := (fits_iff n).1 hn
  obtain ⟨h1, h2⟩ := hb
  clear hn
  go_enter Tryz.func95, Tryz.ntmps95
  go_wp2
  go_ret
  exact ⟨ret_int (by rw [IntKind.wrap_u64]; unfold sb; split <;> omega), rfl⟩

theorem wrap_lo (n : Int) : IntKind.u64.wrap n = wLo n := by rw [IntKind.wrap_u64]; rfl

set_option maxHeartbeats 400000 in
theorem widen_any (n : Int) (hn : fits n = true) (w : World) :
    Calls Tryz.prog 75 #[.int .i64 n] w fun e w' => e = .returned (.agg #[.int .u64 (wHi n), .int .u64 (wLo n)]) ∧ ∃ c : Array Value, w' = w.alloc (.cells c 80) := by
  have hs := sb_wide hn
  go_enter Tryz.func75, Tryz.ntmps75
  go_wp2_with (go_at_call 95; refine (signBits_any n hn _).mono ?_; rintro e w' ⟨rfl, rfl⟩)
  simp [bodyPost, results, Tryz.results75, go_sem, wrap_lo]
  exact ⟨_, rfl⟩

set_option maxHeartbeats 400000 in
/-- plus, with its three new blocks told. -/
theorem plus_laid (x y : Int) (w : World) :
    Calls Tryz.prog 74 #[.agg #[.int .u64 (wHi x), .int .u64 (wLo x)], .agg #[.int .u64 (wHi y), .int .u64 (wLo y)]] w fun e w' =>
      e = .returned (.agg #[.int .u64 (wHi (x + y)), .int .u64 (wLo (x + y))]) ∧ ∃ c1 c2 c3 : Array Value, w' = ((w.alloc (.cells c1 80)).alloc (.cells c2 80)).alloc (.cells c3 80) := by
  obtain ⟨a1, a2⟩ := wHi_bd x; obtain ⟨b1, b2⟩ := wLo_bd x; obtain ⟨c1, c2⟩ := wHi_bd y; obtain ⟨d1, d2⟩ := wLo_bd y
  have k0 : 0 ≤ (wLo x + wLo y) / 18446744073709551616 := by omega
  have k1 : (wLo x + wLo y) / 18446744073709551616 ≤ 1 := by omega
  go_enter Tryz.func74, Tryz.ntmps74
  go_wp2_with (first | simp only [add64_0 (wLo x) (wLo y) b1 d1] | simp only [add64 (wHi x) (wHi y) _ a1 c1 k0 k1])
  simp [bodyPost, results, Tryz.results74, go_sem]
  exact ⟨⟨plus_hi x y, plus_lo x y⟩, _, _, _, rfl⟩

theorem plus_any (x y : Int) (w : World) :
    Calls Tryz.prog 74 #[.agg #[.int .u64 (wHi x), .int .u64 (wLo x)], .agg #[.int .u64 (wHi y), .int .u64 (wLo y)]] w fun e w' =>
      e = .returned (.agg #[.int .u64 (wHi (x + y)), .int .u64 (wLo (x + y))]) ∧ Gb w w' := by
  refine (plus_laid x y w).mono ?_
  rintro e w' ⟨he, c1, c2, c3, rfl⟩
  exact ⟨he, (((Gb.refl _).alloc _ _).alloc _ _).alloc _ _⟩

theorem cells32 : Tryz.prog.cellsOf 78 = 1 := by kernel_rfl
theorem info32 : (Tryz.prog.info? 78).isSome = true := by kernel_rfl
theorem eq42 (a b c d : Int) (w : World) : (Op.equalIn 10000 80 (.agg #[.int .u64 a, .int .u64 b]) (.agg #[.int .u64 c, .int .u64 d])).run Tryz.prog w =
    .ok (a == c && b == d) w := by
  obtain ⟨i, hi⟩ := Option.isSome_iff_exists.1 info32
  rw [run_equalIn_array w 9999 _ _ Tryz.underlying80 hi, cells32]
  simp [List.range, List.range.loop, Op.eqItems, part, go_sem, Tryz.underlying78]
  by_cases h : a = c <;> by_cases h' : b = d <;> simp [h, h']
theorem eq42_same (a b : Int) (w : World) : (Op.equalIn 10000 80 (.agg #[.int .u64 a, .int .u64 b]) (.agg #[.int .u64 a, .int .u64 b])).run Tryz.prog w = .ok true w := by
  rw [eq42]; simp
theorem eq42_not (a b c d : Int) (h : a ≠ c) (w : World) : (Op.equalIn 10000 80 (.agg #[.int .u64 a, .int .u64 b]) (.agg #[.int .u64 c, .int .u64 d])).run Tryz.prog w = .ok false w := by
  rw [eq42]; simp [h]

set_option maxHeartbeats 400000 in
theorem narrow_yes (x : Int) (h : fits x = true) (w : World) :
    Calls Tryz.prog 76 #[.agg #[.int .u64 (wHi x), .int .u64 (wLo x)]] w fun e w' =>
      e = .returned (.tuple #[.int .i64 x, .int .i64 0]) ∧ Gb w w' := by
  have e1 : IntKind.i64.wrap (wLo x) = x := by rw [IntKind.wrap_i64]; exact narrow_val h
  have e2 := eq42_same (wHi x) (wLo x)
  go_enter Tryz.func76, Tryz.ntmps76
  go_wp2
  go_region_held3 (fun w' => w'.cell? ⟨w.heap.size, 0, none⟩ = some (.int .u64 (wHi x)) ∧ w'.cell? ⟨w.heap.size, 1, none⟩ = some (.int .u64 (wLo x))) (simp [go_sem, World.cell?_alloc_past])
    (first
      | (go_at_call 75; refine (widen_any x h _).mono ?_; rintro e w' ⟨rfl, o1, rfl⟩))
  go_wp2
  go_ret2
  exact ⟨rfl, by repeat (first | exact Gb.refl _ | apply Gb.drew | apply Gb.alloc)⟩

set_option maxHeartbeats 400000 in
theorem narrow_no (x : Int) (h : fits x = false) (h1 : -170141183460469231731687303715884105728 ≤ x) (h2 : x < 170141183460469231731687303715884105728) (w : World) :
    Calls Tryz.prog 76 #[.agg #[.int .u64 (wHi x), .int .u64 (wLo x)]] w fun e w' =>
      e = .returned (.tuple #[.int .i64 0, .int .i64 7]) ∧ Gb w w' := by
  have hi := narrow_iff x h1 h2
  obtain ⟨m, hm⟩ : ∃ m, IntKind.i64.wrap (wLo x) = m := ⟨_, rfl⟩
  have hm' : (wLo x + 9223372036854775808) % 18446744073709551616 - 9223372036854775808 = m := by rw [← hm, IntKind.wrap_i64]
  have hf : fits m = true := by rw [fits_iff]; omega
  rw [hm', sb_wide hf] at hi
  have hne : wHi m ≠ wHi x := fun e => by rw [hi.2 e] at h; cases h
  have e2 := fun o => eq42_not (wHi m) o (wHi x) (wLo x) hne
  clear hi hm' h1 h2 hne
  go_enter Tryz.func76, Tryz.ntmps76
  go_wp2
  go_region_held3 (fun w' => w'.cell? ⟨w.heap.size, 0, none⟩ = some (.int .u64 (wHi x)) ∧ w'.cell? ⟨w.heap.size, 1, none⟩ = some (.int .u64 (wLo x))) (simp [go_sem, World.cell?_alloc_past])
    (first
      | (go_at_call 75; refine (widen_any m hf _).mono ?_; rintro e w' ⟨rfl, o1, rfl⟩))
  go_wp2
  go_ret2
  exact ⟨rfl, by repeat (first | exact Gb.refl _ | apply Gb.drew | apply Gb.alloc)⟩

theorem narrow_any (x : Int) (h1 : -170141183460469231731687303715884105728 ≤ x) (h2 : x < 170141183460469231731687303715884105728) (w : World) :
    Calls Tryz.prog 76 #[.agg #[.int .u64 (wHi x), .int .u64 (wLo x)]] w fun e w' =>
      e = .returned (.tuple #[.int .i64 (nv x), .int .i64 (ne x)]) ∧ Gb w w' := by
  by_cases h : fits x = true
  · rw [nv_yes h, ne_yes h]; exact narrow_yes x h w
  · have h' : fits x = false := by simpa using h
    rw [nv_no h', ne_no h']; exact narrow_no x h' h1 h2 w


theorem ret_two {k k' : IntKind} {a b c d : Int} (h : a = b) (h' : c = d) : Ending.returned (.tuple #[.int k a, .int k' c]) = .returned (.tuple #[.int k b, .int k' d]) := by rw [h, h']

set_option maxHeartbeats 400000 in
theorem refAdd_any (a b : Int) (ha : fits a = true) (hb : fits b = true) (w : World) :
    Calls Tryz.prog 77 #[.int .i64 a, .int .i64 b] w fun e w' =>
      e = .returned (.tuple #[.int .i64 (nv (a + b)), .int .i64 (ne (a + b))]) ∧ w' = w := by
  obtain ⟨a1, a2⟩ := (fits_iff a).1 ha
  obtain ⟨b1, b2⟩ := (fits_iff b).1 hb
  clear ha hb
  by_cases hp : 0 < b
  · by_cases ht : 9223372036854775807 - b < a
    · have hn : fits (a + b) = false := by rw [fits_not]; omega
      rw [nv_no hn, ne_no hn]
      go_enter Tryz.func77, Tryz.ntmps77
      go_wp2
      go_ret2
      exact ⟨rfl, rfl⟩
    · have hn : fits (a + b) = true := by rw [fits_iff]; omega
      rw [nv_yes hn, ne_yes hn]
      go_enter Tryz.func77, Tryz.ntmps77
      go_wp2
      go_ret2
      exact ⟨rfl, rfl⟩
  · by_cases hm : b < 0
    · by_cases ht : a < -9223372036854775808 - b
      · have hn : fits (a + b) = false := by rw [fits_not]; omega
        rw [nv_no hn, ne_no hn]
        go_enter Tryz.func77, Tryz.ntmps77
        go_wp2
        go_ret2
        exact ⟨rfl, rfl⟩
      · have hn : fits (a + b) = true := by rw [fits_iff]; omega
        rw [nv_yes hn, ne_yes hn]
        go_enter Tryz.func77, Tryz.ntmps77
        go_wp2
        go_ret2
        exact ⟨rfl, rfl⟩
    · have hn : fits (a + b) = true := by rw [fits_iff]; omega
      rw [nv_yes hn, ne_yes hn]
      go_enter Tryz.func77, Tryz.ntmps77
      go_wp2
      go_ret2
      exact ⟨rfl, rfl⟩

end Go.Proofs.YtbicodlclmdgaaaGreatDoor.sums
