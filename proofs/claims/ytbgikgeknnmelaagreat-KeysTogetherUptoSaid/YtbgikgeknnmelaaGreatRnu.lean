/-
  The document's Put and Zig of numbers (rambleref01).
-/
import Derived.Test.YtbgikgeknnmelaaGreatPfm
namespace Go.Proofs.YtbgikgeknnmelaaGreat
open Go.RowKit
set_option linter.unusedVariables false      -- a walk need not use every condition

set_option maxHeartbeats 1000000 in
set_option maxRecDepth 100000 in
theorem rput77 (u : Nat) (hu : u < 18446744073709551616) (w : World) (b : Value) (t0 : List UInt8) (hb : Bs w b t0) (ht : t0.length + (enc u).length ≤ 140737488355328) :
    Calls Tryz.prog 77 #[b, .int .u64 u] w (AppR w (t0 ++ enc u)) := by
  have hB0 := Below.refl w.heap.size w
  have hO0 : Bts w w.heap.size (.slice none 0 0) [] := World.ownsRow_nil _ _ _ _
  go_enter Tryz.func77, Tryz.ntmps77
  go_wp2_with (at_builtin; refine wpList_app_bs _ rfl _ _ rfl w.heap.size _ [] rfl hO0 _ t0 rfl hb (by simp; omega) (Nat.le_refl _) ?_; intro v1 w1 hb1 hg1; have hB1 := below_app hB0 hO0 hg1; clear hg1)
  rw [List.nil_append] at hb1
  go_loopw [1, 5] (fun a v wr => ∃ (f m : Nat) (pre : List UInt8), f ≤ 9 ∧ a = .int .u64 m ∧ m < 128 ^ (f + 1) ∧ m < 18446744073709551616 ∧ pre.length + f = 9 ∧ pre ++ encF f m = enc u ∧ Hid (Bts wr w.heap.size v (t0 ++ pre)) ∧ Hid (Below w.heap.size w wr))
    (fun a _ _ => (intOf a).toNat)
  case atStart => exact ⟨9, u, [], Nat.le_refl _, rfl, by omega, hu, rfl, rfl, by rw [List.append_nil]; exact hb1, hB1⟩
  case round =>
    obtain ⟨f, m, pre, hf, rfl, hm, hm64, hlen, hE, hown, hbel⟩ := hrel
    clear hb1 hB1
    by_cases hge : 128 ≤ m
    · obtain ⟨f, rfl⟩ : ∃ g, f = g + 1 := by
        cases f with
        | zero => simp at hm; omega
        | succ g => exact ⟨g, rfl⟩
      rw [encF_high _ _ hge] at hE
      obtain ⟨x, hx⟩ : ∃ x : UInt8, UInt8.ofNat (m % 128 + 128) = x := ⟨_, rfl⟩
      have hxn : ((m % 128 + 128 : Nat) : Int) = (x.toNat : Int) := by rw [← hx, toNat_of (by omega)]
      rw [hx] at hE
      have HX : Hid (m / 128 < 128 ^ (f + 1)) := by rw [Nat.pow_succ] at hm; exact Nat.div_lt_of_lt_mul (by rw [Nat.mul_comm]; exact hm)
      have HE : Hid (pre ++ x :: encF f (m / 128) = enc u) := hE
      have hle : pre.length + 1 ≤ (enc u).length := by rw [← HE.out]; simp
      have hw7 : IntKind.u64.wrap ((m : Int) / 128) = ((m / 128 : Nat) : Int) := by rw [IntKind.wrap_u64]; omega
      have HC : ∀ z : Int, z = (x.toNat : Int) → ∀ j y, ([x].map fun d => Value.int .u8 d.toNat)[j]? = some y → (wr.alloc (.cells #[.int .u8 z] 5)).cell? ((⟨wr.heap.size, 0, none⟩ : Addr).add j) = some y := fun z hz j y hj => cells_new _ [.int .u8 z] _ j y (by rw [hz]; exact hj)
      clear hx hm hE
      go_wp2_with (at_builtin; go_loud (refine wpList_app_byts _ rfl _ _ rfl w.heap.size _ (t0 ++ pre) rfl (World.ownsRow.alloc hown.out _) ⟨wr.heap.size, 0, none⟩ 1 [x] rfl (HC _ (by omega)) (by simp; omega) (by have := hbel.out.size; simp; omega) ?_; intro v1 w1 hb1 hg1))
      have hB1 := bel_app hbel.out hown.out hg1
      clear hg1
      go_roundw
      case rel => exact ⟨f, m / 128, pre ++ [x], by omega, by first | go_num | rw [hw7], HX.out, by omega, by simp; omega, by have := HE.out; simpa using this, by rw [← List.append_assoc]; exact hb1, hB1⟩
      case measure => simp [intOf]; omega
    · rw [encF_low _ _ (by omega)] at hE
      obtain ⟨x, hx⟩ : ∃ x : UInt8, UInt8.ofNat m = x := ⟨_, rfl⟩
      have hb8 : (m : Int) % 256 = m := by omega
      have hxm : Hid (((x.toNat : Nat) : Int) = (m : Int)) := by show _ = _; rw [← hx, toNat_of (by omega)]
      rw [hx] at hE
      have HE : Hid (pre ++ [x] = enc u) := hE
      have hle : pre.length + 1 ≤ (enc u).length := by rw [← HE.out]; simp
      clear hE hm hx
      go_wp2_with (at_builtin; go_loud (refine wpList_app_byts _ rfl _ _ rfl w.heap.size _ (t0 ++ pre) rfl (World.ownsRow.alloc hown.out _) ⟨wr.heap.size, 0, none⟩ 1 [x] rfl (fun j y hj => cells_new _ [.int .u8 (m : Int)] _ j y (by rw [← hxm.out]; exact hj)) (by simp; omega) (by have := hbel.out.size; simp; omega) ?_; intro v1 w1 hb1 hg1))
      have hB1 := bel_app hbel.out hown.out hg1
      clear hg1
      go_ret
      exact ⟨_, rfl, by rw [← HE.out, ← List.append_assoc]; exact hb1, hB1⟩
theorem rnumber77 (u : Nat) (hu : u < 18446744073709551616) (w0 w : World) (b : Value) (t0 : List UInt8) (hB : Below w0.heap.size w0 w) (hb : Bts w w0.heap.size b t0) (ht : t0.length + (enc u).length ≤ 140737488355328) :
    Calls Tryz.prog 77 #[b, .int .u64 u] w fun e w' => ∃ b', e = .returned b' ∧ Bts w' w0.heap.size b' (t0 ++ enc u) ∧ Below w0.heap.size w0 w' ∧ KT w w' := by
  refine (rput77 u hu w b t0 hb.bs ht).mono ?_
  rintro e w' ⟨b', rfl, h1, h2⟩
  exact ⟨b', rfl, h1.mono hB.size, hB.trans (h2.mono hB.size), kt_bel h2⟩
set_option maxHeartbeats 400000 in
theorem bare124 (n : Int) (hn : I64 n) (w : World) :
    Calls Tryz.prog 124 #[.int .i64 n] w fun e w' => e = .returned (.int .u64 (n.natAbs : Int)) ∧ w' = w := by
  obtain ⟨h1, h2⟩ := hn
  by_cases h : n < 0
  · go_enter Tryz.func124, Tryz.ntmps124
    go_wp2
    go_ret
    refine ⟨ret_u64 ?_, rfl⟩
    first | omega | (simp only [IntKind.wrap_u64]; omega)
  · go_enter Tryz.func124, Tryz.ntmps124
    go_wp2
    go_ret
    refine ⟨ret_u64 ?_, rfl⟩
    first | omega | (simp only [IntKind.wrap_u64]; omega)
set_option maxHeartbeats 400000 in
theorem rzig105 (n : Int) (hn : I64 n) (w : World) :
    Calls Tryz.prog 105 #[.int .i64 n] w fun e w' => e = .returned (.int .u64 (zigN n : Int)) ∧ w' = w := by
  have cb := bare124 n hn
  obtain ⟨h1, h2⟩ := hn
  by_cases h : n < 0
  · have hz : (zigN n : Int) = 2 * ((n.natAbs : Int) - 1) + 1 := by unfold zigN; rw [if_pos h]; omega
    rw [hz]
    have hm : (n.natAbs : Int) ≤ 9223372036854775808 := by omega
    have hm1 : 1 ≤ (n.natAbs : Int) := by omega
    generalize (n.natAbs : Int) = m at *
    clear hz
    go_enter Tryz.func105, Tryz.ntmps105
    go_wp2_with (go_at_call 124; refine (cb _).mono ?_; rintro e w' ⟨rfl, rfl⟩)
    go_ret
    exact ⟨ret_u64 (by first | omega | (simp only [IntKind.wrap_u64]; omega) | (simp only [IntKind.wrap_u64] at *; omega) | (simp only [IntKind.wrap_u64] at *)), rfl⟩
  · have hz : (zigN n : Int) = 2 * n := by unfold zigN; rw [if_neg h]; omega
    rw [hz]
    clear hz cb
    go_enter Tryz.func105, Tryz.ntmps105
    go_wp2
    go_ret
    exact ⟨ret_u64 (by first | omega | (simp only [IntKind.wrap_u64]; omega) | (simp only [IntKind.wrap_u64] at *; omega) | (simp only [IntKind.wrap_u64] at *)), rfl⟩
end Go.Proofs.YtbgikgeknnmelaaGreat
