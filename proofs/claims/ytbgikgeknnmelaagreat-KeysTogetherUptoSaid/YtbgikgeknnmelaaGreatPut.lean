/-
  What Put and Zig of package num do, and putNumber, putPlain and Put of package codec.
-/
import Derived.Test.YtbgikgeknnmelaaGreatKeyB
import Derived.Test.YtbgikgeknnmelaaGreatPlainB
namespace Go.Proofs.YtbgikgeknnmelaaGreat
open Go.RowKit
set_option linter.unusedVariables false      -- a walk need not use every condition

theorem or128 (m : Nat) : bits .or .u8 ((m : Int) % 256) 128 = ((m % 128 + 128 : Nat) : Int) := by
  have h : ∀ x : Fin 256, bits .or .u8 ((x.val : Nat) : Int) 128 = ((x.val % 128 + 128 : Nat) : Int) := by decide +kernel
  have e : (m : Int) % 256 = ((m % 256 : Nat) : Int) := by omega
  rw [e, h ⟨m % 256, by omega⟩]
  simp
set_option maxHeartbeats 1000000 in
set_option maxRecDepth 100000 in
theorem putNil75 (u : Nat) (hu : u < 18446744073709551616) (w : World) :
    Calls Tryz.prog 75 #[.slice none 0 0, .int .u64 u] w fun e w' => ∃ v, e = .returned v ∧ Bts w' w.heap.size v (enc u) ∧ Below w.heap.size w w' := by
  go_enter Tryz.func75, Tryz.ntmps75
  go_wp2_with (go_at_call 101; refine (clone_nil _).mono ?_; rintro e w' ⟨rfl, rfl⟩)
  go_loopw [1, 5] (fun a v wr => ∃ (f m : Nat) (pre : List UInt8), f ≤ 9 ∧ a = .int .u64 m ∧ m < 128 ^ (f + 1) ∧ pre.length + f = 9 ∧ pre ++ encF f m = enc u ∧ Hid (Bts wr w'.heap.size v pre) ∧ Hid (Below w'.heap.size w' wr))
    (fun a _ _ => (intOf a).toNat)
  case atStart => exact ⟨9, u, [], Nat.le_refl _, rfl, by omega, rfl, rfl, World.ownsRow_nil _ _ _ _, Below.refl _ _⟩
  case round =>
    obtain ⟨f, m, pre, hf, rfl, hm, hlen, hE, hown, hbel⟩ := hrel
    by_cases hge : 128 ≤ m
    · have ho := or128 m
      obtain ⟨f, rfl⟩ : ∃ g, f = g + 1 := by
        cases f with
        | zero => simp at hm; omega
        | succ g => exact ⟨g, rfl⟩
      rw [encF_high _ _ hge] at hE
      obtain ⟨x, hx⟩ : ∃ x : UInt8, UInt8.ofNat (m % 128 + 128) = x := ⟨_, rfl⟩
      have hxn : ((m % 128 + 128 : Nat) : Int) = (x.toNat : Int) := by rw [← hx, toNat_of (by omega)]
      rw [hxn] at ho
      rw [hx] at hE
      have HX : Hid (m / 128 < 128 ^ (f + 1)) := by rw [Nat.pow_succ] at hm; exact Nat.div_lt_of_lt_mul (by rw [Nat.mul_comm]; exact hm)
      have HE : Hid (pre ++ x :: encF f (m / 128) = enc u) := hE
      clear hx hm hE hxn
      go_wp2_with (at_builtin; refine wpList_app_byts _ rfl _ _ rfl w'.heap.size _ _ rfl (World.ownsRow.alloc hown.out _) ⟨wr.heap.size, 0, none⟩ 1 [x] rfl (cells_new _ [.int .u8 x.toNat] _) (by simp; omega) (by have := hbel.out.size; simp; omega) ?_; intro v1 w1 hb1 hg1)
      have hB1 := bel_app hbel.out hown.out hg1
      clear hg1
      go_roundw
      case rel => exact ⟨f, m / 128, pre ++ [x], by omega, by go_num, HX.out, by simp; omega, by have := HE.out; simpa using this, hb1, hB1⟩
      case measure => simp [intOf]; omega
    · rw [encF_low _ _ (by omega)] at hE
      obtain ⟨x, hx⟩ : ∃ x : UInt8, UInt8.ofNat m = x := ⟨_, rfl⟩
      have hb8 : (m : Int) % 256 = m := by omega
      have hxm : Hid (((x.toNat : Nat) : Int) = (m : Int)) := by show _ = _; rw [← hx, toNat_of (by omega)]
      rw [hx] at hE
      have HE : Hid (pre ++ [x] = enc u) := hE
      clear hE hm hx
      go_wp2_with (at_builtin; refine wpList_app_byts _ rfl _ _ rfl w'.heap.size _ _ rfl (World.ownsRow.alloc hown.out _) ⟨wr.heap.size, 0, none⟩ 1 [x] rfl (fun j y hj => cells_new _ [.int .u8 (m : Int)] _ j y (by rw [← hxm.out]; exact hj)) (by simp; omega) (by have := hbel.out.size; simp; omega) ?_; intro v1 w1 hb1 hg1)
      have hB1 := bel_app hbel.out hown.out hg1
      clear hg1
      go_ret
      exact ⟨_, rfl, by rw [← HE.out]; exact hb1, hB1⟩
/-- Bytes of one's own of which there is one. -/
theorem Bts.told {w : World} {base : Nat} {v : Value} {t : List UInt8} (h : Bts w base v t) (hp : 0 < t.length) : ∃ g cap, v = .slice (some ⟨g, 0, none⟩) t.length cap ∧ ∀ j y, (t.map fun d => Value.int .u8 d.toNat)[j]? = some y → w.cell? ((⟨g, 0, none⟩ : Addr).add j) = some y := by
  unfold Bts at h
  have h0 := h
  rcases h.2 with ⟨rfl, h1⟩ | ⟨g, cap, cur, rfl, hbg, hg, hnc, hcm, hcs, htake⟩
  · omega
  · exact ⟨g, cap, rfl, h0.cells (g := g) rfl⟩
set_option maxHeartbeats 1000000 in
set_option maxRecDepth 20000 in
theorem putNumber119 (u : Nat) (hu : u < 18446744073709551616) (w0 w : World) (b : Value) (t0 : List UInt8) (hB : Below w0.heap.size w0 w) (hb : Bts w w0.heap.size b t0) (ht : t0.length + (enc u).length ≤ 140737488355328) :
    Calls Tryz.prog 119 #[b, .int .u64 u] w fun e w' => ∃ b', e = .returned b' ∧ Bts w' w0.heap.size b' (t0 ++ enc u) ∧ Below w0.heap.size w0 w' ∧ w.grownBy w' b.ownBlock := by
  have c72 := putNil75 u hu w
  have hp := enc_pos u
  generalize enc u = E at *
  go_enter Tryz.func119, Tryz.ntmps119
  go_wp2_with (first
    | (go_at_call 75; refine c72.mono ?_; rintro e w1 ⟨v1, rfl, hb1, hB1⟩; obtain ⟨g, cap, rfl, hc1⟩ := hb1.told hp; have hO1 : Bts w1 w0.heap.size b t0 := own_bel hb hB1; have hB2 := hB.trans (hB1.mono hB.size); clear hb1)
    | (at_builtin; refine wpList_app_byts _ rfl _ _ rfl w0.heap.size _ _ rfl hO1 ⟨g, 0, none⟩ cap E rfl hc1 ht hB2.size ?_; intro v2 w2 hb2 hg2; have hB3 := below_app hB2 hO1 hg2; have hG3 := Lib.hid ((gr_bel hB1 b.ownBlock).trans hg2); clear hg2))
  go_ret
  exact ⟨v2, rfl, hb2, hB3, hG3.out⟩

/-! ### Zig -/

theorem ret_u64 {a b : Int} (h : a = b) : Ending.returned (.int .u64 a) = .returned (.int .u64 b) := by rw [h]
def sb (n : Int) : Int := if n < 0 then 18446744073709551615 else 0
theorem xor_ones (x : Int) (h0 : 0 ≤ x) (h1 : x < 18446744073709551616) : bits .xor .u64 x 18446744073709551615 = 18446744073709551615 - x := by
  show IntKind.u64.wrap (((BitVec.ofInt 64 x ^^^ BitVec.ofInt 64 18446744073709551615).toNat : Nat) : Int) = _
  have e1 : BitVec.ofInt 64 18446744073709551615 = BitVec.allOnes 64 := by decide
  obtain ⟨m, rfl⟩ := Int.eq_ofNat_of_zero_le h0
  rw [e1, BitVec.xor_allOnes, BitVec.toNat_not, BitVec.ofInt_natCast, BitVec.toNat_ofNat, Nat.mod_eq_of_lt (by omega), IntKind.wrap_u64]
  omega
theorem xor_zero (x : Int) (h0 : 0 ≤ x) (h1 : x < 18446744073709551616) : bits .xor .u64 x 0 = x := by
  show IntKind.u64.wrap (((BitVec.ofInt 64 x ^^^ BitVec.ofInt 64 0).toNat : Nat) : Int) = _
  have e1 : BitVec.ofInt 64 0 = 0#64 := by decide
  obtain ⟨m, rfl⟩ := Int.eq_ofNat_of_zero_le h0
  rw [e1, BitVec.xor_zero, BitVec.ofInt_natCast, BitVec.toNat_ofNat, Nat.mod_eq_of_lt (by omega), IntKind.wrap_u64]
  omega
set_option maxHeartbeats 400000 in
theorem signBits135 (n : Int) (hn : I64 n) (w : World) :
    Calls Tryz.prog 135 #[.int .i64 n] w fun e w' => e = .returned (.int .u64 (sb n)) ∧ w' = w := by
  obtain ⟨h1, h2⟩ := hn
  go_enter Tryz.func135, Tryz.ntmps135
  go_wp2
  go_ret
  refine ⟨ret_u64 ?_, rfl⟩
  rw [IntKind.wrap_u64]; unfold sb; split <;> omega
set_option maxHeartbeats 400000 in
theorem zig120 (n : Int) (hn : I64 n) (w : World) :
    Calls Tryz.prog 120 #[.int .i64 n] w fun e w' => e = .returned (.int .u64 (zigN n : Int)) ∧ w' = w := by
  have cs := signBits135 n hn
  obtain ⟨h1, h2⟩ := hn
  go_enter Tryz.func120, Tryz.ntmps120
  go_wp2_with (go_at_call 135; refine (cs _).mono ?_; rintro e w' ⟨rfl, rfl⟩)
  go_ret
  refine ⟨ret_u64 ?_, rfl⟩
  rw [IntKind.wrap_u64, IntKind.wrap_u64]
  unfold sb zigN
  by_cases h : n < 0
  · rw [if_pos h, if_pos h, xor_ones _ (by omega) (by omega)]; omega
  · rw [if_neg h, if_neg h, xor_zero _ (by omega) (by omega)]; omega
end Go.Proofs.YtbgikgeknnmelaaGreat
