/-
  What Put of package num does behind nil, and the document's Put behind bytes.
-/
import Derived.Test.YtbkpgppaahpalaaBas
import Derived.Test.YtbkpgppaahpalaaVnt
namespace Go.Proofs.Ytbkpgppaahpalaa
open Go.RowKit
set_option linter.unusedVariables false      -- a walk need not use every condition




def vI : Value → Nat
  | .int _ n => n.toNat
  | _ => 0
theorem or128 (m : Nat) : bits .or .u8 ((m : Int) % 256) 128 = ((m % 128 + 128 : Nat) : Int) := by
  have h : ∀ x : Fin 256, bits .or .u8 ((x.val : Nat) : Int) 128 = ((x.val % 128 + 128 : Nat) : Int) := by decide +kernel
  have e : (m : Int) % 256 = ((m % 256 : Nat) : Int) := by omega
  rw [e, h ⟨m % 256, by omega⟩]
  simp
theorem cloneNil95 (w : World) : Calls Try.prog 95 #[.slice none 0 0] w fun e w' => e = .returned (.slice none 0 0) ∧ w' = w := by
  have hsn := fun w => Lib.run_eql_slice_nil (P := Try.prog) w 27 5 none 0 0 0 0 Try.underlying27
  go_enter Try.func95, Try.ntmps95
  go_wp2
  go_ret
  exact ⟨rfl, rfl⟩
theorem bts_nil (w : World) (base : Nat) : Bts w base (.slice none 0 0) [] := World.ownsRow_nil _ _ _ _
set_option maxHeartbeats 1000000 in
set_option maxRecDepth 100000 in
theorem put83 (u : Nat) (hu : u < 18446744073709551616) (w : World) :
    Calls Try.prog 83 #[.slice none 0 0, .int .u64 u] w fun e w' => ∃ v, e = .returned v ∧ Bts w' w.heap.size v (vnt u) ∧ Below w.heap.size w w' := by
  go_enter Try.func83, Try.ntmps83
  go_wp2_with (go_at_call 95; refine (cloneNil95 _).mono ?_; rintro e w' ⟨rfl, rfl⟩)
  go_loopw [1, 5] (fun a v wr => ∃ (f m : Nat) (pre : List UInt8), f ≤ 9 ∧ a = .int .u64 m ∧ m < 128 ^ (f + 1) ∧ pre.length + f = 9 ∧ pre ++ vntF f m = vnt u ∧ Hid (Bts wr w'.heap.size v pre) ∧ Hid (Below w'.heap.size w' wr))
    (fun a _ _ => vI a)
  case atStart => exact ⟨9, u, [], Nat.le_refl _, rfl, by omega, rfl, rfl, bts_nil _ _, Below.refl _ _⟩
  case round =>
    obtain ⟨f, m, pre, hf, rfl, hm, hlen, hE, hown, hbel⟩ := hrel
    by_cases hge : 128 ≤ m
    · have ho := or128 m
      obtain ⟨f, rfl⟩ : ∃ g, f = g + 1 := by
        cases f with
        | zero => simp at hm; omega
        | succ g => exact ⟨g, rfl⟩
      rw [vntF_high _ _ hge] at hE
      obtain ⟨x, hx⟩ : ∃ x : UInt8, UInt8.ofNat (m % 128 + 128) = x := ⟨_, rfl⟩
      have hxn : ((m % 128 + 128 : Nat) : Int) = (x.toNat : Int) := by rw [← hx, toNat_of (by omega)]
      rw [hxn] at ho
      rw [hx] at hE
      have HX : Hid (m / 128 < 128 ^ (f + 1)) := by rw [Nat.pow_succ] at hm; exact Nat.div_lt_of_lt_mul (by rw [Nat.mul_comm]; exact hm)
      have HE : Hid (pre ++ x :: vntF f (m / 128) = vnt u) := hE
      clear hx hm hE hxn
      go_wp2_with (at_builtin; refine wpList_app rfl _ _ rfl w'.heap.size _ _ pre [x] rfl rfl (hown.out.on (bel1 _ _)) (bs_one wr x rfl) (by simp; omega) (by have := hbel.out.size; simp; omega) ?_; intro v1 w1 hb1 hg1)
      have hB1 := (hbel.out.alloc hbel.out.size (.cells #[.int .u8 x.toNat] 5)).trans ((hown.out.on (bel1 wr (.cells #[.int .u8 x.toNat] 5))).below hg1 (by have := hbel.out.size; simp; omega))
      clear hg1
      go_roundw
      case rel => exact ⟨f, m / 128, pre ++ [x], by omega, by go_num, HX.out, by simp; omega, by have := HE.out; simpa using this, hb1, hB1⟩
      case measure => simp [vI]; omega
    · rw [vntF_low _ _ (by omega)] at hE
      obtain ⟨x, hx⟩ : ∃ x : UInt8, UInt8.ofNat m = x := ⟨_, rfl⟩
      have hb8 : (m : Int) % 256 = m := by omega
      have hxm : Hid ((m : Int) = ((x.toNat : Nat) : Int)) := by show _ = _; rw [← hx, toNat_of (by omega)]
      rw [hx] at hE
      have HE : Hid (pre ++ [x] = vnt u) := hE
      clear hE hm hx
      go_wp2_with (at_builtin; refine wpList_app rfl _ _ rfl w'.heap.size _ _ pre [x] rfl rfl (hown.out.on (bel1 _ _)) (bs_one wr x hxm.out) (by simp; omega) (by have := hbel.out.size; simp; omega) ?_; intro v1 w1 hb1 hg1)
      have hB1 := (hbel.out.alloc hbel.out.size (.cells #[.int .u8 (m : Int)] 5)).trans ((hown.out.on (bel1 wr (.cells #[.int .u8 (m : Int)] 5))).below hg1 (by have := hbel.out.size; simp; omega))
      clear hg1
      go_ret
      exact ⟨_, rfl, by rw [← HE.out]; exact hb1, hB1⟩
set_option maxHeartbeats 1000000 in
set_option maxRecDepth 100000 in
/-- The document's Put. -/
theorem rput93 (u : Nat) (hu : u < 18446744073709551616) (w : World) (b : Value) (t : List UInt8) (hb : Bs w b t) (ht : t.length + 10 ≤ 140737488355328) :
    Calls Try.prog 93 #[b, .int .u64 u] w fun e w' => ∃ v, e = .returned v ∧ Bts w' w.heap.size v (t ++ vnt u) ∧ Below w.heap.size w w' := by
  have HB := Lib.hid hb
  obtain ⟨p, cap, rfl, -⟩ := hb
  go_enter Try.func93, Try.ntmps93
  go_wp2_with (at_builtin; refine wpList_app rfl _ _ rfl w.heap.size _ _ [] t rfl rfl (bts_nil _ _) HB.out (by simp; omega) (Nat.le_refl _) ?_; intro v0 w0 hb0 hg0)
  have hB0 := (bts_nil w w.heap.size).below hg0 (Nat.le_refl _)
  have HB0 := Lib.hid hB0
  have HO0 := Lib.hid hb0
  clear hb0 hg0 hB0
  go_loopw [1, 5] (fun a v wr => ∃ (f m : Nat) (pre : List UInt8), f ≤ 9 ∧ m ≤ u ∧ a = .int .u64 m ∧ m < 128 ^ (f + 1) ∧ pre.length + f = 9 ∧ pre ++ vntF f m = vnt u ∧ Hid (Bts wr w.heap.size v (t ++ pre)) ∧ Hid (Below w.heap.size w wr))
    (fun a _ _ => vI a)
  case atStart => exact ⟨9, u, [], Nat.le_refl _, Nat.le_refl _, rfl, by omega, rfl, rfl, by have := HO0.out; show Bts _ _ _ _; simpa using this, HB0.out⟩
  case round =>
    obtain ⟨f, m, pre, hf, hmu, rfl, hm, hlen, hE, hown, hbel⟩ := hrel
    by_cases hge : 128 ≤ m
    · obtain ⟨f, rfl⟩ : ∃ g, f = g + 1 := by
        cases f with
        | zero => simp at hm; omega
        | succ g => exact ⟨g, rfl⟩
      rw [vntF_high _ _ hge] at hE
      obtain ⟨x, hx⟩ : ∃ x : UInt8, UInt8.ofNat (m % 128 + 128) = x := ⟨_, rfl⟩
      have hxn : ((m % 128 + 128 : Nat) : Int) = (x.toNat : Int) := by rw [← hx, toNat_of (by omega)]
      rw [hx] at hE
      have hw : IntKind.u64.wrap ((m : Int) / 128) = (m : Int) / 128 := by rw [IntKind.wrap_u64]; omega
      have e2 : Hid ((m : Int) % 128 + 128 = (x.toNat : Int)) := by show _ = _; omega
      have HX : Hid (m / 128 < 128 ^ (f + 1)) := by rw [Nat.pow_succ] at hm; exact Nat.div_lt_of_lt_mul (by rw [Nat.mul_comm]; exact hm)
      have HE : Hid (pre ++ x :: vntF f (m / 128) = vnt u) := hE
      clear hx hm hE hxn
      have HH := Lib.hid hown.out
      go_wp2_with (at_builtin; refine wpList_app rfl _ _ rfl w.heap.size _ _ (t ++ pre) [x] rfl rfl (HH.out.on (bel1 _ _)) (bs_one wr x e2.out) (by simp; omega) (by have := hbel.out.size; simp; omega) ?_; intro v1 w1 hb1 hg1)
      have hB1 := (hbel.out.alloc hbel.out.size (.cells #[.int .u8 ((m : Int) % 128 + 128)] 5)).trans ((HH.out.on (bel1 wr (.cells #[.int .u8 ((m : Int) % 128 + 128)] 5))).below hg1 (by have := hbel.out.size; simp; omega))
      clear hg1
      go_roundw
      case rel => exact ⟨f, m / 128, pre ++ [x], by omega, by omega, by go_num, HX.out, by simp; omega, by have := HE.out; simpa using this, by rw [← List.append_assoc]; exact hb1, hB1⟩
      case measure => simp [vI]; omega
    · rw [vntF_low _ _ (by omega)] at hE
      obtain ⟨x, hx⟩ : ∃ x : UInt8, UInt8.ofNat m = x := ⟨_, rfl⟩
      have hb8 : (m : Int) % 256 = m := by omega
      have hxm : Hid ((m : Int) = ((x.toNat : Nat) : Int)) := by show _ = _; rw [← hx, toNat_of (by omega)]
      rw [hx] at hE
      have HE : Hid (pre ++ [x] = vnt u) := hE
      clear hE hm hx
      have HH := Lib.hid hown.out
      go_wp2_with (at_builtin; refine wpList_app rfl _ _ rfl w.heap.size _ _ (t ++ pre) [x] rfl rfl (HH.out.on (bel1 _ _)) (bs_one wr x hxm.out) (by simp; omega) (by have := hbel.out.size; simp; omega) ?_; intro v1 w1 hb1 hg1)
      have hB1 := (hbel.out.alloc hbel.out.size (.cells #[.int .u8 (m : Int)] 5)).trans ((HH.out.on (bel1 wr (.cells #[.int .u8 (m : Int)] 5))).below hg1 (by have := hbel.out.size; simp; omega))
      clear hg1
      go_ret
      exact ⟨_, rfl, by rw [← HE.out, ← List.append_assoc]; exact hb1, hB1⟩
end Go.Proofs.Ytbkpgppaahpalaa
