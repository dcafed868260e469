/-
  The walk of SectorDamage.
-/
import Derived.Test.YtafnelpcnfmhfaaDoorSame
import Derived.Test.YtafnelpcnfmhfaaDoorFlushW
namespace Go.Proofs.YtafnelpcnfmhfaaDoor
open Go.RowKit
set_option linter.unusedVariables false      -- a walk need not use every condition
attribute [local go_sem ↓] Go.wp_at_zero Go.wp_at_succ

/-- What the law's disk does. -/
theorem dam_pure (Z : List UInt8) (q : Int) (v : Nat) (h0 : 0 ≤ q) (h1 : q < 1024) :
    ((made 1).write 0 Z).1 = 0 ∧ (((made 1).write 0 Z).2.flush).1 = 0 ∧ ((((made 1).write 0 Z).2.flush).2.burst 0 q v).1 = 0 ∧
      ((((made 1).write 0 Z).2.flush).2.burst 0 q v).2.read 0 = (burstL Z q.toNat v, 0) := by
  have e : (((made 1).write 0 Z).2.flush).2.burst 0 q v = (0, { (((made 1).write 0 Z).2.flush).2 with st := upd (((made 1).write 0 Z).2.flush).2.st 0 (burstL Z q.toNat v) }) := by
    unfold Dsk.burst
    rw [if_neg (fun h => by have : (true : Bool) = false := h; cases this), if_neg (by omega)]
    rfl
  refine ⟨rfl, rfl, by rw [e], ?_⟩
  rw [e]
  rfl
theorem range_kept {w w' : World} {d pb mb g : Nat} {cs : List Value} (h : w.rangeAt g 0 cs) (k : Kept d pb mb w w') (hl : g < w.heap.size) (h1 : g ≠ d) (h2 : g ≠ pb) (h3 : g ≠ mb) : w'.rangeAt g 0 cs :=
  rangeAt_same h (k.block g hl h1 h2 h3)
set_option maxHeartbeats 3200000 in
set_option maxRecDepth 100000 in
theorem damage7 (w : World) (k n : Int) (pv : Value) (pay : List UInt8) (a b : Nat) (hp : Bs w pv pay) (hT : TabOk w) (hn : n ≤ 9223372036854775807) (ha : a < 65536) (hb : b < 4294967296) :
    Calls Tryd.prog 7 #[frm k n pv, .int .u16 a, .int .u32 b] w fun e w' => e = .returned (.bool true) ∧ Below w.heap.size w w' := by
  have HP := Lib.hid hp
  have HT := Lib.hid hT
  obtain ⟨p, cap, rfl, -⟩ := hp
  have cS := seal8 (w.alloc (.cells #[.int .i64 k, .int .i64 n, .slice p pay.length cap] 24)) k n _ pay (HP.out.on (bel1 _ _)) (tab_on HT.out (bel1 _ _)) hn
  have HQ : Hid (okF k n pay = true → (burstL (sealB k n pay) ((a : Int) % 1024).toNat b = sealB k n pay ∧ oE (burstL (sealB k n pay) ((a : Int) % 1024).toNat b) = 0) ∨ (burstL (sealB k n pay) ((a : Int) % 1024).toNat b ≠ sealB k n pay ∧ oE (burstL (sealB k n pay) ((a : Int) % 1024).toNat b) = 50)) := fun ho => open_burst hn ho (by omega) hb
  have HLZ := Lib.hid (len_sealB k n pay)
  have HE : Hid (sealE k n pay = if okF k n pay then 0 else 1) := rfl
  generalize sealE k n pay = E at *
  generalize sealB k n pay = Z at *
  have hi1 : (Tryd.prog.info? 26).map (·.size) = some (enc Z).length := by rw [size26, len_enc, HLZ.out]
  clear hT
  unfold frm at cS ⊢
  cases ho : okF k n pay with
  | false =>
    have hE1 : E = 1 := by rw [HE.out, ho]; rfl
    subst hE1
    clear HE HQ ho
    have tk : True := trivial
    go_enter Tryd.func7, Tryd.ntmps7
    go_wp2_with (first
      | (go_at_call 8; refine cS.mono ?_; rintro e W1 ⟨rfl, hb1⟩)
      | (with_reducible show wpList _ _ _ (Oper.mk (some 7) (Op.alloc 26) _ _ _ _ :: _) _ _
         refine wpList_alloc26 rfl rfl ?_; intro W2 hW2 zW2 sW2)
      | (with_reducible show wpList _ _ _ (Oper.mk _ (Op.store 26 (Operand.tmp 7) _) _ _ _ _ :: _) _ _
         refine wpList_store26 rfl _ _ rfl W1.heap.size 0 Z rfl rfl sW2.th HLZ.out ?_; intro W3 g3 r3 t3 z3
         have hb3 : Below w.heap.size w W3 := (bel_then (bel_then (bel1 w _) hb1) hW2).grown g3 (by have := hb1.size; simp at this; have := hW2.size; omega) (fun k e => by injection e with e; have := hb1.size; simp at this; omega)
         have HB3 := Lib.hid hb3
         clear hb1 hW2 sW2 g3 t3 hb3)
      | (go_at_call 12; clear tk; refine (begun12 _ (tab_on HT.out HB3.out)).mono ?_
         rintro e W5 ⟨rfl, hb5⟩
         have HB5 := Lib.hid (bel_then HB3.out hb5)
         clear hb5)
      | (go_at_call 12; refine (begun12 _ (tab_on HT.out HB5.out)).mono ?_
         rintro e W6 ⟨rfl, hb6⟩))
    go_ret
    exact ⟨rfl, bel_then HB5.out hb6⟩
  | true =>
    have hE1 : E = 0 := by rw [HE.out, ho]; rfl
    subst hE1
    have HQ2 := Lib.hid (HQ.out ho)
    clear HE HQ ho
    have haz : (0 : Int) ≤ (a : Int) % 1024 := by omega
    have haz2 : (a : Int) % 1024 < 1024 := by omega
    have htm : Int.tmod (a : Int) 1024 = (a : Int) % 1024 := Int.tmod_eq_emod_of_nonneg (by omega)
    have hwr : IntKind.i64.wrap (a : Int) = (a : Int) := by
      simp [IntKind.wrap, IntKind.signed, IntKind.bits]
      omega
    obtain ⟨P1, P2, P3, P4⟩ := dam_pure Z ((a : Int) % 1024) b haz haz2
    have HP1 := Lib.hid (And.intro P1 (And.intro P2 (And.intro P3 P4)))
    clear P1 P2 P3 P4
    obtain ⟨X, hX⟩ : ∃ X, burstL Z ((a : Int) % 1024).toNat b = X := ⟨_, rfl⟩
    have HLX : Hid (X.length = 128) := by
      show X.length = 128
      rw [← hX, burstL_len, HLZ.out]
    rw [hX] at HP1 HQ2
    have hi2 : (Tryd.prog.info? 26).map (·.size) = some (enc X).length := by rw [size26, len_enc, HLX.out]
    have heq := fun w => eq26 X Z HLX.out HLZ.out w
    clear hX
    obtain ⟨EX, hEX⟩ : ∃ EX, oE X = EX := ⟨_, rfl⟩
    rw [hEX] at HQ2
    have HEX := Lib.hid hEX
    clear hEX
    have hcase : (decide (X = Z) = true ∧ EX = 0) ∨ (decide (X = Z) = false ∧ EX = 50) := by
      rcases HQ2.out with ⟨h1, h2⟩ | ⟨h1, h2⟩
      · exact .inl ⟨decide_eq_true h1, h2⟩
      · exact .inr ⟨decide_eq_false h1, h2⟩
    clear HQ2
    generalize decide (X = Z) = xz at *
    rcases hcase with ⟨rfl, rfl⟩ | ⟨rfl, rfl⟩
    · go_enter Tryd.func7, Tryd.ntmps7
      go_wp2_with (first
        | (go_at_call 8; refine cS.mono ?_; rintro e W1 ⟨rfl, hb1⟩)
        | (with_reducible show wpList _ _ _ (Oper.mk (some 7) (Op.alloc 26) _ _ _ _ :: _) _ _
           refine wpList_alloc26 rfl rfl ?_; intro W2 hW2 zW2 sW2)
        | (with_reducible show wpList _ _ _ (Oper.mk _ (Op.store 26 (Operand.tmp 7) _) _ _ _ _ :: _) _ _
           refine wpList_store26 rfl _ _ rfl W1.heap.size 0 Z rfl rfl sW2.th HLZ.out ?_; intro W3 g3 r3 t3 z3
           have hb3 : Below w.heap.size w W3 := (bel_then (bel_then (bel1 w _) hb1) hW2).grown g3 (by have := hb1.size; simp at this; have := hW2.size; omega) (fun k e => by injection e with e; have := hb1.size; simp at this; omega)
           have hlt3 : W1.heap.size < W3.heap.size := by omega
           have HB3 := Lib.hid hb3
           have HR3 := Lib.hid r3
           have HL3 := Lib.hid hlt3
           clear hb1 hW2 sW2 g3 t3 hb3 r3 hlt3 zW2 z3)
        | (go_at_call 12; refine (begun12 _ (tab_on HT.out HB3.out)).mono ?_
           rintro e W5 ⟨rfl, hb5⟩
           have HB5 := Lib.hid (bel_then HB3.out hb5)
           have HR5 := Lib.hid (range_on HR3.out hb5)
           have HL5 := Lib.hid (Nat.lt_of_lt_of_le HL3.out hb5.size)
           clear hb5)
        | (go_at_call 16; refine (new16 1 (by decide) (by decide) _).mono ?_
           rintro e W6 ⟨rfl, h6, hb6⟩
           have HB6 := Lib.hid (bel_then HB5.out hb6)
           have HR6 := Lib.hid (range_on HR5.out hb6)
           have HL6 := Lib.hid (Nat.lt_of_lt_of_le HL5.out hb6.size)
           have HA6 := Lib.hid h6
           have HZ6 := Lib.hid hb6.size
           clear hb6 h6)
        | (with_reducible show wpList _ _ _ (Oper.mk (some 39) (Op.load 26 (Operand.tmp 7)) _ _ _ _ :: _) _ _
           refine wpList_want (by kernel_rfl) fun KK hKK => wp_load_mid 26 _ rfl _ _ rfl _ _ HR6.out Tryd.underlying26 rfl hi1 (hKK _ _ ?_); clear hKK KK)
        | (go_at_call 32; refine (write32 _ _ _ _ _ HA6.out 0 Z HLZ.out).mono ?_
           rintro e W7 ⟨rfl, h7, k7⟩
           rw [HP1.out.1]
           have HA7 := Lib.hid h7
           have HK7 := Lib.hid k7
           clear h7 k7)
        | (go_at_call 20; refine (flush20 _ _ _ _ _ HA7.out).mono ?_
           rintro e W8 ⟨rfl, h8, k8⟩
           rw [HP1.out.2.1]
           have HA8 := Lib.hid h8
           have HK8 := Lib.hid (HK7.out.trans k8)
           clear h8 k8)
        | (go_at_call 22; refine (burst22 _ _ _ _ _ HA8.out 0 ((a : Int) % 1024) b hb).mono ?_
           rintro e W9 ⟨rfl, h9, k9⟩
           rw [HP1.out.2.2.1]
           have HA9 := Lib.hid h9
           have HK9 := Lib.hid (HK8.out.trans k9)
           clear h9 k9)
        | (go_at_call 33; refine (read33 _ _ _ _ _ HA9.out 0).mono ?_
           rintro e W10 ⟨rfl, hb10⟩
           rw [HP1.out.2.2.2]
           have HB9 : Hid (Below w.heap.size w W9) := HB6.out.trans (HK9.out.below (by have := HB5.out.size; omega) HB5.out.size (by have := HB5.out.size; omega) HB6.out.size)
           have HB10 := Lib.hid (bel_then HB9.out hb10)
           have HR10 := Lib.hid (range_on (range_kept HR6.out HK9.out HL6.out (by have := HL5.out; omega) (by have := HL5.out; omega) (by have := HL5.out; omega)) hb10)
           have HL10 : Hid (W1.heap.size < W10.heap.size) := by
             have h1 := HL6.out
             have h2 := HK9.out.size
             have h3 := hb10.size
             show W1.heap.size < W10.heap.size
             omega
           clear hb10)
        | (with_reducible show wpList _ _ _ (Oper.mk (some 11) (Op.alloc 26) _ _ _ _ :: _) _ _
           refine wpList_alloc26 rfl rfl ?_; intro W11 hW11 zW11 sW11)
        | (with_reducible show wpList _ _ _ (Oper.mk _ (Op.store 26 (Operand.tmp 11) _) _ _ _ _ :: _) _ _
           refine wpList_store26 rfl _ _ rfl W10.heap.size 0 X rfl rfl sW11.th HLX.out ?_; intro W12 g12 r12 t12 z12
           have hb12 : Below W10.heap.size W10 W12 := hW11.grown g12 hW11.size (fun k e => by injection e with e; omega)
           have HB12 := Lib.hid (bel_then HB10.out hb12)
           have HR12 := Lib.hid (range_on HR10.out hb12)
           have HX12 := Lib.hid r12
           clear hW11 sW11 g12 t12 z12 hb12 r12 zW11)
        | (with_reducible show wpList _ _ _ (Oper.mk (some 63) (Op.load 26 (Operand.tmp 11)) _ _ _ _ :: _) _ _
           refine wpList_load_mid rfl 26 _ rfl _ _ rfl _ _ HX12.out Tryd.underlying26 rfl hi2 ?_)
        | (go_at_call 10; refine (open10 _ X HLX.out (tab_on HT.out HB12.out)).mono ?_
           rintro e W13 ⟨pv13, rfl, hB13, hb13⟩
           rw [HEX.out]
           have HB13 := Lib.hid (bel_then HB12.out hb13)
           obtain ⟨pp, pc, rfl, -⟩ := hB13
           have HR13 := Lib.hid (range_on (range_on HR12.out hb13) (bel1 _ (.cells #[.int .i64 (oK X), .int .i64 (oN X), .slice pp (oP X).length pc] 24)))
           have HX13 := Lib.hid (range_on (range_on HX12.out hb13) (bel1 _ (.cells #[.int .i64 (oK X), .int .i64 (oN X), .slice pp (oP X).length pc] 24)))
           clear hb13
           unfold frm)
        | (with_reducible show wpList _ _ _ (Oper.mk (some 70) (Op.load 26 (Operand.tmp 11)) _ _ _ _ :: _) _ _
           refine wpList_want (by kernel_rfl) fun KK hKK => wp_load_mid 26 _ rfl _ _ rfl _ _ HX13.out Tryd.underlying26 rfl hi2 (hKK _ _ ?_); clear hKK KK)
        | (with_reducible show wpList _ _ _ (Oper.mk (some 71) (Op.load 26 (Operand.tmp 7)) _ _ _ _ :: _) _ _
           refine wpList_want (by kernel_rfl) fun KK hKK => wp_load_mid 26 _ rfl _ _ rfl _ _ HR13.out Tryd.underlying26 rfl hi1 (hKK _ _ ?_); clear hKK KK))
      go_ret
      exact ⟨rfl, bel_then HB13.out (bel1 _ _)⟩
    · go_enter Tryd.func7, Tryd.ntmps7
      go_wp2_with (first
        | (go_at_call 8; refine cS.mono ?_; rintro e W1 ⟨rfl, hb1⟩)
        | (with_reducible show wpList _ _ _ (Oper.mk (some 7) (Op.alloc 26) _ _ _ _ :: _) _ _
           refine wpList_alloc26 rfl rfl ?_; intro W2 hW2 zW2 sW2)
        | (with_reducible show wpList _ _ _ (Oper.mk _ (Op.store 26 (Operand.tmp 7) _) _ _ _ _ :: _) _ _
           refine wpList_store26 rfl _ _ rfl W1.heap.size 0 Z rfl rfl sW2.th HLZ.out ?_; intro W3 g3 r3 t3 z3
           have hb3 : Below w.heap.size w W3 := (bel_then (bel_then (bel1 w _) hb1) hW2).grown g3 (by have := hb1.size; simp at this; have := hW2.size; omega) (fun k e => by injection e with e; have := hb1.size; simp at this; omega)
           have hlt3 : W1.heap.size < W3.heap.size := by omega
           have HB3 := Lib.hid hb3
           have HR3 := Lib.hid r3
           have HL3 := Lib.hid hlt3
           clear hb1 hW2 sW2 g3 t3 hb3 r3 hlt3 zW2 z3)
        | (go_at_call 12; refine (begun12 _ (tab_on HT.out HB3.out)).mono ?_
           rintro e W5 ⟨rfl, hb5⟩
           have HB5 := Lib.hid (bel_then HB3.out hb5)
           have HR5 := Lib.hid (range_on HR3.out hb5)
           have HL5 := Lib.hid (Nat.lt_of_lt_of_le HL3.out hb5.size)
           clear hb5)
        | (go_at_call 16; refine (new16 1 (by decide) (by decide) _).mono ?_
           rintro e W6 ⟨rfl, h6, hb6⟩
           have HB6 := Lib.hid (bel_then HB5.out hb6)
           have HR6 := Lib.hid (range_on HR5.out hb6)
           have HL6 := Lib.hid (Nat.lt_of_lt_of_le HL5.out hb6.size)
           have HA6 := Lib.hid h6
           have HZ6 := Lib.hid hb6.size
           clear hb6 h6)
        | (with_reducible show wpList _ _ _ (Oper.mk (some 39) (Op.load 26 (Operand.tmp 7)) _ _ _ _ :: _) _ _
           refine wpList_want (by kernel_rfl) fun KK hKK => wp_load_mid 26 _ rfl _ _ rfl _ _ HR6.out Tryd.underlying26 rfl hi1 (hKK _ _ ?_); clear hKK KK)
        | (go_at_call 32; refine (write32 _ _ _ _ _ HA6.out 0 Z HLZ.out).mono ?_
           rintro e W7 ⟨rfl, h7, k7⟩
           rw [HP1.out.1]
           have HA7 := Lib.hid h7
           have HK7 := Lib.hid k7
           clear h7 k7)
        | (go_at_call 20; refine (flush20 _ _ _ _ _ HA7.out).mono ?_
           rintro e W8 ⟨rfl, h8, k8⟩
           rw [HP1.out.2.1]
           have HA8 := Lib.hid h8
           have HK8 := Lib.hid (HK7.out.trans k8)
           clear h8 k8)
        | (go_at_call 22; refine (burst22 _ _ _ _ _ HA8.out 0 ((a : Int) % 1024) b hb).mono ?_
           rintro e W9 ⟨rfl, h9, k9⟩
           rw [HP1.out.2.2.1]
           have HA9 := Lib.hid h9
           have HK9 := Lib.hid (HK8.out.trans k9)
           clear h9 k9)
        | (go_at_call 33; refine (read33 _ _ _ _ _ HA9.out 0).mono ?_
           rintro e W10 ⟨rfl, hb10⟩
           rw [HP1.out.2.2.2]
           have HB9 : Hid (Below w.heap.size w W9) := HB6.out.trans (HK9.out.below (by have := HB5.out.size; omega) HB5.out.size (by have := HB5.out.size; omega) HB6.out.size)
           have HB10 := Lib.hid (bel_then HB9.out hb10)
           have HR10 := Lib.hid (range_on (range_kept HR6.out HK9.out HL6.out (by have := HL5.out; omega) (by have := HL5.out; omega) (by have := HL5.out; omega)) hb10)
           have HL10 : Hid (W1.heap.size < W10.heap.size) := by
             have h1 := HL6.out
             have h2 := HK9.out.size
             have h3 := hb10.size
             show W1.heap.size < W10.heap.size
             omega
           clear hb10)
        | (with_reducible show wpList _ _ _ (Oper.mk (some 11) (Op.alloc 26) _ _ _ _ :: _) _ _
           refine wpList_alloc26 rfl rfl ?_; intro W11 hW11 zW11 sW11)
        | (with_reducible show wpList _ _ _ (Oper.mk _ (Op.store 26 (Operand.tmp 11) _) _ _ _ _ :: _) _ _
           refine wpList_store26 rfl _ _ rfl W10.heap.size 0 X rfl rfl sW11.th HLX.out ?_; intro W12 g12 r12 t12 z12
           have hb12 : Below W10.heap.size W10 W12 := hW11.grown g12 hW11.size (fun k e => by injection e with e; omega)
           have HB12 := Lib.hid (bel_then HB10.out hb12)
           have HR12 := Lib.hid (range_on HR10.out hb12)
           have HX12 := Lib.hid r12
           clear hW11 sW11 g12 t12 z12 hb12 r12 zW11)
        | (with_reducible show wpList _ _ _ (Oper.mk (some 63) (Op.load 26 (Operand.tmp 11)) _ _ _ _ :: _) _ _
           refine wpList_load_mid rfl 26 _ rfl _ _ rfl _ _ HX12.out Tryd.underlying26 rfl hi2 ?_)
        | (go_at_call 10; refine (open10 _ X HLX.out (tab_on HT.out HB12.out)).mono ?_
           rintro e W13 ⟨pv13, rfl, hB13, hb13⟩
           rw [HEX.out]
           have HB13 := Lib.hid (bel_then HB12.out hb13)
           obtain ⟨pp, pc, rfl, -⟩ := hB13
           have HR13 := Lib.hid (range_on (range_on HR12.out hb13) (bel1 _ (.cells #[.int .i64 (oK X), .int .i64 (oN X), .slice pp (oP X).length pc] 24)))
           have HX13 := Lib.hid (range_on (range_on HX12.out hb13) (bel1 _ (.cells #[.int .i64 (oK X), .int .i64 (oN X), .slice pp (oP X).length pc] 24)))
           clear hb13
           unfold frm)
        | (with_reducible show wpList _ _ _ (Oper.mk (some 70) (Op.load 26 (Operand.tmp 11)) _ _ _ _ :: _) _ _
           refine wpList_want (by kernel_rfl) fun KK hKK => wp_load_mid 26 _ rfl _ _ rfl _ _ HX13.out Tryd.underlying26 rfl hi2 (hKK _ _ ?_); clear hKK KK)
        | (with_reducible show wpList _ _ _ (Oper.mk (some 71) (Op.load 26 (Operand.tmp 7)) _ _ _ _ :: _) _ _
           refine wpList_want (by kernel_rfl) fun KK hKK => wp_load_mid 26 _ rfl _ _ rfl _ _ HR13.out Tryd.underlying26 rfl hi1 (hKK _ _ ?_); clear hKK KK)
        | (with_reducible show wpList _ _ _ (Oper.mk (some 78) (Op.load 26 (Operand.tmp 11)) _ _ _ _ :: _) _ _
           refine wpList_want (by kernel_rfl) fun KK hKK => wp_load_mid 26 _ rfl _ _ rfl _ _ HX13.out Tryd.underlying26 rfl hi2 (hKK _ _ ?_); clear hKK KK)
        | (with_reducible show wpList _ _ _ (Oper.mk (some 79) (Op.load 26 (Operand.tmp 7)) _ _ _ _ :: _) _ _
           refine wpList_want (by kernel_rfl) fun KK hKK => wp_load_mid 26 _ rfl _ _ rfl _ _ HR13.out Tryd.underlying26 rfl hi1 (hKK _ _ ?_); clear hKK KK))
      go_ret
      exact ⟨rfl, bel_then HB13.out (bel1 _ _)⟩
end Go.Proofs.YtafnelpcnfmhfaaDoor
