/-
  The walk of SectorBack.
-/
import Derived.Test.YtafnelpcnfmhfaaDoorSame
namespace Go.Proofs.YtafnelpcnfmhfaaDoor
open Go.RowKit
set_option linter.unusedVariables false      -- a walk need not use every condition
attribute [local go_sem ↓] Go.wp_at_zero Go.wp_at_succ

set_option maxHeartbeats 3200000 in
set_option maxRecDepth 100000 in
theorem back6 (w : World) (k n : Int) (pv : Value) (pay : List UInt8) (hp : Bs w pv pay) (hT : TabOk w) (hn : n ≤ 9223372036854775807) :
    Calls Tryd.prog 6 #[frm k n pv] w fun e w' => e = .returned (.bool true) ∧ Below w.heap.size w w' := by
  have HP := Lib.hid hp
  have HT := Lib.hid hT
  obtain ⟨p, cap, rfl, -⟩ := hp
  have cS := seal8 (w.alloc (.cells #[.int .i64 k, .int .i64 n, .slice p pay.length cap] 24)) k n _ pay (HP.out.on (bel1 _ _)) (tab_on HT.out (bel1 _ _)) hn
  have HQ : Hid (okF k n pay = true → oK (sealB k n pay) = k ∧ oN (sealB k n pay) = n ∧ oP (sealB k n pay) = pay ∧ oE (sealB k n pay) = 0) := fun ho => open_seal hn ho
  have HLZ := Lib.hid (len_sealB k n pay)
  have HE : Hid (sealE k n pay = if okF k n pay then 0 else 1) := rfl
  generalize sealE k n pay = E at *
  generalize sealB k n pay = Z at *
  have hi1 : (Tryd.prog.info? 26).map (·.size) = some (enc Z).length := by rw [size26, len_enc, HLZ.out]
  clear hT
  unfold frm at cS ⊢
  cases ho : okF k n pay with
  | false =>
    have hE1 : E = 1 := by rw [HE.out, ho]; rfl
    subst hE1
    clear HE HQ ho
    go_enter Tryd.func6, Tryd.ntmps6
    go_wp2_with (first
      | (go_at_call 8; refine cS.mono ?_; rintro e W1 ⟨rfl, hb1⟩)
      | (show wpList _ _ _ (Oper.mk (some 3) (Op.alloc 26) _ _ _ _ :: _) _ _
         refine wpList_alloc26 rfl rfl ?_; intro W2 hW2 zW2 sW2)
      | (show wpList _ _ _ (Oper.mk _ (Op.store 26 (Operand.tmp 3) _) _ _ _ _ :: _) _ _
         refine wpList_store26 rfl _ _ rfl W1.heap.size 0 Z rfl rfl sW2.th HLZ.out ?_; intro W3 g3 r3 t3 z3
         have hb3 : Below w.heap.size w W3 := (bel_then (bel_then (bel1 w _) hb1) hW2).grown g3 (by have := hb1.size; simp at this; have := hW2.size; omega) (fun k e => by injection e with e; have := hb1.size; simp at this; omega)
         have HB3 := Lib.hid hb3
         clear hb1 hW2 sW2 g3 t3 hb3)
      | (go_at_call 10; (try rw [zc]); refine (open10 _ zer len_zer (tab_on HT.out HB3.out)).mono ?_
         rintro e W4 ⟨pv, rfl, hB4, hb4⟩
         rw [open_zero]
         have HW4 := Lib.hid (bel_then HB3.out hb4)
         obtain ⟨pp, pc, rfl, -⟩ := hB4
         unfold frm)
      | (go_at_call 12; refine (begun12 _ (tab_on (tab_on HT.out HW4.out) (bel1 _ _))).mono ?_
         rintro e W5 ⟨rfl, hb5⟩))
    go_ret
    exact ⟨rfl, bel_then (bel_then HW4.out (bel1 _ _)) hb5⟩
  | true =>
    have hE1 : E = 0 := by rw [HE.out, ho]; rfl
    subst hE1
    have HQ2 := Lib.hid (HQ.out ho)
    clear HE HQ ho
    have tk : True := trivial
    go_enter Tryd.func6, Tryd.ntmps6
    go_wp2_with (first
      | (go_at_call 8; refine cS.mono ?_; rintro e W1 ⟨rfl, hb1⟩)
      | (show wpList _ _ _ (Oper.mk (some 3) (Op.alloc 26) _ _ _ _ :: _) _ _
         refine wpList_alloc26 rfl rfl ?_; intro W2 hW2 zW2 sW2)
      | (show wpList _ _ _ (Oper.mk _ (Op.store 26 (Operand.tmp 3) _) _ _ _ _ :: _) _ _
         refine wpList_store26 rfl _ _ rfl W1.heap.size 0 Z rfl rfl sW2.th HLZ.out ?_; intro W3 g3 r3 t3 z3
         have hba : Below (w.alloc (.cells #[.int .i64 k, .int .i64 n, .slice p pay.length cap] 24)).heap.size (w.alloc (.cells #[.int .i64 k, .int .i64 n, .slice p pay.length cap] 24)) W3 := (bel_then hb1 hW2).grown g3 (by have := hb1.size; have := hW2.size; omega) (fun k e => by injection e with e; have := hb1.size; omega)
         have hbx3 := blk_on hba (heap_alloc_last w _)
         have hb3 := bel_then (bel1 w _) hba
         have HB3 := Lib.hid hb3
         have HX3 := Lib.hid hbx3
         have HR3 := Lib.hid r3
         clear hb1 hW2 sW2 g3 t3 hb3 hba hbx3 r3)
      | (go_at_call 10; clear tk; (try rw [zc]); refine (open10 _ zer len_zer (tab_on HT.out HB3.out)).mono ?_
         rintro e W4 ⟨pv, rfl, hB4, hb4⟩
         rw [open_zero]
         have HW4 := Lib.hid (bel_then HB3.out hb4)
         have HX4 := Lib.hid (blk_on hb4 HX3.out)
         have HR4 := Lib.hid (range_on HR3.out hb4)
         obtain ⟨pp, pc, rfl, -⟩ := hB4
         unfold frm)
      | (go_at_call 12; refine (begun12 _ (tab_on (tab_on HT.out HW4.out) (bel1 _ _))).mono ?_
         rintro e W5 ⟨rfl, hb5⟩
         have HW5 := Lib.hid (bel_then (bel_then HW4.out (bel1 _ _)) hb5)
         have HX5 := Lib.hid (blk_on hb5 (blk_on (bel1 _ _) HX4.out))
         have HR5 := Lib.hid (range_on (range_on HR4.out (bel1 _ _)) hb5))
      | (show wpList _ _ _ (Oper.mk _ (Op.load 26 (Operand.tmp 3)) _ _ _ _ :: _) _ _
         refine wpList_load_mid rfl 26 _ rfl _ _ rfl _ _ HR5.out Tryd.underlying26 rfl hi1 ?_)
      | (go_at_call 10; refine (open10 _ Z HLZ.out (tab_on HT.out HW5.out)).mono ?_
         rintro e W6 ⟨pv6, rfl, hB6, hb6⟩
         obtain ⟨q1, q2, q3, q4⟩ := HQ2.out
         rw [q1, q2, q4]
         rw [q3] at hB6
         have HW6 := Lib.hid (bel_then HW5.out hb6)
         have HB6 := Lib.hid hB6
         have hx6 := blk_on hb6 HX5.out
         obtain ⟨pp6, pc6, rfl, -⟩ := hB6
         obtain ⟨b0, b1, b2⟩ := box_of (blk_on (bel1 W6 (.cells #[.int .i64 k, .int .i64 n, .slice pp6 pay.length pc6] 24)) hx6)
         clear hx6
         clear q1 q2 q3 q4 hb6
         unfold frm)
      | (go_at_call 13
         refine (same13 _ k n k n _ _ pay pay (HB6.out.on (bel1 _ _)) (HP.out.on (bel_then HW6.out (bel1 _ _)))).mono ?_
         rintro e W7 ⟨rfl, hb7⟩
         rw [sameF_self]))
    go_ret
    exact ⟨rfl, bel_then (bel_then HW6.out (bel1 _ _)) hb7⟩
end Go.Proofs.YtafnelpcnfmhfaaDoor
