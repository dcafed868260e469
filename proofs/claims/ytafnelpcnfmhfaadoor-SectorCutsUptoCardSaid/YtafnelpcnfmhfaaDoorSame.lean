/-
  When two frames are the same; what the laws' begun does.
-/
import Derived.Test.YtafnelpcnfmhfaaDoorOpm
namespace Go.Proofs.YtafnelpcnfmhfaaDoor
open Go.RowKit
set_option linter.unusedVariables false      -- a walk need not use every condition
attribute [local go_sem ↓] Go.wp_at_zero Go.wp_at_succ

def sameF (k n : Int) (t : List UInt8) (k' n' : Int) (u : List UInt8) : Bool := decide (k = k') && (decide (n = n') && (t == u))
set_option maxHeartbeats 1600000 in
theorem same13 (w : World) (k n k' n' : Int) (a b : Value) (t u : List UInt8) (ha : Bs w a t) (hb : Bs w b u) :
    Calls Tryd.prog 13 #[frm k n a, frm k' n' b] w fun e w' => e = .returned (.bool (sameF k n t k' n' u)) ∧ Below w.heap.size w w' := by
  have c1 := fun W (h : Below w.heap.size w W) => (ha.on h).str
  have c2 := fun W (h : Below w.heap.size w W) => (hb.on h).str
  have hq := arr_beq t u
  obtain ⟨p, cap, rfl, -⟩ := ha
  obtain ⟨q, cap', rfl, -⟩ := hb
  have hB : Below w.heap.size w ((w.alloc (.cells #[.int .i64 k, .int .i64 n, .slice p t.length cap] 24)).alloc (.cells #[.int .i64 k', .int .i64 n', .slice q u.length cap'] 24)) := (bel1 w _).alloc (by simp) _
  have d1 := c1 _ hB
  have d2 := c2 _ hB
  generalize (⟨t.toArray⟩ : ByteArray) = s1 at *
  generalize (⟨u.toArray⟩ : ByteArray) = s2 at *
  have HB := Lib.hid hB
  clear c1 c2 hB
  unfold sameF frm
  rw [← hq]
  clear hq
  by_cases h1 : k = k'
  · subst h1
    by_cases h2 : n = n'
    · subst h2
      go_enter Tryd.func13, Tryd.ntmps13
      go_wp2
      go_ret
      exact ⟨by simp, HB.out⟩
    · have e2 : (n == n') = false := by simpa using h2
      go_enter Tryd.func13, Tryd.ntmps13
      go_wp2
      go_ret
      exact ⟨by simp [h2], HB.out⟩
  · have e1 : (k == k') = false := by simpa using h1
    go_enter Tryd.func13, Tryd.ntmps13
    go_wp2
    go_ret
    exact ⟨by simp [h1], HB.out⟩
theorem sameF_self (k n : Int) (t : List UInt8) : sameF k n t k n t = true := by simp [sameF]
theorem sum_nine : csum (nat8 [49, 50, 51, 52, 53, 54, 55, 56, 57]) = 3421780262 := by decide +kernel
set_option maxHeartbeats 3200000 in
set_option maxRecDepth 100000 in
theorem begun12 (w : World) (hT : TabOk w) : Calls Tryd.prog 12 #[] w fun e w' => e = .returned (.bool true) ∧ Below w.heap.size w w' := by
  have ho : okF 1 5 [7, 8] = true := by decide
  obtain ⟨q1, q2, q3, q4⟩ := open_seal (k := 1) (n := 5) (pay := [7, 8]) (by decide) ho
  have hE : sealE 1 5 [7, 8] = 0 := by unfold sealE; rw [ho, if_pos rfl]
  have B1 : Bs (w.alloc (.cells #[.int .u8 7, .int .u8 8] 5)) (.slice (some ⟨w.heap.size, 0, none⟩) 2 2) [7, 8] :=
    ⟨_, 2, rfl, Nat.le_refl _, by decide, fun e => (by cases e), .inr ⟨_, 0, rfl, range_new w [.int .u8 7, .int .u8 8] 5⟩⟩
  have cS := seal8 (w.alloc (.cells #[.int .u8 7, .int .u8 8] 5)) 1 5 _ [7, 8] B1 (tab_on hT (bel1 _ _)) (by decide)
  rw [hE] at cS
  obtain ⟨Z, hZ⟩ : ∃ Z, sealB 1 5 [7, 8] = Z := ⟨_, rfl⟩
  have hlZ := len_sealB 1 5 [7, 8]
  rw [hZ] at cS q1 q2 q3 q4 hlZ
  have HT := Lib.hid hT
  have hi1 : (Tryd.prog.info? 26).map (·.size) = some (enc Z).length := by rw [size26, len_enc, hlZ]
  have HL := Lib.hid hlZ
  have HQ := Lib.hid (And.intro q1 (And.intro q2 (And.intro q3 q4)))
  clear hZ ho hE B1 q1 q2 q3 q4 hT hlZ
  unfold frm at cS
  go_enter Tryd.func12, Tryd.ntmps12
  go_wp2_with (first
    | (go_at_call 8; refine cS.mono ?_; rintro e W1 ⟨rfl, hb1⟩)
    | (show wpList _ _ _ (Oper.mk (some 1) (Op.alloc 26) _ _ _ _ :: _) _ _
       refine wpList_alloc26 rfl rfl ?_; intro W2 hW2 zW2 sW2)
    | (show wpList _ _ _ (Oper.mk _ (Op.store 26 (Operand.tmp 1) _) _ _ _ _ :: _) _ _
       refine wpList_store26 rfl _ _ rfl W1.heap.size 0 Z rfl rfl sW2.th HL.out ?_; intro W3 g3 r3 t3 z3
       have hb3 : Below w.heap.size w W3 := (bel_then (bel_then (bel1 w _) hb1) hW2).grown g3 (by have := hb1.size; simp at this; have := hW2.size; omega) (fun k e => by injection e with e; have := hb1.size; simp at this; omega)
       have HB3 := Lib.hid hb3
       clear hb1 hW2 sW2 g3 t3 hb3)
    | (show wpList _ _ _ (Oper.mk _ (Op.load 26 (Operand.tmp 1)) _ _ _ _ :: _) _ _
       refine wpList_load_mid rfl 26 _ rfl _ _ rfl _ _ r3 Tryd.underlying26 rfl hi1 ?_)
    | (go_at_call 10; refine (open10 _ Z HL.out (tab_on HT.out HB3.out)).mono ?_
       rintro e W4 ⟨pv, rfl, hB4, hb4⟩
       obtain ⟨q1, q2, q3, q4⟩ := HQ.out
       rw [q1, q2, q4]
       rw [q3] at hB4
       have HB4 := Lib.hid hB4
       have HW4 := Lib.hid (bel_then HB3.out hb4)
       obtain ⟨pp, pc, rfl, -⟩ := hB4
       clear q1 q2 q3 q4 hb4
       unfold frm
       have hcv := Go.Joins.run_convert_bytes_const_at (P := Tryd.prog) (W4.alloc (.cells #[.int .i64 1, .int .i64 5, .slice pp 2 pc] 24)) 22 5 #[.int .u8 49, .int .u8 50, .int .u8 51, .int .u8 52, .int .u8 53, .int .u8 54, .int .u8 55, .int .u8 56, .int .u8 57] 9 9 (W4.heap.size + 1) (by simp) Tryd.underlying22 Tryd.underlying5)
    | (go_at_call 14
       refine (sum14 _ _ [49, 50, 51, 52, 53, 54, 55, 56, 57] ⟨_, 9, rfl, Nat.le_refl _, by decide, fun e => (by cases e), .inr ⟨_, 0, rfl, ?hr⟩⟩ ?ht).mono ?_
       case hr => (have := World.rangeAt_of_block (heap_alloc_last (W4.alloc (.cells #[.int .i64 1, .int .i64 5, .slice pp 2 pc] 24)) (.cells #[.int .u8 49, .int .u8 50, .int .u8 51, .int .u8 52, .int .u8 53, .int .u8 54, .int .u8 55, .int .u8 56, .int .u8 57] 5 (9, 10))) 0 9; rw [World.size_alloc] at this; exact this)
       case ht => exact tab_on (tab_on (tab_on HT.out HW4.out) (bel1 _ _)) (bel1 _ _)
       rintro e W5 ⟨rfl, rfl⟩
       rw [sum_nine])
    | (go_at_call 13
       refine (same13 _ 1 5 1 5 _ _ [7, 8] [7, 8] (((HB4.out.on (bel1 _ _)).on (bel1 _ _)).on (bel1 _ _)) ⟨_, 2, rfl, Nat.le_refl _, by decide, fun e => (by cases e), .inr ⟨_, 0, rfl, ?hr⟩⟩).mono ?_
       case hr => (have := range_new ((W4.alloc (.cells #[.int .i64 1, .int .i64 5, .slice pp 2 pc] 24)).alloc (.cells #[.int .u8 49, .int .u8 50, .int .u8 51, .int .u8 52, .int .u8 53, .int .u8 54, .int .u8 55, .int .u8 56, .int .u8 57] 5 (9, 10))) [.int .u8 7, .int .u8 8] 5; rw [World.size_alloc, World.size_alloc] at this; exact this)
       rintro e W6 ⟨rfl, hb6⟩
       rw [sameF_self]))
  go_ret
  exact ⟨rfl, bel_then (bel_then (bel_then (bel_then HW4.out (bel1 _ _)) (bel1 _ _)) (bel1 _ _)) hb6⟩
end Go.Proofs.YtafnelpcnfmhfaaDoor
