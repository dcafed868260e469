/-
  For all a, b, c: Sub undoes Add, Neg undoes itself, and Mul goes over Add where all have room; no condition.
-/
import Derived.Test.YtphkleiamlllgaaRows
import Derived.Test.YtphkleiamlllgaaNum
import Derived.Test.YtphkleiamlllgaaRef
import Derived.WalkKit
import Derived.ProofKit
import Derived.OpenShut
import Derived.ShutString
namespace Go.Proofs.Ytphkleiamlllgaa.numUndoes
open Go.ChangeShapes Go.WideShapes Go.ChangeAt Go.RowKit
open Go.ChangeMaps (open_string shut_string)
set_option linter.unusedVariables false      -- a walk need not use every 'w<i>' (that an integer argument fits its kind)

theorem own : ownKnob Try.prog.godebug = none := by kernel_rfl

/-! ### STEP 1: THE WALK: the Go text returns true. 'Grown w w'': the world has at most new blocks (Derived/RowKit3.lean). Part the cases AHEAD of 'go_enter' where a test parts the walk; take each callee by a contract of your own. -/
theorem fits_wf {a : Int} (h : (Lit.int .i64 a).wf = true) : fits a = true := by
  rw [fits_iff]
  simpa [Lit.wf, IntKind.min, IntKind.max, IntKind.signed, IntKind.bits] using h
theorem fits_nv (x : Int) : fits (nv x) = true := (fits_iff _).2 (nv_bd x)

set_option maxHeartbeats 1000000 in
theorem way_yes_no (a0 a1 a2 : Int) (f0 : fits a0 = true) (f1 : fits a1 = true) (f2 : fits a2 = true) (w : World) (hN : fits (-a0) = true) (hA : fits (a0 + a1) = false) :
    Calls Try.prog 6 #[.int .i64 a0, .int .i64 a1, .int .i64 a2] w fun e w' => e = .returned (.bool true) ∧ Grown w w' := by
  have f3 : fits 1 = true := by decide
  have f4 : fits 0 = true := by decide
  have e1 : nv 2 = 2 := by decide
  have e2 : ne 2 = 0 := by decide
  have n0 := nv_yes f0
  have o0 := ne_yes f0
  have n1 := nv_yes hN
  have o1 := ne_yes hN
  have n2 := nv_no hA
  have o2 := ne_no hA
  go_enter Try.func6, Try.ntmps6
  go_wp2_with (first
    | (go_at_call 7; refine (numAdd_any _ _ (by first | assumption | exact fits_nv _) (by first | assumption | exact fits_nv _) _).mono ?_; rintro e u1 ⟨rfl, g1⟩; have g : Gb w u1 := Gb.trans (by first | assumption | exact Gb.refl _) g1; clear g1)
    | (go_at_call 9; refine (numSub_any _ _ (by first | assumption | exact fits_nv _) (by first | assumption | exact fits_nv _) _).mono ?_; rintro e u1 ⟨rfl, g1⟩; have g : Gb w u1 := Gb.trans (by first | assumption | exact Gb.refl _) g1; clear g1)
    | (go_at_call 11; refine (numMul_any _ _ (by first | assumption | exact fits_nv _) (by first | assumption | exact fits_nv _) _).mono ?_; rintro e u1 ⟨rfl, g1⟩; have g : Gb w u1 := Gb.trans (by first | assumption | exact Gb.refl _) g1; clear g1)
    | (go_at_call 13; refine (numNeg_any _ (by first | assumption | exact fits_nv _) _).mono ?_; rintro e u1 ⟨rfl, g1⟩; have g : Gb w u1 := Gb.trans (by first | assumption | exact Gb.refl _) g1; clear g1))
  go_ret
  exact ⟨rfl, (‹Gb w _› : Gb w _).1⟩

set_option maxHeartbeats 1000000 in
theorem way_yes_yes_no (a0 a1 a2 : Int) (f0 : fits a0 = true) (f1 : fits a1 = true) (f2 : fits a2 = true) (w : World) (hN : fits (-a0) = true) (hA : fits (a0 + a1) = true) (hF : fits ((a0 + a1) * a2) = false) :
    Calls Try.prog 6 #[.int .i64 a0, .int .i64 a1, .int .i64 a2] w fun e w' => e = .returned (.bool true) ∧ Grown w w' := by
  have f3 : fits 1 = true := by decide
  have f4 : fits 0 = true := by decide
  have e1 : nv 2 = 2 := by decide
  have e2 : ne 2 = 0 := by decide
  have n0 := nv_yes f0
  have o0 := ne_yes f0
  have n1 := nv_yes hN
  have o1 := ne_yes hN
  have n2 := nv_yes hA
  have o2 := ne_yes hA
  have n3 := nv_no hF
  have o3 := ne_no hF
  go_enter Try.func6, Try.ntmps6
  go_wp2_with (first
    | (go_at_call 7; refine (numAdd_any _ _ (by first | assumption | exact fits_nv _) (by first | assumption | exact fits_nv _) _).mono ?_; rintro e u1 ⟨rfl, g1⟩; have g : Gb w u1 := Gb.trans (by first | assumption | exact Gb.refl _) g1; clear g1)
    | (go_at_call 9; refine (numSub_any _ _ (by first | assumption | exact fits_nv _) (by first | assumption | exact fits_nv _) _).mono ?_; rintro e u1 ⟨rfl, g1⟩; have g : Gb w u1 := Gb.trans (by first | assumption | exact Gb.refl _) g1; clear g1)
    | (go_at_call 11; refine (numMul_any _ _ (by first | assumption | exact fits_nv _) (by first | assumption | exact fits_nv _) _).mono ?_; rintro e u1 ⟨rfl, g1⟩; have g : Gb w u1 := Gb.trans (by first | assumption | exact Gb.refl _) g1; clear g1)
    | (go_at_call 13; refine (numNeg_any _ (by first | assumption | exact fits_nv _) _).mono ?_; rintro e u1 ⟨rfl, g1⟩; have g : Gb w u1 := Gb.trans (by first | assumption | exact Gb.refl _) g1; clear g1))
  go_ret
  exact ⟨rfl, (‹Gb w _› : Gb w _).1⟩

set_option maxHeartbeats 1000000 in
theorem way_yes_yes_yes_no (a0 a1 a2 : Int) (f0 : fits a0 = true) (f1 : fits a1 = true) (f2 : fits a2 = true) (w : World) (hN : fits (-a0) = true) (hA : fits (a0 + a1) = true) (hF : fits ((a0 + a1) * a2) = true) (hG : fits (a0 * a2) = false) :
    Calls Try.prog 6 #[.int .i64 a0, .int .i64 a1, .int .i64 a2] w fun e w' => e = .returned (.bool true) ∧ Grown w w' := by
  have f3 : fits 1 = true := by decide
  have f4 : fits 0 = true := by decide
  have e1 : nv 2 = 2 := by decide
  have e2 : ne 2 = 0 := by decide
  have n0 := nv_yes f0
  have o0 := ne_yes f0
  have n1 := nv_yes hN
  have o1 := ne_yes hN
  have n2 := nv_yes hA
  have o2 := ne_yes hA
  have n3 := nv_yes hF
  have o3 := ne_yes hF
  have n4 := nv_no hG
  have o4 := ne_no hG
  go_enter Try.func6, Try.ntmps6
  go_wp2_with (first
    | (go_at_call 7; refine (numAdd_any _ _ (by first | assumption | exact fits_nv _) (by first | assumption | exact fits_nv _) _).mono ?_; rintro e u1 ⟨rfl, g1⟩; have g : Gb w u1 := Gb.trans (by first | assumption | exact Gb.refl _) g1; clear g1)
    | (go_at_call 9; refine (numSub_any _ _ (by first | assumption | exact fits_nv _) (by first | assumption | exact fits_nv _) _).mono ?_; rintro e u1 ⟨rfl, g1⟩; have g : Gb w u1 := Gb.trans (by first | assumption | exact Gb.refl _) g1; clear g1)
    | (go_at_call 11; refine (numMul_any _ _ (by first | assumption | exact fits_nv _) (by first | assumption | exact fits_nv _) _).mono ?_; rintro e u1 ⟨rfl, g1⟩; have g : Gb w u1 := Gb.trans (by first | assumption | exact Gb.refl _) g1; clear g1)
    | (go_at_call 13; refine (numNeg_any _ (by first | assumption | exact fits_nv _) _).mono ?_; rintro e u1 ⟨rfl, g1⟩; have g : Gb w u1 := Gb.trans (by first | assumption | exact Gb.refl _) g1; clear g1))
  go_ret
  exact ⟨rfl, (‹Gb w _› : Gb w _).1⟩

set_option maxHeartbeats 1000000 in
theorem way_yes_yes_yes_yes_no (a0 a1 a2 : Int) (f0 : fits a0 = true) (f1 : fits a1 = true) (f2 : fits a2 = true) (w : World) (hN : fits (-a0) = true) (hA : fits (a0 + a1) = true) (hF : fits ((a0 + a1) * a2) = true) (hG : fits (a0 * a2) = true) (hH : fits (a1 * a2) = false) :
    Calls Try.prog 6 #[.int .i64 a0, .int .i64 a1, .int .i64 a2] w fun e w' => e = .returned (.bool true) ∧ Grown w w' := by
  have f3 : fits 1 = true := by decide
  have f4 : fits 0 = true := by decide
  have e1 : nv 2 = 2 := by decide
  have e2 : ne 2 = 0 := by decide
  have n0 := nv_yes f0
  have o0 := ne_yes f0
  have n1 := nv_yes hN
  have o1 := ne_yes hN
  have n2 := nv_yes hA
  have o2 := ne_yes hA
  have n3 := nv_yes hF
  have o3 := ne_yes hF
  have n4 := nv_yes hG
  have o4 := ne_yes hG
  have n5 := nv_no hH
  have o5 := ne_no hH
  go_enter Try.func6, Try.ntmps6
  go_wp2_with (first
    | (go_at_call 7; refine (numAdd_any _ _ (by first | assumption | exact fits_nv _) (by first | assumption | exact fits_nv _) _).mono ?_; rintro e u1 ⟨rfl, g1⟩; have g : Gb w u1 := Gb.trans (by first | assumption | exact Gb.refl _) g1; clear g1)
    | (go_at_call 9; refine (numSub_any _ _ (by first | assumption | exact fits_nv _) (by first | assumption | exact fits_nv _) _).mono ?_; rintro e u1 ⟨rfl, g1⟩; have g : Gb w u1 := Gb.trans (by first | assumption | exact Gb.refl _) g1; clear g1)
    | (go_at_call 11; refine (numMul_any _ _ (by first | assumption | exact fits_nv _) (by first | assumption | exact fits_nv _) _).mono ?_; rintro e u1 ⟨rfl, g1⟩; have g : Gb w u1 := Gb.trans (by first | assumption | exact Gb.refl _) g1; clear g1)
    | (go_at_call 13; refine (numNeg_any _ (by first | assumption | exact fits_nv _) _).mono ?_; rintro e u1 ⟨rfl, g1⟩; have g : Gb w u1 := Gb.trans (by first | assumption | exact Gb.refl _) g1; clear g1))
  go_ret
  exact ⟨rfl, (‹Gb w _› : Gb w _).1⟩

set_option maxHeartbeats 1000000 in
theorem way_yes_yes_yes_yes_yes (a0 a1 a2 : Int) (f0 : fits a0 = true) (f1 : fits a1 = true) (f2 : fits a2 = true) (w : World) (hN : fits (-a0) = true) (hA : fits (a0 + a1) = true) (hF : fits ((a0 + a1) * a2) = true) (hG : fits (a0 * a2) = true) (hH : fits (a1 * a2) = true) :
    Calls Try.prog 6 #[.int .i64 a0, .int .i64 a1, .int .i64 a2] w fun e w' => e = .returned (.bool true) ∧ Grown w w' := by
  have f3 : fits 1 = true := by decide
  have f4 : fits 0 = true := by decide
  have e1 : nv 2 = 2 := by decide
  have e2 : ne 2 = 0 := by decide
  have n0 := nv_yes f0
  have o0 := ne_yes f0
  have n1 := nv_yes hN
  have o1 := ne_yes hN
  have n2 := nv_yes hA
  have o2 := ne_yes hA
  have n3 := nv_yes hF
  have o3 := ne_yes hF
  have n4 := nv_yes hG
  have o4 := ne_yes hG
  have n5 := nv_yes hH
  have o5 := ne_yes hH
  have e6 : a0 * a2 + a1 * a2 = (a0 + a1) * a2 := (Int.add_mul _ _ _).symm
  go_enter Try.func6, Try.ntmps6
  go_wp2_with (first
    | (go_at_call 7; refine (numAdd_any _ _ (by first | assumption | exact fits_nv _) (by first | assumption | exact fits_nv _) _).mono ?_; rintro e u1 ⟨rfl, g1⟩; have g : Gb w u1 := Gb.trans (by first | assumption | exact Gb.refl _) g1; clear g1)
    | (go_at_call 9; refine (numSub_any _ _ (by first | assumption | exact fits_nv _) (by first | assumption | exact fits_nv _) _).mono ?_; rintro e u1 ⟨rfl, g1⟩; have g : Gb w u1 := Gb.trans (by first | assumption | exact Gb.refl _) g1; clear g1)
    | (go_at_call 11; refine (numMul_any _ _ (by first | assumption | exact fits_nv _) (by first | assumption | exact fits_nv _) _).mono ?_; rintro e u1 ⟨rfl, g1⟩; have g : Gb w u1 := Gb.trans (by first | assumption | exact Gb.refl _) g1; clear g1)
    | (go_at_call 13; refine (numNeg_any _ (by first | assumption | exact fits_nv _) _).mono ?_; rintro e u1 ⟨rfl, g1⟩; have g : Gb w u1 := Gb.trans (by first | assumption | exact Gb.refl _) g1; clear g1))
  go_ret
  exact ⟨rfl, (‹Gb w _› : Gb w _).1⟩

set_option maxHeartbeats 1000000 in
theorem way_no_no (a0 a1 a2 : Int) (f0 : fits a0 = true) (f1 : fits a1 = true) (f2 : fits a2 = true) (w : World) (hN : fits (-a0) = false) (hA : fits (a0 + a1) = false) :
    Calls Try.prog 6 #[.int .i64 a0, .int .i64 a1, .int .i64 a2] w fun e w' => e = .returned (.bool true) ∧ Grown w w' := by
  have f3 : fits 1 = true := by decide
  have f4 : fits 0 = true := by decide
  have e1 : nv 2 = 2 := by decide
  have e2 : ne 2 = 0 := by decide
  have n0 := nv_yes f0
  have o0 := ne_yes f0
  have n1 := nv_no hN
  have o1 := ne_no hN
  have n2 := nv_no hA
  have o2 := ne_no hA
  go_enter Try.func6, Try.ntmps6
  go_wp2_with (first
    | (go_at_call 7; refine (numAdd_any _ _ (by first | assumption | exact fits_nv _) (by first | assumption | exact fits_nv _) _).mono ?_; rintro e u1 ⟨rfl, g1⟩; have g : Gb w u1 := Gb.trans (by first | assumption | exact Gb.refl _) g1; clear g1)
    | (go_at_call 9; refine (numSub_any _ _ (by first | assumption | exact fits_nv _) (by first | assumption | exact fits_nv _) _).mono ?_; rintro e u1 ⟨rfl, g1⟩; have g : Gb w u1 := Gb.trans (by first | assumption | exact Gb.refl _) g1; clear g1)
    | (go_at_call 11; refine (numMul_any _ _ (by first | assumption | exact fits_nv _) (by first | assumption | exact fits_nv _) _).mono ?_; rintro e u1 ⟨rfl, g1⟩; have g : Gb w u1 := Gb.trans (by first | assumption | exact Gb.refl _) g1; clear g1)
    | (go_at_call 13; refine (numNeg_any _ (by first | assumption | exact fits_nv _) _).mono ?_; rintro e u1 ⟨rfl, g1⟩; have g : Gb w u1 := Gb.trans (by first | assumption | exact Gb.refl _) g1; clear g1))
  go_ret
  exact ⟨rfl, (‹Gb w _› : Gb w _).1⟩

set_option maxHeartbeats 1000000 in
theorem way_no_yes_no (a0 a1 a2 : Int) (f0 : fits a0 = true) (f1 : fits a1 = true) (f2 : fits a2 = true) (w : World) (hN : fits (-a0) = false) (hA : fits (a0 + a1) = true) (hF : fits ((a0 + a1) * a2) = false) :
    Calls Try.prog 6 #[.int .i64 a0, .int .i64 a1, .int .i64 a2] w fun e w' => e = .returned (.bool true) ∧ Grown w w' := by
  have f3 : fits 1 = true := by decide
  have f4 : fits 0 = true := by decide
  have e1 : nv 2 = 2 := by decide
  have e2 : ne 2 = 0 := by decide
  have n0 := nv_yes f0
  have o0 := ne_yes f0
  have n1 := nv_no hN
  have o1 := ne_no hN
  have n2 := nv_yes hA
  have o2 := ne_yes hA
  have n3 := nv_no hF
  have o3 := ne_no hF
  go_enter Try.func6, Try.ntmps6
  go_wp2_with (first
    | (go_at_call 7; refine (numAdd_any _ _ (by first | assumption | exact fits_nv _) (by first | assumption | exact fits_nv _) _).mono ?_; rintro e u1 ⟨rfl, g1⟩; have g : Gb w u1 := Gb.trans (by first | assumption | exact Gb.refl _) g1; clear g1)
    | (go_at_call 9; refine (numSub_any _ _ (by first | assumption | exact fits_nv _) (by first | assumption | exact fits_nv _) _).mono ?_; rintro e u1 ⟨rfl, g1⟩; have g : Gb w u1 := Gb.trans (by first | assumption | exact Gb.refl _) g1; clear g1)
    | (go_at_call 11; refine (numMul_any _ _ (by first | assumption | exact fits_nv _) (by first | assumption | exact fits_nv _) _).mono ?_; rintro e u1 ⟨rfl, g1⟩; have g : Gb w u1 := Gb.trans (by first | assumption | exact Gb.refl _) g1; clear g1)
    | (go_at_call 13; refine (numNeg_any _ (by first | assumption | exact fits_nv _) _).mono ?_; rintro e u1 ⟨rfl, g1⟩; have g : Gb w u1 := Gb.trans (by first | assumption | exact Gb.refl _) g1; clear g1))
  go_ret
  exact ⟨rfl, (‹Gb w _› : Gb w _).1⟩

set_option maxHeartbeats 1000000 in
theorem way_no_yes_yes_no (a0 a1 a2 : Int) (f0 : fits a0 = true) (f1 : fits a1 = true) (f2 : fits a2 = true) (w : World) (hN : fits (-a0) = false) (hA : fits (a0 + a1) = true) (hF : fits ((a0 + a1) * a2) = true) (hG : fits (a0 * a2) = false) :
    Calls Try.prog 6 #[.int .i64 a0, .int .i64 a1, .int .i64 a2] w fun e w' => e = .returned (.bool true) ∧ Grown w w' := by
  have f3 : fits 1 = true := by decide
  have f4 : fits 0 = true := by decide
  have e1 : nv 2 = 2 := by decide
  have e2 : ne 2 = 0 := by decide
  have n0 := nv_yes f0
  have o0 := ne_yes f0
  have n1 := nv_no hN
  have o1 := ne_no hN
  have n2 := nv_yes hA
  have o2 := ne_yes hA
  have n3 := nv_yes hF
  have o3 := ne_yes hF
  have n4 := nv_no hG
  have o4 := ne_no hG
  go_enter Try.func6, Try.ntmps6
  go_wp2_with (first
    | (go_at_call 7; refine (numAdd_any _ _ (by first | assumption | exact fits_nv _) (by first | assumption | exact fits_nv _) _).mono ?_; rintro e u1 ⟨rfl, g1⟩; have g : Gb w u1 := Gb.trans (by first | assumption | exact Gb.refl _) g1; clear g1)
    | (go_at_call 9; refine (numSub_any _ _ (by first | assumption | exact fits_nv _) (by first | assumption | exact fits_nv _) _).mono ?_; rintro e u1 ⟨rfl, g1⟩; have g : Gb w u1 := Gb.trans (by first | assumption | exact Gb.refl _) g1; clear g1)
    | (go_at_call 11; refine (numMul_any _ _ (by first | assumption | exact fits_nv _) (by first | assumption | exact fits_nv _) _).mono ?_; rintro e u1 ⟨rfl, g1⟩; have g : Gb w u1 := Gb.trans (by first | assumption | exact Gb.refl _) g1; clear g1)
    | (go_at_call 13; refine (numNeg_any _ (by first | assumption | exact fits_nv _) _).mono ?_; rintro e u1 ⟨rfl, g1⟩; have g : Gb w u1 := Gb.trans (by first | assumption | exact Gb.refl _) g1; clear g1))
  go_ret
  exact ⟨rfl, (‹Gb w _› : Gb w _).1⟩

set_option maxHeartbeats 1000000 in
theorem way_no_yes_yes_yes_no (a0 a1 a2 : Int) (f0 : fits a0 = true) (f1 : fits a1 = true) (f2 : fits a2 = true) (w : World) (hN : fits (-a0) = false) (hA : fits (a0 + a1) = true) (hF : fits ((a0 + a1) * a2) = true) (hG : fits (a0 * a2) = true) (hH : fits (a1 * a2) = false) :
    Calls Try.prog 6 #[.int .i64 a0, .int .i64 a1, .int .i64 a2] w fun e w' => e = .returned (.bool true) ∧ Grown w w' := by
  have f3 : fits 1 = true := by decide
  have f4 : fits 0 = true := by decide
  have e1 : nv 2 = 2 := by decide
  have e2 : ne 2 = 0 := by decide
  have n0 := nv_yes f0
  have o0 := ne_yes f0
  have n1 := nv_no hN
  have o1 := ne_no hN
  have n2 := nv_yes hA
  have o2 := ne_yes hA
  have n3 := nv_yes hF
  have o3 := ne_yes hF
  have n4 := nv_yes hG
  have o4 := ne_yes hG
  have n5 := nv_no hH
  have o5 := ne_no hH
  go_enter Try.func6, Try.ntmps6
  go_wp2_with (first
    | (go_at_call 7; refine (numAdd_any _ _ (by first | assumption | exact fits_nv _) (by first | assumption | exact fits_nv _) _).mono ?_; rintro e u1 ⟨rfl, g1⟩; have g : Gb w u1 := Gb.trans (by first | assumption | exact Gb.refl _) g1; clear g1)
    | (go_at_call 9; refine (numSub_any _ _ (by first | assumption | exact fits_nv _) (by first | assumption | exact fits_nv _) _).mono ?_; rintro e u1 ⟨rfl, g1⟩; have g : Gb w u1 := Gb.trans (by first | assumption | exact Gb.refl _) g1; clear g1)
    | (go_at_call 11; refine (numMul_any _ _ (by first | assumption | exact fits_nv _) (by first | assumption | exact fits_nv _) _).mono ?_; rintro e u1 ⟨rfl, g1⟩; have g : Gb w u1 := Gb.trans (by first | assumption | exact Gb.refl _) g1; clear g1)
    | (go_at_call 13; refine (numNeg_any _ (by first | assumption | exact fits_nv _) _).mono ?_; rintro e u1 ⟨rfl, g1⟩; have g : Gb w u1 := Gb.trans (by first | assumption | exact Gb.refl _) g1; clear g1))
  go_ret
  exact ⟨rfl, (‹Gb w _› : Gb w _).1⟩

set_option maxHeartbeats 1000000 in
theorem way_no_yes_yes_yes_yes (a0 a1 a2 : Int) (f0 : fits a0 = true) (f1 : fits a1 = true) (f2 : fits a2 = true) (w : World) (hN : fits (-a0) = false) (hA : fits (a0 + a1) = true) (hF : fits ((a0 + a1) * a2) = true) (hG : fits (a0 * a2) = true) (hH : fits (a1 * a2) = true) :
    Calls Try.prog 6 #[.int .i64 a0, .int .i64 a1, .int .i64 a2] w fun e w' => e = .returned (.bool true) ∧ Grown w w' := by
  have f3 : fits 1 = true := by decide
  have f4 : fits 0 = true := by decide
  have e1 : nv 2 = 2 := by decide
  have e2 : ne 2 = 0 := by decide
  have n0 := nv_yes f0
  have o0 := ne_yes f0
  have n1 := nv_no hN
  have o1 := ne_no hN
  have n2 := nv_yes hA
  have o2 := ne_yes hA
  have n3 := nv_yes hF
  have o3 := ne_yes hF
  have n4 := nv_yes hG
  have o4 := ne_yes hG
  have n5 := nv_yes hH
  have o5 := ne_yes hH
  have e6 : a0 * a2 + a1 * a2 = (a0 + a1) * a2 := (Int.add_mul _ _ _).symm
  go_enter Try.func6, Try.ntmps6
  go_wp2_with (first
    | (go_at_call 7; refine (numAdd_any _ _ (by first | assumption | exact fits_nv _) (by first | assumption | exact fits_nv _) _).mono ?_; rintro e u1 ⟨rfl, g1⟩; have g : Gb w u1 := Gb.trans (by first | assumption | exact Gb.refl _) g1; clear g1)
    | (go_at_call 9; refine (numSub_any _ _ (by first | assumption | exact fits_nv _) (by first | assumption | exact fits_nv _) _).mono ?_; rintro e u1 ⟨rfl, g1⟩; have g : Gb w u1 := Gb.trans (by first | assumption | exact Gb.refl _) g1; clear g1)
    | (go_at_call 11; refine (numMul_any _ _ (by first | assumption | exact fits_nv _) (by first | assumption | exact fits_nv _) _).mono ?_; rintro e u1 ⟨rfl, g1⟩; have g : Gb w u1 := Gb.trans (by first | assumption | exact Gb.refl _) g1; clear g1)
    | (go_at_call 13; refine (numNeg_any _ (by first | assumption | exact fits_nv _) _).mono ?_; rintro e u1 ⟨rfl, g1⟩; have g : Gb w u1 := Gb.trans (by first | assumption | exact Gb.refl _) g1; clear g1))
  go_ret
  exact ⟨rfl, (‹Gb w _› : Gb w _).1⟩

theorem walk_of (a0 a1 a2 : Int) (f0 : fits a0 = true) (f1 : fits a1 = true) (f2 : fits a2 = true) (w : World) :
    Calls Try.prog 6 #[.int .i64 a0, .int .i64 a1, .int .i64 a2] w fun e w' => e = .returned (.bool true) ∧ Grown w w' := by
  rcases Bool.eq_false_or_eq_true (fits (a0 + a1)) with hA | hA
  · rcases Bool.eq_false_or_eq_true (fits ((a0 + a1) * a2)) with hF | hF
    · rcases Bool.eq_false_or_eq_true (fits (a0 * a2)) with hG | hG
      · rcases Bool.eq_false_or_eq_true (fits (a1 * a2)) with hH | hH
        · rcases Bool.eq_false_or_eq_true (fits (-a0)) with hN | hN
          · exact way_yes_yes_yes_yes_yes a0 a1 a2 f0 f1 f2 w hN hA hF hG hH
          · exact way_no_yes_yes_yes_yes a0 a1 a2 f0 f1 f2 w hN hA hF hG hH
        · rcases Bool.eq_false_or_eq_true (fits (-a0)) with hN | hN
          · exact way_yes_yes_yes_yes_no a0 a1 a2 f0 f1 f2 w hN hA hF hG hH
          · exact way_no_yes_yes_yes_no a0 a1 a2 f0 f1 f2 w hN hA hF hG hH
      · rcases Bool.eq_false_or_eq_true (fits (-a0)) with hN | hN
        · exact way_yes_yes_yes_no a0 a1 a2 f0 f1 f2 w hN hA hF hG
        · exact way_no_yes_yes_no a0 a1 a2 f0 f1 f2 w hN hA hF hG
    · rcases Bool.eq_false_or_eq_true (fits (-a0)) with hN | hN
      · exact way_yes_yes_no a0 a1 a2 f0 f1 f2 w hN hA hF
      · exact way_no_yes_no a0 a1 a2 f0 f1 f2 w hN hA hF
  · rcases Bool.eq_false_or_eq_true (fits (-a0)) with hN | hN
    · exact way_yes_no a0 a1 a2 f0 f1 f2 w hN hA
    · exact way_no_no a0 a1 a2 f0 f1 f2 w hN hA

theorem walk (a0 : Int) (a1 : Int) (a2 : Int) (w0 : (Lit.int .i64 a0).wf = true) (w1 : (Lit.int .i64 a1).wf = true) (w2 : (Lit.int .i64 a2).wf = true) (w : World) :
    Calls Try.prog 6 #[.int .i64 a0, .int .i64 a1, .int .i64 a2] w fun e w' => e = .returned (.bool true) ∧ Grown w w' := by
  exact walk_of a0 a1 a2 (fits_wf w0) (fits_wf w1) (fits_wf w2) w

/-! ### THE ROW's STEP: WRITTEN OUT: LEAVE IT -/
set_option maxRecDepth 100000 in
theorem lifted (os : Os) (started : os.Started) (H : Type) (enc : TypeId × Value → H) :
    ReturnsInHanded {} Try.checked os 6 .any (Rows.numUndoesSpec.pre6 enc Try.prog Try.f6 Rows.numUndoesRow.domain false) (Rows.numUndoesSpec.post enc Try.prog Try.f6 false true false false) := by
  refine returnsInHanded_of_change (C := Try.checked) own started (by kernel_rfl) Try.func6
    (ChangeSpec.witness6 (enc := enc) (C := Try.checked) false ⟨#[], #[.int .i64 0, .int .i64 0, .int .i64 0], []⟩ 8 (by kernel_rfl) (by kernel_rfl) (by kernel_rfl) (by kernel_rfl)) ?_
  intro W base args ds gs before hval0 hW hcnd _
  have hval : ∀ (j : Nat) t v, Try.f6.params[j]? = some t → args[j]? = some v → Value.okWide Try.prog W .any base t v := hval0
  have hW' := hW
  obtain ⟨p, q, hA0, hV, rfl, hfz, hnd⟩ := hW
  have hA : DataW.TrodAll enc Try.prog W 0 (fun _ => true) true Try.f6.params.toList args.toList ds p := hA0
  rw [Try.params6] at hA hval
  obtain ⟨v0, vs0, d0, ds0, p0, q0, hargs, rfl, rfl, h0, r0⟩ := trodAll_cons hA
  obtain ⟨v1, vs1, d1, ds1, p1, q1, rfl, rfl, rfl, h1, r1⟩ := trodAll_cons r0
  obtain ⟨v2, vs2, d2, ds2, p2, q2, rfl, rfl, rfl, h2, r2⟩ := trodAll_cons r1
  obtain ⟨rfl, rfl, rfl⟩ := trodAll_nil r2
  obtain rfl : args = #[v0, v1, v2] := by cases args; simp_all
  obtain ⟨rfl, rfl⟩ := trodVars_none hV
  obtain ⟨a0, rfl, rfl, rfl, w0⟩ := open_int Try.underlying2 (hval 0 2 v0 rfl rfl) h0
  obtain ⟨a1, rfl, rfl, rfl, w1⟩ := open_int Try.underlying2 (hval 1 2 v1 rfl rfl) h1
  obtain ⟨a2, rfl, rfl, rfl, w2⟩ := open_int Try.underlying2 (hval 2 2 v2 rfl rfl) h2
  clear hA0 hval0
  simp only [List.append_nil] at hW'
  refine (walk a0 a1 a2 w0 w1 w2 W).mono fun e W' ⟨he, hg⟩ => ?_
  subst he
  exact ⟨_, rfl, post_of_same (pa := []) (pv := []) hW' (fun _ _ _ => (trodAll_cons_mk (shut_bool Try.underlying4 _) trodAll_mk0)) (fun sp _ => (trodAll_cons_mk (shut_int Try.underlying2 w0) (trodAll_cons_mk (shut_int Try.underlying2 w1) (trodAll_cons_mk (shut_int Try.underlying2 w2) trodAll_mk0)))) (fun _ _ => rfl) rfl
    (hg.frame _) hg.2.1 (ok_one (by kernel_rfl) rfl (okWide_bool_mk Try.underlying4 _))⟩

theorem over : Rows.numUndoesRow.holds Try.pinned (OpenSpec.ofChange Rows.numUndoesSpec) :=
  OpenClaim.holds_of_wide 6 Try.f6 rfl rfl rfl rfl rfl rfl rfl ⟨rfl, rfl, rfl, rfl, rfl⟩ rfl rfl rfl rfl rfl (by kernel_rfl) Try.func6 (by kernel_rfl)
    (of_decide_eq_true (by kernel_rfl)) (by unfold Func.isWrapper; first | (rw [if_pos (by decide +kernel)]; kernel_rfl) | (rw [if_neg (by decide +kernel)]; exact ⟨rfl, rfl⟩))
    (fun os started H enc _ => lifted os started H enc)

end Go.Proofs.Ytphkleiamlllgaa.numUndoes
namespace Go.Proofs.Ytphkleiamlllgaa
/-- The given statement. -/
theorem numUndoes_holds : Rows.NumUndoesSaid := numUndoes.over
#print axioms numUndoes_holds
end Go.Proofs.Ytphkleiamlllgaa
