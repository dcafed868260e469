/-
  What slices.EqualFunc does with slices of bytes and bytes.Equal.
-/
import Derived.Test.YtafnelpcnfmhfaaDoorJn
namespace Go.Proofs.YtafnelpcnfmhfaaDoor
open Go.RowKit
set_option linter.unusedVariables false      -- a walk need not use every condition
attribute [local go_sem ↓] Go.wp_at_zero Go.wp_at_succ

set_option maxHeartbeats 2000000 in
set_option maxRecDepth 100000 in
theorem eqf29 (w : World) (v u : Value) (L : List (List UInt8)) (hv : Bss w v L) (hu : Bss w u L) (hn : L.length ≤ 140737488355328) :
    Calls Tryd.prog 29 #[v, u, .func (.func 26) #[] #[]] w fun e w' => e = .returned (.bool true) ∧ w' = w := by
  have c26 := equal26
  obtain ⟨p, cap, rfl, h1⟩ := hv
  obtain ⟨q, caq, rfl, h2⟩ := hu
  have H1 := Lib.hid h1
  have H2 := Lib.hid h2
  clear h1 h2
  have hnz : (L.length : Int) ≤ 140737488355328 := by omega
  go_enter Tryd.func29, Tryd.ntmps29
  go_wp2
  go_loopg [17] L.length (fun g s17 wr => ∃ i : Nat, i + g = L.length ∧ s17 = .int .i64 i ∧ w = wr)
  case atStart => exact ⟨0, by omega, rfl, rfl⟩
  case round =>
    obtain ⟨i, hig, rfl, rfl⟩ := hrel
    cases gk with
    | zero =>
      obtain rfl : i = L.length := by omega
      go_wp2
      go_ret
      exact ⟨rfl, rfl⟩
    | succ g =>
      have hi : i < L.length := by omega
      have hiz : (i : Int) < (L.length : Int) := by omega
      have hi0 : (0 : Int) ≤ (i : Int) := by omega
      obtain ⟨b, o, rfl, h1⟩ := H1.out.resolve_left (fun e => by rw [e] at hi; simp at hi)
      obtain ⟨b', o', rfl, h2⟩ := H2.out.resolve_left (fun e => by rw [e] at hi; simp at hi)
      obtain ⟨x, hx, hxB⟩ := h1 i hi
      obtain ⟨x', hx', hxB'⟩ := h2 i hi
      have HX := Lib.hid hxB
      have HX' := Lib.hid hxB'
      generalize L[i] = U at *
      obtain ⟨xp, xc, rfl, -⟩ := hxB
      obtain ⟨xp', xc', rfl, -⟩ := hxB'
      clear h1 h2
      go_wp2_with (go_at_call 26; refine (c26 _ _ _ _ _ HX.out HX'.out).mono ?_; rintro e w1 ⟨rfl, rfl⟩; rw [beq_self_eq_true])
      go_roundg g
      case measure => omega
      case rel => exact ⟨i + 1, by omega, by first | rfl | simp, rfl⟩
end Go.Proofs.YtafnelpcnfmhfaaDoor
