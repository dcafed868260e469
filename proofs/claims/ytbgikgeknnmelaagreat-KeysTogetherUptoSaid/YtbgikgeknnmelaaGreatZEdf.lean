/-
  Edge of package keys, of any edge.
-/
import Derived.Test.YtbgikgeknnmelaaGreatZEdg
namespace Go.Proofs.YtbgikgeknnmelaaGreat
open Go.RowKit
set_option linter.unusedVariables false      -- a walk need not use every condition

set_option maxHeartbeats 4000000 in
set_option maxRecDepth 20000 in
theorem edge12 (x : Lk) (sp : Value) (w : World) (hx : RL.In w 0 x sp) (hlb : x.lb.size ≤ 1048570) (hmp : manyP x.ps ≤ 1048570) :
    Calls Tryz.prog 12 #[x.agg sp] w fun e w' => ∃ v, e = .returned v ∧ RowE w' w.heap.size v (lkQ x) ∧ Below w.heap.size w w' := by
  obtain ⟨id, lb, out, inn, ps⟩ := x
  obtain ⟨-, -, -, -, hps⟩ := hx
  simp only at hlb hmp hps
  obtain ⟨p1, n1, q1, rfl⟩ := hps.hdr
  unfold Lk.agg
  cases h1 : idB id with
  | false =>
    have c1 := fun w => isId40 id w
    rw [h1] at c1
    have hq : lkQ ⟨id, lb, out, inn, ps⟩ = [] := by unfold lkQ; rw [if_neg (by simp [h1])]
    rw [hq]
    clear h1 hq
    go_enter Tryz.func12, Tryz.ntmps12
    go_wp2_with (go_at_call 40; refine (c1 _).mono ?_; rintro e w1 ⟨rfl, rfl⟩)
    go_ret
    exact ⟨_, rfl, rowE_nil _ _, bel1 w _⟩
  | true =>
    cases h2 : idB out with
    | false =>
      have c1 := fun w => isId40 id w
      have c2 := fun w => isId40 out w
      rw [h1] at c1
      rw [h2] at c2
      have hq : lkQ ⟨id, lb, out, inn, ps⟩ = [] := by unfold lkQ; rw [if_neg (by simp [h2])]
      rw [hq]
      clear h1 h2 hq
      have tk : True := trivial
      go_enter Tryz.func12, Tryz.ntmps12
      go_wp2_with (first
        | (go_at_call 40; clear tk; refine (c1 _).mono ?_; rintro e w1 ⟨rfl, rfl⟩; clear c1)
        | (go_at_call 40; refine (c2 _).mono ?_; rintro e w1 ⟨rfl, rfl⟩))
      go_ret
      exact ⟨_, rfl, rowE_nil _ _, bel1 w _⟩
    | true =>
      cases h3 : idB inn with
      | false =>
        have c1 := fun w => isId40 id w
        have c2 := fun w => isId40 out w
        have c3 := fun w => isId40 inn w
        rw [h1] at c1
        rw [h2] at c2
        rw [h3] at c3
        have hq : lkQ ⟨id, lb, out, inn, ps⟩ = [] := by unfold lkQ; rw [if_neg (by simp [h3])]
        rw [hq]
        clear h1 h2 h3 hq
        have tk1 : True := trivial
        have tk2 : True := trivial
        go_enter Tryz.func12, Tryz.ntmps12
        go_wp2_with (first
          | (go_at_call 40; clear tk1; refine (c1 _).mono ?_; rintro e w1 ⟨rfl, rfl⟩; clear c1)
          | (go_at_call 40; clear tk2; refine (c2 _).mono ?_; rintro e w1 ⟨rfl, rfl⟩; clear c2)
          | (go_at_call 40; refine (c3 _).mono ?_; rintro e w1 ⟨rfl, rfl⟩))
        go_ret
        exact ⟨_, rfl, rowE_nil _ _, bel1 w _⟩
      | true => exact edge_start id lb out inn ps p1 n1 q1 w h1 h2 h3 hps hlb hmp
end Go.Proofs.YtbgikgeknnmelaaGreat
