/-
  The small functions of package disk: made, has, ready, reach, call, Down, Calls, SetFuse.
-/
import Derived.Test.YtafnelpcnfmhfaaDoorDsk
namespace Go.Proofs.YtafnelpcnfmhfaaDoor
open Go.RowKit Go.Maps
set_option linter.unusedVariables false      -- a walk need not use every condition

theorem made43 (w : World) (d pb mb : Nat) (s : Dsk) (h : At w d pb mb s) : Calls Tryd.prog 43 #[.pointer (some ⟨d, 0, none⟩)] w fun e w' => e = .returned (.bool true) ∧ w' = w := by
  obtain ⟨c0, -, -, -, -, -⟩ := five_of h.blk
  have hp : (0 : Int) < (s.N : Int) := by have := h.pos; omega
  clear h
  go_enter Tryd.func43, Tryd.ntmps43
  go_wp2
  go_ret
  exact ⟨by simp; omega, rfl⟩
def Dsk.hasB (s : Dsk) (n : Int) : Bool := decide (0 ≤ n) && decide (n < s.N)
theorem has44 (w : World) (d pb mb : Nat) (s : Dsk) (h : At w d pb mb s) (n : Int) : Calls Tryd.prog 44 #[.pointer (some ⟨d, 0, none⟩), .int .i64 n] w fun e w' => e = .returned (.bool (s.hasB n)) ∧ w' = w := by
  obtain ⟨c0, -, -, -, -, -⟩ := five_of h.blk
  clear h
  unfold Dsk.hasB
  by_cases h0 : 0 ≤ n
  · go_enter Tryd.func44, Tryd.ntmps44
    go_wp2
    go_ret
    exact ⟨by simp [h0], rfl⟩
  · go_enter Tryd.func44, Tryd.ntmps44
    go_wp2
    go_ret
    exact ⟨by simp; omega, rfl⟩
def Dsk.ready (s : Dsk) : Int := if s.down then 9 else 0
theorem ready39 (w : World) (d pb mb : Nat) (s : Dsk) (h : At w d pb mb s) : Calls Tryd.prog 39 #[.pointer (some ⟨d, 0, none⟩)] w fun e w' => e = .returned (.int .i64 s.ready) ∧ w' = w := by
  obtain ⟨-, -, c2, -, -, -⟩ := five_of h.blk
  have c := made43 w d pb mb s h
  clear h
  unfold Dsk.ready
  generalize s.down = x at *
  cases x
  all_goals
    go_enter Tryd.func39, Tryd.ntmps39
    go_wp2_with (first | (go_at_call 43; refine c.mono ?_; rintro e w' ⟨rfl, rfl⟩))
    go_ret
    exact ⟨rfl, rfl⟩
def Dsk.reach (s : Dsk) (n : Int) : Int := if s.down then 9 else if s.hasB n then 0 else 41
theorem reach48 (w : World) (d pb mb : Nat) (s : Dsk) (h : At w d pb mb s) (n : Int) : Calls Tryd.prog 48 #[.pointer (some ⟨d, 0, none⟩), .int .i64 n] w fun e w' => e = .returned (.int .i64 (s.reach n)) ∧ w' = w := by
  have c := ready39 w d pb mb s h
  have c2 := has44 w d pb mb s h n
  clear h
  unfold Dsk.ready at c
  unfold Dsk.reach
  generalize s.down = x at *
  generalize s.hasB n = y at *
  cases x <;> cases y
  all_goals
    simp only [Bool.false_eq_true, if_true, if_false] at c c2 ⊢
    go_enter Tryd.func48, Tryd.ntmps48
    go_wp2_with (first | (go_at_call 39; refine c.mono ?_; rintro e w' ⟨rfl, rfl⟩) | (go_at_call 44; refine c2.mono ?_; rintro e w' ⟨rfl, rfl⟩))
    go_ret
    exact ⟨rfl, rfl⟩
/-! ### A cell of the disk itself is written -/

theorem blk_set {w : World} {g i : Nat} {c : Array Value} {t : TypeId} (h : w.heap[g]? = some (.cells c t)) (u : Value) : (w.setCell ⟨g, i, none⟩ u).heap[g]? = some (.cells (c.setIfInBounds i u) t) := by
  simp [World.setCell, Array.getElem?_modify, h]
theorem At.turn {w w' : World} {d pb mb : Nat} {s s' : Dsk} (h : At w d pb mb s) (hb : w'.heap[d]? = some (.cells #[.slice (some ⟨pb, 0, none⟩) s'.N s'.N, .map (some mb), .bool s'.down, .int .i64 s'.fuse, .int .i64 s'.calls] 76)) (hg : w.grownBy w' (some d))
    (hN : s'.N = s.N) (hst : s'.st = s.st) (htn : s'.tn = s.tn) (hca : s'.ca = s.ca) (hf : 0 ≤ s'.fuse ∧ s'.fuse ≤ 9223372036854775807) (hc : -9223372036854775808 ≤ s'.calls ∧ s'.calls ≤ 9223372036854775807) : At w' d pb mb s' := by
  have l := h.lts
  have hp : w'.heap[pb]? = w.heap[pb]? := hg.block _ l.2.1 (fun e => h.ne (by injection e with e; exact e.symm))
  have hm : w'.heap[mb]? = w.heap[mb]? := hg.block _ l.2.2.1 (fun e => l.2.2.2.1 (by injection e))
  refine ⟨hb, h.ne, hN ▸ h.pos, hN ▸ h.top, fun i hi => ?_, fun i hi => ?_, ?_, ?_, hf, hc⟩
  · rw [hst, htn]; exact rangeAt_same (h.pl i (hN ▸ hi)) hp
  · rw [hst]; exact h.sl i (hN ▸ hi)
  · rw [hN]; exact there_same h.th hp
  · obtain ⟨n, D, ⟨es, ck, hmb, r⟩, ht⟩ := h.own
    rw [hN, hca]
    exact ⟨n, D, ⟨es, ck, hm.trans hmb, r⟩, ht⟩

/-- A call that is counted: does the power go? -/
def Dsk.call (s : Dsk) : Int × Dsk :=
  if s.fuse = 1 then (9, { s with fuse := 0, down := true })
  else if 0 < s.fuse then (0, { s with fuse := s.fuse - 1, calls := wrap64 (s.calls + 1) })
  else (0, { s with calls := wrap64 (s.calls + 1) })
end Go.Proofs.YtafnelpcnfmhfaaDoor
