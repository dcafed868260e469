/-
  What New of package disk does.
-/
import Derived.Test.YtafnelpcnfmhfaaDoorRead
import Derived.Laws.MakeOwn
namespace Go.Proofs.YtafnelpcnfmhfaaDoor
open Go.RowKit Go.Maps Go.ChangeMaps Go.MapKept Go.WideShapes
set_option linter.unusedVariables false      -- a walk need not use every condition

theorem info83 : (Tryd.prog.info? 83).map (fun i => (i.zero, i.size, i.bytes)) = some (some (.agg (plc zer false).toArray), 129, 129) := by kernel_rfl
theorem len_plc (bs : List UInt8) (t : Bool) (h : bs.length = 128) : (plc bs t).length = 129 := by simp [plc, enc, h]
def rows (N : Nat) : Array Value := madeCells (plc zer false).toArray (N * 129)
theorem make73 (N : Nat) (h2 : N ≤ 16384) (w : World) : (Instr.makeSlice 73 (.int .i64 N) (.int .i64 N)).run Tryd.prog w = .ok (.slice (some ⟨w.heap.size, 0, none⟩) N N) (w.alloc (.cells (rows N) 83)) := by
  obtain ⟨i, hi, hzz⟩ := Option.map_eq_some_iff.1 info83
  simp only [Prod.mk.injEq] at hzz
  obtain ⟨hz, hs, hb⟩ := hzz
  have hr := run_make (P := Tryd.prog) w 73 83 i _ Tryd.underlying73 hi hz .i64 .i64 N N (by omega) (Int.le_refl _) (by rw [hb]; omega) (by omega)
  simp only [Int.toNat_natCast, hs] at hr
  exact hr
theorem rows_at (N i j : Nat) (hi : i < N) (hj : j < 129) : (rows N)[i * 129 + j]? = (plc zer false)[j]? := by
  have hl := len_plc zer false len_zer
  have hlt : i * 129 + j < N * 129 := by omega
  unfold rows madeCells
  rw [Array.getElem?_map, Array.getElem?_range, if_pos hlt]
  simp only [Option.map_some, List.size_toArray, hl]
  rw [show (i * 129 + j) % 129 = j by omega]
  rw [List.getElem?_eq_getElem (by omega)]
  rw [getElem!_pos (h := by simpa [hl] using hj)]
  simp
/-- A disk that was just made. -/
def made (N : Nat) : Dsk := { N := N, st := fun _ => zer, tn := fun _ => false, ca := fun _ => none, down := false, fuse := 0, calls := 0 }
theorem made_places (w : World) (N : Nat) : (∀ i, i < N → (w.alloc (.cells (rows N) 83)).rangeAt w.heap.size (i * 129) (plc zer false)) ∧ (w.alloc (.cells (rows N) 83)).there w.heap.size 0 (N * 129) := by
  have e := heap_alloc_last w (.cells (rows N) 83)
  constructor
  · intro i hi j v hv
    have hj : j < 129 := by have := (List.getElem?_eq_some_iff.1 hv).1; rwa [len_plc zer false len_zer] at this
    rw [cell_of_row _ _ _ _ _ _ e, rows_at N i j hi hj, hv]
  · have := there_new w (rows N) 83
    rwa [show (rows N).size = N * 129 from size_madeCells _ _] at this
theorem tied_none (N : Nat) : Tied N (.map []) (fun _ => none) :=
  ⟨fun x hx => (by simp [Maps.has] at hx), fun k bs hk => (by cases hk), fun k bs hk => (by cases hk), fun k bs hk => (by cases hk), fun k bs hk => (by cases hk)⟩
set_option maxHeartbeats 800000 in
theorem new16 (N : Nat) (h1 : 1 ≤ N) (h2 : N ≤ 16384) (w : World) :
    Calls Tryd.prog 16 #[.int .i64 N] w fun e w' => e = .returned (.tuple #[.pointer (some ⟨w.heap.size + 2, 0, none⟩), .int .i64 0]) ∧ At w' (w.heap.size + 2) w.heap.size (w.heap.size + 1) (made N) ∧ Below w.heap.size w w' := by
  have hmk := make73 N h2
  have hmm := @run_makeMap Tryd.prog
  have t1 : ¬ ((N : Int) < 1) := by omega
  have t2 : ¬ ((16384 : Int) < N) := by omega
  go_enter Tryd.func16, Tryd.ntmps16
  go_wp2
  go_ret2
  refine ⟨rfl, ?_, ?_⟩
  · have hp := made_places w N
    have hm := World.ownsMap_made (H := Array Value) (w.alloc (.cells (rows N) 83)) Tryd.prog 3 secR
    rw [World.size_alloc] at hm
    have hb := heap_alloc_last ((w.alloc (.cells (rows N) 83)).alloc (.map #[] 0)) (.cells #[.slice (some ⟨w.heap.size, 0, none⟩) N N, .map (some (w.heap.size + 1)), .bool false, .int .i64 0, .int .i64 0] 76)
    simp only [World.size_alloc] at hb
    refine ⟨hb, by omega, h1, h2, fun i hi => ?_, fun _ _ => len_zer, World.there_alloc (World.there_alloc hp.2 _) _, ⟨0, .map [], hm.alloc _, ?_⟩, ⟨by simp [made], by simp [made]⟩, ⟨by simp [made], by simp [made]⟩⟩
    · exact World.rangeAt_alloc (World.rangeAt_alloc (hp.1 i hi) _) _
    · exact tied_none N
  · exact (((bel1 w _).alloc (by simp) _).alloc (by simp; omega) _)
end Go.Proofs.YtafnelpcnfmhfaaDoor
