/-
  What New of the document's disk does.
-/
import Derived.Test.YtafnelpcnfmhfaaDoorRdk
import Derived.Test.YtafnelpcnfmhfaaDoorNew
namespace Go.Proofs.YtafnelpcnfmhfaaDoor
open Go.RowKit Go.Maps
set_option linter.unusedVariables false      -- a walk need not use every condition

theorem info26 : (Tryd.prog.info? 26).map (fun i => (i.zero, i.size, i.bytes)) = some (some (.agg (encA zer)), 128, 128) := by kernel_rfl
theorem info4 : (Tryd.prog.info? 4).map (fun i => (i.zero, i.size, i.bytes)) = some (some (.bool false), 1, 1) := by kernel_rfl
def rowsS (N : Nat) : Array Value := madeCells (encA zer) (N * 128)
def rowsT (N : Nat) : Array Value := madeCells #[.bool false] (N * 1)
theorem make77 (N : Nat) (h2 : N ≤ 16384) (w : World) : (Instr.makeSlice 77 (.int .i64 N) (.int .i64 N)).run Tryd.prog w = .ok (.slice (some ⟨w.heap.size, 0, none⟩) N N) (w.alloc (.cells (rowsS N) 26)) := by
  obtain ⟨i, hi, hzz⟩ := Option.map_eq_some_iff.1 info26
  simp only [Prod.mk.injEq] at hzz
  obtain ⟨hz, hs, hb⟩ := hzz
  have hr := run_make (P := Tryd.prog) w 77 26 i _ Tryd.underlying77 hi hz .i64 .i64 N N (by omega) (Int.le_refl _) (by rw [hb]; omega) (by omega)
  simp only [Int.toNat_natCast, hs] at hr
  exact hr
theorem make78 (N : Nat) (h2 : N ≤ 16384) (w : World) : (Instr.makeSlice 78 (.int .i64 N) (.int .i64 N)).run Tryd.prog w = .ok (.slice (some ⟨w.heap.size, 0, none⟩) N N) (w.alloc (.cells (rowsT N) 4)) := by
  obtain ⟨i, hi, hzz⟩ := Option.map_eq_some_iff.1 info4
  simp only [Prod.mk.injEq] at hzz
  obtain ⟨hz, hs, hb⟩ := hzz
  have hr := run_make (P := Tryd.prog) w 78 4 i _ Tryd.underlying78 hi hz .i64 .i64 N N (by omega) (Int.le_refl _) (by rw [hb]; omega) (by omega)
  simp only [Int.toNat_natCast, hs] at hr
  exact hr
theorem rowsS_at (N i j : Nat) (hi : i < N) (hj : j < 128) : (rowsS N)[i * 128 + j]? = (enc zer)[j]? := by
  have hl : (enc zer).length = 128 := by rw [len_enc, len_zer]
  have hlt : i * 128 + j < N * 128 := by omega
  unfold rowsS madeCells encA
  rw [Array.getElem?_map, Array.getElem?_range, if_pos hlt]
  simp only [Option.map_some, List.size_toArray, hl]
  rw [show (i * 128 + j) % 128 = j by omega]
  rw [List.getElem?_eq_getElem (by omega)]
  rw [getElem!_pos (h := by simpa [hl] using hj)]
  simp
theorem rowsT_at (N i : Nat) (hi : i < N) : (rowsT N)[i]? = some (.bool false) := by
  unfold rowsT madeCells
  rw [Array.getElem?_map, Array.getElem?_range, if_pos (by omega)]
  simp [Nat.mod_one]
theorem dirty_made (N : Nat) : (made N).dirty = [] := by simp [Dsk.dirty, made]
theorem made_rat {w : World} {X : Nat → Prop} {r sb tb N : Nat} (h1 : 1 ≤ N) (h2 : N ≤ 16384) (hb : w.heap[r]? = some (.cells #[.slice (some ⟨sb, 0, none⟩) N N, .slice (some ⟨tb, 0, none⟩) N N, .slice none 0 0, .bool false, .int .i64 0, .int .i64 0] 81))
    (hs : w.heap[sb]? = some (.cells (rowsS N) 26)) (ht : w.heap[tb]? = some (.cells (rowsT N) 4)) (xr : ¬ X r) (xs : ¬ X sb ∧ sb ≠ r) (xt : ¬ X tb ∧ tb ≠ r) : RAt w X r sb N tb N (.slice none 0 0) (made N) := by
  refine ⟨hb, xr, xs, xt, h1, h2, Nat.le_refl _, Nat.le_refl _, fun i hi j v hv => ?_, fun _ _ => len_zer, fun i hi => ?_, ⟨none, 0, by rw [dirty_made]; rfl, .inl (dirty_made N)⟩, fun k bs hk => (by cases hk), ⟨by simp [made], by simp [made]⟩, ⟨by simp [made], by simp [made]⟩⟩
  · have hj : j < 128 := by have := (List.getElem?_eq_some_iff.1 hv).1; simpa [made, len_enc, len_zer] using this
    rw [cell_of_row _ _ _ _ _ _ hs, rowsS_at N i j hi hj]
    exact hv
  · rw [cell_of_row _ _ _ _ _ _ ht, rowsT_at N i hi]
    rfl
set_option maxHeartbeats 800000 in
theorem rnew17 (N : Nat) (h1 : 1 ≤ N) (h2 : N ≤ 16384) (w : World) (X : Nat → Prop) (hX : ∀ k, X k → k < w.heap.size) :
    Calls Tryd.prog 17 #[.int .i64 N] w fun e w' => ∃ r sb tb, w.heap.size ≤ r ∧ e = .returned (.tuple #[.pointer (some ⟨r, 0, none⟩), .int .i64 0]) ∧ RAt w' X r sb N tb N (.slice none 0 0) (made N) ∧ Below w.heap.size w w' := by
  have hmk := make77 N h2
  have hmt := make78 N h2
  have t1 : ¬ ((N : Int) < 1) := by omega
  have t2 : ¬ ((16384 : Int) < N) := by omega
  go_enter Tryd.func17, Tryd.ntmps17
  go_wp2
  go_region
  · go_wp2
    go_ret2
    refine ⟨w.heap.size + 2, w.heap.size, w.heap.size + 1, by omega, rfl, ?_, ?_⟩
    · refine made_rat h1 h2 ?_ ?_ ?_ (fun h => ?_) ⟨fun h => ?_, by omega⟩ ⟨fun h => ?_, by omega⟩
      · have := heap_alloc_last ((w.alloc (.cells (rowsS N) 26)).alloc (.cells (rowsT N) 4)) (.cells #[.slice (some ⟨w.heap.size, 0, none⟩) N N, .slice (some ⟨w.heap.size + 1, 0, none⟩) N N, .slice none 0 0, .bool false, .int .i64 0, .int .i64 0] 81)
        simp only [World.size_alloc] at this
        exact this
      · exact blk_on (bel1 _ _) (blk_on (bel1 _ _) (heap_alloc_last w _))
      · have := heap_alloc_last (w.alloc (.cells (rowsS N) 26)) (.cells (rowsT N) 4)
        rw [World.size_alloc] at this
        exact blk_on (bel1 _ _) this
      all_goals have := hX _ h; omega
    · have hB : Below w.heap.size w _ := ((bel1 w (.cells (rowsS N) 26)).alloc (by simp) (.cells (rowsT N) 4)).alloc (by simp; omega) (.cells #[.slice (some ⟨w.heap.size, 0, none⟩) N N, .slice (some ⟨w.heap.size + 1, 0, none⟩) N N, .slice none 0 0, .bool false, .int .i64 0, .int .i64 0] 81)
      exact ⟨hB.os, hB.tape, hB.output, hB.size, hB.block⟩
  · go_wp2
    go_ret2
    refine ⟨w.heap.size + 2, w.heap.size + 1, w.heap.size, by omega, rfl, ?_, ?_⟩
    · refine made_rat h1 h2 ?_ ?_ ?_ (fun h => ?_) ⟨fun h => ?_, by omega⟩ ⟨fun h => ?_, by omega⟩
      · have := heap_alloc_last ((w.alloc (.cells (rowsT N) 4)).alloc (.cells (rowsS N) 26)) (.cells #[.slice (some ⟨w.heap.size + 1, 0, none⟩) N N, .slice (some ⟨w.heap.size, 0, none⟩) N N, .slice none 0 0, .bool false, .int .i64 0, .int .i64 0] 81)
        simp only [World.size_alloc] at this
        exact this
      · have := heap_alloc_last (w.alloc (.cells (rowsT N) 4)) (.cells (rowsS N) 26)
        rw [World.size_alloc] at this
        exact blk_on (bel1 _ _) this
      · exact blk_on (bel1 _ _) (blk_on (bel1 _ _) (heap_alloc_last w _))
      all_goals have := hX _ h; omega
    · have hB : Below w.heap.size w _ := ((bel1 w (.cells (rowsT N) 4)).alloc (by simp) (.cells (rowsS N) 26)).alloc (by simp; omega) (.cells #[.slice (some ⟨w.heap.size + 1, 0, none⟩) N N, .slice (some ⟨w.heap.size, 0, none⟩) N N, .slice none 0 0, .bool false, .int .i64 0, .int .i64 0] 81)
      exact ⟨hB.os, hB.tape, hB.output, hB.size, hB.block⟩
end Go.Proofs.YtafnelpcnfmhfaaDoor
