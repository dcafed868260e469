/-
  The map literal of NodePlace: made, filled and looked up.
-/
import Derived.Test.YtbkpgppaahpalaaBeg
import Derived.WideMake
namespace Go.Proofs.Ytbkpgppaahpalaa
open Go.RowKit
set_option linter.unusedVariables false      -- a walk need not use every condition

theorem ins_run (w : World) (r clock : Nat) (es : Array MapEntry) (b : Bool) (val : Value) (hb : w.heap[r]? = some (.map es clock)) (hf : Instr.findNow .bool (.bool b) es.toList 0 = some none) :
    (Instr.mapUpdate 54 (.map (some r)) (.bool b) val).run Try.prog w = .ok () { w with heap := w.heap.setIfInBounds r (.map (es.push { key := .bool b, val := val, born := clock }) (clock + 1)) } := by
  have hc : (Instr.checkKey false 10000 4 (.bool b)).run Try.prog w = .ok () w := MapKept.run_checkKey (k := .bool b) Try.underlying4 (by simp [MapKept.IsKey]) false 9999
  simp [Instr.mapUpdate, run_underlying Try.underlying54, MapKept.run_getObj_map hb, hc, MapKept.run_findKey Try.underlying4 hf, MapKept.run_setObj_map _ hb, Result.andThen]
theorem look_run (w : World) (r clock : Nat) (es : Array MapEntry) (b : Bool) (i : Nat) (val : Value) (hb : w.heap[r]? = some (.map es clock)) (hf : Instr.findNow .bool (.bool b) es.toList 0 = some (some (i, val))) :
    (Instr.lookup 54 (.map (some r)) (.bool b) false).run Try.prog w = .ok val w := by
  have hc : (Instr.checkKey es.isEmpty 10000 4 (.bool b)).run Try.prog w = .ok () w := MapKept.run_checkKey (k := .bool b) Try.underlying4 (by simp [MapKept.IsKey]) _ 9999
  simp [Instr.lookup, run_underlying Try.underlying54, MapKept.run_getObj_map hb, hc, MapKept.run_findKey Try.underlying4 hf, Result.andThen]
theorem bel_set (w : World) (o o' : Obj) : Below w.heap.size w { w.alloc o with heap := (w.alloc o).heap.setIfInBounds w.heap.size o' } := by
  have h := bel1 w o
  refine ⟨h.os, h.tape, h.output, by simp, fun k hk => ?_⟩
  have := h.block k hk
  simp only at this ⊢
  rw [← this, Array.getElem?_setIfInBounds]
  split
  · omega
  · rfl
/-- The literal: what the making, the two entries and the lookup do. -/
theorem map_lit (w : World) : ∃ W1 W2, (Instr.mapUpdate 54 (.map (some w.heap.size)) (.bool true) (.int .i64 0)).run Try.prog (w.alloc (.map #[] 0)) = .ok () W1 ∧
    (Instr.mapUpdate 54 (.map (some w.heap.size)) (.bool false) (.int .i64 1)).run Try.prog W1 = .ok () W2 ∧
    (Instr.lookup 54 (.map (some w.heap.size)) (.bool true) false).run Try.prog W2 = .ok (.int .i64 0) W2 ∧
    (Instr.lookup 54 (.map (some w.heap.size)) (.bool false) false).run Try.prog W2 = .ok (.int .i64 1) W2 ∧ Below w.heap.size w W1 ∧ Below w.heap.size w W2 := by
  have i1 := ins_run (w.alloc (.map #[] 0)) w.heap.size 0 #[] true (.int .i64 0) (World.alloc_heap_new w _) rfl
  obtain ⟨W1, hW1⟩ : ∃ W, W = { w.alloc (.map #[] 0) with heap := (w.alloc (.map #[] 0)).heap.setIfInBounds w.heap.size (.map ((#[] : Array MapEntry).push { key := .bool true, val := .int .i64 0, born := 0 }) (0 + 1)) } := ⟨_, rfl⟩
  rw [← hW1] at i1
  have h1 : W1.heap[w.heap.size]? = some (.map ((#[] : Array MapEntry).push { key := .bool true, val := .int .i64 0, born := 0 }) (0 + 1)) := by
    rw [hW1]
    simp only [Array.getElem?_setIfInBounds]
    simp
  have i2 := ins_run W1 w.heap.size _ _ false (.int .i64 1) h1 rfl
  have b1 : Below w.heap.size w W1 := by rw [hW1]; exact bel_set _ _ _
  obtain ⟨W2, hW2⟩ : ∃ W, W = { W1 with heap := W1.heap.setIfInBounds w.heap.size (.map (((#[] : Array MapEntry).push { key := .bool true, val := .int .i64 0, born := 0 }).push { key := .bool false, val := .int .i64 1, born := 0 + 1 }) (0 + 1 + 1)) } := ⟨_, rfl⟩
  rw [← hW2] at i2
  have hz := (Array.getElem?_eq_some_iff.1 h1).1
  have h2 : W2.heap[w.heap.size]? = some (.map (((#[] : Array MapEntry).push { key := .bool true, val := .int .i64 0, born := 0 }).push { key := .bool false, val := .int .i64 1, born := 0 + 1 }) (0 + 1 + 1)) := by
    rw [hW2]
    simp only [Array.getElem?_setIfInBounds]
    simp [hz]
  have b2 : Below w.heap.size w W2 := by
    rw [hW2]
    refine ⟨b1.os, b1.tape, b1.output, by simpa using b1.size, fun k hk => ?_⟩
    rw [← b1.block k hk]
    simp only [Array.getElem?_setIfInBounds]
    split
    · omega
    · rfl
  exact ⟨W1, W2, i1, i2, look_run W2 _ _ _ true 0 _ h2 rfl, look_run W2 _ _ _ false 1 _ h2 rfl, b1, b2⟩
/-- In the other order: what the making, the two entries and the lookup do. -/
theorem map_lit2 (w : World) : ∃ W1 W2, (Instr.mapUpdate 54 (.map (some w.heap.size)) (.bool false) (.int .i64 1)).run Try.prog (w.alloc (.map #[] 0)) = .ok () W1 ∧
    (Instr.mapUpdate 54 (.map (some w.heap.size)) (.bool true) (.int .i64 0)).run Try.prog W1 = .ok () W2 ∧
    (Instr.lookup 54 (.map (some w.heap.size)) (.bool true) false).run Try.prog W2 = .ok (.int .i64 0) W2 ∧
    (Instr.lookup 54 (.map (some w.heap.size)) (.bool false) false).run Try.prog W2 = .ok (.int .i64 1) W2 ∧ Below w.heap.size w W1 ∧ Below w.heap.size w W2 := by
  have i1 := ins_run (w.alloc (.map #[] 0)) w.heap.size 0 #[] false (.int .i64 1) (World.alloc_heap_new w _) rfl
  obtain ⟨W1, hW1⟩ : ∃ W, W = { w.alloc (.map #[] 0) with heap := (w.alloc (.map #[] 0)).heap.setIfInBounds w.heap.size (.map ((#[] : Array MapEntry).push { key := .bool false, val := .int .i64 1, born := 0 }) (0 + 1)) } := ⟨_, rfl⟩
  rw [← hW1] at i1
  have h1 : W1.heap[w.heap.size]? = some (.map ((#[] : Array MapEntry).push { key := .bool false, val := .int .i64 1, born := 0 }) (0 + 1)) := by
    rw [hW1]
    simp only [Array.getElem?_setIfInBounds]
    simp
  have i2 := ins_run W1 w.heap.size _ _ true (.int .i64 0) h1 rfl
  have b1 : Below w.heap.size w W1 := by rw [hW1]; exact bel_set _ _ _
  obtain ⟨W2, hW2⟩ : ∃ W, W = { W1 with heap := W1.heap.setIfInBounds w.heap.size (.map (((#[] : Array MapEntry).push { key := .bool false, val := .int .i64 1, born := 0 }).push { key := .bool true, val := .int .i64 0, born := 0 + 1 }) (0 + 1 + 1)) } := ⟨_, rfl⟩
  rw [← hW2] at i2
  have hz := (Array.getElem?_eq_some_iff.1 h1).1
  have h2 : W2.heap[w.heap.size]? = some (.map (((#[] : Array MapEntry).push { key := .bool false, val := .int .i64 1, born := 0 }).push { key := .bool true, val := .int .i64 0, born := 0 + 1 }) (0 + 1 + 1)) := by
    rw [hW2]
    simp only [Array.getElem?_setIfInBounds]
    simp [hz]
  have b2 : Below w.heap.size w W2 := by
    rw [hW2]
    refine ⟨b1.os, b1.tape, b1.output, by simpa using b1.size, fun k hk => ?_⟩
    rw [← b1.block k hk]
    simp only [Array.getElem?_setIfInBounds]
    split
    · omega
    · rfl
  exact ⟨W1, W2, i1, i2, look_run W2 _ _ _ true 1 _ h2 rfl, look_run W2 _ _ _ false 0 _ h2 rfl, b1, b2⟩
end Go.Proofs.Ytbkpgppaahpalaa
