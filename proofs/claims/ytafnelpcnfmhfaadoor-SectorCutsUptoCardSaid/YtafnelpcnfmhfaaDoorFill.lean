/-
  Sectors as cells; how they are laid, loaded, answered.
-/
import Derived.Test.YtafnelpcnfmhfaaDoorDsk
import Derived.Test.YtafnelpcnfmhfaaDoorZero
import Derived.Deep.LoopGhost
import Derived.Deep.WholeRow
import Derived.Laws.ResultCell
namespace Go.Proofs.YtafnelpcnfmhfaaDoor
open Go.RowKit Go.Maps
set_option linter.unusedVariables false      -- a walk need not use every condition

theorem size26 : (Tryd.prog.info? 26).map (·.size) = some 128 := by kernel_rfl
theorem size83 : (Tryd.prog.info? 83).map (·.size) = some 129 := by kernel_rfl
theorem zc26 : Tryd.zeroCells26 = encA (List.replicate 128 0) := by kernel_rfl
theorem size_encA (bs : List UInt8) : (encA bs).size = bs.length := by simp [encA, enc]
theorem one_encA (bs : List UInt8) : (encA bs).all (·.oneCell') = true := all_oneCell_toArray (one_enc bs)
/-- A sector of which i bytes are written. -/
def part (b : UInt8) (i : Nat) : Array Value := encA (List.replicate i b ++ List.replicate (128 - i) 0)
theorem part_size (b : UInt8) {i : Nat} (hi : i ≤ 128) : (part b i).size = 128 := by unfold part; rw [size_encA]; simp; omega
theorem part_step (b : UInt8) {i : Nat} (hi : i < 128) : (part b i).setIfInBounds i (.int .u8 b.toNat) = part b (i + 1) := by
  unfold part encA enc
  rw [show 128 - i = (128 - (i + 1)) + 1 by omega, List.replicate_succ]
  apply Array.ext'
  simp only [Array.toList_setIfInBounds, List.map_append, List.map_replicate, List.map_cons]
  rw [List.set_append_right _ _ (by simp)]
  simp only [List.length_replicate, Nat.sub_self, List.set_cons_zero]
  rw [List.replicate_succ', List.append_assoc]
  rfl
/-- A sector of one byte. -/
def fil (b : UInt8) : List UInt8 := List.replicate 128 b
theorem len_fil (b : UInt8) : (fil b).length = 128 := by simp [fil]
theorem fil_inj {a b : UInt8} (h : fil a = fil b) : a = b := (List.replicate_inj.1 h).2.resolve_left (by decide)
theorem part_end (b : UInt8) : part b 128 = encA (fil b) := by simp [part, fil]
theorem part_start (b : UInt8) : Tryd.zeroCells26 = part b 0 := by rw [zc26]; simp [part]

theorem range_new (w : World) (cs : List Value) (t : TypeId) : (w.alloc (.cells cs.toArray t)).rangeAt w.heap.size 0 cs := by
  have := World.rangeAt_of_block (heap_alloc_last w (.cells cs.toArray t)) 0 cs.length
  simpa using this
theorem there_new (w : World) (c : Array Value) (t : TypeId) : (w.alloc (.cells c t)).there w.heap.size 0 c.size := fun j hj => by
  have e := heap_alloc_last w (.cells c t)
  rw [Nat.zero_add, cell_of_row _ _ j c t (0, 0) e]
  exact ⟨by simp [hj], by simp only [World.frozen?, e]; simp⟩

theorem results_cell_mid {fn : Func} {p : Tmp} (h : fn.results = #[.cell p 26]) (tmps : Array Value) (w : World) (g : Nat) (bs : List UInt8) (hp : tmps.getD p undef = .pointer (some ⟨g, 0, none⟩)) (hr : w.rangeAt g 0 (enc bs)) (hl : bs.length = 128) :
    (results fn tmps).run Tryd.prog w = .ok (.agg (encA bs)) w := by
  have hp' : tmps[p]?.getD undef = .pointer (some ⟨g, 0, none⟩) := by simpa using hp
  have hv := run_loadVar_mid (P := Tryd.prog) w g 0 26 (enc bs) _ hr Tryd.underlying26 rfl (by rw [size26, len_enc, hl])
  simp only [results, h]
  simp [hp', asAddr, hv, encA]
theorem results_cell_tmp_mid {fn : Func} {p u : Tmp} (h : fn.results = #[.cell p 26, .tmp u]) (tmps : Array Value) (w : World) (g : Nat) (bs : List UInt8) (hp : tmps.getD p undef = .pointer (some ⟨g, 0, none⟩)) (hr : w.rangeAt g 0 (enc bs)) (hl : bs.length = 128) :
    (results fn tmps).run Tryd.prog w = .ok (.tuple #[.agg (encA bs), tmps.getD u undef]) w := by
  have hv := run_loadVar_mid (P := Tryd.prog) w g 0 26 (enc bs) _ hr Tryd.underlying26 rfl (by rw [size26, len_enc, hl])
  rw [results_cell_tmp h, hp]
  simp only [asAddr, Sem.run_pure, Result.andThen, hv]
  rfl

end Go.Proofs.YtafnelpcnfmhfaaDoor
