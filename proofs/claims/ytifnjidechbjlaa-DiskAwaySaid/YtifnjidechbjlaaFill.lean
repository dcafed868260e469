/-
  What filled does: a sector of one byte.
-/
import Derived.Test.YtifnjidechbjlaaDsk
import Derived.Deep.LoopGhost
import Derived.Deep.WholeRow
import Derived.Laws.ResultCell
namespace Go.Proofs.Ytifnjidechbjlaa
open Go.RowKit Go.Maps
set_option linter.unusedVariables false      -- a walk need not use every condition

theorem size48 : (Try.prog.info? 48).map (·.size) = some 128 := by kernel_rfl
theorem size76 : (Try.prog.info? 76).map (·.size) = some 129 := by kernel_rfl
theorem zc48 : Try.zeroCells48 = encA (List.replicate 128 0) := by kernel_rfl
theorem size_encA (bs : List UInt8) : (encA bs).size = bs.length := by simp [encA, enc]
theorem one_encA (bs : List UInt8) : (encA bs).all (·.oneCell') = true := all_oneCell_toArray (one_enc bs)
/-- A sector of which i bytes are written. -/
def part (b : UInt8) (i : Nat) : Array Value := encA (List.replicate i b ++ List.replicate (128 - i) 0)
theorem part_size (b : UInt8) {i : Nat} (hi : i ≤ 128) : (part b i).size = 128 := by unfold part; rw [size_encA]; simp; omega
theorem part_step (b : UInt8) {i : Nat} (hi : i < 128) : (part b i).setIfInBounds i (.int .u8 b.toNat) = part b (i + 1) := by
  unfold part encA enc
  rw [show 128 - i = (128 - (i + 1)) + 1 by omega, List.replicate_succ]
  apply Array.ext'
  simp only [Array.toList_setIfInBounds, List.map_append, List.map_replicate, List.map_cons]
  rw [List.set_append_right _ _ (by simp)]
  simp only [List.length_replicate, Nat.sub_self, List.set_cons_zero]
  rw [List.replicate_succ', List.append_assoc]
  rfl
/-- A sector of one byte. -/
def fil (b : UInt8) : List UInt8 := List.replicate 128 b
theorem len_fil (b : UInt8) : (fil b).length = 128 := by simp [fil]
theorem fil_inj {a b : UInt8} (h : fil a = fil b) : a = b := (List.replicate_inj.1 h).2.resolve_left (by decide)
theorem part_end (b : UInt8) : part b 128 = encA (fil b) := by simp [part, fil]
theorem part_start (b : UInt8) : Try.zeroCells48 = part b 0 := by rw [zc48]; simp [part]

theorem range_new (w : World) (cs : List Value) (t : TypeId) : (w.alloc (.cells cs.toArray t)).rangeAt w.heap.size 0 cs := by
  have := World.rangeAt_of_block (heap_alloc_last w (.cells cs.toArray t)) 0 cs.length
  simpa using this
theorem there_new (w : World) (c : Array Value) (t : TypeId) : (w.alloc (.cells c t)).there w.heap.size 0 c.size := fun j hj => by
  have e := heap_alloc_last w (.cells c t)
  rw [Nat.zero_add, cell_of_row _ _ j c t (0, 0) e]
  exact ⟨by simp [hj], by simp only [World.frozen?, e]; simp⟩

theorem results_cell_mid {fn : Func} {p : Tmp} (h : fn.results = #[.cell p 48]) (tmps : Array Value) (w : World) (g : Nat) (bs : List UInt8) (hp : tmps.getD p undef = .pointer (some ⟨g, 0, none⟩)) (hr : w.rangeAt g 0 (enc bs)) (hl : bs.length = 128) :
    (results fn tmps).run Try.prog w = .ok (.agg (encA bs)) w := by
  have hp' : tmps[p]?.getD undef = .pointer (some ⟨g, 0, none⟩) := by simpa using hp
  have hv := run_loadVar_mid (P := Try.prog) w g 0 48 (enc bs) _ hr Try.underlying48 rfl (by rw [size48, len_enc, hl])
  simp only [results, h]
  simp [hp', asAddr, hv, encA]
theorem results_cell_tmp_mid {fn : Func} {p u : Tmp} (h : fn.results = #[.cell p 48, .tmp u]) (tmps : Array Value) (w : World) (g : Nat) (bs : List UInt8) (hp : tmps.getD p undef = .pointer (some ⟨g, 0, none⟩)) (hr : w.rangeAt g 0 (enc bs)) (hl : bs.length = 128) :
    (results fn tmps).run Try.prog w = .ok (.tuple #[.agg (encA bs), tmps.getD u undef]) w := by
  have hv := run_loadVar_mid (P := Try.prog) w g 0 48 (enc bs) _ hr Try.underlying48 rfl (by rw [size48, len_enc, hl])
  rw [results_cell_tmp h, hp]
  simp only [asAddr, Sem.run_pure, Result.andThen, hv]
  rfl

set_option maxHeartbeats 800000 in
set_option maxRecDepth 100000 in
theorem filled18 (w : World) (b : UInt8) : Calls Try.prog 18 #[.int .u8 b.toNat] w fun e w' => e = .returned (.agg (encA (fil b))) ∧ Below w.heap.size w w' := by
  go_enter Try.func18, Try.ntmps18
  go_wp2
  have e1 : (w.alloc (.cells Try.zeroCells48 48)).heap.size = w.heap.size + 1 := by simp
  go_loopg [5] 128 (fun g s5 wx => ∃ i : Nat, i + g = 128 ∧ s5 = .int .i64 i ∧ wx = (w.alloc (.cells Try.zeroCells48 48)).alloc (.cells (part b i) 48))
  case atStart => exact ⟨0, by omega, rfl, by rw [← part_start b]⟩
  case round =>
    obtain ⟨i, hig, rfl, rfl⟩ := hrel
    cases gk with
    | zero =>
      obtain rfl : i = 128 := by omega
      rw [part_end]
      have hr : ((w.alloc (.cells Try.zeroCells48 48)).alloc (.cells (encA (fil b)) 48)).rangeAt (w.heap.size + 1) 0 (enc (fil b)) := by
        rw [← e1]; exact range_new _ _ _
      have ht : ((w.alloc (.cells Try.zeroCells48 48)).alloc (.cells (encA (fil b)) 48)).there w.heap.size 0 128 := by
        refine World.there_alloc ?_ _
        have := there_new w Try.zeroCells48 48
        rwa [show Try.zeroCells48.size = 128 by rw [zc48, size_encA]; simp] at this
      have hse : (encA (fil b)).size = 128 := by rw [size_encA, len_fil]
      go_wp2_with (first
        | (show wpList _ _ _ (Oper.mk _ (Op.load 48 _) _ _ _ _ :: _) _ _
           refine wpList_load_mid rfl 48 _ rfl _ _ rfl _ _ hr Try.underlying48 rfl (by rw [size48, len_enc, len_fil]) ?_)
        | (show wpList _ _ _ (Oper.mk _ (Op.store 48 _ _) _ _ _ _ :: _) _ _
           refine wpList_store_mid rfl 48 _ _ rfl _ _ (encA (fil b)) rfl rfl (by rw [hse]; exact ht) (by rw [size48, hse]) (one_encA _) ?_))
      have hg := gr_sets w.heap.size (encA (fil b)).toList 0 ((w.alloc (.cells Try.zeroCells48 48)).alloc (.cells (encA (fil b)) 48))
      have hB : Below w.heap.size w (((w.alloc (.cells Try.zeroCells48 48)).alloc (.cells (encA (fil b)) 48)).setCells w.heap.size 0 (encA (fil b)).toList) :=
        Below.grown ((bel1 w _).alloc (by simp) _) hg (by simp; omega) (fun k e => by injection e with e; omega)
      refine bodyPost_ret (v := .agg (encA (fil b))) ?_ rfl ⟨rfl, hB⟩
      exact results_cell_mid Try.results18 _ _ w.heap.size (fil b) rfl (World.rangeAt_setCells_same _ w.heap.size 0 (enc (fil b)) (by rw [len_enc, len_fil]; exact ht)) (len_fil b)
    | succ g =>
      have hi : i < 128 := by omega
      have hiz : (i : Int) < 128 := by omega
      have hiz0 : (0 : Int) ≤ i := by omega
      have hsz := part_size b (Nat.le_of_lt hi)
      have hst := part_step b hi
      go_wp2
      go_roundg g
      case measure => omega
      case rel => exact ⟨i + 1, by omega, by first | rfl | simp, by rw [← hst]⟩
end Go.Proofs.Ytifnjidechbjlaa
