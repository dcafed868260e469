/-
  Great values (many cells): laid, stored, loaded, boxed, handed back; the page 0's base at its zero value, the empty one; a sheet.
-/
import Derived.Test.YtfakgfmgofblgaaGreatDoorZBwBy
import Derived.Test.YtfakgfmgofblgaaGreatDoorZDirtyWriteReadNewFlush
import Derived.Test.YtfakgfmgofblgaaGreatDoorZFrmPutnClnAppJn
import Derived.Test.YtfakgfmgofblgaaGreatDoorZOpen
namespace Go.Proofs.YtfakgfmgofblgaaGreatDoor
open Go.RowKit
set_option linter.unusedVariables false      -- a walk need not use every condition
attribute [local go_sem ↓] Go.wp_at_zero Go.wp_at_succ

/-- Cells lie at a place, and may be written. -/
structure Lie (w : World) (g o : Nat) (cs : List Value) : Prop where
  rg : w.rangeAt g o cs
  th : w.there g o cs.length
theorem Lie.blk {w w' : World} {g o : Nat} {cs : List Value} (h : Lie w g o cs) (e : w'.heap[g]? = w.heap[g]?) : Lie w' g o cs := ⟨rangeAt_same h.rg e, there_same h.th e⟩
theorem Lie.new (w : World) (cs : List Value) (t : TypeId) : Lie (w.alloc (.cells cs.toArray t)) w.heap.size 0 cs := by
  refine ⟨range_new w cs t, ?_⟩
  have := there_new w cs.toArray t
  rwa [List.size_toArray] at this
theorem sets_size (b : Nat) : ∀ (vs : List Value) (o : Nat) (w : World), (w.setCells b o vs).heap.size = w.heap.size
  | [], _, _ => rfl
  | v :: vs, o, w => by rw [World.setCells, sets_size b vs]; simp [World.setCell]
theorem wpList_allocZ (T : TypeId) (zs : List Value) (hz : ∀ w, (zeroValue T).run Tryz.prog w = .ok (.agg zs.toArray) w) {ops : Array Oper} {rest : List Oper} {op : Oper} {a : Act} {w : World} {Q : Exit → Act → World → Prop} (hgd : op.guard = none) (ho : op.op = .alloc T)
    (h : ∀ w', Below w.heap.size w w' → Hid (w'.heap.size = w.heap.size + 1) → Lie w' w.heap.size 0 zs → wpList Tryz.prog ops Q rest (a.put op.dst (.pointer (some ⟨w.heap.size, 0, none⟩))) w') : wpList Tryz.prog ops Q (op :: rest) a w :=
  wpList_plain hgd fun _ hK => by
    unfold Oper.wp execOp
    simp only [ho, Sem.run_bind, Instr.alloc, newVar, newRow, hz, run_newObj_alloc, Sem.run_pure, Result.andThen_ok]
    exact hK _ _ (h _ (bel1 w _) (World.size_alloc w _) (Lie.new w zs T))
theorem wpList_boxZ (T : TypeId) (cs : List Value) {ops : Array Oper} {rest : List Oper} {op : Oper} {a : Act} {w : World} {Q : Exit → Act → World → Prop} (hgd : op.guard = none) (x : Operand) (ho : op.op = .box T x) (hx : a.eval x = .agg cs.toArray)
    (h : ∀ w', Below w.heap.size w w' → Hid (w'.heap.size = w.heap.size + 1) → Lie w' w.heap.size 0 cs → wpList Tryz.prog ops Q rest (a.put op.dst (.pointer (some ⟨w.heap.size, 0, none⟩))) w') : wpList Tryz.prog ops Q (op :: rest) a w :=
  wpList_plain hgd fun _ hK => by
    unfold Oper.wp execOp
    simp only [ho, hx, Sem.run_bind, Instr.box, Sem.run_pure]
    exact hK _ _ (h _ (bel1 w _) (World.size_alloc w _) (Lie.new w cs T))
theorem wpList_storeZ (T : TypeId) (cs : List Value) (hi : (Tryz.prog.info? T).map (·.size) = some cs.length) (h1 : ∀ v ∈ cs, v.oneCell' = true) {ops : Array Oper} {rest : List Oper} {op : Oper} {a : Act} {w : World} {Q : Exit → Act → World → Prop} (hgd : op.guard = none) (x y : Operand) (ho : op.op = .store T x y)
    (b o : Nat) (hx : a.eval x = .pointer (some ⟨b, o, none⟩)) (hy : a.eval y = .agg cs.toArray) (ht : w.there b o cs.length)
    (h : ∀ w', w.grownBy w' (some b) → Lie w' b o cs → (∀ b' o' n, w.there b' o' n → w'.there b' o' n) → (∀ o' ds, w.rangeAt b o' ds → o' + ds.length ≤ o ∨ o + cs.length ≤ o' → w'.rangeAt b o' ds) → Hid (w'.heap.size = w.heap.size) → wpList Tryz.prog ops Q rest (a.put op.dst undef) w') : wpList Tryz.prog ops Q (op :: rest) a w := by
  refine wpList_store_mid hgd T x y ho b o cs.toArray hx hy (by rw [List.size_toArray]; exact ht) (by rw [List.size_toArray]; exact hi) (by rw [List.all_toArray]; exact List.all_eq_true.2 h1) (h _ (gr_sets _ _ _ _) ⟨?_, ?_⟩ ?_ ?_ ?_)
  · exact World.rangeAt_setCells_same w b o cs ht
  · exact World.there_setCells ht _ _ _
  · exact fun b' o' n h' => World.there_setCells h' _ _ _
  · exact fun o' ds hr hd => World.rangeAt_setCells_apart hr b o cs (.inr (by omega))
  · exact sets_size _ _ _ _
theorem results_cellZ {fn : Func} {p : Tmp} {T : TypeId} {d : TypeDesc} (h : fn.results = #[.cell p T]) (tmps : Array Value) (w : World) (g : Nat) (cs : List Value) (hp : tmps.getD p undef = .pointer (some ⟨g, 0, none⟩)) (hr : w.rangeAt g 0 cs) (hu : Tryz.prog.underlying T = some d) (hd : d.isRow = true) (hi : (Tryz.prog.info? T).map (·.size) = some cs.length) :
    (results fn tmps).run Tryz.prog w = .ok (.agg cs.toArray) w := by
  have hv := run_loadVar_mid (P := Tryz.prog) w g 0 T cs d hr hu hd hi
  have e : (results fn tmps).run Tryz.prog w = ((asAddr (tmps.getD p undef)).run Tryz.prog w).andThen fun a w₁ => (loadVar T a).run Tryz.prog w₁ := by
    simp only [results, h]
    simp [Sem.run_bind, Result.andThen]
  rw [e, hp]
  simp only [asAddr, Sem.run_pure, Result.andThen, hv]
theorem results_cellZ2 {fn : Func} {p u : Tmp} {T : TypeId} {d : TypeDesc} (h : fn.results = #[.cell p T, .tmp u]) (tmps : Array Value) (w : World) (g : Nat) (cs : List Value) (hp : tmps.getD p undef = .pointer (some ⟨g, 0, none⟩)) (hr : w.rangeAt g 0 cs) (hu : Tryz.prog.underlying T = some d) (hd : d.isRow = true) (hi : (Tryz.prog.info? T).map (·.size) = some cs.length) :
    (results fn tmps).run Tryz.prog w = .ok (.tuple #[.agg cs.toArray, tmps.getD u undef]) w := by
  have hv := run_loadVar_mid (P := Tryz.prog) w g 0 T cs d hr hu hd hi
  rw [results_cell_tmp h, hp]
  simp only [asAddr, Sem.run_pure, Result.andThen, hv]

/-! ### The base -/
theorem size63 : (Tryz.prog.info? 63).map (·.size) = some 260 := by kernel_rfl
def Ba.none : Ba := ⟨zb 256, [0, 0, 0, 0]⟩
theorem Ba.none_ok : Ba.none.Ok := ⟨zb_len 256, rfl, fun x hx => by
  have : x = 0 := by simpa [Ba.none] using hx
  subst this
  exact ⟨by decide, by decide⟩⟩
theorem zc63 : Tryz.zeroCells63 = Ba.none.cells.toArray := by kernel_rfl
theorem zv63 (w : World) : (zeroValue 63).run Tryz.prog w = .ok (.agg Ba.none.cells.toArray) w := by rw [← zc63]; exact Tryz.zeroValue63 w
theorem Lie.ba {w : World} {g o : Nat} {b : Ba} (h : Lie w g o b.cells) (ok : b.Ok) : BaAt w g o b := ⟨h.rg, by have := h.th; rwa [Ba.len ok] at this, ok⟩
theorem BaAt.lie {w : World} {g o : Nat} {b : Ba} (h : BaAt w g o b) : Lie w g o b.cells := ⟨h.rg, by rw [Ba.len h.ok]; exact h.th⟩
theorem hi63 {b : Ba} (h : b.Ok) : (Tryz.prog.info? 63).map (·.size) = some b.cells.length := by rw [size63, Ba.len h]
/-- What put and take leave of a base, and of all else. -/
theorem BaAt.putd {w w' : World} {g o p : Nat} {b : Ba} (h : BaAt w g o b) (hp : p < 2048) (hw : w' = (w.setCell ⟨g, o + p / 8, none⟩ (.int .u8 (orb (b.tk.getD (p / 8) 0) (p % 8)).toNat)).drew) :
    BaAt w' g o (b.put p) ∧ w.grownBy w' (some g) ∧ w'.heap.size = w.heap.size := by
  subst hw
  have hg := gr_set w g (o + p / 8) (.int .u8 (orb (b.tk.getD (p / 8) 0) (p % 8)).toNat)
  refine ⟨(h.byte (i := p / 8) (by omega) _).blk rfl, ⟨hg.os, hg.tape, hg.output, hg.size, hg.block⟩, ?_⟩
  show (w.setCell _ _).heap.size = _
  simp [World.setCell]
theorem BaAt.taked {w w' : World} {g o p : Nat} {b : Ba} (h : BaAt w g o b) (hp : p < 2048) (hw : w' = (w.setCell ⟨g, o + p / 8, none⟩ (.int .u8 (anb (b.tk.getD (p / 8) 0) (p % 8)).toNat)).drew) :
    BaAt w' g o (b.take p) ∧ w.grownBy w' (some g) ∧ w'.heap.size = w.heap.size := by
  subst hw
  have hg := gr_set w g (o + p / 8) (.int .u8 (anb (b.tk.getD (p / 8) 0) (p % 8)).toNat)
  refine ⟨(h.byte (i := p / 8) (by omega) _).blk rfl, ⟨hg.os, hg.tape, hg.output, hg.size, hg.block⟩, ?_⟩
  show (w.setCell _ _).heap.size = _
  simp [World.setCell]
/-- That of pages that are all free. -/
def Ba.empty : Ba := Ba.none.put 0
theorem Ba.empty_ok : Ba.empty.Ok := Ba.put_ok Ba.none_ok 0
set_option maxHeartbeats 1000000 in
theorem emptyBase138 (w : World) : Calls Tryz.prog 138 #[] w fun e w' => e = .returned (.agg Ba.empty.cells.toArray) ∧ Below w.heap.size w w' := by
  unfold Ba.empty
  have zv := zv63
  have ok0 := Ba.none_ok
  generalize Ba.none = N at *
  have ok1 := Ba.put_ok ok0 0
  have hi := hi63 ok1
  have hl1 := Ba.len ok1
  have c78 := fun (W : World) (g : Nat) (hA : BaAt W g 0 N) => put78 W g 0 N hA 0 (by decide)
  simp only [Int.natCast_zero, Nat.zero_div, Nat.zero_mod, Nat.add_zero] at c78
  have hpd := fun (W W' : World) (g : Nat) (hA : BaAt W g 0 N) hw => hA.putd (p := 0) (w' := W') (by decide) hw
  simp only [Nat.zero_div, Nat.zero_mod, Nat.add_zero] at hpd
  generalize N.put 0 = E at *
  generalize orb (N.tk.getD 0 0) 0 = q at *
  go_enter Tryz.func138, Tryz.ntmps138
  go_wp2_with (first
    | (with_reducible show wpList _ _ _ (Oper.mk (some 0) (Op.alloc 63) _ _ _ _ :: _) _ _
       refine wpList_allocZ 63 _ zv rfl rfl ?_; intro w1 B1 s1 L1)
    | (with_reducible show wpList _ _ _ (Oper.mk (some 1) (Op.alloc 63) _ _ _ _ :: _) _ _
       refine wpList_allocZ 63 _ zv rfl rfl ?_; intro w2 B2 s2 L2
       have A2 := L2.ba ok0)
    | (go_at_call 78; refine (c78 w2 w1.heap.size A2).mono ?_
       rintro e w3 ⟨rfl, hw3⟩
       obtain ⟨A3, g3, z3⟩ := hpd _ _ _ A2 hw3
       have hr3 : w3.rangeAt w1.heap.size 0 E.cells := A3.rg
       have hs1 := s1.out
       have hs2 := s2.out
       have T3 : w3.there w.heap.size 0 E.cells.length := by
         rw [hl1]
         have := L1.th
         rw [Ba.len ok0] at this
         exact there_same (there_same this (B2.block _ (by omega))) (g3.block _ (by omega) (fun e => by injection e with e; omega))
       have HB3 := Lib.hid (((B1.trans (B2.mono B1.size)).grown g3 (by omega) (fun k e => by injection e with e; omega)))
       have Hz := Lib.hid z3
       clear hw3 A3 A2 g3 L1 L2 hs1 hs2 z3)
    | (with_reducible show wpList _ _ _ (Oper.mk _ (Op.load 63 (Operand.tmp 1)) _ _ _ _ :: _) _ _
       refine wpList_load_mid rfl 63 _ rfl _ _ rfl _ _ hr3 Tryz.underlying63 rfl hi ?_)
    | (with_reducible show wpList _ _ _ (Oper.mk _ (Op.store 63 (Operand.tmp 0) _) _ _ _ _ :: _) _ _
       refine wpList_storeZ 63 E.cells hi (Ba.one _) rfl _ _ rfl w.heap.size 0 rfl rfl T3 ?_
       intro w4 g4 L4 t4 r4 z4))
  refine bodyPost_ret (results_cellZ Tryz.results138 _ _ w.heap.size E.cells rfl L4.rg Tryz.underlying63 rfl hi) rfl ?_
  exact ⟨rfl, HB3.out.grown g4 HB3.out.size (fun k e => by injection e with e; omega)⟩

/-! ### A sheet -/
theorem size165 : (Tryz.prog.info? 165).map (·.size) = some 449 := by kernel_rfl
/-- A sheet's cells: the bytes, zeros behind them, and how many they are. -/
def shc (b : List UInt8) : List Value := enc (b ++ zb (448 - b.length)) ++ [.int .i64 b.length]
theorem shc_len {b : List UInt8} (h : b.length ≤ 448) : (shc b).length = 449 := by
  unfold shc
  rw [List.length_append, len_enc, List.length_append, zb_len]
  simp
  omega
theorem shc_one (b : List UInt8) : ∀ v ∈ shc b, v.oneCell' = true := by
  intro v hv
  rcases List.mem_append.1 hv with h | h
  · exact one_enc _ v h
  · simp at h; subst h; rfl
theorem zc165 : Tryz.zeroCells165 = (shc []).toArray := by kernel_rfl
theorem zv165 (w : World) : (zeroValue 165).run Tryz.prog w = .ok (.agg (shc []).toArray) w := by rw [← zc165]; exact Tryz.zeroValue165 w
theorem hi165 {b : List UInt8} (h : b.length ≤ 448) : (Tryz.prog.info? 165).map (·.size) = some (shc b).length := by rw [size165, shc_len h]
end Go.Proofs.YtfakgfmgofblgaaGreatDoor
