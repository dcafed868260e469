/-
  When two sectors are the same.
  Steps of walks over sectors: one is laid, a byte is stored, bytes are copied in.
-/
import Derived.Test.YtfakgfmgofblgaaGreatDoorZDirtyWriteReadNewFlush
import Derived.ChangeKeysEq
import Derived.Test.YtfakgfmgofblgaaGreatDoorZFrmPutnClnAppJn
import Derived.Great.Walk
import Derived.Laws.IdiomCopy
import Derived.Deep.RegionHeld3
namespace Go.Proofs.YtfakgfmgofblgaaGreatDoor
open Go.RowKit Go.Maps Go.ChangeMaps Go.MapKept Go.WideShapes

theorem cells5 : Tryz.prog.cellsOf 5 = 1 := by kernel_rfl
theorem items26 (a b : List UInt8) (w : World) : ∀ is : List Nat, (∀ i ∈ is, i < a.length ∧ i < b.length) → (Op.eqItems 9999 5 1 (enc a).toArray (enc b).toArray is).run Tryz.prog w = .ok (is.all fun i => a.getD i 0 == b.getD i 0) w
  | [], _ => by simp [Op.eqItems]
  | i :: is, h => by
    have ih := items26 a b w is fun j hj => h j (by simp [hj])
    obtain ⟨h1, h2⟩ := h i (by simp)
    have e1 : (enc a)[i]? = some (.int .u8 (a.getD i 0).toNat) := by simp [enc, h1]
    have e2 : (enc b)[i]? = some (.int .u8 (b.getD i 0).toNat) := by simp [enc, h2]
    have e3 : (((a.getD i 0).toNat : Int) == ((b.getD i 0).toNat : Int)) = (a.getD i 0 == b.getD i 0) := by
      rw [Bool.eq_iff_iff]
      simp only [beq_iff_eq]
      constructor
      · intro e; exact UInt8.toNat_inj.1 (by omega)
      · intro e; rw [e]
    simp only [Op.eqItems, List.all_cons]
    generalize a.getD i 0 = x at *
    generalize b.getD i 0 = y at *
    simp [go_sem, e1, e2, e3, ih]
    by_cases hxy : x = y <;> simp [hxy]
theorem all_same (a b : List UInt8) (n : Nat) (ha : a.length = n) (hb : b.length = n) : ((List.range n).all fun i => a.getD i 0 == b.getD i 0) = decide (a = b) := by
  rw [Bool.eq_iff_iff, List.all_eq_true, decide_eq_true_iff]
  constructor
  · intro h
    apply List.ext_getElem (by omega)
    intro j h1 h2
    have := h j (List.mem_range.2 (by omega))
    simpa [h1, h2] using this
  · rintro rfl j -
    simp
theorem eq26 (a b : List UInt8) (ha : a.length = 128) (hb : b.length = 128) (w : World) : (Op.equalIn 10000 118 (.agg (enc a).toArray) (.agg (enc b).toArray)).run Tryz.prog w = .ok (decide (a = b)) w := by
  obtain ⟨i, hi⟩ := info_of_underlying Tryz.underlying5
  rw [run_equalIn_array w 9999 _ _ Tryz.underlying118 hi, cells5, items26 a b w _ (fun i hi => by rw [ha, hb]; exact ⟨List.mem_range.1 hi, List.mem_range.1 hi⟩), all_same a b 128 ha hb]
theorem eq26a (a b : List UInt8) (ha : a.length = 128) (hb : b.length = 128) (w : World) : (Op.equalIn 10000 118 (.agg (encA a)) (.agg (encA b))).run Tryz.prog w = .ok (decide (a = b)) w := eq26 a b ha hb w
theorem eq26b (a b : List UInt8) (ha : a.length = 128) (hb : b.length = 128) (w : World) : (Op.equalIn 10000 118 (.agg (enc a).toArray) (.agg (encA b))).run Tryz.prog w = .ok (decide (a = b)) w := eq26 a b ha hb w
end Go.Proofs.YtfakgfmgofblgaaGreatDoor
namespace Go.Proofs.YtfakgfmgofblgaaGreatDoor
open Go.RowKit
set_option linter.unusedVariables false      -- a walk need not use every condition

/-- A sector is laid. -/
theorem wpList_alloc26 {ops : Array Oper} {rest : List Oper} {op : Oper} {a : Act} {w : World} {Q : Exit → Act → World → Prop} (hgd : op.guard = none) (ho : op.op = .alloc 118)
    (h : ∀ w', Below w.heap.size w w' → w'.heap.size = w.heap.size + 1 → Sec w' w.heap.size zer → wpList Tryz.prog ops Q rest (a.put op.dst (.pointer (some ⟨w.heap.size, 0, none⟩))) w') : wpList Tryz.prog ops Q (op :: rest) a w :=
  wpList_plain hgd fun _ hK => by
    unfold Oper.wp execOp
    simp only [ho, Sem.run_bind, Instr.alloc, newVar, newRow, Tryz.zeroValue118, run_newObj_alloc, Sem.run_pure, Result.andThen_ok]
    have hz : (Value.agg Tryz.zeroCells118).cells = encA zer := zc
    simp [go_sem]
    rw [zc]
    exact hK _ _ (h _ (bel1 w _) (World.size_alloc w _) (Sec.new w len_zer))
/-- A byte of a sector is stored. -/
theorem wpList_byte {ops : Array Oper} {rest : List Oper} {op : Oper} {a : Act} {w : World} {Q : Exit → Act → World → Prop} (hgd : op.guard = none) (x y : Operand) (ho : op.op = .store 5 x y)
    (g i : Nat) (l : List UInt8) (c : UInt8) (hx : a.eval x = .pointer (some ⟨g, i, none⟩)) (hy : a.eval y = .int .u8 c.toNat) (hS : Sec w g l) (hi : i < 128)
    (h : ∀ w', w.grownBy w' (some g) → w'.heap.size = w.heap.size → Sec w' g (l.set i c) → wpList Tryz.prog ops Q rest (a.put op.dst undef) w') : wpList Tryz.prog ops Q (op :: rest) a w := by
  refine wpList_plain hgd fun _ hK => ?_
  obtain ⟨c1, c2⟩ := hS.cell hi
  have hw := h _ (gr_set w g i (.int .u8 c.toNat)) (by simp [World.setCell]) (hS.set hi c)
  unfold Oper.wp execOp
  simp only [ho, hx, hy]
  simp [go_sem, c1, c2]
  exact hK _ _ hw
end Go.Proofs.YtfakgfmgofblgaaGreatDoor
