/-
  Steps of walks over sectors: one is laid, a byte is stored, bytes are copied in.
-/
import Derived.Test.YtnclhjjhobbbjaaDoorZClnAppJnCuaVntWm
import Derived.Test.YtnclhjjhobbbjaaDoorZLgLsComElCu3Eq
import Derived.Great.Walk
import Derived.Laws.IdiomCopy
import Derived.Deep.RegionHeld3
namespace Go.Proofs.YtnclhjjhobbbjaaDoor
open Go.RowKit
set_option linter.unusedVariables false      -- a walk need not use every condition

/-- A sector is laid. -/
theorem wpList_alloc26 {ops : Array Oper} {rest : List Oper} {op : Oper} {a : Act} {w : World} {Q : Exit → Act → World → Prop} (hgd : op.guard = none) (ho : op.op = .alloc 66)
    (h : ∀ w', Below w.heap.size w w' → w'.heap.size = w.heap.size + 1 → Sec w' w.heap.size zer → wpList Tryd.prog ops Q rest (a.put op.dst (.pointer (some ⟨w.heap.size, 0, none⟩))) w') : wpList Tryd.prog ops Q (op :: rest) a w :=
  wpList_plain hgd fun _ hK => by
    unfold Oper.wp execOp
    simp only [ho, Sem.run_bind, Instr.alloc, newVar, newRow, Tryd.zeroValue66, run_newObj_alloc, Sem.run_pure, Result.andThen_ok]
    have hz : (Value.agg Tryd.zeroCells66).cells = encA zer := zc
    simp [go_sem]
    rw [zc]
    exact hK _ _ (h _ (bel1 w _) (World.size_alloc w _) (Sec.new w len_zer))
/-- A byte of a sector is stored. -/
theorem wpList_byte {ops : Array Oper} {rest : List Oper} {op : Oper} {a : Act} {w : World} {Q : Exit → Act → World → Prop} (hgd : op.guard = none) (x y : Operand) (ho : op.op = .store 5 x y)
    (g i : Nat) (l : List UInt8) (c : UInt8) (hx : a.eval x = .pointer (some ⟨g, i, none⟩)) (hy : a.eval y = .int .u8 c.toNat) (hS : Sec w g l) (hi : i < 128)
    (h : ∀ w', w.grownBy w' (some g) → w'.heap.size = w.heap.size → Sec w' g (l.set i c) → wpList Tryd.prog ops Q rest (a.put op.dst undef) w') : wpList Tryd.prog ops Q (op :: rest) a w := by
  refine wpList_plain hgd fun _ hK => ?_
  obtain ⟨c1, c2⟩ := hS.cell hi
  have hw := h _ (gr_set w g i (.int .u8 c.toNat)) (by simp [World.setCell]) (hS.set hi c)
  unfold Oper.wp execOp
  simp only [ho, hx, hy]
  simp [go_sem, c1, c2]
  exact hK _ _ hw
end Go.Proofs.YtnclhjjhobbbjaaDoor
