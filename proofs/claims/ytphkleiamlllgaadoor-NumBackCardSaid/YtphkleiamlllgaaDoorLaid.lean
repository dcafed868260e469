/-
  What the listed package variables give the walks: the table of powers of 10, and that strconv.ErrRange is an error.
-/
import Derived.Test.YtphkleiamlllgaaDoorText
import Derived.Stop.LaidErr
import Derived.LaidMore
import Derived.ProofKit
import Derived.MakeChecks
import Derived.Lib.SmallJoins
namespace Go.Proofs.YtphkleiamlllgaaDoor
open Go.RowKit

theorem gRange : Tryd.prog.globalNamed "strconv.ErrRange" = some 1 := by kernel_rfl
theorem gPow : Tryd.prog.globalNamed "internal/strconv.uint64pow10" = some 2 := by kernel_rfl
theorem tRange : (Tryd.prog.globals[1]?).map (·.type) = some 41 := by kernel_rfl
theorem tPow : (Tryd.prog.globals[2]?).map (·.type) = some 72 := by kernel_rfl
theorem cells30 : Tryd.prog.cellsOf 30 = 1 := by kernel_rfl
theorem cells72 : Tryd.prog.cellsOf 72 = 20 := by kernel_rfl
theorem cells80 : Tryd.prog.cellsOf 80 = 1 := by kernel_rfl
theorem cells9 : Tryd.prog.cellsOf 9 = 1 := by kernel_rfl
theorem star : "*" ++ "errors.errorString" = "*errors.errorString" := by decide
theorem row78 (u : TypeId) (h : Tryd.prog.typeName? 3 u = some "*errors.errorString") : u = 78 :=
  typeName_ptr_named (nm := "errors.errorString") (by rw [star]; kernel_rfl) (by kernel_rfl) (by decide) u (by rw [star]; exact h)

def laid5 : List (String × DataW Unit) := [("math/bits.deBruijn32tab", Rows.laid_math_bits_deBruijn32tab), ("math/bits.deBruijn64tab", Rows.laid_math_bits_deBruijn64tab), ("internal/strconv.uint64pow10", Rows.laid_internal_strconv_uint64pow10), ("strconv.ErrRange", Rows.laid_strconv_ErrRange), ("strconv.ErrSyntax", Rows.laid_strconv_ErrSyntax)]
theorem pow_data : (Rows.laid_internal_strconv_uint64pow10 : DataW Unit) = Lib.tabData .u64 Lib.pow10Tab := by kernel_rfl

/-- strconv.ErrRange holds an interface value. -/
def RangeOk (w : World) : Prop := ∃ tp p, w.var? Tryd.prog "strconv.ErrRange" = some #[.iface tp p]

theorem of_laid {W : World} (h : laidMetH Tryd.prog laid5 W) : TabOk W ∧ RangeOk W := by
  rw [MakeChecks.laidMetH_plain _ _ _ (by kernel_rfl)] at h
  have h2 := h.tail.tail
  refine ⟨?_, ?_⟩
  · unfold TabOk
    rw [pow_data] at h2
    exact Lib.tabIs_of_head gPow tPow Tryd.underlying72 Tryd.underlying30 cells30 cells72 h2
  · obtain ⟨a0, s0, hv0, -, -, -⟩ := laid_sentinel h2.tail gRange tRange Tryd.underlying41 row78 Tryd.underlying78 Tryd.underlying80 rfl rfl Tryd.underlying9 cells80 cells9
    exact ⟨_, _, hv0⟩

theorem tab_on {w w' : World} (h : TabOk w) (hb : Below w.heap.size w w') : TabOk w' := Go.Joins.tab_stays gPow h hb (Nat.le_refl _)
theorem range_on {w w' : World} (h : RangeOk w) (hb : Below w.heap.size w w') : RangeOk w' := by
  obtain ⟨tp, p, hv⟩ := h
  exact ⟨tp, p, Go.Joins.var_stays gRange hv hb (Nat.le_refl _)⟩

/-- The door's own heap meets the condition. -/
theorem door_met (os : Os) (args : Array Value) : laidMetH Tryd.prog laid5 ((World.doorLaid Tryd.prog 400 os).forCall (fun _ _ => 0) ⟨#[], args, []⟩).memory :=
  laidMetH_of_parts3 (fuel := 8) (laidMet_of_run' 8 (by kernel_rfl) (by kernel_rfl)) (by kernel_rfl) (by kernel_rfl)
end Go.Proofs.YtphkleiamlllgaaDoor
