/-
  When two sectors are the same.
-/
import Derived.Test.YtafnelpcnfmhfaaDoorRead
import Derived.ChangeKeysEq
namespace Go.Proofs.YtafnelpcnfmhfaaDoor
open Go.RowKit Go.Maps Go.ChangeMaps Go.MapKept Go.WideShapes

theorem cells5 : Tryd.prog.cellsOf 5 = 1 := by kernel_rfl
theorem items26 (a b : List UInt8) (w : World) : ∀ is : List Nat, (∀ i ∈ is, i < a.length ∧ i < b.length) → (Op.eqItems 9999 5 1 (enc a).toArray (enc b).toArray is).run Tryd.prog w = .ok (is.all fun i => a.getD i 0 == b.getD i 0) w
  | [], _ => by simp [Op.eqItems]
  | i :: is, h => by
    have ih := items26 a b w is fun j hj => h j (by simp [hj])
    obtain ⟨h1, h2⟩ := h i (by simp)
    have e1 : (enc a)[i]? = some (.int .u8 (a.getD i 0).toNat) := by simp [enc, h1]
    have e2 : (enc b)[i]? = some (.int .u8 (b.getD i 0).toNat) := by simp [enc, h2]
    have e3 : (((a.getD i 0).toNat : Int) == ((b.getD i 0).toNat : Int)) = (a.getD i 0 == b.getD i 0) := by
      rw [Bool.eq_iff_iff]
      simp only [beq_iff_eq]
      constructor
      · intro e; exact UInt8.toNat_inj.1 (by omega)
      · intro e; rw [e]
    simp only [Op.eqItems, List.all_cons]
    generalize a.getD i 0 = x at *
    generalize b.getD i 0 = y at *
    simp [go_sem, e1, e2, e3, ih]
    by_cases hxy : x = y <;> simp [hxy]
theorem all_same (a b : List UInt8) (n : Nat) (ha : a.length = n) (hb : b.length = n) : ((List.range n).all fun i => a.getD i 0 == b.getD i 0) = decide (a = b) := by
  rw [Bool.eq_iff_iff, List.all_eq_true, decide_eq_true_iff]
  constructor
  · intro h
    apply List.ext_getElem (by omega)
    intro j h1 h2
    have := h j (List.mem_range.2 (by omega))
    simpa [h1, h2] using this
  · rintro rfl j -
    simp
theorem eq26 (a b : List UInt8) (ha : a.length = 128) (hb : b.length = 128) (w : World) : (Op.equalIn 10000 26 (.agg (enc a).toArray) (.agg (enc b).toArray)).run Tryd.prog w = .ok (decide (a = b)) w := by
  obtain ⟨i, hi⟩ := info_of_underlying Tryd.underlying5
  rw [run_equalIn_array w 9999 _ _ Tryd.underlying26 hi, cells5, items26 a b w _ (fun i hi => by rw [ha, hb]; exact ⟨List.mem_range.1 hi, List.mem_range.1 hi⟩), all_same a b 128 ha hb]
theorem eq26a (a b : List UInt8) (ha : a.length = 128) (hb : b.length = 128) (w : World) : (Op.equalIn 10000 26 (.agg (encA a)) (.agg (encA b))).run Tryd.prog w = .ok (decide (a = b)) w := eq26 a b ha hb w
theorem eq26b (a b : List UInt8) (ha : a.length = 128) (hb : b.length = 128) (w : World) : (Op.equalIn 10000 26 (.agg (enc a).toArray) (.agg (encA b))).run Tryd.prog w = .ok (decide (a = b)) w := eq26 a b ha hb w
end Go.Proofs.YtafnelpcnfmhfaaDoor
