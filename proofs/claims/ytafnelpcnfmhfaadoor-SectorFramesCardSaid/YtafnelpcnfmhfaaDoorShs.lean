/-
  An argument that is a sector.
-/
import Derived.Test.YtafnelpcnfmhfaaDoorShl
namespace Go.Proofs.YtafnelpcnfmhfaaDoor
open Go.ChangeShapes Go.WideShapes Go.ChangeAt Go.RowKit

theorem cells26 : Tryd.prog.cellsOf 26 = 128 := by kernel_rfl
theorem agg_arr {P : Program} {W : World} {r : Reach} {base : Nat} {t e : TypeId} {n : Nat} {v : Value} (ht : P.underlying t = some (.array n e)) (h : Value.okWide P W r base t v) : ∃ cs, v = .agg cs := by
  unfold Value.okWide at h
  rw [ht] at h
  obtain ⟨cs, h1, -⟩ := h
  exact ⟨cs, h1⟩
set_option maxRecDepth 100000 in
theorem arg_sector {H : Type} {enc : TypeId × Value → H} {W : World} {base : Nat} {v : Value} {d : DataW H} {ps : List MemPlace} (hval : Value.okWide Tryd.prog W .any base 26 v) (h : DataW.Trod enc Tryd.prog W 0 (fun _ => true) true 26 v d ps) :
    ∃ s : List UInt8, v = .agg (encA s) ∧ s.length = 128 := by
  obtain ⟨n, hn⟩ := h
  obtain ⟨xs, m, rfl, -, hl, hxl, hf⟩ := DataW.trod_array Tryd.underlying26 hn
  obtain ⟨cs, rfl⟩ := agg_arr Tryd.underlying26 hval
  have hcs : (Value.agg cs).cells.toList = cs.toList := rfl
  rw [hcs] at hl hf
  rw [cells26] at hl
  rw [cells5'] at hf
  have each : ∀ i, i < 128 → ∃ c : UInt8, cs.toList[i]? = some (.int .u8 c.toNat) := by
    intro i hi
    have he := hf i hi
    rw [List.getElem?_eq_getElem (by omega)] at he
    obtain ⟨x, hx, -, hwf⟩ := DataW.trod_int Tryd.underlying5 he
    obtain ⟨c, rfl⟩ := byte_of hwf
    refine ⟨c, ?_⟩
    have h1 : ((cs.toList.drop (i * 1)).take 1)[0]? = some (.int .u8 c.toNat) := by rw [hx]; rfl
    rw [List.getElem?_take_of_lt (by omega), List.getElem?_drop] at h1
    simpa using h1
  let g : Nat → UInt8 := fun i => if h : i < 128 then (each i h).choose else 0
  have hg : ∀ i (h : i < 128), cs.toList[i]? = some (.int .u8 (g i).toNat) := fun i h => by
    show cs.toList[i]? = some (.int .u8 (if h : i < 128 then (each i h).choose else 0).toNat)
    rw [dif_pos h]; exact (each i h).choose_spec
  refine ⟨(List.range 128).map g, ?_, by simp⟩
  congr 1
  apply Array.ext'
  unfold encA YtafnelpcnfmhfaaDoor.enc
  apply List.ext_getElem?
  intro i
  by_cases hi : i < 128
  · rw [hg i hi]
    simp [hi]
  · rw [List.getElem?_eq_none (by omega), List.getElem?_eq_none (by simp; omega)]
end Go.Proofs.YtafnelpcnfmhfaaDoor
