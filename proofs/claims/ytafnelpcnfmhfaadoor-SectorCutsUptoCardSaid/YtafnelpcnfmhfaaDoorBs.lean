/-
  Bytes in memory, wherever they lie; what bytes.Equal does with them; numbers that fit.
-/
import Derived.Test.YtafnelpcnfmhfaaDoorFill
import Derived.Lib.SliceRun
import Derived.Lib.Hide
import Derived.Laws.AppendOwnNone
import Derived.Laws.IdiomStrings
import Derived.Laws.BytesArg
namespace Go.Proofs.YtafnelpcnfmhfaaDoor
open Go.RowKit
set_option linter.unusedVariables false      -- a walk need not use every condition

theorem info5 : (Tryd.prog.info? 5).map (fun i => (i.zero, i.size, i.bytes)) = some (some (.int .u8 0), 1, 1) := by kernel_rfl
/-- Bytes that lie somewhere: none of them, whatever the address, or from an address on. -/
def Bs (w : World) (v : Value) (t : List UInt8) : Prop := ∃ p cap, v = .slice p t.length cap ∧ t.length ≤ cap ∧ cap ≤ maxLen ∧ (p = none → cap = 0) ∧
  (t = [] ∨ ∃ g o, p = some ⟨g, o, none⟩ ∧ w.rangeAt g o (enc t))
theorem bs_nil (w : World) : Bs w (.slice none 0 0) [] := ⟨none, 0, rfl, Nat.le_refl _, by unfold maxLen; omega, fun _ => rfl, .inl rfl⟩
theorem range_on {w w' : World} {g o : Nat} {cs : List Value} (h : w.rangeAt g o cs) (hb : Below w.heap.size w w') : w'.rangeAt g o cs := fun j v hv => by
  have h1 := h j v hv
  have hlt := World.block_lt_of_cell? w ⟨g, o + j, none⟩ h1
  exact (World.cell?_of_block (w := w) (a := ⟨g, o + j, none⟩) (hb.block _ hlt)).trans h1
theorem Bs.on {w w' : World} {v : Value} {t : List UInt8} (h : Bs w v t) (hb : Below w.heap.size w w') : Bs w' v t := by
  obtain ⟨p, cap, rfl, h1, h2, h3, h4⟩ := h
  refine ⟨p, cap, rfl, h1, h2, h3, ?_⟩
  rcases h4 with h4 | ⟨g, o, rfl, hc⟩
  · exact .inl h4
  · exact .inr ⟨g, o, rfl, range_on hc hb⟩
theorem Bs.len {w : World} {v : Value} {t : List UInt8} (h : Bs w v t) : t.length ≤ maxLen := by
  obtain ⟨p, cap, rfl, h1, h2, -⟩ := h
  omega
theorem enc_at {t : List UInt8} {i : Nat} (h : i < t.length) : (enc t)[i]? = some (.int .u8 (t.getD i 0).toNat) := by simp [enc, h]
theorem bs_cell {w : World} {g o : Nat} {t : List UInt8} (hc : w.rangeAt g o (enc t)) {i : Nat} (h : i < t.length) : w.cell? ⟨g, o + i, none⟩ = some (.int .u8 (t.getD i 0).toNat) := hc i _ (enc_at h)

/-- As a string. -/
theorem Bs.str {w : World} {v : Value} {t : List UInt8} (h : Bs w v t) : (convert 22 9 v).run Tryd.prog w = .ok (.string ⟨t.toArray⟩) w := by
  obtain ⟨p, cap, rfl, h1, h2, h3, h4⟩ := h
  rcases h4 with rfl | ⟨g, o, rfl, hc⟩
  · cases p with
    | none => exact run_convert_bytes_nil w 22 5 Tryd.underlying22 Tryd.underlying5 0 cap 9 Tryd.underlying9
    | some a => exact run_convert_bytes_back w 22 9 5 a cap [] Tryd.underlying22 Tryd.underlying5 Tryd.underlying9 fun j hj => absurd hj (Nat.not_lt_zero _)
  · refine run_convert_bytes_back w 22 9 5 ⟨g, o, none⟩ cap t Tryd.underlying22 Tryd.underlying5 Tryd.underlying9 fun j hj => ?_
    rw [Go.WideShapes.add_plain]
    have := bs_cell hc hj
    rwa [List.getD_eq_getElem?_getD, List.getElem?_eq_getElem hj] at this
theorem arr_beq (t u : List UInt8) : ((⟨t.toArray⟩ : ByteArray).toList == (⟨u.toArray⟩ : ByteArray).toList) = (t == u) := by
  rw [ByteArray.toList_eq, ByteArray.toList_eq]
set_option maxHeartbeats 1000000 in
theorem equal26 (w : World) (a b : Value) (t u : List UInt8) (ha : Bs w a t) (hb : Bs w b u) :
    Calls Tryd.prog 26 #[a, b] w fun e w' => e = .returned (.bool (t == u)) ∧ w' = w := by
  have c1 := ha.str
  have c2 := hb.str
  rw [← arr_beq]
  generalize (⟨t.toArray⟩ : ByteArray) = s1 at *
  generalize (⟨u.toArray⟩ : ByteArray) = s2 at *
  obtain ⟨p, cap, rfl, -⟩ := ha
  obtain ⟨q, cap', rfl, -⟩ := hb
  go_enter Tryd.func26, Tryd.ntmps26
  go_wp2
  go_ret
  exact ⟨rfl, rfl⟩
end Go.Proofs.YtafnelpcnfmhfaaDoor
