/-
  NodePlace's walk, whatever comes in.
-/
import Derived.Test.YtbkpgppaahpalaaPlc
import Derived.Test.YtbkpgppaahpalaaPno
import Derived.Test.YtbkpgppaahpalaaShm
namespace Go.Proofs.Ytbkpgppaahpalaa
open Go.RowKit
set_option linter.unusedVariables false      -- a walk need not use every condition

theorem insR_mem (c : C) : ∀ (L : List C) (d : C), d ∈ insR c L → d = c ∨ d ∈ L
  | [], d, h => by simpa [insR] using h
  | e :: r, d, h => by
    unfold insR at h
    split at h
    · split at h
      · rcases List.mem_cons.1 h with rfl | h
        · exact .inl rfl
        · exact .inr (List.mem_cons_of_mem _ h)
      · rcases List.mem_cons.1 h with rfl | h
        · exact .inl rfl
        · exact .inr h
    · rcases List.mem_cons.1 h with rfl | h
      · exact .inr (by simp)
      · rcases insR_mem c r d h with h | h
        · exact .inl h
        · exact .inr (List.mem_cons_of_mem _ h)
theorem fit_ins (n : Nd) (c : C) (hf : Fit n) (hr : Room n) (hc : fitC c) : Fit (insN n c) := by
  obtain ⟨f1, f2, f3, f4, f5⟩ := hf
  have hl := place_len c n.cells
  refine ⟨?_, f2, f3, fun d hd => ?_, f5⟩
  · show (insC c n.cells).length * 64 ≤ _
    rw [insC_eq, hl]
    have := hr.1
    split <;> omega
  · have hd' : d ∈ insC c n.cells := hd
    rw [insC_eq] at hd'
    rcases insR_mem c _ d hd' with rfl | h
    · have := hc
      unfold fitC at this
      omega
    · exact f4 d h
theorem place9 (w : World) (v x : Value) (n : Nd) (c : C) (h : NdS w v n) (hx : CeS w x c) (hf0 : Fit n) (hr : Room n) (hc : fitC c) :
    Calls Try.prog 9 #[v, x] w fun e w' => e = .returned (.bool true) ∧ Below w.heap.size w w' := by
  cases hm : may n with
  | false => exact place_no0 w v x n c h hx hm
  | true =>
    cases hL : n.leaf with
    | false => exact place_no1 w v x n c h hx hm hL
    | true =>
      by_cases h1 : c.key.length < 1
      · exact place_no2 w v x n c h hx hm hL h1
      by_cases h2 : 96 < c.key.length
      · exact place_no3 w v x n c h hx hm hL h1 h2
      by_cases h3 : c.over = 0
      · by_cases h4 : c.len = 0
        · by_cases h5 : 64 < c.val.length
          · exact place_no6 w v x n c h hx hm hL h1 h2 h3 h4 h5
          · exact place_yes w v x n c h hx (fit_ins n c hf0 hr hc) hf0 (by have := hr.1; omega) hm hL (by omega) (by omega) h3 h4 (by omega)
        · exact place_no5 w v x n c h hx hm hL h1 h2 h3 h4
      · exact place_no4 w v x n c h hx hm hL h1 h2 h3
end Go.Proofs.Ytbkpgppaahpalaa
