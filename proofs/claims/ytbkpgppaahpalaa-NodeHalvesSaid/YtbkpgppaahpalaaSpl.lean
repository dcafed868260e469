/-
  Split of package node, of any node.
-/
import Derived.Test.YtbkpgppaahpalaaSpj
import Derived.Test.YtbkpgppaahpalaaSpk
namespace Go.Proofs.Ytbkpgppaahpalaa
open Go.RowKit
set_option linter.unusedVariables false      -- a walk need not use every condition

theorem split22 (w : World) (v : Value) (n : Nd) (h : NdS w v n) (hf : Fit n) (ht : (form n).length ≤ 4611686018427387904) :
    Calls Try.prog 22 #[v] w fun e w' => ∃ va vk vb, e = .returned (.tuple #[va, vk, vb]) ∧ NdO w.heap.size w' va (spl n).1 ∧ Bts w' w.heap.size vk (spl n).2.1 ∧ NdO w.heap.size w' vb (spl n).2.2 ∧ Below w.heap.size w w' := by
  cases hL : n.leaf with
  | true =>
    by_cases h2 : 1 < n.cells.length
    · exact split_leaf w v n h hf ht hL h2
    · exact split_no0 w v n h hf hL h2
  | false =>
    by_cases h1 : 0 < n.keys.length
    · by_cases h2 : n.keys.length < n.kids.length
      · have h' := h
        obtain ⟨vc, vk, vi, rfl, hC, hK, hI⟩ := h'
        obtain ⟨g0, o0, ck, kk, rfl, -⟩ := hK.at h1
        by_cases hc : ck = atI n.keys n.kids + 1
        · exact split_inner_e w g0 o0 ck vc vi n h hf ht hL h1 h2 hc
        · exact split_inner w g0 o0 ck vc vi n h hf ht hL h1 h2 hc
      · exact split_no2 w v n h hf hL h1 h2
    · exact split_no1 w v n h hf hL h1
end Go.Proofs.Ytbkpgppaahpalaa
