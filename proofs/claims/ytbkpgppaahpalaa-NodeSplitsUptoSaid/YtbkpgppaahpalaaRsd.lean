/-
  The document's Split.
-/
import Derived.Test.YtbkpgppaahpalaaHld
import Derived.Test.YtbkpgppaahpalaaRcn
import Derived.Test.YtbkpgppaahpalaaNby
namespace Go.Proofs.Ytbkpgppaahpalaa
open Go.RowKit
set_option linter.unusedVariables false      -- a walk need not use every condition

/-- What is at hand in the document's Split behind its clone. -/
def Sp (w u : World) (vc vk vi : Value) (n : Nd) : Prop := Below w.heap.size w u ∧ u.heap[w.heap.size]? = some (.cells #[.bool n.leaf, vc, vk, vi] 26) ∧ u.heap[w.heap.size + 1]? = some (Obj.cells #[.bool false, .slice none 0 0, .slice none 0 0, .slice none 0 0] 26) ∧ u.heap[w.heap.size + 1 + 1]? = some (Obj.cells #[.bool false, .slice none 0 0, .slice none 0 0, .slice none 0 0] 26) ∧ NdO w.heap.size u (.agg #[.bool n.leaf, vc, vk, vi]) n
theorem NdS.hdr {w : World} {v : Value} {n : Nd} (h : NdS w v n) : ∃ p1 c1 p2 c2 p3 c3, v = .agg #[.bool n.leaf, .slice p1 n.cells.length c1, .slice p2 n.keys.length c2, .slice p3 n.kids.length c3] := by
  obtain ⟨vc, vk, vi, rfl, hC, hK, hI⟩ := h
  obtain ⟨pc, cc, rfl, -, -⟩ := hC.hdr
  obtain ⟨pk, ck, rfl, -, -⟩ := hK.hdr
  obtain ⟨pi, ci, rfl, -, -⟩ := hI.hdr
  exact ⟨_, _, _, _, _, _, rfl⟩
theorem Sp.on {w u u' : World} {vc vk vi : Value} {n : Nd} (h : Sp w u vc vk vi n) (hb : Below u.heap.size u u') : Sp w u' vc vk vi n := by
  obtain ⟨h1, h2, h3, h4, h5⟩ := h
  exact ⟨bel_then h1 hb, blk_on hb h2, blk_on hb h3, blk_on hb h4, h5.on hb⟩
end Go.Proofs.Ytbkpgppaahpalaa
