/-
  Arguments that are nodes, with how much room there is behind them.
-/
import Derived.Test.YtbkpgppaahpalaaShl
namespace Go.Proofs.Ytbkpgppaahpalaa
open Go.ChangeShapes Go.WideShapes Go.ChangeAt Go.RowKit

/-- What a node that came in has at the most. -/
def Room (n : Nd) : Prop := n.cells.length * 64 ≤ 140737488351232 ∧ n.keys.length * 24 ≤ 140737488351232 ∧ n.kids.length * 8 ≤ 140737488351232
set_option maxRecDepth 100000 in
/-- A node. -/
theorem open_node_r {H : Type} {enc : TypeId × Value → H} {W : World} (n : Nat) (cs : List Value) (x : DataW H × List MemPlace) (h : DataW.trod enc Try.prog W 0 (fun _ => true) true n 26 cs = some x) (hw : ∀ k ∈ x.1.weights Try.prog 26, k ≤ reachBytes) :
    ∃ nd : Nd, NdS W (.agg cs.toArray) nd ∧ Fit nd ∧ massN nd ≤ Rows.uptoBulk x.1 ∧ Room nd := by
  obtain ⟨xs, m, rfl, rfl, hl, hxl, hf⟩ := DataW.trod_struct Try.underlying26 h
  rw [cells26] at hl
  obtain ⟨c0, c1, c2, c3, rfl⟩ := four_list hl
  obtain ⟨x0, x1, x2, x3, rfl⟩ := four_list (show xs.length = 4 from hxl)
  have f0 := hf 0 _ rfl
  have f1 := hf 1 _ rfl
  have f2 := hf 2 _ rfl
  have f3 := hf 3 _ rfl
  simp only [List.getElem?_cons_zero, List.getElem?_cons_succ] at f0 f1 f2 f3
  simp only [List.map_cons, List.map_nil, DataW.weights, Try.underlying26, DataW.weightsEach, List.append_nil] at hw
  obtain ⟨b, h0, -⟩ := DataW.trod_bool Try.underlying4 f0
  obtain ⟨L1, s1, e1, E1, z1, m1, k1⟩ := open_fl Try.underlying22 cells44 (by omega) bytes44 cellV massC fitC (fun m cs x h hw => open_cell m cs x h hw) m [c1] x1 f1 fun q hq => hw q (by simp [hq])
  obtain ⟨L2, s2, e2, E2, z2, m2, k2⟩ := open_fl Try.underlying23 cells27 (by omega) bytes27 keyV (fun k : List UInt8 => k.length + 1) (fun k => k.length ≤ 140737488351232) (fun m cs x h hw => open_key m cs x h hw) m [c2] x2 f2 fun q hq => hw q (by simp [hq])
  obtain ⟨L3, s3, e3, E3, z3, m3, -⟩ := open_fl Try.underlying24 cells3 (by omega) bytes3 kidV (fun _ : Int => 1) (fun _ => True) (fun m cs x h hw => open_kid m cs x h hw) m [c3] x3 f3 fun q hq => hw q (by simp [hq])
  injection h0 with h0; injection e1 with e1; injection e2 with e2; injection e3 with e3
  subst h0 e1 e2 e3
  refine ⟨⟨b, L1, L2, L3⟩, ⟨_, _, _, rfl, E1, E2, E3⟩, ⟨by simp only; omega, by simp only; omega, by simp only; omega, fun c hc => ?_, fun k hk => ?_⟩, ?_, ⟨by simp only; omega, by simp only; omega, by simp only; omega⟩⟩
  · have := k1 c hc
    unfold fitC at this
    omega
  · have := k2 k hk
    omega
  · simp only [massN, List.map_cons, List.map_nil, Rows.uptoBulk, Rows.uptoBulkAll]
    omega
set_option maxRecDepth 100000 in
/-- Arguments. -/
theorem arg_node_r {H : Type} {enc : TypeId × Value → H} {W : World} {base : Nat} {v : Value} {d : DataW H} {ps : List MemPlace} (hval : Value.okWide Try.prog W .any base 26 v) (h : DataW.Trod enc Try.prog W 0 (fun _ => true) true 26 v d ps) (hw : ∀ k ∈ d.weights Try.prog 26, k ≤ reachBytes) :
    ∃ nd : Nd, NdS W v nd ∧ Fit nd ∧ massN nd ≤ Rows.uptoBulk d ∧ Room nd := by
  obtain ⟨n, hn⟩ := h
  obtain ⟨nd, h1, h2⟩ := open_node_r n _ _ hn hw
  obtain ⟨cs, rfl⟩ := agg_of Try.underlying26 hval
  exact ⟨nd, h1, h2⟩
end Go.Proofs.Ytbkpgppaahpalaa
