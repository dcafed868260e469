/-
  For any graph: if it may be, each edge is told by Out of one vertex and In of another one, and by no others (as far as the statement looks), and begun holds; no condition on the input.
-/
import Derived.Test.YteknbploiombiaaZShl
import Derived.Test.YteknbploiombiaaZGby
namespace Go.Proofs.Yteknbploiombiaa
open Go.RowKit
theorem both4 (g : Gg) (sv se : Value) (w : World) (hg : Gg.In w 0 g sv se) : Calls Try.prog 4 #[g.agg sv se] w fun e w' => e = .returned (.bool true) ∧ Below w.heap.size w w' := by
  by_cases h1 : gMay g = true
  · by_cases h2 : 60 < g.vs.length
    · exact both_no g sv se w hg (.inr (.inl h2))
    · by_cases h3 : 60 < g.es.length
      · exact both_no g sv se w hg (.inr (.inr h3))
      · exact both_yes g sv se w hg h1 (by omega) (by omega)
  · exact both_no g sv se w hg (.inl (by simpa using h1))
end Go.Proofs.Yteknbploiombiaa
namespace Go.Proofs.Yteknbploiombiaa.graphBoth
open Go.ChangeShapes Go.WideShapes Go.ChangeAt Go.RowKit
set_option linter.unusedVariables false      -- a walk need not use every condition

set_option maxRecDepth 100000 in
theorem lifted (os : Os) (started : os.Started) (H : Type) (enc : TypeId × Value → H) :
    ReturnsInHanded {} Try.checked os 4 .any (Rows.graphBothSpec.pre6 enc Try.prog Try.f4 Rows.graphBothRow.domain false) (Rows.graphBothSpec.post enc Try.prog Try.f4 false true false false) := by
  refine returnsInHanded_of_change_sized (C := Try.checked) own started (by kernel_rfl) Try.func4
    (ChangeSpec.witness6 (enc := enc) (C := Try.checked) false ⟨#[], #[.agg #[.slice none 0 0, .slice none 0 0, .int .i64 0]], []⟩ 8 (by kernel_rfl) (by kernel_rfl) (by kernel_rfl) (by kernel_rfl)) ?_
  intro W base args ds gs before hval0 hW hcnd hsz0 _
  have hsz : (DataW.weightsEach Try.prog (Try.f4.params.toList ++ Rows.graphBothSpec.plain.varTypes Try.prog) (ds ++ gs)).all (· ≤ reachBytes) = true := hsz0
  clear hsz0
  have hval : ∀ (j : Nat) t v, Try.f4.params[j]? = some t → args[j]? = some v → Value.okWide Try.prog W .any base t v := hval0
  have hW' := hW
  obtain ⟨p, q, hA0, hV, rfl, hfz, hnd⟩ := hW
  have hA : DataW.TrodAll enc Try.prog W 0 (fun _ => true) true Try.f4.params.toList args.toList ds p := hA0
  rw [Try.params4] at hA hval hsz
  obtain ⟨v0, vs0, d0, ds0, p0, q0, hargs, rfl, rfl, h0, r0⟩ := trodAll_cons hA
  obtain ⟨rfl, rfl, rfl⟩ := trodAll_nil r0
  obtain rfl : args = #[v0] := by cases args; simp_all
  obtain ⟨rfl, rfl⟩ := trodVars_none hV
  obtain ⟨g, sv, se, rfl, hg⟩ := arg_graph (hval 0 27 v0 rfl rfl) h0 (weigh hsz (j := 0) (t := 27) rfl rfl)
  clear hA0 hval0
  simp only [List.append_nil] at hW'
  have lt0 : ∀ x ∈ p0, x.block < W.heap.size := by obtain ⟨m, hm⟩ := h0; exact DataW.trod_lt m _ _ _ hm
  refine (both4 g sv se W hg).mono fun e W' ⟨he, bel⟩ => ?_
  subst he
  exact ⟨_, rfl, _, _, _, [], _, [], hW', trodAll_mk1 (shut_bool Try.underlying4 _), (trodAll_cons_mk (Below.trod laidOut read25 lt25 h0 bel lt0) trodAll_mk0), rfl, bel.frame _, fun h => by cases h⟩

theorem over : Rows.graphBothRow.holds Try.pinned (OpenSpec.ofChange Rows.graphBothSpec) :=
  OpenClaim.holds_of_wide 4 Try.f4 rfl rfl rfl rfl rfl rfl rfl ⟨rfl, rfl, rfl, rfl, rfl⟩ rfl rfl rfl rfl rfl (by kernel_rfl) Try.func4 (by kernel_rfl)
    (of_decide_eq_true (by kernel_rfl)) (by unfold Func.isWrapper; first | (rw [if_pos (by decide +kernel)]; kernel_rfl) | (rw [if_neg (by decide +kernel)]; exact ⟨rfl, rfl⟩))
    (fun os started H enc _ => lifted os started H enc)
end Go.Proofs.Yteknbploiombiaa.graphBoth
namespace Go.Proofs.Yteknbploiombiaa
/-- The given statement. -/
theorem graphBoth_holds : Rows.GraphBothSaid := graphBoth.over
#print axioms graphBoth_holds
end Go.Proofs.Yteknbploiombiaa
