/-
  For any two lists of values: their keys by Key of package codec stand as they do, a key of fewer is a beginning, and begun holds; where what comes in is of bulk at most 1048576 (the second form: keys of greater lists are longer than any slice can be).
-/
import Derived.Test.YtekfbijkalamkaaShell
import Derived.Test.YtekfbijkalamkaaOrder
namespace Go.Proofs.Ytekfbijkalamkaa.codecOrder
open Go.ChangeShapes Go.WideShapes Go.ChangeAt Go.RowKit
set_option linter.unusedVariables false      -- a walk need not use every condition

theorem walk (l m : List V) (sl sm : Value) (w : World) (hl : Sl w 0 l sl) (hm : Sl w 0 m sm) (kl : manyL l ≤ 1048576) (km : manyL m ≤ 1048576) :
    Calls Try.prog 5 #[sl, sm] w fun e w' => e = .returned (.bool true) ∧ Below w.heap.size w w' := by
  have h1 := keyL_len l
  have h2 := keyL_len m
  by_cases h : bads l = 0 ∧ bads m = 0
  · exact order_yes l m sl sm w hl hm (by omega) (by omega) h.1 h.2
  · exact order_no l m sl sm w hl hm (by omega) (by omega) (by omega)
set_option maxRecDepth 100000 in
theorem lifted (os : Os) (started : os.Started) (H : Type) (enc : TypeId × Value → H) (F : Stop.Interp) :
    ReturnsInHanded {} Try.checked os 5 .any ((Rows.OpenSpec.upto Rows.codecOrderSpec).pre6 enc Try.prog Try.f5 Rows.codecOrderUptoRow.domain false) (((Rows.OpenSpec.upto Rows.codecOrderSpec).at F).post enc Try.prog Try.f5 false true false false) := by
  refine returnsInHanded_of_cond_sized (C := Try.checked) (s := Rows.OpenSpec.upto Rows.codecOrderSpec) (k := Rows.uptoSmall) rfl own started (by kernel_rfl) Try.func5
    (OpenSpec.witness (enc := enc) (C := Try.checked) (s := Rows.OpenSpec.upto Rows.codecOrderSpec) (k := Rows.uptoSmall) rfl false ⟨#[], #[.slice none 0 0, .slice none 0 0], []⟩ 8 (by kernel_rfl) (by kernel_rfl) (by kernel_rfl)
      (x := ([.nil, .nil], [], [])) (by kernel_rfl) rfl (by kernel_rfl)) ?_
  intro W base args ds gs before hval0 hW _ hk hsz0 _
  have hsz : (DataW.weightsEach Try.prog (Try.f5.params.toList ++ Rows.codecOrderSpec.plain.varTypes Try.prog) (ds ++ gs)).all (· ≤ reachBytes) = true := hsz0
  clear hsz0
  have hval : ∀ (j : Nat) t v, Try.f5.params[j]? = some t → args[j]? = some v → Value.okWide Try.prog W .any base t v := hval0
  have hW' := hW
  obtain ⟨p, q, hA0, hV, rfl, hfz, hnd⟩ := hW
  have hA : DataW.TrodAll enc Try.prog W 0 (fun _ => true) true Try.f5.params.toList args.toList ds p := hA0
  rw [Try.params5] at hA hval hsz
  obtain ⟨v0, vs0, d0, ds0, p0, q0, hargs, rfl, rfl, h0, r0⟩ := trodAll_cons hA
  obtain ⟨v1, vs1, d1, ds1, p1, q1, rfl, rfl, rfl, h1, r1⟩ := trodAll_cons r0
  obtain ⟨rfl, rfl, rfl⟩ := trodAll_nil r1
  obtain rfl : args = #[v0, v1] := by cases args; simp_all
  obtain ⟨rfl, rfl⟩ := trodVars_none hV
  have hbulk : Rows.uptoBulk d0 + (Rows.uptoBulk d1 + 0) ≤ 1048576 := by
    have h := of_decide_eq_true hk
    simp only [List.append_nil, Rows.uptoBulkAll] at h
    exact h
  obtain ⟨a0, n0, c0, e0⟩ := okWide_slice Try.underlying22 (hval 0 22 v0 rfl rfl)
  obtain ⟨a1, n1, c1, e1⟩ := okWide_slice Try.underlying22 (hval 1 22 v1 rfl rfl)
  obtain ⟨l0, s0, m0⟩ := arg_listb h0 (by rw [e0]; exact slice_cells) (weigh hsz (j := 0) (t := 22) rfl rfl)
  obtain ⟨l1, s1, m1⟩ := arg_listb h1 (by rw [e1]; exact slice_cells) (weigh hsz (j := 1) (t := 22) rfl rfl)
  clear hA0 hval0
  simp only [List.append_nil] at hW'
  have lt0 : ∀ x ∈ p0, x.block < W.heap.size := by obtain ⟨m, hm⟩ := h0; exact DataW.trod_lt m _ _ _ hm
  have lt1 : ∀ x ∈ p1, x.block < W.heap.size := by obtain ⟨m, hm⟩ := h1; exact DataW.trod_lt m _ _ _ hm
  refine (walk l0 l1 v0 v1 W s0 s1 (by omega) (by omega)).mono fun e W' ⟨he, bel⟩ => ?_
  subst he
  exact ⟨_, rfl, _, _, _, [], _, [], hW', trodAll_mk1 (shut_bool Try.underlying4 _), (trodAll_cons_mk (Below.trod laidOut read22 lt22 h0 bel lt0) (trodAll_cons_mk (Below.trod laidOut read22 lt22 h1 bel lt1) trodAll_mk0)), rfl, bel.frame _, fun h => by cases h⟩

theorem over : Rows.codecOrderUptoRow.holds Try.pinned (Rows.OpenSpec.upto Rows.codecOrderSpec) :=
  OpenClaim.holds_of_cond 5 Try.f5 rfl rfl rfl rfl rfl rfl rfl ⟨rfl, rfl, rfl, rfl, rfl⟩ rfl rfl rfl rfl rfl (by kernel_rfl) Try.func5 (by kernel_rfl)
    (of_decide_eq_true (by kernel_rfl)) (by unfold Func.isWrapper; first | (rw [if_pos (by decide +kernel)]; kernel_rfl) | (rw [if_neg (by decide +kernel)]; exact ⟨rfl, rfl⟩))
    (fun os started H enc _ F => lifted os started H enc F)
end Go.Proofs.Ytekfbijkalamkaa.codecOrder
namespace Go.Proofs.Ytekfbijkalamkaa
/-- The given statement. -/
theorem codecOrder_holds : Rows.CodecOrderUptoSaid := codecOrder.over
#print axioms codecOrder_holds
end Go.Proofs.Ytekfbijkalamkaa
