/-
  For any graph, element, name and value: what Set sets is so and nothing else changed, and unset (or set back) the graph is as it was, as far as the statement looks, and begun holds; no condition on the input.
-/
import Derived.Test.YteknbploiombiaaZShl
import Derived.Test.YteknbploiombiaaZJstJsh
namespace Go.Proofs.Yteknbploiombiaa
open Go.RowKit
theorem just5 (g : Gg) (sv se : Value) (x : V) (sx : Value) (na : ByteArray) (v : V) (sl : Value) (w : World) (hg : Gg.In w 0 g sv se) (hx : x.In w 0 sx) (hv : v.In w 0 sl) : Calls Try.prog 5 #[g.agg sv se, x.agg sx, .string na, v.agg sl] w fun e w' => e = .returned (.bool true) ∧ Below w.heap.size w w' := by
  obtain ⟨r, m, d, rfl⟩ := hx.header
  obtain ⟨p3, n3, c3, rfl⟩ := hv.header
  obtain ⟨xk, xn, xs, xl⟩ := x
  by_cases hm : gMay g = false
  · exact just_no g sv se xk xn xs xl r m d na v p3 n3 c3 w hg hx hv hm
  replace hm : gMay g = true := by simpa using hm
  by_cases he : (gSet g (ek xk xs xl) xn na v).2 = 0
  · obtain ⟨ps, h1, h2, h3, h4, h5, h6, h7⟩ := just_set hm he
    cases hh : psHas na ps with
    | false => exact just_new g sv se xk xn xs xl r m d na v p3 n3 c3 w hg hx hv hm ps h1 h2 h3 h4 h6 he h7 hh
    | true => exact just_had g sv se xk xn xs xl r m d na v p3 n3 c3 w hg hx hv hm ps h1 h2 h3 h4 h6 he h7 hh
  · exact just_err g sv se xk xn xs xl r m d na v p3 n3 c3 w hg hx hv hm he
end Go.Proofs.Yteknbploiombiaa
namespace Go.Proofs.Yteknbploiombiaa.graphJust
open Go.ChangeShapes Go.WideShapes Go.ChangeAt Go.RowKit
set_option linter.unusedVariables false      -- a walk need not use every condition

theorem read32 : Try.prog.readableRec 30 = true := by kernel_rfl
theorem lt32 : 30 < Try.prog.types.size := of_decide_eq_true (by kernel_rfl)
theorem read9 : Try.prog.readableRec 9 = true := by kernel_rfl
theorem lt9 : 9 < Try.prog.types.size := of_decide_eq_true (by kernel_rfl)
set_option maxRecDepth 100000 in
theorem lifted (os : Os) (started : os.Started) (H : Type) (enc : TypeId × Value → H) :
    ReturnsInHanded {} Try.checked os 5 .any (Rows.graphJustSpec.pre6 enc Try.prog Try.f5 Rows.graphJustRow.domain false) (Rows.graphJustSpec.post enc Try.prog Try.f5 false true false false) := by
  refine returnsInHanded_of_change_sized (C := Try.checked) own started (by kernel_rfl) Try.func5
    (ChangeSpec.witness6 (enc := enc) (C := Try.checked) false ⟨#[], #[.agg #[.slice none 0 0, .slice none 0 0, .int .i64 0], .agg #[.int .i64 0, .int .i64 0, .string ⟨#[]⟩, .slice none 0 0], .string ⟨#[]⟩, .agg #[.int .i64 0, .int .i64 0, .string ⟨#[]⟩, .slice none 0 0]], []⟩ 8 (by kernel_rfl) (by kernel_rfl) (by kernel_rfl) (by kernel_rfl)) ?_
  intro W base args ds gs before hval0 hW hcnd hsz0 _
  have hsz : (DataW.weightsEach Try.prog (Try.f5.params.toList ++ Rows.graphJustSpec.plain.varTypes Try.prog) (ds ++ gs)).all (· ≤ reachBytes) = true := hsz0
  clear hsz0
  have hval : ∀ (j : Nat) t v, Try.f5.params[j]? = some t → args[j]? = some v → Value.okWide Try.prog W .any base t v := hval0
  have hW' := hW
  obtain ⟨p, q, hA0, hV, rfl, hfz, hnd⟩ := hW
  have hA : DataW.TrodAll enc Try.prog W 0 (fun _ => true) true Try.f5.params.toList args.toList ds p := hA0
  rw [Try.params5] at hA hval hsz
  obtain ⟨v0, vs0, d0, ds0, p0, q0, hargs, rfl, rfl, h0, r0⟩ := trodAll_cons hA
  obtain ⟨v1, vs1, d1, ds1, p1, q1, rfl, rfl, rfl, h1, r1⟩ := trodAll_cons r0
  obtain ⟨v2, vs2, d2, ds2, p2, q2, rfl, rfl, rfl, h2, r2⟩ := trodAll_cons r1
  obtain ⟨v3, vs3, d3, ds3, p3, q3, rfl, rfl, rfl, h3, r3⟩ := trodAll_cons r2
  obtain ⟨rfl, rfl, rfl⟩ := trodAll_nil r3
  obtain rfl : args = #[v0, v1, v2, v3] := by cases args; simp_all
  obtain ⟨rfl, rfl⟩ := trodVars_none hV
  obtain ⟨g, sv, se, rfl, hg⟩ := arg_graph (hval 0 27 v0 rfl rfl) h0 (weigh hsz (j := 0) (t := 27) rfl rfl)
  obtain ⟨x, sx, rfl, hx⟩ := arg_val (hval 1 30 v1 rfl rfl) h1 (weigh hsz (j := 1) (t := 30) rfl rfl)
  obtain ⟨na, rfl⟩ := okWide_string Try.underlying9 (hval 2 9 v2 rfl rfl)
  obtain ⟨v, sl, rfl, hv⟩ := arg_val (hval 3 30 v3 rfl rfl) h3 (weigh hsz (j := 3) (t := 30) rfl rfl)
  clear hA0 hval0
  simp only [List.append_nil] at hW'
  have lt0 : ∀ x ∈ p0, x.block < W.heap.size := by obtain ⟨m, hm⟩ := h0; exact DataW.trod_lt m _ _ _ hm
  have lt1 : ∀ x ∈ p1, x.block < W.heap.size := by obtain ⟨m, hm⟩ := h1; exact DataW.trod_lt m _ _ _ hm
  have lt2 : ∀ x ∈ p2, x.block < W.heap.size := by obtain ⟨m, hm⟩ := h2; exact DataW.trod_lt m _ _ _ hm
  have lt3 : ∀ x ∈ p3, x.block < W.heap.size := by obtain ⟨m, hm⟩ := h3; exact DataW.trod_lt m _ _ _ hm
  refine (just5 g sv se x sx na v sl W hg hx hv).mono fun e W' ⟨he, bel⟩ => ?_
  subst he
  exact ⟨_, rfl, _, _, _, [], _, [], hW', trodAll_mk1 (shut_bool Try.underlying4 _), (trodAll_cons_mk (Below.trod laidOut read25 lt25 h0 bel lt0) (trodAll_cons_mk (Below.trod laidOut read32 lt32 h1 bel lt1) (trodAll_cons_mk (Below.trod laidOut read9 lt9 h2 bel lt2) (trodAll_cons_mk (Below.trod laidOut read32 lt32 h3 bel lt3) trodAll_mk0)))), rfl, bel.frame _, fun h => by cases h⟩

theorem over : Rows.graphJustRow.holds Try.pinned (OpenSpec.ofChange Rows.graphJustSpec) :=
  OpenClaim.holds_of_wide 5 Try.f5 rfl rfl rfl rfl rfl rfl rfl ⟨rfl, rfl, rfl, rfl, rfl⟩ rfl rfl rfl rfl rfl (by kernel_rfl) Try.func5 (by kernel_rfl)
    (of_decide_eq_true (by kernel_rfl)) (by unfold Func.isWrapper; first | (rw [if_pos (by decide +kernel)]; kernel_rfl) | (rw [if_neg (by decide +kernel)]; exact ⟨rfl, rfl⟩))
    (fun os started H enc _ => lifted os started H enc)
end Go.Proofs.Yteknbploiombiaa.graphJust
namespace Go.Proofs.Yteknbploiombiaa
/-- The given statement. -/
theorem graphJust_holds : Rows.GraphJustSaid := graphJust.over
#print axioms graphJust_holds
end Go.Proofs.Yteknbploiombiaa
