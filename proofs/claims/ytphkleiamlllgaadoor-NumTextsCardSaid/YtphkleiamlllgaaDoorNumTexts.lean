/-
  For every number n and every text s: Parse, Text and Digits of package num answer what the document's functions answer; no condition on the inputs; the listed variables of Go's library read as the program's text lays them (a tied card).
-/
import Derived.Test.YtphkleiamlllgaaDoorRows
import Derived.Test.YtphkleiamlllgaaDoorTie
import Derived.Test.YtphkleiamlllgaaDoorCards
import Derived.Test.YtphkleiamlllgaaDoorRefParseB
import Derived.Test.YtphkleiamlllgaaDoorRefText
import Derived.Test.YtphkleiamlllgaaDoorLaid
import Derived.SevenTiedAt
import Derived.Stop.Joined
import Derived.SizedLaws
import Derived.WalkKit
import Derived.ProofKit
import Derived.OpenShut
import Derived.ShutString
namespace Go.Proofs.YtphkleiamlllgaaDoor.numTexts
open Go.ChangeShapes Go.WideShapes Go.ChangeAt Go.RowKit
open Go.ChangeMaps (open_string shut_string)
set_option linter.unusedVariables false      -- a walk need not use every 'w<i>' (that an integer argument fits its kind)

theorem below_on {B : Nat} {a w : World} (h : Below B a w) (n : Nat) : Below B a (w.drewN n) := h.trans ⟨rfl, rfl, rfl, Nat.le_refl _, fun _ _ => rfl⟩
theorem own : ownKnob Tryd.prog.godebug = none := by kernel_rfl

theorem fits_wf {a : Int} (h : (Lit.int .i64 a).wf = true) : fits a = true := by
  rw [fits_iff]
  simpa [Lit.wf, IntKind.min, IntKind.max, IntKind.signed, IntKind.bits] using h

/-- slices.Equal of two lists of the same numbers. -/
theorem equal_same (g1 g2 c d : Nat) (ds : List Int) (hl : ds.length ≤ 20) (w : World) (h1 : ∀ i, i < ds.length → w.cell? ⟨g1, 0 + i, none⟩ = some (.int .i64 (ds.getD i 0))) (h2 : ∀ i, i < ds.length → w.cell? ⟨g2, 0 + i, none⟩ = some (.int .i64 (ds.getD i 0))) :
    Calls Tryd.prog 9 #[.slice (some ⟨g1, 0, none⟩) ds.length c, .slice (some ⟨g2, 0, none⟩) ds.length d] w fun e w' => e = .returned (.bool true) ∧ ∃ q, w' = w.drewN q :=
  (equalInt g1 0 ds.length c g2 0 ds.length d ds ds w (Nat.le_refl _) (Nat.le_refl _) (by omega) (by omega) h1 h2).mono fun e w' ⟨he, hw⟩ => ⟨by rw [he]; simp, hw⟩

set_option maxHeartbeats 2000000 in
theorem walk (a0 : Int) (a1 : ByteArray) (f0 : fits a0 = true) (w1 : a1.size ≤ 140737488351232) (w : World) (hT : TabOk w) (hR : RangeOk w) :
    Calls Tryd.prog 3 #[.int .i64 a0, .string a1] w fun e w' => e = .returned (.bool true) ∧ Below w.heap.size w w' := by
  obtain ⟨tp, p, hv⟩ := hR
  have c5 := numParse_any a1 w w1 tp p hv
  have c6 := fun w => refParse_any a1 w w1
  have c7 := fun w h => numText_any a0 f0 w h
  have c8 := fun w => refText_any a0 f0 w
  have c10 := fun w h => numDigits_told a0 f0 w h
  have c11 := fun w => refDigits_told a0 f0 w
  have hl : (decI a0.natAbs).length ≤ 20 := decI_le _ (by have := (fits_iff a0).1 f0; omega)
  obtain ⟨ds, hds⟩ : ∃ ds, decI a0.natAbs = ds := ⟨_, rfl⟩
  rw [hds] at c10 c11 hl
  have c9 := fun g1 g2 c d => equal_same g1 g2 c d ds hl
  obtain ⟨S, hS⟩ : ∃ S : ByteArray, (⟨(Lib.itoa a0).toArray⟩ : ByteArray) = S := ⟨_, rfl⟩
  rw [hS] at c7 c8
  obtain ⟨x, hx⟩ : ∃ x, pv a1.data.toList = x := ⟨_, rfl⟩
  obtain ⟨y, hy⟩ : ∃ y, pe a1.data.toList = y := ⟨_, rfl⟩
  rw [hx, hy] at c5 c6
  clear hds hS hx hy hv f0 w1
  go_enter Tryd.func3, Tryd.ntmps3
  go_wp2_with (first
    | (go_at_call 5; refine c5.mono ?_; rintro e w1 ⟨rfl, hb1⟩; have hT1 := tab_on hT hb1; clear c5 hT)
    | (go_at_call 6; refine (c6 _).mono ?_; rintro e w' ⟨rfl, rfl⟩; clear c6)
    | (go_at_call 7; refine (c7 _ hT1).mono ?_; rintro e w2 ⟨rfl, hb2⟩; have hT2 := tab_on hT1 hb2; clear c7 hT1)
    | (go_at_call 8; refine (c8 _).mono ?_; rintro e w3 ⟨rfl, hb3⟩; have hT3 := tab_on hT2 hb3; clear c8 hT2)
    | (go_at_call 10; refine (c10 _ hT3).mono ?_; rintro e w4 ⟨g1, rfl, hg1, hc1, hb4⟩; clear c10 hT3)
    | (go_at_call 11; refine (c11 _).mono ?_; rintro e w5 ⟨g2, cap2, rfl, hg2, hc2, hb5⟩; have hc1' : ∀ i, i < ds.length → w5.cell? ⟨g1, 0 + i, none⟩ = some (.int .i64 (ds.getD i 0)) := fun i hi => (hb5.cell (by exact hg1)).trans (hc1 i hi); clear c11 hc1)
    | (go_at_call 9; refine (c9 _ _ _ _ _ hc1' hc2).mono ?_; rintro e w' ⟨rfl, q, rfl⟩; clear c9))
  go_ret
  exact ⟨rfl, below_on (hb1.trans ((hb2.trans ((hb3.trans ((hb4.trans (hb5.mono hb4.size)).mono hb3.size)).mono hb2.size)).mono hb1.size)) _⟩

/-! ### THE ROW's STEP: WRITTEN OUT: LEAVE IT -/
set_option maxRecDepth 100000 in
theorem lifted (os : Os) (started : os.Started) (H : Type) (enc : TypeId × Value → H) :
    ReturnsInHanded {} Tryd.checked os 3 .any (fun w args => (Rows.numTextsSpec.pre enc Tryd.prog Tryd.f3 [] false w args ∧ laidMetH Tryd.prog laid5 w) ∧ sizedMet enc Tryd.prog Tryd.f3 (OpenSpec.ofChange Rows.numTextsSpec) false w args) (Rows.numTextsSpec.post enc Tryd.prog Tryd.f3 false true false false) := by
  refine returnsInHanded_of_change_and (C := Tryd.checked) (X := fun w _ => laidMetH Tryd.prog laid5 w) (fun _ _ _ hh h => h.of_heap hh) own started (by kernel_rfl) Tryd.func3
    (ChangeSpec.witness_shaped (enc := enc) (C := Tryd.checked) (os := os) (X := fun w _ => laidMetH Tryd.prog laid5 w) false (World.doorLaid Tryd.prog 400 os) #[.int .i64 0, .string ByteArray.empty] 8 rfl (World.shaped_of_RefB (by kernel_rfl) (by kernel_rfl)) (by kernel_rfl) (by kernel_rfl) (by kernel_rfl) (door_met os _)) ?_
  intro W base args ds gs before hval0 hW _ hsz0 hL _
  have hsz : (DataW.weightsEach Tryd.prog (Tryd.f3.params.toList ++ Rows.numTextsSpec.plain.varTypes Tryd.prog) (ds ++ gs)).all (· ≤ reachBytes) = true := hsz0
  obtain ⟨hT, hR⟩ := of_laid hL
  clear hsz0 hL
  have hval : ∀ (j : Nat) t v, Tryd.f3.params[j]? = some t → args[j]? = some v → Value.okWide Tryd.prog W .any base t v := hval0
  have hW' := hW
  obtain ⟨p, q, hA0, hV, rfl, hfz, hnd⟩ := hW
  have hA : DataW.TrodAll enc Tryd.prog W 0 (fun _ => true) true Tryd.f3.params.toList args.toList ds p := hA0
  rw [Tryd.params3] at hA hval hsz
  obtain ⟨v0, vs0, d0, ds0, p0, q0, hargs, rfl, rfl, h0, r0⟩ := trodAll_cons hA
  obtain ⟨v1, vs1, d1, ds1, p1, q1, rfl, rfl, rfl, h1, r1⟩ := trodAll_cons r0
  obtain ⟨rfl, rfl, rfl⟩ := trodAll_nil r1
  obtain rfl : args = #[v0, v1] := by cases args; simp_all
  obtain ⟨rfl, rfl⟩ := trodVars_none hV
  obtain ⟨a0, rfl, rfl, rfl, w0⟩ := open_int Tryd.underlying2 (hval 0 2 v0 rfl rfl) h0
  obtain ⟨a1, rfl, rfl, rfl, w1⟩ := open_string Tryd.underlying9 (hval 1 9 v1 rfl rfl) h1
  clear hA0 hval0
  simp only [List.append_nil] at hW'
  have hreach : a1.size ≤ 140737488351232 := by
    have h := sized_string hsz (j := 1) (t := 9) rfl rfl
    rw [Array.length_toList] at h
    exact h
  refine (walk a0 a1 (fits_wf w0) hreach W hT hR).mono fun e W' ⟨he, bel⟩ => ?_
  subst he
  exact ⟨_, rfl, _, _, _, [], [], [], hW', trodAll_mk1 (shut_bool Tryd.underlying4 _), (trodAll_cons_mk (shut_int Tryd.underlying2 w0) (trodAll_cons_mk (shut_string Tryd.underlying9 w1) trodAll_mk0)), rfl, bel.frame _, fun h => by cases h⟩

theorem over : Rows.numTextsRow.holds Tryd.pinned (OpenSpec.ofChange Rows.numTextsSpec) :=
  OpenClaim.holds_of_wide 3 Tryd.f3 rfl rfl rfl rfl rfl rfl rfl ⟨rfl, rfl, rfl, rfl, rfl⟩ rfl rfl rfl rfl rfl (by kernel_rfl) Tryd.func3 (by kernel_rfl)
    (of_decide_eq_true (by kernel_rfl)) (by unfold Func.isWrapper; first | (rw [if_pos (by decide +kernel)]; kernel_rfl) | (rw [if_neg (by decide +kernel)]; exact ⟨rfl, rfl⟩))
    (fun os started H enc _ => lifted os started H enc)

theorem card : Rows.NumTextsCardSaid :=
  Claim7.holds_tied_plain_at .later [] [.data, .data, .data, .sentinel, .sentinel] true (true, "994f73b8583948595d11d05fe3f4126bed7be93fe9f066f53b1e2c848d8c7850") true
    over (fun _ h => by cases h) (by kernel_rfl) (fun _ h => by cases h) numTexts_row_tie rfl ⟨rfl, rfl⟩ (by kernel_rfl) rfl
    (fun f fn hf hfn => by
      obtain rfl : f = 3 := Option.some.inj ((show Tryd.prog.funcNamed "ramble/ramblelaw01.NumTexts" = some 3 by kernel_rfl).symm.trans hf) |>.symm
      obtain rfl : fn = Tryd.f3 := (Option.some.inj (Tryd.func3.symm.trans hfn)).symm
      exact ⟨by kernel_rfl, fun j t ht => by
        rw [Tryd.params3] at ht
        have hm : t ∈ [2, 9] := by simpa using Array.mem_of_getElem? ht
        have hall : ([2, 9].all fun u => !Tryd.prog.wantsStandIn u) = true := by kernel_rfl
        exact (show Tryd.prog.wantsStandIn t = false by simpa using List.all_eq_true.1 hall t hm)⟩)
    (by kernel_rfl)
end Go.Proofs.YtphkleiamlllgaaDoor.numTexts
namespace Go.Proofs.YtphkleiamlllgaaDoor
/-- The given statement. -/
theorem numTexts_holds : Rows.NumTextsCardSaid := numTexts.card
#print axioms numTexts_holds
end Go.Proofs.YtphkleiamlllgaaDoor
