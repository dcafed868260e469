/-
  For all u and v: the bytes of unlike numbers are unlike, and none is a beginning of the other's; those of one number are the same; no condition.
-/
import Derived.Test.YtphkleiamlllgabRows
import Derived.Test.YtphkleiamlllgabPut
import Derived.Shelf.Bytes.SlSmallAll
import Derived.Shelf.Bytes.SlEqualAll
import Derived.WalkKit
import Derived.ProofKit
import Derived.OpenShut
import Derived.ShutString
namespace Go.Proofs.Ytphkleiamlllgab.numApart
open Go.ChangeShapes Go.WideShapes Go.ChangeAt Go.RowKit Go.Shelf
open Go.ChangeMaps (open_string shut_string)
set_option linter.unusedVariables false      -- a walk need not use every 'w<i>' (that an integer argument fits its kind)

theorem own : ownKnob Try.prog.godebug = none := by kernel_rfl

def laysnb116_ren : Ren := ⟨fun | 116 => 6 | 115 => 5 | n => n, fun | 37 => 23 | 4 => 4 | 3 => 3 | 9 => 9 | 5 => 5 | n => n, fun | n => n⟩
theorem laysnb116 : Lays.nb116 Try.prog laysnb116_ren := {
  mixed := by kernel_rfl
  f115 := Try.func5.trans (congrArg some (by kernel_rfl))
  f116 := Try.func6.trans (congrArg some (by kernel_rfl))
  t3 := Try.underlying3
  a3 := Try.isAgg3
  z3 := Try.sizeOf3
  v3 := Try.zeroValue3
  t4 := Try.underlying4
  a4 := Try.isAgg4
  z4 := Try.sizeOf4
  v4 := Try.zeroValue4
  t9 := Try.underlying9
  a9 := Try.isAgg9
  z9 := Try.sizeOf9
  v9 := Try.zeroValue9
  t37 := Try.underlying23
  a37 := Try.isAgg23
  z37 := Try.sizeOf23
  v37 := Try.zeroValue23
  t5 := Try.underlying5
  a5 := Try.isAgg5
  z5 := Try.sizeOf5
  v5 := Try.zeroValue5 }
def laysnb115_ren : Ren := ⟨fun | 115 => 5 | n => n, fun | 37 => 23 | 4 => 4 | 9 => 9 | 5 => 5 | n => n, fun | n => n⟩
theorem laysnb115 : Lays.nb115 Try.prog laysnb115_ren := {
  mixed := by kernel_rfl
  f115 := Try.func5.trans (congrArg some (by kernel_rfl))
  t4 := Try.underlying4
  a4 := Try.isAgg4
  z4 := Try.sizeOf4
  v4 := Try.zeroValue4
  t9 := Try.underlying9
  a9 := Try.isAgg9
  z9 := Try.sizeOf9
  v9 := Try.zeroValue9
  t37 := Try.underlying23
  a37 := Try.isAgg23
  z37 := Try.sizeOf23
  v37 := Try.zeroValue23
  t5 := Try.underlying5
  a5 := Try.isAgg5
  z5 := Try.sizeOf5
  v5 := Try.zeroValue5 }

theorem equal_any (g1 g2 c d : Nat) (xs ys : List Int) (w : World) (h1 : ∀ i, i < xs.length → w.cell? ⟨g1, 0 + i, none⟩ = some (.int .u8 (xs.getD i 0))) (h2 : ∀ i, i < ys.length → w.cell? ⟨g2, 0 + i, none⟩ = some (.int .u8 (ys.getD i 0))) :
    Calls Try.prog 5 #[.slice (some ⟨g1, 0, none⟩) xs.length c, .slice (some ⟨g2, 0, none⟩) ys.length d] w fun e w' => e = .returned (.bool (Lib.bytesOf xs == Lib.bytesOf ys)) ∧ w' = w :=
  Any.bytes_Equal_all laysnb115 _ _ _ c _ d xs ys w rfl rfl (fun _ => ⟨g1, 0, rfl, h1⟩) (fun _ => ⟨g2, 0, rfl, h2⟩)
theorem prefix_any (g1 g2 c d : Nat) (xs ys : List Int) (w : World) (hc : xs.length ≤ c) (h1 : ∀ i, i < xs.length → w.cell? ⟨g1, 0 + i, none⟩ = some (.int .u8 (xs.getD i 0))) (h2 : ∀ i, i < ys.length → w.cell? ⟨g2, 0 + i, none⟩ = some (.int .u8 (ys.getD i 0))) :
    Calls Try.prog 6 #[.slice (some ⟨g1, 0, none⟩) xs.length c, .slice (some ⟨g2, 0, none⟩) ys.length d] w fun e w' => e = .returned (.bool ((Lib.bytesOf ys).isPrefixOf (Lib.bytesOf xs))) ∧ w' = w :=
  Any.bytes_HasPrefix_all laysnb116 _ _ _ c _ d xs ys w rfl rfl hc (fun _ => ⟨g1, 0, rfl, h1⟩) (fun _ => ⟨g2, 0, rfl, h2⟩)

set_option maxHeartbeats 1000000 in
theorem walk_same (u : Nat) (hu : u < 18446744073709551616) (w : World) :
    Calls Try.prog 3 #[.int .u64 u, .int .u64 u] w fun e w' => e = .returned (.bool true) ∧ Below w.heap.size w w' := by
  have hp := enc_pos u
  have hl := enc_le u
  obtain ⟨l, hL⟩ : ∃ l, enc u = l := ⟨_, rfl⟩
  have c := put_told u hu
  rw [hL] at c hp hl
  have hpz : ((l.length : Int) == 0) = false := by simp; intro h; rw [h] at hp; simp at hp
  clear hL
  go_enter Try.func3, Try.ntmps3
  go_wp2_with (first
    | (go_at_call 4; refine (c w).mono ?_; rintro e w1 ⟨g1, c1, rfl, hn1, hg1, hc1, hb1⟩)
    | (go_at_call 4; refine (c w1).mono ?_; rintro e w2 ⟨g2, c2, rfl, hn2, hg2, hc2, hb2⟩; have hc1' : ∀ i, i < l.length → w2.cell? ⟨g1, 0 + i, none⟩ = some (.int .u8 (l.getD i 0)) := fun i hi => (hb2.cell (by exact hg1)).trans (hc1 i hi))
    | (go_at_call 5; refine (equal_any g1 g2 c1 c2 l l w2 hc1' hc2).mono ?_; rintro e w' ⟨rfl, rfl⟩))
  go_ret
  exact ⟨rfl, hb1.trans (hb2.mono hb1.size)⟩

set_option maxHeartbeats 1000000 in
theorem walk_other (u v : Nat) (hu : u < 18446744073709551616) (hv : v < 18446744073709551616) (hne : u ≠ v) (w : World) :
    Calls Try.prog 3 #[.int .u64 u, .int .u64 v] w fun e w' => e = .returned (.bool true) ∧ Below w.heap.size w w' := by
  have hp := enc_pos u
  have hp' := enc_pos v
  have hl := enc_le u
  have hl' := enc_le v
  have k1 := enc_prefix u v hu hv hne
  have k2 := enc_prefix v u hv hu (fun h => hne h.symm)
  have c := put_told u hu
  have c' := put_told v hv
  obtain ⟨l, hL⟩ : ∃ l, enc u = l := ⟨_, rfl⟩
  obtain ⟨m, hM⟩ : ∃ m, enc v = m := ⟨_, rfl⟩
  rw [hL] at c hp hl k1 k2
  rw [hM] at c' hp' hl' k1 k2
  have hpz : ((l.length : Int) == 0) = false := by simp; intro h; rw [h] at hp; simp at hp
  have hpz' : ((m.length : Int) == 0) = false := by simp; intro h; rw [h] at hp'; simp at hp'
  have hz : ((u : Int) == (v : Int)) = false := by simp; omega
  have hz2 : ((u : Int) != (v : Int)) = true := by simp; omega
  clear hL hM
  go_enter Try.func3, Try.ntmps3
  go_wp2_with (first
    | (go_at_call 4; refine (c w).mono ?_; rintro e w1 ⟨g1, c1, rfl, hn1, hg1, hc1, hb1⟩; clear c)
    | (go_at_call 4; refine (c' w1).mono ?_; rintro e w2 ⟨g2, c2, rfl, hn2, hg2, hc2, hb2⟩; have hc1' : ∀ i, i < l.length → w2.cell? ⟨g1, 0 + i, none⟩ = some (.int .u8 (l.getD i 0)) := fun i hi => (hb2.cell (by exact hg1)).trans (hc1 i hi); clear c')
    | (go_at_call 6; refine (prefix_any _ _ _ _ _ _ _ (by assumption) (by assumption) (by assumption)).mono ?_; rintro e w' ⟨rfl, rfl⟩))
  go_ret
  exact ⟨rfl, hb1.trans (hb2.mono hb1.size)⟩

theorem nat_wf {a : Int} (h : (Lit.int .u64 a).wf = true) : ∃ n : Nat, a = n ∧ n < 18446744073709551616 := by
  have hh : 0 ≤ a ∧ a ≤ 18446744073709551615 := by simpa [Lit.wf, IntKind.min, IntKind.max, IntKind.signed, IntKind.bits] using h
  exact ⟨a.toNat, by omega, by omega⟩

theorem walk (a0 : Int) (a1 : Int) (w0 : (Lit.int .u64 a0).wf = true) (w1 : (Lit.int .u64 a1).wf = true) (w : World) :
    Calls Try.prog 3 #[.int .u64 a0, .int .u64 a1] w fun e w' => e = .returned (.bool true) ∧ Below w.heap.size w w' := by
  obtain ⟨u, rfl, hu⟩ := nat_wf w0
  obtain ⟨v, rfl, hv⟩ := nat_wf w1
  by_cases h : u = v
  · subst h; exact walk_same u hu w
  · exact walk_other u v hu hv h w

/-! ### THE ROW's STEP: WRITTEN OUT: LEAVE IT -/
set_option maxRecDepth 100000 in
theorem lifted (os : Os) (started : os.Started) (H : Type) (enc : TypeId × Value → H) :
    ReturnsInHanded {} Try.checked os 3 .any (Rows.numApartSpec.pre6 enc Try.prog Try.f3 Rows.numApartRow.domain false) (Rows.numApartSpec.post enc Try.prog Try.f3 false true false false) := by
  refine returnsInHanded_of_change (C := Try.checked) own started (by kernel_rfl) Try.func3
    (ChangeSpec.witness6 (enc := enc) (C := Try.checked) false ⟨#[], #[.int .u64 0, .int .u64 0], []⟩ 8 (by kernel_rfl) (by kernel_rfl) (by kernel_rfl) (by kernel_rfl)) ?_
  intro W base args ds gs before hval0 hW hcnd _
  have hval : ∀ (j : Nat) t v, Try.f3.params[j]? = some t → args[j]? = some v → Value.okWide Try.prog W .any base t v := hval0
  have hW' := hW
  obtain ⟨p, q, hA0, hV, rfl, hfz, hnd⟩ := hW
  have hA : DataW.TrodAll enc Try.prog W 0 (fun _ => true) true Try.f3.params.toList args.toList ds p := hA0
  rw [Try.params3] at hA hval
  obtain ⟨v0, vs0, d0, ds0, p0, q0, hargs, rfl, rfl, h0, r0⟩ := trodAll_cons hA
  obtain ⟨v1, vs1, d1, ds1, p1, q1, rfl, rfl, rfl, h1, r1⟩ := trodAll_cons r0
  obtain ⟨rfl, rfl, rfl⟩ := trodAll_nil r1
  obtain rfl : args = #[v0, v1] := by cases args; simp_all
  obtain ⟨rfl, rfl⟩ := trodVars_none hV
  obtain ⟨a0, rfl, rfl, rfl, w0⟩ := open_int Try.underlying22 (hval 0 22 v0 rfl rfl) h0
  obtain ⟨a1, rfl, rfl, rfl, w1⟩ := open_int Try.underlying22 (hval 1 22 v1 rfl rfl) h1
  clear hA0 hval0
  simp only [List.append_nil] at hW'
  refine (walk a0 a1 w0 w1 W).mono fun e W' ⟨he, bel⟩ => ?_
  subst he
  exact ⟨_, rfl, _, _, _, [], [], [], hW', trodAll_mk1 (shut_bool Try.underlying4 _), (trodAll_cons_mk (shut_int Try.underlying22 w0) (trodAll_cons_mk (shut_int Try.underlying22 w1) trodAll_mk0)), rfl, bel.frame _, fun h => by cases h⟩

theorem over : Rows.numApartRow.holds Try.pinned (OpenSpec.ofChange Rows.numApartSpec) :=
  OpenClaim.holds_of_wide 3 Try.f3 rfl rfl rfl rfl rfl rfl rfl ⟨rfl, rfl, rfl, rfl, rfl⟩ rfl rfl rfl rfl rfl (by kernel_rfl) Try.func3 (by kernel_rfl)
    (of_decide_eq_true (by kernel_rfl)) (by unfold Func.isWrapper; first | (rw [if_pos (by decide +kernel)]; kernel_rfl) | (rw [if_neg (by decide +kernel)]; exact ⟨rfl, rfl⟩))
    (fun os started H enc _ => lifted os started H enc)

end Go.Proofs.Ytphkleiamlllgab.numApart
namespace Go.Proofs.Ytphkleiamlllgab
/-- The given statement. -/
theorem numApart_holds : Rows.NumApartSaid := numApart.over
#print axioms numApart_holds
end Go.Proofs.Ytphkleiamlllgab
