/-
  Bytes of one's own; what bytes.Clone does.
-/
import Derived.Test.YtafnelpcnfmhfaaDoorPutn
namespace Go.Proofs.YtafnelpcnfmhfaaDoor
open Go.RowKit
set_option linter.unusedVariables false      -- a walk need not use every condition

/-- Bytes of one's own. -/
def Bts (w : World) (base : Nat) (v : Value) (t : List UInt8) : Prop := w.ownsRow base 5 1 v t.length (enc t)
theorem Bts.bs {w : World} {base : Nat} {v : Value} {t : List UInt8} (h : Bts w base v t) : Bs w v t := by
  unfold Bts at h
  rcases h.2 with ⟨rfl, h0⟩ | ⟨g, cap, cur, rfl, hbg, hg, hnc, hcm, hcs, htake⟩
  · have : t = [] := List.eq_nil_of_length_eq_zero h0
    subst this
    exact bs_nil w
  · refine ⟨_, cap, rfl, hnc, hcm, fun e => (by cases e), .inr ⟨g, 0, rfl, fun j u hu => ?_⟩⟩
    have := h.cells (g := g) rfl j u hu
    rw [Go.WideShapes.add_plain] at this
    exact this
theorem Bts.on {w w' : World} {base : Nat} {v : Value} {t : List UInt8} (h : Bts w base v t) (hb : Below w.heap.size w w') : Bts w' base v t := by
  unfold Bts at *
  refine World.ownsRow.kept h (gr_bel hb none) ?_
  cases hv : v.ownBlock with
  | none => exact .inl rfl
  | some g => exact .inr (by simp)
set_option maxHeartbeats 2000000 in
set_option maxRecDepth 100000 in
theorem clone37 (w : World) (v : Value) (t : List UInt8) (hv : Bs w v t) (hbig : t.length ≤ 140737488355328) :
    Calls Tryd.prog 37 #[v] w fun e w' => ∃ v', e = .returned v' ∧ Bts w' w.heap.size v' t ∧ Below w.heap.size w w' := by
  obtain ⟨p, cap, rfl, h1, h2, h3, h4⟩ := hv
  have q22 : ∀ (w : World) (a : Option Addr) (n c n' c' : Nat), (binOp .eql 22 (.slice a n c) (.slice none n' c')).run Tryd.prog w = .ok (.bool a.isNone) w := fun w a n c n' c' => Lib.run_eql_slice_nil w _ _ a n c n' c' Tryd.underlying22
  obtain ⟨i0, hi, hz0, hz1, hz2⟩ := info_parts info5
  cases p with
  | none =>
    have ht : t = [] := List.eq_nil_of_length_eq_zero (by have := h3 rfl; omega)
    subst ht
    go_enter Tryd.func37, Tryd.ntmps37
    go_wp2
    go_ret
    exact ⟨_, rfl, World.ownsRow_nil _ _ _ _, Below.refl _ _⟩
  | some a =>
    have hnews : ∀ j u, (enc t)[j]? = some u → w.cell? (a.add j) = some u := by
      intro j u hu
      rcases h4 with rfl | ⟨g, o, e, hc⟩
      · simp [enc] at hu
      · injection e with e
        subst e
        rw [Go.WideShapes.add_plain]
        exact hc j u hu
    have HN : Hid (∀ j u, (enc t)[j]? = some u → w.cell? (a.add j) = some u) := hnews
    clear hnews h4
    go_enter Tryd.func37, Tryd.ntmps37
    go_wp2_with (at_builtin; refine wpList_append_own _ rfl _ _ 22 rfl w.heap.size 5 i0 (.int .u8 0) 1 1 Tryd.underlying22 hi hz0 hz1 hz2 rfl (by decide) _ _ _ rfl (World.ownsRow_made w #[] 0 (Nat.le_refl _) (Nat.zero_le _) rfl) a t.length cap (enc t) rfl ?qc1 ?qc2 ?qc3 ?qc4 ?qc5 ?qc6 ?_)
    case qc1 => rw [len_enc]; omega
    case qc2 => exact fun j u hu => Lib.cell?_alloc_some _ (HN.out j u hu)
    case qc3 => exact one_enc t
    case qc4 => unfold maxLen; omega
    case qc5 => omega
    case qc6 => simp
    intro v' w1 hown hgrow hnil
    go_wp2
    go_ret
    refine ⟨v', rfl, ?_, ((Below.refl _ w).alloc (Nat.le_refl _) _).grown hgrow (by simp) (by intro k hk; simp [Value.ownBlock] at hk; omega)⟩
    unfold Bts
    simpa using hown
end Go.Proofs.YtafnelpcnfmhfaaDoor
