/-
  What Put and Get of package sector do, and the document's; Put where there is no disk.
-/
import Derived.Test.YtafnelpcnfmhfaaDoorRww
import Derived.Test.YtafnelpcnfmhfaaDoorRopen
import Derived.Test.YtafnelpcnfmhfaaDoorSame
namespace Go.Proofs.YtafnelpcnfmhfaaDoor
open Go.RowKit Go.Maps
set_option linter.unusedVariables false      -- a walk need not use every condition
attribute [local go_sem ↓] Go.wp_at_zero Go.wp_at_succ

/-! ### The document's Write, whatever the disk -/
set_option maxHeartbeats 800000 in
theorem rwrite38 (w : World) (X : Nat → Prop) (hX : ∀ k, X k → k < w.heap.size) (r sb sc tb tc : Nat) (cv : Value) (s : Dsk) (h : RAt w X r sb sc tb tc cv s) (n : Int) (bs : List UInt8) (hl : bs.length = 128) :
    Calls Tryd.prog 38 #[.pointer (some ⟨r, 0, none⟩), .int .i64 n, .agg (encA bs)] w fun e w' => e = .returned (.int .i64 (s.write n bs).1) ∧ (∃ sb' sc' tb' tc' cv', RAt w' X r sb' sc' tb' tc' cv' (s.write n bs).2) ∧ KeptR r w w' := by
  unfold Dsk.write
  by_cases hr : s.reach n = 0
  · rw [if_neg (fun e => e hr)]
    by_cases hc : s.call.1 = 0
    · rw [if_neg (fun e => e hc)]
      obtain ⟨hd, k, rfl, hk⟩ := reach_zero hr
      exact rwrite_ok w X hX r sb sc tb tc cv s h k hk hd hc bs hl
    · rw [if_pos hc]
      obtain ⟨hd, -⟩ := reach_zero hr
      have h0 := h.on (bel1 w (.cells (encA bs) 26))
      have cM := may49 _ X r sb sc tb tc cv s h0 n
      rw [hr] at cM
      have cC := call41 _ X r sb sc tb tc cv s h0 hd
      rw [show (decide (s.call.1 = 0)) = false by simp [hc]] at cC
      rw [call_one s hc]
      generalize s.call.2 = q at *
      clear h h0 hX hd hc hr
      go_enter Tryd.func38, Tryd.ntmps38
      go_wp2_with (first
        | (go_at_call 49; refine cM.mono ?_; rintro e w' ⟨rfl, rfl⟩)
        | (go_at_call 41; refine cC.mono ?_; rintro e w1 ⟨rfl, hA1, hK1⟩))
      go_ret
      exact ⟨rfl, ⟨_, _, _, _, _, hA1⟩, (KeptR.bel (bel1 w _)).trans hK1⟩
  · rw [if_pos hr]
    have h0 := h.on (bel1 w (.cells (encA bs) 26))
    have cM := may49 _ X r sb sc tb tc cv s h0 n
    have H0 := Lib.hid h0
    clear h h0 hX
    generalize s.reach n = x at *
    go_enter Tryd.func38, Tryd.ntmps38
    go_wp2_with (first
      | (go_at_call 49; refine cM.mono ?_; rintro e w' ⟨rfl, rfl⟩))
    go_ret
    exact ⟨rfl, ⟨_, _, _, _, _, H0.out⟩, KeptR.bel (bel1 w _)⟩
/-! ### No disk -/
theorem nil43 (w : World) : Calls Tryd.prog 43 #[.pointer none] w fun e w' => e = .returned (.bool false) ∧ w' = w := by
  go_enter Tryd.func43, Tryd.ntmps43
  go_wp2
  go_ret
  exact ⟨rfl, rfl⟩
theorem nil39 (w : World) : Calls Tryd.prog 39 #[.pointer none] w fun e w' => e = .returned (.int .i64 2) ∧ w' = w := by
  have c := nil43 w
  go_enter Tryd.func39, Tryd.ntmps39
  go_wp2_with (first | (go_at_call 43; refine c.mono ?_; rintro e w' ⟨rfl, rfl⟩))
  go_ret
  exact ⟨rfl, rfl⟩
theorem nil48 (w : World) (n : Int) : Calls Tryd.prog 48 #[.pointer none, .int .i64 n] w fun e w' => e = .returned (.int .i64 2) ∧ w' = w := by
  have c := nil39 w
  go_enter Tryd.func48, Tryd.ntmps48
  go_wp2_with (first | (go_at_call 39; refine c.mono ?_; rintro e w' ⟨rfl, rfl⟩))
  go_ret
  exact ⟨rfl, rfl⟩
theorem nil32 (w : World) (n : Int) (bs : List UInt8) : Calls Tryd.prog 32 #[.pointer none, .int .i64 n, .agg (encA bs)] w fun e w' => e = .returned (.int .i64 2) ∧ Below w.heap.size w w' := by
  have cR := nil48 (w.alloc (.cells (encA bs) 26)) n
  go_enter Tryd.func32, Tryd.ntmps32
  go_wp2_with (first
    | (go_at_call 48; refine cR.mono ?_; rintro e w' ⟨rfl, rfl⟩))
  go_ret
  exact ⟨rfl, bel1 w _⟩
/-! ### Put -/
def Dsk.put (s : Dsk) (a k n : Int) (pay : List UInt8) : Int × Dsk := if okF k n pay then s.write a (sealB k n pay) else (1, s)
theorem putP {w : World} {f : Nat} (hf : f = 18 ∨ f = 19) (dp : Option Addr) (a k n : Int) (pv : Value) (pay : List UInt8) (hp : Bs w pv pay) (hT : TabOk w) (hn : n ≤ 9223372036854775807) (R : Int → World → Prop)
    (hno : okF k n pay = false → ∀ w', Below w.heap.size w w' → R 1 w')
    (hyes : okF k n pay = true → ∀ w1, Below w.heap.size w w1 → Calls Tryd.prog (if f = 18 then 32 else 38) #[.pointer dp, .int .i64 a, .agg (encA (sealB k n pay))] w1 fun e w' => ∃ x, e = .returned (.int .i64 x) ∧ R x w') :
    Calls Tryd.prog f #[.pointer dp, .int .i64 a, frm k n pv] w fun e w' => ∃ x, e = .returned (.int .i64 x) ∧ R x w' := by
  have HP := Lib.hid hp
  have HT := Lib.hid hT
  obtain ⟨p, cap, rfl, -⟩ := hp
  have cS := seal8 (w.alloc (.cells #[.int .i64 k, .int .i64 n, .slice p pay.length cap] 24)) k n _ pay (HP.out.on (bel1 _ _)) (tab_on HT.out (bel1 _ _)) hn
  have cR := rseal9 (w.alloc (.cells #[.int .i64 k, .int .i64 n, .slice p pay.length cap] 24)) k n _ pay (HP.out.on (bel1 _ _)) hn
  have HE : Hid (sealE k n pay = if okF k n pay then 0 else 1) := rfl
  have HLZ := Lib.hid (len_sealB k n pay)
  have hi1 : (Tryd.prog.info? 26).map (·.size) = some (enc (sealB k n pay)).length := by rw [size26, len_enc, HLZ.out]
  generalize sealE k n pay = E at *
  generalize sealB k n pay = Z at *
  clear hT
  unfold frm at cS cR ⊢
  cases ho : okF k n pay with
  | false =>
    have hE1 : E = 1 := by rw [HE.out, ho]; rfl
    subst hE1
    have HNo := Lib.hid (hno ho)
    clear HE ho hno hyes
    rcases hf with rfl | rfl
    · go_enter Tryd.func18, Tryd.ntmps18
      go_wp2_with (first
        | (go_at_call 8; refine cS.mono ?_; rintro e W1 ⟨rfl, hb1⟩)
        | (with_reducible show wpList _ _ _ (Oper.mk (some 7) (Op.alloc 26) _ _ _ _ :: _) _ _
           refine wpList_alloc26 rfl rfl ?_; intro W2 hW2 zW2 sW2)
        | (with_reducible show wpList _ _ _ (Oper.mk _ (Op.store 26 (Operand.tmp 7) _) _ _ _ _ :: _) _ _
           refine wpList_store26 rfl _ _ rfl W1.heap.size 0 Z rfl rfl sW2.th HLZ.out ?_; intro W3 g3 r3 t3 z3))
      go_ret
      exact ⟨1, rfl, HNo.out _ ((bel_then (bel_then (bel1 w _) hb1) hW2).grown g3 (by have := hb1.size; simp at this; have := hW2.size; omega) (fun k e => by injection e with e; have := hb1.size; simp at this; omega))⟩
    · go_enter Tryd.func19, Tryd.ntmps19
      go_wp2_with (first
        | (go_at_call 9; refine cR.mono ?_; rintro e W1 ⟨rfl, hb1⟩)
        | (with_reducible show wpList _ _ _ (Oper.mk (some 7) (Op.alloc 26) _ _ _ _ :: _) _ _
           refine wpList_alloc26 rfl rfl ?_; intro W2 hW2 zW2 sW2)
        | (with_reducible show wpList _ _ _ (Oper.mk _ (Op.store 26 (Operand.tmp 7) _) _ _ _ _ :: _) _ _
           refine wpList_store26 rfl _ _ rfl W1.heap.size 0 Z rfl rfl sW2.th HLZ.out ?_; intro W3 g3 r3 t3 z3))
      go_ret
      exact ⟨1, rfl, HNo.out _ ((bel_then (bel_then (bel1 w _) hb1) hW2).grown g3 (by have := hb1.size; simp at this; have := hW2.size; omega) (fun k e => by injection e with e; have := hb1.size; simp at this; omega))⟩
  | true =>
    have hE1 : E = 0 := by rw [HE.out, ho]; rfl
    subst hE1
    have HYes := Lib.hid (hyes ho)
    clear HE ho hno hyes
    rcases hf with rfl | rfl
    · go_enter Tryd.func18, Tryd.ntmps18
      go_wp2_with (first
        | (go_at_call 8; refine cS.mono ?_; rintro e W1 ⟨rfl, hb1⟩)
        | (with_reducible show wpList _ _ _ (Oper.mk (some 7) (Op.alloc 26) _ _ _ _ :: _) _ _
           refine wpList_alloc26 rfl rfl ?_; intro W2 hW2 zW2 sW2)
        | (with_reducible show wpList _ _ _ (Oper.mk _ (Op.store 26 (Operand.tmp 7) _) _ _ _ _ :: _) _ _
           refine wpList_store26 rfl _ _ rfl W1.heap.size 0 Z rfl rfl sW2.th HLZ.out ?_; intro W3 g3 r3 t3 z3
           have HB3 : Hid (Below w.heap.size w W3) := (bel_then (bel_then (bel1 w _) hb1) hW2).grown g3 (by have := hb1.size; simp at this; have := hW2.size; omega) (fun k e => by injection e with e; have := hb1.size; simp at this; omega)
           clear hb1 hW2 sW2 g3 t3)
        | (with_reducible show wpList _ _ _ (Oper.mk _ (Op.load 26 (Operand.tmp 7)) _ _ _ _ :: _) _ _
           refine wpList_load_mid rfl 26 _ rfl _ _ rfl _ _ r3 Tryd.underlying26 rfl hi1 ?_)
        | (go_at_call 32; refine (HYes.out _ HB3.out).mono ?_; rintro e W4 ⟨x, rfl, hR⟩))
      go_ret
      exact ⟨x, rfl, hR⟩
    · go_enter Tryd.func19, Tryd.ntmps19
      go_wp2_with (first
        | (go_at_call 9; refine cR.mono ?_; rintro e W1 ⟨rfl, hb1⟩)
        | (with_reducible show wpList _ _ _ (Oper.mk (some 7) (Op.alloc 26) _ _ _ _ :: _) _ _
           refine wpList_alloc26 rfl rfl ?_; intro W2 hW2 zW2 sW2)
        | (with_reducible show wpList _ _ _ (Oper.mk _ (Op.store 26 (Operand.tmp 7) _) _ _ _ _ :: _) _ _
           refine wpList_store26 rfl _ _ rfl W1.heap.size 0 Z rfl rfl sW2.th HLZ.out ?_; intro W3 g3 r3 t3 z3
           have HB3 : Hid (Below w.heap.size w W3) := (bel_then (bel_then (bel1 w _) hb1) hW2).grown g3 (by have := hb1.size; simp at this; have := hW2.size; omega) (fun k e => by injection e with e; have := hb1.size; simp at this; omega)
           clear hb1 hW2 sW2 g3 t3)
        | (with_reducible show wpList _ _ _ (Oper.mk _ (Op.load 26 (Operand.tmp 7)) _ _ _ _ :: _) _ _
           refine wpList_load_mid rfl 26 _ rfl _ _ rfl _ _ r3 Tryd.underlying26 rfl hi1 ?_)
        | (go_at_call 38; refine (HYes.out _ HB3.out).mono ?_; rintro e W4 ⟨x, rfl, hR⟩))
      go_ret
      exact ⟨x, rfl, hR⟩
theorem put18 (w : World) (d pb mb : Nat) (s : Dsk) (h : At w d pb mb s) (a k n : Int) (pv : Value) (pay : List UInt8) (hp : Bs w pv pay) (hT : TabOk w) (hn : n ≤ 9223372036854775807) :
    Calls Tryd.prog 18 #[.pointer (some ⟨d, 0, none⟩), .int .i64 a, frm k n pv] w fun e w' => e = .returned (.int .i64 (s.put a k n pay).1) ∧ At w' d pb mb (s.put a k n pay).2 ∧ Kept d pb mb w w' := by
  refine (putP (.inl rfl) (some ⟨d, 0, none⟩) a k n pv pay hp hT hn (fun x w' => x = (s.put a k n pay).1 ∧ At w' d pb mb (s.put a k n pay).2 ∧ Kept d pb mb w w') (fun ho w' hb => ?_) (fun ho w1 hb => ?_)).mono fun e w' ⟨x, he, hx, h1, h2⟩ => ⟨by rw [he, hx], h1, h2⟩
  · unfold Dsk.put
    rw [ho, if_neg (by decide)]
    exact ⟨rfl, h.on hb, Kept.bel hb⟩
  · unfold Dsk.put
    rw [ho, if_pos rfl]
    exact (write32 w1 d pb mb s (h.on hb) a _ (len_sealB k n pay)).mono fun e w' ⟨he, h1, h2⟩ => ⟨_, he, rfl, h1, (Kept.bel hb).trans h2⟩
theorem put19 (w : World) (X : Nat → Prop) (hX : ∀ k, X k → k < w.heap.size) (r sb sc tb tc : Nat) (cv : Value) (s : Dsk) (h : RAt w X r sb sc tb tc cv s) (a k n : Int) (pv : Value) (pay : List UInt8) (hp : Bs w pv pay) (hT : TabOk w) (hn : n ≤ 9223372036854775807) :
    Calls Tryd.prog 19 #[.pointer (some ⟨r, 0, none⟩), .int .i64 a, frm k n pv] w fun e w' => e = .returned (.int .i64 (s.put a k n pay).1) ∧ (∃ sb' sc' tb' tc' cv', RAt w' X r sb' sc' tb' tc' cv' (s.put a k n pay).2) ∧ KeptR r w w' := by
  refine (putP (.inr rfl) (some ⟨r, 0, none⟩) a k n pv pay hp hT hn (fun x w' => x = (s.put a k n pay).1 ∧ (∃ sb' sc' tb' tc' cv', RAt w' X r sb' sc' tb' tc' cv' (s.put a k n pay).2) ∧ KeptR r w w') (fun ho w' hb => ?_) (fun ho w1 hb => ?_)).mono fun e w' ⟨x, he, hx, h1, h2⟩ => ⟨by rw [he, hx], h1, h2⟩
  · unfold Dsk.put
    rw [ho, if_neg (by decide)]
    exact ⟨rfl, ⟨_, _, _, _, _, h.on hb⟩, KeptR.bel hb⟩
  · unfold Dsk.put
    rw [ho, if_pos rfl]
    exact (rwrite38 w1 X (fun k hk => Nat.lt_of_lt_of_le (hX k hk) hb.size) r sb sc tb tc cv s (h.on hb) a _ (len_sealB k n pay)).mono fun e w' ⟨he, h1, h2⟩ => ⟨_, he, rfl, h1, (KeptR.bel hb).trans h2⟩
theorem putNil (w : World) (hT : TabOk w) : Calls Tryd.prog 18 #[.pointer none, .int .i64 0, frm 1 0 (.slice none 0 0)] w fun e w' => e = .returned (.int .i64 2) ∧ Below w.heap.size w w' := by
  refine (putP (.inl rfl) none 0 1 0 (.slice none 0 0) [] (bs_nil w) hT (by decide) (fun x w' => x = 2 ∧ Below w.heap.size w w') (fun ho w' hb => ?_) (fun ho w1 hb => ?_)).mono fun e w' ⟨x, he, hx, h1⟩ => ⟨by rw [he, hx], h1⟩
  · exact absurd ho (by decide)
  · exact (nil32 w1 0 _).mono fun e w' ⟨he, h1⟩ => ⟨_, he, rfl, bel_then hb h1⟩
end Go.Proofs.YtafnelpcnfmhfaaDoor
