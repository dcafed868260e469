/-
  What Get of package sector does.
-/
import Derived.Test.YtfakgfmgofblgaaGreatDoorZWpRfRh
namespace Go.Proofs.YtfakgfmgofblgaaGreatDoor
open Go.RowKit Go.Maps
set_option linter.unusedVariables false      -- a walk need not use every condition
attribute [local go_sem ↓] Go.wp_at_zero Go.wp_at_succ

/-- What Get answers of what was read. -/
def getB (b : List UInt8) (e kind n : Int) : List UInt8 × Int := if e ≠ 0 then ([], e) else if oE b ≠ 0 then ([], 50) else if oK b ≠ kind then ([], 50) else if oN b ≠ n then ([], 50) else (oP b, 0)
theorem oE_or (b : List UInt8) : oE b = 0 ∨ oE b = 50 := by
  unfold oE
  split
  · exact .inl rfl
  · exact .inr rfl
def Dsk.get (s : Dsk) (a kind n : Int) : List UInt8 × Int := getB (s.read a).1 (s.read a).2 kind n
theorem len_read {w : World} {d pb mb : Nat} {s : Dsk} (h : At w d pb mb s) (a : Int) : (s.read a).1.length = 128 := by
  unfold Dsk.read
  by_cases hr : s.reach a = 0
  · rw [if_neg (fun e => e hr)]
    obtain ⟨-, k, rfl, hk⟩ := reach_zero hr
    rw [Int.toNat_natCast]
    cases hc : s.ca k with
    | some bs => obtain ⟨n, D, ho, ht⟩ := h.own; exact ht.len k bs hc
    | none =>
      simp only
      split
      · exact len_zer
      · exact h.sl k hk
  · rw [if_pos hr]
    exact len_zer
set_option maxHeartbeats 3200000 in
set_option maxRecDepth 100000 in
theorem getP (w : World) (dp : Option Addr) (a kind n : Int) (b : List UInt8) (e0 : Int) (hlb : b.length = 128) (hT : TabOk w)
    (cR : Calls Tryz.prog 152 #[.pointer dp, .int .i64 a] w fun e w' => e = .returned (.tuple #[.agg (encA b), .int .i64 e0]) ∧ Below w.heap.size w w') :
    Calls Tryz.prog 148 #[.pointer dp, .int .i64 a, .int .i64 kind, .int .i64 n] w fun e w' => ∃ pv, e = .returned (.tuple #[pv, .int .i64 (getB b e0 kind n).2]) ∧ Bs w' pv (getB b e0 kind n).1 ∧ Fresh w.heap.size pv ∧ Below w.heap.size w w' := by
  have HT := Lib.hid hT
  have HLB := Lib.hid hlb
  have hi1 : (Tryz.prog.info? 118).map (·.size) = some (enc b).length := by rw [size26, len_enc, hlb]
  clear hT hlb
  unfold getB
  have cO := fun W (h : Below w.heap.size w W) => open153 W b HLB.out (tab_on HT.out h)
  have hE := oE_or b
  generalize oE b = E at *
  generalize oK b = K at *
  generalize oN b = N at *
  generalize oP b = P at *
  unfold frm at cO
  by_cases he : e0 = 0
  · subst he
    rw [if_neg (by decide)]
    rcases hE with rfl | rfl
    · rw [if_neg (by decide)]
      by_cases hK : K = kind
      · subst hK
        rw [if_neg (by simp)]
        by_cases hN : N = n
        · subst hN
          rw [if_neg (by simp)]
          go_enter Tryz.func148, Tryz.ntmps148
          go_wp2_with (first
            | (go_at_call 152; refine cR.mono ?_; rintro e W1 ⟨rfl, hb1⟩)
            | (with_reducible show wpList _ _ _ (Oper.mk (some 10) (Op.alloc 118) _ _ _ _ :: _) _ _
               refine wpList_alloc26 rfl rfl ?_; intro W2 hW2 zW2 sW2)
            | (with_reducible show wpList _ _ _ (Oper.mk _ (Op.store 118 (Operand.tmp 10) _) _ _ _ _ :: _) _ _
               refine wpList_store26 rfl _ _ rfl W1.heap.size 0 b rfl rfl sW2.th HLB.out ?_; intro W3 g3 r3 t3 z3
               have HB3 : Hid (Below w.heap.size w W3) := (bel_then hb1 hW2).grown g3 (by have := hb1.size; have := hW2.size; omega) (fun k e => by injection e with e; have := hb1.size; omega)
               clear hb1 hW2 sW2 g3 t3 zW2 z3)
            | (with_reducible show wpList _ _ _ (Oper.mk _ (Op.load 118 (Operand.tmp 10)) _ _ _ _ :: _) _ _
               refine wpList_load_mid rfl 118 _ rfl _ _ rfl _ _ r3 Tryz.underlying118 rfl hi1 ?_)
            | (go_at_call 153; refine (cO _ HB3.out).mono ?_
               rintro e W4 ⟨pv, rfl, hB4, hfr4, hb4⟩
               have hB4' := hB4; obtain ⟨pp, pc, epv, -⟩ := hB4'
               subst epv
               have HBv := Lib.hid (hB4.on (bel1 W4 (.cells #[.int .i64 K, .int .i64 N, .slice pp P.length pc] 190)))
               have HF4 := Lib.hid (hfr4.mono HB3.out.size)
               have HB4 := Lib.hid (bel_then (bel_then HB3.out hb4) (bel1 W4 (.cells #[.int .i64 K, .int .i64 N, .slice pp P.length pc] 190)))
               clear hb4 hB4 hfr4))
          go_ret2
          exact ⟨_, rfl, HBv.out, HF4.out, HB4.out⟩
        · rw [if_pos hN]
          have hNb : (N != n) = true := by simpa using hN
          go_enter Tryz.func148, Tryz.ntmps148
          go_wp2_with (first
            | (go_at_call 152; refine cR.mono ?_; rintro e W1 ⟨rfl, hb1⟩)
            | (with_reducible show wpList _ _ _ (Oper.mk (some 10) (Op.alloc 118) _ _ _ _ :: _) _ _
               refine wpList_alloc26 rfl rfl ?_; intro W2 hW2 zW2 sW2)
            | (with_reducible show wpList _ _ _ (Oper.mk _ (Op.store 118 (Operand.tmp 10) _) _ _ _ _ :: _) _ _
               refine wpList_store26 rfl _ _ rfl W1.heap.size 0 b rfl rfl sW2.th HLB.out ?_; intro W3 g3 r3 t3 z3
               have HB3 : Hid (Below w.heap.size w W3) := (bel_then hb1 hW2).grown g3 (by have := hb1.size; have := hW2.size; omega) (fun k e => by injection e with e; have := hb1.size; omega)
               clear hb1 hW2 sW2 g3 t3 zW2 z3)
            | (with_reducible show wpList _ _ _ (Oper.mk _ (Op.load 118 (Operand.tmp 10)) _ _ _ _ :: _) _ _
               refine wpList_load_mid rfl 118 _ rfl _ _ rfl _ _ r3 Tryz.underlying118 rfl hi1 ?_)
            | (go_at_call 153; refine (cO _ HB3.out).mono ?_
               rintro e W4 ⟨pv, rfl, hB4, hfr4, hb4⟩
               have hB4' := hB4; obtain ⟨pp, pc, epv, -⟩ := hB4'
               subst epv
               have HBv := Lib.hid (hB4.on (bel1 W4 (.cells #[.int .i64 K, .int .i64 N, .slice pp P.length pc] 190)))
               have HF4 := Lib.hid (hfr4.mono HB3.out.size)
               have HB4 := Lib.hid (bel_then (bel_then HB3.out hb4) (bel1 W4 (.cells #[.int .i64 K, .int .i64 N, .slice pp P.length pc] 190)))
               clear hb4 hB4 hfr4))
          go_ret2
          exact ⟨_, rfl, bs_nil _, (fun _ _ _ _ e => (by cases e)), HB4.out⟩
      · rw [if_pos hK]
        have hKb : (K != kind) = true := by simpa using hK
        go_enter Tryz.func148, Tryz.ntmps148
        go_wp2_with (first
          | (go_at_call 152; refine cR.mono ?_; rintro e W1 ⟨rfl, hb1⟩)
          | (with_reducible show wpList _ _ _ (Oper.mk (some 10) (Op.alloc 118) _ _ _ _ :: _) _ _
             refine wpList_alloc26 rfl rfl ?_; intro W2 hW2 zW2 sW2)
          | (with_reducible show wpList _ _ _ (Oper.mk _ (Op.store 118 (Operand.tmp 10) _) _ _ _ _ :: _) _ _
             refine wpList_store26 rfl _ _ rfl W1.heap.size 0 b rfl rfl sW2.th HLB.out ?_; intro W3 g3 r3 t3 z3
             have HB3 : Hid (Below w.heap.size w W3) := (bel_then hb1 hW2).grown g3 (by have := hb1.size; have := hW2.size; omega) (fun k e => by injection e with e; have := hb1.size; omega)
             clear hb1 hW2 sW2 g3 t3 zW2 z3)
          | (with_reducible show wpList _ _ _ (Oper.mk _ (Op.load 118 (Operand.tmp 10)) _ _ _ _ :: _) _ _
             refine wpList_load_mid rfl 118 _ rfl _ _ rfl _ _ r3 Tryz.underlying118 rfl hi1 ?_)
          | (go_at_call 153; refine (cO _ HB3.out).mono ?_
             rintro e W4 ⟨pv, rfl, hB4, hfr4, hb4⟩
             have hB4' := hB4; obtain ⟨pp, pc, epv, -⟩ := hB4'
             subst epv
             have HBv := Lib.hid (hB4.on (bel1 W4 (.cells #[.int .i64 K, .int .i64 N, .slice pp P.length pc] 190)))
             have HF4 := Lib.hid (hfr4.mono HB3.out.size)
             have HB4 := Lib.hid (bel_then (bel_then HB3.out hb4) (bel1 W4 (.cells #[.int .i64 K, .int .i64 N, .slice pp P.length pc] 190)))
             clear hb4 hB4 hfr4))
        go_ret2
        exact ⟨_, rfl, bs_nil _, (fun _ _ _ _ e => (by cases e)), HB4.out⟩
    · rw [if_pos (by decide)]
      go_enter Tryz.func148, Tryz.ntmps148
      go_wp2_with (first
        | (go_at_call 152; refine cR.mono ?_; rintro e W1 ⟨rfl, hb1⟩)
        | (with_reducible show wpList _ _ _ (Oper.mk (some 10) (Op.alloc 118) _ _ _ _ :: _) _ _
           refine wpList_alloc26 rfl rfl ?_; intro W2 hW2 zW2 sW2)
        | (with_reducible show wpList _ _ _ (Oper.mk _ (Op.store 118 (Operand.tmp 10) _) _ _ _ _ :: _) _ _
           refine wpList_store26 rfl _ _ rfl W1.heap.size 0 b rfl rfl sW2.th HLB.out ?_; intro W3 g3 r3 t3 z3
           have HB3 : Hid (Below w.heap.size w W3) := (bel_then hb1 hW2).grown g3 (by have := hb1.size; have := hW2.size; omega) (fun k e => by injection e with e; have := hb1.size; omega)
           clear hb1 hW2 sW2 g3 t3 zW2 z3)
        | (with_reducible show wpList _ _ _ (Oper.mk _ (Op.load 118 (Operand.tmp 10)) _ _ _ _ :: _) _ _
           refine wpList_load_mid rfl 118 _ rfl _ _ rfl _ _ r3 Tryz.underlying118 rfl hi1 ?_)
        | (go_at_call 153; refine (cO _ HB3.out).mono ?_
           rintro e W4 ⟨pv, rfl, hB4, hfr4, hb4⟩
           have hB4' := hB4; obtain ⟨pp, pc, epv, -⟩ := hB4'
           subst epv
           have HBv := Lib.hid (hB4.on (bel1 W4 (.cells #[.int .i64 K, .int .i64 N, .slice pp P.length pc] 190)))
           have HF4 := Lib.hid (hfr4.mono HB3.out.size)
           have HB4 := Lib.hid (bel_then (bel_then HB3.out hb4) (bel1 W4 (.cells #[.int .i64 K, .int .i64 N, .slice pp P.length pc] 190)))
           clear hb4 hB4 hfr4))
      go_ret2
      exact ⟨_, rfl, bs_nil _, (fun _ _ _ _ e => (by cases e)), HB4.out⟩
  · rw [if_pos he]
    have heb : (e0 != 0) = true := by simpa using he
    go_enter Tryz.func148, Tryz.ntmps148
    go_wp2_with (first
      | (go_at_call 152; refine cR.mono ?_; rintro e W1 ⟨rfl, hb1⟩)
      | (with_reducible show wpList _ _ _ (Oper.mk (some 10) (Op.alloc 118) _ _ _ _ :: _) _ _
         refine wpList_alloc26 rfl rfl ?_; intro W2 hW2 zW2 sW2)
      | (with_reducible show wpList _ _ _ (Oper.mk _ (Op.store 118 (Operand.tmp 10) _) _ _ _ _ :: _) _ _
         refine wpList_store26 rfl _ _ rfl W1.heap.size 0 b rfl rfl sW2.th HLB.out ?_; intro W3 g3 r3 t3 z3
         have HB3 : Hid (Below w.heap.size w W3) := (bel_then hb1 hW2).grown g3 (by have := hb1.size; have := hW2.size; omega) (fun k e => by injection e with e; have := hb1.size; omega)
         clear hb1 hW2 sW2 g3 t3 zW2 z3)
      | (with_reducible show wpList _ _ _ (Oper.mk _ (Op.load 118 (Operand.tmp 10)) _ _ _ _ :: _) _ _
         refine wpList_load_mid rfl 118 _ rfl _ _ rfl _ _ r3 Tryz.underlying118 rfl hi1 ?_)
      | (go_at_call 153; refine (cO _ HB3.out).mono ?_
         rintro e W4 ⟨pv, rfl, hB4, hfr4, hb4⟩
         have hB4' := hB4; obtain ⟨pp, pc, epv, -⟩ := hB4'
         subst epv
         have HBv := Lib.hid (hB4.on (bel1 W4 (.cells #[.int .i64 K, .int .i64 N, .slice pp P.length pc] 190)))
         have HF4 := Lib.hid (hfr4.mono HB3.out.size)
         have HB4 := Lib.hid (bel_then (bel_then HB3.out hb4) (bel1 W4 (.cells #[.int .i64 K, .int .i64 N, .slice pp P.length pc] 190)))
         clear hb4 hB4 hfr4))
    go_ret2
    exact ⟨_, rfl, bs_nil _, (fun _ _ _ _ e => (by cases e)), HB3.out⟩
theorem get148 (w : World) (d pb mb : Nat) (s : Dsk) (h : At w d pb mb s) (a kind n : Int) (hT : TabOk w) :
    Calls Tryz.prog 148 #[.pointer (some ⟨d, 0, none⟩), .int .i64 a, .int .i64 kind, .int .i64 n] w fun e w' => ∃ pv, e = .returned (.tuple #[pv, .int .i64 (s.get a kind n).2]) ∧ Bs w' pv (s.get a kind n).1 ∧ Fresh w.heap.size pv ∧ Below w.heap.size w w' :=
  getP w (some ⟨d, 0, none⟩) a kind n _ _ (len_read h a) hT (read152 w d pb mb s h a)
end Go.Proofs.YtfakgfmgofblgaaGreatDoor
