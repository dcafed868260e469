/-
  What Write of the document's disk does: its walk. Made by tools/gen/rww.py.
-/
import Derived.Test.YtafnelpcnfmhfaaDoorRwr
import Derived.Test.YtafnelpcnfmhfaaDoorBs
namespace Go.Proofs.YtafnelpcnfmhfaaDoor
open Go.RowKit Go.Maps
set_option linter.unusedVariables false      -- a walk need not use every condition
attribute [local go_sem ↓] Go.wp_at_zero Go.wp_at_succ

theorem filt2 {p q : Nat → Bool} (h : ∀ x, p x = true → q x = true → False) : ∀ l : List Nat, (l.filter p).length + (l.filter q).length ≤ l.length
  | [] => by simp
  | x :: l => by
    have ih := filt2 h l
    have hx := h x
    cases hp : p x <;> cases hq : q x
    · simp [hp, hq]; omega
    · simp [hp, hq]; omega
    · simp [hp, hq]; omega
    · exact absurd (hx hp hq) id
theorem insL_len (L : List Nat) (k i : Nat) : (insL L k i).length ≤ i + 1 := by
  have h := filt2 (p := fun j => decide (j < k)) (q := fun j => decide (k < j)) (fun x h1 h2 => by simp at h1 h2; omega) (L.take i)
  have h2 : (L.take i).length ≤ i := by simp; omega
  unfold insL
  rw [List.length_append, List.length_append]
  split <;> simp only [List.length_cons, List.length_nil] <;> omega
set_option maxHeartbeats 6400000 in
set_option maxRecDepth 100000 in
theorem rwrite_ok (w : World) (X : Nat → Prop) (hX : ∀ k, X k → k < w.heap.size) (r sb sc tb tc : Nat) (cv : Value) (s : Dsk) (h : RAt w X r sb sc tb tc cv s) (k : Nat) (hk : k < s.N) (hd : s.down = false) (hc : s.call.1 = 0) (bs : List UInt8) (hl : bs.length = 128) :
    Calls Tryd.prog 38 #[.pointer (some ⟨r, 0, none⟩), .int .i64 k, .agg (encA bs)] w fun e w' => e = .returned (.int .i64 0) ∧ (∃ sb' sc' tb' tc' cv', RAt w' X r sb' sc' tb' tc' cv' { s.call.2 with ca := upd s.call.2.ca k (some bs) }) ∧ KeptR r w w' := by
  have h0 := h.on (bel1 w (.cells (encA bs) 26))
  have cM := may49 _ X r sb sc tb tc cv s h0 k
  have e0 : s.reach k = 0 := by simp [Dsk.reach, hd, Dsk.hasB, hk]
  rw [e0] at cM
  have cC := call41 _ X r sb sc tb tc cv s h0 hd
  rw [show (decide (s.call.1 = 0)) = true by rw [hc]; rfl] at cC
  have hN : s.call.2.N = s.N := by unfold Dsk.call; split; rfl; split <;> rfl
  have HK : Hid (k < s.call.2.N) := by show k < s.call.2.N; rw [hN]; exact hk
  have hrb : (w.alloc (.cells (encA bs) 26)).rangeAt w.heap.size 0 (enc bs) := range_new w (enc bs) 26
  have lts := h.lts
  have HLr := Lib.hid lts
  have HX := Lib.hid hX
  have HRB0 := Lib.hid hrb
  have hib : (Tryd.prog.info? 26).map (·.size) = some (enc bs).length := by rw [size26, len_enc, hl]
  clear h h0 hd hc hN e0 hk hX hrb lts
  generalize s.call.2 = q at *
  go_enter Tryd.func38, Tryd.ntmps38
  go_wp2_with (first
    | (go_at_call 49; refine cM.mono ?_; rintro e w' ⟨rfl, rfl⟩)
    | (go_at_call 41; refine cC.mono ?_; rintro e w1 ⟨rfl, hA1, hK1⟩
       have hLN : q.dirty.length ≤ 16384 := by have := dirty_len q; have := hA1.top; omega
       have HRB1 := Lib.hid (rangeAt_same HRB0.out (hK1.block w.heap.size (by simp) (by have := HLr.out.1; omega)))
       have HA1 := Lib.hid hA1
       have HK1 := Lib.hid hK1
       have hsz1 : w.heap.size + 1 ≤ w1.heap.size := by have := hK1.size; simp at this; omega
       clear hA1 hK1))
  have HFk : Hid ((upd q.ca k (some bs) k).getD zer = bs) := by
    show (upd q.ca k (some bs) k).getD zer = bs
    rw [upd_same]; rfl
  go_loopg [8, 9, 10] q.dirty.length (fun g s8 s9 s10 wr => ∃ i : Nat, i + g = q.dirty.length ∧ s10 = .int .i64 i ∧ s9 = .bool (insD q.dirty k i) ∧ Hid (wr.ownsRow w1.heap.size 86 129 s8 (insL q.dirty k i).length (rowE (fun j => (upd q.ca k (some bs) j).getD zer) (insL q.dirty k i))) ∧ Hid (Below w1.heap.size w1 wr))
  case atStart => exact ⟨0, by omega, rfl, by rw [(insL_zero _ _).2], by rw [(insL_zero _ _).1]; exact World.ownsRow_nil _ _ _ _, Below.refl _ _⟩
  case round =>
    obtain ⟨i, hig, rfl, rfl, HOwn, HBel⟩ := hrel
    have HRB := Lib.hid (range_on HRB1.out HBel.out)
    obtain ⟨p, cc, hcv, hca⟩ := HA1.out.ca
    subst hcv
    obtain ⟨-, -, c2, -, -, -, cr⟩ := six_of (HA1.out.on HBel.out).blk
    have HLn := Lib.hid (insL_len q.dirty k i)
    cases gk with
    | zero =>
      obtain rfl : i = q.dirty.length := by omega
      have c2z := cr 2
      have hCall := insL_all q HK.out bs
      have hpos : 0 < ({ q with ca := upd q.ca k (some bs) } : Dsk).dirty.length := List.length_pos_of_mem (mem_dirty.2 ⟨HK.out, by show (upd q.ca k (some bs) k).isSome = true; rw [upd_same]; rfl⟩)
      obtain ⟨DL, hDL⟩ : ∃ DL, ({ q with ca := upd q.ca k (some bs) } : Dsk).dirty = DL := ⟨_, rfl⟩
      rw [hDL] at hCall hpos
      have HDL := Lib.hid hDL
      have HCall := Lib.hid hCall
      have HPos := Lib.hid hpos
      clear cr hca hDL hCall hpos
      cases hD : insD q.dirty k q.dirty.length with
      | true =>
        rw [hD] at HCall
        have hE : insL q.dirty k q.dirty.length = DL := by
          have := HCall.out
          simpa using this
        rw [hE] at HOwn HLn
        obtain ⟨g8, cap8, e8, -⟩ := HOwn.out.form HPos.out
        subst e8
        clear hD hE HCall
        go_wp2
        go_ret
        obtain ⟨h1, h2⟩ := (HA1.out.on HBel.out).recached HK.out hl (by rw [HDL.out]; exact HOwn.out) (fun j hj => by have := HX.out j hj; omega) (by have := HLr.out.1; omega) rfl
        exact ⟨rfl, ⟨_, _, _, _, _, h1⟩, ((KeptR.bel (bel1 w _)).trans HK1.out).trans ((KeptR.bel HBel.out).trans h2)⟩
      | false =>
        rw [hD] at HCall
        have hE : insL q.dirty k q.dirty.length ++ [k] = DL := by
          have := HCall.out
          simpa using this
        have HE := Lib.hid hE
        clear hD hE HCall
        go_wp2_with (first
          | (with_reducible show wpList _ _ _ (Oper.mk (some 73) (Op.load 26 (Operand.tmp 5)) _ _ _ _ :: _) _ _
             refine wpList_load_mid rfl 26 _ rfl _ _ rfl _ _ HRB.out Tryd.underlying26 rfl hib ?_)
          | (with_reducible show wpList _ _ _ (Oper.mk (some 74) (Op.build 86 _) _ _ _ _ :: _) _ _
             refine wpList_build86 rfl _ _ rfl k bs hl rfl rfl ?_)
          | (with_reducible show wpList _ _ _ (Oper.mk (some 75) (Op.buildSlice 79 1 _) _ _ _ _ :: _) _ _
             refine wpList_slice86 rfl _ rfl (ent k bs) (len_ent k hl) rfl ?_)
          | (with_reducible show wpList _ _ _ (Oper.mk (some 76) _ _ _ _ _ :: _) _ _
             refine wpList_appE rfl _ _ rfl w1.heap.size _ _ _ rfl (World.ownsRow.alloc HOwn.out (.cells (ent k bs).toArray 86)) wr.heap.size rfl (ent k bs) (range_new _ _ _) (len_ent k hl) (one_ent k bs) (by have := HLn.out; omega) (by have := HBel.out.size; simp; omega) ?_
             intro v2 W2 ho2 hg2
             have hB2 : Below w1.heap.size w1 W2 := (HBel.out.alloc HBel.out.size _).grown hg2 (by have := HBel.out.size; simp; omega) (fun k e => (World.ownsRow.lt (World.ownsRow.alloc HOwn.out (.cells (ent k bs).toArray 86)) k e).1)
             have hOwn2 : W2.ownsRow w1.heap.size 86 129 v2 DL.length (rowE (fun j => (upd q.ca k (some bs) j).getD zer) DL) := by
               rw [← HE.out, rowE_app, rowE_one, HFk.out, List.length_append]; exact ho2
             obtain ⟨g8, cap8, e8, -⟩ := hOwn2.form HPos.out
             subst e8
             have HBel2 := Lib.hid hB2
             have HOwn2 := Lib.hid hOwn2
             clear c2 c2z
             obtain ⟨-, -, c2, -, -, -, cr⟩ := six_of (HA1.out.on hB2).blk
             have c2z := cr 2
             clear ho2 hg2 hB2 hOwn2 cr))
        go_ret
        obtain ⟨h1, h2⟩ := (HA1.out.on HBel2.out).recached HK.out hl (by rw [HDL.out]; exact HOwn2.out) (fun j hj => by have := HX.out j hj; omega) (by have := HLr.out.1; omega) rfl
        exact ⟨rfl, ⟨_, _, _, _, _, h1⟩, ((KeptR.bel (bel1 w _)).trans HK1.out).trans ((KeptR.bel HBel2.out).trans h2)⟩
    | succ g =>
      have hiL : i < q.dirty.length := by omega
      have hiz : (i : Int) < (q.dirty.length : Int) := by omega
      have hiz0 : (0 : Int) ≤ (i : Int) := by omega
      obtain ⟨cb, rfl, -, hcr, hrow⟩ := hca.resolve_left (fun e => by rw [e] at hiL; simp at hiL)
      obtain ⟨bj, hb, hra⟩ := hrow i hiL
      have hbj := (HA1.out.le _ _ hb).1
      obtain ⟨j, hjj⟩ : ∃ j, q.dirty[i] = j := ⟨_, rfl⟩
      rw [hjj] at hb hra
      have hie : (Tryd.prog.info? 86).map (·.size) = some (ent j bj).length := by rw [size86, len_ent j hbj]
      have HFj : Hid (j ≠ k → (upd q.ca k (some bs) j).getD zer = bj) := fun hne => by
        show (upd q.ca k (some bs) j).getD zer = bj
        rw [upd_other _ _ hne, hb]; rfl
      have HRI : Hid (w1.rangeAt cb (i * 129) (ent j bj)) := hra
      have hraw := range_on hra HBel.out
      have c0 := hraw 0 _ rfl
      rw [Nat.add_zero] at c0
      have HRIw : Hid (wr.rangeAt cb (i * 129) (ent j bj)) := hraw
      clear hrow hra hraw hb cr
      cases hD : insD q.dirty k i with
      | true =>
        rcases Nat.lt_trichotomy j k with hjk | hjk | hjk
        · -- the new one in, j lt k
          have g1 : ¬ (k : Int) ≤ (j : Int) := by omega
          have g2 : ¬ (j : Int) = (k : Int) := by omega
          have g1b : decide ((k : Int) ≤ (j : Int)) = false := decide_eq_false g1
          have g2b : ((j : Int) != (k : Int)) = true := by simp only [bne_iff_ne, ne_eq]; exact g2
          have HS : Hid (insL q.dirty k (i + 1) = insL q.dirty k i ++ [j] ∧ insD q.dirty k (i + 1) = true) := by
            refine ⟨?_, ?_⟩
            · rw [insL_succ (dirty_sorted q) hiL, hD, hjj]
              simp [show ¬ k ≤ j by omega, show j ≠ k by omega]
            · rw [insD_succ hiL, hD, hjj]
              simp [show ¬ k ≤ j by omega]
          clear hD hjj
          go_wp2_with (first
            | (with_reducible show wpList _ _ _ (Oper.mk (some 66) (Op.load 86 (Operand.tmp 65)) _ _ _ _ :: _) _ _
               refine wpList_load_mid rfl 86 _ rfl _ _ rfl _ _ HRIw.out Tryd.underlying86 rfl hie ?_)
            | (with_reducible show wpList _ _ _ (Oper.mk (some 67) (Op.buildSlice 79 1 _) _ _ _ _ :: _) _ _
               refine wpList_slice86 rfl _ rfl (ent j bj) (len_ent j hbj) rfl ?_)
            | (with_reducible show wpList _ _ _ (Oper.mk (some 68) _ _ _ _ _ :: _) _ _
               refine wpList_appE rfl _ _ rfl w1.heap.size _ _ _ rfl (World.ownsRow.alloc HOwn.out (.cells (ent j bj).toArray 86)) wr.heap.size rfl (ent j bj) (range_new _ _ _) (len_ent j hbj) (one_ent j bj) (by have := HLn.out; omega) (by have := HBel.out.size; simp; omega) ?_
               intro v3 W3 ho3 hg3
               have hB3 : Below w1.heap.size w1 W3 := (HBel.out.alloc HBel.out.size _).grown hg3 (by have := HBel.out.size; simp; omega) (fun k e => (World.ownsRow.lt (World.ownsRow.alloc HOwn.out (.cells (ent j bj).toArray 86)) k e).1)
               have HBel3 := Lib.hid hB3
               have HOwn3 := Lib.hid ho3
               clear ho3 hg3 hB3))
          go_roundg g
          case measure => omega
          case rel => exact ⟨i + 1, by omega, by first | rfl | simp, by rw [HS.out.2], by rw [HS.out.1]; exact (by rw [rowE_app, rowE_one, HFj.out (by omega), List.length_append]; exact HOwn3.out), HBel3⟩
        · -- the new one in, j eq k
          have g1 : (k : Int) ≤ (j : Int) := by omega
          have g2 : (j : Int) = (k : Int) := by omega
          have g1b : decide ((k : Int) ≤ (j : Int)) = true := decide_eq_true g1
          have g2b : ((j : Int) != (k : Int)) = false := by rw [g2]; simp
          have HS : Hid (insL q.dirty k (i + 1) = insL q.dirty k i ∧ insD q.dirty k (i + 1) = true) := by
            refine ⟨?_, ?_⟩
            · rw [insL_succ (dirty_sorted q) hiL, hD, hjj]
              simp [show j = k by omega]
            · rw [insD_succ hiL, hD, hjj]
              simp [show k ≤ j by omega]
          clear hD hjj
          go_wp2
          go_roundg g
          case measure => omega
          case rel => exact ⟨i + 1, by omega, by first | rfl | simp, by rw [HS.out.2], by rw [HS.out.1]; exact HOwn.out, HBel⟩
        · -- the new one in, j gt k
          have g1 : (k : Int) ≤ (j : Int) := by omega
          have g2 : ¬ (j : Int) = (k : Int) := by omega
          have g1b : decide ((k : Int) ≤ (j : Int)) = true := decide_eq_true g1
          have g2b : ((j : Int) != (k : Int)) = true := by simp only [bne_iff_ne, ne_eq]; exact g2
          have HS : Hid (insL q.dirty k (i + 1) = insL q.dirty k i ++ [j] ∧ insD q.dirty k (i + 1) = true) := by
            refine ⟨?_, ?_⟩
            · rw [insL_succ (dirty_sorted q) hiL, hD, hjj]
              simp [show k ≤ j by omega, show j ≠ k by omega]
            · rw [insD_succ hiL, hD, hjj]
              simp [show k ≤ j by omega]
          clear hD hjj
          go_wp2_with (first
            | (with_reducible show wpList _ _ _ (Oper.mk (some 66) (Op.load 86 (Operand.tmp 65)) _ _ _ _ :: _) _ _
               refine wpList_load_mid rfl 86 _ rfl _ _ rfl _ _ HRIw.out Tryd.underlying86 rfl hie ?_)
            | (with_reducible show wpList _ _ _ (Oper.mk (some 67) (Op.buildSlice 79 1 _) _ _ _ _ :: _) _ _
               refine wpList_slice86 rfl _ rfl (ent j bj) (len_ent j hbj) rfl ?_)
            | (with_reducible show wpList _ _ _ (Oper.mk (some 68) _ _ _ _ _ :: _) _ _
               refine wpList_appE rfl _ _ rfl w1.heap.size _ _ _ rfl (World.ownsRow.alloc HOwn.out (.cells (ent j bj).toArray 86)) wr.heap.size rfl (ent j bj) (range_new _ _ _) (len_ent j hbj) (one_ent j bj) (by have := HLn.out; omega) (by have := HBel.out.size; simp; omega) ?_
               intro v3 W3 ho3 hg3
               have hB3 : Below w1.heap.size w1 W3 := (HBel.out.alloc HBel.out.size _).grown hg3 (by have := HBel.out.size; simp; omega) (fun k e => (World.ownsRow.lt (World.ownsRow.alloc HOwn.out (.cells (ent j bj).toArray 86)) k e).1)
               have HBel3 := Lib.hid hB3
               have HOwn3 := Lib.hid ho3
               clear ho3 hg3 hB3))
          go_roundg g
          case measure => omega
          case rel => exact ⟨i + 1, by omega, by first | rfl | simp, by rw [HS.out.2], by rw [HS.out.1]; exact (by rw [rowE_app, rowE_one, HFj.out (by omega), List.length_append]; exact HOwn3.out), HBel3⟩
      | false =>
        rcases Nat.lt_trichotomy j k with hjk | hjk | hjk
        · -- the new one not in, j lt k
          have g1 : ¬ (k : Int) ≤ (j : Int) := by omega
          have g2 : ¬ (j : Int) = (k : Int) := by omega
          have g1b : decide ((k : Int) ≤ (j : Int)) = false := decide_eq_false g1
          have g2b : ((j : Int) != (k : Int)) = true := by simp only [bne_iff_ne, ne_eq]; exact g2
          have HS : Hid (insL q.dirty k (i + 1) = insL q.dirty k i ++ [j] ∧ insD q.dirty k (i + 1) = false) := by
            refine ⟨?_, ?_⟩
            · rw [insL_succ (dirty_sorted q) hiL, hD, hjj]
              simp [show ¬ k ≤ j by omega, show j ≠ k by omega]
            · rw [insD_succ hiL, hD, hjj]
              simp [show ¬ k ≤ j by omega]
          clear hD hjj
          go_wp2_with (first
            | (with_reducible show wpList _ _ _ (Oper.mk (some 66) (Op.load 86 (Operand.tmp 65)) _ _ _ _ :: _) _ _
               refine wpList_load_mid rfl 86 _ rfl _ _ rfl _ _ HRIw.out Tryd.underlying86 rfl hie ?_)
            | (with_reducible show wpList _ _ _ (Oper.mk (some 67) (Op.buildSlice 79 1 _) _ _ _ _ :: _) _ _
               refine wpList_slice86 rfl _ rfl (ent j bj) (len_ent j hbj) rfl ?_)
            | (with_reducible show wpList _ _ _ (Oper.mk (some 68) _ _ _ _ _ :: _) _ _
               refine wpList_appE rfl _ _ rfl w1.heap.size _ _ _ rfl (World.ownsRow.alloc HOwn.out (.cells (ent j bj).toArray 86)) wr.heap.size rfl (ent j bj) (range_new _ _ _) (len_ent j hbj) (one_ent j bj) (by have := HLn.out; omega) (by have := HBel.out.size; simp; omega) ?_
               intro v3 W3 ho3 hg3
               have hB3 : Below w1.heap.size w1 W3 := (HBel.out.alloc HBel.out.size _).grown hg3 (by have := HBel.out.size; simp; omega) (fun k e => (World.ownsRow.lt (World.ownsRow.alloc HOwn.out (.cells (ent j bj).toArray 86)) k e).1)
               have HBel3 := Lib.hid hB3
               have HOwn3 := Lib.hid ho3
               clear ho3 hg3 hB3))
          go_roundg g
          case measure => omega
          case rel => exact ⟨i + 1, by omega, by first | rfl | simp, by rw [HS.out.2], by rw [HS.out.1]; exact (by rw [rowE_app, rowE_one, HFj.out (by omega), List.length_append]; exact HOwn3.out), HBel3⟩
        · -- the new one not in, j eq k
          have g1 : (k : Int) ≤ (j : Int) := by omega
          have g2 : (j : Int) = (k : Int) := by omega
          have g1b : decide ((k : Int) ≤ (j : Int)) = true := decide_eq_true g1
          have g2b : ((j : Int) != (k : Int)) = false := by rw [g2]; simp
          have HS : Hid (insL q.dirty k (i + 1) = insL q.dirty k i ++ [k] ∧ insD q.dirty k (i + 1) = true) := by
            refine ⟨?_, ?_⟩
            · rw [insL_succ (dirty_sorted q) hiL, hD, hjj]
              simp [show j = k by omega]
            · rw [insD_succ hiL, hD, hjj]
              simp [show k ≤ j by omega]
          clear hD hjj
          go_wp2_with (first
            | (with_reducible show wpList _ _ _ (Oper.mk (some 45) (Op.load 26 (Operand.tmp 5)) _ _ _ _ :: _) _ _
               refine wpList_load_mid rfl 26 _ rfl _ _ rfl _ _ HRB.out Tryd.underlying26 rfl hib ?_)
            | (with_reducible show wpList _ _ _ (Oper.mk (some 46) (Op.build 86 _) _ _ _ _ :: _) _ _
               refine wpList_build86 rfl _ _ rfl k bs hl rfl rfl ?_)
            | (with_reducible show wpList _ _ _ (Oper.mk (some 47) (Op.buildSlice 79 1 _) _ _ _ _ :: _) _ _
               refine wpList_slice86 rfl _ rfl (ent k bs) (len_ent k hl) rfl ?_)
            | (with_reducible show wpList _ _ _ (Oper.mk (some 48) _ _ _ _ _ :: _) _ _
               refine wpList_appE rfl _ _ rfl w1.heap.size _ _ _ rfl (World.ownsRow.alloc HOwn.out (.cells (ent k bs).toArray 86)) wr.heap.size rfl (ent k bs) (range_new _ _ _) (len_ent k hl) (one_ent k bs) (by have := HLn.out; omega) (by have := HBel.out.size; simp; omega) ?_
               intro v2 W2 ho2 hg2
               have hB2 : Below w1.heap.size w1 W2 := (HBel.out.alloc HBel.out.size _).grown hg2 (by have := HBel.out.size; simp; omega) (fun k e => (World.ownsRow.lt (World.ownsRow.alloc HOwn.out (.cells (ent k bs).toArray 86)) k e).1)
               have HBel2 := Lib.hid hB2
               have HOwn2 := Lib.hid ho2
               clear c2 c0
               obtain ⟨-, -, c2, -, -, -, -⟩ := six_of (HA1.out.on hB2).blk
               have hra2 := range_on HRI.out hB2
               have c0 := hra2 0 _ rfl
               rw [Nat.add_zero] at c0
               have HRI2 := Lib.hid hra2
               clear ho2 hg2 hB2 hra2))
          go_roundg g
          case measure => omega
          case rel => exact ⟨i + 1, by omega, by first | rfl | simp, by rw [HS.out.2], by rw [HS.out.1]; exact (by rw [rowE_app, rowE_one, HFk.out, List.length_append]; exact HOwn2.out), HBel2⟩
        · -- the new one not in, j gt k
          have g1 : (k : Int) ≤ (j : Int) := by omega
          have g2 : ¬ (j : Int) = (k : Int) := by omega
          have g1b : decide ((k : Int) ≤ (j : Int)) = true := decide_eq_true g1
          have g2b : ((j : Int) != (k : Int)) = true := by simp only [bne_iff_ne, ne_eq]; exact g2
          have HS : Hid (insL q.dirty k (i + 1) = insL q.dirty k i ++ [k] ++ [j] ∧ insD q.dirty k (i + 1) = true) := by
            refine ⟨?_, ?_⟩
            · rw [insL_succ (dirty_sorted q) hiL, hD, hjj]
              simp [show k ≤ j by omega, show j ≠ k by omega]
            · rw [insD_succ hiL, hD, hjj]
              simp [show k ≤ j by omega]
          clear hD hjj
          go_wp2_with (first
            | (with_reducible show wpList _ _ _ (Oper.mk (some 45) (Op.load 26 (Operand.tmp 5)) _ _ _ _ :: _) _ _
               refine wpList_load_mid rfl 26 _ rfl _ _ rfl _ _ HRB.out Tryd.underlying26 rfl hib ?_)
            | (with_reducible show wpList _ _ _ (Oper.mk (some 46) (Op.build 86 _) _ _ _ _ :: _) _ _
               refine wpList_build86 rfl _ _ rfl k bs hl rfl rfl ?_)
            | (with_reducible show wpList _ _ _ (Oper.mk (some 47) (Op.buildSlice 79 1 _) _ _ _ _ :: _) _ _
               refine wpList_slice86 rfl _ rfl (ent k bs) (len_ent k hl) rfl ?_)
            | (with_reducible show wpList _ _ _ (Oper.mk (some 48) _ _ _ _ _ :: _) _ _
               refine wpList_appE rfl _ _ rfl w1.heap.size _ _ _ rfl (World.ownsRow.alloc HOwn.out (.cells (ent k bs).toArray 86)) wr.heap.size rfl (ent k bs) (range_new _ _ _) (len_ent k hl) (one_ent k bs) (by have := HLn.out; omega) (by have := HBel.out.size; simp; omega) ?_
               intro v2 W2 ho2 hg2
               have hB2 : Below w1.heap.size w1 W2 := (HBel.out.alloc HBel.out.size _).grown hg2 (by have := HBel.out.size; simp; omega) (fun k e => (World.ownsRow.lt (World.ownsRow.alloc HOwn.out (.cells (ent k bs).toArray 86)) k e).1)
               have HBel2 := Lib.hid hB2
               have HOwn2 := Lib.hid ho2
               clear c2 c0
               obtain ⟨-, -, c2, -, -, -, -⟩ := six_of (HA1.out.on hB2).blk
               have hra2 := range_on HRI.out hB2
               have c0 := hra2 0 _ rfl
               rw [Nat.add_zero] at c0
               have HRI2 := Lib.hid hra2
               clear ho2 hg2 hB2 hra2)
            | (with_reducible show wpList _ _ _ (Oper.mk (some 66) (Op.load 86 (Operand.tmp 65)) _ _ _ _ :: _) _ _
               refine wpList_load_mid rfl 86 _ rfl _ _ rfl _ _ HRI2.out Tryd.underlying86 rfl hie ?_)
            | (with_reducible show wpList _ _ _ (Oper.mk (some 67) (Op.buildSlice 79 1 _) _ _ _ _ :: _) _ _
               refine wpList_slice86 rfl _ rfl (ent j bj) (len_ent j hbj) rfl ?_)
            | (with_reducible show wpList _ _ _ (Oper.mk (some 68) _ _ _ _ _ :: _) _ _
               refine wpList_appE rfl _ _ rfl w1.heap.size _ _ _ rfl (World.ownsRow.alloc HOwn2.out (.cells (ent j bj).toArray 86)) W2.heap.size rfl (ent j bj) (range_new _ _ _) (len_ent j hbj) (one_ent j bj) (by have := HLn.out; omega) (by have := HBel2.out.size; simp; omega) ?_
               intro v3 W3 ho3 hg3
               have hB3 : Below w1.heap.size w1 W3 := (HBel2.out.alloc HBel2.out.size _).grown hg3 (by have := HBel2.out.size; simp; omega) (fun k e => (World.ownsRow.lt (World.ownsRow.alloc HOwn2.out (.cells (ent j bj).toArray 86)) k e).1)
               have HBel3 := Lib.hid hB3
               have HOwn3 := Lib.hid ho3
               clear ho3 hg3 hB3))
          go_roundg g
          case measure => omega
          case rel => exact ⟨i + 1, by omega, by first | rfl | simp, by rw [HS.out.2], by rw [HS.out.1]; exact (by rw [rowE_app, rowE_one, HFj.out (by omega), rowE_app, rowE_one, HFk.out, List.length_append, List.length_append]; exact HOwn3.out), HBel3⟩
end Go.Proofs.YtafnelpcnfmhfaaDoor
