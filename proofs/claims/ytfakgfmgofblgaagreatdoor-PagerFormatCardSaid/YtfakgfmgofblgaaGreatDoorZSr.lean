/-
  What settle does with what the log had.
-/
import Derived.Test.YtfakgfmgofblgaaGreatDoorZPoKyLpPq
import Derived.Test.YtfakgfmgofblgaaGreatDoorZPrPg
import Derived.Test.YtfakgfmgofblgaaGreatDoorZWpRfRh
import Derived.Test.YtfakgfmgofblgaaGreatDoorZFoWdWgWlBa
namespace Go.Proofs.YtfakgfmgofblgaaGreatDoor
open Go.RowKit Go.Maps
set_option linter.unusedVariables false      -- a walk need not use every condition
attribute [local go_sem ↓] Go.wp_at_zero Go.wp_at_succ

def intE : Elem Nat where
  E := fun _ _ x a => x = .int .i64 a
  kp := fun h _ => h
  mono := fun h _ => h
  one := fun h => by subst h; rfl
theorem LmAt.kp {X : Nat → Prop} {w w' : World} {mb : Nat} {m : Nat → Option (List UInt8)} (h : LmAt X w mb m) (hk : Kp X w w') (hx : ¬ X mb) : LmAt X w' mb m := by
  obtain ⟨mv, h1, h2⟩ := h
  exact ⟨mv, h1.blk (hk.block _ h1.lt hx), h2.kp hk⟩
set_option maxHeartbeats 1000000 in
theorem replayF112 (X : Nat → Prop) (w : World) (bx ml : Nat) (m : Nat → Option (List UInt8)) (hbx : w.heap[bx]? = some (.cells #[.map (some ml)] 95)) (hm : LmAt X w ml m) (k : Nat) (hk : k < 2048) (b : List UInt8) (hb : m k = some b) :
    Calls Tryz.prog 112 #[.int .i64 k, .pointer (some ⟨bx, 0, none⟩)] w fun e w' => ∃ q c, e = .returned (.tuple #[.slice q b.length c, .int .i64 0]) ∧ BsY X w (.slice q b.length c) b ∧ w' = w := by
  obtain ⟨mv, h1, h2⟩ := hm
  obtain ⟨-, q, c, hq, hB⟩ := (h2 k).2 b hb
  have lk := h1.look hk false
  rw [hq] at lk
  simp only [lkw, Bool.false_eq_true, if_false] at lk
  have l0 : w.cell? ⟨bx, 0, none⟩ = some (.map (some ml)) := by simp [World.cell?, hbx]
  have HB := Lib.hid hB
  clear h1 h2 hB hq hbx hb
  go_enter Tryz.func112, Tryz.ntmps112
  go_wp2
  go_ret2
  exact ⟨q, c, rfl, HB.out, rfl⟩
/-- Pages are written to their sectors, the first n. -/
def Dsk.stN (s : Dsk) (slots : Nat) (f : Nat → Nat × List UInt8) : Nat → Int × Dsk
  | 0 => (0, s)
  | i + 1 => if (s.stN slots f i).1 ≠ 0 then s.stN slots f i else (s.stN slots f i).2.wpg slots (f i).1 (f i).2
theorem stN_stop (s : Dsk) (slots : Nat) (f : Nat → Nat × List UInt8) {x : Nat} (h : (s.stN slots f x).1 ≠ 0) : ∀ y, s.stN slots f (x + y) = s.stN slots f x
  | 0 => rfl
  | y + 1 => by
    have ih := stN_stop s slots f h y
    show s.stN slots f ((x + y) + 1) = _
    rw [Dsk.stN, ih, if_pos h]
/-- They are, and stay there, and the log is begun anew. -/
def setl (s : Dsk) (L : Lg) (slots : Nat) (f : Nat → Nat × List UInt8) (n : Nat) : Int × Lg × Dsk :=
  if (s.stN slots f n).1 ≠ 0 then ((s.stN slots f n).1, L, (s.stN slots f n).2)
  else if n = 0 then rst s L
  else if (s.stN slots f n).2.flush.1 ≠ 0 then ((s.stN slots f n).2.flush.1, L, (s.stN slots f n).2.flush.2)
  else rst (s.stN slots f n).2.flush.2 L
def X3 (d pb mb : Nat) (k : Nat) : Prop := k = d ∨ k = pb ∨ k = mb
set_option maxHeartbeats 4000000 in
set_option maxRecDepth 100000 in
theorem settleR70 (X : Nat → Prop) (w : World) (d pb mb l p ms mk ml base : Nat) (tv : Value) (s : Dsk) (L : Lg) (P : Pgr) (h : At w d pb mb s) (hL : LAt w d pb mb l L) (hT : TabOk w) (hP : PAt w d l p ms mk ml base tv P) (hpl : (hpay L.slots L.note).length ≤ 112)
    (bx mm : Nat) (m : Nat → Option (List UInt8)) (hbx : w.heap[bx]? = some (.cells #[.map (some mm)] 95)) (hm : LmAt X w mm m) (hX : X d ∧ X pb ∧ X mb) (hnb : ¬ X bx) (hnm : ¬ X mm) (hnp : ∀ k, Xp p ms mk ml tv k → ¬ X k)
    (pv : Value) (pgs : List Nat) (hrow : (sl intE).E X w pv pgs) (hin : ∀ k ∈ pgs, k < 2048 ∧ (m k).isSome = true) (hlen : pgs.length ≤ 100000) :
    Calls Tryz.prog 70 #[.pointer (some ⟨p, 0, none⟩), pv, .func (.func 112) #[] #[.pointer (some ⟨bx, 0, none⟩)]] w fun e w' => LogR (setl s L P.slots (fun i => (pgs.getD i 0, (m (pgs.getD i 0)).getD [])) pgs.length) d pb mb l w e w' ∧ w'.cell? ⟨l, 3, none⟩ = w.cell? ⟨l, 3, none⟩ := by
  obtain ⟨f, hf⟩ : ∃ f, (fun i => (pgs.getD i 0, (m (pgs.getD i 0)).getD [])) = f := ⟨_, rfl⟩
  rw [hf]
  have hsl := hP.sl
  have HA := Lib.hid h
  have HLA := Lib.hid hL
  have HT := Lib.hid hT
  have HP := Lib.hid hP
  have HM := Lib.hid hm
  have HBX := Lib.hid hbx
  have HK : Hid (∀ W, Kept d pb mb w W → Kp X w W) := fun W hW => Kp.kept hW hX.1 hX.2.1 hX.2.2
  obtain ⟨vp, vc, rfl, hr⟩ := hrow
  have hre : ∀ i, i < pgs.length → ∃ g o, vp = some ⟨g, o, none⟩ ∧ ¬ X g ∧ w.cell? ⟨g, o + i, none⟩ = some (.int .i64 (f i).1) ∧ (f i).1 < 2048 ∧ m (f i).1 = some (f i).2 := fun i hi => by
    rcases hr with hr | ⟨g, o, e, hx, hr⟩
    · rw [hr] at hi; cases hi
    · obtain ⟨x, hc, hx2⟩ := hr i hi
      have hx3 : x = .int .i64 (pgs[i] : Nat) := hx2
      obtain ⟨h1, h2⟩ := hin pgs[i] (List.getElem_mem _)
      obtain ⟨b, hb⟩ := Option.isSome_iff_exists.1 h2
      have e1 : (f i).1 = pgs[i] := by rw [← hf]; simp [List.getElem?_eq_getElem hi]
      have e2 : (f i).2 = b := by rw [← hf]; simp [List.getElem?_eq_getElem hi, hb]
      rw [e1, e2]
      exact ⟨g, o, e, hx, by rw [hc, hx3], h1, hb⟩
  have HRE := Lib.hid hre
  clear hre hr hf hin h hL hT hP hm hbx
  obtain ⟨n, hn⟩ : ∃ n, pgs.length = n := ⟨_, rfl⟩
  rw [hn] at hlen HRE ⊢
  clear hn
  obtain ⟨FR, hFR⟩ : ∃ FR, setl s L P.slots f n = FR := ⟨_, rfl⟩
  have HFR := Lib.hid hFR
  rw [hFR]
  clear hFR
  unfold setl at HFR
  have K3 : Hid (∀ W, Kept d pb mb w W → Kp (X4 d pb mb l) w W) := fun W hW => Kp.kept hW (.inl rfl) (.inr (.inl rfl)) (.inr (.inr (.inl rfl)))
  have HC3 : Hid (∀ W, Kept d pb mb w W → W.cell? ⟨l, 3, none⟩ = w.cell? ⟨l, 3, none⟩) := fun W hW => World.cell?_of_block (w := w) (a := ⟨l, 3, none⟩) (hW.block _ HLA.out.lt HLA.out.ne.1 HLA.out.ne.2.1 HLA.out.ne.2.2)
  go_enter Tryz.func70, Tryz.ntmps70
  go_wp2
  go_loopg [15] n (fun gk s15 wr => ∃ i : Nat, i + gk = n ∧ s15 = .int .i64 i ∧ Hid ((s.stN P.slots f i).1 = 0) ∧ Hid (At wr d pb mb (s.stN P.slots f i).2) ∧ Hid (Kept d pb mb w wr) ∧ Hid (TabOk wr))
  case atStart => exact ⟨0, by omega, rfl, (rfl : _ = _), HA.out, Kept.refl _ _ _ _, HT.out⟩
  case round =>
    obtain ⟨i, hig, rfl, hz, hAt, hKt, hTb⟩ := hrel
    have hPr := HP.out.kp (HK.out _ hKt.out) hnp
    have HLr := Lib.hid (HLA.out.kept hKt.out)
    have q0 := hPr.h0
    have q1 := hPr.h1
    have q2 := hPr.h2
    have q3 := hPr.h3
    clear hPr
    cases gk with
    | zero =>
      obtain rfl : i = n := by omega
      rw [if_neg (fun e => e hz.out)] at HFR
      by_cases hn0 : i = 0
      · subst hn0
        rw [if_pos rfl] at HFR
        have c125 := reset125n wr d pb mb l s L hAt.out HLr.out hTb.out hpl
        rw [HFR.out] at c125
        go_wp2_with (first | (go_at_call 125; refine c125.mono ?_; rintro e w1 ⟨⟨rfl, hA1, hL1, hK1, hT1⟩, hc1⟩))
        go_ret
        exact ⟨⟨rfl, hA1, hL1, (K3.out _ hKt.out).trans hK1, hT1⟩, hc1.trans (HC3.out _ hKt.out)⟩
      · rw [if_neg hn0] at HFR
        have hnp0 : (0 : Int) < (i : Int) := by omega
        have c109 := flush109 wr d pb mb _ hAt.out
        generalize (s.stN P.slots f i).2 = S at *
        by_cases hfe : S.flush.1 = 0
        · rw [if_neg (fun e => e hfe)] at HFR
          rw [hfe] at c109
          have c125 := fun (W : World) (hW : At W d pb mb S.flush.2) (hK : Kept d pb mb w W) (hTW : TabOk W) => reset125n W d pb mb l S.flush.2 L hW (HLA.out.kept hK) hTW hpl
          rw [HFR.out] at c125
          go_wp2_with (first
            | (go_at_call 109; refine c109.mono ?_; rintro e w1 ⟨rfl, hA1, hK1⟩
               have hk1 := hKt.out.trans hK1
               have HK1 := Lib.hid hk1
               have HA1 := Lib.hid hA1
               have r1 := (HP.out.kp (HK.out _ hk1) hnp).h1
               have HT1 := Lib.hid (tab_kept hTb.out hAt.out hK1)
               clear hA1 hK1 hk1)
            | (go_at_call 125; refine (c125 _ HA1.out HK1.out HT1.out).mono ?_; rintro e w2 ⟨⟨rfl, hA2, hL2, hK2, hT2⟩, hc2⟩))
          go_ret
          exact ⟨⟨rfl, hA2, hL2, (K3.out _ HK1.out).trans hK2, hT2⟩, hc2.trans (HC3.out _ HK1.out)⟩
        · rw [if_pos hfe] at HFR
          have hfb : (S.flush.1 != 0) = true := by simpa using hfe
          have HF := Lib.hid HFR.out.symm
          obtain ⟨E1, hE1⟩ : ∃ E1, S.flush.1 = E1 := ⟨_, rfl⟩
          rw [hE1] at c109 hfb HF
          clear hE1 hfe HFR
          have HF' := HF.out
          subst HF'
          go_wp2_with (first
            | (go_at_call 109; refine c109.mono ?_; rintro e w1 ⟨rfl, hA1, hK1⟩
               have HK1 := Lib.hid (hKt.out.trans hK1)
               have HA1 := Lib.hid hA1
               have HT1 := Lib.hid (tab_kept hTb.out hAt.out hK1)
               clear hA1 hK1))
          go_ret
          exact ⟨⟨rfl, HA1.out, HLA.out.kept HK1.out, K3.out _ HK1.out, HT1.out⟩, HC3.out _ HK1.out⟩
    | succ g =>
      have hin' : (i : Int) < (n : Int) := by omega
      obtain ⟨vg, vo, rfl, hvx, hvc, hf2, hfm⟩ := HRE.out i (by omega)
      have hvc' := (World.cell?_of_block (w := w) (a := ⟨vg, vo + i, none⟩) ((HK.out _ hKt.out).block _ (World.block_lt_of_cell? w ⟨vg, vo + i, none⟩ hvc) hvx)).trans hvc
      have c112 := replayF112 X wr bx mm m (((HK.out _ hKt.out).block _ (Array.getElem?_eq_some_iff.1 HBX.out).1 hnb).trans HBX.out) (HM.out.kp (HK.out _ hKt.out) hnm) (f i).1 hf2 (f i).2 hfm
      have hbl : (f i).2.length ≤ 448 := by
        obtain ⟨mv, -, hS⟩ := HM.out
        exact ((hS _).2 _ hfm).1
      have HST : Hid (s.stN P.slots f (i + 1) = (s.stN P.slots f i).2.wpg P.slots (f i).1 (f i).2) := by
        show _ = _
        rw [Dsk.stN, if_neg (fun e => e hz.out)]
      have HSP : Hid ((s.stN P.slots f (i + 1)).1 ≠ 0 → FR = ((s.stN P.slots f (i + 1)).1, L, (s.stN P.slots f (i + 1)).2)) := fun hne => by
        have := stN_stop s P.slots f hne (n - (i + 1))
        rw [show i + 1 + (n - (i + 1)) = n by omega] at this
        have h2 := HFR.out
        rw [this, if_pos hne] at h2
        exact h2.symm
      generalize (s.stN P.slots f i).2 = S at *
      generalize f i = fi at *
      obtain ⟨pg, bb⟩ := fi
      simp only at c112 hvc' hf2 hbl HST
      have c124 := fun (W : World) (hb : Below wr.heap.size wr W) (v : Value) (hv : Bs W v bb) => writePage124 W d pb mb S (hAt.out.on hb) (tab_on hTb.out hb) P.slots pg (P.pages : Int) hsl.2 (by omega) v bb hv hbl
      obtain ⟨W, hW⟩ : ∃ W, S.wpg P.slots pg bb = W := ⟨_, rfl⟩
      rw [hW] at HST c124
      rw [HST.out] at HSP
      have d0 : wr.drew.cell? ⟨p, 0, none⟩ = some (.pointer (some ⟨d, 0, none⟩)) := q0
      have d2 : wr.drew.cell? ⟨p, 2, none⟩ = some (.int .i64 P.slots) := q2
      have d3 : wr.drew.cell? ⟨p, 3, none⟩ = some (.int .i64 P.pages) := q3
      clear hW hvc hfm HFR HRE
      go_upto_region 7 with (first | (go_at_call 112; refine c112.mono ?_; rintro e w' ⟨rq, rc, rfl, hBy, ew⟩; rw [ew]; have HBy := Lib.hid hBy.1; clear ew w' hBy))
      go_cut [11] from 28 to 38 (fun s11 wx => s11 = .int .i64 W.1 ∧ Hid (At wx d pb mb W.2) ∧ Hid (Kept d pb mb w wx) ∧ Hid (TabOk wx))
      case first =>
        go_region_with (first
          | (go_at_call 124; refine (c124 _ (by first | exact (Below.refl _ wr).drew | exact Below.refl _ _) _ (by first | exact HBy.out.drew | exact HBy.out)).mono ?_; rintro e w1 ⟨rfl, hA1, hK1, hT1⟩
             have HA1 := Lib.hid hA1
             have HK1 : Hid (Kept d pb mb w w1) := hKt.out.trans ⟨hK1.os, hK1.tape, hK1.output, hK1.size, hK1.block⟩
             have HT1 := Lib.hid hT1
             clear hA1 hK1 hT1))
        all_goals
          go_wp2
          go_meet
          case rel => exact ⟨rfl, HA1, HK1, HT1⟩
      case rest =>
        obtain ⟨rfl, HA1, HK1, HT1⟩ := hcut
        obtain ⟨e1, s1⟩ := W
        simp only at HA1 HSP HST
        by_cases he1 : e1 = 0
        · subst he1
          go_wp2
          go_roundg g
          case rel => exact ⟨i + 1, by omega, by first | rfl | simp, by show _ = _; rw [HST.out], by show At _ _ _ _ _; rw [HST.out]; exact HA1.out, HK1, HT1⟩
          case measure => omega
        · have hF := HSP.out he1
          subst hF
          have heb : (e1 != 0) = true := by simpa using he1
          go_wp2
          go_ret
          exact ⟨⟨rfl, HA1.out, HLA.out.kept HK1.out, K3.out _ HK1.out, HT1.out⟩, HC3.out _ HK1.out⟩
end Go.Proofs.YtfakgfmgofblgaaGreatDoor
