/-
  What writeCommit of package wal does.
-/
import Derived.Test.YtfakgfmgofblgaaGreatDoorZOpmPutHwChkCt
namespace Go.Proofs.YtfakgfmgofblgaaGreatDoor
open Go.RowKit Go.Maps
set_option linter.unusedVariables false      -- a walk need not use every condition
attribute [local go_sem ↓] Go.wp_at_zero Go.wp_at_succ

/-- The first x frames of a commit are written. -/
def Dsk.wrf (s : Dsk) (e : Int) (u : Nat) (t : List UInt8) : Nat → Int × Dsk
  | 0 => (0, s)
  | x + 1 => if (s.wrf e u t x).1 ≠ 0 then s.wrf e u t x else (s.wrf e u t x).2.put ((2 + (u + x) : Nat) : Int) (fof e t u x).1 (fof e t u x).2.1 (pc t x)
/-- All are written, and flushed. -/
def Dsk.wrc (s : Dsk) (e : Int) (u : Nat) (t : List UInt8) : Int × Dsk := if (s.wrf e u t (pn t)).1 ≠ 0 then s.wrf e u t (pn t) else (s.wrf e u t (pn t)).2.flush
theorem wrf_stop (s : Dsk) (e : Int) (u : Nat) (t : List UInt8) {x : Nat} (h : (s.wrf e u t x).1 ≠ 0) : ∀ y, s.wrf e u t (x + y) = s.wrf e u t x
  | 0 => rfl
  | y + 1 => by
    have ih := wrf_stop s e u t h y
    show s.wrf e u t ((x + y) + 1) = _
    rw [Dsk.wrf, ih, if_pos h]
theorem own_same {w w' : World} {base : Nat} {e : TypeId} {size : Nat} {v : Value} {n : Nat} {xs : List Value} (h : w.ownsRow base e size v n xs) (hs : ∀ g, base ≤ g → g < w.heap.size → w'.heap[g]? = w.heap[g]?) : w'.ownsRow base e size v n xs := by
  refine ⟨h.1, ?_⟩
  rcases h.2 with h | ⟨g, cap, cur, rfl, hbg, hg, r⟩
  · exact .inl h
  · exact .inr ⟨g, cap, cur, rfl, hbg, (hs g hbg (Array.getElem?_eq_some_iff.1 hg).1).trans hg, r⟩
theorem RowB.same {w w' : World} {base : Nat} {v : Value} {L : Rs} (h : RowB w base v L) (hs : ∀ g, base ≤ g → g < w.heap.size → w'.heap[g]? = w.heap[g]?) : RowB w' base v L := by
  obtain ⟨vs, ho, he⟩ := h
  refine ⟨vs, own_same ho hs, fun i hi => ?_⟩
  obtain ⟨x, hx, hB⟩ := he i hi
  exact ⟨x, hx, own_same hB hs⟩
theorem RowB.kept {w w' : World} {base d pb mb : Nat} {v : Value} {L : Rs} (h : RowB w base v L) (hk : Kept d pb mb w w') (h1 : d < base) (h2 : pb < base) (h3 : mb < base) : RowB w' base v L :=
  h.same fun g hg hl => hk.block g hl (by omega) (by omega) (by omega)
/-- A piece of a row of one's own. -/
theorem RowB.at {w : World} {base : Nat} {v : Value} {L : Rs} (h : RowB w base v L) {i : Nat} (hi : i < L.length) : ∃ g cap x, v = .slice (some ⟨g, 0, none⟩) L.length cap ∧ w.cell? ⟨g, i, none⟩ = some x ∧ Bts w base x L[i] := by
  obtain ⟨vs, ho, he⟩ := h
  rcases ho.2 with ⟨rfl, h0⟩ | ⟨g, cap, cur, rfl, hbg, hg, hnc, hcm, hcs, htake⟩
  · omega
  · obtain ⟨x, hx, hB⟩ := he i hi
    have := ho.cells (g := g) rfl i x hx
    rw [Go.WideShapes.add_plain, Nat.zero_add] at this
    exact ⟨g, cap, x, rfl, this, hB⟩
theorem tab_blk {w w' : World} (h : TabOk w) (e : w'.heap[0]? = w.heap[0]?) : TabOk w' := by
  unfold TabOk Lib.TabIs World.var? at *
  rw [gFours] at *
  simp only [Option.bind_some, e] at *
  exact h
theorem tab_zero {w : World} (h : TabOk w) : w.cell? ⟨0, 0, none⟩ = some (.int .u32 0) := tab_cell h (by decide)
theorem tab_ne {w : World} (h : TabOk w) {g : Nat} {x : Value} (hx : w.cell? ⟨g, 0, none⟩ = some x) (hne : ∀ n, x ≠ .int .u32 n) : g ≠ 0 := by
  rintro rfl
  rw [tab_zero h] at hx
  injection hx with hx
  exact hne _ hx.symm
theorem At.nz {w : World} {d pb mb : Nat} {s : Dsk} (h : At w d pb mb s) (hT : TabOk w) : d ≠ 0 ∧ pb ≠ 0 ∧ mb ≠ 0 := by
  refine ⟨tab_ne hT (five_of h.blk).1 (fun n e => by cases e), ?_, ?_⟩
  · have hp := h.pl 0 h.pos
    have hl := h.sl 0 h.pos
    have : (plc (s.st 0) (s.tn 0))[0]? = some (.int .u8 ((s.st 0).getD 0 0).toNat) := by
      unfold plc
      rw [List.getElem?_append_left (by rw [len_enc, hl]; decide), enc_at (by omega)]
    have h0 := hp 0 _ this
    rw [Nat.zero_mul, Nat.zero_add] at h0
    exact tab_ne hT h0 (fun n e => by cases e)
  · obtain ⟨n, D, ⟨es, ck, hmb, r⟩, -⟩ := h.own
    rintro rfl
    have := tab_zero hT
    simp [World.cell?, hmb] at this
theorem tab_kept {d pb mb : Nat} {w w' : World} {s : Dsk} (hT : TabOk w) (hA : At w d pb mb s) (hk : Kept d pb mb w w') : TabOk w' := by
  have n := hA.nz hT
  have h0 := World.block_lt_of_cell? w _ (tab_zero hT)
  exact tab_blk hT (hk.block 0 h0 n.1.symm n.2.1.symm n.2.2.symm)
theorem LAt.nz {w : World} {d pb mb l : Nat} {L : Lg} (h : LAt w d pb mb l L) (hT : TabOk w) : l ≠ 0 := by
  obtain ⟨nv, hb, -⟩ := h.blk
  exact tab_ne hT (seven_of hb).1 (fun n e => by cases e)
theorem okF_of {k : Int} {n : Int} {pay : List UInt8} (h1 : 1 ≤ k) (h2 : k ≤ 255) (h3 : 0 ≤ n) (h4 : pay.length ≤ 112) : okF k n pay = true := by
  unfold okF
  simp
  omega
set_option maxHeartbeats 4000000 in
set_option maxRecDepth 100000 in
theorem writeCommit134 (w : World) (d pb mb l : Nat) (s : Dsk) (L : Lg) (h : At w d pb mb s) (hL : LAt w d pb mb l L) (hT : TabOk w) (v : Value) (rs : Rs) (hv : Bss w v rs) (hlen : (cby rs).length ≤ 4398046511104) (hfit : L.used + pn (cby rs) ≤ L.slots) :
    Calls Tryz.prog 134 #[.pointer (some ⟨l, 0, none⟩), v] w fun e w' => e = .returned (.int .i64 (s.wrc L.e L.used (cby rs)).1) ∧ At w' d pb mb (s.wrc L.e L.used (cby rs)).2 ∧ LAt w' d pb mb l L ∧ Kept d pb mb w w' ∧ TabOk w' := by
  have c51 := commitBytes169 w v rs hv hlen
  have HA := Lib.hid h
  have HL := Lib.hid hL
  have HT := Lib.hid hT
  have lts := h.lts
  have hsl := hL.sl
  have hpe := hL.pos
  have hte := hL.top
  have hpp := pn_pos rs
  obtain ⟨p, cap, rfl, -⟩ := hv
  obtain ⟨t, ht⟩ : ∃ t, cby rs = t := ⟨_, rfl⟩
  rw [ht] at c51 hlen hfit hpp ⊢
  have c50 := fun W v' (hb : Bs W v' t) => callsIn_wide.1 (cut164 W v' t hb hlen)
  clear h hL hT ht
  obtain ⟨FR, hFR⟩ : ∃ FR, s.wrc L.e L.used t = FR := ⟨_, rfl⟩
  rw [hFR]
  have HFR := Lib.hid hFR
  clear hFR
  go_enter Tryz.func134, Tryz.ntmps134
  go_wp2_with (first
    | (go_at_call 169; refine c51.mono ?_; rintro e w1 ⟨v1, rfl, hb1, hB1⟩; have HB1 := Lib.hid hB1; have HV1 := Lib.hid hb1; obtain ⟨q1, qc1, rfl, -⟩ := hb1.bs; clear hb1 hB1)
    | (go_at_call 164; refine (c50 _ _ HV1.out.bs).mono ?_; rintro e w2 ⟨v2, rfl, hr2, hB2⟩; have HB2 := Lib.hid (HB1.out.trans (hB2.mono HB1.out.size)); have HR2 := Lib.hid (show RowB w2 w.heap.size v2 (cutL t) from RowB.mono hr2 HB1.out.size); obtain ⟨q2, qc2, rfl⟩ := hr2.hdr; clear hr2 hB2))
  obtain ⟨C, hC⟩ : ∃ C, cutL t = C := ⟨_, rfl⟩
  have HC : Hid (C.length = pn t) := by show _ = _; rw [← hC, cut_len]
  have HCx : Hid (∀ x (hx : x < C.length), C[x] = pc t x) := by show ∀ x (hx : x < C.length), C[x] = pc t x; subst hC; intro x hx; exact cut_at t hx
  rw [hC] at HR2 ⊢
  have hCl : C.length ≤ 4096 := by rw [HC.out]; omega
  have HK2 := Lib.hid (Kept.bel (d := d) (pb := pb) (mb := mb) HB2.out)
  clear hC c50 c51
  go_loopg [16] C.length (fun g s16 wr => ∃ x : Nat, x + g = C.length ∧ s16 = .int .i64 x ∧ Hid ((s.wrf L.e L.used t x).1 = 0) ∧ Hid (At wr d pb mb (s.wrf L.e L.used t x).2) ∧ Hid (Kept d pb mb w2 wr))
  case atStart => exact ⟨0, by omega, rfl, (rfl : _ = _), HA.out.on HB2.out, Kept.refl _ _ _ _⟩
  case round =>
    obtain ⟨x, hxg, rfl, hz, hAx, hKx⟩ := hrel
    have HKw := Lib.hid (HK2.out.trans hKx.out)
    have HLx := Lib.hid (HL.out.kept HKw.out)
    have HTx := Lib.hid (tab_kept HT.out HA.out HKw.out)
    obtain ⟨nv, hblk, hnv⟩ := HLx.out.blk
    obtain ⟨np, nc, rfl, -⟩ := hnv.1
    obtain ⟨c0, c1, c2, c3, c4, c5, c6, -⟩ := seven_of hblk
    cases gk with
    | zero =>
      obtain rfl : x = C.length := by omega
      have cF := flush109 wr d pb mb _ hAx.out
      have hF : FR = (s.wrf L.e L.used t C.length).2.flush := by rw [← HFR.out]; unfold Dsk.wrc; rw [← HC.out, if_neg (fun e => e hz.out)]
      subst hF
      clear hblk hnv
      go_wp2_with (first | (go_at_call 109; refine cF.mono ?_; rintro r w7 ⟨rfl, hA7, hK7⟩))
      go_ret
      exact ⟨rfl, hA7, HLx.out.kept hK7, HKw.out.trans hK7, tab_kept HTx.out hAx.out hK7⟩
    | succ g =>
      have hx : x < C.length := by omega
      have hxz : (x : Int) < (C.length : Int) := by omega
      have hx0 : (0 : Int) ≤ (x : Int) := by omega
      have hu : L.used + x ≤ 4096 := by have := HC.out; omega
      have e1 : IntKind.i64.wrap ((L.used : Int) + (x : Int)) = ((L.used + x : Nat) : Int) := by rw [IntKind.wrap_i64]; omega
      have e2 : IntKind.i64.wrap ((C.length : Int) - 1) = (C.length : Int) - 1 := by rw [IntKind.wrap_i64]; omega
      have c52 := number170 wr d pb mb l L HLx.out (L.used + x) hu
      have c53 := sectorOf171 wr (L.used + x) hu
      have HRx := Lib.hid (HR2.out.kept hKx.out lts.1 lts.2.1 lts.2.2.1)
      obtain ⟨gq, qcc, y, ev, hy, hyB⟩ := HRx.out.at hx
      injection ev with ev1 ev2 ev3
      subst ev1 ev3
      rw [HCx.out x hx] at hyB
      have HY := Lib.hid hyB.bs
      obtain ⟨yp, yc, rfl, -⟩ := hyB.bs
      have hpl := pc_le t x
      generalize hPC : pc t x = PC at *
      obtain ⟨NN, hNN⟩ : ∃ NN : Int, L.e * 65536 + ((L.used + x : Nat) : Int) = NN := ⟨_, rfl⟩
      rw [hNN] at c52
      have HNN := Lib.hid hNN
      have hNb : Hid (0 ≤ NN ∧ NN ≤ 9223372036854775807) := by show _ ∧ _; omega
      clear hblk hnv hyB hNN
      by_cases hlast : x + 1 = C.length
      · have hcmp : ((x : Int) == (C.length : Int) - 1) = true := by simp; omega
        have HKK : Hid ((fof L.e t L.used x).1 = 3) := by show _ = _; unfold fof; rw [← HC.out, if_pos hlast]
        have hput : Hid (s.wrf L.e L.used t (x + 1) = (s.wrf L.e L.used t x).2.put ((2 + (L.used + x) : Nat) : Int) 3 NN PC) := by
          show _ = _
          rw [Dsk.wrf, if_neg (fun e => e hz.out), HKK.out, show (fof L.e t L.used x).2.1 = NN from HNN.out, hPC]
        obtain ⟨W4, hW4⟩ : ∃ W4, wr.alloc (.cells #[.int .i64 3, .int .i64 NN, .slice yp PC.length yc] 190) = W4 := ⟨_, rfl⟩
        have B4 : Below wr.heap.size wr W4 := by rw [← hW4]; exact bel1 wr _
        have fr4 : W4.heap[wr.heap.size]? = some (.cells #[.int .i64 3, .int .i64 NN, .slice yp PC.length yc] 190) := by rw [← hW4]; exact heap_alloc_last wr _
        obtain ⟨nv4, lb4, hnv4⟩ := (HLx.out.on B4).blk
        obtain ⟨a0, -, -, -, a4, -, -, -⟩ := seven_of lb4
        obtain ⟨k0, -, -, -, -, -, -, -⟩ := seven_of (w := W4.drew) lb4
        obtain ⟨f0, f1, f2, -⟩ := three_of fr4
        obtain ⟨g0, g1, g2, -⟩ := three_of (w := W4.drew) fr4
        have HB4 := Lib.hid (show Below wr.heap.size wr W4.drew from B4.drew)
        have cPt := put165 W4.drew d pb mb _ (hAx.out.on HB4.out) ((2 + (L.used + x) : Nat) : Int) 3 NN (.slice yp PC.length yc) PC (HY.out.on HB4.out) (tab_on HTx.out HB4.out) hNb.out.2 (okF_of (by decide) (by decide) hNb.out.1 hpl)
        rw [← hput.out] at cPt
        unfold frm at cPt
        obtain ⟨QQ, hQQ⟩ : ∃ QQ, s.wrf L.e L.used t (x + 1) = QQ := ⟨_, rfl⟩
        rw [hQQ] at cPt
        have HQ := Lib.hid hQQ
        obtain ⟨qe, qs⟩ := QQ
        simp only at cPt
        have c53' := sectorOf171 W4.drew (L.used + x) hu
        clear lb4 hnv4 fr4 hput hQQ c53
        go_wp2_with (first
          | (go_at_call 170; refine c52.mono ?_; rintro r w3 ⟨rfl, hw3⟩; subst hw3))
        go_region_with (first
          | (go_at_call 171; refine c53'.mono ?_; rintro r w5 ⟨rfl, hw5⟩; subst hw5)
          | (go_at_call 165; refine cPt.mono ?_; rintro r w6 ⟨rfl, hA6, hK6⟩))
        all_goals
          have HA6 := Lib.hid hA6
          have HK6 := Lib.hid ((Kept.bel HB4.out).trans hK6)
          clear hA6 hK6
          by_cases hqe : qe = 0
          · subst hqe
            go_wp2
            go_roundg g
            case measure => omega
            case rel => exact ⟨x + 1, by omega, by first | rfl | simp, by show _ = _; rw [HQ.out], by rw [HQ.out]; exact HA6.out, hKx.out.trans HK6.out⟩
          · have hF : FR = (qe, qs) := by
              rw [← HFR.out]
              unfold Dsk.wrc
              have hst := wrf_stop s L.e L.used t (x := x + 1) (by rw [HQ.out]; exact hqe) (pn t - (x + 1))
              rw [show x + 1 + (pn t - (x + 1)) = pn t by have := HC.out; omega, HQ.out] at hst
              rw [hst, if_pos hqe]
            subst hF
            have hq2 : (qe != 0) = true := by simp; exact hqe
            go_wp2
            go_ret
            exact ⟨rfl, HA6.out, HLx.out.kept HK6.out, HKw.out.trans HK6.out, tab_kept HTx.out hAx.out HK6.out⟩
      · have hcmp : ((x : Int) == (C.length : Int) - 1) = false := by rw [beq_eq_false_iff_ne]; omega
        have HKK : Hid ((fof L.e t L.used x).1 = 2) := by show _ = _; unfold fof; rw [← HC.out, if_neg hlast]
        have hput : Hid (s.wrf L.e L.used t (x + 1) = (s.wrf L.e L.used t x).2.put ((2 + (L.used + x) : Nat) : Int) 2 NN PC) := by
          show _ = _
          rw [Dsk.wrf, if_neg (fun e => e hz.out), HKK.out, show (fof L.e t L.used x).2.1 = NN from HNN.out, hPC]
        obtain ⟨W4, hW4⟩ : ∃ W4, wr.alloc (.cells #[.int .i64 2, .int .i64 NN, .slice yp PC.length yc] 190) = W4 := ⟨_, rfl⟩
        have B4 : Below wr.heap.size wr W4 := by rw [← hW4]; exact bel1 wr _
        have fr4 : W4.heap[wr.heap.size]? = some (.cells #[.int .i64 2, .int .i64 NN, .slice yp PC.length yc] 190) := by rw [← hW4]; exact heap_alloc_last wr _
        obtain ⟨nv4, lb4, hnv4⟩ := (HLx.out.on B4).blk
        obtain ⟨a0, -, -, -, a4, -, -, -⟩ := seven_of lb4
        obtain ⟨k0, -, -, -, -, -, -, -⟩ := seven_of (w := W4.drew) lb4
        obtain ⟨f0, f1, f2, -⟩ := three_of fr4
        obtain ⟨g0, g1, g2, -⟩ := three_of (w := W4.drew) fr4
        have HB4 := Lib.hid (show Below wr.heap.size wr W4.drew from B4.drew)
        have cPt := put165 W4.drew d pb mb _ (hAx.out.on HB4.out) ((2 + (L.used + x) : Nat) : Int) 2 NN (.slice yp PC.length yc) PC (HY.out.on HB4.out) (tab_on HTx.out HB4.out) hNb.out.2 (okF_of (by decide) (by decide) hNb.out.1 hpl)
        rw [← hput.out] at cPt
        unfold frm at cPt
        obtain ⟨QQ, hQQ⟩ : ∃ QQ, s.wrf L.e L.used t (x + 1) = QQ := ⟨_, rfl⟩
        rw [hQQ] at cPt
        have HQ := Lib.hid hQQ
        obtain ⟨qe, qs⟩ := QQ
        simp only at cPt
        have c53' := sectorOf171 W4.drew (L.used + x) hu
        clear lb4 hnv4 fr4 hput hQQ c53
        go_wp2_with (first
          | (go_at_call 170; refine c52.mono ?_; rintro r w3 ⟨rfl, hw3⟩; subst hw3))
        go_region_with (first
          | (go_at_call 171; refine c53'.mono ?_; rintro r w5 ⟨rfl, hw5⟩; subst hw5)
          | (go_at_call 165; refine cPt.mono ?_; rintro r w6 ⟨rfl, hA6, hK6⟩))
        all_goals
          have HA6 := Lib.hid hA6
          have HK6 := Lib.hid ((Kept.bel HB4.out).trans hK6)
          clear hA6 hK6
          by_cases hqe : qe = 0
          · subst hqe
            go_wp2
            go_roundg g
            case measure => omega
            case rel => exact ⟨x + 1, by omega, by first | rfl | simp, by show _ = _; rw [HQ.out], by rw [HQ.out]; exact HA6.out, hKx.out.trans HK6.out⟩
          · have hF : FR = (qe, qs) := by
              rw [← HFR.out]
              unfold Dsk.wrc
              have hst := wrf_stop s L.e L.used t (x := x + 1) (by rw [HQ.out]; exact hqe) (pn t - (x + 1))
              rw [show x + 1 + (pn t - (x + 1)) = pn t by have := HC.out; omega, HQ.out] at hst
              rw [hst, if_pos hqe]
            subst hF
            have hq2 : (qe != 0) = true := by simp; exact hqe
            go_wp2
            go_ret
            exact ⟨rfl, HA6.out, HLx.out.kept HK6.out, HKw.out.trans HK6.out, tab_kept HTx.out hAx.out HK6.out⟩
end Go.Proofs.YtfakgfmgofblgaaGreatDoor
