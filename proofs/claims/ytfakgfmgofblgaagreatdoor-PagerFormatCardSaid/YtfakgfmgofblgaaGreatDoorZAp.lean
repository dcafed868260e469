/-
  What Append and Reset of a log do.
-/
import Derived.Test.YtfakgfmgofblgaaGreatDoorZNhElRpRcRcs
namespace Go.Proofs.YtfakgfmgofblgaaGreatDoor
open Go.RowKit Go.Maps
set_option linter.unusedVariables false      -- a walk need not use every condition
attribute [local go_sem ↓] Go.wp_at_zero Go.wp_at_succ

/-- What Append answers, and comes to. -/
def apd (s : Dsk) (L : Lg) (rs : Rs) : Int × Lg × Dsk :=
  if L.broken then (62, L, s) else if L.stale then (61, L, s) else if L.slots < L.used + pn (cby rs) then (6, L, s)
  else if (s.wrc L.e L.used (cby rs)).1 ≠ 0 then ((s.wrc L.e L.used (cby rs)).1, { L with broken := true }, (s.wrc L.e L.used (cby rs)).2)
  else (0, { L with used := L.used + pn (cby rs) }, (s.wrc L.e L.used (cby rs)).2)
theorem LAt.setBroken {w : World} {d pb mb l : Nat} {L : Lg} (h : LAt w d pb mb l L) : LAt (w.setCell ⟨l, 6, none⟩ (.bool true)) d pb mb l { L with broken := true } := by
  obtain ⟨nv, hb, hn⟩ := h.blk
  refine { h with blk := ⟨nv, ?_, hn.kp (Kp.grown (gr_set w l 6 _) (.inr (.inr (.inr rfl))))⟩ }
  rw [blk_set hb]
  rfl
theorem At.log {w w' : World} {d pb mb l : Nat} {s : Dsk} (h : At w d pb mb s) (hne : l ≠ d ∧ l ≠ pb ∧ l ≠ mb) (hg : w.grownBy w' (some l)) : At w' d pb mb s := h.grown hg hne.1 hne.2.1 hne.2.2
theorem tab_log {w w' : World} {d pb mb l : Nat} {L : Lg} (hT : TabOk w) (h : LAt w d pb mb l L) (hg : w.grownBy w' (some l)) : TabOk w' := by
  have hz := h.nz hT
  exact tab_blk hT (hg.block 0 (World.block_lt_of_cell? w _ (tab_zero hT)) (fun e => by injection e with e; exact hz e.symm))
theorem x4d (d pb mb l : Nat) : X4 d pb mb l d ∧ X4 d pb mb l pb ∧ X4 d pb mb l mb ∧ X4 d pb mb l l := ⟨.inl rfl, .inr (.inl rfl), .inr (.inr (.inl rfl)), .inr (.inr (.inr rfl))⟩
/-- What a call on a log answers. -/
def LogR (x : Int × Lg × Dsk) (d pb mb l : Nat) (w : World) (e : Ending) (w' : World) : Prop :=
  e = .returned (.int .i64 x.1) ∧ At w' d pb mb x.2.2 ∧ LAt w' d pb mb l x.2.1 ∧ Kp (X4 d pb mb l) w w' ∧ TabOk w'
theorem LAt.cells {w : World} {d pb mb l : Nat} {L : Lg} (h : LAt w d pb mb l L) : ∃ np nc, w.heap[l]? = some (.cells #[.pointer (some ⟨d, 0, none⟩), .int .i64 L.e, .int .i64 L.slots, .slice np L.note.length nc, .int .i64 L.used, .bool L.stale, .bool L.broken] 144) ∧ BsX (X4 d pb mb l) w (.slice np L.note.length nc) L.note := by
  obtain ⟨nv, hb, hn⟩ := h.blk
  obtain ⟨np, nc, rfl, -⟩ := hn.1
  exact ⟨np, nc, hb, hn⟩
theorem cell3_bel {w w' : World} {d pb mb l : Nat} {L : Lg} (h : LAt w d pb mb l L) (hb : Below w.heap.size w w') : w'.cell? ⟨l, 3, none⟩ = w.cell? ⟨l, 3, none⟩ := World.cell?_of_block (w := w) (a := ⟨l, 3, none⟩) (hb.block _ h.lt)
theorem cell3_set {w w' : World} {d pb mb l i : Nat} {L : Lg} {v : Value} (h : LAt w d pb mb l L) (hk : Kept d pb mb w w') (hi : i ≠ 3) : (w'.setCell ⟨l, i, none⟩ v).cell? ⟨l, 3, none⟩ = w.cell? ⟨l, 3, none⟩ := by
  rw [World.cell?_setCell_other (h := fun e => hi (by injection e))]
  exact World.cell?_of_block (w := w) (a := ⟨l, 3, none⟩) (hk.block _ h.lt h.ne.1 h.ne.2.1 h.ne.2.2)
/-! ### What Append does; where the log's note lies, it stays -/
set_option maxHeartbeats 4000000 in
set_option maxRecDepth 100000 in
theorem append12n (w : World) (d pb mb l : Nat) (s : Dsk) (L : Lg) (h : At w d pb mb s) (hL : LAt w d pb mb l L) (hT : TabOk w) (v : Value) (rs : Rs) (hv : Bss w v rs) (hlen : (cby rs).length ≤ 4398046511104) :
    Calls Tryz.prog 88 #[.pointer (some ⟨l, 0, none⟩), v] w fun e w' => LogR (apd s L rs) d pb mb l w e w' ∧ w'.cell? ⟨l, 3, none⟩ = w.cell? ⟨l, 3, none⟩ := by
  have c32 := ready133 w d pb mb l L hL
  have HA := Lib.hid h
  have HL := Lib.hid hL
  have HT := Lib.hid hT
  have HV := Lib.hid hv
  have hus := hL.us
  have hsl := hL.sl
  obtain ⟨vp, vc, rfl, -⟩ := hv
  obtain ⟨np, nc, hblk, -⟩ := hL.cells
  have Hblk := Lib.hid hblk
  have c33 := fun (W : World) (hb : Below w.heap.size w W) => frames86 W _ rs (HV.out.on hb) hlen
  have c34 := fun (W : World) (hb : Below w.heap.size w W) hfit => writeCommit134 W d pb mb l s L (HA.out.on hb) (HL.out.on hb) (tab_on HT.out hb) _ rs (HV.out.on hb) hlen hfit
  have hpn : pn (cby rs) ≤ 39268272421 := by unfold pn; omega
  clear h hL hT hblk
  unfold Lg.ready at c32
  obtain ⟨X, hX⟩ : ∃ X, apd s L rs = X := ⟨_, rfl⟩
  rw [hX]
  unfold apd at hX
  generalize s.wrc L.e L.used (cby rs) = Q at *
  generalize pn (cby rs) = M at *
  cases hb : L.broken with
  | true =>
    rw [hb, if_pos rfl] at hX
    rw [hb, if_pos rfl] at c32
    subst hX
    clear c33 c34 hpn
    go_enter Tryz.func88, Tryz.ntmps88
    go_wp2_with (first | (go_at_call 133; refine c32.mono ?_; rintro e w1 ⟨rfl, hb1⟩; have HB1 := Lib.hid hb1; clear hb1))
    go_ret
    exact ⟨⟨rfl, HA.out.on HB1.out, HL.out.on HB1.out, Kp.bel HB1.out, tab_on HT.out HB1.out⟩, cell3_bel HL.out HB1.out⟩
  | false =>
    rw [hb, if_neg (by decide)] at hX
    rw [hb, if_neg (by decide)] at c32
    cases hst : L.stale with
    | true =>
      rw [hst, if_pos rfl] at hX
      subst hX
      have Hst := Lib.hid hst
      clear c33 c34 hpn
      go_enter Tryz.func88, Tryz.ntmps88
      go_wp2_with (first | (go_at_call 133; refine c32.mono ?_; rintro e w1 ⟨rfl, hb1⟩; have HB1 := Lib.hid hb1; obtain ⟨-, -, -, -, -, z5, -, -⟩ := seven_of (blk_on hb1 Hblk.out); rw [Hst.out] at z5; clear hb1))
      go_ret
      exact ⟨⟨rfl, HA.out.on HB1.out, HL.out.on HB1.out, Kp.bel HB1.out, tab_on HT.out HB1.out⟩, cell3_bel HL.out HB1.out⟩
    | false =>
      rw [hst, if_neg (by decide)] at hX
      have Hst := Lib.hid hst
      have e1 : IntKind.i64.wrap ((L.slots : Int) - (L.used : Int)) = (L.slots : Int) - (L.used : Int) := by rw [IntKind.wrap_i64]; omega
      by_cases hf : L.slots < L.used + M
      · rw [if_pos hf] at hX
        subst hX
        have hfz : (L.slots : Int) - (L.used : Int) < (M : Int) := by omega
        clear c34 hpn
        go_enter Tryz.func88, Tryz.ntmps88
        go_wp2_with (first
          | (go_at_call 133; refine c32.mono ?_; rintro e w1 ⟨rfl, hb1⟩; have HB1 := Lib.hid hb1; obtain ⟨-, -, -, -, -, z5, -, -⟩ := seven_of (blk_on hb1 Hblk.out); rw [Hst.out] at z5; clear hb1)
          | (go_at_call 86; refine (c33 _ HB1.out).mono ?_; rintro e w2 ⟨rfl, hb2⟩; have HB2 := Lib.hid (bel_then HB1.out hb2); obtain ⟨-, -, y2, -, y4, -, -, -⟩ := seven_of (blk_on (bel_then HB1.out hb2) Hblk.out); clear hb2))
        go_quiet (fail)
        go_wp2
        go_ret
        have hbN := bel_then HB2.out (bel_dn w2 nq)
        exact ⟨⟨rfl, HA.out.on hbN, HL.out.on hbN, Kp.bel hbN, tab_on HT.out hbN⟩, cell3_bel HL.out hbN⟩
      · rw [if_neg hf] at hX
        have hfz : ¬ ((L.slots : Int) - (L.used : Int) < (M : Int)) := by omega
        have e2 : IntKind.i64.wrap ((L.used : Int) + (M : Int)) = ((L.used + M : Nat) : Int) := by rw [IntKind.wrap_i64]; omega
        have c34' := fun W hb => c34 W hb (by omega)
        obtain ⟨qe, qs⟩ := Q
        simp only at hX c34'
        by_cases hqe : qe = 0
        · subst hqe
          rw [if_neg (fun e => e rfl)] at hX
          subst hX
          clear c34 hpn
          go_enter Tryz.func88, Tryz.ntmps88
          go_wp2_with (first
            | (go_at_call 133; refine c32.mono ?_; rintro e w1 ⟨rfl, hb1⟩; have HB1 := Lib.hid hb1; obtain ⟨-, -, -, -, -, z5, -, -⟩ := seven_of (blk_on hb1 Hblk.out); rw [Hst.out] at z5; clear hb1)
            | (go_at_call 86; refine (c33 _ HB1.out).mono ?_; rintro e w2 ⟨rfl, hb2⟩; have HB2 := Lib.hid (bel_then HB1.out hb2); obtain ⟨-, -, y2, -, y4, -, -, -⟩ := seven_of (blk_on (bel_then HB1.out hb2) Hblk.out); clear hb2))
          go_quiet (fail)
          have hbN := Lib.hid (bel_then HB2.out (bel_dn w2 nq))
          go_wp2_with (go_at_call 134; refine (c34' _ hbN.out).mono ?_; rintro e w3 ⟨rfl, hA3, hL3, hK3, hT3⟩
                       have HA3 := Lib.hid hA3; have HL3 := Lib.hid hL3; have HT3 := Lib.hid hT3
                       have HC3 := Lib.hid ((Kept.bel (d := d) (pb := pb) (mb := mb) hbN.out).trans hK3)
                       have HK3 := Lib.hid ((Kp.bel (X := X4 d pb mb l) hbN.out).trans (Kp.kept hK3 (x4d d pb mb l).1 (x4d d pb mb l).2.1 (x4d d pb mb l).2.2.1))
                       obtain ⟨np3, nc3, hb3, -⟩ := hL3.cells
                       obtain ⟨x0, x1, x2, x3, x4, x5, x6, xf⟩ := seven_of hb3
                       have xf4 := xf 4
                       have xf6 := xf 6
                       clear hA3 hL3 hK3 hT3 hb3 xf)
          go_ret
          exact ⟨⟨rfl, HA3.out.log HL3.out.ne (gr_set _ _ _ _), (by have := HL3.out.setUsed (u := L.used + M) (by omega); rw [hst, hb, Int.natCast_add] at this; exact this), HK3.out.trans (Kp.grown (gr_set _ _ _ _) (x4d d pb mb l).2.2.2), tab_log HT3.out HL3.out (gr_set _ _ _ _)⟩, cell3_set HL.out HC3.out (by decide)⟩
        · rw [if_pos hqe] at hX
          subst hX
          have hq2 : (qe != 0) = true := by simp; exact hqe
          clear c34 hpn
          go_enter Tryz.func88, Tryz.ntmps88
          go_wp2_with (first
            | (go_at_call 133; refine c32.mono ?_; rintro e w1 ⟨rfl, hb1⟩; have HB1 := Lib.hid hb1; obtain ⟨-, -, -, -, -, z5, -, -⟩ := seven_of (blk_on hb1 Hblk.out); rw [Hst.out] at z5; clear hb1)
            | (go_at_call 86; refine (c33 _ HB1.out).mono ?_; rintro e w2 ⟨rfl, hb2⟩; have HB2 := Lib.hid (bel_then HB1.out hb2); obtain ⟨-, -, y2, -, y4, -, -, -⟩ := seven_of (blk_on (bel_then HB1.out hb2) Hblk.out); clear hb2))
          go_quiet (fail)
          have hbN := Lib.hid (bel_then HB2.out (bel_dn w2 nq))
          go_wp2_with (go_at_call 134; refine (c34' _ hbN.out).mono ?_; rintro e w3 ⟨rfl, hA3, hL3, hK3, hT3⟩
                       have HA3 := Lib.hid hA3; have HL3 := Lib.hid hL3; have HT3 := Lib.hid hT3
                       have HC3 := Lib.hid ((Kept.bel (d := d) (pb := pb) (mb := mb) hbN.out).trans hK3)
                       have HK3 := Lib.hid ((Kp.bel (X := X4 d pb mb l) hbN.out).trans (Kp.kept hK3 (x4d d pb mb l).1 (x4d d pb mb l).2.1 (x4d d pb mb l).2.2.1))
                       obtain ⟨np3, nc3, hb3, -⟩ := hL3.cells
                       obtain ⟨x0, x1, x2, x3, x4, x5, x6, xf⟩ := seven_of hb3
                       have xf4 := xf 4
                       have xf6 := xf 6
                       clear hA3 hL3 hK3 hT3 hb3 xf)
          go_ret
          exact ⟨⟨rfl, HA3.out.log HL3.out.ne (gr_set _ _ _ _), (by have := HL3.out.setBroken; rw [hst] at this; exact this), HK3.out.trans (Kp.grown (gr_set _ _ _ _) (x4d d pb mb l).2.2.2), tab_log HT3.out HL3.out (gr_set _ _ _ _)⟩, cell3_set HL.out HC3.out (by decide)⟩
theorem append88 (w : World) (d pb mb l : Nat) (s : Dsk) (L : Lg) (h : At w d pb mb s) (hL : LAt w d pb mb l L) (hT : TabOk w) (v : Value) (rs : Rs) (hv : Bss w v rs) (hlen : (cby rs).length ≤ 4398046511104) :
    Calls Tryz.prog 88 #[.pointer (some ⟨l, 0, none⟩), v] w (LogR (apd s L rs) d pb mb l w) := (append12n w d pb mb l s L h hL hT v rs hv hlen).mono fun _ _ hr => hr.1
def set5 (w : World) (l : Nat) (a b c d e : Value) : World := ((((w.setCell ⟨l, 1, none⟩ a).setCell ⟨l, 2, none⟩ b).setCell ⟨l, 3, none⟩ c).setCell ⟨l, 4, none⟩ d).setCell ⟨l, 5, none⟩ e
theorem gr5 (w : World) (l : Nat) (a b c d e : Value) : w.grownBy (set5 w l a b c d e) (some l) := ((((gr_set _ _ _ _).trans (gr_set _ _ _ _)).trans (gr_set _ _ _ _)).trans (gr_set _ _ _ _)).trans (gr_set _ _ _ _)
/-- What Reset answers, and comes to. -/
def rst (s : Dsk) (L : Lg) : Int × Lg × Dsk :=
  if L.broken then (62, L, s) else if L.e = 1099511627776 then (6, L, s)
  else if (s.hwr (L.e + 1) L.slots L.note).1 ≠ 0 then ((s.hwr (L.e + 1) L.slots L.note).1, { L with broken := true }, (s.hwr (L.e + 1) L.slots L.note).2)
  else (0, { L with e := L.e + 1, used := 0, stale := false }, (s.hwr (L.e + 1) L.slots L.note).2)
set_option maxHeartbeats 4000000 in
set_option maxRecDepth 100000 in
theorem reset125n (w : World) (d pb mb l : Nat) (s : Dsk) (L : Lg) (h : At w d pb mb s) (hL : LAt w d pb mb l L) (hT : TabOk w) (hpl : (hpay L.slots L.note).length ≤ 112) :
    Calls Tryz.prog 125 #[.pointer (some ⟨l, 0, none⟩)] w fun e w' => LogR (rst s L) d pb mb l w e w' ∧ w'.cell? ⟨l, 3, none⟩ = w.cell? ⟨l, 3, none⟩ := by
  have c32 := ready133 w d pb mb l L hL
  have HA := Lib.hid h
  have HL := Lib.hid hL
  have HT := Lib.hid hT
  have hus := hL.us
  have hsl := hL.sl
  have hpo := hL.pos
  have hto := hL.top
  obtain ⟨np, nc, hblk, hnv⟩ := hL.cells
  have Hblk := Lib.hid hblk
  have HNV := Lib.hid hnv
  clear h hL hT hblk hnv
  unfold Lg.ready at c32
  obtain ⟨X, hX⟩ : ∃ X, rst s L = X := ⟨_, rfl⟩
  rw [hX]
  unfold rst at hX
  cases hb : L.broken with
  | true =>
    rw [hb, if_pos rfl] at hX
    rw [hb, if_pos rfl] at c32
    subst hX
    go_enter Tryz.func125, Tryz.ntmps125
    go_wp2_with (first | (go_at_call 133; refine c32.mono ?_; rintro e w1 ⟨rfl, hb1⟩; have HB1 := Lib.hid hb1; clear hb1))
    go_ret
    exact ⟨⟨rfl, HA.out.on HB1.out, HL.out.on HB1.out, Kp.bel HB1.out, tab_on HT.out HB1.out⟩, cell3_bel HL.out HB1.out⟩
  | false =>
    rw [hb, if_neg (by decide)] at hX
    rw [hb, if_neg (by decide)] at c32
    by_cases he : L.e = 1099511627776
    · rw [if_pos he] at hX
      subst hX
      have he2 : (L.e == 1099511627776) = true := by simp; exact he
      go_enter Tryz.func125, Tryz.ntmps125
      go_wp2_with (first | (go_at_call 133; refine c32.mono ?_; rintro e w1 ⟨rfl, hb1⟩; have HB1 := Lib.hid hb1; obtain ⟨-, z1, -, -, -, -, -, -⟩ := seven_of (blk_on hb1 Hblk.out); clear hb1))
      go_ret
      exact ⟨⟨rfl, HA.out.on HB1.out, HL.out.on HB1.out, Kp.bel HB1.out, tab_on HT.out HB1.out⟩, cell3_bel HL.out HB1.out⟩
    · rw [if_neg he] at hX
      have he2 : (L.e == 1099511627776) = false := by simp; exact he
      have e1 : IntKind.i64.wrap (L.e + 1) = L.e + 1 := by rw [IntKind.wrap_i64]; omega
      have c28 := fun (W : World) (hb : Below w.heap.size w W) => hwrite140 W d pb mb s (HA.out.on hb) (L.e + 1) (by omega) (by omega) L.slots hsl.2 (.slice np L.note.length nc) L.note (HNV.out.on hb).1 hpl (tab_on HT.out hb)
      generalize s.hwr (L.e + 1) L.slots L.note = Q at *
      obtain ⟨qe, qs⟩ := Q
      simp only at hX c28
      by_cases hqe : qe = 0
      · subst hqe
        rw [if_neg (fun e => e rfl)] at hX
        subst hX
        ·
          go_enter Tryz.func125, Tryz.ntmps125
          go_wp2_with (first | (go_at_call 133; refine c32.mono ?_; rintro e w1 ⟨rfl, hb1⟩
                                have HB1 := Lib.hid hb1
                                obtain ⟨W2, hW2⟩ : ∃ W2, w1.alloc (.cells #[.int .i64 (L.e + 1), .int .i64 L.slots, .slice np L.note.length nc] 141) = W2 := ⟨_, rfl⟩
                                have b2 : Below w1.heap.size w1 W2 := by rw [← hW2]; exact bel1 w1 _
                                have fr2 : W2.heap[w1.heap.size]? = some (.cells #[.int .i64 (L.e + 1), .int .i64 L.slots, .slice np L.note.length nc] 141) := by rw [← hW2]; exact heap_alloc_last w1 _
                                obtain ⟨z0, z1, z2, z3, -, -, -, -⟩ := seven_of (blk_on hb1 Hblk.out)
                                obtain ⟨y0, y1, y2, y3, -, -, -, -⟩ := seven_of (blk_on (bel_then hb1 b2) Hblk.out)
                                obtain ⟨yd0, -, -, -, -, -, -, -⟩ := seven_of (w := W2.drew) (blk_on (bel_then hb1 b2) Hblk.out)
                                obtain ⟨f0, f1, f2, -⟩ := three_of fr2
                                obtain ⟨g0, g1, g2, -⟩ := three_of (w := W2.drew) fr2
                                have HB2 := Lib.hid (show Below w.heap.size w W2.drew from (bel_then hb1 b2).drew)
                                have HF2 := Lib.hid fr2
                                have hzw : w.heap.size ≤ w1.heap.size := hb1.size
                                clear hb1 b2 fr2))
          go_region_with (first | (go_at_call 140; refine (c28 _ HB2.out).mono ?_; rintro e w3 ⟨rfl, hA3, hK3⟩
                                   have hL3 := (HL.out.on HB2.out).kept hK3
                                   have hlts := (HA.out).lts
                                   have k3 := (hK3.block w1.heap.size (Array.getElem?_eq_some_iff.1 HF2.out).1 (by omega) (by omega) (by omega)).trans HF2.out
                                   obtain ⟨q0, q1, q2, -⟩ := three_of k3
                                   obtain ⟨np3, nc3, hb3, -⟩ := hL3.cells
                                   obtain ⟨x0, x1, x2, x3, x4, x5, x6, xf⟩ := seven_of hb3
                                   have xf1 := xf 1
                                   have xf2 := xf 2
                                   have xf3 := xf 3
                                   have xf4 := xf 4
                                   have xf5 := xf 5
                                   have xf6 := xf 6
                                   have HA3 := Lib.hid hA3
                                   have HL3 := Lib.hid hL3
                                   have HT3 := Lib.hid (tab_kept (tab_on HT.out HB2.out) (HA.out.on HB2.out) hK3)
                                   have HK3 := Lib.hid ((Kp.bel (X := X4 d pb mb l) HB2.out).trans (Kp.kept hK3 (x4d d pb mb l).1 (x4d d pb mb l).2.1 (x4d d pb mb l).2.2.1))
                                   have Hb3 := Lib.hid ((hK3.block l (HL.out.on HB2.out).lt HL.out.ne.1 HL.out.ne.2.1 HL.out.ne.2.2).trans (blk_on HB2.out Hblk.out))
                                   clear hA3 hL3 hK3 hb3 xf k3 hlts))
          all_goals go_wp2
          all_goals
            go_ret
            have hg5 := gr5 w3 l (.int .i64 (L.e + 1)) (.int .i64 L.slots) (.slice np L.note.length nc) (.int .i64 0) (.bool false)
            have hb5 : (set5 w3 l (.int .i64 (L.e + 1)) (.int .i64 L.slots) (.slice np L.note.length nc) (.int .i64 0) (.bool false)).heap[l]? = some (.cells #[.pointer (some ⟨d, 0, none⟩), .int .i64 (L.e + 1), .int .i64 L.slots, .slice np L.note.length nc, .int .i64 ((0 : Nat) : Int), .bool false, .bool false] 144) := by
              unfold set5
              rw [blk_set (blk_set (blk_set (blk_set (blk_set Hb3.out _) _) _) _) _]
              rw [hb]
              rfl
            refine ⟨⟨rfl, HA3.out.log HL3.out.ne hg5, ?_, HK3.out.trans (Kp.grown hg5 (x4d d pb mb l).2.2.2), tab_log HT3.out HL3.out hg5⟩, ?_⟩
            · exact { HL3.out with blk := ⟨.slice np L.note.length nc, hb5, HNV.out.kp (HK3.out.trans (Kp.grown hg5 (x4d d pb mb l).2.2.2))⟩, pos := by show 0 < L.e + 1; omega, top := by show L.e + 1 ≤ _; omega, us := Nat.zero_le _ }
            · obtain ⟨-, -, -, q3, -⟩ := seven_of hb5
              obtain ⟨-, -, -, q3', -⟩ := seven_of Hblk.out
              exact q3.trans q3'.symm
      · rw [if_pos hqe] at hX
        subst hX
        have hq2 : (qe != 0) = true := by simp; exact hqe
        ·
          go_enter Tryz.func125, Tryz.ntmps125
          go_wp2_with (first | (go_at_call 133; refine c32.mono ?_; rintro e w1 ⟨rfl, hb1⟩
                                have HB1 := Lib.hid hb1
                                obtain ⟨W2, hW2⟩ : ∃ W2, w1.alloc (.cells #[.int .i64 (L.e + 1), .int .i64 L.slots, .slice np L.note.length nc] 141) = W2 := ⟨_, rfl⟩
                                have b2 : Below w1.heap.size w1 W2 := by rw [← hW2]; exact bel1 w1 _
                                have fr2 : W2.heap[w1.heap.size]? = some (.cells #[.int .i64 (L.e + 1), .int .i64 L.slots, .slice np L.note.length nc] 141) := by rw [← hW2]; exact heap_alloc_last w1 _
                                obtain ⟨z0, z1, z2, z3, -, -, -, -⟩ := seven_of (blk_on hb1 Hblk.out)
                                obtain ⟨y0, y1, y2, y3, -, -, -, -⟩ := seven_of (blk_on (bel_then hb1 b2) Hblk.out)
                                obtain ⟨yd0, -, -, -, -, -, -, -⟩ := seven_of (w := W2.drew) (blk_on (bel_then hb1 b2) Hblk.out)
                                obtain ⟨f0, f1, f2, -⟩ := three_of fr2
                                obtain ⟨g0, g1, g2, -⟩ := three_of (w := W2.drew) fr2
                                have HB2 := Lib.hid (show Below w.heap.size w W2.drew from (bel_then hb1 b2).drew)
                                have HF2 := Lib.hid fr2
                                have hzw : w.heap.size ≤ w1.heap.size := hb1.size
                                clear hb1 b2 fr2))
          go_region_with (first | (go_at_call 140; refine (c28 _ HB2.out).mono ?_; rintro e w3 ⟨rfl, hA3, hK3⟩
                                   have hL3 := (HL.out.on HB2.out).kept hK3
                                   have hlts := (HA.out).lts
                                   have k3 := (hK3.block w1.heap.size (Array.getElem?_eq_some_iff.1 HF2.out).1 (by omega) (by omega) (by omega)).trans HF2.out
                                   obtain ⟨q0, q1, q2, -⟩ := three_of k3
                                   obtain ⟨np3, nc3, hb3, -⟩ := hL3.cells
                                   obtain ⟨x0, x1, x2, x3, x4, x5, x6, xf⟩ := seven_of hb3
                                   have xf1 := xf 1
                                   have xf2 := xf 2
                                   have xf3 := xf 3
                                   have xf4 := xf 4
                                   have xf5 := xf 5
                                   have xf6 := xf 6
                                   have HA3 := Lib.hid hA3
                                   have HL3 := Lib.hid hL3
                                   have HT3 := Lib.hid (tab_kept (tab_on HT.out HB2.out) (HA.out.on HB2.out) hK3)
                                   have HK3 := Lib.hid ((Kp.bel (X := X4 d pb mb l) HB2.out).trans (Kp.kept hK3 (x4d d pb mb l).1 (x4d d pb mb l).2.1 (x4d d pb mb l).2.2.1))
                                   have Hb3 := Lib.hid ((hK3.block l (HL.out.on HB2.out).lt HL.out.ne.1 HL.out.ne.2.1 HL.out.ne.2.2).trans (blk_on HB2.out Hblk.out))
                                   have HC3 := Lib.hid ((Kept.bel (d := d) (pb := pb) (mb := mb) HB2.out).trans hK3)
                                   clear hA3 hL3 hK3 hb3 xf k3 hlts))
          all_goals go_wp2
          all_goals
            go_ret
            exact ⟨⟨rfl, HA3.out.log HL3.out.ne (gr_set _ _ _ _), HL3.out.setBroken, HK3.out.trans (Kp.grown (gr_set _ _ _ _) (x4d d pb mb l).2.2.2), tab_log HT3.out HL3.out (gr_set _ _ _ _)⟩, cell3_set HL.out HC3.out (by decide)⟩
theorem reset125 (w : World) (d pb mb l : Nat) (s : Dsk) (L : Lg) (h : At w d pb mb s) (hL : LAt w d pb mb l L) (hT : TabOk w) (hpl : (hpay L.slots L.note).length ≤ 112) :
    Calls Tryz.prog 125 #[.pointer (some ⟨l, 0, none⟩)] w (LogR (rst s L) d pb mb l w) := (reset125n w d pb mb l s L h hL hT hpl).mono fun _ _ hr => hr.1
end Go.Proofs.YtfakgfmgofblgaaGreatDoor
