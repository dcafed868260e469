/-
  What writePage of a layout does.
  What readFrame of package wal does.
  What readHead of package wal does.
-/
import Derived.Test.YtfakgfmgofblgaaGreatDoorZComRcomSlcRecLa
import Derived.Test.YtfakgfmgofblgaaGreatDoorZWc
namespace Go.Proofs.YtfakgfmgofblgaaGreatDoor
open Go.RowKit Go.Maps
set_option linter.unusedVariables false      -- a walk need not use every condition
attribute [local go_sem ↓] Go.wp_at_zero Go.wp_at_succ

/-- The first x of a page's sectors are written, from the sector a on; the frames' numbers from n on. -/
def Dsk.wpf (s : Dsk) (a n : Nat) (b : List UInt8) : Nat → Int × Dsk
  | 0 => (0, s)
  | x + 1 => if (s.wpf a n b x).1 ≠ 0 then s.wpf a n b x else (s.wpf a n b x).2.put ((a + x : Nat) : Int) 4 ((n + x : Nat) : Int) (pc b x)
def Dsk.wpg (s : Dsk) (slots page : Nat) (b : List UInt8) : Int × Dsk := s.wpf (2 + slots + 4 * page) (4 * page) b 4
theorem wpf_stop (s : Dsk) (a n : Nat) (b : List UInt8) {x : Nat} (h : (s.wpf a n b x).1 ≠ 0) : ∀ y, s.wpf a n b (x + y) = s.wpf a n b x
  | 0 => rfl
  | y + 1 => by
    have ih := wpf_stop s a n b h y
    show s.wpf a n b ((x + y) + 1) = _
    rw [Dsk.wpf, ih, if_pos h]
theorem pc_out {t : List UInt8} {x : Nat} (h : pn t ≤ x) : pc t x = [] := by
  unfold pc
  rw [List.drop_of_length_le (by unfold pn at h; omega), List.take_nil]
theorem pair_of {w : World} {g : Nat} {a b : Value} {t : TypeId} (hb : w.heap[g]? = some (.cells #[a, b] t)) : w.cell? ⟨g, 0, none⟩ = some a ∧ w.cell? ⟨g, 1, none⟩ = some b ∧ ∀ i, w.frozen? ⟨g, i, none⟩ = false := by
  refine ⟨?_, ?_, fun i => ?_⟩ <;> simp [World.cell?, World.frozen?, hb]
set_option maxHeartbeats 4000000 in
set_option maxRecDepth 100000 in
theorem writePage124 (w : World) (d pb mb : Nat) (s : Dsk) (h : At w d pb mb s) (hT : TabOk w) (slots page : Nat) (pages : Int) (hs : slots ≤ 4096) (hp : page ≤ 2048) (v : Value) (b : List UInt8) (hv : Bs w v b) (hb : b.length ≤ 448) :
    Calls Tryz.prog 124 #[.agg #[.int .i64 slots, .int .i64 pages], .pointer (some ⟨d, 0, none⟩), .int .i64 page, v] w fun e w' => e = .returned (.int .i64 (s.wpg slots page b).1) ∧ At w' d pb mb (s.wpg slots page b).2 ∧ Kept d pb mb w w' ∧ TabOk w' := by
  have HA := Lib.hid h
  have HT := Lib.hid hT
  have HV := Lib.hid hv
  have lts := h.lts
  have hpn : pn b ≤ 4 := by unfold pn; omega
  obtain ⟨p, cap, rfl, -⟩ := hv
  have c164 := fun W v' (hb' : Bs W v' b) => callsIn_wide.1 (cut164 W v' b hb' (by omega))
  obtain ⟨a, ha⟩ : ∃ a, 2 + slots + 4 * page = a := ⟨_, rfl⟩
  have c137 := fun W => sectorOf137 W pages slots page hs hp
  rw [ha] at c137
  obtain ⟨FR, hFR⟩ : ∃ FR, s.wpg slots page b = FR := ⟨_, rfl⟩
  have HFR : Hid (s.wpf a (4 * page) b 4 = FR) := by show _ = _; rw [← hFR]; unfold Dsk.wpg; rw [ha]
  rw [hFR]
  have ha2 : a ≤ 2 + 4096 + 4 * 2048 := by omega
  have e1 : IntKind.i64.wrap ((4 : Int) * (page : Int)) = 4 * (page : Int) := by rw [IntKind.wrap_i64]; omega
  have k0 := heap_alloc_last w (.cells #[.int .i64 (slots : Int), .int .i64 pages] 60)
  have K0 := Lib.hid k0
  clear h hT ha hFR k0
  obtain ⟨bl, hbl⟩ : ∃ bl, b.length = bl := ⟨_, rfl⟩
  rw [hbl] at HV ⊢
  clear hbl
  go_enter Tryz.func124, Tryz.ntmps124
  go_wp2_with (first
    | (go_at_call 164; refine (c164 _ _ (HV.out.on (bel1 w _))).mono ?_; rintro e w2 ⟨v2, rfl, hr2, hB2⟩; have HB2 := Lib.hid (bel_then (bel1 w (.cells #[.int .i64 (slots : Int), .int .i64 pages] 60)) hB2); have HK2 := Lib.hid (blk_on hB2 K0.out); have HR2 := Lib.hid (show RowB w2 w.heap.size v2 (cutL b) from RowB.mono hr2 (by simp)); obtain ⟨q2, qc2, rfl⟩ := hr2.hdr; clear hr2 hB2))
  obtain ⟨C, hC⟩ : ∃ C, cutL b = C := ⟨_, rfl⟩
  have HC : Hid (C.length = pn b) := by show _ = _; rw [← hC, cut_len]
  have HCx : Hid (∀ x (hx : x < C.length), C[x] = pc b x) := by show ∀ x (hx : x < C.length), C[x] = pc b x; subst hC; intro x hx; exact cut_at b hx
  rw [hC] at HR2 ⊢
  have hCl : C.length ≤ 4 := by rw [HC.out]; omega
  have HKP2 := Lib.hid (Kept.bel (d := d) (pb := pb) (mb := mb) HB2.out)
  clear hC c164
  go_loopg [15] 4 (fun g s15 wr => ∃ x : Nat, x + g = 4 ∧ s15 = .int .i64 x ∧ Hid ((s.wpf a (4 * page) b x).1 = 0) ∧ Hid (At wr d pb mb (s.wpf a (4 * page) b x).2) ∧ Hid (Kept d pb mb w2 wr))
  case atStart => exact ⟨0, by omega, rfl, (rfl : _ = _), HA.out.on HB2.out, Kept.refl _ _ _ _⟩
  case round =>
    obtain ⟨x, hxg, rfl, hz, hAx, hKx⟩ := hrel
    have HKw := Lib.hid (HKP2.out.trans hKx.out)
    have HTx := Lib.hid (tab_kept HT.out HA.out HKw.out)
    cases gk with
    | zero =>
      obtain rfl : x = 4 := by omega
      have hF : FR = (0, (s.wpf a (4 * page) b 4).2) := by rw [← HFR.out]; exact Prod.ext hz.out rfl
      subst hF
      go_wp2
      go_ret
      exact ⟨rfl, hAx.out, HKw.out, HTx.out⟩
    | succ g =>
      have hx4 : x < 4 := by omega
      have hxz : (x : Int) < 4 := by omega
      have hx0 : (0 : Int) ≤ (x : Int) := by omega
      have e2 : IntKind.i64.wrap (4 * (page : Int) + (x : Int)) = ((4 * page + x : Nat) : Int) := by rw [IntKind.wrap_i64]; omega
      have e3 : IntKind.i64.wrap ((a : Int) + (x : Int)) = ((a + x : Nat) : Int) := by rw [IntKind.wrap_i64]; omega
      have kx : wr.heap[w.heap.size]? = some (.cells #[.int .i64 (slots : Int), .int .i64 pages] 60) := (hKx.out.block _ (Array.getElem?_eq_some_iff.1 HK2.out).1 (by omega) (by omega) (by omega)).trans HK2.out
      have KX := Lib.hid kx
      have hpl := pc_le b x
      obtain ⟨NN, hNN⟩ : ∃ NN, 4 * page + x = NN := ⟨_, rfl⟩
      obtain ⟨AA, hAA⟩ : ∃ AA, a + x = AA := ⟨_, rfl⟩
      have hNb : Hid (NN ≤ 9000) := by show _ ≤ _; omega
      have HPU : Hid (s.wpf a (4 * page) b (x + 1) = (s.wpf a (4 * page) b x).2.put ((AA : Nat) : Int) 4 ((NN : Nat) : Int) (pc b x)) := by
        show _ = _
        rw [Dsk.wpf, if_neg (fun e => e hz.out), hNN, hAA]
      rw [hNN] at e2
      rw [hAA] at e3
      obtain ⟨QQ, hQQ⟩ : ∃ QQ, s.wpf a (4 * page) b (x + 1) = QQ := ⟨_, rfl⟩
      have HQ := Lib.hid hQQ
      obtain ⟨qe, qs⟩ := QQ
      have HST : Hid (qe ≠ 0 → FR = (qe, qs)) := fun hqe => by
        rw [← HFR.out]
        have hst := wpf_stop s a (4 * page) b (x := x + 1) (by rw [HQ.out]; exact hqe) (4 - (x + 1))
        rw [show x + 1 + (4 - (x + 1)) = 4 by omega, HQ.out] at hst
        exact hst
      clear kx hNN hAA hQQ
      by_cases hlt : x < C.length
      · have hltz : (x : Int) < (C.length : Int) := by omega
        have HRx := Lib.hid (HR2.out.kept hKx.out lts.1 lts.2.1 lts.2.2.1)
        obtain ⟨gq, qcc, y, ev, hy, hyB⟩ := HRx.out.at hlt
        injection ev with ev1 ev2 ev3
        subst ev1 ev3
        rw [HCx.out x hlt] at hyB
        have HY := Lib.hid hyB.bs
        obtain ⟨yp, yc, rfl, -⟩ := hyB.bs
        generalize hPC : pc b x = PC at *
        obtain ⟨PL, hPL⟩ : ∃ PL, PC.length = PL := ⟨_, rfl⟩
        rw [hPL] at hy HY
        have hy4 := cell_on (bel1 wr (.cells #[.int .i64 4, .int .i64 (NN : Int), .slice none 0 0] 190)) hy
        obtain ⟨W5, hW5⟩ : ∃ W5, wr.alloc (.cells #[.int .i64 4, .int .i64 (NN : Int), .slice yp PL yc] 190) = W5 := ⟨_, rfl⟩
        have B5 : Below wr.heap.size wr W5 := by rw [← hW5]; exact bel1 wr _
        have fr5' : W5.heap[wr.heap.size]? = some (.cells #[.int .i64 4, .int .i64 (NN : Int), .slice yp PL yc] 190) := by rw [← hW5]; exact heap_alloc_last wr _
        have l5 := blk_on B5 KX.out
        have HB5 := Lib.hid (show Below wr.heap.size wr W5.drew from B5.drew)
        obtain ⟨l0, l1, -⟩ := pair_of (w := W5.drew) l5
        obtain ⟨g0, g1, g2, -⟩ := three_of (w := W5.drew) fr5'
        have FR5 := Lib.hid (show W5.drew.heap[wr.heap.size]? = some (.cells #[.int .i64 4, .int .i64 (NN : Int), .slice yp PL yc] 190) from fr5')
        have cPt := fun (W6 : World) (hb6 : Below wr.heap.size wr W6) => put165 W6 d pb mb _ (hAx.out.on hb6) ((AA : Nat) : Int) 4 (NN : Int) (.slice yp PL yc) PC (HY.out.on hb6) (tab_on HTx.out hb6) (by have := hNb.out; omega) (okF_of (by decide) (by decide) (by omega) hpl)
        rw [← HPU.out, HQ.out] at cPt
        unfold frm at cPt
        simp only at cPt
        have HW5 := Lib.hid hW5
        clear fr5' l5 B5 hPL hPC hyB hW5
        go_wp2
        rw [HW5.out]
        go_region_with (first
          | (go_at_call 137; refine (c137 _).mono ?_; rintro r w6 ⟨rfl, hb6⟩
             have HB6 := Lib.hid (bel_then HB5.out hb6)
             obtain ⟨m0, m1, m2, -⟩ := three_of (blk_on hb6 FR5.out)
             clear hb6)
          | (go_at_call 165; refine (cPt _ HB6.out).mono ?_; rintro r w7 ⟨rfl, hA7, hK7⟩))
        all_goals
          have HA7 := Lib.hid hA7
          have HK7 := Lib.hid ((Kept.bel HB6.out).trans hK7)
          clear hA7 hK7
          by_cases hqe : qe = 0
          · subst hqe
            go_wp2
            go_roundg g
            case measure => omega
            case rel => exact ⟨x + 1, by omega, by first | rfl | simp, by show _ = _; rw [HQ.out], by rw [HQ.out]; exact HA7.out, hKx.out.trans HK7.out⟩
          · have hF := HST.out hqe
            subst hF
            have hq2 : (qe != 0) = true := by simp; exact hqe
            go_wp2
            go_ret
            exact ⟨rfl, HA7.out, HKw.out.trans HK7.out, tab_kept HTx.out hAx.out HK7.out⟩
      · have hltz : ¬ ((x : Int) < (C.length : Int)) := by omega
        have hPC : pc b x = [] := pc_out (by rw [← HC.out]; omega)
        rw [hPC] at HPU hpl
        obtain ⟨W5, hW5⟩ : ∃ W5, wr.alloc (.cells #[.int .i64 4, .int .i64 (NN : Int), .slice none 0 0] 190) = W5 := ⟨_, rfl⟩
        have B5 : Below wr.heap.size wr W5 := by rw [← hW5]; exact bel1 wr _
        have fr5' : W5.heap[wr.heap.size]? = some (.cells #[.int .i64 4, .int .i64 (NN : Int), .slice none 0 0] 190) := by rw [← hW5]; exact heap_alloc_last wr _
        have l5 := blk_on B5 KX.out
        have HB5 := Lib.hid (show Below wr.heap.size wr W5.drew from B5.drew)
        obtain ⟨l0, l1, -⟩ := pair_of (w := W5.drew) l5
        obtain ⟨g0, g1, g2, -⟩ := three_of (w := W5.drew) fr5'
        have FR5 := Lib.hid (show W5.drew.heap[wr.heap.size]? = some (.cells #[.int .i64 4, .int .i64 (NN : Int), .slice none 0 0] 190) from fr5')
        have cPt := fun (W6 : World) (hb6 : Below wr.heap.size wr W6) => put165 W6 d pb mb _ (hAx.out.on hb6) ((AA : Nat) : Int) 4 (NN : Int) (.slice none 0 0) [] (bs_nil _) (tab_on HTx.out hb6) (by have := hNb.out; omega) (okF_of (by decide) (by decide) (by omega) hpl)
        rw [← HPU.out, HQ.out] at cPt
        unfold frm at cPt
        simp only at cPt
        have HW5 := Lib.hid hW5
        clear fr5' l5 B5 hW5
        go_wp2
        rw [HW5.out]
        go_region_with (first
          | (go_at_call 137; refine (c137 _).mono ?_; rintro r w6 ⟨rfl, hb6⟩
             have HB6 := Lib.hid (bel_then HB5.out hb6)
             obtain ⟨m0, m1, m2, -⟩ := three_of (blk_on hb6 FR5.out)
             clear hb6)
          | (go_at_call 165; refine (cPt _ HB6.out).mono ?_; rintro r w7 ⟨rfl, hA7, hK7⟩))
        all_goals
          have HA7 := Lib.hid hA7
          have HK7 := Lib.hid ((Kept.bel HB6.out).trans hK7)
          clear hA7 hK7
          by_cases hqe : qe = 0
          · subst hqe
            go_wp2
            go_roundg g
            case measure => omega
            case rel => exact ⟨x + 1, by omega, by first | rfl | simp, by show _ = _; rw [HQ.out], by rw [HQ.out]; exact HA7.out, hKx.out.trans HK7.out⟩
          · have hF := HST.out hqe
            subst hF
            have hq2 : (qe != 0) = true := by simp; exact hqe
            go_wp2
            go_ret
            exact ⟨rfl, HA7.out, HKw.out.trans HK7.out, tab_kept HTx.out hAx.out HK7.out⟩
end Go.Proofs.YtfakgfmgofblgaaGreatDoor
namespace Go.Proofs.YtfakgfmgofblgaaGreatDoor
open Go.RowKit Go.Maps
set_option linter.unusedVariables false      -- a walk need not use every condition
attribute [local go_sem ↓] Go.wp_at_zero Go.wp_at_succ

/-- What is read of a sector: its bytes, or nothing. -/
def Dsk.con (s : Dsk) (i : Nat) : Option (List UInt8) := match s.ca i with | some b => some b | none => if s.tn i then none else some (s.st i)
/-- The frame that stands in bytes. -/
def frO : Option (List UInt8) → Option (Int × Int × List UInt8)
  | none => none
  | some b => if oE b = 0 then some (oK b, oN b, oP b) else none
theorem frO_yes {b : List UInt8} (h : oE b = 0) : frO (some b) = some (oK b, oN b, oP b) := by simp [frO, h]
theorem frO_no {b : List UInt8} (h : oE b ≠ 0) : frO (some b) = none := by simp [frO, h]
theorem read_con {s : Dsk} {i : Nat} (hd : s.down = false) (hi : i < s.N) : (∃ b, s.con i = some b ∧ s.read i = (b, 0)) ∨ (s.con i = none ∧ s.read i = (zer, 40)) := by
  have hr : s.reach (i : Int) = 0 := by
    unfold Dsk.reach Dsk.hasB
    rw [hd]
    simp
    omega
  have hrd : s.read (i : Int) = match s.ca i with | some bs => (bs, 0) | none => if s.tn i then (zer, 40) else (s.st i, 0) := by
    unfold Dsk.read
    rw [if_neg (fun e => e hr), Int.toNat_natCast]
    rfl
  rw [hrd]
  unfold Dsk.con
  cases hc : s.ca i with
  | some b => exact .inl ⟨b, rfl, rfl⟩
  | none =>
    cases ht : s.tn i with
    | true => exact .inr ⟨rfl, rfl⟩
    | false => exact .inl ⟨_, rfl, rfl⟩
theorem con_len {w : World} {d pb mb : Nat} {s : Dsk} (h : At w d pb mb s) {i : Nat} (hi : i < s.N) {b : List UInt8} (hb : s.con i = some b) : b.length = 128 := by
  unfold Dsk.con at hb
  cases hc : s.ca i with
  | some c =>
    rw [hc] at hb
    injection hb with hb
    subst hb
    obtain ⟨n, D, -, ht⟩ := h.own
    exact ht.len _ _ hc
  | none =>
    rw [hc] at hb
    simp only at hb
    split at hb
    · cases hb
    · injection hb with hb
      subst hb
      exact h.sl i hi
/-- What readFrame answers. -/
def FrmR (x : Option (Int × Int × List UInt8)) (w : World) (e : Ending) (w' : World) : Prop :=
  ∃ (K N : Int) (P : List UInt8) (p : Option Addr) (c : Nat), e = .returned (.tuple #[.agg #[.int .i64 K, .int .i64 N, .slice p P.length c], .bool x.isSome]) ∧ Bs w' (.slice p P.length c) P ∧ Fresh w.heap.size (.slice p P.length c) ∧ (∀ y, x = some y → y = (K, N, P)) ∧ Below w.heap.size w w'
set_option maxHeartbeats 2000000 in
set_option maxRecDepth 100000 in
theorem readFrame175 (w : World) (d pb mb : Nat) (s : Dsk) (h : At w d pb mb s) (hT : TabOk w) (hd : s.down = false) (i : Nat) (hi : i < s.N) :
    Calls Tryz.prog 175 #[.pointer (some ⟨d, 0, none⟩), .int .i64 i] w (FrmR (frO (s.con i)) w) := by
  obtain ⟨W0, hW0⟩ : ∃ W0, w.alloc (.cells #[.int .i64 0, .int .i64 0, .slice none 0 0] 190) = W0 := ⟨_, rfl⟩
  have B0 : Below w.heap.size w W0 := by rw [← hW0]; exact bel1 w _
  have blk0 : W0.heap[w.heap.size]? = some (.cells #[.int .i64 0, .int .i64 0, .slice none 0 0] 190) := by rw [← hW0]; exact heap_alloc_last w _
  have cR := read152 W0 d pb mb s (h.on B0) i
  have HT := Lib.hid (tab_on hT B0)
  have HB0 := Lib.hid B0
  have Hb0 := Lib.hid blk0
  rcases read_con hd hi with ⟨b, hb, hr⟩ | ⟨hb, hr⟩
  · have hl := con_len h hi hb
    have HL := Lib.hid hl
    rw [hr] at cR
    simp only at cR
    rw [hb]
    have hi1 : (Tryz.prog.info? 118).map (·.size) = some (enc b).length := by rw [size26, len_enc, hl]
    have cO := fun W hW => open153 W b hl hW
    unfold frm at cO
    clear h hT hd hi hl hr B0 blk0 hb
    go_enter Tryz.func175, Tryz.ntmps175
    go_wp2_with (first
      | (go_at_call 152; refine cR.mono ?_; rintro e W1 ⟨rfl, hb1⟩)
      | (with_reducible show wpList _ _ _ (Oper.mk (some 6) (Op.alloc 118) _ _ _ _ :: _) _ _
         refine wpList_alloc26 rfl rfl ?_; intro W2 hW2 zW2 sW2)
      | (with_reducible show wpList _ _ _ (Oper.mk _ (Op.store 118 (Operand.tmp 6) _) _ _ _ _ :: _) _ _
         refine wpList_store26 rfl _ _ rfl W1.heap.size 0 b rfl rfl sW2.th HL.out ?_; intro W3 g3 r3 t3 z3
         have HB3 : Hid (Below W0.heap.size W0 W3) := (bel_then hb1 hW2).grown g3 (by have := hb1.size; have := hW2.size; omega) (fun k e => by injection e with e; have := hb1.size; omega)
         clear hb1 hW2 sW2 g3 t3)
      | (with_reducible show wpList _ _ _ (Oper.mk _ (Op.load 118 (Operand.tmp 6)) _ _ _ _ :: _) _ _
         refine wpList_load_mid rfl 118 _ rfl _ _ rfl _ _ r3 Tryz.underlying118 rfl hi1 ?_)
      | (go_at_call 153; refine (cO _ (tab_on HT.out HB3.out)).mono ?_; rintro e W4 ⟨pv, rfl, hpv, hfr, hb4⟩
         have HB4 := Lib.hid (bel_then HB3.out hb4)
         have HPV := Lib.hid hpv
         have HFR := Lib.hid hfr
         obtain ⟨pp, pq, rfl, -⟩ := hpv
         have k4 := blk_on HB4.out Hb0.out
         have k5 := blk_on (bel1 W4 (.cells #[.int .i64 (oK b), .int .i64 (oN b), .slice pp (oP b).length pq] 190)) k4
         obtain ⟨u0, u1, u2, uf⟩ := three_of k5
         have uf0 := uf 0
         have uf1 := uf 1
         have uf2 := uf 2
         clear hfr hb4 uf k4))
    have hz : w.heap.size < W3.heap.size := by have := (Array.getElem?_eq_some_iff.1 (blk_on HB3.out Hb0.out)).1; exact this
    refine bodyPost_ret (v := .tuple #[.agg #[.int .i64 (oK b), .int .i64 (oN b), .slice pp (oP b).length pq], .bool (oE b == 0)]) (results24 Tryz.results175 _ _ w.heap.size _ _ _ rfl (blk_put3 k5 _ _ _)) rfl ?_
    refine ⟨oK b, oN b, oP b, pp, pq, ?_, (HPV.out.on (bel1 _ _)).grownB (gr_put3 _ _ _ _ _) (fun g o n c e => by have := HFR.out g o n c e; omega), HFR.out.mono (by omega), fun y e => ?_, ?_⟩
    · have : (frO (some b)).isSome = (oE b == 0) := by
        by_cases h : oE b = 0
        · rw [frO_yes h, h]; rfl
        · rw [frO_no h]; simp [h]
      rw [this]
    · by_cases h : oE b = 0
      · rw [frO_yes h] at e; injection e with e; exact e.symm
      · rw [frO_no h] at e; cases e
    · exact ((HB0.out.trans (HB4.out.mono HB0.out.size)).alloc (Nat.le_trans HB0.out.size HB4.out.size) _).grown (gr_put3 _ _ _ _ _) (by have := HB0.out.size; have := HB4.out.size; simp; omega) (fun k e => by injection e with e; omega)
  · rw [hr] at cR
    simp only at cR
    rw [hb]
    clear h hT hd hi hr B0 blk0 hb
    go_enter Tryz.func175, Tryz.ntmps175
    go_wp2_with (first
      | (go_at_call 152; refine cR.mono ?_; rintro e W1 ⟨rfl, hb1⟩)
      | (with_reducible show wpList _ _ _ (Oper.mk (some 6) (Op.alloc 118) _ _ _ _ :: _) _ _
         refine wpList_alloc26 rfl rfl ?_; intro W2 hW2 zW2 sW2)
      | (with_reducible show wpList _ _ _ (Oper.mk _ (Op.store 118 (Operand.tmp 6) _) _ _ _ _ :: _) _ _
         refine wpList_store26 rfl _ _ rfl W1.heap.size 0 zer rfl rfl sW2.th len_zer ?_; intro W3 g3 r3 t3 z3
         have HB3 : Hid (Below W0.heap.size W0 W3) := (bel_then hb1 hW2).grown g3 (by have := hb1.size; have := hW2.size; omega) (fun k e => by injection e with e; have := hb1.size; omega)
         have k4 := blk_on HB3.out Hb0.out
         obtain ⟨u0, u1, u2, uf⟩ := three_of k4
         have uf0 := uf 0
         have uf1 := uf 1
         have uf2 := uf 2
         clear hb1 hW2 sW2 g3 t3 uf))
    refine bodyPost_ret (v := .tuple #[.agg #[.int .i64 0, .int .i64 0, .slice none 0 0], .bool false]) (results24 Tryz.results175 _ _ w.heap.size _ _ _ rfl (blk_put3 k4 _ _ _)) rfl ?_
    refine ⟨0, 0, [], none, 0, rfl, bs_nil _, fun _ _ _ _ e => (by cases e), fun y e => (by cases e), ?_⟩
    exact (HB0.out.trans (HB3.out.mono HB0.out.size)).grown (gr_put3 _ _ _ _ _) (Nat.le_trans HB0.out.size HB3.out.size) (fun k e => by injection e with e; omega)
end Go.Proofs.YtfakgfmgofblgaaGreatDoor
namespace Go.Proofs.YtfakgfmgofblgaaGreatDoor
open Go.RowKit Go.Maps
set_option linter.unusedVariables false      -- a walk need not use every condition
attribute [local go_sem ↓] Go.wp_at_zero Go.wp_at_succ

theorem bel_da (X : World) (o : Obj) : Below X.heap.size X (X.drew.alloc o) := (Below.refl X.heap.size X).drew.alloc (Nat.le_refl _) o
abbrev Hd := Int × Nat × List UInt8
/-- The head that a frame in the sector a is: its epoch, slots and note; the epoch 0: none. -/
def hdOf (f : Option (Int × Int × List UInt8)) (a N : Nat) : Hd := match f with
  | none => (0, 0, [])
  | some (K, n, P) => if K = 1 ∧ 1 ≤ n ∧ n ≤ 1099511627776 then (match tk P with
      | none => (0, 0, [])
      | some (m, k) => if (1 ≤ m ∧ m ≤ 4096 ∧ 2 + m ≤ N) ∧ n % 2 = a then (n, m, P.drop k) else (0, 0, [])) else (0, 0, [])
theorem results52 {fn : Func} {p : Tmp} (h : fn.results = #[.cell p 141]) (tmps : Array Value) (w : World) (g : Nat) (a b c : Value) (hp : tmps.getD p undef = .pointer (some ⟨g, 0, none⟩)) (hr : w.heap[g]? = some (.cells #[a, b, c] 141)) :
    (results fn tmps).run Tryz.prog w = .ok (.agg #[a, b, c]) w := by
  have hv := run_loadVar_mid (P := Tryz.prog) w g 0 141 [a, b, c] _ (by
    have := World.rangeAt_of_block hr 0 3
    simpa using this) Tryz.underlying141 rfl (by kernel_rfl)
  have e : (results fn tmps).run Tryz.prog w = ((asAddr (tmps.getD p undef)).run Tryz.prog w).andThen fun a w₁ => (loadVar 141 a).run Tryz.prog w₁ := by
    simp only [results, h]
    simp [Sem.run_bind, Result.andThen]
  rw [e, hp]
  simp only [asAddr, Sem.run_pure, Result.andThen, hv]
/-- What readHead answers. -/
def HdR (x : Hd) (w : World) (e : Ending) (w' : World) : Prop :=
  ∃ (p : Option Addr) (c : Nat), e = .returned (.agg #[.int .i64 x.1, .int .i64 x.2.1, .slice p x.2.2.length c]) ∧ Bs w' (.slice p x.2.2.length c) x.2.2 ∧ Fresh w.heap.size (.slice p x.2.2.length c) ∧ Below w.heap.size w w'
theorem hdR_none {w w' : World} (h : Below w.heap.size w w') : HdR (0, 0, []) w (.returned (.agg #[.int .i64 0, .int .i64 0, .slice none 0 0])) w' :=
  ⟨none, 0, rfl, bs_nil _, fun _ _ _ _ e => (by cases e), h⟩
set_option maxHeartbeats 4000000 in
set_option maxRecDepth 100000 in
theorem readHead143 (w : World) (d pb mb : Nat) (s : Dsk) (h : At w d pb mb s) (hT : TabOk w) (hd : s.down = false) (i : Nat) (hi2 : i < 2) (hi : i < s.N) :
    Calls Tryz.prog 143 #[.pointer (some ⟨d, 0, none⟩), .int .i64 i] w (HdR (hdOf (frO (s.con i)) i s.N) w) := by
  obtain ⟨W0, hW0⟩ : ∃ W0, w.alloc (.cells #[.int .i64 0, .int .i64 0, .slice none 0 0] 141) = W0 := ⟨_, rfl⟩
  have B0 : Below w.heap.size w W0 := by rw [← hW0]; exact bel1 w _
  have blk0 : W0.heap[w.heap.size]? = some (.cells #[.int .i64 0, .int .i64 0, .slice none 0 0] 141) := by rw [← hW0]; exact heap_alloc_last w _
  have cF := readFrame175 W0 d pb mb s (h.on B0) (tab_on hT B0) hd i hi
  have HB0 := Lib.hid B0
  have Hb0 := Lib.hid blk0
  have HA0 := Lib.hid (h.on B0)
  generalize frO (s.con i) = X at *
  clear h hT hd hi B0 blk0
  unfold FrmR at cF
  cases X with
  | none =>
    show Calls _ _ _ _ (HdR (0, 0, []) w)
    go_enter Tryz.func143, Tryz.ntmps143
    go_wp2_with (first
      | (go_at_call 175; refine cF.mono ?_; rintro e W1 ⟨K, N, P, p, c, rfl, hpv, hfr, hy, hb1⟩
         have k1 := blk_on hb1 Hb0.out
         have k2 := blk_on (bel1 W1 (.cells #[.int .i64 K, .int .i64 N, .slice p P.length c] 190)) k1
         obtain ⟨u0, u1, u2, uf⟩ := three_of k2
         have uf0 := uf 0
         have uf1 := uf 1
         have uf2 := uf 2
         have HB2 := Lib.hid ((HB0.out.trans (hb1.mono HB0.out.size)).alloc (Nat.le_trans HB0.out.size hb1.size) (.cells #[.int .i64 K, .int .i64 N, .slice p P.length c] 190))
         clear hpv hfr hy hb1 uf k1))
    refine bodyPost_ret (v := .agg #[.int .i64 0, .int .i64 0, .slice none 0 0]) (results52 Tryz.results143 _ _ w.heap.size _ _ _ rfl (blk_put3 k2 _ _ _)) rfl (hdR_none ?_)
    exact HB2.out.grown (gr_put3 _ _ _ _ _) HB2.out.size (fun k e => by injection e with e; omega)
  | some y =>
    obtain ⟨K0, N0, P0⟩ := y
    by_cases hK : K0 = 1
    · by_cases hN1 : 1 ≤ N0
      · by_cases hN2 : N0 ≤ 1099511627776
        · cases ht : tk P0 with
          | none =>
            have hTk := Lib.hid ht
            have hE : hdOf (some (K0, N0, P0)) i s.N = (0, 0, []) := by unfold hdOf; simp only; rw [if_pos ⟨hK, hN1, hN2⟩, ht]
            subst hK
            clear ht
            rw [hE]
            go_enter Tryz.func143, Tryz.ntmps143
            go_wp2_with (first
      | (go_at_call 175; refine cF.mono ?_; rintro e W1 ⟨K, N, P, p, c, rfl, hpv, hfr, hy, hb1⟩
         have hyy := hy _ rfl
         injection hyy with q1 q2
         injection q2 with q2 q3
         subst q1 q2 q3
         have k1 := blk_on hb1 Hb0.out
         have k2 := blk_on (bel1 W1 (.cells #[.int .i64 1, .int .i64 N0, .slice p P0.length c] 190)) k1
         have fr2 := heap_alloc_last W1 (.cells #[.int .i64 1, .int .i64 N0, .slice p P0.length c] 190)
         obtain ⟨u0, u1, u2, uf⟩ := three_of k2
         obtain ⟨v0, v1, v2, -⟩ := three_of fr2
         have uf0 := uf 0
         have uf1 := uf 1
         have uf2 := uf 2
         have HB1 := Lib.hid hb1
         have HB2 := Lib.hid ((HB0.out.trans (hb1.mono HB0.out.size)).alloc (Nat.le_trans HB0.out.size hb1.size) (.cells #[.int .i64 1, .int .i64 N0, .slice p P0.length c] 190))
         have HPV := Lib.hid (hpv.on (bel1 W1 (.cells #[.int .i64 1, .int .i64 N0, .slice p P0.length c] 190)))
         have HFR := Lib.hid hfr
         have HK2 := Lib.hid k2
         clear hpv hfr hy hb1 uf k1 fr2)
      | (go_at_call 102; refine (take65_no _ _ P0 HPV.out hTk.out).mono ?_; rintro e W5 ⟨n5, hn5, rfl, rfl⟩; have hn6 : (n5 != 0) = true := (by simp; exact hn5)))
            refine bodyPost_ret (v := .agg #[.int .i64 0, .int .i64 0, .slice none 0 0]) (results52 Tryz.results143 _ _ w.heap.size _ _ _ rfl (blk_put3 HK2.out _ _ _)) rfl (hdR_none ?_)
            exact HB2.out.grown (gr_put3 _ _ _ _ _) HB2.out.size (fun k e => by injection e with e; omega)
          | some x =>
            obtain ⟨m, k⟩ := x
            have hTk := Lib.hid ht
            obtain ⟨-, hm64, hk1, hk2, -⟩ := tk_back ht
            by_cases hm : m ≤ 4096
            · have hmz : ¬ ((4096 : Int) < (m : Int)) := by omega
              have hmw : IntKind.i64.wrap (m : Int) = (m : Int) := by rw [IntKind.wrap_i64]; omega
              cases hMy : s.may m with
              | false =>
                have hMay := Lib.hid hMy
                have hE : hdOf (some (K0, N0, P0)) i s.N = (0, 0, []) := by
                  unfold hdOf; simp only; rw [if_pos ⟨hK, hN1, hN2⟩, ht]; simp only; rw [if_neg]
                  rintro ⟨⟨a1, a2, a3⟩, a4⟩
                  unfold Dsk.may at hMy
                  simp at hMy
                  omega
                subst hK
                clear ht hMy
                rw [hE]
                go_enter Tryz.func143, Tryz.ntmps143
                go_wp2_with (first
      | (go_at_call 175; refine cF.mono ?_; rintro e W1 ⟨K, N, P, p, c, rfl, hpv, hfr, hy, hb1⟩
         have hyy := hy _ rfl
         injection hyy with q1 q2
         injection q2 with q2 q3
         subst q1 q2 q3
         have k1 := blk_on hb1 Hb0.out
         have k2 := blk_on (bel1 W1 (.cells #[.int .i64 1, .int .i64 N0, .slice p P0.length c] 190)) k1
         have fr2 := heap_alloc_last W1 (.cells #[.int .i64 1, .int .i64 N0, .slice p P0.length c] 190)
         obtain ⟨u0, u1, u2, uf⟩ := three_of k2
         obtain ⟨v0, v1, v2, -⟩ := three_of fr2
         have uf0 := uf 0
         have uf1 := uf 1
         have uf2 := uf 2
         have HB1 := Lib.hid hb1
         have HB2 := Lib.hid ((HB0.out.trans (hb1.mono HB0.out.size)).alloc (Nat.le_trans HB0.out.size hb1.size) (.cells #[.int .i64 1, .int .i64 N0, .slice p P0.length c] 190))
         have HPV := Lib.hid (hpv.on (bel1 W1 (.cells #[.int .i64 1, .int .i64 N0, .slice p P0.length c] 190)))
         have HFR := Lib.hid hfr
         have HK2 := Lib.hid k2
         clear hpv hfr hy hb1 uf k1 fr2)
      | (go_at_call 102; refine (take65_ok _ _ P0 HPV.out hTk.out).mono ?_; rintro e W5 ⟨rfl, rfl⟩)
      | (go_at_call 139; refine (maySlots139 _ d pb mb s (HA0.out.on (bel_then HB1.out (bel1 _ _))) m).mono ?_; rintro e W6 ⟨rfl, rfl⟩; rw [hMay.out]))
                refine bodyPost_ret (v := .agg #[.int .i64 0, .int .i64 0, .slice none 0 0]) (results52 Tryz.results143 _ _ w.heap.size _ _ _ rfl (blk_put3 HK2.out _ _ _)) rfl (hdR_none ?_)
                exact HB2.out.grown (gr_put3 _ _ _ _ _) HB2.out.size (fun k e => by injection e with e; omega)
              | true =>
                have hMay := Lib.hid hMy
                by_cases hp : N0 % 2 = (i : Int)
                · have hE : hdOf (some (K0, N0, P0)) i s.N = (N0, m, P0.drop k) := by
                    unfold hdOf; simp only; rw [if_pos ⟨hK, hN1, hN2⟩, ht]; simp only
                    unfold Dsk.may at hMy
                    simp at hMy
                    rw [if_pos ⟨by omega, hp⟩]
                  rw [hE]
                  have hN0 : Hid (0 ≤ N0) := by show _ ≤ _; omega
                  subst hK
                  clear ht hMy hE
                  go_enter Tryz.func143, Tryz.ntmps143
                  go_wp2_with (first
                    | (go_at_call 175; refine cF.mono ?_; rintro e W1 ⟨K, N, P, p, c, rfl, hpv, hfr, hy, hb1⟩
                       have hyy := hy _ rfl
                       injection hyy with q1 q2
                       injection q2 with q2 q3
                       subst q1 q2 q3
                       obtain ⟨W2, hW2⟩ : ∃ W2, W1.alloc (.cells #[.int .i64 1, .int .i64 N0, .slice p P0.length c] 190) = W2 := ⟨_, rfl⟩
                       have b2 : Below W1.heap.size W1 W2 := by rw [← hW2]; exact bel1 W1 _
                       have fr2 : W2.heap[W1.heap.size]? = some (.cells #[.int .i64 1, .int .i64 N0, .slice p P0.length c] 190) := by rw [← hW2]; exact heap_alloc_last W1 _
                       have k2 := blk_on b2 (blk_on hb1 Hb0.out)
                       obtain ⟨v0, v1, v2, -⟩ := three_of fr2
                       obtain ⟨x0, x1, x2, -⟩ := three_of (w := W2.drew) fr2
                       obtain ⟨y0, y1, y2, -⟩ := three_of (blk_on (bel1 W2 (.cells #[.int .i64 0, .int .i64 0, .slice none 0 0] 141)) fr2)
                       have HB2 := Lib.hid ((HB0.out.trans (hb1.mono HB0.out.size)).trans (b2.mono (Nat.le_trans HB0.out.size hb1.size)))
                       have HA2 := Lib.hid (HA0.out.on (bel_then hb1 b2))
                       have HPV := Lib.hid (hpv.on b2)
                       have HFR := Lib.hid (show Fresh (w.heap.size + 1) (.slice p P0.length c) from hfr.mono (Array.getElem?_eq_some_iff.1 Hb0.out).1)
                       have HK2 := Lib.hid k2
                       have hcc : P0.length ≤ c := by obtain ⟨_, _, e, h1, -⟩ := hpv; injection e with _ _ e; omega
                       have hc9 : c ≤ 9223372036854775807 := by obtain ⟨_, _, e, -, h1, -⟩ := hpv; injection e with _ _ e; unfold maxLen at h1; omega
                       clear hpv hfr hy hb1 fr2 b2 k2)
                    | (go_at_call 102; refine (take65_ok _ _ P0 HPV.out hTk.out).mono ?_; rintro e W5 ⟨rfl, hw5⟩; subst hw5)
                    | (go_at_call 139; refine (maySlots139 _ d pb mb s HA2.out m).mono ?_; rintro e W6 ⟨rfl, hw6⟩; subst hw6; rw [hMay.out]))
                  have hd2 := HPV.out.drop (n := k) hk2
                  by_cases hck : c = k
                  all_goals
                    first | rw [if_pos hck] at hd2 | rw [if_neg hck] at hd2
                    have HD2 := Lib.hid hd2
                    clear hd2
                    go_region
                  · have HFX : ∀ g o n c', Value.slice p (P0.length - k) 0 = .slice (some ⟨g, o, none⟩) n c' → w.heap.size + 1 ≤ g := fun g o n c' e => by
                      injection e with e
                      subst e
                      exact HFR.out _ _ _ _ rfl
                    have HD3 : Hid (Bs W6 (.slice p (P0.length - k) 0) (P0.drop k)) := by
                      show Bs _ _ _
                      have := HD2.out
                      first
                        | exact this
                        | (rw [show c - k = 0 by omega] at this; exact this)
                    have fr3 := heap_alloc_last W6 (.cells #[.int .i64 N0, .int .i64 m, .slice p (P0.length - k) 0] 141)
                    have k3 := blk_on (bel1 W6 (.cells #[.int .i64 N0, .int .i64 m, .slice p (P0.length - k) 0] 141)) HK2.out
                    have c47 := at172 (W6.alloc (.cells #[.int .i64 N0, .int .i64 m, .slice p (P0.length - k) 0] 141)).drew N0 hN0.out (.int .i64 m) (.slice p (P0.length - k) 0) rfl rfl
                    obtain ⟨a0, a1, a2, -⟩ := three_of fr3
                    obtain ⟨b0, b1, b2, -⟩ := three_of (w := (W6.alloc (.cells #[.int .i64 N0, .int .i64 m, .slice p (P0.length - k) 0] 141)).drew) fr3
                    have HF3 := Lib.hid fr3
                    have HK3 := Lib.hid k3
                    clear fr3 k3 HD2
                    have hpar : (N0 % 2 != (i : Int)) = false := by simp; exact hp
                    go_wp2_with (first
                      | (go_at_call 172; refine c47.mono ?_
                         rintro r w5 ⟨rfl, hw5⟩
                         have hb5 : Below (W6.alloc (.cells #[.int .i64 N0, .int .i64 m, .slice p (P0.length - k) 0] 141)).heap.size (W6.alloc (.cells #[.int .i64 N0, .int .i64 m, .slice p (P0.length - k) 0] 141)) w5 := by rw [hw5]; exact bel_da _ _
                         have k5 := blk_on hb5 HK3.out
                         obtain ⟨d0, d1, d2, -⟩ := three_of (blk_on hb5 HF3.out)
                         obtain ⟨e0, e1, e2, ef⟩ := three_of k5
                         have ef0 := ef 0
                         have ef1 := ef 1
                         have ef2 := ef 2
                         have HB5 := Lib.hid (bel_then (bel1 W6 (.cells #[.int .i64 N0, .int .i64 m, .slice p (P0.length - k) 0] 141)) hb5)
                         clear hw5 hb5 ef))
                    refine bodyPost_ret (v := .agg #[.int .i64 N0, .int .i64 m, .slice p (P0.length - k) 0]) (results52 Tryz.results143 _ _ w.heap.size _ _ _ rfl (blk_put3 k5 _ _ _)) rfl ?_
                    have hln : (P0.drop k).length = P0.length - k := by simp
                    have hres : HdR (N0, m, P0.drop k) w (.returned (.agg #[.int .i64 N0, .int .i64 m, .slice p (P0.length - k) 0])) (put3 w5 w.heap.size (.int .i64 N0) (.int .i64 m) (.slice p (P0.length - k) 0)) := by
                      refine ⟨_, _, by rw [hln], ?_, ?_, ?_⟩
                      · simp only [hln]
                        exact (HD3.out.on HB5.out).grownB (gr_put3 _ _ _ _ _) (fun g o n c' e => by have := HFX g o n c' e; omega)
                      · simp only [hln]
                        exact fun g o n c' e => Nat.le_of_succ_le (HFX g o n c' e)
                      · exact (HB2.out.trans (HB5.out.mono HB2.out.size)).grown (gr_put3 _ _ _ _ _) (Nat.le_trans HB2.out.size HB5.out.size) (fun j e => by injection e with e; omega)
                    exact hres
                  · have HFX : ∀ g o n c', Value.slice (p.map (·.add k)) (P0.length - k) (c - k) = .slice (some ⟨g, o, none⟩) n c' → w.heap.size + 1 ≤ g := fun g o n c' e => by
                      injection e with e
                      cases p with
                      | none => cases e
                      | some a =>
                        obtain ⟨ab, ao, ap⟩ := a
                        have hap : ap = none := by
                          obtain ⟨_, _, e1, -, -, -, h4⟩ := HPV.out
                          injection e1 with e1 e2 e3
                          rcases h4 with h4 | ⟨g1, o1, h5, -⟩
                          · rw [h4] at hk2; simp at hk2; omega
                          · rw [← e1] at h5; injection h5 with h5; injection h5 with _ _ h5
                        subst hap
                        rw [Option.map_some, Go.WideShapes.add_plain] at e
                        injection e with e
                        injection e with e
                        subst e
                        exact HFR.out _ _ _ _ rfl
                    have HD3 : Hid (Bs W6 (.slice (p.map (·.add k)) (P0.length - k) (c - k)) (P0.drop k)) := by
                      show Bs _ _ _
                      have := HD2.out
                      first
                        | exact this
                        | (rw [show c - k = 0 by omega] at this; exact this)
                    have fr3 := heap_alloc_last W6 (.cells #[.int .i64 N0, .int .i64 m, .slice (p.map (·.add k)) (P0.length - k) (c - k)] 141)
                    have k3 := blk_on (bel1 W6 (.cells #[.int .i64 N0, .int .i64 m, .slice (p.map (·.add k)) (P0.length - k) (c - k)] 141)) HK2.out
                    have c47 := at172 (W6.alloc (.cells #[.int .i64 N0, .int .i64 m, .slice (p.map (·.add k)) (P0.length - k) (c - k)] 141)).drew N0 hN0.out (.int .i64 m) (.slice (p.map (·.add k)) (P0.length - k) (c - k)) rfl rfl
                    obtain ⟨a0, a1, a2, -⟩ := three_of fr3
                    obtain ⟨b0, b1, b2, -⟩ := three_of (w := (W6.alloc (.cells #[.int .i64 N0, .int .i64 m, .slice (p.map (·.add k)) (P0.length - k) (c - k)] 141)).drew) fr3
                    have HF3 := Lib.hid fr3
                    have HK3 := Lib.hid k3
                    clear fr3 k3 HD2
                    have hpar : (N0 % 2 != (i : Int)) = false := by simp; exact hp
                    go_wp2_with (first
                      | (go_at_call 172; refine c47.mono ?_
                         rintro r w5 ⟨rfl, hw5⟩
                         have hb5 : Below (W6.alloc (.cells #[.int .i64 N0, .int .i64 m, .slice (p.map (·.add k)) (P0.length - k) (c - k)] 141)).heap.size (W6.alloc (.cells #[.int .i64 N0, .int .i64 m, .slice (p.map (·.add k)) (P0.length - k) (c - k)] 141)) w5 := by rw [hw5]; exact bel_da _ _
                         have k5 := blk_on hb5 HK3.out
                         obtain ⟨d0, d1, d2, -⟩ := three_of (blk_on hb5 HF3.out)
                         obtain ⟨e0, e1, e2, ef⟩ := three_of k5
                         have ef0 := ef 0
                         have ef1 := ef 1
                         have ef2 := ef 2
                         have HB5 := Lib.hid (bel_then (bel1 W6 (.cells #[.int .i64 N0, .int .i64 m, .slice (p.map (·.add k)) (P0.length - k) (c - k)] 141)) hb5)
                         clear hw5 hb5 ef))
                    refine bodyPost_ret (v := .agg #[.int .i64 N0, .int .i64 m, .slice (p.map (·.add k)) (P0.length - k) (c - k)]) (results52 Tryz.results143 _ _ w.heap.size _ _ _ rfl (blk_put3 k5 _ _ _)) rfl ?_
                    have hln : (P0.drop k).length = P0.length - k := by simp
                    have hres : HdR (N0, m, P0.drop k) w (.returned (.agg #[.int .i64 N0, .int .i64 m, .slice (p.map (·.add k)) (P0.length - k) (c - k)])) (put3 w5 w.heap.size (.int .i64 N0) (.int .i64 m) (.slice (p.map (·.add k)) (P0.length - k) (c - k))) := by
                      refine ⟨_, _, by rw [hln], ?_, ?_, ?_⟩
                      · simp only [hln]
                        exact (HD3.out.on HB5.out).grownB (gr_put3 _ _ _ _ _) (fun g o n c' e => by have := HFX g o n c' e; omega)
                      · simp only [hln]
                        exact fun g o n c' e => Nat.le_of_succ_le (HFX g o n c' e)
                      · exact (HB2.out.trans (HB5.out.mono HB2.out.size)).grown (gr_put3 _ _ _ _ _) (Nat.le_trans HB2.out.size HB5.out.size) (fun j e => by injection e with e; omega)
                    exact hres

                · have hE : hdOf (some (K0, N0, P0)) i s.N = (0, 0, []) := by
                    unfold hdOf; simp only; rw [if_pos ⟨hK, hN1, hN2⟩, ht]; simp only
                    unfold Dsk.may at hMy
                    simp at hMy
                    rw [if_neg (fun a => hp a.2)]
                  rw [hE]
                  have hN0 : Hid (0 ≤ N0) := by show _ ≤ _; omega
                  subst hK
                  clear ht hMy hE
                  go_enter Tryz.func143, Tryz.ntmps143
                  go_wp2_with (first
                    | (go_at_call 175; refine cF.mono ?_; rintro e W1 ⟨K, N, P, p, c, rfl, hpv, hfr, hy, hb1⟩
                       have hyy := hy _ rfl
                       injection hyy with q1 q2
                       injection q2 with q2 q3
                       subst q1 q2 q3
                       obtain ⟨W2, hW2⟩ : ∃ W2, W1.alloc (.cells #[.int .i64 1, .int .i64 N0, .slice p P0.length c] 190) = W2 := ⟨_, rfl⟩
                       have b2 : Below W1.heap.size W1 W2 := by rw [← hW2]; exact bel1 W1 _
                       have fr2 : W2.heap[W1.heap.size]? = some (.cells #[.int .i64 1, .int .i64 N0, .slice p P0.length c] 190) := by rw [← hW2]; exact heap_alloc_last W1 _
                       have k2 := blk_on b2 (blk_on hb1 Hb0.out)
                       obtain ⟨v0, v1, v2, -⟩ := three_of fr2
                       obtain ⟨x0, x1, x2, -⟩ := three_of (w := W2.drew) fr2
                       obtain ⟨y0, y1, y2, -⟩ := three_of (blk_on (bel1 W2 (.cells #[.int .i64 0, .int .i64 0, .slice none 0 0] 141)) fr2)
                       have HB2 := Lib.hid ((HB0.out.trans (hb1.mono HB0.out.size)).trans (b2.mono (Nat.le_trans HB0.out.size hb1.size)))
                       have HA2 := Lib.hid (HA0.out.on (bel_then hb1 b2))
                       have HPV := Lib.hid (hpv.on b2)
                       have HFR := Lib.hid (show Fresh (w.heap.size + 1) (.slice p P0.length c) from hfr.mono (Array.getElem?_eq_some_iff.1 Hb0.out).1)
                       have HK2 := Lib.hid k2
                       have hcc : P0.length ≤ c := by obtain ⟨_, _, e, h1, -⟩ := hpv; injection e with _ _ e; omega
                       have hc9 : c ≤ 9223372036854775807 := by obtain ⟨_, _, e, -, h1, -⟩ := hpv; injection e with _ _ e; unfold maxLen at h1; omega
                       clear hpv hfr hy hb1 fr2 b2 k2)
                    | (go_at_call 102; refine (take65_ok _ _ P0 HPV.out hTk.out).mono ?_; rintro e W5 ⟨rfl, hw5⟩; subst hw5)
                    | (go_at_call 139; refine (maySlots139 _ d pb mb s HA2.out m).mono ?_; rintro e W6 ⟨rfl, hw6⟩; subst hw6; rw [hMay.out]))
                  have hd2 := HPV.out.drop (n := k) hk2
                  by_cases hck : c = k
                  all_goals
                    first | rw [if_pos hck] at hd2 | rw [if_neg hck] at hd2
                    have HD2 := Lib.hid hd2
                    clear hd2
                    go_region
                  · have HD3 : Hid (Bs W6 (.slice p (P0.length - k) 0) (P0.drop k)) := by
                      show Bs _ _ _
                      have := HD2.out
                      first
                        | exact this
                        | (rw [show c - k = 0 by omega] at this; exact this)
                    have fr3 := heap_alloc_last W6 (.cells #[.int .i64 N0, .int .i64 m, .slice p (P0.length - k) 0] 141)
                    have k3 := blk_on (bel1 W6 (.cells #[.int .i64 N0, .int .i64 m, .slice p (P0.length - k) 0] 141)) HK2.out
                    have c47 := at172 (W6.alloc (.cells #[.int .i64 N0, .int .i64 m, .slice p (P0.length - k) 0] 141)).drew N0 hN0.out (.int .i64 m) (.slice p (P0.length - k) 0) rfl rfl
                    obtain ⟨a0, a1, a2, -⟩ := three_of fr3
                    obtain ⟨b0, b1, b2, -⟩ := three_of (w := (W6.alloc (.cells #[.int .i64 N0, .int .i64 m, .slice p (P0.length - k) 0] 141)).drew) fr3
                    have HF3 := Lib.hid fr3
                    have HK3 := Lib.hid k3
                    clear fr3 k3 HD2
                    have hpar : (N0 % 2 != (i : Int)) = true := by simp; exact hp
                    go_wp2_with (first
                      | (go_at_call 172; refine c47.mono ?_
                         rintro r w5 ⟨rfl, hw5⟩
                         have hb5 : Below (W6.alloc (.cells #[.int .i64 N0, .int .i64 m, .slice p (P0.length - k) 0] 141)).heap.size (W6.alloc (.cells #[.int .i64 N0, .int .i64 m, .slice p (P0.length - k) 0] 141)) w5 := by rw [hw5]; exact bel_da _ _
                         have k5 := blk_on hb5 HK3.out
                         obtain ⟨d0, d1, d2, -⟩ := three_of (blk_on hb5 HF3.out)
                         obtain ⟨e0, e1, e2, ef⟩ := three_of k5
                         have ef0 := ef 0
                         have ef1 := ef 1
                         have ef2 := ef 2
                         have HB5 := Lib.hid (bel_then (bel1 W6 (.cells #[.int .i64 N0, .int .i64 m, .slice p (P0.length - k) 0] 141)) hb5)
                         clear hw5 hb5 ef))
                    refine bodyPost_ret (v := .agg #[.int .i64 0, .int .i64 0, .slice none 0 0]) (results52 Tryz.results143 _ _ w.heap.size _ _ _ rfl (blk_put3 k5 _ _ _)) rfl (hdR_none ?_)
                    exact (HB2.out.trans (HB5.out.mono HB2.out.size)).grown (gr_put3 _ _ _ _ _) (Nat.le_trans HB2.out.size HB5.out.size) (fun j e => by injection e with e; omega)
                  · have HD3 : Hid (Bs W6 (.slice (p.map (·.add k)) (P0.length - k) (c - k)) (P0.drop k)) := by
                      show Bs _ _ _
                      have := HD2.out
                      first
                        | exact this
                        | (rw [show c - k = 0 by omega] at this; exact this)
                    have fr3 := heap_alloc_last W6 (.cells #[.int .i64 N0, .int .i64 m, .slice (p.map (·.add k)) (P0.length - k) (c - k)] 141)
                    have k3 := blk_on (bel1 W6 (.cells #[.int .i64 N0, .int .i64 m, .slice (p.map (·.add k)) (P0.length - k) (c - k)] 141)) HK2.out
                    have c47 := at172 (W6.alloc (.cells #[.int .i64 N0, .int .i64 m, .slice (p.map (·.add k)) (P0.length - k) (c - k)] 141)).drew N0 hN0.out (.int .i64 m) (.slice (p.map (·.add k)) (P0.length - k) (c - k)) rfl rfl
                    obtain ⟨a0, a1, a2, -⟩ := three_of fr3
                    obtain ⟨b0, b1, b2, -⟩ := three_of (w := (W6.alloc (.cells #[.int .i64 N0, .int .i64 m, .slice (p.map (·.add k)) (P0.length - k) (c - k)] 141)).drew) fr3
                    have HF3 := Lib.hid fr3
                    have HK3 := Lib.hid k3
                    clear fr3 k3 HD2
                    have hpar : (N0 % 2 != (i : Int)) = true := by simp; exact hp
                    go_wp2_with (first
                      | (go_at_call 172; refine c47.mono ?_
                         rintro r w5 ⟨rfl, hw5⟩
                         have hb5 : Below (W6.alloc (.cells #[.int .i64 N0, .int .i64 m, .slice (p.map (·.add k)) (P0.length - k) (c - k)] 141)).heap.size (W6.alloc (.cells #[.int .i64 N0, .int .i64 m, .slice (p.map (·.add k)) (P0.length - k) (c - k)] 141)) w5 := by rw [hw5]; exact bel_da _ _
                         have k5 := blk_on hb5 HK3.out
                         obtain ⟨d0, d1, d2, -⟩ := three_of (blk_on hb5 HF3.out)
                         obtain ⟨e0, e1, e2, ef⟩ := three_of k5
                         have ef0 := ef 0
                         have ef1 := ef 1
                         have ef2 := ef 2
                         have HB5 := Lib.hid (bel_then (bel1 W6 (.cells #[.int .i64 N0, .int .i64 m, .slice (p.map (·.add k)) (P0.length - k) (c - k)] 141)) hb5)
                         clear hw5 hb5 ef))
                    refine bodyPost_ret (v := .agg #[.int .i64 0, .int .i64 0, .slice none 0 0]) (results52 Tryz.results143 _ _ w.heap.size _ _ _ rfl (blk_put3 k5 _ _ _)) rfl (hdR_none ?_)
                    exact (HB2.out.trans (HB5.out.mono HB2.out.size)).grown (gr_put3 _ _ _ _ _) (Nat.le_trans HB2.out.size HB5.out.size) (fun j e => by injection e with e; omega)

            · have hmz : (4096 : Int) < (m : Int) := by omega
              have hE : hdOf (some (K0, N0, P0)) i s.N = (0, 0, []) := by
                unfold hdOf; simp only; rw [if_pos ⟨hK, hN1, hN2⟩, ht]; simp only; rw [if_neg (by omega)]
              subst hK
              clear ht
              rw [hE]
              go_enter Tryz.func143, Tryz.ntmps143
              go_wp2_with (first
      | (go_at_call 175; refine cF.mono ?_; rintro e W1 ⟨K, N, P, p, c, rfl, hpv, hfr, hy, hb1⟩
         have hyy := hy _ rfl
         injection hyy with q1 q2
         injection q2 with q2 q3
         subst q1 q2 q3
         have k1 := blk_on hb1 Hb0.out
         have k2 := blk_on (bel1 W1 (.cells #[.int .i64 1, .int .i64 N0, .slice p P0.length c] 190)) k1
         have fr2 := heap_alloc_last W1 (.cells #[.int .i64 1, .int .i64 N0, .slice p P0.length c] 190)
         obtain ⟨u0, u1, u2, uf⟩ := three_of k2
         obtain ⟨v0, v1, v2, -⟩ := three_of fr2
         have uf0 := uf 0
         have uf1 := uf 1
         have uf2 := uf 2
         have HB1 := Lib.hid hb1
         have HB2 := Lib.hid ((HB0.out.trans (hb1.mono HB0.out.size)).alloc (Nat.le_trans HB0.out.size hb1.size) (.cells #[.int .i64 1, .int .i64 N0, .slice p P0.length c] 190))
         have HPV := Lib.hid (hpv.on (bel1 W1 (.cells #[.int .i64 1, .int .i64 N0, .slice p P0.length c] 190)))
         have HFR := Lib.hid hfr
         have HK2 := Lib.hid k2
         clear hpv hfr hy hb1 uf k1 fr2)
      | (go_at_call 102; refine (take65_ok _ _ P0 HPV.out hTk.out).mono ?_; rintro e W5 ⟨rfl, rfl⟩))
              refine bodyPost_ret (v := .agg #[.int .i64 0, .int .i64 0, .slice none 0 0]) (results52 Tryz.results143 _ _ w.heap.size _ _ _ rfl (blk_put3 HK2.out _ _ _)) rfl (hdR_none ?_)
              exact HB2.out.grown (gr_put3 _ _ _ _ _) HB2.out.size (fun k e => by injection e with e; omega)
        · have hN3 : (1099511627776 : Int) < N0 := by omega
          have hE : hdOf (some (K0, N0, P0)) i s.N = (0, 0, []) := by unfold hdOf; simp only; rw [if_neg (by omega)]
          subst hK
          rw [hE]
          go_enter Tryz.func143, Tryz.ntmps143
          go_wp2_with (first
      | (go_at_call 175; refine cF.mono ?_; rintro e W1 ⟨K, N, P, p, c, rfl, hpv, hfr, hy, hb1⟩
         have hyy := hy _ rfl
         injection hyy with q1 q2
         injection q2 with q2 q3
         subst q1 q2 q3
         have k1 := blk_on hb1 Hb0.out
         have k2 := blk_on (bel1 W1 (.cells #[.int .i64 1, .int .i64 N0, .slice p P0.length c] 190)) k1
         have fr2 := heap_alloc_last W1 (.cells #[.int .i64 1, .int .i64 N0, .slice p P0.length c] 190)
         obtain ⟨u0, u1, u2, uf⟩ := three_of k2
         obtain ⟨v0, v1, v2, -⟩ := three_of fr2
         have uf0 := uf 0
         have uf1 := uf 1
         have uf2 := uf 2
         have HB1 := Lib.hid hb1
         have HB2 := Lib.hid ((HB0.out.trans (hb1.mono HB0.out.size)).alloc (Nat.le_trans HB0.out.size hb1.size) (.cells #[.int .i64 1, .int .i64 N0, .slice p P0.length c] 190))
         have HPV := Lib.hid (hpv.on (bel1 W1 (.cells #[.int .i64 1, .int .i64 N0, .slice p P0.length c] 190)))
         have HFR := Lib.hid hfr
         have HK2 := Lib.hid k2
         clear hpv hfr hy hb1 uf k1 fr2))
          refine bodyPost_ret (v := .agg #[.int .i64 0, .int .i64 0, .slice none 0 0]) (results52 Tryz.results143 _ _ w.heap.size _ _ _ rfl (blk_put3 HK2.out _ _ _)) rfl (hdR_none ?_)
          exact HB2.out.grown (gr_put3 _ _ _ _ _) HB2.out.size (fun k e => by injection e with e; omega)
      · have hN3 : N0 < (1 : Int) := by omega
        have hE : hdOf (some (K0, N0, P0)) i s.N = (0, 0, []) := by unfold hdOf; simp only; rw [if_neg (by omega)]
        subst hK
        rw [hE]
        go_enter Tryz.func143, Tryz.ntmps143
        go_wp2_with (first
      | (go_at_call 175; refine cF.mono ?_; rintro e W1 ⟨K, N, P, p, c, rfl, hpv, hfr, hy, hb1⟩
         have hyy := hy _ rfl
         injection hyy with q1 q2
         injection q2 with q2 q3
         subst q1 q2 q3
         have k1 := blk_on hb1 Hb0.out
         have k2 := blk_on (bel1 W1 (.cells #[.int .i64 1, .int .i64 N0, .slice p P0.length c] 190)) k1
         have fr2 := heap_alloc_last W1 (.cells #[.int .i64 1, .int .i64 N0, .slice p P0.length c] 190)
         obtain ⟨u0, u1, u2, uf⟩ := three_of k2
         obtain ⟨v0, v1, v2, -⟩ := three_of fr2
         have uf0 := uf 0
         have uf1 := uf 1
         have uf2 := uf 2
         have HB1 := Lib.hid hb1
         have HB2 := Lib.hid ((HB0.out.trans (hb1.mono HB0.out.size)).alloc (Nat.le_trans HB0.out.size hb1.size) (.cells #[.int .i64 1, .int .i64 N0, .slice p P0.length c] 190))
         have HPV := Lib.hid (hpv.on (bel1 W1 (.cells #[.int .i64 1, .int .i64 N0, .slice p P0.length c] 190)))
         have HFR := Lib.hid hfr
         have HK2 := Lib.hid k2
         clear hpv hfr hy hb1 uf k1 fr2))
        refine bodyPost_ret (v := .agg #[.int .i64 0, .int .i64 0, .slice none 0 0]) (results52 Tryz.results143 _ _ w.heap.size _ _ _ rfl (blk_put3 HK2.out _ _ _)) rfl (hdR_none ?_)
        exact HB2.out.grown (gr_put3 _ _ _ _ _) HB2.out.size (fun k e => by injection e with e; omega)
    · have hK2 : (K0 != 1) = true := by simp; exact hK
      have hE : hdOf (some (K0, N0, P0)) i s.N = (0, 0, []) := by unfold hdOf; simp only; rw [if_neg (by omega)]
      rw [hE]
      go_enter Tryz.func143, Tryz.ntmps143
      go_wp2_with (first
      | (go_at_call 175; refine cF.mono ?_; rintro e W1 ⟨K, N, P, p, c, rfl, hpv, hfr, hy, hb1⟩
         have hyy := hy _ rfl
         injection hyy with q1 q2
         injection q2 with q2 q3
         subst q1 q2 q3
         have k1 := blk_on hb1 Hb0.out
         have k2 := blk_on (bel1 W1 (.cells #[.int .i64 K0, .int .i64 N0, .slice p P0.length c] 190)) k1
         have fr2 := heap_alloc_last W1 (.cells #[.int .i64 K0, .int .i64 N0, .slice p P0.length c] 190)
         obtain ⟨u0, u1, u2, uf⟩ := three_of k2
         obtain ⟨v0, v1, v2, -⟩ := three_of fr2
         have uf0 := uf 0
         have uf1 := uf 1
         have uf2 := uf 2
         have HB1 := Lib.hid hb1
         have HB2 := Lib.hid ((HB0.out.trans (hb1.mono HB0.out.size)).alloc (Nat.le_trans HB0.out.size hb1.size) (.cells #[.int .i64 K0, .int .i64 N0, .slice p P0.length c] 190))
         have HPV := Lib.hid (hpv.on (bel1 W1 (.cells #[.int .i64 K0, .int .i64 N0, .slice p P0.length c] 190)))
         have HFR := Lib.hid hfr
         have HK2 := Lib.hid k2
         clear hpv hfr hy hb1 uf k1 fr2))
      refine bodyPost_ret (v := .agg #[.int .i64 0, .int .i64 0, .slice none 0 0]) (results52 Tryz.results143 _ _ w.heap.size _ _ _ rfl (blk_put3 HK2.out _ _ _)) rfl (hdR_none ?_)
      exact HB2.out.grown (gr_put3 _ _ _ _ _) HB2.out.size (fun k e => by injection e with e; omega)
end Go.Proofs.YtfakgfmgofblgaaGreatDoor
