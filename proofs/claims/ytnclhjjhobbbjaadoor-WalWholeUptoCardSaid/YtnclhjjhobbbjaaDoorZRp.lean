/-
  What readPieces of package wal does.
-/
import Derived.Test.YtnclhjjhobbbjaaDoorZNh
import Derived.Test.YtnclhjjhobbbjaaDoorZLgLsComElCu3Ops
import Derived.Deep.QuietTactic
import Derived.BigQuiet
namespace Go.Proofs.YtnclhjjhobbbjaaDoor
open Go.RowKit Go.Maps
set_option linter.unusedVariables false      -- a walk need not use every condition
attribute [local go_sem ↓] Go.wp_at_zero Go.wp_at_succ

theorem heap_dn (w : World) : ∀ n, (w.drewN n).heap = w.heap ∧ (w.drewN n).os = w.os ∧ (w.drewN n).tape = w.tape ∧ (w.drewN n).output = w.output := by
  intro n
  induction n generalizing w with
  | zero => exact ⟨rfl, rfl, rfl, rfl⟩
  | succ n ih => exact ih w.drew
theorem bel_dn (w : World) (n : Nat) : Below w.heap.size w (w.drewN n) := ⟨(heap_dn w n).2.1, (heap_dn w n).2.2.1, (heap_dn w n).2.2.2, by rw [(heap_dn w n).1]; exact Nat.le_refl _, fun k hk => by rw [(heap_dn w n).1]⟩
/-- The frame in a slot. -/
def Dsk.fr (s : Dsk) : Fra := fun i => frO (s.con (2 + i))
theorem oP_le (b : List UInt8) : (oP b).length ≤ 112 := by
  unfold oP
  split
  · rename_i h
    unfold opOk at h
    simp only [Bool.and_eq_true, decide_eq_true_eq] at h
    have h1 := h.1
    unfold opP
    simp
    omega
  · simp
theorem frO_le {x : Option (List UInt8)} {K N : Int} {P : List UInt8} (h : frO x = some (K, N, P)) : P.length ≤ 112 := by
  cases x with
  | none => cases h
  | some b =>
    by_cases he : oE b = 0
    · rw [frO_yes he] at h
      injection h with h
      injection h with h1 h2
      injection h2 with h2 h3
      rw [← h3]
      exact oP_le b
    · rw [frO_no he] at h; cases h
theorem pcs_len {F : Fra} {e : Int} (hF : ∀ i K N P, F i = some (K, N, P) → P.length ≤ 112) : ∀ (k i : Nat) (ps : Rs), pcs F e k i = some ps → ps.length ≤ k ∧ ps.flatten.length ≤ 112 * k
  | 0, i, ps, h => by cases h
  | k + 1, i, ps, h => by
    rw [pcs] at h
    cases hFi : F i with
    | none => rw [hFi] at h; cases h
    | some y =>
      obtain ⟨K, N, P⟩ := y
      have hp := hF i K N P hFi
      rw [hFi] at h
      simp only at h
      by_cases h1 : N = e * 65536 + i
      · rw [if_pos h1] at h
        by_cases h2 : K = 3
        · rw [if_pos h2] at h
          injection h with h
          subst h
          simp
          omega
        · rw [if_neg h2] at h
          by_cases h3 : K = 2
          · rw [if_pos h3] at h
            cases hr : pcs F e k (i + 1) with
            | none => rw [hr] at h; cases h
            | some qs =>
              rw [hr] at h
              injection h with h
              subst h
              have := pcs_len hF k (i + 1) qs hr
              rw [List.length_cons, List.flatten_cons, List.length_append]
              omega
          · rw [if_neg h3] at h; cases h
      · rw [if_neg h1] at h; cases h
theorem bsY_fresh {X : Nat → Prop} {w : World} {B : Nat} {v : Value} {t : List UInt8} (h : Bs w v t) (hf : Fresh B v) (hX : ∀ k, X k → k < B) : BsY X w v t := by
  refine ⟨h, fun ht a n c e hx => ?_⟩
  obtain ⟨p, cap, rfl, h1, h2, h3, h4⟩ := h
  obtain ⟨g, o, rfl, hc⟩ := h4.resolve_left ht
  injection e with e1 e2 e3
  injection e1 with e1
  subst e1
  have h5 := hf g o _ _ rfl
  have h6 := hX _ hx
  have h7 : g < B := h6
  omega
/-- What readPieces answers. -/
def PcR (x : Option Rs) (w : World) (e : Ending) (w' : World) : Prop := ∃ p c, e = .returned (.slice p (x.getD []).length c) ∧ (sl bytesE).E (fun _ => False) w' (.slice p (x.getD []).length c) (x.getD []) ∧ Below w.heap.size w w'
theorem pcR_none {w w' : World} (h : Below w.heap.size w w') : PcR none w (.returned (.slice none 0 0)) w' := ⟨none, 0, rfl, ⟨none, 0, rfl, .inl rfl⟩, h⟩
set_option maxHeartbeats 4000000 in
set_option maxRecDepth 100000 in
theorem readPieces66 (w : World) (d pb mb l : Nat) (s : Dsk) (L : Lg) (h0 : At w d pb mb s) (hL0 : LAt w d pb mb l L) (hT0 : TabOk w) (hd : s.down = false) (hN : 2 + L.slots ≤ s.N) :
    Calls Tryd.prog 66 #[.pointer (some ⟨l, 0, none⟩)] w (PcR (pcs s.fr L.e (L.slots - L.used) L.used) w) := by
  have h := Lib.hid h0
  have hL := Lib.hid hL0
  have hT := Lib.hid hT0
  have hsl := hL0.sl
  have hus := hL0.us
  obtain ⟨nv, hblk, hnv⟩ := hL0.blk
  obtain ⟨np, nc, rfl, -⟩ := hnv.1
  obtain ⟨c0, c1, c2, c3, c4, c5, c6, -⟩ := seven_of hblk
  obtain ⟨R, hR⟩ : ∃ R, pcs s.fr L.e (L.slots - L.used) L.used = R := ⟨_, rfl⟩
  rw [hR]
  have HR := Lib.hid hR
  clear h0 hL0 hT0 hnv hR
  have Hblk := Lib.hid hblk
  clear hblk
  go_enter Tryd.func66, Tryd.ntmps66
  go_wp2
  go_loopg [3, 4] (L.slots - L.used) (fun gk s3 s4 wr => ∃ (i : Nat) (acc : Rs), i + gk = L.slots ∧ s4 = .int .i64 i ∧ Hid (RowG 43 bytesE wr w.heap.size s3 acc) ∧ Hid (R = (pcs s.fr L.e gk i).map (acc ++ ·)) ∧ Hid (acc.length ≤ i) ∧ Hid (Below w.heap.size w wr))
  case atStart => exact ⟨L.used, [], by omega, rfl, rowG_nil _ _ _ _, by show R = _; rw [← HR.out]; cases pcs s.fr L.e (L.slots - L.used) L.used <;> rfl, Nat.zero_le _, Below.refl _ _⟩
  case round =>
    obtain ⟨i, acc, hig, rfl, hrow, hsp, hacc, hb⟩ := hrel
    have hblk := blk_on hb.out Hblk.out
    obtain ⟨z0, z1, z2, z3, z4, z5, z6, -⟩ := seven_of hblk
    obtain ⟨ap, ac, rfl⟩ := hrow.out.hdr
    clear c0 c1 c2 c3 c4 c5 c6
    cases gk with
    | zero =>
      obtain rfl : i = L.slots := by omega
      have hRn : R = none := by rw [hsp.out]; rfl
      subst hRn
      go_wp2
      go_ret
      exact pcR_none hb.out
    | succ g =>
      have hi : (i : Int) < (L.slots : Int) := by omega
      have hi2 : i ≤ 4096 := by omega
      have c64 := fun W (hW : Below wr.heap.size wr W) => readFrame64 W d pb mb s ((h.out.on hb.out).on hW) (tab_on (tab_on hT.out hb.out) hW) hd (2 + i) (by omega)
      have c53 := fun W => sectorOf53 W i hi2
      have d0 : wr.drew.cell? ⟨l, 0, none⟩ = some (.pointer (some ⟨d, 0, none⟩)) := z0
      have a0 : (wr.alloc (.cells #[.int .i64 0, .int .i64 0, .slice none 0 0] 79)).cell? ⟨l, 0, none⟩ = some (.pointer (some ⟨d, 0, none⟩)) := cell_on (bel1 wr _) z0
      obtain ⟨X, hX⟩ : ∃ X, frO (s.con (2 + i)) = X := ⟨_, rfl⟩
      rw [hX] at c64
      have HX : Hid (s.fr i = X) := hX
      have HXl : Hid (∀ K N P, X = some (K, N, P) → P.length ≤ 112) := by show ∀ K N P, X = some (K, N, P) → P.length ≤ 112; rw [← hX]; exact fun K N P e => frO_le e
      have hFz : Hid ((wr.alloc (.cells #[.int .i64 0, .int .i64 0, .slice none 0 0] 79)).heap[wr.heap.size]? = some (.cells #[.int .i64 0, .int .i64 0, .slice none 0 0] 79)) := heap_alloc_last wr _
      unfold FrmR at c64
      clear hX
      go_upto_region 5 with fail
      go_cut [5, 6] from 20 to 29 (fun s5 s6 wx => ∃ (f : Nat) (K N : Int) (P : List UInt8) (p : Option Addr) (c : Nat), s5 = .pointer (some ⟨f, 0, none⟩) ∧ s6 = .bool X.isSome ∧ wr.heap.size ≤ f ∧ wx.heap[f]? = some (.cells #[.int .i64 K, .int .i64 N, .slice p P.length c] 79) ∧ Hid (Bs wx (.slice p P.length c) P) ∧ Hid (Fresh wr.heap.size (.slice p P.length c)) ∧ Hid (∀ y, X = some y → y = (K, N, P)) ∧ Hid (Below wr.heap.size wr wx))
      case first =>
        go_region_with (first
          | (go_at_call 53; refine (c53 _).mono ?_; rintro e W5 ⟨rfl, hw5⟩; subst hw5)
          | (go_at_call 64
             refine (c64 _ (by first | exact (Below.refl _ wr).drew | exact (bel1 wr _).drew | exact bel_da wr _)).mono ?_
             rintro e W1 ⟨K, N, P, p, c, rfl, hbs, hfr, hy, hb1⟩
             have hB1 : Below wr.heap.size wr W1 := by first | exact bel_then ((Below.refl _ wr).drew) hb1 | exact bel_then ((bel1 wr _).drew) hb1 | exact bel_then (bel_da wr _) hb1
             (first
               | (have fz : W1.heap[wr.heap.size]? = some (.cells #[.int .i64 0, .int .i64 0, .slice none 0 0] 79) := (hb1.block _ (by simp)).trans hFz.out
                  obtain ⟨q0, q1, q2, qf⟩ := three_of fz
                  have qf0 := qf 0
                  have qf1 := qf 1
                  have qf2 := qf 2
                  have HFZ := Lib.hid fz
                  have hfr2 : Fresh (wr.heap.size + 1) (.slice p P.length c) := hfr.mono (by simp)
                  have HF2 := Lib.hid hfr2
                  clear fz qf hfr2)
               | skip)
             have HBS := Lib.hid hbs
             have HFR := Lib.hid (hfr.mono (show wr.heap.size ≤ _ by simp))
             have HY := Lib.hid hy
             have HB1 := Lib.hid hB1
             clear hbs hfr hy hb1 hB1))
        all_goals
          go_wp2
          go_meet
          case rel =>
            first
              | (have hh := HFZ.out; exact ⟨wr.heap.size, K, N, P, p, c, rfl, rfl, Nat.le_refl _, blk_put3 HFZ.out _ _ _, HBS.out.grownB (gr_put3 _ _ _ _ _) (fun g o n c e => by have := HF2.out g o n c e; omega), HFR.out, HY.out, HB1.out.grown (gr_put3 _ _ _ _ _) HB1.out.size (fun j e => by injection e with e; omega)⟩)
              | exact ⟨W1.heap.size, K, N, P, p, c, rfl, rfl, HB1.out.size, heap_alloc_last _ _, HBS.out.on (bel1 _ _), HFR.out, HY.out, bel_then HB1.out (bel1 _ _)⟩
      case rest =>
        obtain ⟨f, K, N, P, p, c, rfl, rfl, hwf, hbx, HBS, HFR, HY, HBx⟩ := hcut
        have Hbx := Lib.hid hbx
        obtain ⟨b0, b1, b2, -⟩ := three_of hbx
        obtain ⟨e0, e1, e2, -⟩ := three_of (w := wc.drew) hbx
        have HBw := Lib.hid (hb.out.trans (HBx.out.mono hb.out.size))
        have HLc := Lib.hid (hL.out.on HBw.out)
        have HRow := Lib.hid (hrow.out.on HBx.out)
        have hrow' := Lib.hid hrow.out
        clear c64 c53 d0 a0 hrow hFz z0 z1 z2 z3 z4 z5 z6
        cases X with
        | none =>
          have hRn : R = none := by rw [hsp.out, pcs, HX.out]; rfl
          subst hRn
          clear hsp
          simp only [Option.isSome_none]
          go_wp2
          go_quiet (fail)
          go_wp2
          go_ret
          exact pcR_none (bel_then HBw.out (bel_dn _ _))
        | some y =>
          have hyy := HY.out _ rfl
          subst hyy
          simp only [Option.isSome_some]
          by_cases hNN : N = L.e * 65536 + i
          · have hne : (N != L.e * 65536 + (i : Int)) = false := by simp; exact hNN
            have hsp2 : Hid (R = (if K = 3 then some [P] else if K = 2 then (pcs s.fr L.e g (i + 1)).map (P :: ·) else none).map (acc ++ ·)) := by
              show R = _
              rw [hsp.out, pcs, HX.out]
              simp only
              rw [if_pos hNN]
            have hPl := HXl.out K N P rfl
            obtain ⟨i0, hi', hz0, hz1, hz2⟩ := info_parts info43
            have hlt : ∀ k, (Value.slice ap acc.length ac).ownBlock = some k → k < wr.heap.size := fun k e => by obtain ⟨vs, ho, -⟩ := hrow'.out; exact (World.ownsRow.lt ho k e).2
            have HBY := Lib.hid (bsY_fresh HBS.out HFR.out hlt)
            clear hsp hNN
            by_cases hK3 : K = 3
            · subst hK3
              have hRs : R = some (acc ++ [P]) := by rw [hsp2.out, if_pos rfl]; rfl
              subst hRs
              go_wp2
              go_quiet ((go_at_call 52; refine Calls.quiet_of_same (number52 _ d pb mb l L (HLc.out.on (bel_dn _ _)) i hi2)))
              go_wp2_with (at_builtin
                           refine rowG_app 43 35 bytesE Tryd.underlying35 i0 hi' (.slice none 0 0) hz0 hz1 hz2 rfl rfl _ _ rfl w.heap.size (wc.drewN nq).heap.size _ (.slice p P.length c) acc P rfl rfl ((HRow.out.on (bel_dn _ _)).on (bel1 _ _)) ((HBY.out.kp (Kp.bel (bel_dn wc nq))).kp (Kp.bel (bel1 _ _))) (cell_new _ _ _) (by have := HBw.out.size; have := (bel_dn wc nq).size; simp; omega) (by have := hacc.out; omega) ?_
                           intro g7 c7 w7 hR7 hg7 hb7
                           have HR7 := Lib.hid hR7
                           have HB7 := Lib.hid ((bel_then (bel_then HBw.out (bel_dn wc nq)) (bel1 _ (.cells #[.slice p P.length c] 43))).trans hb7)
                           have k7 := (hg7.block f (Nat.lt_of_lt_of_le (Array.getElem?_eq_some_iff.1 (blk_on (bel_dn wc nq) Hbx.out)).1 (bel1 (wc.drewN nq) _).size) (fun e => by have := hlt f e.symm; omega)).trans (blk_on (bel1 _ (.cells #[.slice p P.length c] 43)) (blk_on (bel_dn wc nq) Hbx.out))
                           obtain ⟨x0, -, -, -⟩ := three_of k7
                           clear hR7 hg7 hb7 k7)
              go_ret
              have hln : (acc ++ [P]).length = acc.length + 1 := by simp
              refine ⟨_, _, by show _ = Ending.returned (.slice _ (acc ++ [P]).length _); rw [hln]; rfl, ?_, HB7.out⟩
              show (sl bytesE).E _ _ (.slice _ (acc ++ [P]).length _) (acc ++ [P])
              rw [hln]
              exact HR7.out.sl
            · by_cases hK2 : K = 2
              · subst hK2
                have hRs : Hid (R = (pcs s.fr L.e g (i + 1)).map ((acc ++ [P]) ++ ·)) := by
                  show R = _
                  rw [hsp2.out, if_neg (by decide), if_pos rfl]
                  cases pcs s.fr L.e g (i + 1) with
                  | none => rfl
                  | some q => simp
                have hAl : Hid ((acc ++ [P]).length ≤ i + 1) := by show _ ≤ _; have := hacc.out; simp; omega
                clear hsp2
                go_wp2
                go_quiet ((go_at_call 52; refine Calls.quiet_of_same (number52 _ d pb mb l L (HLc.out.on (bel_dn _ _)) i hi2)))
                go_wp2_with (at_builtin
                             refine rowG_app 43 35 bytesE Tryd.underlying35 i0 hi' (.slice none 0 0) hz0 hz1 hz2 rfl rfl _ _ rfl w.heap.size (wc.drewN nq).heap.size _ (.slice p P.length c) acc P rfl rfl ((HRow.out.on (bel_dn _ _)).on (bel1 _ _)) ((HBY.out.kp (Kp.bel (bel_dn wc nq))).kp (Kp.bel (bel1 _ _))) (cell_new _ _ _) (by have := HBw.out.size; have := (bel_dn wc nq).size; simp; omega) (by have := hacc.out; omega) ?_
                             intro g7 c7 w7 hR7 hg7 hb7
                             have HR7 := Lib.hid hR7
                             have HB7 := Lib.hid ((bel_then (bel_then HBw.out (bel_dn wc nq)) (bel1 _ (.cells #[.slice p P.length c] 43))).trans hb7)
                             have k7 := (hg7.block f (Nat.lt_of_lt_of_le (Array.getElem?_eq_some_iff.1 (blk_on (bel_dn wc nq) Hbx.out)).1 (bel1 (wc.drewN nq) _).size) (fun e => by have := hlt f e.symm; omega)).trans (blk_on (bel1 _ (.cells #[.slice p P.length c] 43)) (blk_on (bel_dn wc nq) Hbx.out))
                             obtain ⟨x0, -, -, -⟩ := three_of k7
                             clear hR7 hg7 hb7 k7)
                go_roundg g
                case measure => omega
                case rel =>
                  exact ⟨i + 1, acc ++ [P], by omega, by first | rfl | simp, HR7, hRs, hAl, HB7⟩
              · have hRs : R = none := by rw [hsp2.out, if_neg hK3, if_neg hK2]; rfl
                subst hRs
                have hk3 : (K == 3) = false := by simp; exact hK3
                have hk2 : (K == 2) = false := by simp; exact hK2
                go_wp2
                go_quiet ((go_at_call 52; refine Calls.quiet_of_same (number52 _ d pb mb l L (HLc.out.on (bel_dn _ _)) i hi2)))
                go_wp2_with (at_builtin
                             refine rowG_app 43 35 bytesE Tryd.underlying35 i0 hi' (.slice none 0 0) hz0 hz1 hz2 rfl rfl _ _ rfl w.heap.size (wc.drewN nq).heap.size _ (.slice p P.length c) acc P rfl rfl ((HRow.out.on (bel_dn _ _)).on (bel1 _ _)) ((HBY.out.kp (Kp.bel (bel_dn wc nq))).kp (Kp.bel (bel1 _ _))) (cell_new _ _ _) (by have := HBw.out.size; have := (bel_dn wc nq).size; simp; omega) (by have := hacc.out; omega) ?_
                             intro g7 c7 w7 hR7 hg7 hb7
                             have HR7 := Lib.hid hR7
                             have HB7 := Lib.hid ((bel_then (bel_then HBw.out (bel_dn wc nq)) (bel1 _ (.cells #[.slice p P.length c] 43))).trans hb7)
                             have k7 := (hg7.block f (Nat.lt_of_lt_of_le (Array.getElem?_eq_some_iff.1 (blk_on (bel_dn wc nq) Hbx.out)).1 (bel1 (wc.drewN nq) _).size) (fun e => by have := hlt f e.symm; omega)).trans (blk_on (bel1 _ (.cells #[.slice p P.length c] 43)) (blk_on (bel_dn wc nq) Hbx.out))
                             obtain ⟨x0, -, -, -⟩ := three_of k7
                             clear hR7 hg7 hb7 k7)
                go_ret
                exact pcR_none HB7.out
          · have hRn : R = none := by rw [hsp.out, pcs, HX.out]; simp only; rw [if_neg hNN]; rfl
            subst hRn
            have hne : (N != L.e * 65536 + (i : Int)) = true := by simp; exact hNN
            clear hsp
            go_wp2
            go_quiet ((go_at_call 52; refine Calls.quiet_of_same (number52 _ d pb mb l L (HLc.out.on (bel_dn _ _)) i hi2)))
            go_wp2
            go_ret
            exact pcR_none (bel_then HBw.out (bel_dn _ _))
end Go.Proofs.YtnclhjjhobbbjaaDoor
