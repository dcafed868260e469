/-
  What Set of package graph does: a property that there is not yet.
-/
import Derived.Test.YteknbploiombiaaZStaStb
import Derived.Deep.RegionHeld3
namespace Go.Proofs.Yteknbploiombiaa
open Go.RowKit
set_option linter.unusedVariables false      -- a walk need not use every condition

theorem ins_eq {g : Gg} {k id : Int} {ps : List Pr} {na : ByteArray} {v : V} {kk : Nat} (hm : gMay g = true) (hel : elPs g k id = some ps) (hpl : PlaceOf na ps kk) (hhas : psHas na ps = false) :
    gUp g k id (fun _ => ps.take kk ++ ⟨na, v⟩ :: ps.drop kk) = gUp g k id (psPut na v) := by
  have e := put_at (v := v) (may_from (ps_may hm hel)) hpl
  rw [hhas, if_neg (by simp)] at e
  have h := gUp_const (f := psPut na v) hm hel
  rw [e] at h
  exact h
theorem frozen_on {w w' : World} (h : Below w.heap.size w w') {a : Addr} (hb : a.block < w.heap.size) (hf : w.frozen? a = false) : w'.frozen? a = false := by
  have e := h.block a.block hb
  unfold World.frozen? at hf ⊢
  rw [e]; exact hf
set_option maxRecDepth 100000 in
set_option maxHeartbeats 8000000 in
theorem set_full (g : Gg) (sv se : Value) (k id : Int) (s : ByteArray) (lx : List V) (r : Option Addr) (m d : Nat) (na : ByteArray) (v : V) (p3 : Option Addr) (n3 c3 : Nat) (w : World) (hg : Gg.In w 0 g sv se) (hem : (V.mk k id s lx).In w 0 (.slice r m d)) (hv : v.In w 0 (.slice p3 n3 c3)) (hm : gMay g = true) (ps : List Pr) (hel : elPs g (ek k s lx) id = some ps) (hna : nmB na = true) (hve : v.err = 0) (hhas : psHas na ps = false) (h16 : 16 ≤ ps.length) :
    Calls Try.prog 16 #[g.agg sv se, .agg #[.int .i64 k, .int .i64 id, .string s, .slice r m d], .string na, v.agg (.slice p3 n3 c3)] w fun e w' => Chg2 g 102 w e w' := by
  replace hem := Lib.hid hem
  obtain ⟨pv, cv, rfl⟩ := hg.2.1.header
  obtain ⟨pe, ce, rfl⟩ := hg.2.2.header
  obtain ⟨nv, hnv⟩ : ∃ n, g.vs.length = n := ⟨_, rfl⟩
  obtain ⟨ne, hne⟩ : ∃ n, g.es.length = n := ⟨_, rfl⟩
  rw [hnv, hne] at hg ⊢
  have c77 := fun W hW => own39s' g pv pe nv ne cv ce hnv hne W (hg.on hW)
  rw [err_yes hm] at c77
  replace hnv := Lib.hid hnv
  replace hne := Lib.hid hne
  replace hv := Lib.hid hv
  clear hg
  unfold Chg2 Gg.agg V.agg
  go_enter Try.func16, Try.ntmps16
  go_wp2_with (fail)
  refine (c77 _ (bel_then (bel2 w _ _) (bel2 _ _ _))).mono ?_
  rintro e w1 ⟨p, q, rfl, ho, hb1⟩
  obtain ⟨t0, t1, t2, t3, HF⟩ := own_fin4 ho hb1
  replace HF := Lib.hid HF
  obtain ⟨x0, x1, x2, fx⟩ := three_of t0
  obtain ⟨y0, y1, y2, y3⟩ := four_cells t1
  obtain ⟨z0, z1, z2, fz⟩ := three_of t3
  clear ho hb1 c77 t0 t1 t2 t3
  obtain ⟨y0', y1', y2', y3'⟩ := four_cells HF.out.2.1
  clear z0 z1 z2 fz
  go_wp2_with (fail)
  clear x0 x1 x2 fx y0 y1 y2 y3 y0' y1' y2' y3'
  generalize (((w1.setCell ⟨w.heap.size, 0, none⟩ (.slice p nv nv)).setCell ⟨w.heap.size, 1, none⟩ (.slice q ne ne)).setCell ⟨w.heap.size, 2, none⟩ (.int .i64 g.last)) = W2 at *
  have c78 := pin40 hnv.out hne.out hm HF.out (hem.out.on HF.out.2.2.2.2.2.1)
  refine c78.mono ?_
  rintro e W3 ⟨hb3, ⟨hel', -⟩ | ⟨ps', Ab, Ao, hel', rfl, hL⟩⟩
  · rw [hel] at hel'; cases hel'
  obtain rfl : ps' = ps := by rw [hel] at hel'; injection hel' with e; exact e.symm
  have HF3 := Lib.hid (HF.out.on hb3)
  have HL := Lib.hid hL
  have hv3 := Lib.hid (hv.out.on (HF3.out.2.2.2.2.2.1))
  clear hb3 c78 HF hel' hL
  obtain ⟨x0, x1, x2, fx⟩ := three_of HF3.out.1
  obtain ⟨z0, z1, z2, fz⟩ := three_of HF3.out.2.2.2.1
  have hnil := nilP W3 ⟨Ab, Ao, none⟩
  have c79 := name38 na
  rw [show nm na.data.toList = nmB na from rfl, hna] at c79
  go_wp2_with (fail)
  refine (c79 _).mono ?_
  rintro e W4 ⟨rfl, rfl⟩
  obtain ⟨v0, v1, v2, v3⟩ := four_cells HF3.out.2.2.1
  clear hnil c79
  have c80 := check_any v _ _ hv3.out
  unfold V.agg at c80
  rw [hve] at c80
  go_wp2_with (fail)
  refine c80.mono ?_
  rintro e W5 ⟨rfl, hb5⟩
  have HF5 := Lib.hid (HF3.out.on hb5)
  clear c80 x0 x1 x2 fx z0 z1 z2 fz v0 v1 v2 v3
  obtain ⟨hdr, l1, l2, l3, l4, l5, l6, l7⟩ := HL.out
  have hcell := some_on hb5 l3
  have l5' := l5.on hb5
  have c81 := place43 ps' hdr na W5 (l5'.sq.low (Nat.zero_le _)) (from_nr (may_from (ps_may hm hel)))
  rw [hhas] at c81
  replace hb5 := Lib.hid hb5
  replace l3 := Lib.hid l3
  replace l5' := Lib.hid l5'
  replace l6 := Lib.hid l6
  replace l7 := Lib.hid l7
  obtain ⟨ph, eh⟩ := l5.hdr
  subst eh
  clear HL
  go_wp2_with (fail)
  refine c81.mono ?_
  rintro e W6 ⟨kk, rfl, hpl, hb6⟩
  have HF6 := Lib.hid (HF5.out.on hb6)
  have hcell6 := some_on hb6 hcell
  have hbL := Lib.hid (bel_then hb5.out hb6)
  have hv6 := Lib.hid (hv3.out.on hbL.out)
  replace hb6 := Lib.hid hb6
  replace hpl := Lib.hid hpl
  clear c81 hcell
  obtain ⟨x0, x1, x2, fx⟩ := three_of HF6.out.1
  obtain ⟨z0, z1, z2, fz⟩ := three_of HF6.out.2.2.2.1
  obtain ⟨N, hN⟩ : ∃ N, ps'.length = N := ⟨_, rfl⟩
  rw [hN] at h16 hcell6
  have h16z : (16 : Int) ≤ (N : Int) := by omega
  clear hN
  go_wp2
  have fin := fin4 (s1 := .slice p nv nv) (s2 := .slice q ne ne) (last := g.last) rfl HF6.out.2.2.2.2.1.ow.is HF6.out.2.2.2.2.2.1
  obtain ⟨r0, r1, r2, -⟩ := three_of HF6.out.2.2.2.1
  simp [bodyPost, results, Try.results16, go_sem, r0, r1, r2]
  exact ⟨_, _, ⟨rfl, rfl⟩, fin⟩
set_option maxRecDepth 100000 in
set_option maxHeartbeats 8000000 in
theorem set_ins (g : Gg) (sv se : Value) (k id : Int) (s : ByteArray) (lx : List V) (r : Option Addr) (m d : Nat) (na : ByteArray) (v : V) (p3 : Option Addr) (n3 c3 : Nat) (w : World) (hg : Gg.In w 0 g sv se) (hem : (V.mk k id s lx).In w 0 (.slice r m d)) (hv : v.In w 0 (.slice p3 n3 c3)) (hm : gMay g = true) (ps : List Pr) (hel : elPs g (ek k s lx) id = some ps) (hna : nmB na = true) (hve : v.err = 0) (hhas : psHas na ps = false) (h16 : ps.length < 16) :
    Calls Try.prog 16 #[g.agg sv se, .agg #[.int .i64 k, .int .i64 id, .string s, .slice r m d], .string na, v.agg (.slice p3 n3 c3)] w fun e w' => Chg2 (gUp g (ek k s lx) id (psPut na v)) 0 w e w' := by
  replace hem := Lib.hid hem
  obtain ⟨pv, cv, rfl⟩ := hg.2.1.header
  obtain ⟨pe, ce, rfl⟩ := hg.2.2.header
  obtain ⟨nv, hnv⟩ : ∃ n, g.vs.length = n := ⟨_, rfl⟩
  obtain ⟨ne, hne⟩ : ∃ n, g.es.length = n := ⟨_, rfl⟩
  rw [hnv, hne] at hg ⊢
  have c77 := fun W hW => own39s' g pv pe nv ne cv ce hnv hne W (hg.on hW)
  rw [err_yes hm] at c77
  replace hnv := Lib.hid hnv
  replace hne := Lib.hid hne
  replace hv := Lib.hid hv
  clear hg
  unfold Chg2 Gg.agg V.agg
  obtain ⟨G', hG'⟩ : ∃ G', gUp g (ek k s lx) id (psPut na v) = G' := ⟨_, rfl⟩
  rw [hG']
  have hlast : G'.last = g.last := by rw [← hG']; exact gUp_last _ _ _ _
  rw [hlast]
  replace hG' := Lib.hid hG'
  go_enter Try.func16, Try.ntmps16
  go_wp2_with (fail)
  refine (c77 _ (bel_then (bel2 w _ _) (bel2 _ _ _))).mono ?_
  rintro e w1 ⟨p, q, rfl, ho, hb1⟩
  obtain ⟨t0, t1, t2, t3, HF⟩ := own_fin4 ho hb1
  replace HF := Lib.hid HF
  obtain ⟨x0, x1, x2, fx⟩ := three_of t0
  obtain ⟨y0, y1, y2, y3⟩ := four_cells t1
  obtain ⟨z0, z1, z2, fz⟩ := three_of t3
  clear ho hb1 c77 t0 t1 t2 t3
  obtain ⟨y0', y1', y2', y3'⟩ := four_cells HF.out.2.1
  clear z0 z1 z2 fz
  go_wp2_with (fail)
  clear x0 x1 x2 fx y0 y1 y2 y3 y0' y1' y2' y3'
  generalize (((w1.setCell ⟨w.heap.size, 0, none⟩ (.slice p nv nv)).setCell ⟨w.heap.size, 1, none⟩ (.slice q ne ne)).setCell ⟨w.heap.size, 2, none⟩ (.int .i64 g.last)) = W2 at *
  have c78 := pin40 hnv.out hne.out hm HF.out (hem.out.on HF.out.2.2.2.2.2.1)
  refine c78.mono ?_
  rintro e W3 ⟨hb3, ⟨hel', -⟩ | ⟨ps', Ab, Ao, hel', rfl, hL⟩⟩
  · rw [hel] at hel'; cases hel'
  obtain rfl : ps' = ps := by rw [hel] at hel'; injection hel' with e; exact e.symm
  have HF3 := Lib.hid (HF.out.on hb3)
  have HL := Lib.hid hL
  have hv3 := Lib.hid (hv.out.on (HF3.out.2.2.2.2.2.1))
  clear hb3 c78 HF hel' hL
  obtain ⟨x0, x1, x2, fx⟩ := three_of HF3.out.1
  obtain ⟨z0, z1, z2, fz⟩ := three_of HF3.out.2.2.2.1
  have hnil := nilP W3 ⟨Ab, Ao, none⟩
  have c79 := name38 na
  rw [show nm na.data.toList = nmB na from rfl, hna] at c79
  go_wp2_with (fail)
  refine (c79 _).mono ?_
  rintro e W4 ⟨rfl, rfl⟩
  obtain ⟨v0, v1, v2, v3⟩ := four_cells HF3.out.2.2.1
  clear hnil c79
  have c80 := check_any v _ _ hv3.out
  unfold V.agg at c80
  rw [hve] at c80
  go_wp2_with (fail)
  refine c80.mono ?_
  rintro e W5 ⟨rfl, hb5⟩
  have HF5 := Lib.hid (HF3.out.on hb5)
  clear c80 x0 x1 x2 fx z0 z1 z2 fz v0 v1 v2 v3
  obtain ⟨hdr, l1, l2, l3, l4, l5, l6, l7⟩ := HL.out
  have hcell := some_on hb5 l3
  have l5' := l5.on hb5
  have c81 := place43 ps' hdr na W5 (l5'.sq.low (Nat.zero_le _)) (from_nr (may_from (ps_may hm hel)))
  rw [hhas] at c81
  replace hb5 := Lib.hid hb5
  replace l3 := Lib.hid l3
  replace l5' := Lib.hid l5'
  replace l6 := Lib.hid l6
  replace l7 := Lib.hid l7
  obtain ⟨ph, eh⟩ := l5.hdr
  subst eh
  clear HL
  go_wp2_with (fail)
  refine c81.mono ?_
  rintro e W6 ⟨kk, rfl, hpl, hb6⟩
  have HF6 := Lib.hid (HF5.out.on hb6)
  have hcell6 := some_on hb6 hcell
  have hbL := Lib.hid (bel_then hb5.out hb6)
  have hv6 := Lib.hid (hv3.out.on hbL.out)
  replace hb6 := Lib.hid hb6
  replace hpl := Lib.hid hpl
  clear c81 hcell
  have eG : Hid (gUp g (ek k s lx) id (fun _ => ps'.take kk ++ ⟨na, v⟩ :: ps'.drop kk) = G') := (ins_eq hm hel hpl.out hhas).trans hG'.out
  have hkl := Lib.hid hpl.out.1
  have c82 : ∀ (W : World) (p n c), Below W6.heap.size W6 W → v.In W W6.heap.size (.slice p n c) → Calls Try.prog 44 #[.slice ph ps'.length ps'.length, .int .i64 kk, .agg #[.string na, .int .i64 v.k, .int .i64 v.n, .string v.s, .slice p n c]] W fun e w' => ∃ g8, e = .returned (.slice (some ⟨g8, 0, none⟩) (ps'.length + 1) (ps'.length + 1)) ∧ Sq RP w' (Ab + 1) (ps'.take kk ++ ⟨na, v⟩ :: ps'.drop kk) (.slice (some ⟨g8, 0, none⟩) (ps'.length + 1) (ps'.length + 1)) ∧ Below W.heap.size W w' := fun W p n c hW hvW => by
    have hsz := hbL.out.size
    have hsz2 := hW.size
    exact put44 ps' _ kk (Ab + 1) ⟨na, v⟩ (.slice p n c) W (l5.on (bel_then hbL.out hW)) hpl.out.1 (by omega) ⟨nm_size hna, hvW.low (by omega)⟩ (by omega)
  replace l5 := Lib.hid l5
  have hwAb := Lib.hid (frozen_on hbL.out (a := ⟨Ab, Ao, none⟩) l2 l4)
  obtain ⟨N, hN⟩ : ∃ N, ps'.length = N := ⟨_, rfl⟩
  simp only [hN] at h16 hcell6 c82
  have h16z : ¬ (16 : Int) ≤ (N : Int) := by omega
  replace hN := Lib.hid hN
  obtain ⟨v0, v1, v2, v3⟩ := four_cells HF6.out.2.2.1
  have c63 : ∀ W, Below W6.heap.size W6 W → Calls Try.prog 38 #[.agg #[.int .i64 v.k, .int .i64 v.n, .string v.s, .slice p3 n3 c3]] W fun e w' => Cl v W e w' := fun W hW => clone_any v _ W (hv6.out.on hW)
  unfold Cl V.agg at c63
  have Q0 : Below W6.heap.size W6 W6.drew := (Below.refl _ W6).drew
  clear l4
  go_wp2
  go_region_with (first
    | (go_at_call 38; (with_reducible refine (c63 _ (by with_reducible assumption)).mono ?_); rintro e w7 ⟨sl7, rfl, hin7, hb7, -⟩; obtain ⟨p7, n7, c7, rfl⟩ : ∃ p n c, sl7 = .slice p n c := hin7.header; have Q7 : Below W6.heap.size W6 w7 := bel_then Q0 hb7; have hin7' : v.In w7 W6.heap.size (.slice p7 n7 c7) := hin7; have hcell7 := some_on Q7 hcell6; clear hin7 hb7 c63)
    | (go_at_call 44; (with_reducible refine (c82 _ _ _ _ Q7 hin7').mono ?_); rintro e w8 ⟨g8, rfl, hS8, hb8⟩; have Q8 : Below W6.heap.size W6 w8 := bel_then Q7 hb8; have hcell8 := some_on Q8 hcell6; have hf8 := frozen_on Q8 (a := ⟨Ab, Ao, none⟩) (Nat.lt_of_lt_of_le l2 hbL.out.size) hwAb.out; replace hS8 := Lib.hid hS8; clear hb8 c82))
  all_goals have HF8 := Lib.hid (HF6.out.on Q8)
  all_goals have hin9 := l6.out w8 _ _ (bel_then hbL.out Q8) hS8.out
  all_goals rw [eG.out] at hin9
  all_goals have g0 := blk_oth (i := Ao) (c := .slice (some ⟨g8, 0, none⟩) (N + 1) (N + 1)) (B' := Ab) HF8.out.1 (by omega)
  all_goals have g3 := blk_oth (i := Ao) (c := .slice (some ⟨g8, 0, none⟩) (N + 1) (N + 1)) (B' := Ab) HF8.out.2.2.2.1 (by omega)
  all_goals have b9 := HF8.out.2.2.2.2.2.1.setCell (p := ⟨Ab, Ao, none⟩) (by show w.heap.size ≤ Ab; omega) (.slice (some ⟨g8, 0, none⟩) (N + 1) (N + 1))
  all_goals generalize w8.setCell ⟨Ab, Ao, none⟩ (.slice (some ⟨g8, 0, none⟩) (N + 1) (N + 1)) = W9 at *
  all_goals obtain ⟨x0, x1, x2, fx⟩ := three_of g0
  all_goals obtain ⟨z0, z1, z2, fz⟩ := three_of g3
  all_goals replace hin9 := Lib.hid hin9
  all_goals replace b9 := Lib.hid b9
  all_goals replace g3 := Lib.hid g3
  all_goals clear hcell8 hf8 hcell7 hcell6 Q7 Q8 Q0 g0
  all_goals go_wp2
  all_goals have fin := fin4 (w := w) (s1 := .slice p nv nv) (s2 := .slice q ne ne) hlast hin9.out b9.out
  all_goals obtain ⟨r0, r1, r2, -⟩ := three_of g3.out
  all_goals simp [bodyPost, results, Try.results16, go_sem, r0, r1, r2]
  all_goals exact ⟨_, _, ⟨rfl, rfl⟩, fin⟩
end Go.Proofs.Yteknbploiombiaa
