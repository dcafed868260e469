/-
  What Unset of package graph does.
-/
import Derived.Test.YteknbploiombiaaZStaStb
import Derived.Test.YteknbploiombiaaZStc
namespace Go.Proofs.Yteknbploiombiaa
open Go.RowKit
set_option linter.unusedVariables false      -- a walk need not use every condition

set_option maxRecDepth 100000 in
set_option maxHeartbeats 8000000 in
theorem uns_no (g : Gg) (sv se : Value) (k id : Int) (s : ByteArray) (lx : List V) (r : Option Addr) (m d : Nat) (na : ByteArray) (w : World) (hg : Gg.In w 0 g sv se) (hem : (V.mk k id s lx).In w 0 (.slice r m d)) (hm : gMay g = false) :
    Calls Try.prog 19 #[g.agg sv se, .agg #[.int .i64 k, .int .i64 id, .string s, .slice r m d], .string na] w fun e w' => ChgB g false 103 w e w' := by
  replace hem := Lib.hid hem
  obtain ⟨pv, cv, rfl⟩ := hg.2.1.header
  obtain ⟨pe, ce, rfl⟩ := hg.2.2.header
  obtain ⟨nv, hnv⟩ : ∃ n, g.vs.length = n := ⟨_, rfl⟩
  obtain ⟨ne, hne⟩ : ∃ n, g.es.length = n := ⟨_, rfl⟩
  rw [hnv, hne] at hg ⊢
  have c77 := fun W hW => own39s' g pv pe nv ne cv ce hnv hne W (hg.on hW)
  rw [err_no hm] at c77
  replace hnv := Lib.hid hnv
  replace hne := Lib.hid hne
  clear hg
  unfold ChgB Gg.agg
  go_enter Try.func19, Try.ntmps19
  go_wp2_with (fail)
  refine (c77 _ (bel_then (bel2 w _ _) (bel2 _ _ _))).mono ?_
  rintro e w1 ⟨p, q, rfl, ho, hb1⟩
  obtain ⟨t0, t1, t2, t3, HF⟩ := own_fin4 ho hb1
  replace HF := Lib.hid HF
  obtain ⟨x0, x1, x2, fx⟩ := three_of t0
  obtain ⟨y0, y1, y2, y3⟩ := four_cells t1
  obtain ⟨z0, z1, z2, fz⟩ := three_of t3
  clear ho hb1 c77 t0 t1 t2 t3
  clear y0 y1 y2 y3
  go_wp2
  have fin := fin4 (s1 := .slice p nv nv) (s2 := .slice q ne ne) (last := g.last) rfl HF.out.2.2.2.2.1.ow.is HF.out.2.2.2.2.2.1
  obtain ⟨r0, r1, r2, -⟩ := three_of HF.out.2.2.2.1
  simp [bodyPost, results, Try.results19, go_sem, r0, r1, r2]
  exact ⟨_, _, ⟨rfl, rfl⟩, fin⟩
set_option maxRecDepth 100000 in
set_option maxHeartbeats 8000000 in
theorem uns_el (g : Gg) (sv se : Value) (k id : Int) (s : ByteArray) (lx : List V) (r : Option Addr) (m d : Nat) (na : ByteArray) (w : World) (hg : Gg.In w 0 g sv se) (hem : (V.mk k id s lx).In w 0 (.slice r m d)) (hm : gMay g = true) (hel : elPs g (ek k s lx) id = none) :
    Calls Try.prog 19 #[g.agg sv se, .agg #[.int .i64 k, .int .i64 id, .string s, .slice r m d], .string na] w fun e w' => ChgB g false 101 w e w' := by
  replace hem := Lib.hid hem
  obtain ⟨pv, cv, rfl⟩ := hg.2.1.header
  obtain ⟨pe, ce, rfl⟩ := hg.2.2.header
  obtain ⟨nv, hnv⟩ : ∃ n, g.vs.length = n := ⟨_, rfl⟩
  obtain ⟨ne, hne⟩ : ∃ n, g.es.length = n := ⟨_, rfl⟩
  rw [hnv, hne] at hg ⊢
  have c77 := fun W hW => own39s' g pv pe nv ne cv ce hnv hne W (hg.on hW)
  rw [err_yes hm] at c77
  replace hnv := Lib.hid hnv
  replace hne := Lib.hid hne
  clear hg
  unfold ChgB Gg.agg
  go_enter Try.func19, Try.ntmps19
  go_wp2_with (fail)
  refine (c77 _ (bel_then (bel2 w _ _) (bel2 _ _ _))).mono ?_
  rintro e w1 ⟨p, q, rfl, ho, hb1⟩
  obtain ⟨t0, t1, t2, t3, HF⟩ := own_fin4 ho hb1
  replace HF := Lib.hid HF
  obtain ⟨x0, x1, x2, fx⟩ := three_of t0
  obtain ⟨y0, y1, y2, y3⟩ := four_cells t1
  obtain ⟨z0, z1, z2, fz⟩ := three_of t3
  clear ho hb1 c77 t0 t1 t2 t3
  obtain ⟨y0', y1', y2', y3'⟩ := four_cells HF.out.2.1
  clear z0 z1 z2 fz
  go_wp2_with (fail)
  clear x0 x1 x2 fx y0 y1 y2 y3 y0' y1' y2' y3'
  generalize (((w1.setCell ⟨w.heap.size, 0, none⟩ (.slice p nv nv)).setCell ⟨w.heap.size, 1, none⟩ (.slice q ne ne)).setCell ⟨w.heap.size, 2, none⟩ (.int .i64 g.last)) = W2 at *
  have c78 := pin40 hnv.out hne.out hm HF.out (hem.out.on HF.out.2.2.2.2.2.1)
  refine c78.mono ?_
  rintro e W3 ⟨hb3, ⟨-, rfl⟩ | ⟨ps, Ab, Ao, hel', -⟩⟩
  rotate_left
  · rw [hel] at hel'; cases hel'
  have HF3 := Lib.hid (HF.out.on hb3)
  clear hb3 c78 HF
  obtain ⟨x0, x1, x2, fx⟩ := three_of HF3.out.1
  obtain ⟨z0, z1, z2, fz⟩ := three_of HF3.out.2.2.2.1
  have hnil := nilP0 W3
  go_wp2
  have fin := fin4 (s1 := .slice p nv nv) (s2 := .slice q ne ne) (last := g.last) rfl HF3.out.2.2.2.2.1.ow.is HF3.out.2.2.2.2.2.1
  obtain ⟨r0, r1, r2, -⟩ := three_of HF3.out.2.2.2.1
  simp [bodyPost, results, Try.results19, go_sem, r0, r1, r2]
  exact ⟨_, _, ⟨rfl, rfl⟩, fin⟩
set_option maxRecDepth 100000 in
set_option maxHeartbeats 8000000 in
theorem uns_ok (g : Gg) (sv se : Value) (k id : Int) (s : ByteArray) (lx : List V) (r : Option Addr) (m d : Nat) (na : ByteArray) (w : World) (hg : Gg.In w 0 g sv se) (hem : (V.mk k id s lx).In w 0 (.slice r m d)) (hm : gMay g = true) (ps : List Pr) (hel : elPs g (ek k s lx) id = some ps) :
    Calls Try.prog 19 #[g.agg sv se, .agg #[.int .i64 k, .int .i64 id, .string s, .slice r m d], .string na] w fun e w' => ChgB (gUp g (ek k s lx) id (psDel na)) (psHas na ps) 0 w e w' := by
  replace hem := Lib.hid hem
  obtain ⟨pv, cv, rfl⟩ := hg.2.1.header
  obtain ⟨pe, ce, rfl⟩ := hg.2.2.header
  obtain ⟨nv, hnv⟩ : ∃ n, g.vs.length = n := ⟨_, rfl⟩
  obtain ⟨ne, hne⟩ : ∃ n, g.es.length = n := ⟨_, rfl⟩
  rw [hnv, hne] at hg ⊢
  have c77 := fun W hW => own39s' g pv pe nv ne cv ce hnv hne W (hg.on hW)
  rw [err_yes hm] at c77
  replace hnv := Lib.hid hnv
  replace hne := Lib.hid hne
  clear hg
  unfold ChgB Gg.agg
  obtain ⟨G', hG'⟩ : ∃ G', gUp g (ek k s lx) id (psDel na) = G' := ⟨_, rfl⟩
  rw [hG']
  have hlast : G'.last = g.last := by rw [← hG']; exact gUp_last _ _ _ _
  rw [hlast]
  replace hG' := Lib.hid hG'
  obtain ⟨Hs, hHs⟩ : ∃ b, psHas na ps = b := ⟨_, rfl⟩
  rw [hHs]
  go_enter Try.func19, Try.ntmps19
  go_wp2_with (fail)
  refine (c77 _ (bel_then (bel2 w _ _) (bel2 _ _ _))).mono ?_
  rintro e w1 ⟨p, q, rfl, ho, hb1⟩
  obtain ⟨t0, t1, t2, t3, HF⟩ := own_fin4 ho hb1
  replace HF := Lib.hid HF
  obtain ⟨x0, x1, x2, fx⟩ := three_of t0
  obtain ⟨y0, y1, y2, y3⟩ := four_cells t1
  obtain ⟨z0, z1, z2, fz⟩ := three_of t3
  clear ho hb1 c77 t0 t1 t2 t3
  obtain ⟨y0', y1', y2', y3'⟩ := four_cells HF.out.2.1
  clear z0 z1 z2 fz
  go_wp2_with (fail)
  clear x0 x1 x2 fx y0 y1 y2 y3 y0' y1' y2' y3'
  generalize (((w1.setCell ⟨w.heap.size, 0, none⟩ (.slice p nv nv)).setCell ⟨w.heap.size, 1, none⟩ (.slice q ne ne)).setCell ⟨w.heap.size, 2, none⟩ (.int .i64 g.last)) = W2 at *
  have c78 := pin40 hnv.out hne.out hm HF.out (hem.out.on HF.out.2.2.2.2.2.1)
  refine c78.mono ?_
  rintro e W3 ⟨hb3, ⟨hel', -⟩ | ⟨ps', Ab, Ao, hel', rfl, hL⟩⟩
  · rw [hel] at hel'; cases hel'
  obtain rfl : ps' = ps := by rw [hel] at hel'; injection hel' with e; exact e.symm
  have HF3 := Lib.hid (HF.out.on hb3)
  clear hb3 c78 HF hel'
  obtain ⟨hdr, l1, l2, l3, l4, l5, l6, l7⟩ := hL
  have h16 := may_len (ps_may hm hel)
  have eG : Hid (gUp g (ek k s lx) id (fun _ => psDel na ps') = G') := (gUp_const hm hel).trans hG'.out
  have c81 : ∀ W, Below W3.heap.size W3 W → Calls Try.prog 43 #[hdr, .string na] W fun e w' => ∃ kk : Nat, e = .returned (.tuple #[.int .i64 kk, .bool Hs]) ∧ Below W.heap.size W w' := fun W hW => by
    have := place43 ps' hdr na W ((l5.on hW).sq.low (Nat.zero_le _)) (from_nr (may_from (ps_may hm hel)))
    rw [hHs] at this
    exact this.mono fun e w' ⟨kk, h1, _, h2⟩ => ⟨kk, h1, h2⟩
  have c83 : ∀ W, Below W3.heap.size W3 W → Calls Try.prog 48 #[hdr, .func (.func 49) #[] #[.pointer (some ⟨w.heap.size + 1 + 1, 0, none⟩)]] W fun e w' => ∃ p5 n5 c5, e = .returned (.slice p5 n5 c5) ∧ Sq RP w' (Ab + 1) (psDel na ps') (.slice p5 n5 c5) ∧ Below W.heap.size W w' := fun W hW => by
    have h1 := some_on hW (one_of HF3.out.2.2.1).1
    have hz := hW.size
    refine (without83_84 ps' hdr na (w.heap.size + 1 + 1) (Ab + 1) W (l5.on hW).sq h1 (by omega)).mono ?_
    rintro e w' ⟨v, rfl, hG, hb⟩
    obtain ⟨p5, c5, hv, -⟩ := hG.form
    have hl : (psDel na ps').length ≤ ps'.length := List.length_filter_le _ _
    refine ⟨p5, _, c5, by rw [hv], ?_, hb⟩
    rw [← hv]
    exact hG.sq (by omega) (by show _ * 72 ≤ _; omega)
  have hwAb := Lib.hid (And.intro l2 l4)
  obtain ⟨ph, eh⟩ := l5.hdr
  subst eh
  replace l6 := Lib.hid l6
  clear l5 l7 l4
  generalize ps'.length = N at *
  obtain ⟨x0, x1, x2, fx⟩ := three_of HF3.out.1
  obtain ⟨z0, z1, z2, fz⟩ := three_of HF3.out.2.2.2.1
  obtain ⟨m0, m1⟩ := one_of HF3.out.2.2.1
  have hnil := nilP W3 ⟨Ab, Ao, none⟩
  have Q0 : Below W3.heap.size W3 W3.drew := (Below.refl _ W3).drew
  go_wp2
  clear x0 x1 x2 fx z0 z1 z2 fz hnil
  go_region_with (go_at_call 43; (with_reducible refine (c81 _ (by with_reducible assumption)).mono ?_); rintro e w5 ⟨kk, rfl, hb5⟩; have Q5 : Below W3.heap.size W3 w5 := bel_then Q0 hb5; clear hb5 c81)
  all_goals have hcell5 := some_on Q5 l3
  all_goals clear Q0 m0 m1
  all_goals go_wp2_with (fail)
  all_goals refine (c83 _ Q5).mono ?_
  all_goals rintro e w6 ⟨p5, n5, c5, rfl, hS6, hb6⟩
  all_goals have Q6 := bel_then Q5 hb6
  all_goals have hcell6 := some_on Q6 l3
  all_goals have hf6 := frozen_on Q6 (a := ⟨Ab, Ao, none⟩) hwAb.out.1 hwAb.out.2
  all_goals have HF6 := Lib.hid (HF3.out.on Q6)
  all_goals have hin7 := l6.out w6 _ _ Q6 hS6
  all_goals rw [eG.out] at hin7
  all_goals have g0 := blk_oth (i := Ao) (c := .slice p5 n5 c5) (B' := Ab) HF6.out.1 (by omega)
  all_goals have g3 := blk_oth (i := Ao) (c := .slice p5 n5 c5) (B' := Ab) HF6.out.2.2.2.1 (by omega)
  all_goals have b7 := HF6.out.2.2.2.2.2.1.setCell (p := ⟨Ab, Ao, none⟩) (by show w.heap.size ≤ Ab; omega) (.slice p5 n5 c5)
  all_goals obtain ⟨x0, x1, x2, fx⟩ := three_of g0
  all_goals obtain ⟨z0, z1, z2, fz⟩ := three_of g3
  all_goals replace hin7 := Lib.hid hin7
  all_goals replace b7 := Lib.hid b7
  all_goals replace g3 := Lib.hid g3
  all_goals clear hcell5 Q5 Q6 g0 c83 l3
  all_goals go_wp2
  all_goals have fin := fin4 (w := w) (s1 := .slice p nv nv) (s2 := .slice q ne ne) hlast hin7.out b7.out
  all_goals obtain ⟨r0, r1, r2, -⟩ := three_of g3.out
  all_goals simp [bodyPost, results, Try.results19, go_sem, r0, r1, r2]
  all_goals exact ⟨_, _, ⟨rfl, rfl⟩, fin⟩
theorem err_cases (v : V) : (v.err = 0 ∧ v.may 1 = true) ∨ (v.err = 20 ∧ v.may 1 = false) := by
  unfold V.err
  cases v.may 1
  · exact .inr ⟨rfl, rfl⟩
  · exact .inl ⟨rfl, rfl⟩
/-- What Set does. -/
theorem set16 (g : Gg) (sv se : Value) (k id : Int) (s : ByteArray) (lx : List V) (r : Option Addr) (m d : Nat) (na : ByteArray) (v : V) (sx : Value) (w : World) (hg : Gg.In w 0 g sv se) (hem : (V.mk k id s lx).In w 0 (.slice r m d)) (hv : v.In w 0 sx) :
    Calls Try.prog 16 #[g.agg sv se, .agg #[.int .i64 k, .int .i64 id, .string s, .slice r m d], .string na, v.agg sx] w fun e w' => Chg2 (gSet g (ek k s lx) id na v).1 (gSet g (ek k s lx) id na v).2 w e w' := by
  replace hem := Lib.hid hem
  obtain ⟨p3, n3, c3, rfl⟩ := hv.header
  unfold gSet
  by_cases hm : gMay g = false
  · rw [if_pos hm]
    exact set_no g sv se k id s lx r m d na v p3 n3 c3 w hg hem.out hv hm
  rw [if_neg hm]
  replace hm : gMay g = true := by simpa using hm
  cases hel : elPs g (ek k s lx) id with
  | none => exact set_el g sv se k id s lx r m d na v p3 n3 c3 w hg hem.out hv hm hel
  | some ps =>
    simp only
    by_cases h1 : nmB na = false
    · rw [if_pos h1]
      exact set_nm g sv se k id s lx r m d na v p3 n3 c3 w hg hem.out hv hm ps hel h1
    rw [if_neg h1]
    replace h1 : nmB na = true := by simpa using h1
    rcases err_cases v with ⟨he, h2⟩ | ⟨he, h2⟩
    · rw [if_neg (by rw [h2]; simp)]
      cases hh : psHas na ps with
      | true =>
        rw [if_neg (by simp)]
        exact set_is g sv se k id s lx r m d na v p3 n3 c3 w hg hem.out hv hm ps hel h1 he hh
      | false =>
        by_cases h3 : 16 ≤ ps.length
        · rw [if_pos ⟨rfl, h3⟩]
          exact set_full g sv se k id s lx r m d na v p3 n3 c3 w hg hem.out hv hm ps hel h1 he hh h3
        · rw [if_neg (fun h => h3 h.2)]
          exact set_ins g sv se k id s lx r m d na v p3 n3 c3 w hg hem.out hv hm ps hel h1 he hh (by omega)
    · rw [if_pos h2]
      exact set_vl g sv se k id s lx r m d na v p3 n3 c3 w hg hem.out hv hm ps hel h1 he
/-- What Unset does. -/
theorem uns19 (g : Gg) (sv se : Value) (k id : Int) (s : ByteArray) (lx : List V) (r : Option Addr) (m d : Nat) (na : ByteArray) (w : World) (hg : Gg.In w 0 g sv se) (hem : (V.mk k id s lx).In w 0 (.slice r m d)) :
    Calls Try.prog 19 #[g.agg sv se, .agg #[.int .i64 k, .int .i64 id, .string s, .slice r m d], .string na] w fun e w' => ChgB (gUns g (ek k s lx) id na).1 (gUns g (ek k s lx) id na).2.1 (gUns g (ek k s lx) id na).2.2 w e w' := by
  replace hem := Lib.hid hem
  unfold gUns
  by_cases hm : gMay g = false
  · rw [if_pos hm]
    exact uns_no g sv se k id s lx r m d na w hg hem.out hm
  rw [if_neg hm]
  replace hm : gMay g = true := by simpa using hm
  cases hel : elPs g (ek k s lx) id with
  | none => exact uns_el g sv se k id s lx r m d na w hg hem.out hm hel
  | some ps => exact uns_ok g sv se k id s lx r m d na w hg hem.out hm ps hel
end Go.Proofs.Yteknbploiombiaa
