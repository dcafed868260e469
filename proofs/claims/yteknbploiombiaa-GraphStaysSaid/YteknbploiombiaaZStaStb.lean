/-
  What Set of package graph does: its errors ahead of all.
  What Set of package graph does: a property that there is.
-/
import Derived.Test.YteknbploiombiaaZOwf
import Derived.Test.YteknbploiombiaaZPlc
import Derived.Test.YteknbploiombiaaZCpyPtbPta
import Derived.Deep.RegionHeld3
namespace Go.Proofs.Yteknbploiombiaa
open Go.RowKit
set_option linter.unusedVariables false      -- a walk need not use every condition

set_option maxRecDepth 100000 in
set_option maxHeartbeats 8000000 in
theorem set_no (g : Gg) (sv se : Value) (k id : Int) (s : ByteArray) (lx : List V) (r : Option Addr) (m d : Nat) (na : ByteArray) (v : V) (p3 : Option Addr) (n3 c3 : Nat) (w : World) (hg : Gg.In w 0 g sv se) (hem : (V.mk k id s lx).In w 0 (.slice r m d)) (hv : v.In w 0 (.slice p3 n3 c3)) (hm : gMay g = false) :
    Calls Try.prog 16 #[g.agg sv se, .agg #[.int .i64 k, .int .i64 id, .string s, .slice r m d], .string na, v.agg (.slice p3 n3 c3)] w fun e w' => Chg2 g 103 w e w' := by
  replace hem := Lib.hid hem
  obtain ⟨pv, cv, rfl⟩ := hg.2.1.header
  obtain ⟨pe, ce, rfl⟩ := hg.2.2.header
  obtain ⟨nv, hnv⟩ : ∃ n, g.vs.length = n := ⟨_, rfl⟩
  obtain ⟨ne, hne⟩ : ∃ n, g.es.length = n := ⟨_, rfl⟩
  rw [hnv, hne] at hg ⊢
  have c77 := fun W hW => own39s' g pv pe nv ne cv ce hnv hne W (hg.on hW)
  rw [err_no hm] at c77
  replace hnv := Lib.hid hnv
  replace hne := Lib.hid hne
  replace hv := Lib.hid hv
  clear hg
  unfold Chg2 Gg.agg V.agg
  go_enter Try.func16, Try.ntmps16
  go_wp2_with (fail)
  refine (c77 _ (bel_then (bel2 w _ _) (bel2 _ _ _))).mono ?_
  rintro e w1 ⟨p, q, rfl, ho, hb1⟩
  obtain ⟨t0, t1, t2, t3, HF⟩ := own_fin4 ho hb1
  replace HF := Lib.hid HF
  obtain ⟨x0, x1, x2, fx⟩ := three_of t0
  obtain ⟨y0, y1, y2, y3⟩ := four_cells t1
  obtain ⟨z0, z1, z2, fz⟩ := three_of t3
  clear ho hb1 c77 t0 t1 t2 t3
  clear y0 y1 y2 y3
  go_wp2
  have fin := fin4 (s1 := .slice p nv nv) (s2 := .slice q ne ne) (last := g.last) rfl HF.out.2.2.2.2.1.ow.is HF.out.2.2.2.2.2.1
  obtain ⟨r0, r1, r2, -⟩ := three_of HF.out.2.2.2.1
  simp [bodyPost, results, Try.results16, go_sem, r0, r1, r2]
  exact ⟨_, _, ⟨rfl, rfl⟩, fin⟩
set_option maxRecDepth 100000 in
set_option maxHeartbeats 8000000 in
theorem set_el (g : Gg) (sv se : Value) (k id : Int) (s : ByteArray) (lx : List V) (r : Option Addr) (m d : Nat) (na : ByteArray) (v : V) (p3 : Option Addr) (n3 c3 : Nat) (w : World) (hg : Gg.In w 0 g sv se) (hem : (V.mk k id s lx).In w 0 (.slice r m d)) (hv : v.In w 0 (.slice p3 n3 c3)) (hm : gMay g = true) (hel : elPs g (ek k s lx) id = none) :
    Calls Try.prog 16 #[g.agg sv se, .agg #[.int .i64 k, .int .i64 id, .string s, .slice r m d], .string na, v.agg (.slice p3 n3 c3)] w fun e w' => Chg2 g 101 w e w' := by
  replace hem := Lib.hid hem
  obtain ⟨pv, cv, rfl⟩ := hg.2.1.header
  obtain ⟨pe, ce, rfl⟩ := hg.2.2.header
  obtain ⟨nv, hnv⟩ : ∃ n, g.vs.length = n := ⟨_, rfl⟩
  obtain ⟨ne, hne⟩ : ∃ n, g.es.length = n := ⟨_, rfl⟩
  rw [hnv, hne] at hg ⊢
  have c77 := fun W hW => own39s' g pv pe nv ne cv ce hnv hne W (hg.on hW)
  rw [err_yes hm] at c77
  replace hnv := Lib.hid hnv
  replace hne := Lib.hid hne
  replace hv := Lib.hid hv
  clear hg
  unfold Chg2 Gg.agg V.agg
  go_enter Try.func16, Try.ntmps16
  go_wp2_with (fail)
  refine (c77 _ (bel_then (bel2 w _ _) (bel2 _ _ _))).mono ?_
  rintro e w1 ⟨p, q, rfl, ho, hb1⟩
  obtain ⟨t0, t1, t2, t3, HF⟩ := own_fin4 ho hb1
  replace HF := Lib.hid HF
  obtain ⟨x0, x1, x2, fx⟩ := three_of t0
  obtain ⟨y0, y1, y2, y3⟩ := four_cells t1
  obtain ⟨z0, z1, z2, fz⟩ := three_of t3
  clear ho hb1 c77 t0 t1 t2 t3
  obtain ⟨y0', y1', y2', y3'⟩ := four_cells HF.out.2.1
  clear z0 z1 z2 fz
  go_wp2_with (fail)
  clear x0 x1 x2 fx y0 y1 y2 y3 y0' y1' y2' y3'
  generalize (((w1.setCell ⟨w.heap.size, 0, none⟩ (.slice p nv nv)).setCell ⟨w.heap.size, 1, none⟩ (.slice q ne ne)).setCell ⟨w.heap.size, 2, none⟩ (.int .i64 g.last)) = W2 at *
  have c78 := pin40 hnv.out hne.out hm HF.out (hem.out.on HF.out.2.2.2.2.2.1)
  refine c78.mono ?_
  rintro e W3 ⟨hb3, ⟨-, rfl⟩ | ⟨ps, Ab, Ao, hel', -⟩⟩
  rotate_left
  · rw [hel] at hel'; cases hel'
  have HF3 := Lib.hid (HF.out.on hb3)
  clear hb3 c78 HF
  obtain ⟨x0, x1, x2, fx⟩ := three_of HF3.out.1
  obtain ⟨z0, z1, z2, fz⟩ := three_of HF3.out.2.2.2.1
  have hnil := nilP0 W3
  go_wp2
  have fin := fin4 (s1 := .slice p nv nv) (s2 := .slice q ne ne) (last := g.last) rfl HF3.out.2.2.2.2.1.ow.is HF3.out.2.2.2.2.2.1
  obtain ⟨r0, r1, r2, -⟩ := three_of HF3.out.2.2.2.1
  simp [bodyPost, results, Try.results16, go_sem, r0, r1, r2]
  exact ⟨_, _, ⟨rfl, rfl⟩, fin⟩
set_option maxRecDepth 100000 in
set_option maxHeartbeats 8000000 in
theorem set_nm (g : Gg) (sv se : Value) (k id : Int) (s : ByteArray) (lx : List V) (r : Option Addr) (m d : Nat) (na : ByteArray) (v : V) (p3 : Option Addr) (n3 c3 : Nat) (w : World) (hg : Gg.In w 0 g sv se) (hem : (V.mk k id s lx).In w 0 (.slice r m d)) (hv : v.In w 0 (.slice p3 n3 c3)) (hm : gMay g = true) (ps : List Pr) (hel : elPs g (ek k s lx) id = some ps) (hna : nmB na = false) :
    Calls Try.prog 16 #[g.agg sv se, .agg #[.int .i64 k, .int .i64 id, .string s, .slice r m d], .string na, v.agg (.slice p3 n3 c3)] w fun e w' => Chg2 g 100 w e w' := by
  replace hem := Lib.hid hem
  obtain ⟨pv, cv, rfl⟩ := hg.2.1.header
  obtain ⟨pe, ce, rfl⟩ := hg.2.2.header
  obtain ⟨nv, hnv⟩ : ∃ n, g.vs.length = n := ⟨_, rfl⟩
  obtain ⟨ne, hne⟩ : ∃ n, g.es.length = n := ⟨_, rfl⟩
  rw [hnv, hne] at hg ⊢
  have c77 := fun W hW => own39s' g pv pe nv ne cv ce hnv hne W (hg.on hW)
  rw [err_yes hm] at c77
  replace hnv := Lib.hid hnv
  replace hne := Lib.hid hne
  replace hv := Lib.hid hv
  clear hg
  unfold Chg2 Gg.agg V.agg
  go_enter Try.func16, Try.ntmps16
  go_wp2_with (fail)
  refine (c77 _ (bel_then (bel2 w _ _) (bel2 _ _ _))).mono ?_
  rintro e w1 ⟨p, q, rfl, ho, hb1⟩
  obtain ⟨t0, t1, t2, t3, HF⟩ := own_fin4 ho hb1
  replace HF := Lib.hid HF
  obtain ⟨x0, x1, x2, fx⟩ := three_of t0
  obtain ⟨y0, y1, y2, y3⟩ := four_cells t1
  obtain ⟨z0, z1, z2, fz⟩ := three_of t3
  clear ho hb1 c77 t0 t1 t2 t3
  obtain ⟨y0', y1', y2', y3'⟩ := four_cells HF.out.2.1
  clear z0 z1 z2 fz
  go_wp2_with (fail)
  clear x0 x1 x2 fx y0 y1 y2 y3 y0' y1' y2' y3'
  generalize (((w1.setCell ⟨w.heap.size, 0, none⟩ (.slice p nv nv)).setCell ⟨w.heap.size, 1, none⟩ (.slice q ne ne)).setCell ⟨w.heap.size, 2, none⟩ (.int .i64 g.last)) = W2 at *
  have c78 := pin40 hnv.out hne.out hm HF.out (hem.out.on HF.out.2.2.2.2.2.1)
  refine c78.mono ?_
  rintro e W3 ⟨hb3, ⟨hel', -⟩ | ⟨ps', Ab, Ao, hel', rfl, hL⟩⟩
  · rw [hel] at hel'; cases hel'
  obtain rfl : ps' = ps := by rw [hel] at hel'; injection hel' with e; exact e.symm
  have HF3 := Lib.hid (HF.out.on hb3)
  have HL := Lib.hid hL
  have hv3 := Lib.hid (hv.out.on (HF3.out.2.2.2.2.2.1))
  clear hb3 c78 HF hel' hL
  obtain ⟨x0, x1, x2, fx⟩ := three_of HF3.out.1
  obtain ⟨z0, z1, z2, fz⟩ := three_of HF3.out.2.2.2.1
  have hnil := nilP W3 ⟨Ab, Ao, none⟩
  have c79 := name38 na
  rw [show nm na.data.toList = nmB na from rfl, hna] at c79
  go_wp2_with (fail)
  refine (c79 _).mono ?_
  rintro e W4 ⟨rfl, rfl⟩
  go_wp2
  have fin := fin4 (s1 := .slice p nv nv) (s2 := .slice q ne ne) (last := g.last) rfl HF3.out.2.2.2.2.1.ow.is HF3.out.2.2.2.2.2.1
  obtain ⟨r0, r1, r2, -⟩ := three_of HF3.out.2.2.2.1
  simp [bodyPost, results, Try.results16, go_sem, r0, r1, r2]
  exact ⟨_, _, ⟨rfl, rfl⟩, fin⟩
set_option maxRecDepth 100000 in
set_option maxHeartbeats 8000000 in
theorem set_vl (g : Gg) (sv se : Value) (k id : Int) (s : ByteArray) (lx : List V) (r : Option Addr) (m d : Nat) (na : ByteArray) (v : V) (p3 : Option Addr) (n3 c3 : Nat) (w : World) (hg : Gg.In w 0 g sv se) (hem : (V.mk k id s lx).In w 0 (.slice r m d)) (hv : v.In w 0 (.slice p3 n3 c3)) (hm : gMay g = true) (ps : List Pr) (hel : elPs g (ek k s lx) id = some ps) (hna : nmB na = true) (hve : v.err = 20) :
    Calls Try.prog 16 #[g.agg sv se, .agg #[.int .i64 k, .int .i64 id, .string s, .slice r m d], .string na, v.agg (.slice p3 n3 c3)] w fun e w' => Chg2 g 20 w e w' := by
  replace hem := Lib.hid hem
  obtain ⟨pv, cv, rfl⟩ := hg.2.1.header
  obtain ⟨pe, ce, rfl⟩ := hg.2.2.header
  obtain ⟨nv, hnv⟩ : ∃ n, g.vs.length = n := ⟨_, rfl⟩
  obtain ⟨ne, hne⟩ : ∃ n, g.es.length = n := ⟨_, rfl⟩
  rw [hnv, hne] at hg ⊢
  have c77 := fun W hW => own39s' g pv pe nv ne cv ce hnv hne W (hg.on hW)
  rw [err_yes hm] at c77
  replace hnv := Lib.hid hnv
  replace hne := Lib.hid hne
  replace hv := Lib.hid hv
  clear hg
  unfold Chg2 Gg.agg V.agg
  go_enter Try.func16, Try.ntmps16
  go_wp2_with (fail)
  refine (c77 _ (bel_then (bel2 w _ _) (bel2 _ _ _))).mono ?_
  rintro e w1 ⟨p, q, rfl, ho, hb1⟩
  obtain ⟨t0, t1, t2, t3, HF⟩ := own_fin4 ho hb1
  replace HF := Lib.hid HF
  obtain ⟨x0, x1, x2, fx⟩ := three_of t0
  obtain ⟨y0, y1, y2, y3⟩ := four_cells t1
  obtain ⟨z0, z1, z2, fz⟩ := three_of t3
  clear ho hb1 c77 t0 t1 t2 t3
  obtain ⟨y0', y1', y2', y3'⟩ := four_cells HF.out.2.1
  clear z0 z1 z2 fz
  go_wp2_with (fail)
  clear x0 x1 x2 fx y0 y1 y2 y3 y0' y1' y2' y3'
  generalize (((w1.setCell ⟨w.heap.size, 0, none⟩ (.slice p nv nv)).setCell ⟨w.heap.size, 1, none⟩ (.slice q ne ne)).setCell ⟨w.heap.size, 2, none⟩ (.int .i64 g.last)) = W2 at *
  have c78 := pin40 hnv.out hne.out hm HF.out (hem.out.on HF.out.2.2.2.2.2.1)
  refine c78.mono ?_
  rintro e W3 ⟨hb3, ⟨hel', -⟩ | ⟨ps', Ab, Ao, hel', rfl, hL⟩⟩
  · rw [hel] at hel'; cases hel'
  obtain rfl : ps' = ps := by rw [hel] at hel'; injection hel' with e; exact e.symm
  have HF3 := Lib.hid (HF.out.on hb3)
  have HL := Lib.hid hL
  have hv3 := Lib.hid (hv.out.on (HF3.out.2.2.2.2.2.1))
  clear hb3 c78 HF hel' hL
  obtain ⟨x0, x1, x2, fx⟩ := three_of HF3.out.1
  obtain ⟨z0, z1, z2, fz⟩ := three_of HF3.out.2.2.2.1
  have hnil := nilP W3 ⟨Ab, Ao, none⟩
  have c79 := name38 na
  rw [show nm na.data.toList = nmB na from rfl, hna] at c79
  go_wp2_with (fail)
  refine (c79 _).mono ?_
  rintro e W4 ⟨rfl, rfl⟩
  obtain ⟨v0, v1, v2, v3⟩ := four_cells HF3.out.2.2.1
  clear hnil c79
  have c80 := check_any v _ _ hv3.out
  unfold V.agg at c80
  rw [hve] at c80
  go_wp2_with (fail)
  refine c80.mono ?_
  rintro e W5 ⟨rfl, hb5⟩
  have HF5 := Lib.hid (HF3.out.on hb5)
  clear c80 x0 x1 x2 fx z0 z1 z2 fz v0 v1 v2 v3
  obtain ⟨x0, x1, x2, fx⟩ := three_of HF5.out.1
  obtain ⟨z0, z1, z2, fz⟩ := three_of HF5.out.2.2.2.1
  go_wp2
  have fin := fin4 (s1 := .slice p nv nv) (s2 := .slice q ne ne) (last := g.last) rfl HF5.out.2.2.2.2.1.ow.is HF5.out.2.2.2.2.2.1
  obtain ⟨r0, r1, r2, -⟩ := three_of HF5.out.2.2.2.1
  simp [bodyPost, results, Try.results16, go_sem, r0, r1, r2]
  exact ⟨_, _, ⟨rfl, rfl⟩, fin⟩
end Go.Proofs.Yteknbploiombiaa
namespace Go.Proofs.Yteknbploiombiaa
open Go.RowKit
set_option linter.unusedVariables false      -- a walk need not use every condition

theorem set_eq {g : Gg} {k id : Int} {ps : List Pr} {na : ByteArray} {v : V} {kk : Nat} (hm : gMay g = true) (hel : elPs g k id = some ps) (hk : kk < ps.length) (hkn : ps[kk].nm = na) (hpl : PlaceOf na ps kk) (hhas : psHas na ps = true) :
    gUp g k id (fun _ => ps.set kk ⟨ps[kk].nm, v⟩) = gUp g k id (psPut na v) := by
  have e := put_at (v := v) (may_from (ps_may hm hel)) hpl
  rw [hhas, if_pos rfl] at e
  have h := gUp_const (f := psPut na v) hm hel
  rw [e] at h
  rw [← h, hkn]
theorem sep5 {u : World} {Ab Ao B2 bb o : Nat} {H K L M N a b c d : Value} (h : u.cell? ⟨Ab, Ao, none⟩ = some H ∧ u.cell? ⟨B2, 0, none⟩ = some K ∧ u.cell? ⟨B2, 1, none⟩ = some L ∧ u.cell? ⟨B2, 2, none⟩ = some M ∧ u.cell? ⟨B2, 3, none⟩ = some N) (h1 : Ab ≠ bb) (h2 : B2 ≠ bb) :
    ((((u.setCell ⟨bb, o, none⟩ a).setCell ⟨bb, o + 1, none⟩ b).setCell ⟨bb, o + 2, none⟩ c).setCell ⟨bb, o + 3, none⟩ d).cell? ⟨Ab, Ao, none⟩ = some H ∧ ((((u.setCell ⟨bb, o, none⟩ a).setCell ⟨bb, o + 1, none⟩ b).setCell ⟨bb, o + 2, none⟩ c).setCell ⟨bb, o + 3, none⟩ d).cell? ⟨B2, 0, none⟩ = some K ∧ ((((u.setCell ⟨bb, o, none⟩ a).setCell ⟨bb, o + 1, none⟩ b).setCell ⟨bb, o + 2, none⟩ c).setCell ⟨bb, o + 3, none⟩ d).cell? ⟨B2, 1, none⟩ = some L ∧
    ((((u.setCell ⟨bb, o, none⟩ a).setCell ⟨bb, o + 1, none⟩ b).setCell ⟨bb, o + 2, none⟩ c).setCell ⟨bb, o + 3, none⟩ d).cell? ⟨B2, 2, none⟩ = some M ∧ ((((u.setCell ⟨bb, o, none⟩ a).setCell ⟨bb, o + 1, none⟩ b).setCell ⟨bb, o + 2, none⟩ c).setCell ⟨bb, o + 3, none⟩ d).cell? ⟨B2, 3, none⟩ = some N := by
  obtain ⟨a0, a1, a2, a3, a4⟩ := h
  exact ⟨set_other (set_other (set_other (set_other a0 (.inl h1)) (.inl h1)) (.inl h1)) (.inl h1), set_other (set_other (set_other (set_other a1 (.inl h2)) (.inl h2)) (.inl h2)) (.inl h2), set_other (set_other (set_other (set_other a2 (.inl h2)) (.inl h2)) (.inl h2)) (.inl h2), set_other (set_other (set_other (set_other a3 (.inl h2)) (.inl h2)) (.inl h2)) (.inl h2), set_other (set_other (set_other (set_other a4 (.inl h2)) (.inl h2)) (.inl h2)) (.inl h2)⟩
set_option maxRecDepth 100000 in
set_option maxHeartbeats 8000000 in
theorem set_is (g : Gg) (sv se : Value) (k id : Int) (s : ByteArray) (lx : List V) (r : Option Addr) (m d : Nat) (na : ByteArray) (v : V) (p3 : Option Addr) (n3 c3 : Nat) (w : World) (hg : Gg.In w 0 g sv se) (hem : (V.mk k id s lx).In w 0 (.slice r m d)) (hv : v.In w 0 (.slice p3 n3 c3)) (hm : gMay g = true) (ps : List Pr) (hel : elPs g (ek k s lx) id = some ps) (hna : nmB na = true) (hve : v.err = 0) (hhas : psHas na ps = true) :
    Calls Try.prog 16 #[g.agg sv se, .agg #[.int .i64 k, .int .i64 id, .string s, .slice r m d], .string na, v.agg (.slice p3 n3 c3)] w fun e w' => Chg2 (gUp g (ek k s lx) id (psPut na v)) 0 w e w' := by
  replace hem := Lib.hid hem
  obtain ⟨pv, cv, rfl⟩ := hg.2.1.header
  obtain ⟨pe, ce, rfl⟩ := hg.2.2.header
  obtain ⟨nv, hnv⟩ : ∃ n, g.vs.length = n := ⟨_, rfl⟩
  obtain ⟨ne, hne⟩ : ∃ n, g.es.length = n := ⟨_, rfl⟩
  rw [hnv, hne] at hg ⊢
  have c77 := fun W hW => own39s' g pv pe nv ne cv ce hnv hne W (hg.on hW)
  rw [err_yes hm] at c77
  replace hnv := Lib.hid hnv
  replace hne := Lib.hid hne
  replace hv := Lib.hid hv
  clear hg
  unfold Chg2 Gg.agg V.agg
  obtain ⟨G', hG'⟩ : ∃ G', gUp g (ek k s lx) id (psPut na v) = G' := ⟨_, rfl⟩
  rw [hG']
  have hlast : G'.last = g.last := by rw [← hG']; exact gUp_last _ _ _ _
  rw [hlast]
  replace hG' := Lib.hid hG'
  go_enter Try.func16, Try.ntmps16
  go_wp2_with (fail)
  refine (c77 _ (bel_then (bel2 w _ _) (bel2 _ _ _))).mono ?_
  rintro e w1 ⟨p, q, rfl, ho, hb1⟩
  obtain ⟨t0, t1, t2, t3, HF⟩ := own_fin4 ho hb1
  replace HF := Lib.hid HF
  obtain ⟨x0, x1, x2, fx⟩ := three_of t0
  obtain ⟨y0, y1, y2, y3⟩ := four_cells t1
  obtain ⟨z0, z1, z2, fz⟩ := three_of t3
  clear ho hb1 c77 t0 t1 t2 t3
  obtain ⟨y0', y1', y2', y3'⟩ := four_cells HF.out.2.1
  clear z0 z1 z2 fz
  go_wp2_with (fail)
  clear x0 x1 x2 fx y0 y1 y2 y3 y0' y1' y2' y3'
  generalize (((w1.setCell ⟨w.heap.size, 0, none⟩ (.slice p nv nv)).setCell ⟨w.heap.size, 1, none⟩ (.slice q ne ne)).setCell ⟨w.heap.size, 2, none⟩ (.int .i64 g.last)) = W2 at *
  have c78 := pin40 hnv.out hne.out hm HF.out (hem.out.on HF.out.2.2.2.2.2.1)
  refine c78.mono ?_
  rintro e W3 ⟨hb3, ⟨hel', -⟩ | ⟨ps', Ab, Ao, hel', rfl, hL⟩⟩
  · rw [hel] at hel'; cases hel'
  obtain rfl : ps' = ps := by rw [hel] at hel'; injection hel' with e; exact e.symm
  have HF3 := Lib.hid (HF.out.on hb3)
  have HL := Lib.hid hL
  have hv3 := Lib.hid (hv.out.on (HF3.out.2.2.2.2.2.1))
  clear hb3 c78 HF hel' hL
  obtain ⟨x0, x1, x2, fx⟩ := three_of HF3.out.1
  obtain ⟨z0, z1, z2, fz⟩ := three_of HF3.out.2.2.2.1
  have hnil := nilP W3 ⟨Ab, Ao, none⟩
  have c79 := name38 na
  rw [show nm na.data.toList = nmB na from rfl, hna] at c79
  go_wp2_with (fail)
  refine (c79 _).mono ?_
  rintro e W4 ⟨rfl, rfl⟩
  obtain ⟨v0, v1, v2, v3⟩ := four_cells HF3.out.2.2.1
  clear hnil c79
  have c80 := check_any v _ _ hv3.out
  unfold V.agg at c80
  rw [hve] at c80
  go_wp2_with (fail)
  refine c80.mono ?_
  rintro e W5 ⟨rfl, hb5⟩
  have HF5 := Lib.hid (HF3.out.on hb5)
  clear c80 x0 x1 x2 fx z0 z1 z2 fz v0 v1 v2 v3
  obtain ⟨hdr, l1, l2, l3, l4, l5, l6, l7⟩ := HL.out
  have hcell := some_on hb5 l3
  have l5' := l5.on hb5
  have c81 := place43 ps' hdr na W5 (l5'.sq.low (Nat.zero_le _)) (from_nr (may_from (ps_may hm hel)))
  rw [hhas] at c81
  replace hb5 := Lib.hid hb5
  replace l3 := Lib.hid l3
  replace l5' := Lib.hid l5'
  replace l6 := Lib.hid l6
  replace l7 := Lib.hid l7
  obtain ⟨ph, eh⟩ := l5.hdr
  subst eh
  clear HL
  go_wp2_with (fail)
  refine c81.mono ?_
  rintro e W6 ⟨kk, rfl, hpl, hb6⟩
  have HF6 := Lib.hid (HF5.out.on hb6)
  have hcell6 := some_on hb6 hcell
  have hbL := Lib.hid (bel_then hb5.out hb6)
  have hv6 := Lib.hid (hv3.out.on hbL.out)
  replace hb6 := Lib.hid hb6
  replace hpl := Lib.hid hpl
  clear c81 hcell
  obtain ⟨hkl, hkn⟩ := has_at (may_from (ps_may hm hel)) hpl.out hhas
  have hkl0 := Lib.hid hkl
  have eG : Hid (gUp g (ek k s lx) id (fun _ => ps'.set kk ⟨(ps'[kk]'hkl0.out).nm, v⟩) = G') := (set_eq hm hel hkl0.out hkn hpl.out hhas).trans hG'.out
  rcases l5 with ⟨h0, -⟩ | ⟨bb, hbb, ehd, h0, hby, hml, hrow, hlq⟩
  · rw [h0] at hkl; simp at hkl
  injection ehd with eh
  subst eh
  obtain ⟨l7a, l7b, l7c⟩ := l7.out bb _ _ rfl
  have hrow6 : Rowt W6 bb 84 (ps'.length * 5) := hrow.on hbL.out
  have hn1 : Ab ≠ bb := by omega
  have hn2 : w.heap.size + 1 + 1 ≠ bb := by omega
  obtain ⟨N, hN⟩ : ∃ N, ps'.length = N := ⟨_, rfl⟩
  rw [hN] at hkl hcell6 hrow6
  have hkz : (kk : Int) < (N : Int) := by omega
  have hkz0 : (0 : Int) ≤ (kk : Int) := by omega
  obtain ⟨v0, v1, v2, v3⟩ := four_cells HF6.out.2.2.1
  have c63 : ∀ W, Below W6.heap.size W6 W → Calls Try.prog 38 #[.agg #[.int .i64 v.k, .int .i64 v.n, .string v.s, .slice p3 n3 c3]] W fun e w' => Cl v W e w' := fun W hW => clone_any v _ W (hv6.out.on hW)
  unfold Cl V.agg at c63
  replace hv6 := hv6
  simp only [hN]
  replace hN := Lib.hid hN
  replace hrow6 := Lib.hid hrow6
  have Q0 : Below W6.heap.size W6 W6.drew := (Below.refl _ W6).drew
  have S0 : W6.drew.cell? ⟨Ab, Ao, none⟩ = some (.slice (some ⟨bb, 0, none⟩) N N) ∧ W6.drew.cell? ⟨w.heap.size + 1 + 1, 0, none⟩ = some (.int .i64 v.k) ∧ W6.drew.cell? ⟨w.heap.size + 1 + 1, 1, none⟩ = some (.int .i64 v.n) ∧ W6.drew.cell? ⟨w.heap.size + 1 + 1, 2, none⟩ = some (.string v.s) ∧ W6.drew.cell? ⟨w.heap.size + 1 + 1, 3, none⟩ = some (.slice p3 n3 c3) := ⟨hcell6, v0, v1, v2, v3⟩
  have SV := S0
  have R5 : Hid (kk * 5 + 5 ≤ N * 5) := by show _ ≤ _; omega
  clear v0 v1 v2 v3
  go_wp2
  go_region_held3 (fun u => u.cell? ⟨Ab, Ao, none⟩ = some (.slice (some ⟨bb, 0, none⟩) N N) ∧ u.cell? ⟨w.heap.size + 1 + 1, 0, none⟩ = some (.int .i64 v.k) ∧ u.cell? ⟨w.heap.size + 1 + 1, 1, none⟩ = some (.int .i64 v.n) ∧ u.cell? ⟨w.heap.size + 1 + 1, 2, none⟩ = some (.string v.s) ∧ u.cell? ⟨w.heap.size + 1 + 1, 3, none⟩ = some (.slice p3 n3 c3))
    (first | with_reducible exact S0 | with_reducible exact SV | with_reducible exact sep5 SV hn1 hn2)
    (first | (go_at_call 38; with_reducible refine (c63 _ (by with_reducible assumption)).mono ?_; rintro e w7 ⟨sl7, rfl, hin7, hb7, -⟩; obtain ⟨p7, n7, c7, rfl⟩ : ∃ p n c, sl7 = .slice p n c := hin7.header; have HW7 := Lib.hid (And.intro hin7 hb7); have SV : w7.cell? ⟨Ab, Ao, none⟩ = some (.slice (some ⟨bb, 0, none⟩) N N) ∧ w7.cell? ⟨w.heap.size + 1 + 1, 0, none⟩ = some (.int .i64 v.k) ∧ w7.cell? ⟨w.heap.size + 1 + 1, 1, none⟩ = some (.int .i64 v.n) ∧ w7.cell? ⟨w.heap.size + 1 + 1, 2, none⟩ = some (.string v.s) ∧ w7.cell? ⟨w.heap.size + 1 + 1, 3, none⟩ = some (.slice p3 n3 c3) := ⟨some_on hb7 S0.1, some_on hb7 S0.2.1, some_on hb7 S0.2.2.1, some_on hb7 S0.2.2.2.1, some_on hb7 S0.2.2.2.2⟩; have hr7 := (hrow6.out.on Q0).on hb7; obtain ⟨q1, e1⟩ := hr7.cell (kk * 5 + 1) (by have := R5.out; omega); have f1 := hr7.frozen (kk * 5 + 1); obtain ⟨q2, e2⟩ := hr7.cell (kk * 5 + 2) (by have := R5.out; omega); have f2 := hr7.frozen (kk * 5 + 2); obtain ⟨q3, e3⟩ := hr7.cell (kk * 5 + 3) (by have := R5.out; omega); have f3 := hr7.frozen (kk * 5 + 3); obtain ⟨q4, e4⟩ := hr7.cell (kk * 5 + 4) (by have := R5.out; omega); have f4 := hr7.frozen (kk * 5 + 4); replace hr7 := Lib.hid hr7; clear hin7 hb7 c63))
  have HF7 := Lib.hid (HF6.out.on (bel_then Q0 HW7.out.2))
  have b47 : Below W4.heap.size W4 w7 := bel_then hbL.out (bel_then Q0 HW7.out.2)
  have hin8 := l7c w7 kk hkl0.out v (.slice p7 n7 c7) b47 (HW7.out.1.low (show W4.heap.size ≤ W6.drew.heap.size from hbL.out.size))
  rw [eG.out] at hin8
  have g0 : (putL w7 bb (kk * 5 + 1) (pvL v (.slice p7 n7 c7))).heap[w.heap.size]? = _ := (putL_block (by omega)).trans HF7.out.1
  have g3 : (putL w7 bb (kk * 5 + 1) (pvL v (.slice p7 n7 c7))).heap[w.heap.size + 1 + 1 + 1]? = _ := (putL_block (by omega)).trans HF7.out.2.2.2.1
  have b8 : Below w.heap.size w (putL w7 bb (kk * 5 + 1) (pvL v (.slice p7 n7 c7))) := HF7.out.2.2.2.2.2.1.trans (putL_below (by omega))
  have hW8 : Hid (putL w7 bb (kk * 5 + 1) (pvL v (.slice p7 n7 c7)) = ((((w7.setCell ⟨bb, kk * 5 + 1, none⟩ (.int .i64 v.k)).setCell ⟨bb, kk * 5 + 1 + 1, none⟩ (.int .i64 v.n)).setCell ⟨bb, kk * 5 + 1 + 2, none⟩ (.string v.s)).setCell ⟨bb, kk * 5 + 1 + 3, none⟩ (.slice p7 n7 c7))) := rfl
  rw [hW8.out] at hin8 g0 g3 b8
  generalize ((((w7.setCell ⟨bb, kk * 5 + 1, none⟩ (.int .i64 v.k)).setCell ⟨bb, kk * 5 + 1 + 1, none⟩ (.int .i64 v.n)).setCell ⟨bb, kk * 5 + 1 + 2, none⟩ (.string v.s)).setCell ⟨bb, kk * 5 + 1 + 3, none⟩ (.slice p7 n7 c7)) = W8 at *
  obtain ⟨x0, x1, x2, fx⟩ := three_of g0
  obtain ⟨z0, z1, z2, fz⟩ := three_of g3
  replace hin8 := Lib.hid hin8
  replace b8 := Lib.hid b8
  clear S0 SV q1 e1 f1 e2 f2 e3 f3 e4 f4 b47 hcell6 Q0 g0
  replace g3 := Lib.hid g3
  go_wp2
  have fin := fin4 (w := w) (s1 := .slice p nv nv) (s2 := .slice q ne ne) hlast hin8.out b8.out
  obtain ⟨r0, r1, r2, -⟩ := three_of g3.out
  simp [bodyPost, results, Try.results16, go_sem, r0, r1, r2]
  exact ⟨_, _, ⟨rfl, rfl⟩, fin⟩
end Go.Proofs.Yteknbploiombiaa
