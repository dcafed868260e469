/-
  GraphJust: its walk.
  GraphJust: its walk.
-/
import Derived.Test.YteknbploiombiaaZUna
import Derived.Test.YteknbploiombiaaZPrg
import Derived.Test.YteknbploiombiaaZBgn
namespace Go.Proofs.Yteknbploiombiaa
open Go.RowKit
set_option linter.unusedVariables false      -- a walk need not use every condition

/-- The three boxes of the arguments. -/
def Bx (c0 el c2 : Array Value) (w W : World) : Prop := W.heap[w.heap.size]? = some (.cells c0 27) ∧ W.heap[w.heap.size + 1]? = some (.cells el 30) ∧ W.heap[w.heap.size + 1 + 1]? = some (.cells c2 30) ∧ Below w.heap.size w W
theorem Bx.on {c0 el c2 : Array Value} {w W W' : World} (h : Bx c0 el c2 w W) (hb : Below W.heap.size W W') : Bx c0 el c2 w W' := ⟨blk_on hb h.1, blk_on hb h.2.1, blk_on hb h.2.2.1, bel_then h.2.2.2 hb⟩
theorem Bx.new (c0 el c2 : Array Value) (w : World) : Bx c0 el c2 w (((w.alloc (.cells c0 27)).alloc (.cells el 30)).alloc (.cells c2 30)) := by
  have e0 := World.alloc_heap_new w (.cells c0 27)
  have e1 := World.alloc_heap_new (w.alloc (.cells c0 27)) (.cells el 30)
  have e2 := World.alloc_heap_new ((w.alloc (.cells c0 27)).alloc (.cells el 30)) (.cells c2 30)
  replace e0 := blk_on (bel2 _ (.cells el 30) (.cells c2 30)) e0
  replace e1 := blk_on (bel1 _ (.cells c2 30)) e1
  simp only [World.size_alloc] at e1 e2
  exact ⟨e0, e1, e2, bel_then (bel2 w _ _) (bel1 _ _)⟩
theorem gSet_err {g : Gg} {k id : Int} {na : ByteArray} {v : V} (h : (gSet g k id na v).2 ≠ 0) : (gSet g k id na v).1 = g := by
  revert h
  unfold gSet
  split
  · intro; rfl
  · split
    · intro; rfl
    · split
      · intro; rfl
      · split
        · intro; rfl
        · split
          · intro; rfl
          · intro h; exact absurd rfl h
theorem gSet_i64 (g : Gg) (k id : Int) (na : ByteArray) (v : V) : (gSet g k id na v).2 = 103 ∨ (gSet g k id na v).2 = 101 ∨ (gSet g k id na v).2 = 100 ∨ (gSet g k id na v).2 = 20 ∨ (gSet g k id na v).2 = 102 ∨ (gSet g k id na v).2 = 0 := by
  unfold gSet
  split
  · exact .inl rfl
  · split
    · exact .inr (.inl rfl)
    · split
      · exact .inr (.inr (.inl rfl))
      · split
        · exact .inr (.inr (.inr (.inl rfl)))
        · split
          · exact .inr (.inr (.inr (.inr (.inl rfl))))
          · exact .inr (.inr (.inr (.inr (.inr rfl))))
set_option maxRecDepth 100000 in
set_option maxHeartbeats 16000000 in
theorem just_no (g : Gg) (sv se : Value) (k id : Int) (s : ByteArray) (lx : List V) (r : Option Addr) (m d : Nat) (na : ByteArray) (v : V) (p3 : Option Addr) (n3 c3 : Nat) (w : World) (hg : Gg.In w 0 g sv se) (hem : (V.mk k id s lx).In w 0 (.slice r m d)) (hv : v.In w 0 (.slice p3 n3 c3)) (hm : gMay g = false) :
    Calls Try.prog 5 #[g.agg sv se, .agg #[.int .i64 k, .int .i64 id, .string s, .slice r m d], .string na, v.agg (.slice p3 n3 c3)] w fun e w' => e = .returned (.bool true) ∧ Below w.heap.size w w' := by
  replace hem := Lib.hid hem
  obtain ⟨pv, cv, rfl⟩ := hg.2.1.header
  obtain ⟨pe, ce, rfl⟩ := hg.2.2.header
  have HG := Lib.hid hg
  have HV := Lib.hid hv
  clear hg hv
  have c8 := begun6
  unfold Gg.agg V.agg
  go_enter Try.func5, Try.ntmps5
  go_wp2_with (fail)
  have HB := Lib.hid (Bx.new #[.slice pv g.vs.length cv, .slice pe g.es.length ce, .int .i64 g.last] #[.int .i64 k, .int .i64 id, .string s, .slice r m d] #[.int .i64 v.k, .int .i64 v.n, .string v.s, .slice p3 n3 c3] w)
  generalize ((w.alloc (Obj.cells #[.slice pv g.vs.length cv, .slice pe g.es.length ce, .int .i64 g.last] 27)).alloc (Obj.cells #[.int .i64 k, .int .i64 id, .string s, .slice r m d] 30)).alloc (Obj.cells #[.int .i64 v.k, .int .i64 v.n, .string v.s, .slice p3 n3 c3] 30) = W0 at *
  refine (c8 _).mono ?_
  rintro e W1 ⟨rfl, hb1⟩
  replace HB := Lib.hid (HB.out.on hb1)
  clear hb1
  obtain ⟨x0, x1, x2, fx⟩ := three_of HB.out.1
  go_wp2_with (fail)
  clear x0 x1 x2 fx
  have c9 := check8 g (.slice pv g.vs.length cv) (.slice pe g.es.length ce) W1 (HG.out.on HB.out.2.2.2)
  unfold Gg.agg at c9
  rw [err_no hm] at c9
  refine c9.mono ?_
  rintro e W2 ⟨rfl, hb2⟩
  replace HB := Lib.hid (HB.out.on hb2)
  clear hb2 c9
  go_wp2_with (fail)
  refine (c8 _).mono ?_
  rintro e W3 ⟨rfl, hb3⟩
  replace HB := Lib.hid (HB.out.on hb3)
  clear hb3 c8
  go_wp2
  go_ret
  exact ⟨rfl, HB.out.2.2.2⟩
set_option maxRecDepth 100000 in
set_option maxHeartbeats 16000000 in
theorem just_err (g : Gg) (sv se : Value) (k id : Int) (s : ByteArray) (lx : List V) (r : Option Addr) (m d : Nat) (na : ByteArray) (v : V) (p3 : Option Addr) (n3 c3 : Nat) (w : World) (hg : Gg.In w 0 g sv se) (hem : (V.mk k id s lx).In w 0 (.slice r m d)) (hv : v.In w 0 (.slice p3 n3 c3)) (hm : gMay g = true) (her : (gSet g (ek k s lx) id na v).2 ≠ 0) :
    Calls Try.prog 5 #[g.agg sv se, .agg #[.int .i64 k, .int .i64 id, .string s, .slice r m d], .string na, v.agg (.slice p3 n3 c3)] w fun e w' => e = .returned (.bool true) ∧ Below w.heap.size w w' := by
  replace hem := Lib.hid hem
  obtain ⟨pv, cv, rfl⟩ := hg.2.1.header
  obtain ⟨pe, ce, rfl⟩ := hg.2.2.header
  have HG := Lib.hid hg
  have HV := Lib.hid hv
  clear hg hv
  have c8 := begun6
  unfold Gg.agg V.agg
  go_enter Try.func5, Try.ntmps5
  go_wp2_with (fail)
  have HB := Lib.hid (Bx.new #[.slice pv g.vs.length cv, .slice pe g.es.length ce, .int .i64 g.last] #[.int .i64 k, .int .i64 id, .string s, .slice r m d] #[.int .i64 v.k, .int .i64 v.n, .string v.s, .slice p3 n3 c3] w)
  generalize ((w.alloc (Obj.cells #[.slice pv g.vs.length cv, .slice pe g.es.length ce, .int .i64 g.last] 27)).alloc (Obj.cells #[.int .i64 k, .int .i64 id, .string s, .slice r m d] 30)).alloc (Obj.cells #[.int .i64 v.k, .int .i64 v.n, .string v.s, .slice p3 n3 c3] 30) = W0 at *
  refine (c8 _).mono ?_
  rintro e W1 ⟨rfl, hb1⟩
  replace HB := Lib.hid (HB.out.on hb1)
  clear hb1
  obtain ⟨x0, x1, x2, fx⟩ := three_of HB.out.1
  go_wp2_with (fail)
  clear x0 x1 x2 fx
  have c9 := check8 g (.slice pv g.vs.length cv) (.slice pe g.es.length ce) W1 (HG.out.on HB.out.2.2.2)
  unfold Gg.agg at c9
  rw [err_yes hm] at c9
  refine c9.mono ?_
  rintro e W2 ⟨rfl, hb2⟩
  replace HB := Lib.hid (HB.out.on hb2)
  clear hb2 c9
  clear c8
  obtain ⟨x0, x1, x2, fx⟩ := three_of HB.out.1
  obtain ⟨y0, y1, y2, y3⟩ := four_cells HB.out.2.1
  go_wp2_with (fail)
  clear x0 x1 x2 fx y0 y1 y2 y3
  have c23 := prop15 g _ _ k id s lx r m d na W2 (HG.out.on HB.out.2.2.2) (hem.out.on HB.out.2.2.2)
  obtain ⟨G1, hG1⟩ : ∃ x, (gPrp g (ek k s lx) id na).1 = x := ⟨_, rfl⟩
  obtain ⟨Hd, hHd⟩ : ∃ x, (gPrp g (ek k s lx) id na).2 = x := ⟨_, rfl⟩
  rw [hG1, hHd] at c23
  replace hG1 := Lib.hid hG1
  replace hHd := Lib.hid hHd
  refine c23.mono ?_
  rintro e W3 ⟨hw, rfl, hinw, hb3⟩
  obtain ⟨pw, nw, cw, rfl⟩ := hinw.header
  replace HB := Lib.hid (HB.out.on hb3)
  clear hb3 c23
  unfold V.agg
  -- the box of what was
  have NW := Lib.hid (World.alloc_heap_new W3 (.cells #[.int .i64 G1.k, .int .i64 G1.n, .string G1.s, .slice pw nw cw] 30))
  have bW := Lib.hid (bel1 W3 (.cells #[.int .i64 G1.k, .int .i64 G1.n, .string G1.s, .slice pw nw cw] 30))
  have HIw := Lib.hid ((hinw.low (Nat.zero_le _)).on bW.out)
  replace HB := Lib.hid (HB.out.on bW.out)
  obtain ⟨x0, x1, x2, fx⟩ := three_of HB.out.1
  obtain ⟨y0, y1, y2, y3⟩ := four_cells HB.out.2.1
  obtain ⟨v0, v1, v2, v3⟩ := four_cells HB.out.2.2.1
  go_wp2_with (fail)
  clear x0 x1 x2 fx y0 y1 y2 y3 v0 v1 v2 v3 hinw bW
  generalize W3.alloc (Obj.cells #[.int .i64 G1.k, .int .i64 G1.n, .string G1.s, .slice pw nw cw] 30) = W4 at *
  generalize W3.heap.size = Bw at *
  have c41 := set16 g _ _ k id s lx r m d na v _ W4 (HG.out.on HB.out.2.2.2) (hem.out.on HB.out.2.2.2) (HV.out.on HB.out.2.2.2)
  rw [gSet_err her] at c41
  obtain ⟨er, hE⟩ : ∃ x, (gSet g (ek k s lx) id na v).2 = x := ⟨_, rfl⟩
  rw [hE] at c41 her
  have herb : (er != 0) = true := by simpa using her
  clear hE
  unfold Chg2 Gg.agg V.agg at c41
  refine c41.mono ?_
  rintro e W5 ⟨s1, s2, rfl, hinx, hb5⟩
  obtain ⟨p5, c5, rfl⟩ := hinx.2.1.header
  obtain ⟨q5, d5, rfl⟩ := hinx.2.2.header
  replace HB := Lib.hid (HB.out.on hb5)
  clear hb5 c41
  have bX := Lib.hid (bel1 W5 (.cells #[.slice p5 g.vs.length c5, .slice q5 g.es.length d5, .int .i64 g.last] 27))
  have HIx := Lib.hid ((hinx.low (Nat.zero_le _)).on bX.out)
  replace HB := Lib.hid (HB.out.on bX.out)
  obtain ⟨x0, x1, x2, fx⟩ := three_of HB.out.1
  go_wp2_with (fail)
  have c42 := same17 g g _ _ _ _ _ HIx.out (HG.out.on HB.out.2.2.2)
  rw [gSame_self] at c42
  unfold Gg.agg at c42
  refine c42.mono ?_
  rintro e W6 ⟨rfl, hb6⟩
  have fin := Lib.hid (HB.out.on hb6).2.2.2
  clear hb6 c42 x0 x1 x2 fx
  go_wp2
  go_ret
  exact ⟨rfl, fin.out⟩
set_option maxRecDepth 100000 in
set_option maxHeartbeats 16000000 in
theorem just_new (g : Gg) (sv se : Value) (k id : Int) (s : ByteArray) (lx : List V) (r : Option Addr) (m d : Nat) (na : ByteArray) (v : V) (p3 : Option Addr) (n3 c3 : Nat) (w : World) (hg : Gg.In w 0 g sv se) (hem : (V.mk k id s lx).In w 0 (.slice r m d)) (hv : v.In w 0 (.slice p3 n3 c3)) (hm : gMay g = true) (ps : List Pr) (hps : elPs g (ek k s lx) id = some ps) (hpm : psMay ps = true) (hna : nmB na = true) (hvm : v.may 1 = true) (hx1 : (gSet g (ek k s lx) id na v).1 = gUp g (ek k s lx) id (psPut na v)) (he0 : (gSet g (ek k s lx) id na v).2 = 0) (hmx : gMay (gUp g (ek k s lx) id (psPut na v)) = true) (hhas : psHas na ps = false) :
    Calls Try.prog 5 #[g.agg sv se, .agg #[.int .i64 k, .int .i64 id, .string s, .slice r m d], .string na, v.agg (.slice p3 n3 c3)] w fun e w' => e = .returned (.bool true) ∧ Below w.heap.size w w' := by
  replace hem := Lib.hid hem
  obtain ⟨pv, cv, rfl⟩ := hg.2.1.header
  obtain ⟨pe, ce, rfl⟩ := hg.2.2.header
  have HG := Lib.hid hg
  have HV := Lib.hid hv
  clear hg hv
  have c8 := begun6
  unfold Gg.agg V.agg
  go_enter Try.func5, Try.ntmps5
  go_wp2_with (fail)
  have HB := Lib.hid (Bx.new #[.slice pv g.vs.length cv, .slice pe g.es.length ce, .int .i64 g.last] #[.int .i64 k, .int .i64 id, .string s, .slice r m d] #[.int .i64 v.k, .int .i64 v.n, .string v.s, .slice p3 n3 c3] w)
  generalize ((w.alloc (Obj.cells #[.slice pv g.vs.length cv, .slice pe g.es.length ce, .int .i64 g.last] 27)).alloc (Obj.cells #[.int .i64 k, .int .i64 id, .string s, .slice r m d] 30)).alloc (Obj.cells #[.int .i64 v.k, .int .i64 v.n, .string v.s, .slice p3 n3 c3] 30) = W0 at *
  refine (c8 _).mono ?_
  rintro e W1 ⟨rfl, hb1⟩
  replace HB := Lib.hid (HB.out.on hb1)
  clear hb1
  obtain ⟨x0, x1, x2, fx⟩ := three_of HB.out.1
  go_wp2_with (fail)
  clear x0 x1 x2 fx
  have c9 := check8 g (.slice pv g.vs.length cv) (.slice pe g.es.length ce) W1 (HG.out.on HB.out.2.2.2)
  unfold Gg.agg at c9
  rw [err_yes hm] at c9
  refine c9.mono ?_
  rintro e W2 ⟨rfl, hb2⟩
  replace HB := Lib.hid (HB.out.on hb2)
  clear hb2 c9
  clear c8
  obtain ⟨x0, x1, x2, fx⟩ := three_of HB.out.1
  obtain ⟨y0, y1, y2, y3⟩ := four_cells HB.out.2.1
  go_wp2_with (fail)
  clear x0 x1 x2 fx y0 y1 y2 y3
  have c23 := prop15 g _ _ k id s lx r m d na W2 (HG.out.on HB.out.2.2.2) (hem.out.on HB.out.2.2.2)
  obtain ⟨G1, hG1⟩ : ∃ x, (gPrp g (ek k s lx) id na).1 = x := ⟨_, rfl⟩
  obtain ⟨Hd, hHd⟩ : ∃ x, (gPrp g (ek k s lx) id na).2 = x := ⟨_, rfl⟩
  rw [hG1, hHd] at c23
  replace hG1 := Lib.hid hG1
  replace hHd := Lib.hid hHd
  refine c23.mono ?_
  rintro e W3 ⟨hw, rfl, hinw, hb3⟩
  obtain ⟨pw, nw, cw, rfl⟩ := hinw.header
  replace HB := Lib.hid (HB.out.on hb3)
  clear hb3 c23
  unfold V.agg
  -- the box of what was
  have NW := Lib.hid (World.alloc_heap_new W3 (.cells #[.int .i64 G1.k, .int .i64 G1.n, .string G1.s, .slice pw nw cw] 30))
  have bW := Lib.hid (bel1 W3 (.cells #[.int .i64 G1.k, .int .i64 G1.n, .string G1.s, .slice pw nw cw] 30))
  have HIw := Lib.hid ((hinw.low (Nat.zero_le _)).on bW.out)
  replace HB := Lib.hid (HB.out.on bW.out)
  obtain ⟨x0, x1, x2, fx⟩ := three_of HB.out.1
  obtain ⟨y0, y1, y2, y3⟩ := four_cells HB.out.2.1
  obtain ⟨v0, v1, v2, v3⟩ := four_cells HB.out.2.2.1
  go_wp2_with (fail)
  clear x0 x1 x2 fx y0 y1 y2 y3 v0 v1 v2 v3 hinw bW
  generalize W3.alloc (Obj.cells #[.int .i64 G1.k, .int .i64 G1.n, .string G1.s, .slice pw nw cw] 30) = W4 at *
  generalize W3.heap.size = Bw at *
  have c41 := set16 g _ _ k id s lx r m d na v _ W4 (HG.out.on HB.out.2.2.2) (hem.out.on HB.out.2.2.2) (HV.out.on HB.out.2.2.2)
  rw [he0, hx1] at c41
  obtain ⟨X, hX⟩ : ∃ x, gUp g (ek k s lx) id (psPut na v) = x := ⟨_, rfl⟩
  rw [hX] at c41 hmx
  have e1 : gPrp X (ek k s lx) id na = (v, true) := by
    rw [← hX]; unfold gPrp
    rw [elPs_up hps]
    obtain ⟨a, b⟩ := get_put (nm := na) (v := v) (may_from hpm)
    simp only [a, b]
  have ePX : elPs X (ek k s lx) id = some (psPut na v ps) := by rw [← hX]; exact elPs_up hps
  obtain ⟨Y, hY⟩ : ∃ x, gUp X (ek k s lx) id (psDel na) = x := ⟨_, rfl⟩
  have e2 : gUns X (ek k s lx) id na = (Y, true, 0) := by
    unfold gUns
    rw [hmx, ePX, hY]
    simp [(get_put (nm := na) (v := v) (may_from hpm)).2]
  have hmy : gMay Y = true := by rw [← hY]; exact gMay_up hmx ePX (may_del (ps_may hmx ePX))
  have ePY : elPs Y (ek k s lx) id = some (psDel na (psPut na v ps)) := by rw [← hY]; exact elPs_up ePX
  have e3 : (gPrp Y (ek k s lx) id na).2 = false := by
    unfold gPrp
    rw [ePY]
    exact has_del _ _
  have hp0 : gPrp g (ek k s lx) id na = (psGet na ps, psHas na ps) := by unfold gPrp; rw [hps]
  unfold Chg2 Gg.agg V.agg at c41
  refine c41.mono ?_
  rintro e W5 ⟨s1, s2, rfl, hinx, hb5⟩
  obtain ⟨p5, c5, rfl⟩ := hinx.2.1.header
  obtain ⟨q5, d5, rfl⟩ := hinx.2.2.header
  replace HB := Lib.hid (HB.out.on hb5)
  replace HIw := Lib.hid (HIw.out.on hb5)
  replace NW := Lib.hid (blk_on hb5 NW.out)
  replace hX := Lib.hid hX
  replace hY := Lib.hid hY
  replace ePY := Lib.hid ePY
  replace ePX := Lib.hid ePX
  replace hmy := Lib.hid hmy
  replace hmx := Lib.hid hmx
  replace hp0 := Lib.hid hp0
  replace e1 := Lib.hid e1
  replace e2 := Lib.hid e2
  replace e3 := Lib.hid e3
  clear hb5 c41 he0 hx1
  -- the box of x
  have NX := Lib.hid (World.alloc_heap_new W5 (.cells #[.slice p5 X.vs.length c5, .slice q5 X.es.length d5, .int .i64 X.last] 27))
  have bX := Lib.hid (bel1 W5 (.cells #[.slice p5 X.vs.length c5, .slice q5 X.es.length d5, .int .i64 X.last] 27))
  have HIx := Lib.hid ((hinx.low (Nat.zero_le _)).on bX.out)
  replace HB := Lib.hid (HB.out.on bX.out)
  replace HIw := Lib.hid (HIw.out.on bX.out)
  replace NW := Lib.hid (blk_on bX.out NW.out)
  obtain ⟨y0, y1, y2, y3⟩ := four_cells HB.out.2.1
  go_wp2_with (fail)
  clear y0 y1 y2 y3 hinx bX
  generalize W5.alloc (Obj.cells #[.slice p5 X.vs.length c5, .slice q5 X.es.length d5, .int .i64 X.last] 27) = W6 at *
  generalize W5.heap.size = Bq at *
  have c23 := prop15 X _ _ k id s lx r m d na W6 HIx.out (hem.out.on HB.out.2.2.2)
  rw [e1.out] at c23
  refine c23.mono ?_
  rintro e W7 ⟨hn, rfl, hinn, hb7⟩
  obtain ⟨pn, nn, cn, rfl⟩ := hinn.header
  replace HB := Lib.hid (HB.out.on hb7)
  replace HIw := Lib.hid (HIw.out.on hb7)
  replace NW := Lib.hid (blk_on hb7 NW.out)
  replace HIx := Lib.hid (HIx.out.on hb7)
  replace NX := Lib.hid (blk_on hb7 NX.out)
  clear hb7 c23
  unfold V.agg
  have bN := Lib.hid (bel1 W7 (.cells #[.int .i64 v.k, .int .i64 v.n, .string v.s, .slice pn nn cn] 30))
  have HIn := Lib.hid ((hinn.low (Nat.zero_le _)).on bN.out)
  replace HB := Lib.hid (HB.out.on bN.out)
  replace HIw := Lib.hid (HIw.out.on bN.out)
  replace NW := Lib.hid (blk_on bN.out NW.out)
  replace HIx := Lib.hid (HIx.out.on bN.out)
  replace NX := Lib.hid (blk_on bN.out NX.out)
  obtain ⟨v0, v1, v2, v3⟩ := four_cells HB.out.2.2.1
  go_wp2_with (fail)
  clear v0 v1 v2 v3 hinn bN
  have c25 := refSame_any v v _ _ _ HIn.out (HV.out.on HB.out.2.2.2)
  rw [show (v.cmp v == 0) = true by rw [cmp_self]; rfl] at c25
  unfold V.agg at c25
  refine c25.mono ?_
  rintro e W8 ⟨rfl, hb8⟩
  replace HB := Lib.hid (HB.out.on hb8)
  replace HIw := Lib.hid (HIw.out.on hb8)
  replace NW := Lib.hid (blk_on hb8 NW.out)
  replace HIx := Lib.hid (HIx.out.on hb8)
  replace NX := Lib.hid (blk_on hb8 NX.out)
  clear hb8 c25 HIn
  obtain ⟨x0, x1, x2, fx⟩ := three_of NX.out
  obtain ⟨y0, y1, y2, y3⟩ := four_cells HB.out.2.1
  go_wp2_with (fail)
  clear x0 x1 x2 fx y0 y1 y2 y3
  have c43 := uns19 X _ _ k id s lx r m d na W8 HIx.out (hem.out.on HB.out.2.2.2)
  rw [e2.out] at c43
  unfold ChgB Gg.agg at c43
  refine c43.mono ?_
  rintro e W9 ⟨s3, s4, rfl, hiny, hb9⟩
  obtain ⟨p9, c9, rfl⟩ := hiny.2.1.header
  obtain ⟨q9, d9, rfl⟩ := hiny.2.2.header
  replace HB := Lib.hid (HB.out.on hb9)
  replace HIw := Lib.hid (HIw.out.on hb9)
  replace NW := Lib.hid (blk_on hb9 NW.out)
  have hBy := Lib.hid ((Array.getElem?_eq_some_iff.1 HB.out.2.2.1).1)
  clear hb9 c43 HIx NX
  -- the box of y
  have NY := Lib.hid (World.alloc_heap_new W9 (.cells #[.slice p9 Y.vs.length c9, .slice q9 Y.es.length d9, .int .i64 Y.last] 27))
  have bY := Lib.hid (bel1 W9 (.cells #[.slice p9 Y.vs.length c9, .slice q9 Y.es.length d9, .int .i64 Y.last] 27))
  have HIy := Lib.hid ((hiny.low (Nat.zero_le _)).on bY.out)
  replace HB := Lib.hid (HB.out.on bY.out)
  replace HIw := Lib.hid (HIw.out.on bY.out)
  replace NW := Lib.hid (blk_on bY.out NW.out)
  obtain ⟨y0, y1, y2, y3⟩ := four_cells HB.out.2.1
  go_wp2_with (fail)
  clear y0 y1 y2 y3 hiny bY
  generalize W9.alloc (Obj.cells #[.slice p9 Y.vs.length c9, .slice q9 Y.es.length d9, .int .i64 Y.last] 27) = Wa at *
  generalize W9.heap.size = By at *
  have c23 := prop15 Y _ _ k id s lx r m d na Wa HIy.out (hem.out.on HB.out.2.2.2)
  obtain ⟨G2, hG2⟩ : ∃ x, (gPrp Y (ek k s lx) id na).1 = x := ⟨_, rfl⟩
  rw [e3.out, hG2] at c23
  refine c23.mono ?_
  rintro e Wb ⟨hz, rfl, hinz, hbb⟩
  obtain ⟨pz, nz, cz, rfl⟩ := hinz.header
  replace HB := Lib.hid (HB.out.on hbb)
  replace HIw := Lib.hid (HIw.out.on hbb)
  replace NW := Lib.hid (blk_on hbb NW.out)
  replace HIy := Lib.hid (HIy.out.on hbb)
  replace NY := Lib.hid (blk_on hbb NY.out)
  clear hbb c23 hinz hG2
  unfold V.agg
  have bZ := Lib.hid (bel1 Wb (.cells #[.int .i64 G2.k, .int .i64 G2.n, .string G2.s, .slice pz nz cz] 30))
  replace HB := Lib.hid (HB.out.on bZ.out)
  replace HIw := Lib.hid (HIw.out.on bZ.out)
  replace NW := Lib.hid (blk_on bZ.out NW.out)
  replace HIy := Lib.hid (HIy.out.on bZ.out)
  replace NY := Lib.hid (blk_on bZ.out NY.out)
  have hHv := hHd.out
  rw [hp0.out] at hHv
  have hGv := hG1.out
  rw [hp0.out] at hGv
  simp only at hHv hGv
  rw [hhas] at hHv
  subst hHv
  have eY : Hid (Y = g) := by
    show _ = _
    rw [← hY.out, ← hX.out, up_up]
    exact up_same hm hps (del_put (may_from hpm) hhas)
  replace hGv := Lib.hid hGv
  obtain ⟨x0, x1, x2, fx⟩ := three_of HB.out.1
  obtain ⟨y0, y1, y2, fy⟩ := three_of NY.out
  go_wp2_with (fail)
  clear x0 x1 x2 fx y0 y1 y2 fy
  have c42 := same17 Y g _ _ _ _ _ HIy.out (HG.out.on HB.out.2.2.2)
  rw [show gSame Y g = true by rw [eY.out]; exact gSame_self g] at c42
  unfold Gg.agg at c42
  refine c42.mono ?_
  rintro e Wc ⟨rfl, hbc⟩
  have fin := Lib.hid (HB.out.on hbc).2.2.2
  clear hbc c42
  go_wp2
  go_ret
  exact ⟨rfl, fin.out⟩
end Go.Proofs.Yteknbploiombiaa
namespace Go.Proofs.Yteknbploiombiaa
open Go.RowKit
set_option linter.unusedVariables false      -- a walk need not use every condition

set_option maxRecDepth 100000 in
set_option maxHeartbeats 16000000 in
theorem just_had (g : Gg) (sv se : Value) (k id : Int) (s : ByteArray) (lx : List V) (r : Option Addr) (m d : Nat) (na : ByteArray) (v : V) (p3 : Option Addr) (n3 c3 : Nat) (w : World) (hg : Gg.In w 0 g sv se) (hem : (V.mk k id s lx).In w 0 (.slice r m d)) (hv : v.In w 0 (.slice p3 n3 c3)) (hm : gMay g = true) (ps : List Pr) (hps : elPs g (ek k s lx) id = some ps) (hpm : psMay ps = true) (hna : nmB na = true) (hvm : v.may 1 = true) (hx1 : (gSet g (ek k s lx) id na v).1 = gUp g (ek k s lx) id (psPut na v)) (he0 : (gSet g (ek k s lx) id na v).2 = 0) (hmx : gMay (gUp g (ek k s lx) id (psPut na v)) = true) (hhas : psHas na ps = true) :
    Calls Try.prog 5 #[g.agg sv se, .agg #[.int .i64 k, .int .i64 id, .string s, .slice r m d], .string na, v.agg (.slice p3 n3 c3)] w fun e w' => e = .returned (.bool true) ∧ Below w.heap.size w w' := by
  replace hem := Lib.hid hem
  obtain ⟨pv, cv, rfl⟩ := hg.2.1.header
  obtain ⟨pe, ce, rfl⟩ := hg.2.2.header
  have HG := Lib.hid hg
  have HV := Lib.hid hv
  clear hg hv
  have c8 := begun6
  unfold Gg.agg V.agg
  go_enter Try.func5, Try.ntmps5
  go_wp2_with (fail)
  have HB := Lib.hid (Bx.new #[.slice pv g.vs.length cv, .slice pe g.es.length ce, .int .i64 g.last] #[.int .i64 k, .int .i64 id, .string s, .slice r m d] #[.int .i64 v.k, .int .i64 v.n, .string v.s, .slice p3 n3 c3] w)
  generalize ((w.alloc (Obj.cells #[.slice pv g.vs.length cv, .slice pe g.es.length ce, .int .i64 g.last] 27)).alloc (Obj.cells #[.int .i64 k, .int .i64 id, .string s, .slice r m d] 30)).alloc (Obj.cells #[.int .i64 v.k, .int .i64 v.n, .string v.s, .slice p3 n3 c3] 30) = W0 at *
  refine (c8 _).mono ?_
  rintro e W1 ⟨rfl, hb1⟩
  replace HB := Lib.hid (HB.out.on hb1)
  clear hb1
  obtain ⟨x0, x1, x2, fx⟩ := three_of HB.out.1
  go_wp2_with (fail)
  clear x0 x1 x2 fx
  have c9 := check8 g (.slice pv g.vs.length cv) (.slice pe g.es.length ce) W1 (HG.out.on HB.out.2.2.2)
  unfold Gg.agg at c9
  rw [err_yes hm] at c9
  refine c9.mono ?_
  rintro e W2 ⟨rfl, hb2⟩
  replace HB := Lib.hid (HB.out.on hb2)
  clear hb2 c9
  clear c8
  obtain ⟨x0, x1, x2, fx⟩ := three_of HB.out.1
  obtain ⟨y0, y1, y2, y3⟩ := four_cells HB.out.2.1
  go_wp2_with (fail)
  clear x0 x1 x2 fx y0 y1 y2 y3
  have c23 := prop15 g _ _ k id s lx r m d na W2 (HG.out.on HB.out.2.2.2) (hem.out.on HB.out.2.2.2)
  obtain ⟨G1, hG1⟩ : ∃ x, (gPrp g (ek k s lx) id na).1 = x := ⟨_, rfl⟩
  obtain ⟨Hd, hHd⟩ : ∃ x, (gPrp g (ek k s lx) id na).2 = x := ⟨_, rfl⟩
  rw [hG1, hHd] at c23
  replace hG1 := Lib.hid hG1
  replace hHd := Lib.hid hHd
  refine c23.mono ?_
  rintro e W3 ⟨hw, rfl, hinw, hb3⟩
  obtain ⟨pw, nw, cw, rfl⟩ := hinw.header
  replace HB := Lib.hid (HB.out.on hb3)
  clear hb3 c23
  unfold V.agg
  -- the box of what was
  have NW := Lib.hid (World.alloc_heap_new W3 (.cells #[.int .i64 G1.k, .int .i64 G1.n, .string G1.s, .slice pw nw cw] 30))
  have bW := Lib.hid (bel1 W3 (.cells #[.int .i64 G1.k, .int .i64 G1.n, .string G1.s, .slice pw nw cw] 30))
  have HIw := Lib.hid ((hinw.low (Nat.zero_le _)).on bW.out)
  replace HB := Lib.hid (HB.out.on bW.out)
  obtain ⟨x0, x1, x2, fx⟩ := three_of HB.out.1
  obtain ⟨y0, y1, y2, y3⟩ := four_cells HB.out.2.1
  obtain ⟨v0, v1, v2, v3⟩ := four_cells HB.out.2.2.1
  go_wp2_with (fail)
  clear x0 x1 x2 fx y0 y1 y2 y3 v0 v1 v2 v3 hinw bW
  generalize W3.alloc (Obj.cells #[.int .i64 G1.k, .int .i64 G1.n, .string G1.s, .slice pw nw cw] 30) = W4 at *
  generalize W3.heap.size = Bw at *
  have c41 := set16 g _ _ k id s lx r m d na v _ W4 (HG.out.on HB.out.2.2.2) (hem.out.on HB.out.2.2.2) (HV.out.on HB.out.2.2.2)
  rw [he0, hx1] at c41
  obtain ⟨X, hX⟩ : ∃ x, gUp g (ek k s lx) id (psPut na v) = x := ⟨_, rfl⟩
  rw [hX] at c41 hmx
  have e1 : gPrp X (ek k s lx) id na = (v, true) := by
    rw [← hX]; unfold gPrp
    rw [elPs_up hps]
    obtain ⟨a, b⟩ := get_put (nm := na) (v := v) (may_from hpm)
    simp only [a, b]
  have ePX : elPs X (ek k s lx) id = some (psPut na v ps) := by rw [← hX]; exact elPs_up hps
  obtain ⟨Y, hY⟩ : ∃ x, gUp X (ek k s lx) id (psDel na) = x := ⟨_, rfl⟩
  have e2 : gUns X (ek k s lx) id na = (Y, true, 0) := by
    unfold gUns
    rw [hmx, ePX, hY]
    simp [(get_put (nm := na) (v := v) (may_from hpm)).2]
  have hmy : gMay Y = true := by rw [← hY]; exact gMay_up hmx ePX (may_del (ps_may hmx ePX))
  have ePY : elPs Y (ek k s lx) id = some (psDel na (psPut na v ps)) := by rw [← hY]; exact elPs_up ePX
  have e3 : (gPrp Y (ek k s lx) id na).2 = false := by
    unfold gPrp
    rw [ePY]
    exact has_del _ _
  have hp0 : gPrp g (ek k s lx) id na = (psGet na ps, psHas na ps) := by unfold gPrp; rw [hps]
  unfold Chg2 Gg.agg V.agg at c41
  refine c41.mono ?_
  rintro e W5 ⟨s1, s2, rfl, hinx, hb5⟩
  obtain ⟨p5, c5, rfl⟩ := hinx.2.1.header
  obtain ⟨q5, d5, rfl⟩ := hinx.2.2.header
  replace HB := Lib.hid (HB.out.on hb5)
  replace HIw := Lib.hid (HIw.out.on hb5)
  replace NW := Lib.hid (blk_on hb5 NW.out)
  replace hX := Lib.hid hX
  replace hY := Lib.hid hY
  replace ePY := Lib.hid ePY
  replace ePX := Lib.hid ePX
  replace hmy := Lib.hid hmy
  replace hmx := Lib.hid hmx
  replace hp0 := Lib.hid hp0
  replace e1 := Lib.hid e1
  replace e2 := Lib.hid e2
  replace e3 := Lib.hid e3
  clear hb5 c41 he0 hx1
  -- the box of x
  have NX := Lib.hid (World.alloc_heap_new W5 (.cells #[.slice p5 X.vs.length c5, .slice q5 X.es.length d5, .int .i64 X.last] 27))
  have bX := Lib.hid (bel1 W5 (.cells #[.slice p5 X.vs.length c5, .slice q5 X.es.length d5, .int .i64 X.last] 27))
  have HIx := Lib.hid ((hinx.low (Nat.zero_le _)).on bX.out)
  replace HB := Lib.hid (HB.out.on bX.out)
  replace HIw := Lib.hid (HIw.out.on bX.out)
  replace NW := Lib.hid (blk_on bX.out NW.out)
  obtain ⟨y0, y1, y2, y3⟩ := four_cells HB.out.2.1
  go_wp2_with (fail)
  clear y0 y1 y2 y3 hinx bX
  generalize W5.alloc (Obj.cells #[.slice p5 X.vs.length c5, .slice q5 X.es.length d5, .int .i64 X.last] 27) = W6 at *
  generalize W5.heap.size = Bq at *
  have c23 := prop15 X _ _ k id s lx r m d na W6 HIx.out (hem.out.on HB.out.2.2.2)
  rw [e1.out] at c23
  refine c23.mono ?_
  rintro e W7 ⟨hn, rfl, hinn, hb7⟩
  obtain ⟨pn, nn, cn, rfl⟩ := hinn.header
  replace HB := Lib.hid (HB.out.on hb7)
  replace HIw := Lib.hid (HIw.out.on hb7)
  replace NW := Lib.hid (blk_on hb7 NW.out)
  replace HIx := Lib.hid (HIx.out.on hb7)
  replace NX := Lib.hid (blk_on hb7 NX.out)
  clear hb7 c23
  unfold V.agg
  have bN := Lib.hid (bel1 W7 (.cells #[.int .i64 v.k, .int .i64 v.n, .string v.s, .slice pn nn cn] 30))
  have HIn := Lib.hid ((hinn.low (Nat.zero_le _)).on bN.out)
  replace HB := Lib.hid (HB.out.on bN.out)
  replace HIw := Lib.hid (HIw.out.on bN.out)
  replace NW := Lib.hid (blk_on bN.out NW.out)
  replace HIx := Lib.hid (HIx.out.on bN.out)
  replace NX := Lib.hid (blk_on bN.out NX.out)
  obtain ⟨v0, v1, v2, v3⟩ := four_cells HB.out.2.2.1
  go_wp2_with (fail)
  clear v0 v1 v2 v3 hinn bN
  have c25 := refSame_any v v _ _ _ HIn.out (HV.out.on HB.out.2.2.2)
  rw [show (v.cmp v == 0) = true by rw [cmp_self]; rfl] at c25
  unfold V.agg at c25
  refine c25.mono ?_
  rintro e W8 ⟨rfl, hb8⟩
  replace HB := Lib.hid (HB.out.on hb8)
  replace HIw := Lib.hid (HIw.out.on hb8)
  replace NW := Lib.hid (blk_on hb8 NW.out)
  replace HIx := Lib.hid (HIx.out.on hb8)
  replace NX := Lib.hid (blk_on hb8 NX.out)
  clear hb8 c25 HIn
  obtain ⟨x0, x1, x2, fx⟩ := three_of NX.out
  obtain ⟨y0, y1, y2, y3⟩ := four_cells HB.out.2.1
  go_wp2_with (fail)
  clear x0 x1 x2 fx y0 y1 y2 y3
  have c43 := uns19 X _ _ k id s lx r m d na W8 HIx.out (hem.out.on HB.out.2.2.2)
  rw [e2.out] at c43
  unfold ChgB Gg.agg at c43
  refine c43.mono ?_
  rintro e W9 ⟨s3, s4, rfl, hiny, hb9⟩
  obtain ⟨p9, c9, rfl⟩ := hiny.2.1.header
  obtain ⟨q9, d9, rfl⟩ := hiny.2.2.header
  replace HB := Lib.hid (HB.out.on hb9)
  replace HIw := Lib.hid (HIw.out.on hb9)
  replace NW := Lib.hid (blk_on hb9 NW.out)
  have hBy := Lib.hid ((Array.getElem?_eq_some_iff.1 HB.out.2.2.1).1)
  clear hb9 c43 HIx NX
  -- the box of y
  have NY := Lib.hid (World.alloc_heap_new W9 (.cells #[.slice p9 Y.vs.length c9, .slice q9 Y.es.length d9, .int .i64 Y.last] 27))
  have bY := Lib.hid (bel1 W9 (.cells #[.slice p9 Y.vs.length c9, .slice q9 Y.es.length d9, .int .i64 Y.last] 27))
  have HIy := Lib.hid ((hiny.low (Nat.zero_le _)).on bY.out)
  replace HB := Lib.hid (HB.out.on bY.out)
  replace HIw := Lib.hid (HIw.out.on bY.out)
  replace NW := Lib.hid (blk_on bY.out NW.out)
  obtain ⟨y0, y1, y2, y3⟩ := four_cells HB.out.2.1
  go_wp2_with (fail)
  clear y0 y1 y2 y3 hiny bY
  generalize W9.alloc (Obj.cells #[.slice p9 Y.vs.length c9, .slice q9 Y.es.length d9, .int .i64 Y.last] 27) = Wa at *
  generalize W9.heap.size = By at *
  have c23 := prop15 Y _ _ k id s lx r m d na Wa HIy.out (hem.out.on HB.out.2.2.2)
  obtain ⟨G2, hG2⟩ : ∃ x, (gPrp Y (ek k s lx) id na).1 = x := ⟨_, rfl⟩
  rw [e3.out, hG2] at c23
  refine c23.mono ?_
  rintro e Wb ⟨hz, rfl, hinz, hbb⟩
  obtain ⟨pz, nz, cz, rfl⟩ := hinz.header
  replace HB := Lib.hid (HB.out.on hbb)
  replace HIw := Lib.hid (HIw.out.on hbb)
  replace NW := Lib.hid (blk_on hbb NW.out)
  replace HIy := Lib.hid (HIy.out.on hbb)
  replace NY := Lib.hid (blk_on hbb NY.out)
  clear hbb c23 hinz hG2
  unfold V.agg
  have bZ := Lib.hid (bel1 Wb (.cells #[.int .i64 G2.k, .int .i64 G2.n, .string G2.s, .slice pz nz cz] 30))
  replace HB := Lib.hid (HB.out.on bZ.out)
  replace HIw := Lib.hid (HIw.out.on bZ.out)
  replace NW := Lib.hid (blk_on bZ.out NW.out)
  replace HIy := Lib.hid (HIy.out.on bZ.out)
  replace NY := Lib.hid (blk_on bZ.out NY.out)
  have hHv := hHd.out
  rw [hp0.out] at hHv
  have hGv := hG1.out
  rw [hp0.out] at hGv
  simp only at hHv hGv
  rw [hhas] at hHv
  subst hHv
  have eP : psPut na G1 (psDel na (psPut na v ps)) = ps := by rw [← hGv]; exact put_del_put (may_from hpm) hhas
  have hG1m : G1.may 1 = true := by rw [← hGv]; exact (get_may (may_from hpm) hhas).1
  have hlt : (psDel na (psPut na v ps)).length < 16 := by
    have h1 := len_del (get_put (nm := na) (v := v) (may_from hpm)).2
    have h2 := len_put (nm := na) (v := v) (may_from hpm)
    rw [hhas, if_pos rfl] at h2
    have := may_len hpm
    omega
  have eS : gSet Y (ek k s lx) id na G1 = (gUp Y (ek k s lx) id (psPut na G1), 0) := by
    unfold gSet
    rw [hmy.out, ePY.out]
    simp only [hna, hG1m, has_del]
    rw [if_neg (by simp), if_neg (by simp), if_neg (by simp), if_neg (fun h => by omega)]
  have eZ : gUp Y (ek k s lx) id (psPut na G1) = g := by
    rw [← hY.out, ← hX.out, up_up, up_up]
    exact up_same hm hps eP
  rw [eZ] at eS
  replace eS := Lib.hid eS
  replace hGv := Lib.hid hGv
  clear eP hG1m hlt eZ
  obtain ⟨y0, y1, y2, y3⟩ := four_cells HB.out.2.1
  obtain ⟨z0, z1, z2, fz⟩ := three_of NY.out
  obtain ⟨u0, u1, u2, u3⟩ := four_cells NW.out
  go_wp2_with (fail)
  clear y0 y1 y2 y3 z0 z1 z2 fz u0 u1 u2 u3
  generalize Wb.alloc (Obj.cells #[.int .i64 G2.k, .int .i64 G2.n, .string G2.s, .slice pz nz cz] 30) = Wd at *
  have c41 := set16 Y _ _ k id s lx r m d na G1 _ Wd HIy.out (hem.out.on HB.out.2.2.2) HIw.out
  rw [eS.out] at c41
  unfold Chg2 Gg.agg V.agg at c41
  refine c41.mono ?_
  rintro e We ⟨s5, s6, rfl, hine, hbe⟩
  obtain ⟨p6, c6, rfl⟩ := hine.2.1.header
  obtain ⟨q6, d6, rfl⟩ := hine.2.2.header
  replace HB := Lib.hid (HB.out.on hbe)
  have NYe := Lib.hid (blk_on hbe NY.out)
  have hyB : By < Wd.heap.size := (Array.getElem?_eq_some_iff.1 NY.out).1
  clear hbe c41
  have hBy' := hBy.out
  have hwB : w.heap.size ≠ By := by omega
  obtain ⟨z0, z1, z2, fz⟩ := three_of NYe.out
  obtain ⟨x0, x1, x2, fx⟩ := three_of HB.out.1
  go_wp2_with (fail)
  clear z0 z1 z2 fz x0 x1 x2 fx
  have kB : KeepB Wd.heap.size We (((We.setCell ⟨By, 0, none⟩ (.slice p6 g.vs.length c6)).setCell ⟨By, 1, none⟩ (.slice q6 g.es.length d6)).setCell ⟨By, 2, none⟩ (.int .i64 g.last)) := ((keepB_set hyB).trans (keepB_set hyB)).trans (keepB_set hyB)
  have HIf := (hine.keep kB.keep (Nat.zero_le _) : Gg.In _ 0 g _ _)
  have bf := ((HB.out.2.2.2.setCell (p := ⟨By, 0, none⟩) (by show w.heap.size ≤ By; omega) (.slice p6 g.vs.length c6)).setCell (p := ⟨By, 1, none⟩) (by show w.heap.size ≤ By; omega) (.slice q6 g.es.length d6)).setCell (p := ⟨By, 2, none⟩) (by show w.heap.size ≤ By; omega) (.int .i64 g.last)
  generalize (((We.setCell ⟨By, 0, none⟩ (.slice p6 g.vs.length c6)).setCell ⟨By, 1, none⟩ (.slice q6 g.es.length d6)).setCell ⟨By, 2, none⟩ (.int .i64 g.last)) = Wf at *
  have c42 := same17 g g _ _ _ _ _ HIf (HG.out.on bf)
  rw [gSame_self] at c42
  unfold Gg.agg at c42
  refine c42.mono ?_
  rintro e Wg ⟨rfl, hbg⟩
  have fin := Lib.hid (bel_then bf hbg)
  clear hbg c42 bf HIf kB
  go_wp2
  go_ret
  exact ⟨rfl, fin.out⟩
end Go.Proofs.Yteknbploiombiaa
