/-
  What begun of the statements does.
-/
import Derived.Test.YteknbploiombiaaZPinDrp
import Derived.Test.YteknbploiombiaaZAde
import Derived.Test.YteknbploiombiaaZLnk
import Derived.Test.YteknbploiombiaaZTelTei
namespace Go.Proofs.Yteknbploiombiaa
open Go.RowKit Go.Shelf
set_option linter.unusedVariables false      -- a walk need not use every condition

def per : ByteArray := ⟨#[112, 101, 114, 115, 111, 110]⟩
def kno : ByteArray := ⟨#[107, 110, 111, 119, 115]⟩
def G0 : Gg := ⟨[], [], 0⟩
def G1 : Gg := ⟨[⟨1, per, []⟩], [], 1⟩
def G2 : Gg := ⟨[⟨1, per, []⟩, ⟨2, per, []⟩], [], 2⟩
def G3 : Gg := ⟨[⟨1, per, []⟩, ⟨2, per, []⟩], [⟨3, kno, 1, 2, []⟩], 3⟩
def G4 : Gg := ⟨[⟨1, per, []⟩], [], 3⟩
theorem mayA : gMay G0 = true := by decide
theorem mayB : gMay G1 = true := by decide +kernel
theorem mayC : gMay G2 = true := by decide +kernel
theorem mayD : gMay G3 = true := by decide +kernel
theorem nmp : nmB per = true := by decide +kernel
theorem nmk : nmB kno = true := by decide +kernel
theorem r1 : rAddV G0 per = (G1, 1, 0) := by
  unfold rAddV
  rw [mayA, nmp, show fullV G0 = false from by decide +kernel]
  rfl
theorem r2 : rAddV G1 per = (G2, 2, 0) := by
  unfold rAddV
  rw [mayB, nmp, show fullV G1 = false from by decide +kernel]
  rfl
theorem r3 : rAddE G2 kno 1 2 = (G3, 3, 0) := by
  unfold rAddE
  rw [mayC, nmk, show fullE G2 = false from by decide +kernel, show hasV G2.vs 1 = true from by decide +kernel, show hasV G2.vs 2 = true from by decide +kernel]
  rfl
theorem r4 : gDropV G3 2 = G4 := by rfl
theorem o1 : outL G3 1 [] = G3.es := by rfl
theorem i1 : inL G3 2 [kno] = G3.es := by
  unfold inL amg G3
  simp
theorem in0 (w : World) : Gg.In w 0 G0 (.slice none 0 0) (.slice none 0 0) := ⟨by unfold I64 G0; decide, Sq.nil _ _, Sq.nil _ _⟩
/-- A graph's two headers, of so many vertices and edges. -/
theorem heads {g : Gg} {w : World} {lo : Nat} {sv se : Value} (h : Gg.In w lo g sv se) {n m : Nat} (hn : g.vs.length = n) (hm : g.es.length = m) : ∃ p c q d, sv = .slice p n c ∧ se = .slice q m d := by
  obtain ⟨p, c, e⟩ := h.2.1.header
  obtain ⟨q, d, e'⟩ := h.2.2.header
  exact ⟨p, c, q, d, by rw [e, hn], by rw [e', hm]⟩
theorem beg1 (w : World) : Calls Try.prog 20 #[.agg #[.slice none 0 0, .slice none 0 0, .int .i64 0], .string per] w fun e w' => ∃ p c q d, e = .returned (.tuple #[.agg #[.slice p 1 c, .slice q 0 d, .int .i64 1], .int .i64 1, .int .i64 0]) ∧ Gg.In w' w.heap.size G1 (.slice p 1 c) (.slice q 0 d) ∧ Below w.heap.size w w' := by
  have := addV20 G0 (.slice none 0 0) (.slice none 0 0) per w (in0 w)
  rw [r1] at this
  refine this.mono ?_
  rintro e w' ⟨sv, se, rfl, hin, hb⟩
  obtain ⟨p, c, q, d, rfl, rfl⟩ := heads hin (show G1.vs.length = 1 from rfl) (show G1.es.length = 0 from rfl)
  exact ⟨p, c, q, d, rfl, hin, hb⟩
theorem beg2 (w : World) (p q : Option Addr) (c d : Nat) (h : Gg.In w 0 G1 (.slice p 1 c) (.slice q 0 d)) : Calls Try.prog 20 #[.agg #[.slice p 1 c, .slice q 0 d, .int .i64 1], .string per] w fun e w' => ∃ p c q d, e = .returned (.tuple #[.agg #[.slice p 2 c, .slice q 0 d, .int .i64 2], .int .i64 2, .int .i64 0]) ∧ Gg.In w' w.heap.size G2 (.slice p 2 c) (.slice q 0 d) ∧ Below w.heap.size w w' := by
  have := addV20 G1 _ _ per w h
  rw [r2] at this
  refine this.mono ?_
  rintro e w' ⟨sv, se, rfl, hin, hb⟩
  obtain ⟨p, c, q, d, rfl, rfl⟩ := heads hin (show G2.vs.length = 2 from rfl) (show G2.es.length = 0 from rfl)
  exact ⟨p, c, q, d, rfl, hin, hb⟩
theorem beg3 (w : World) (p q : Option Addr) (c d : Nat) (h : Gg.In w 0 G2 (.slice p 2 c) (.slice q 0 d)) : Calls Try.prog 21 #[.agg #[.slice p 2 c, .slice q 0 d, .int .i64 2], .string kno, .int .i64 1, .int .i64 2] w fun e w' => ∃ p c q d, e = .returned (.tuple #[.agg #[.slice p 2 c, .slice q 1 d, .int .i64 3], .int .i64 3, .int .i64 0]) ∧ Gg.In w' w.heap.size G3 (.slice p 2 c) (.slice q 1 d) ∧ Below w.heap.size w w' := by
  have := addE21 G2 _ _ kno 1 2 w h (by unfold I64; decide) (by unfold I64; decide)
  rw [r3] at this
  refine this.mono ?_
  rintro e w' ⟨sv, se, rfl, hin, hb⟩
  obtain ⟨p, c, q, d, rfl, rfl⟩ := heads hin (show G3.vs.length = 2 from rfl) (show G3.es.length = 1 from rfl)
  exact ⟨p, c, q, d, rfl, hin, hb⟩
theorem beg4 (w : World) (p q : Option Addr) (c d : Nat) (h : Gg.In w 0 G3 (.slice p 2 c) (.slice q 1 d)) : Calls Try.prog 22 #[.agg #[.slice p 2 c, .slice q 1 d, .int .i64 3], .agg #[.int .i64 6, .int .i64 2, .string ⟨#[]⟩, .slice none 0 0]] w fun e w' => ∃ p c q d, e = .returned (.tuple #[.agg #[.slice p 1 c, .slice q 0 d, .int .i64 3], .int .i64 0]) ∧ Below w.heap.size w w' := by
  have := drop22v G3 _ _ 2 ⟨#[]⟩ [] none 0 0 w h mayD (by decide +kernel) ((V.in_iff _ _ _ _).2 ⟨by show I64 6; unfold I64; omega, by show I64 2; unfold I64; omega, by show (0 : Nat) ≤ _; omega, none, 0, rfl, Nat.le_refl _, by unfold maxLen; omega, by simp [V.l], .inl rfl⟩) rfl
  rw [r4] at this
  refine this.mono ?_
  rintro e w' ⟨sv, se, rfl, hin, hb⟩
  obtain ⟨p, c, q, d, rfl, rfl⟩ := heads hin (show G4.vs.length = 1 from rfl) (show G4.es.length = 0 from rfl)
  exact ⟨p, c, q, d, rfl, hb⟩
theorem beg5 (w : World) (p q : Option Addr) (c d : Nat) (h : Gg.In w 0 G3 (.slice p 2 c) (.slice q 1 d)) : Calls Try.prog 10 #[.agg #[.slice p 2 c, .slice q 1 d, .int .i64 3], .int .i64 1, .slice none 0 0] w fun e w' => ∃ P v, e = .returned (.func (.func 67) #[] #[.pointer (some ⟨P, 0, none⟩)]) ∧ Boxed w' P 25 v ∧ GrR RL 46 w' (P + 1) (P + 1) G3.es v ∧ Below w.heap.size w w' := by
  have := out10 G3 _ _ 1 [] (.slice none 0 0) w h (Sq.nil _ _)
  rw [o1] at this
  refine this.mono ?_
  rintro e w' ⟨P, v, rfl, -, h1, h2, h3⟩
  exact ⟨P, v, rfl, h1, h2, h3⟩
theorem beg6 (w : World) (p q : Option Addr) (c d T : Nat) (h : Gg.In w 0 G3 (.slice p 2 c) (.slice q 1 d)) (hT : w.heap[T]? = some (.cells #[.string kno] 9)) : Calls Try.prog 12 #[.agg #[.slice p 2 c, .slice q 1 d, .int .i64 3], .int .i64 2, .slice (some ⟨T, 0, none⟩) 1 1] w fun e w' => ∃ P v, e = .returned (.func (.func 67) #[] #[.pointer (some ⟨P, 0, none⟩)]) ∧ Boxed w' P 25 v ∧ GrR RL 46 w' (P + 1) (P + 1) G3.es v ∧ Below w.heap.size w w' := by
  have hsq : Sq RB w 0 [kno] (.slice (some ⟨T, 0, none⟩) 1 1) := by
    refine ⟨_, 1, rfl, Nat.le_refl _, by unfold maxLen; omega, by show 1 * 16 ≤ _; omega, .inr ⟨T, 0, rfl, Nat.zero_le _, .slice none 0 0, fun j u hj => ?_, ?_, trivial⟩⟩
    · cases j with
      | zero => simp [RB] at hj; subst hj; exact (one_of hT).1
      | succ j => simp [RB] at hj
    · show S64 kno
      unfold S64 kno; decide
  have := in12 G3 _ _ 2 [kno] _ w h hsq
  rw [i1] at this
  refine this.mono ?_
  rintro e w' ⟨P, v, rfl, -, h1, h2, h3⟩
  exact ⟨P, v, rfl, h1, h2, h3⟩
theorem beg7 (w : World) (P : Nat) (v : Value) (h1 : Boxed w P 25 v) (h2 : GrR RL 46 w (P + 1) (P + 1) G3.es v) : Calls Try.prog 9 #[.func (.func 67) #[] #[.pointer (some ⟨P, 0, none⟩)]] w fun e w' => ∃ p c, e = .returned (.slice p 1 c) ∧ Below w.heap.size w w' := by
  refine (links9 G3.es P v (P + 1) w h1 h2 (by show 1 * 64 ≤ _; omega)).mono ?_
  rintro e w' ⟨v', rfl, hs, hb⟩
  obtain ⟨p, c, rfl⟩ := (hs.sq (by show 1 * 64 ≤ _; omega)).header
  exact ⟨p, c, rfl, hb⟩
theorem ver23 (w : World) : Calls Try.prog 23 #[.int .i64 2] w fun e w' => e = .returned (.agg #[.int .i64 6, .int .i64 2, .string ⟨#[]⟩, .slice none 0 0]) ∧ Below w.heap.size w w' := by
  go_enter Try.func23, Try.ntmps23
  go_wp2
  simp [bodyPost, results, Try.results23, go_sem]
  exact bel1 w _
set_option maxRecDepth 100000 in
set_option maxHeartbeats 8000000 in
theorem begun6 (w : World) : Calls Try.prog 6 #[] w fun e w' => e = .returned (.bool true) ∧ Below w.heap.size w w' := by
  go_enter Try.func6, Try.ntmps6
  go_wp2_with (fail)
  refine (beg1 w).mono ?_
  rintro e w1 ⟨p1, c1, q1, d1, rfl, hin1, hb1⟩
  have hB1 := Lib.hid hb1
  have hI1 := Lib.hid hin1
  clear hb1 hin1
  go_wp2_with (fail)
  have n1 := World.alloc_heap_new w1 (Obj.cells #[.slice p1 1 c1, .slice q1 0 d1, .int .i64 1] 27)
  have b1 := bel1 w1 (Obj.cells #[.slice p1 1 c1, .slice q1 0 d1, .int .i64 1] 27)
  have s1 : (w1.alloc (Obj.cells #[.slice p1 1 c1, .slice q1 0 d1, .int .i64 1] 27)).heap.size = w1.heap.size + 1 := by simp
  generalize w1.alloc (Obj.cells #[.slice p1 1 c1, .slice q1 0 d1, .int .i64 1] 27) = X1 at *
  refine (beg2 X1 _ _ _ _ ((hI1.out.on b1).low (Nat.zero_le _))).mono ?_
  rintro e w2 ⟨p2, c2, q2, d2, rfl, hin2, hb2⟩
  have n2 := blk_on hb2 n1
  have hB2 := Lib.hid (bel_then hB1.out (bel_then b1 hb2))
  have hI2 := Lib.hid hin2
  have s1 := Lib.hid s1
  obtain ⟨x0, x1, x2, fx⟩ := three_of n2
  have n2 := Lib.hid n2
  clear hb2 hin2 b1 n1
  go_wp2_with (fail)
  clear x0 x1 x2 fx
  have n3 := blk_put3 (a' := .slice p2 2 c2) (b' := .slice q2 0 d2) (c' := .int .i64 2) n2.out
  have k3 : KeepB X1.heap.size w2 (((w2.setCell ⟨w1.heap.size, 0, none⟩ (.slice p2 2 c2)).setCell ⟨w1.heap.size, 1, none⟩ (.slice q2 0 d2)).setCell ⟨w1.heap.size, 2, none⟩ (.int .i64 2)) := by
    have := s1.out
    exact ((keepB_set (by omega)).trans (keepB_set (by omega))).trans (keepB_set (by omega))
  have hb3 : Below w.heap.size w (((w2.setCell ⟨w1.heap.size, 0, none⟩ (.slice p2 2 c2)).setCell ⟨w1.heap.size, 1, none⟩ (.slice q2 0 d2)).setCell ⟨w1.heap.size, 2, none⟩ (.int .i64 2)) := by
    have := hB1.out.size
    exact ((hB2.out.setCell (p := ⟨w1.heap.size, 0, none⟩) this _).setCell (p := ⟨w1.heap.size, 1, none⟩) this _).setCell (p := ⟨w1.heap.size, 2, none⟩) this _
  have hI3 := (hI2.out.keep k3.keep (Nat.le_refl _)).low (Nat.zero_le _)
  generalize (((w2.setCell ⟨w1.heap.size, 0, none⟩ (.slice p2 2 c2)).setCell ⟨w1.heap.size, 1, none⟩ (.slice q2 0 d2)).setCell ⟨w1.heap.size, 2, none⟩ (.int .i64 2)) = X2 at *
  refine (beg3 X2 _ _ _ _ hI3).mono ?_
  rintro e w3 ⟨p3, c3, q3, d3, rfl, hin3, hb3'⟩
  have n4 := Lib.hid (blk_on hb3' n3)
  have hB3 := Lib.hid (bel_then hb3 hb3')
  have hI4 := Lib.hid hin3
  have hlt : Hid (w1.heap.size < X2.heap.size) := (Array.getElem?_eq_some_iff.1 n3).1
  obtain ⟨x0, x1, x2, fx⟩ := three_of n4.out
  clear hb3' hin3 hI3 hb3 k3 n3
  have n5 := blk_put3 (a' := .slice p3 2 c3) (b' := .slice q3 1 d3) (c' := .int .i64 3) n4.out
  have k5 : KeepB X2.heap.size w3 (((w3.setCell ⟨w1.heap.size, 0, none⟩ (.slice p3 2 c3)).setCell ⟨w1.heap.size, 1, none⟩ (.slice q3 1 d3)).setCell ⟨w1.heap.size, 2, none⟩ (.int .i64 3)) := by
    have := hlt.out
    exact ((keepB_set (by omega)).trans (keepB_set (by omega))).trans (keepB_set (by omega))
  have hb5 : Below w.heap.size w (((w3.setCell ⟨w1.heap.size, 0, none⟩ (.slice p3 2 c3)).setCell ⟨w1.heap.size, 1, none⟩ (.slice q3 1 d3)).setCell ⟨w1.heap.size, 2, none⟩ (.int .i64 3)) := by
    have := hB1.out.size
    exact ((hB3.out.setCell (p := ⟨w1.heap.size, 0, none⟩) this _).setCell (p := ⟨w1.heap.size, 1, none⟩) this _).setCell (p := ⟨w1.heap.size, 2, none⟩) this _
  have hI5 := (hI4.out.keep k5.keep (Nat.le_refl _)).low (Nat.zero_le _)
  obtain ⟨y0, y1, y2, fy⟩ := three_of n5
  have n5 := Lib.hid n5
  have hb5 := Lib.hid hb5
  have hI5 := Lib.hid hI5
  clear k5
  go_wp2_with (fail)
  clear x0 x1 x2 fx y0 y1 y2 fy
  generalize (((w3.setCell ⟨w1.heap.size, 0, none⟩ (.slice p3 2 c3)).setCell ⟨w1.heap.size, 1, none⟩ (.slice q3 1 d3)).setCell ⟨w1.heap.size, 2, none⟩ (.int .i64 3)) = X3 at *
  refine (beg5 X3 _ _ _ _ hI5.out).mono ?_
  rintro e w4 ⟨P4, v4, rfl, hP4, hG4, hb4⟩
  have n6 := Lib.hid (blk_on hb4 n5.out)
  have hB4 := Lib.hid (bel_then hb5.out hb4)
  have hI6 := Lib.hid (hI5.out.on hb4)
  have hP4 := Lib.hid hP4
  have hG4 := Lib.hid hG4
  clear hb4
  go_wp2_with (fail)
  refine (beg7 w4 P4 v4 hP4.out hG4.out).mono ?_
  rintro e w5 ⟨p5, c5, rfl, hb5'⟩
  have n7 := Lib.hid (blk_on hb5' n6.out)
  have hB5 := Lib.hid (bel_then hB4.out hb5')
  have hI7 := Lib.hid (hI6.out.on hb5')
  obtain ⟨x0, x1, x2, fx⟩ := three_of n7.out
  clear hb5' hP4 hG4
  go_wp2_with (fail)
  clear x0 x1 x2 fx
  have hbT := bel1 w5 (Obj.cells #[.string kno] 9)
  have hT := World.alloc_heap_new w5 (Obj.cells #[.string kno] 9)
  refine (beg6 _ _ _ _ _ w5.heap.size (hI7.out.on hbT) hT).mono ?_
  rintro e w6 ⟨P6, v6, rfl, hP6, hG6, hb6⟩
  have n8 := Lib.hid (blk_on (bel_then hbT hb6) n7.out)
  have hB6 := Lib.hid (bel_then hB5.out (bel_then hbT hb6))
  have hI8 := Lib.hid (hI7.out.on (bel_then hbT hb6))
  have hP6 := Lib.hid hP6
  have hG6 := Lib.hid hG6
  clear hb6 hbT hT
  go_wp2_with (fail)
  refine (beg7 w6 P6 v6 hP6.out hG6.out).mono ?_
  rintro e w7 ⟨p7, c7, rfl, hb7⟩
  have n9 := Lib.hid (blk_on hb7 n8.out)
  have hB7 := Lib.hid (bel_then hB6.out hb7)
  have hI9 := Lib.hid (hI8.out.on hb7)
  clear hb7 hP6 hG6
  go_wp2_with (fail)
  have S0 := three_S (u := w7.drew) (show w7.drew.heap[w1.heap.size]? = _ from n9.out)
  obtain ⟨k0, k1, k2⟩ := S0
  have Q0 : Hid (Below w7.heap.size w7 w7.drew) := (Below.refl _ w7).drew
  have c46 := fun W (hW : Below w7.heap.size w7 W) => beg4 W _ _ _ _ (hI9.out.on hW)
  have c47 := ver23 w7.drew
  have mixed : Try.prog.follows .mixedOrders = true := by kernel_rfl
  go_region_with (first
      | (go_at_call 23; refine c47.mono ?_; rintro e wv ⟨rfl, hbv⟩; have QV := Lib.hid (bel_then Q0.out hbv); obtain ⟨m0, m1, m2, mf⟩ := three_of (blk_on QV.out n9.out); clear hbv c47)
      | (go_at_call 22; refine (c46 _ QV.out).mono ?_; rintro e we ⟨p9, c9, q9, d9, rfl, hbe⟩; have QE := Lib.hid (bel_then QV.out hbe); obtain ⟨re0, re1, re2, ref⟩ := three_of (blk_on QE.out n9.out); have nE := Lib.hid (blk_on QE.out n9.out); clear hbe c46))
  all_goals go_wp2
  all_goals go_ret
  all_goals refine ⟨rfl, ?_⟩
  all_goals have hsz1 := hB1.out.size
  all_goals exact (((bel_then hB7.out QE.out).setCell (p := ⟨w1.heap.size, 0, none⟩) hsz1 _).setCell (p := ⟨w1.heap.size, 1, none⟩) hsz1 _).setCell (p := ⟨w1.heap.size, 2, none⟩) hsz1 _
end Go.Proofs.Yteknbploiombiaa
