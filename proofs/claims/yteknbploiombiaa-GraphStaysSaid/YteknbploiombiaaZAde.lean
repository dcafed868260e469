/-
  What AddE of package graph does.
-/
import Derived.Test.YteknbploiombiaaZAdv
namespace Go.Proofs.Yteknbploiombiaa
open Go.RowKit
set_option linter.unusedVariables false      -- a walk need not use every condition

def fullE (g : Gg) : Bool := decide (2048 ≤ g.es.length) || decide (281474976710656 ≤ g.last)
def gAddE (g : Gg) (lb : ByteArray) (out inn : Int) : Gg := { g with es := g.es ++ [⟨g.last + 1, lb, out, inn, []⟩], last := g.last + 1 }
/-- Where the clone lies behind its store. -/
def Fst (g : Gg) (w W2 : World) (p q : Option Addr) (nv ne : Nat) : Prop := W2.heap[w.heap.size]? = some (.cells #[.slice p nv nv, .slice q ne ne, .int .i64 g.last] 27) ∧ W2.heap[w.heap.size + 1]? = some (.cells #[.slice none 0 0, .slice none 0 0, .int .i64 0] 27) ∧
  OwGr g W2 (w.heap.size + 2) (.slice p nv nv) (.slice q ne ne) ∧ Below w.heap.size w W2 ∧ w.heap.size + 2 ≤ W2.heap.size
theorem Fst.on {g : Gg} {w W2 W3 : World} {p q : Option Addr} {nv ne : Nat} (h : Fst g w W2 p q nv ne) (hb : Below W2.heap.size W2 W3) : Fst g w W3 p q nv ne :=
  ⟨blk_on hb h.1, blk_on hb h.2.1, h.2.2.1.on hb, h.2.2.2.1.trans (hb.mono h.2.2.2.1.size), Nat.le_trans h.2.2.2.2 hb.size⟩
/-- What an append to the edges leaves. -/
theorem addE_fin {g : Gg} {w W2 w5 : World} {p q : Option Addr} {nv ne g5 cap5 : Nat} {y : Lk} {o : Obj} (hF : Fst g w W2 p q nv ne) (hgr : ((W2.setCell ⟨w.heap.size, 2, none⟩ (.int .i64 (g.last + 1))).alloc o).grownBy w5 (Value.slice q ne ne).ownBlock)
    (hG : GrR RL 46 w5 (w.heap.size + 2) (w.heap.size + 2) (g.es ++ [y]) (.slice (some ⟨g5, 0, none⟩) (ne + 1) cap5)) :
    w5.heap[w.heap.size]? = some (.cells #[.slice p nv nv, .slice q ne ne, .int .i64 (g.last + 1)] 27) ∧ w5.heap[w.heap.size + 1]? = some (.cells #[.slice none 0 0, .slice none 0 0, .int .i64 0] 27) ∧ Below w.heap.size w w5 ∧
    GrR RL 46 w5 (w.heap.size + 2) (w.heap.size + 2) (g.es ++ [y]) (.slice (some ⟨g5, 0, none⟩) (ne + 1) cap5) ∧ OwR RV 40 w5 (w.heap.size + 2) g.vs (.slice p nv nv) := by
  obtain ⟨h0, h1, hO, hb, hz⟩ := hF
  have he := hO.e.gr len_RL
  have hne : ∀ b, (Value.slice q ne ne).ownBlock = some b → w.heap.size + 2 ≤ b := fun b e => (he.lt e).1
  have e0 := blk_on (bel1 _ o) (blk_set3c (c' := .int .i64 (g.last + 1)) h0)
  have e1 := blk_on (bel1 _ o) (blk_oth (i := 2) (c := .int .i64 (g.last + 1)) (B' := w.heap.size) h1 (by omega))
  have f0 := (hgr.block w.heap.size (Array.getElem?_eq_some_iff.1 e0).1 (fun e => by have := hne _ e.symm; omega)).trans e0
  have f1 := (hgr.block (w.heap.size + 1) (Array.getElem?_eq_some_iff.1 e1).1 (fun e => by have := hne _ e.symm; omega)).trans e1
  have bX : Below w.heap.size w ((W2.setCell ⟨w.heap.size, 2, none⟩ (.int .i64 (g.last + 1))).alloc o) := (hb.setCell (p := ⟨w.heap.size, 2, none⟩) (Nat.le_refl _) _).trans ((bel1 _ o).mono (by have := (Array.getElem?_eq_some_iff.1 e0).1; simp at this ⊢; omega))
  have b5 := bX.grown hgr bX.size (fun k e => by have := hne _ e; omega)
  refine ⟨f0, f1, b5, hG, ?_⟩
  obtain ⟨-, lo0, u, k1, k2, k3, k4, k5⟩ := hO
  have hown : ∀ b, (Value.slice q ne ne).ownBlock = some b → u.heap.size ≤ b := fun b e => ((k5.gr len_RL).lt e).1
  have kk : KeepB lo0 u w5 := fun r oo hr e => by
    have hlt := (Array.getElem?_eq_some_iff.1 e).1
    have e' := blk_on (bel1 _ o) (blk_oth (i := 2) (c := .int .i64 (g.last + 1)) (B' := w.heap.size) (k4 r oo hr e) (by omega))
    exact (hgr.block r (Array.getElem?_eq_some_iff.1 e').1 (fun e => by have := hown _ e.symm; omega)).trans e'
  exact k3.keep kk k1
theorem addE_end {g : Gg} {lb : ByteArray} {out inn : Int} {w w5 : World} {s1 : Value} {ne g5 cap5 : Nat} (h0 : 0 ≤ g.last) (hne : g.es.length = ne) (hn : ne < 2048) (hl : g.last < 281474976710656) (hb : Below w.heap.size w w5) (hG : GrR RL 46 w5 (w.heap.size + 2) (w.heap.size + 2) (g.es ++ [⟨g.last + 1, lb, out, inn, []⟩]) (.slice (some ⟨g5, 0, none⟩) (ne + 1) cap5)) (hV : OwR RV 40 w5 (w.heap.size + 2) g.vs s1) :
    Gg.In ((((w5.setCell ⟨w.heap.size, 1, none⟩ (.slice (some ⟨g5, 0, none⟩) (ne + 1) cap5)).setCell ⟨w.heap.size + 1, 0, none⟩ s1).setCell ⟨w.heap.size + 1, 1, none⟩ (.slice (some ⟨g5, 0, none⟩) (ne + 1) cap5)).setCell ⟨w.heap.size + 1, 2, none⟩ (.int .i64 (g.last + 1))) w.heap.size (gAddE g lb out inn) s1 (.slice (some ⟨g5, 0, none⟩) (ne + 1) cap5) ∧
    Below w.heap.size w ((((w5.setCell ⟨w.heap.size, 1, none⟩ (.slice (some ⟨g5, 0, none⟩) (ne + 1) cap5)).setCell ⟨w.heap.size + 1, 0, none⟩ s1).setCell ⟨w.heap.size + 1, 1, none⟩ (.slice (some ⟨g5, 0, none⟩) (ne + 1) cap5)).setCell ⟨w.heap.size + 1, 2, none⟩ (.int .i64 (g.last + 1))) := by
  refine ⟨⟨?_, ?_, ?_⟩, ?_⟩
  · show I64 (g.last + 1)
    unfold I64; omega
  · have k : KeepB (w.heap.size + 2) w5 ((((w5.setCell ⟨w.heap.size, 1, none⟩ (.slice (some ⟨g5, 0, none⟩) (ne + 1) cap5)).setCell ⟨w.heap.size + 1, 0, none⟩ s1).setCell ⟨w.heap.size + 1, 1, none⟩ (.slice (some ⟨g5, 0, none⟩) (ne + 1) cap5)).setCell ⟨w.heap.size + 1, 2, none⟩ (.int .i64 (g.last + 1))) := (((keepB_set (by omega)).trans (keepB_set (by omega))).trans (keepB_set (by omega))).trans (keepB_set (by omega))
    exact (hV.keep k (lo' := w.heap.size) (by omega)).sq
  · have := (((hG.put (Nat.le_refl _) (show w.heap.size < w.heap.size + 2 by omega) 1 (.slice (some ⟨g5, 0, none⟩) (ne + 1) cap5)).put (Nat.le_refl _) (show w.heap.size + 1 < w.heap.size + 2 by omega) 0 s1).put (Nat.le_refl _) (show w.heap.size + 1 < w.heap.size + 2 by omega) 1 (.slice (some ⟨g5, 0, none⟩) (ne + 1) cap5)).put (Nat.le_refl _) (show w.heap.size + 1 < w.heap.size + 2 by omega) 2 (.int .i64 (g.last + 1))
    exact (this.sq (Nat.le_refl _) (by rw [List.length_append, hne]; show (ne + 1) * 64 ≤ _; omega)).low (by omega)
  · exact (((hb.setCell (p := ⟨w.heap.size, 1, none⟩) (Nat.le_refl _) _).setCell (p := ⟨w.heap.size + 1, 0, none⟩) (by show w.heap.size ≤ w.heap.size + 1; omega) _).setCell (p := ⟨w.heap.size + 1, 1, none⟩) (by show w.heap.size ≤ w.heap.size + 1; omega) _).setCell (p := ⟨w.heap.size + 1, 2, none⟩) (by show w.heap.size ≤ w.heap.size + 1; omega) _
set_option maxHeartbeats 4000000 in
theorem addE_no (g : Gg) (sv se : Value) (lb : ByteArray) (out inn : Int) (w : World) (hg : Gg.In w 0 g sv se) (hm : gMay g = false) :
    Calls Try.prog 21 #[g.agg sv se, .string lb, .int .i64 out, .int .i64 inn] w fun e w' => Chg3 g 0 103 w e w' := by
  obtain ⟨pv, cv, rfl⟩ := hg.2.1.header
  obtain ⟨pe, ce, rfl⟩ := hg.2.2.header
  obtain ⟨nv, hnv⟩ : ∃ n, g.vs.length = n := ⟨_, rfl⟩
  obtain ⟨ne, hne⟩ : ∃ n, g.es.length = n := ⟨_, rfl⟩
  rw [hnv, hne] at hg ⊢
  have c77 := fun W hW => own39' g pv pe nv ne cv ce hnv hne W (hg.on hW)
  rw [err_no hm] at c77
  clear hg
  unfold Chg3 Gg.agg
  go_enter Try.func21, Try.ntmps21
  go_wp2_with (fail)
  refine (c77 _ (bel2 w _ _)).mono ?_
  rintro e w1 ⟨p, q, rfl, ho, hb1⟩
  have HF := Lib.hid (own_fin ho hb1 (.slice p nv nv) (.slice q ne ne) (.int .i64 g.last))
  obtain ⟨x0, x1, x2, fx⟩ := three_of (blk_b0 hb1)
  obtain ⟨y0, y1, y2, fy⟩ := three_of (blk_b1 hb1)
  clear ho hb1 c77
  go_wp2
  have fin := fin_err HF.out.2.2.1 HF.out.2.2.2.1
  obtain ⟨r0, r1, r2, -⟩ := three_of HF.out.2.1
  simp [bodyPost, results, Try.results21, go_sem, r0, r1, r2]
  exact ⟨_, _, ⟨rfl, rfl⟩, fin⟩
set_option maxRecDepth 100000 in
set_option maxHeartbeats 4000000 in
theorem addE_lb (g : Gg) (sv se : Value) (lb : ByteArray) (out inn : Int) (w : World) (hg : Gg.In w 0 g sv se) (hm : gMay g = true) (hlb : nmB lb = false) :
    Calls Try.prog 21 #[g.agg sv se, .string lb, .int .i64 out, .int .i64 inn] w fun e w' => Chg3 g 0 100 w e w' := by
  obtain ⟨pv, cv, rfl⟩ := hg.2.1.header
  obtain ⟨pe, ce, rfl⟩ := hg.2.2.header
  have hmm := Lib.hid (gMay_last hm)
  obtain ⟨nv, hnv⟩ : ∃ n, g.vs.length = n := ⟨_, rfl⟩
  obtain ⟨ne, hne⟩ : ∃ n, g.es.length = n := ⟨_, rfl⟩
  rw [hnv, hne] at hg ⊢
  have c77 := fun W hW => own39' g pv pe nv ne cv ce hnv hne W (hg.on hW)
  rw [err_yes hm] at c77
  have c79 := name38 lb
  rw [show nm lb.data.toList = nmB lb from rfl, hlb] at c79
  clear hg hm
  unfold Chg3 Gg.agg
  go_enter Try.func21, Try.ntmps21
  go_wp2_with (fail)
  refine (c77 _ (bel2 w _ _)).mono ?_
  rintro e w1 ⟨p, q, rfl, ho, hb1⟩
  have HF := own_fin ho hb1 (.slice p nv nv) (.slice q ne ne) (.int .i64 g.last)
  obtain ⟨x0, x1, x2, fx⟩ := three_of (blk_b0 hb1)
  obtain ⟨y0, y1, y2, fy⟩ := three_of (blk_b1 hb1)
  clear ho hb1 c77
  go_wp2_with (fail)
  clear x0 x1 x2 fx y0 y1 y2 fy
  generalize (((w1.setCell ⟨w.heap.size, 0, none⟩ (.slice p nv nv)).setCell ⟨w.heap.size, 1, none⟩ (.slice q ne ne)).setCell ⟨w.heap.size, 2, none⟩ (.int .i64 g.last)) = W2 at *
  obtain ⟨x0, x1, x2, fx⟩ := three_of HF.1
  obtain ⟨y0, y1, y2, fy⟩ := three_of HF.2.1
  have HF : Hid (Fst g w W2 p q nv ne) := HF
  refine (c79 _).mono ?_
  rintro e w' ⟨rfl, ew⟩
  rw [ew]
  clear ew w' c79
  go_wp2
  have fin := fin_err HF.out.2.2.1 HF.out.2.2.2.1
  simp [bodyPost, results, Try.results21, go_sem, y0, y1, y2]
  exact ⟨_, _, ⟨rfl, rfl⟩, fin⟩
set_option maxRecDepth 100000 in
set_option maxHeartbeats 4000000 in
theorem addE_out (g : Gg) (sv se : Value) (lb : ByteArray) (out inn : Int) (w : World) (hg : Gg.In w 0 g sv se) (hm : gMay g = true) (hlb : nmB lb = true) (hout : hasV g.vs out = false) :
    Calls Try.prog 21 #[g.agg sv se, .string lb, .int .i64 out, .int .i64 inn] w fun e w' => Chg3 g 0 101 w e w' := by
  obtain ⟨pv, cv, rfl⟩ := hg.2.1.header
  obtain ⟨pe, ce, rfl⟩ := hg.2.2.header
  have hmm := Lib.hid (gMay_last hm)
  obtain ⟨nv, hnv⟩ : ∃ n, g.vs.length = n := ⟨_, rfl⟩
  obtain ⟨ne, hne⟩ : ∃ n, g.es.length = n := ⟨_, rfl⟩
  rw [hnv, hne] at hg ⊢
  have c77 := fun W hW => own39' g pv pe nv ne cv ce hnv hne W (hg.on hW)
  rw [err_yes hm] at c77
  have c79 := name38 lb
  rw [show nm lb.data.toList = nmB lb from rfl, hlb] at c79
  clear hg hm
  unfold Chg3 Gg.agg
  go_enter Try.func21, Try.ntmps21
  go_wp2_with (fail)
  refine (c77 _ (bel2 w _ _)).mono ?_
  rintro e w1 ⟨p, q, rfl, ho, hb1⟩
  have HF := own_fin ho hb1 (.slice p nv nv) (.slice q ne ne) (.int .i64 g.last)
  obtain ⟨x0, x1, x2, fx⟩ := three_of (blk_b0 hb1)
  obtain ⟨y0, y1, y2, fy⟩ := three_of (blk_b1 hb1)
  clear ho hb1 c77
  go_wp2_with (fail)
  clear x0 x1 x2 fx y0 y1 y2 fy
  generalize (((w1.setCell ⟨w.heap.size, 0, none⟩ (.slice p nv nv)).setCell ⟨w.heap.size, 1, none⟩ (.slice q ne ne)).setCell ⟨w.heap.size, 2, none⟩ (.int .i64 g.last)) = W2 at *
  obtain ⟨x0, x1, x2, fx⟩ := three_of HF.1
  obtain ⟨y0, y1, y2, fy⟩ := three_of HF.2.1
  have HF : Hid (Fst g w W2 p q nv ne) := HF
  refine (c79 _).mono ?_
  rintro e w' ⟨rfl, ew⟩
  rw [ew]
  clear ew w' c79
  go_wp2_with (fail)
  have c85 : Calls Try.prog 50 #[.agg #[.slice p nv nv, .slice q ne ne, .int .i64 g.last], .int .i64 out] W2 fun e w' => e = .returned (.bool false) ∧ Below W2.heap.size W2 w' := by
    have := has50 g (.slice p nv nv) (.slice q ne ne) out W2 (HF.out.2.2.1.is.low (Nat.zero_le _)) hmm.out.2.2.2.2
    rw [hout] at this
    exact this
  refine c85.mono ?_
  rintro e W3 ⟨rfl, hb3⟩
  replace HF := Lib.hid (HF.out.on hb3)
  clear x0 x1 x2 fx y0 y1 y2 fy hb3 c85
  obtain ⟨x0, x1, x2, fx⟩ := three_of HF.out.1
  obtain ⟨y0, y1, y2, fy⟩ := three_of HF.out.2.1
  go_wp2
  have fin := fin_err HF.out.2.2.1 HF.out.2.2.2.1
  simp [bodyPost, results, Try.results21, go_sem, y0, y1, y2]
  exact ⟨_, _, ⟨rfl, rfl⟩, fin⟩
set_option maxRecDepth 100000 in
set_option maxHeartbeats 4000000 in
theorem addE_in (g : Gg) (sv se : Value) (lb : ByteArray) (out inn : Int) (w : World) (hg : Gg.In w 0 g sv se) (hm : gMay g = true) (hlb : nmB lb = true) (hout : hasV g.vs out = true) (hinn : hasV g.vs inn = false) :
    Calls Try.prog 21 #[g.agg sv se, .string lb, .int .i64 out, .int .i64 inn] w fun e w' => Chg3 g 0 101 w e w' := by
  obtain ⟨pv, cv, rfl⟩ := hg.2.1.header
  obtain ⟨pe, ce, rfl⟩ := hg.2.2.header
  have hmm := Lib.hid (gMay_last hm)
  obtain ⟨nv, hnv⟩ : ∃ n, g.vs.length = n := ⟨_, rfl⟩
  obtain ⟨ne, hne⟩ : ∃ n, g.es.length = n := ⟨_, rfl⟩
  rw [hnv, hne] at hg ⊢
  have c77 := fun W hW => own39' g pv pe nv ne cv ce hnv hne W (hg.on hW)
  rw [err_yes hm] at c77
  have c79 := name38 lb
  rw [show nm lb.data.toList = nmB lb from rfl, hlb] at c79
  clear hg hm
  unfold Chg3 Gg.agg
  go_enter Try.func21, Try.ntmps21
  go_wp2_with (fail)
  refine (c77 _ (bel2 w _ _)).mono ?_
  rintro e w1 ⟨p, q, rfl, ho, hb1⟩
  have HF := own_fin ho hb1 (.slice p nv nv) (.slice q ne ne) (.int .i64 g.last)
  obtain ⟨x0, x1, x2, fx⟩ := three_of (blk_b0 hb1)
  obtain ⟨y0, y1, y2, fy⟩ := three_of (blk_b1 hb1)
  clear ho hb1 c77
  go_wp2_with (fail)
  clear x0 x1 x2 fx y0 y1 y2 fy
  generalize (((w1.setCell ⟨w.heap.size, 0, none⟩ (.slice p nv nv)).setCell ⟨w.heap.size, 1, none⟩ (.slice q ne ne)).setCell ⟨w.heap.size, 2, none⟩ (.int .i64 g.last)) = W2 at *
  obtain ⟨x0, x1, x2, fx⟩ := three_of HF.1
  obtain ⟨y0, y1, y2, fy⟩ := three_of HF.2.1
  have HF : Hid (Fst g w W2 p q nv ne) := HF
  refine (c79 _).mono ?_
  rintro e w' ⟨rfl, ew⟩
  rw [ew]
  clear ew w' c79
  go_wp2_with (fail)
  have c85 : Calls Try.prog 50 #[.agg #[.slice p nv nv, .slice q ne ne, .int .i64 g.last], .int .i64 out] W2 fun e w' => e = .returned (.bool true) ∧ Below W2.heap.size W2 w' := by
    have := has50 g (.slice p nv nv) (.slice q ne ne) out W2 (HF.out.2.2.1.is.low (Nat.zero_le _)) hmm.out.2.2.2.2
    rw [hout] at this
    exact this
  refine c85.mono ?_
  rintro e W3 ⟨rfl, hb3⟩
  replace HF := Lib.hid (HF.out.on hb3)
  clear x0 x1 x2 fx y0 y1 y2 fy hb3 c85
  obtain ⟨x0, x1, x2, fx⟩ := three_of HF.out.1
  obtain ⟨y0, y1, y2, fy⟩ := three_of HF.out.2.1
  go_wp2_with (fail)
  have c85 : Calls Try.prog 50 #[.agg #[.slice p nv nv, .slice q ne ne, .int .i64 g.last], .int .i64 inn] W3 fun e w' => e = .returned (.bool false) ∧ Below W3.heap.size W3 w' := by
    have := has50 g (.slice p nv nv) (.slice q ne ne) inn W3 (HF.out.2.2.1.is.low (Nat.zero_le _)) hmm.out.2.2.2.2
    rw [hinn] at this
    exact this
  refine c85.mono ?_
  rintro e W4 ⟨rfl, hb3⟩
  replace HF := Lib.hid (HF.out.on hb3)
  clear x0 x1 x2 fx y0 y1 y2 fy hb3 c85
  obtain ⟨x0, x1, x2, fx⟩ := three_of HF.out.1
  obtain ⟨y0, y1, y2, fy⟩ := three_of HF.out.2.1
  go_wp2
  have fin := fin_err HF.out.2.2.1 HF.out.2.2.2.1
  simp [bodyPost, results, Try.results21, go_sem, y0, y1, y2]
  exact ⟨_, _, ⟨rfl, rfl⟩, fin⟩
set_option maxRecDepth 100000 in
set_option maxHeartbeats 4000000 in
theorem addE_full (g : Gg) (sv se : Value) (lb : ByteArray) (out inn : Int) (w : World) (hg : Gg.In w 0 g sv se) (hm : gMay g = true) (hlb : nmB lb = true) (hout : hasV g.vs out = true) (hinn : hasV g.vs inn = true) (hf : fullE g = true) :
    Calls Try.prog 21 #[g.agg sv se, .string lb, .int .i64 out, .int .i64 inn] w fun e w' => Chg3 g 0 6 w e w' := by
  obtain ⟨pv, cv, rfl⟩ := hg.2.1.header
  obtain ⟨pe, ce, rfl⟩ := hg.2.2.header
  have hmm := Lib.hid (gMay_last hm)
  obtain ⟨nv, hnv⟩ : ∃ n, g.vs.length = n := ⟨_, rfl⟩
  obtain ⟨ne, hne⟩ : ∃ n, g.es.length = n := ⟨_, rfl⟩
  rw [hnv, hne] at hg ⊢
  have c77 := fun W hW => own39' g pv pe nv ne cv ce hnv hne W (hg.on hW)
  rw [err_yes hm] at c77
  have c79 := name38 lb
  rw [show nm lb.data.toList = nmB lb from rfl, hlb] at c79
  clear hg hm
  unfold Chg3 Gg.agg
  go_enter Try.func21, Try.ntmps21
  go_wp2_with (fail)
  refine (c77 _ (bel2 w _ _)).mono ?_
  rintro e w1 ⟨p, q, rfl, ho, hb1⟩
  have HF := own_fin ho hb1 (.slice p nv nv) (.slice q ne ne) (.int .i64 g.last)
  obtain ⟨x0, x1, x2, fx⟩ := three_of (blk_b0 hb1)
  obtain ⟨y0, y1, y2, fy⟩ := three_of (blk_b1 hb1)
  clear ho hb1 c77
  go_wp2_with (fail)
  clear x0 x1 x2 fx y0 y1 y2 fy
  generalize (((w1.setCell ⟨w.heap.size, 0, none⟩ (.slice p nv nv)).setCell ⟨w.heap.size, 1, none⟩ (.slice q ne ne)).setCell ⟨w.heap.size, 2, none⟩ (.int .i64 g.last)) = W2 at *
  obtain ⟨x0, x1, x2, fx⟩ := three_of HF.1
  obtain ⟨y0, y1, y2, fy⟩ := three_of HF.2.1
  have HF : Hid (Fst g w W2 p q nv ne) := HF
  refine (c79 _).mono ?_
  rintro e w' ⟨rfl, ew⟩
  rw [ew]
  clear ew w' c79
  go_wp2_with (fail)
  have c85 : Calls Try.prog 50 #[.agg #[.slice p nv nv, .slice q ne ne, .int .i64 g.last], .int .i64 out] W2 fun e w' => e = .returned (.bool true) ∧ Below W2.heap.size W2 w' := by
    have := has50 g (.slice p nv nv) (.slice q ne ne) out W2 (HF.out.2.2.1.is.low (Nat.zero_le _)) hmm.out.2.2.2.2
    rw [hout] at this
    exact this
  refine c85.mono ?_
  rintro e W3 ⟨rfl, hb3⟩
  replace HF := Lib.hid (HF.out.on hb3)
  clear x0 x1 x2 fx y0 y1 y2 fy hb3 c85
  obtain ⟨x0, x1, x2, fx⟩ := three_of HF.out.1
  obtain ⟨y0, y1, y2, fy⟩ := three_of HF.out.2.1
  go_wp2_with (fail)
  have c85 : Calls Try.prog 50 #[.agg #[.slice p nv nv, .slice q ne ne, .int .i64 g.last], .int .i64 inn] W3 fun e w' => e = .returned (.bool true) ∧ Below W3.heap.size W3 w' := by
    have := has50 g (.slice p nv nv) (.slice q ne ne) inn W3 (HF.out.2.2.1.is.low (Nat.zero_le _)) hmm.out.2.2.2.2
    rw [hinn] at this
    exact this
  refine c85.mono ?_
  rintro e W4 ⟨rfl, hb3⟩
  replace HF := Lib.hid (HF.out.on hb3)
  clear x0 x1 x2 fx y0 y1 y2 fy hb3 c85
  obtain ⟨x0, x1, x2, fx⟩ := three_of HF.out.1
  obtain ⟨y0, y1, y2, fy⟩ := three_of HF.out.2.1
  have hf' : 2048 ≤ ne ∨ (¬ 2048 ≤ ne ∧ 281474976710656 ≤ g.last) := by
    unfold fullE at hf
    rw [hne] at hf
    simp only [Bool.or_eq_true, decide_eq_true_eq] at hf
    omega
  clear hf
  rcases hf' with h1 | ⟨h1, h2⟩
  · have h1' : (2048 : Int) ≤ (ne : Int) := by omega
    go_wp2
    have fin := fin_err HF.out.2.2.1 HF.out.2.2.2.1
    simp [bodyPost, results, Try.results21, go_sem, y0, y1, y2]
    exact ⟨_, _, ⟨rfl, rfl⟩, fin⟩
  · have h1' : ¬ (2048 : Int) ≤ (ne : Int) := by omega
    go_wp2
    have fin := fin_err HF.out.2.2.1 HF.out.2.2.2.1
    simp [bodyPost, results, Try.results21, go_sem, y0, y1, y2]
    exact ⟨_, _, ⟨rfl, rfl⟩, fin⟩
set_option maxRecDepth 100000 in
set_option maxHeartbeats 4000000 in
theorem addE_ok (g : Gg) (sv se : Value) (lb : ByteArray) (out inn : Int) (w : World) (hg : Gg.In w 0 g sv se) (hm : gMay g = true) (ho64 : I64 out) (hi64 : I64 inn) (hlb : nmB lb = true) (hout : hasV g.vs out = true) (hinn : hasV g.vs inn = true) (hf : fullE g = false) :
    Calls Try.prog 21 #[g.agg sv se, .string lb, .int .i64 out, .int .i64 inn] w fun e w' => Chg3 (gAddE g lb out inn) (g.last + 1) 0 w e w' := by
  obtain ⟨pv, cv, rfl⟩ := hg.2.1.header
  obtain ⟨pe, ce, rfl⟩ := hg.2.2.header
  have hmm := Lib.hid (gMay_last hm)
  obtain ⟨nv, hnv⟩ : ∃ n, g.vs.length = n := ⟨_, rfl⟩
  obtain ⟨ne, hne⟩ : ∃ n, g.es.length = n := ⟨_, rfl⟩
  rw [hnv, hne] at hg ⊢
  have c77 := fun W hW => own39' g pv pe nv ne cv ce hnv hne W (hg.on hW)
  rw [err_yes hm] at c77
  have c79 := name38 lb
  rw [show nm lb.data.toList = nmB lb from rfl, hlb] at c79
  clear hg hm
  unfold Chg3 Gg.agg
  go_enter Try.func21, Try.ntmps21
  go_wp2_with (fail)
  refine (c77 _ (bel2 w _ _)).mono ?_
  rintro e w1 ⟨p, q, rfl, ho, hb1⟩
  have HF := own_fin ho hb1 (.slice p nv nv) (.slice q ne ne) (.int .i64 g.last)
  obtain ⟨x0, x1, x2, fx⟩ := three_of (blk_b0 hb1)
  obtain ⟨y0, y1, y2, fy⟩ := three_of (blk_b1 hb1)
  clear ho hb1 c77
  go_wp2_with (fail)
  clear x0 x1 x2 fx y0 y1 y2 fy
  generalize (((w1.setCell ⟨w.heap.size, 0, none⟩ (.slice p nv nv)).setCell ⟨w.heap.size, 1, none⟩ (.slice q ne ne)).setCell ⟨w.heap.size, 2, none⟩ (.int .i64 g.last)) = W2 at *
  obtain ⟨x0, x1, x2, fx⟩ := three_of HF.1
  obtain ⟨y0, y1, y2, fy⟩ := three_of HF.2.1
  have HF : Hid (Fst g w W2 p q nv ne) := HF
  refine (c79 _).mono ?_
  rintro e w' ⟨rfl, ew⟩
  rw [ew]
  clear ew w' c79
  go_wp2_with (fail)
  have c85 : Calls Try.prog 50 #[.agg #[.slice p nv nv, .slice q ne ne, .int .i64 g.last], .int .i64 out] W2 fun e w' => e = .returned (.bool true) ∧ Below W2.heap.size W2 w' := by
    have := has50 g (.slice p nv nv) (.slice q ne ne) out W2 (HF.out.2.2.1.is.low (Nat.zero_le _)) hmm.out.2.2.2.2
    rw [hout] at this
    exact this
  refine c85.mono ?_
  rintro e W3 ⟨rfl, hb3⟩
  replace HF := Lib.hid (HF.out.on hb3)
  clear x0 x1 x2 fx y0 y1 y2 fy hb3 c85
  obtain ⟨x0, x1, x2, fx⟩ := three_of HF.out.1
  obtain ⟨y0, y1, y2, fy⟩ := three_of HF.out.2.1
  go_wp2_with (fail)
  have c85 : Calls Try.prog 50 #[.agg #[.slice p nv nv, .slice q ne ne, .int .i64 g.last], .int .i64 inn] W3 fun e w' => e = .returned (.bool true) ∧ Below W3.heap.size W3 w' := by
    have := has50 g (.slice p nv nv) (.slice q ne ne) inn W3 (HF.out.2.2.1.is.low (Nat.zero_le _)) hmm.out.2.2.2.2
    rw [hinn] at this
    exact this
  refine c85.mono ?_
  rintro e W4 ⟨rfl, hb3⟩
  replace HF := Lib.hid (HF.out.on hb3)
  clear x0 x1 x2 fx y0 y1 y2 fy hb3 c85
  obtain ⟨x0, x1, x2, fx⟩ := three_of HF.out.1
  obtain ⟨y0, y1, y2, fy⟩ := three_of HF.out.2.1
  have hf' : ¬ 2048 ≤ ne ∧ ¬ 281474976710656 ≤ g.last := by
    unfold fullE at hf
    rw [hne] at hf
    simp only [Bool.or_eq_false_iff, decide_eq_false_iff_not] at hf
    exact hf
  obtain ⟨h1, h2⟩ := hf'
  have h1' : ¬ (2048 : Int) ≤ (ne : Int) := by omega
  have hl0 := hmm.out.1
  obtain ⟨i0, hi, hz0, hz1, hz2⟩ := info_parts info46
  have hGr := Lib.hid (HF.out.2.2.1.e.gr len_RL)
  have hne' := Lib.hid hne
  have hyI := Lib.hid (fun (u : World) => (show RL.In u (w.heap.size + 2) ⟨g.last + 1, lb, out, inn, []⟩ (.slice none 0 0) from ⟨by unfold I64; show _ ≤ g.last + 1 ∧ g.last + 1 ≤ _; omega, nm_size hlb, ho64, hi64, Sq.nil _ _⟩))
  clear hf
  go_wp2_with (at_builtin; refine wpList_gro len_RL (by decide) 25 46 i0 zLk Try.underlying25 hi hz0 hz1 hz2 rfl _ rfl _ _ rfl (w.heap.size + 2) (w.heap.size + 2) _ g.es _ ⟨g.last + 1, lb, out, inn, []⟩ (.slice none 0 0) (noW W4) rfl (by exact (hGr.out.put (Nat.le_refl _) (by omega) 2 _).alloc _) rfl (hyI.out _) (fun a c hc => (noW_cell hc).elim) (by exact new_ats' _ [.int .i64 (g.last + 1), .string lb, .int .i64 out, .int .i64 inn, .slice none 0 0] 46 (by simp)) (by intro c hc; simp only [RL, List.mem_cons, List.not_mem_nil, or_false] at hc; rcases hc with rfl | rfl | rfl | rfl | rfl <;> rfl) (by rw [hne'.out]; unfold maxLen; omega) (by rw [hne'.out]; show (ne + 1) * 64 ≤ _; omega) (by have := HF.out.2.2.2.2; simp; omega) ?_; intro g5 cap5 w5 hG5 hgr5 hg5; rw [hne'.out] at hG5; have HA := Lib.hid (addE_fin HF.out hgr5 hG5); obtain ⟨z0, z1, z2, fz⟩ := three_of HA.out.1; obtain ⟨v0, v1, v2, fv⟩ := three_of HA.out.2.1; clear hgr5 hG5 hg5)
  clear x0 x1 x2 fx y0 y1 y2 fy z0 z1 z2 fz v0 v1 v2 fv
  have e0 := blk_set3b (b' := .slice (some ⟨g5, 0, none⟩) (ne + 1) cap5) HA.out.1
  have e1 := blk_oth (i := 1) (c := .slice (some ⟨g5, 0, none⟩) (ne + 1) cap5) (B' := w.heap.size) HA.out.2.1 (by omega)
  have fin := addE_end (lb := lb) hl0 hne (by omega) (by omega) HA.out.2.2.1 HA.out.2.2.2.1 HA.out.2.2.2.2
  generalize w5.setCell ⟨w.heap.size, 1, none⟩ (.slice (some ⟨g5, 0, none⟩) (ne + 1) cap5) = W6 at *
  obtain ⟨x0, x1, x2, fx⟩ := three_of e0
  obtain ⟨y0, y1, y2, fy⟩ := three_of e1
  have fin := Lib.hid fin
  clear e0 e1
  go_region
  all_goals go_wp2
  all_goals simp [bodyPost, results, Try.results21, go_sem, y0, y1, y2]
  all_goals exact ⟨_, _, ⟨rfl, rfl, rfl⟩, fin.out.1.on (Below.refl _ _).drew, fin.out.2.drew⟩
/-- What AddE comes to. -/
def rAddE (g : Gg) (lb : ByteArray) (out inn : Int) : Gg × Int × Int := if gMay g = false then (g, 0, 103) else if nmB lb = false then (g, 0, 100) else if hasV g.vs out = false then (g, 0, 101) else if hasV g.vs inn = false then (g, 0, 101) else if fullE g = true then (g, 0, 6) else (gAddE g lb out inn, g.last + 1, 0)
theorem addE21 (g : Gg) (sv se : Value) (lb : ByteArray) (out inn : Int) (w : World) (hg : Gg.In w 0 g sv se) (ho64 : I64 out) (hi64 : I64 inn) :
    Calls Try.prog 21 #[g.agg sv se, .string lb, .int .i64 out, .int .i64 inn] w fun e w' => Chg3 (rAddE g lb out inn).1 (rAddE g lb out inn).2.1 (rAddE g lb out inn).2.2 w e w' := by
  unfold rAddE
  cases h1 : gMay g with
  | false => exact addE_no g sv se lb out inn w hg h1
  | true =>
    cases h2 : nmB lb with
    | false => exact addE_lb g sv se lb out inn w hg h1 h2
    | true =>
      cases h3 : hasV g.vs out with
      | false => exact addE_out g sv se lb out inn w hg h1 h2 h3
      | true =>
        cases h4 : hasV g.vs inn with
        | false => exact addE_in g sv se lb out inn w hg h1 h2 h3 h4
        | true =>
          cases h5 : fullE g with
          | true => exact addE_full g sv se lb out inn w hg h1 h2 h3 h4 h5
          | false => exact addE_ok g sv se lb out inn w hg h1 ho64 hi64 h2 h3 h4 h5
end Go.Proofs.Yteknbploiombiaa
