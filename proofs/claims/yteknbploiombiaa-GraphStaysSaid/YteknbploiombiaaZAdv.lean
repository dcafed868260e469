/-
  What AddV of package graph does.
-/
import Derived.Test.YteknbploiombiaaZGroGrw
namespace Go.Proofs.Yteknbploiombiaa
open Go.RowKit
set_option linter.unusedVariables false      -- a walk need not use every condition

/-- What a change that makes a graph and a number hands back. -/
def Chg3 (g : Gg) (n er : Int) (w : World) (e : Ending) (w' : World) : Prop := ∃ sv se, e = .returned (.tuple #[g.agg sv se, .int .i64 n, .int .i64 er]) ∧ Gg.In w' w.heap.size g sv se ∧ Below w.heap.size w w'
def fullV (g : Gg) : Bool := decide (2048 ≤ g.vs.length) || decide (281474976710656 ≤ g.last)
def gAddV (g : Gg) (lb : ByteArray) : Gg := { g with vs := g.vs ++ [⟨g.last + 1, lb, []⟩], last := g.last + 1 }
theorem fin_err {g : Gg} {w W2 : World} {s1 s2 : Value} (h2 : OwGr g W2 (w.heap.size + 2) s1 s2) (hb2 : Below w.heap.size w W2) :
    Gg.In (((W2.setCell ⟨w.heap.size + 1, 0, none⟩ s1).setCell ⟨w.heap.size + 1, 1, none⟩ s2).setCell ⟨w.heap.size + 1, 2, none⟩ (.int .i64 g.last)) w.heap.size g s1 s2 ∧ Below w.heap.size w (((W2.setCell ⟨w.heap.size + 1, 0, none⟩ s1).setCell ⟨w.heap.size + 1, 1, none⟩ s2).setCell ⟨w.heap.size + 1, 2, none⟩ (.int .i64 g.last)) := by
  have k : KeepB (w.heap.size + 2) W2 (((W2.setCell ⟨w.heap.size + 1, 0, none⟩ s1).setCell ⟨w.heap.size + 1, 1, none⟩ s2).setCell ⟨w.heap.size + 1, 2, none⟩ (.int .i64 g.last)) := ((keepB_set (by omega)).trans (keepB_set (by omega))).trans (keepB_set (by omega))
  refine ⟨(h2.keep k (by omega)).is, ?_⟩
  exact ((hb2.setCell (p := ⟨w.heap.size + 1, 0, none⟩) (by show w.heap.size ≤ w.heap.size + 1; omega) _).setCell (p := ⟨w.heap.size + 1, 1, none⟩) (by show w.heap.size ≤ w.heap.size + 1; omega) _).setCell (p := ⟨w.heap.size + 1, 2, none⟩) (by show w.heap.size ≤ w.heap.size + 1; omega) _
/-- The world behind the clone's store. -/
theorem own_fin {g : Gg} {w w1 : World} {s1 s2 a b c a' b' c' : Value} {t t' : TypeId} (h1 : OwGr g w1 (((w.alloc (.cells #[a, b, c] t)).alloc (.cells #[a', b', c'] t')).heap.size) s1 s2) (hb : Below ((w.alloc (.cells #[a, b, c] t)).alloc (.cells #[a', b', c'] t')).heap.size ((w.alloc (.cells #[a, b, c] t)).alloc (.cells #[a', b', c'] t')) w1) (x y z : Value) :
    (((w1.setCell ⟨w.heap.size, 0, none⟩ x).setCell ⟨w.heap.size, 1, none⟩ y).setCell ⟨w.heap.size, 2, none⟩ z).heap[w.heap.size]? = some (.cells #[x, y, z] t) ∧
    (((w1.setCell ⟨w.heap.size, 0, none⟩ x).setCell ⟨w.heap.size, 1, none⟩ y).setCell ⟨w.heap.size, 2, none⟩ z).heap[w.heap.size + 1]? = some (.cells #[a', b', c'] t') ∧
    OwGr g (((w1.setCell ⟨w.heap.size, 0, none⟩ x).setCell ⟨w.heap.size, 1, none⟩ y).setCell ⟨w.heap.size, 2, none⟩ z) (w.heap.size + 2) s1 s2 ∧
    Below w.heap.size w (((w1.setCell ⟨w.heap.size, 0, none⟩ x).setCell ⟨w.heap.size, 1, none⟩ y).setCell ⟨w.heap.size, 2, none⟩ z) ∧
    w.heap.size + 2 ≤ (((w1.setCell ⟨w.heap.size, 0, none⟩ x).setCell ⟨w.heap.size, 1, none⟩ y).setCell ⟨w.heap.size, 2, none⟩ z).heap.size := by
  have e0 := blk_b0 hb
  have e1 := blk_b1 hb
  have k : KeepB (w.heap.size + 2) w1 (((w1.setCell ⟨w.heap.size, 0, none⟩ x).setCell ⟨w.heap.size, 1, none⟩ y).setCell ⟨w.heap.size, 2, none⟩ z) := ((keepB_set (by omega)).trans (keepB_set (by omega))).trans (keepB_set (by omega))
  have hz : ((w.alloc (.cells #[a, b, c] t)).alloc (.cells #[a', b', c'] t')).heap.size = w.heap.size + 2 := by simp
  rw [hz] at h1
  have e2 : (((w1.setCell ⟨w.heap.size, 0, none⟩ x).setCell ⟨w.heap.size, 1, none⟩ y).setCell ⟨w.heap.size, 2, none⟩ z).heap[w.heap.size + 1]? = some (.cells #[a', b', c'] t') := blk_oth (blk_oth (blk_oth e1 (by omega)) (by omega)) (by omega)
  refine ⟨blk_put3 e0, e2, h1.keep k (Nat.le_refl _), ?_, ?_⟩
  · exact (((bel_then (bel2 w _ _) hb).setCell (p := ⟨w.heap.size, 0, none⟩) (Nat.le_refl _) _).setCell (p := ⟨w.heap.size, 1, none⟩) (Nat.le_refl _) _).setCell (p := ⟨w.heap.size, 2, none⟩) (Nat.le_refl _) _
  · have := (Array.getElem?_eq_some_iff.1 e2).1; omega
theorem own39' (g : Gg) (pv pe : Option Addr) (nv ne cv ce : Nat) (hnv : g.vs.length = nv) (hne : g.es.length = ne) (W : World) (hg : Gg.In W 0 g (.slice pv nv cv) (.slice pe ne ce)) :
    Calls Try.prog 39 #[.agg #[.slice pv nv cv, .slice pe ne ce, .int .i64 g.last]] W fun e w' => ∃ p q, e = .returned (.tuple #[.agg #[.slice p nv nv, .slice q ne ne, .int .i64 g.last], .int .i64 g.err]) ∧ OwGr g w' W.heap.size (.slice p nv nv) (.slice q ne ne) ∧ Below W.heap.size W w' :=
  (own39 g _ _ W hg).mono fun e w' ⟨s1, s2, he, ho, hb⟩ => by
    obtain ⟨p, hp⟩ := ho.v.hdr
    obtain ⟨q, hq⟩ := ho.e.hdr
    rw [hnv] at hp
    rw [hne] at hq
    subst hp hq
    exact ⟨p, q, he, ho, hb⟩
/-- What an append to the vertices leaves. -/
theorem addV_fin {g : Gg} {w W2 w5 : World} {s2 a' b' c' : Value} {p : Option Addr} {nv g5 cap5 : Nat} {y : Vx} {o : Obj} (h0 : W2.heap[w.heap.size]? = some (.cells #[.slice p nv nv, s2, .int .i64 g.last] 27)) (h1 : W2.heap[w.heap.size + 1]? = some (.cells #[a', b', c'] 27))
    (hO : OwGr g W2 (w.heap.size + 2) (.slice p nv nv) s2) (hb : Below w.heap.size w W2) (hz : w.heap.size + 2 ≤ W2.heap.size) (hgr : ((W2.setCell ⟨w.heap.size, 2, none⟩ (.int .i64 (g.last + 1))).alloc o).grownBy w5 (Value.slice p nv nv).ownBlock)
    (hG : GrR RV 40 w5 (w.heap.size + 2) (w.heap.size + 2) (g.vs ++ [y]) (.slice (some ⟨g5, 0, none⟩) (nv + 1) cap5)) :
    w5.heap[w.heap.size]? = some (.cells #[.slice p nv nv, s2, .int .i64 (g.last + 1)] 27) ∧ w5.heap[w.heap.size + 1]? = some (.cells #[a', b', c'] 27) ∧ Below w.heap.size w w5 ∧
    GrR RV 40 w5 (w.heap.size + 2) (w.heap.size + 2) (g.vs ++ [y]) (.slice (some ⟨g5, 0, none⟩) (nv + 1) cap5) ∧ OwR RL 46 w5 (w.heap.size + 2) g.es s2 := by
  have hv := hO.v.gr len_RV
  have hne : ∀ b, (Value.slice p nv nv).ownBlock = some b → w.heap.size + 2 ≤ b := fun b e => (hv.lt e).1
  have e0 := blk_on (bel1 _ o) (blk_set3c (c' := .int .i64 (g.last + 1)) h0)
  have e1 := blk_on (bel1 _ o) (blk_oth (i := 2) (c := .int .i64 (g.last + 1)) (B' := w.heap.size) h1 (by omega))
  have f0 := (hgr.block w.heap.size (Array.getElem?_eq_some_iff.1 e0).1 (fun e => by have := hne _ e.symm; omega)).trans e0
  have f1 := (hgr.block (w.heap.size + 1) (Array.getElem?_eq_some_iff.1 e1).1 (fun e => by have := hne _ e.symm; omega)).trans e1
  have bX : Below w.heap.size w ((W2.setCell ⟨w.heap.size, 2, none⟩ (.int .i64 (g.last + 1))).alloc o) := (hb.setCell (p := ⟨w.heap.size, 2, none⟩) (Nat.le_refl _) _).trans ((bel1 _ o).mono (by have := (Array.getElem?_eq_some_iff.1 e0).1; simp at this ⊢; omega))
  have b5 := bX.grown hgr bX.size (fun k e => by have := hne _ e; omega)
  refine ⟨f0, f1, b5, hG, ?_⟩
  obtain ⟨-, lo0, u, k1, k2, k3, k4, k5⟩ := hO
  have hown : ∀ b, (Value.slice p nv nv).ownBlock = some b → b < u.heap.size := fun b e => ((k3.gr len_RV).lt e).2
  have kk : KeepB u.heap.size W2 w5 := fun q oo hq e => by
    have e' := blk_on (bel1 _ o) (blk_oth (i := 2) (c := .int .i64 (g.last + 1)) (B' := w.heap.size) e (by omega))
    exact (hgr.block q (Array.getElem?_eq_some_iff.1 e').1 (fun e => by have := hown _ e.symm; omega)).trans e'
  exact (k5.keep kk (Nat.le_refl _)).low (by omega)
theorem addV_end {g : Gg} {lb : ByteArray} {w w5 : World} {s2 : Value} {nv g5 cap5 : Nat} (h0 : 0 ≤ g.last) (hnv : g.vs.length = nv) (hn : nv < 2048) (hl : g.last < 281474976710656) (hb : Below w.heap.size w w5) (hG : GrR RV 40 w5 (w.heap.size + 2) (w.heap.size + 2) (g.vs ++ [⟨g.last + 1, lb, []⟩]) (.slice (some ⟨g5, 0, none⟩) (nv + 1) cap5)) (hE : OwR RL 46 w5 (w.heap.size + 2) g.es s2) :
    Gg.In ((((w5.setCell ⟨w.heap.size, 0, none⟩ (.slice (some ⟨g5, 0, none⟩) (nv + 1) cap5)).setCell ⟨w.heap.size + 1, 0, none⟩ (.slice (some ⟨g5, 0, none⟩) (nv + 1) cap5)).setCell ⟨w.heap.size + 1, 1, none⟩ s2).setCell ⟨w.heap.size + 1, 2, none⟩ (.int .i64 (g.last + 1))) w.heap.size (gAddV g lb) (.slice (some ⟨g5, 0, none⟩) (nv + 1) cap5) s2 ∧
    Below w.heap.size w ((((w5.setCell ⟨w.heap.size, 0, none⟩ (.slice (some ⟨g5, 0, none⟩) (nv + 1) cap5)).setCell ⟨w.heap.size + 1, 0, none⟩ (.slice (some ⟨g5, 0, none⟩) (nv + 1) cap5)).setCell ⟨w.heap.size + 1, 1, none⟩ s2).setCell ⟨w.heap.size + 1, 2, none⟩ (.int .i64 (g.last + 1))) := by
  refine ⟨⟨?_, ?_, ?_⟩, ?_⟩
  · show I64 (g.last + 1)
    unfold I64; omega
  · have := (((hG.put (Nat.le_refl _) (show w.heap.size < w.heap.size + 2 by omega) 0 (.slice (some ⟨g5, 0, none⟩) (nv + 1) cap5)).put (Nat.le_refl _) (show w.heap.size + 1 < w.heap.size + 2 by omega) 0 (.slice (some ⟨g5, 0, none⟩) (nv + 1) cap5)).put (Nat.le_refl _) (show w.heap.size + 1 < w.heap.size + 2 by omega) 1 s2).put (Nat.le_refl _) (show w.heap.size + 1 < w.heap.size + 2 by omega) 2 (.int .i64 (g.last + 1))
    exact (this.sq (Nat.le_refl _) (by rw [List.length_append, hnv]; show (nv + 1) * 48 ≤ _; omega)).low (by omega)
  · have k : KeepB (w.heap.size + 2) w5 ((((w5.setCell ⟨w.heap.size, 0, none⟩ (.slice (some ⟨g5, 0, none⟩) (nv + 1) cap5)).setCell ⟨w.heap.size + 1, 0, none⟩ (.slice (some ⟨g5, 0, none⟩) (nv + 1) cap5)).setCell ⟨w.heap.size + 1, 1, none⟩ s2).setCell ⟨w.heap.size + 1, 2, none⟩ (.int .i64 (g.last + 1))) := (((keepB_set (by omega)).trans (keepB_set (by omega))).trans (keepB_set (by omega))).trans (keepB_set (by omega))
    exact (hE.keep k (lo' := w.heap.size) (by omega)).sq
  · exact (((hb.setCell (p := ⟨w.heap.size, 0, none⟩) (Nat.le_refl _) _).setCell (p := ⟨w.heap.size + 1, 0, none⟩) (by show w.heap.size ≤ w.heap.size + 1; omega) _).setCell (p := ⟨w.heap.size + 1, 1, none⟩) (by show w.heap.size ≤ w.heap.size + 1; omega) _).setCell (p := ⟨w.heap.size + 1, 2, none⟩) (by show w.heap.size ≤ w.heap.size + 1; omega) _
theorem nm_size {s : ByteArray} (h : nmB s = true) : S64 s := by
  unfold S64
  have : s.size ≤ 24 := by
    unfold nmB at h
    obtain ⟨⟨l⟩⟩ := s
    cases l with
    | nil => show 0 ≤ 24; omega
    | cons c r =>
      simp only [nm, Bool.and_eq_true, decide_eq_true_eq] at h
      show (c :: r).length ≤ 24
      simp only [List.length_cons]; omega
  omega
theorem gMay_last {g : Gg} (h : gMay g = true) : 0 ≤ g.last ∧ g.last ≤ 281474976710656 ∧ g.vs.length ≤ 2048 ∧ g.es.length ≤ 2048 ∧ Up g.vs := by
  unfold gMay at h
  simp only [Bool.and_eq_true, decide_eq_true_eq] at h
  exact ⟨h.1.1.1.1.1.1, h.1.1.1.1.1.2, h.1.1.1.1.2, h.1.1.1.2, Up.of (up_els h.1.1.2)⟩
set_option maxHeartbeats 4000000 in
theorem addV_no (g : Gg) (sv se : Value) (lb : ByteArray) (w : World) (hg : Gg.In w 0 g sv se) (hm : gMay g = false) :
    Calls Try.prog 20 #[g.agg sv se, .string lb] w fun e w' => Chg3 g 0 103 w e w' := by
  obtain ⟨pv, cv, rfl⟩ := hg.2.1.header
  obtain ⟨pe, ce, rfl⟩ := hg.2.2.header
  obtain ⟨nv, hnv⟩ : ∃ n, g.vs.length = n := ⟨_, rfl⟩
  obtain ⟨ne, hne⟩ : ∃ n, g.es.length = n := ⟨_, rfl⟩
  rw [hnv, hne] at hg ⊢
  have c77 := fun W hW => own39' g pv pe nv ne cv ce hnv hne W (hg.on hW)
  rw [err_no hm] at c77
  clear hg
  unfold Chg3 Gg.agg
  go_enter Try.func20, Try.ntmps20
  go_wp2_with (fail)
  refine (c77 _ (bel2 w _ _)).mono ?_
  rintro e w1 ⟨p, q, rfl, ho, hb1⟩
  have HF := Lib.hid (own_fin ho hb1 (.slice p nv nv) (.slice q ne ne) (.int .i64 g.last))
  obtain ⟨x0, x1, x2, fx⟩ := three_of (blk_b0 hb1)
  obtain ⟨y0, y1, y2, fy⟩ := three_of (blk_b1 hb1)
  clear ho hb1 c77
  go_wp2
  have fin := fin_err HF.out.2.2.1 HF.out.2.2.2.1
  obtain ⟨r0, r1, r2, -⟩ := three_of HF.out.2.1
  simp [bodyPost, results, Try.results20, go_sem, r0, r1, r2]
  exact ⟨_, _, ⟨rfl, rfl⟩, fin⟩
set_option maxHeartbeats 4000000 in
theorem addV_lb (g : Gg) (sv se : Value) (lb : ByteArray) (w : World) (hg : Gg.In w 0 g sv se) (hm : gMay g = true) (hlb : nmB lb = false) :
    Calls Try.prog 20 #[g.agg sv se, .string lb] w fun e w' => Chg3 g 0 100 w e w' := by
  obtain ⟨pv, cv, rfl⟩ := hg.2.1.header
  obtain ⟨pe, ce, rfl⟩ := hg.2.2.header
  have hmm := Lib.hid (gMay_last hm)
  obtain ⟨nv, hnv⟩ : ∃ n, g.vs.length = n := ⟨_, rfl⟩
  obtain ⟨ne, hne⟩ : ∃ n, g.es.length = n := ⟨_, rfl⟩
  rw [hnv, hne] at hg ⊢
  have c77 := fun W hW => own39' g pv pe nv ne cv ce hnv hne W (hg.on hW)
  rw [err_yes hm] at c77
  have c79 := name38 lb
  rw [show nm lb.data.toList = nmB lb from rfl, hlb] at c79
  clear hg hm
  unfold Chg3 Gg.agg
  go_enter Try.func20, Try.ntmps20
  go_wp2_with (fail)
  refine (c77 _ (bel2 w _ _)).mono ?_
  rintro e w1 ⟨p, q, rfl, ho, hb1⟩
  have HF := own_fin ho hb1 (.slice p nv nv) (.slice q ne ne) (.int .i64 g.last)
  obtain ⟨x0, x1, x2, fx⟩ := three_of (blk_b0 hb1)
  obtain ⟨y0, y1, y2, fy⟩ := three_of (blk_b1 hb1)
  clear ho hb1 c77
  go_wp2_with (fail)
  clear x0 x1 x2 fx y0 y1 y2 fy
  generalize (((w1.setCell ⟨w.heap.size, 0, none⟩ (.slice p nv nv)).setCell ⟨w.heap.size, 1, none⟩ (.slice q ne ne)).setCell ⟨w.heap.size, 2, none⟩ (.int .i64 g.last)) = W2 at *
  obtain ⟨x0, x1, x2, fx⟩ := three_of HF.1
  obtain ⟨y0, y1, y2, fy⟩ := three_of HF.2.1
  have HF := Lib.hid HF
  refine (c79 _).mono ?_
  rintro e w' ⟨rfl, ew⟩
  rw [ew]
  clear ew w' c79
  go_wp2
  have fin := fin_err HF.out.2.2.1 HF.out.2.2.2.1
  simp [bodyPost, results, Try.results20, go_sem, y0, y1, y2]
  exact ⟨_, _, ⟨rfl, rfl⟩, fin⟩
set_option maxHeartbeats 4000000 in
theorem addV_full (g : Gg) (sv se : Value) (lb : ByteArray) (w : World) (hg : Gg.In w 0 g sv se) (hm : gMay g = true) (hlb : nmB lb = true) (hf : fullV g = true) :
    Calls Try.prog 20 #[g.agg sv se, .string lb] w fun e w' => Chg3 g 0 6 w e w' := by
  obtain ⟨pv, cv, rfl⟩ := hg.2.1.header
  obtain ⟨pe, ce, rfl⟩ := hg.2.2.header
  have hmm := Lib.hid (gMay_last hm)
  obtain ⟨nv, hnv⟩ : ∃ n, g.vs.length = n := ⟨_, rfl⟩
  obtain ⟨ne, hne⟩ : ∃ n, g.es.length = n := ⟨_, rfl⟩
  rw [hnv, hne] at hg ⊢
  have c77 := fun W hW => own39' g pv pe nv ne cv ce hnv hne W (hg.on hW)
  rw [err_yes hm] at c77
  have c79 := name38 lb
  rw [show nm lb.data.toList = nmB lb from rfl, hlb] at c79
  clear hg hm
  unfold Chg3 Gg.agg
  go_enter Try.func20, Try.ntmps20
  go_wp2_with (fail)
  refine (c77 _ (bel2 w _ _)).mono ?_
  rintro e w1 ⟨p, q, rfl, ho, hb1⟩
  have HF := own_fin ho hb1 (.slice p nv nv) (.slice q ne ne) (.int .i64 g.last)
  obtain ⟨x0, x1, x2, fx⟩ := three_of (blk_b0 hb1)
  obtain ⟨y0, y1, y2, fy⟩ := three_of (blk_b1 hb1)
  clear ho hb1 c77
  go_wp2_with (fail)
  clear x0 x1 x2 fx y0 y1 y2 fy
  generalize (((w1.setCell ⟨w.heap.size, 0, none⟩ (.slice p nv nv)).setCell ⟨w.heap.size, 1, none⟩ (.slice q ne ne)).setCell ⟨w.heap.size, 2, none⟩ (.int .i64 g.last)) = W2 at *
  obtain ⟨x0, x1, x2, fx⟩ := three_of HF.1
  obtain ⟨y0, y1, y2, fy⟩ := three_of HF.2.1
  have HF := Lib.hid HF
  refine (c79 _).mono ?_
  rintro e w' ⟨rfl, ew⟩
  rw [ew]
  clear ew w' c79
  have hf' : 2048 ≤ nv ∨ (¬ 2048 ≤ nv ∧ 281474976710656 ≤ g.last) := by
    unfold fullV at hf
    rw [hnv] at hf
    simp only [Bool.or_eq_true, decide_eq_true_eq] at hf
    omega
  clear hf
  rcases hf' with h1 | ⟨h1, h2⟩
  · have h1' : (2048 : Int) ≤ (nv : Int) := by omega
    go_wp2
    have fin := fin_err HF.out.2.2.1 HF.out.2.2.2.1
    simp [bodyPost, results, Try.results20, go_sem, y0, y1, y2]
    exact ⟨_, _, ⟨rfl, rfl⟩, fin⟩
  · have h1' : ¬ (2048 : Int) ≤ (nv : Int) := by omega
    go_wp2
    have fin := fin_err HF.out.2.2.1 HF.out.2.2.2.1
    simp [bodyPost, results, Try.results20, go_sem, y0, y1, y2]
    exact ⟨_, _, ⟨rfl, rfl⟩, fin⟩
set_option maxRecDepth 100000 in
set_option maxHeartbeats 4000000 in
theorem addV_ok (g : Gg) (sv se : Value) (lb : ByteArray) (w : World) (hg : Gg.In w 0 g sv se) (hm : gMay g = true) (hlb : nmB lb = true) (hf : fullV g = false) :
    Calls Try.prog 20 #[g.agg sv se, .string lb] w fun e w' => Chg3 (gAddV g lb) (g.last + 1) 0 w e w' := by
  obtain ⟨pv, cv, rfl⟩ := hg.2.1.header
  obtain ⟨pe, ce, rfl⟩ := hg.2.2.header
  have hmm := Lib.hid (gMay_last hm)
  obtain ⟨nv, hnv⟩ : ∃ n, g.vs.length = n := ⟨_, rfl⟩
  obtain ⟨ne, hne⟩ : ∃ n, g.es.length = n := ⟨_, rfl⟩
  rw [hnv, hne] at hg ⊢
  have c77 := fun W hW => own39' g pv pe nv ne cv ce hnv hne W (hg.on hW)
  rw [err_yes hm] at c77
  have c79 := name38 lb
  rw [show nm lb.data.toList = nmB lb from rfl, hlb] at c79
  clear hg hm
  unfold Chg3 Gg.agg
  go_enter Try.func20, Try.ntmps20
  go_wp2_with (fail)
  refine (c77 _ (bel2 w _ _)).mono ?_
  rintro e w1 ⟨p, q, rfl, ho, hb1⟩
  have HF := own_fin ho hb1 (.slice p nv nv) (.slice q ne ne) (.int .i64 g.last)
  obtain ⟨x0, x1, x2, fx⟩ := three_of (blk_b0 hb1)
  obtain ⟨y0, y1, y2, fy⟩ := three_of (blk_b1 hb1)
  clear ho hb1 c77
  go_wp2_with (fail)
  clear x0 x1 x2 fx y0 y1 y2 fy
  generalize (((w1.setCell ⟨w.heap.size, 0, none⟩ (.slice p nv nv)).setCell ⟨w.heap.size, 1, none⟩ (.slice q ne ne)).setCell ⟨w.heap.size, 2, none⟩ (.int .i64 g.last)) = W2 at *
  obtain ⟨x0, x1, x2, fx⟩ := three_of HF.1
  obtain ⟨y0, y1, y2, fy⟩ := three_of HF.2.1
  have HF := Lib.hid HF
  refine (c79 _).mono ?_
  rintro e w' ⟨rfl, ew⟩
  rw [ew]
  clear ew w' c79
  have hf' : ¬ 2048 ≤ nv ∧ ¬ 281474976710656 ≤ g.last := by
    unfold fullV at hf
    rw [hnv] at hf
    simp only [Bool.or_eq_false_iff, decide_eq_false_iff_not] at hf
    exact hf
  obtain ⟨h1, h2⟩ := hf'
  have h1' : ¬ (2048 : Int) ≤ (nv : Int) := by omega
  have hl0 := hmm.out.1
  obtain ⟨i0, hi, hz0, hz1, hz2⟩ := info_parts info41
  have hGr := Lib.hid (HF.out.2.2.1.v.gr len_RV)
  have hnv' := Lib.hid hnv
  have hyI := Lib.hid (fun (u : World) => (show RV.In u (w.heap.size + 2) ⟨g.last + 1, lb, []⟩ (.slice none 0 0) from ⟨by unfold I64; show _ ≤ g.last + 1 ∧ g.last + 1 ≤ _; omega, nm_size hlb, Sq.nil _ _⟩))
  clear hf
  go_wp2_with (at_builtin; refine wpList_gro len_RV (by decide) 24 40 i0 zVx Try.underlying24 hi hz0 hz1 hz2 rfl _ rfl _ _ rfl (w.heap.size + 2) (w.heap.size + 2) _ g.vs _ ⟨g.last + 1, lb, []⟩ (.slice none 0 0) (noW W2) rfl (by exact (hGr.out.put (Nat.le_refl _) (by omega) 2 _).alloc _) rfl (hyI.out _) (fun a c hc => (noW_cell hc).elim) (by exact new_ats' _ [.int .i64 (g.last + 1), .string lb, .slice none 0 0] 40 (by simp)) (by intro c hc; simp only [RV, List.mem_cons, List.not_mem_nil, or_false] at hc; rcases hc with rfl | rfl | rfl <;> rfl) (by rw [hnv'.out]; unfold maxLen; omega) (by rw [hnv'.out]; show (nv + 1) * 48 ≤ _; omega) (by have := HF.out.2.2.2.2; simp; omega) ?_; intro g5 cap5 w5 hG5 hgr5 hg5; rw [hnv'.out] at hG5; have HA := Lib.hid (addV_fin HF.out.1 HF.out.2.1 HF.out.2.2.1 HF.out.2.2.2.1 HF.out.2.2.2.2 hgr5 hG5); obtain ⟨z0, z1, z2, fz⟩ := three_of HA.out.1; obtain ⟨v0, v1, v2, fv⟩ := three_of HA.out.2.1; clear hgr5 hG5 hg5)
  clear x0 x1 x2 fx y0 y1 y2 fy z0 z1 z2 fz v0 v1 v2 fv
  have e0 := blk_set3a (a' := .slice (some ⟨g5, 0, none⟩) (nv + 1) cap5) HA.out.1
  have e1 := blk_oth (i := 0) (c := .slice (some ⟨g5, 0, none⟩) (nv + 1) cap5) (B' := w.heap.size) HA.out.2.1 (by omega)
  have fin := addV_end (lb := lb) hl0 hnv (by omega) (by omega) HA.out.2.2.1 HA.out.2.2.2.1 HA.out.2.2.2.2
  generalize w5.setCell ⟨w.heap.size, 0, none⟩ (.slice (some ⟨g5, 0, none⟩) (nv + 1) cap5) = W6 at *
  obtain ⟨x0, x1, x2, fx⟩ := three_of e0
  obtain ⟨y0, y1, y2, fy⟩ := three_of e1
  have fin := Lib.hid fin
  clear e0 e1
  go_region
  all_goals go_wp2
  all_goals simp [bodyPost, results, Try.results20, go_sem, y0, y1, y2]
  all_goals exact ⟨_, _, ⟨rfl, rfl, rfl⟩, fin.out.1.on (Below.refl _ _).drew, fin.out.2.drew⟩
/-- What AddV comes to. -/
def rAddV (g : Gg) (lb : ByteArray) : Gg × Int × Int := if gMay g = false then (g, 0, 103) else if nmB lb = false then (g, 0, 100) else if fullV g = true then (g, 0, 6) else (gAddV g lb, g.last + 1, 0)
theorem addV20 (g : Gg) (sv se : Value) (lb : ByteArray) (w : World) (hg : Gg.In w 0 g sv se) :
    Calls Try.prog 20 #[g.agg sv se, .string lb] w fun e w' => Chg3 (rAddV g lb).1 (rAddV g lb).2.1 (rAddV g lb).2.2 w e w' := by
  unfold rAddV
  cases h1 : gMay g with
  | false => exact addV_no g sv se lb w hg h1
  | true =>
    cases h2 : nmB lb with
    | false => exact addV_lb g sv se lb w hg h1 h2
    | true =>
      cases h3 : fullV g with
      | true => exact addV_full g sv se lb w hg h1 h2 h3
      | false => exact addV_ok g sv se lb w hg h1 h2 h3
end Go.Proofs.Yteknbploiombiaa
