/-
  What Drop of package graph does with a vertex that there is.
-/
import Derived.Test.YteknbploiombiaaZWoWoa
import Derived.Test.YteknbploiombiaaZPin
import Derived.Test.YteknbploiombiaaZAdv
namespace Go.Proofs.Yteknbploiombiaa
open Go.RowKit
set_option linter.unusedVariables false      -- a walk need not use every condition

def gDropV (g : Gg) (id : Int) : Gg := { vs := g.vs.filter (fun x => !(decide (x.id = id))), es := g.es.filter (fun x => !(decide (x.out = id) || decide (x.inn = id))), last := g.last }
/-- Where the clone lies behind its store, three boxes ahead of it. -/
def Fsd (g : Gg) (el : Array Value) (w W2 : World) (p q : Option Addr) (nv ne : Nat) : Prop := W2.heap[w.heap.size]? = some (.cells #[.slice p nv nv, .slice q ne ne, .int .i64 g.last] 27) ∧ W2.heap[w.heap.size + 1]? = some (.cells el 30) ∧ W2.heap[w.heap.size + 1 + 1]? = some (.cells #[.slice none 0 0, .slice none 0 0, .int .i64 0] 27) ∧
  OwGr g W2 (w.heap.size + 3) (.slice p nv nv) (.slice q ne ne) ∧ Below w.heap.size w W2 ∧ w.heap.size + 3 ≤ W2.heap.size
theorem Fsd.on {g : Gg} {el : Array Value} {w W2 W3 : World} {p q : Option Addr} {nv ne : Nat} (h : Fsd g el w W2 p q nv ne) (hb : Below W2.heap.size W2 W3) : Fsd g el w W3 p q nv ne :=
  ⟨blk_on hb h.1, blk_on hb h.2.1, blk_on hb h.2.2.1, h.2.2.2.1.on hb, h.2.2.2.2.1.trans (hb.mono h.2.2.2.2.1.size), Nat.le_trans h.2.2.2.2.2 hb.size⟩
theorem own_fin3 {g : Gg} {w w1 : World} {a b c : Value} {el : Array Value} {p q : Option Addr} {nv ne : Nat} (h1 : OwGr g w1 ((((w.alloc (.cells #[a, b, c] 27)).alloc (.cells el 30)).alloc (.cells #[.slice none 0 0, .slice none 0 0, .int .i64 0] 27)).heap.size) (.slice p nv nv) (.slice q ne ne))
    (hb : Below (((w.alloc (.cells #[a, b, c] 27)).alloc (.cells el 30)).alloc (.cells #[.slice none 0 0, .slice none 0 0, .int .i64 0] 27)).heap.size (((w.alloc (.cells #[a, b, c] 27)).alloc (.cells el 30)).alloc (.cells #[.slice none 0 0, .slice none 0 0, .int .i64 0] 27)) w1) :
    w1.heap[w.heap.size]? = some (.cells #[a, b, c] 27) ∧ w1.heap[w.heap.size + 1]? = some (.cells el 30) ∧
    Fsd g el w (((w1.setCell ⟨w.heap.size, 0, none⟩ (.slice p nv nv)).setCell ⟨w.heap.size, 1, none⟩ (.slice q ne ne)).setCell ⟨w.heap.size, 2, none⟩ (.int .i64 g.last)) p q nv ne := by
  have e0 := World.alloc_heap_new w (.cells #[a, b, c] 27)
  have e1 := World.alloc_heap_new (w.alloc (.cells #[a, b, c] 27)) (.cells el 30)
  have e2 := World.alloc_heap_new ((w.alloc (.cells #[a, b, c] 27)).alloc (.cells el 30)) (.cells #[.slice none 0 0, .slice none 0 0, .int .i64 0] 27)
  replace e0 := blk_on hb (blk_on (bel_then (bel1 _ (.cells el 30)) (bel1 _ (.cells #[.slice none 0 0, .slice none 0 0, .int .i64 0] 27))) e0)
  replace e1 := blk_on hb (blk_on (bel1 _ (.cells #[.slice none 0 0, .slice none 0 0, .int .i64 0] 27)) e1)
  replace e2 := blk_on hb e2
  rw [World.size_alloc] at e1 e2
  rw [World.size_alloc] at e2
  have hz : (((w.alloc (.cells #[a, b, c] 27)).alloc (.cells el 30)).alloc (.cells #[.slice none 0 0, .slice none 0 0, .int .i64 0] 27)).heap.size = w.heap.size + 3 := by simp
  rw [hz] at h1
  have k : KeepB (w.heap.size + 3) w1 (((w1.setCell ⟨w.heap.size, 0, none⟩ (.slice p nv nv)).setCell ⟨w.heap.size, 1, none⟩ (.slice q ne ne)).setCell ⟨w.heap.size, 2, none⟩ (.int .i64 g.last)) := ((keepB_set (by omega)).trans (keepB_set (by omega))).trans (keepB_set (by omega))
  have f2 : (((w1.setCell ⟨w.heap.size, 0, none⟩ (.slice p nv nv)).setCell ⟨w.heap.size, 1, none⟩ (.slice q ne ne)).setCell ⟨w.heap.size, 2, none⟩ (.int .i64 g.last)).heap[w.heap.size + 1 + 1]? = some (.cells #[.slice none 0 0, .slice none 0 0, .int .i64 0] 27) := blk_oth (blk_oth (blk_oth e2 (by omega)) (by omega)) (by omega)
  refine ⟨e0, e1, blk_put3 e0, blk_oth (blk_oth (blk_oth e1 (by omega)) (by omega)) (by omega), f2, h1.keep k (Nat.le_refl _), ?_, by have := (Array.getElem?_eq_some_iff.1 f2).1; omega⟩
  exact (((bel_then (bel_then (bel2 w _ _) (bel1 _ _)) hb).setCell (p := ⟨w.heap.size, 0, none⟩) (Nat.le_refl _) _).setCell (p := ⟨w.heap.size, 1, none⟩) (Nat.le_refl _) _).setCell (p := ⟨w.heap.size, 2, none⟩) (Nat.le_refl _) _
/-- What is left at the end. -/
theorem drop_end {g : Gg} {id : Int} {w W5 W7 : World} {v1 v2 : Value} {b5 b7 : Nat} (hl : I64 g.last) (hnv : g.vs.length ≤ 2048) (hne : g.es.length ≤ 2048) (hb : Below w.heap.size w W7)
    (hV : GrR RV 40 W7 (w.heap.size + 3) b5 (gDropV g id).vs v1) (h5 : w.heap.size + 3 ≤ b5) (hE : GrR RL 46 W7 (w.heap.size + 3) b7 (gDropV g id).es v2) (h7 : w.heap.size + 3 ≤ b7) :
    Gg.In ((((W7.setCell ⟨w.heap.size, 1, none⟩ v2).setCell ⟨w.heap.size + 1 + 1, 0, none⟩ v1).setCell ⟨w.heap.size + 1 + 1, 1, none⟩ v2).setCell ⟨w.heap.size + 1 + 1, 2, none⟩ (.int .i64 g.last)) w.heap.size (gDropV g id) v1 v2 ∧
    Below w.heap.size w ((((W7.setCell ⟨w.heap.size, 1, none⟩ v2).setCell ⟨w.heap.size + 1 + 1, 0, none⟩ v1).setCell ⟨w.heap.size + 1 + 1, 1, none⟩ v2).setCell ⟨w.heap.size + 1 + 1, 2, none⟩ (.int .i64 g.last)) := by
  have lv : (gDropV g id).vs.length ≤ 2048 := Nat.le_trans (List.length_filter_le _ _) hnv
  have le : (gDropV g id).es.length ≤ 2048 := Nat.le_trans (List.length_filter_le _ _) hne
  refine ⟨⟨hl, ?_, ?_⟩, ?_⟩
  · have := (((hV.put h5 (show w.heap.size < w.heap.size + 3 by omega) 1 v2).put h5 (show w.heap.size + 1 + 1 < w.heap.size + 3 by omega) 0 v1).put h5 (show w.heap.size + 1 + 1 < w.heap.size + 3 by omega) 1 v2).put h5 (show w.heap.size + 1 + 1 < w.heap.size + 3 by omega) 2 (.int .i64 g.last)
    exact (this.sq h5 (by show _ * 48 ≤ _; omega)).low (by omega)
  · have := (((hE.put h7 (show w.heap.size < w.heap.size + 3 by omega) 1 v2).put h7 (show w.heap.size + 1 + 1 < w.heap.size + 3 by omega) 0 v1).put h7 (show w.heap.size + 1 + 1 < w.heap.size + 3 by omega) 1 v2).put h7 (show w.heap.size + 1 + 1 < w.heap.size + 3 by omega) 2 (.int .i64 g.last)
    exact (this.sq h7 (by show _ * 64 ≤ _; omega)).low (by omega)
  · exact (((hb.setCell (p := ⟨w.heap.size, 1, none⟩) (Nat.le_refl _) _).setCell (p := ⟨w.heap.size + 1 + 1, 0, none⟩) (by show w.heap.size ≤ w.heap.size + 1 + 1; omega) _).setCell (p := ⟨w.heap.size + 1 + 1, 1, none⟩) (by show w.heap.size ≤ w.heap.size + 1 + 1; omega) _).setCell (p := ⟨w.heap.size + 1 + 1, 2, none⟩) (by show w.heap.size ≤ w.heap.size + 1 + 1; omega) _
theorem eqP (w : World) (a : Addr) : (Op.equal 76 (Value.pointer (some a)) (.pointer none)).run Try.prog w = .ok false w := by
  show (Op.equalIn (9999 + 1) 76 _ _).run Try.prog w = _
  rw [Op.equalIn]
  rw [Sem.run_bind, run_underlying Try.underlying76]
  rfl
theorem nilP (w : World) (a : Addr) : (binOp BinOp.eql 76 (Value.pointer (some a)) (.pointer none)).run Try.prog w = .ok (.bool false) w := by
  show (do pure (Value.bool (← Op.equal 76 (Value.pointer (some a)) (.pointer none)))).run Try.prog w = _
  rw [Sem.run_bind, eqP]
  rfl
set_option maxRecDepth 100000 in
set_option maxHeartbeats 8000000 in
theorem drop22v (g : Gg) (sv se : Value) (id : Int) (s : ByteArray) (lx : List V) (r : Option Addr) (m d : Nat) (w : World) (hg : Gg.In w 0 g sv se) (hm : gMay g = true) (hh : hasV g.vs id = true) (hem : (V.mk 6 id s lx).In w 0 (.slice r m d)) (hpl : plain s lx = true) :
    Calls Try.prog 22 #[g.agg sv se, .agg #[.int .i64 6, .int .i64 id, .string s, .slice r m d]] w fun e w' => ∃ s1 s2, e = .returned (.tuple #[(gDropV g id).agg s1 s2, .int .i64 0]) ∧ Gg.In w' w.heap.size (gDropV g id) s1 s2 ∧ Below w.heap.size w w' := by
  replace hem := Lib.hid hem
  obtain ⟨pv, cv, rfl⟩ := hg.2.1.header
  obtain ⟨pe, ce, rfl⟩ := hg.2.2.header
  have hmm := Lib.hid (gMay_last hm)
  have hl64 := Lib.hid hg.1
  obtain ⟨nv, hnv⟩ : ∃ n, g.vs.length = n := ⟨_, rfl⟩
  obtain ⟨ne, hne⟩ : ∃ n, g.es.length = n := ⟨_, rfl⟩
  rw [hnv, hne] at hg ⊢
  have c77 := fun W hW => own39' g pv pe nv ne cv ce hnv hne W (hg.on hW)
  rw [err_yes hm] at c77
  clear hg hm
  have hlast : (gDropV g id).last = g.last := rfl
  unfold Gg.agg
  rw [hlast]
  go_enter Try.func22, Try.ntmps22
  go_wp2_with (fail)
  refine (c77 _ (bel_then (bel2 w _ _) (bel1 _ _))).mono ?_
  rintro e w1 ⟨p, q, rfl, ho, hb1⟩
  obtain ⟨t0, t1, HF⟩ := own_fin3 ho hb1
  obtain ⟨x0, x1, x2, fx⟩ := three_of t0
  obtain ⟨y0, y1, y2, y3⟩ := four_cells t1
  clear ho hb1 c77 t0 t1
  have HF' := Lib.hid HF
  obtain ⟨y0', y1', y2', y3'⟩ := four_cells HF.2.1
  clear HF
  go_wp2_with (fail)
  have HF := HF'.out
  clear x0 x1 x2 fx y0 y1 y2 y3 y0' y1' y2' y3' HF'
  generalize (((w1.setCell ⟨w.heap.size, 0, none⟩ (.slice p nv nv)).setCell ⟨w.heap.size, 1, none⟩ (.slice q ne ne)).setCell ⟨w.heap.size, 2, none⟩ (.int .i64 g.last)) = W2 at *
  have c78 := props40v g.vs p nv (.slice q ne ne) g.last w.heap.size id s lx r m d W2 (by rw [hnv]; exact HF.1) (by rw [hnv]; exact (HF.2.2.2.1.v.sq).low (Nat.zero_le _)) (hem.out.on HF.2.2.2.2.1) hpl hh
  have HF := Lib.hid HF
  refine c78.mono ?_
  rintro e W3 ⟨a, rfl, hb3⟩
  have HF3 := Lib.hid (HF.out.on hb3)
  clear hb3 c78 HF
  have hnil := nilP W3 a
  obtain ⟨x0, x1, x2, fx⟩ := three_of HF3.out.1
  obtain ⟨y0, y1, y2, y3⟩ := four_cells HF3.out.2.1
  have hbT := Lib.hid (bel1 W3 (Obj.cells #[.int .i64 id] 2))
  have hT := Lib.hid (Boxed.new W3 2 (.int .i64 id))
  have HF4 := Lib.hid (HF3.out.on hbT.out)
  obtain ⟨x0', x1', x2', fx'⟩ := three_of HF4.out.1
  obtain ⟨y0', y1', y2', y3'⟩ := four_cells HF4.out.2.1
  go_wp2_with (fail)
  clear x0 x1 x2 fx y0 y1 y2 y3 x0' x1' x2' fx' y0' y1' y2' y3' hnil
  have hTs : W3.heap.size < (W3.alloc (Obj.cells #[.int .i64 id] 2)).heap.size := by simp
  have hT' := hT.out
  generalize W3.alloc (Obj.cells #[.int .i64 id] 2) = W4 at *
  have hz4 := HF4.out.2.2.2.2.2
  have c86 := without86_87 g.vs (.slice p nv nv) id W3.heap.size (w.heap.size + 3) W4 HF4.out.2.2.2.1.v.sq hT'.cell hz4
  refine c86.mono ?_
  rintro e W5 ⟨v1, rfl, hG5, hb5⟩
  obtain ⟨p5, cap5, rfl, -⟩ := hG5.form
  obtain ⟨n5, hn5⟩ : ∃ n, (g.vs.filter fun x => !(decide (x.id = id))).length = n := ⟨_, rfl⟩
  rw [hn5] at hG5
  have HF5 := Lib.hid (HF4.out.on hb5)
  have hT5 := Lib.hid (show Boxed W5 W3.heap.size 2 (.int .i64 id) from blk_on hb5 hT')
  have HG5 := Lib.hid hG5
  have hz45 := Lib.hid hz4
  obtain ⟨x0, x1, x2, fx⟩ := three_of HF5.out.1
  clear c86 hG5 hb5 hz4 hT' hT hbT HF4
  simp only [hn5]
  go_wp2_with (fail)
  clear x0 x1 x2 fx
  have hT3 : w.heap.size ≠ W3.heap.size := by have := HF3.out.2.2.2.2.2; omega
  have f0 := blk_set3a (a' := .slice p5 n5 cap5) HF5.out.1
  have f1 := blk_oth (i := 0) (c := .slice p5 n5 cap5) (B' := w.heap.size) HF5.out.2.1 (by omega)
  have f2 := blk_oth (i := 0) (c := .slice p5 n5 cap5) (B' := w.heap.size) HF5.out.2.2.1 (by omega)
  have f3 : Boxed (W5.setCell ⟨w.heap.size, 0, none⟩ (.slice p5 n5 cap5)) W3.heap.size 2 (.int .i64 id) := blk_oth hT5.out (Ne.symm hT3)
  have f4 := HG5.out.put hz45.out (show w.heap.size < w.heap.size + 3 by omega) 0 (.slice p5 n5 cap5)
  have f5 := HF5.out.2.2.2.1.keep (keepB_set (B := w.heap.size) (i := 0) (c := .slice p5 n5 cap5) (show w.heap.size < w.heap.size + 3 by omega)) (Nat.le_refl _)
  have f6 := HF5.out.2.2.2.2.1.setCell (p := ⟨w.heap.size, 0, none⟩) (Nat.le_refl _) (.slice p5 n5 cap5)
  have f7 := f3.lt
  generalize W5.setCell ⟨w.heap.size, 0, none⟩ (.slice p5 n5 cap5) = W6 at *
  have hz6 : w.heap.size + 3 ≤ W6.heap.size := by have := HF3.out.2.2.2.2.2; omega
  have c88 := without88_89 g.es (.slice q ne ne) id W3.heap.size (w.heap.size + 3) W6 f5.e.sq f3.cell hz6
  refine c88.mono ?_
  rintro e W7 ⟨v2, rfl, hG7, hb7⟩
  obtain ⟨p7, cap7, rfl, -⟩ := hG7.form
  obtain ⟨n7, hn7⟩ : ∃ n, (g.es.filter fun x => !(decide (x.out = id) || decide (x.inn = id))).length = n := ⟨_, rfl⟩
  rw [hn7] at hG7
  have e0 := blk_on hb7 f0
  have e2 := blk_on hb7 f2
  have fin := Lib.hid (drop_end (id := id) (W5 := W5) hl64.out hmm.out.2.2.1 hmm.out.2.2.2.1 (f6.trans (hb7.mono f6.size)) (show GrR RV 40 W7 (w.heap.size + 3) W4.heap.size (gDropV g id).vs (.slice p5 n5 cap5) from f4.on hb7) hz45.out (show GrR RL 46 W7 (w.heap.size + 3) W6.heap.size (gDropV g id).es (.slice p7 n7 cap7) from hG7) hz6)
  obtain ⟨x0, x1, x2, fx⟩ := three_of e0
  obtain ⟨y0, y1, y2, fy⟩ := three_of e2
  clear c88 hG7 hb7 f0 f1 f2 f3 f4 f5 f6 f7 hz6
  simp only [hn7]
  go_wp2
  simp [bodyPost, results, Try.results22, go_sem, y0, y1, y2]
  exact ⟨_, _, ⟨rfl, rfl⟩, fin.out⟩
end Go.Proofs.Yteknbploiombiaa
