/-
  The document's AddV of a graph that may be: some graph, and where it lies.
  The document's AddE of a graph that may be: some graph, and where it lies.
-/
import Derived.Test.YteknbploiombiaaZRgw
import Derived.Test.YteknbploiombiaaZRvxRch
namespace Go.Proofs.Yteknbploiombiaa
open Go.RowKit
set_option linter.unusedVariables false      -- a walk need not use every condition

/-- Some graph and two numbers. -/
def RD3 (w : World) (e : Ending) (w' : World) : Prop := ∃ (Y : Gg) (t1 t2 : Value) (n m : Int), e = .returned (.tuple #[Y.agg t1 t2, .int .i64 n, .int .i64 m]) ∧ Gg.In w' w.heap.size Y t1 t2 ∧ Below w.heap.size w w'
theorem bel_s3 {w W : World} (h : Below w.heap.size w W) {B : Nat} (hB : w.heap.size ≤ B) (a b c : Value) : Below w.heap.size w (((W.setCell ⟨B, 0, none⟩ a).setCell ⟨B, 1, none⟩ b).setCell ⟨B, 2, none⟩ c) :=
  ((h.setCell (p := ⟨B, 0, none⟩) hB _).setCell (p := ⟨B, 1, none⟩) hB _).setCell (p := ⟨B, 2, none⟩) hB _
theorem GwGr.put3 {g : Gg} {w : World} {lo B : Nat} {a b c : Value} {s1 s2 : Value} (h : GwGr g w lo s1 s2) (hB : B < lo) : GwGr g (((w.setCell ⟨B, 0, none⟩ a).setCell ⟨B, 1, none⟩ b).setCell ⟨B, 2, none⟩ c) lo s1 s2 := ((h.put hB).put hB).put hB
theorem GwGr.sz {g : Gg} {w : World} {lo : Nat} {s1 s2 : Value} (h : GwGr g w lo s1 s2) : lo ≤ w.heap.size := by
  obtain ⟨wv, h1, h2, h3, h4, h5⟩ := h; omega
/-- What an append to the vertices, or to the edges, of the document's clone leaves. -/
theorem rapp_blk {w W w5 : World} {o : Obj} {s1 s2 x a' b' c' c d : Value} {A lo : Nat} (E0 : W.heap[A]? = some (.cells #[s1, s2, d] 27)) (E1 : W.heap[A + 1]? = some (.cells #[a', b', c'] 27)) (hx : ∀ b, x.ownBlock = some b → lo ≤ b) (hA : A + 2 ≤ lo) (hwA : w.heap.size ≤ A) (hB : Below w.heap.size w W) (hgr : ((W.setCell ⟨A, 2, none⟩ c).alloc o).grownBy w5 x.ownBlock) :
    w5.heap[A]? = some (.cells #[s1, s2, c] 27) ∧ w5.heap[A + 1]? = some (.cells #[a', b', c'] 27) ∧ Below w.heap.size w w5 := by
  have e0 := blk_on (bel1 _ o) (blk_set3c (c' := c) E0)
  have e1 := blk_on (bel1 _ o) (blk_oth (i := 2) (c := c) (B' := A) E1 (by omega))
  have f0 := (hgr.block A (Array.getElem?_eq_some_iff.1 e0).1 (fun e => by have := hx _ e.symm; omega)).trans e0
  have f1 := (hgr.block (A + 1) (Array.getElem?_eq_some_iff.1 e1).1 (fun e => by have := hx _ e.symm; omega)).trans e1
  have bX : Below w.heap.size w ((W.setCell ⟨A, 2, none⟩ c).alloc o) := (hB.setCell (p := ⟨A, 2, none⟩) hwA _).trans ((bel1 _ o).mono (by have := hB.size; simp; omega))
  exact ⟨f0, f1, bX.grown hgr bX.size (fun k e => by have := hx _ e; omega)⟩
set_option maxRecDepth 100000 in
set_option maxHeartbeats 8000000 in
theorem raddV24 (g : Gg) (sv se : Value) (lb : ByteArray) (w : World) (hg : Gg.In w 0 g sv se) (hm : gMay g = true) :
    Calls Try.prog 24 #[g.agg sv se, .string lb] w fun e w' => RD3 w e w' := by
  obtain ⟨pv, cv, rfl⟩ := hg.2.1.header
  obtain ⟨pe, ce, rfl⟩ := hg.2.2.header
  have hmm := Lib.hid (gMay_last hm)
  have h64 := Lib.hid hg.1
  obtain ⟨nv, hnv⟩ : ∃ n, g.vs.length = n := ⟨_, rfl⟩
  obtain ⟨ne, hne⟩ : ∃ n, g.es.length = n := ⟨_, rfl⟩
  have hbv := Lib.hid (show g.vs.length * 48 ≤ 140737488351232 by have := hmm.out.2.2.1; omega)
  have hbe := Lib.hid (show g.es.length * 64 ≤ 140737488351232 by have := hmm.out.2.2.2.1; omega)
  have c56 := fun W hW => rcg56g g _ _ W (hg.on (w' := W) hW)
  have c57 := fun s1 s2 W hW => check57 g s1 s2 W hW
  rw [err_yes hm] at c57
  have c58 := name39 lb
  rw [show nm lb.data.toList = nmB lb from rfl] at c58
  have HV := Lib.hid hnv
  have HE := Lib.hid hne
  rw [hnv, hne] at c56 ⊢
  clear hg hm hnv hne
  unfold Gg.agg at c56 c57 ⊢
  go_enter Try.func24, Try.ntmps24
  go_wp2_with (fail)
  refine (c56 _ (bel2 w _ _)).mono ?_
  rintro e w1 ⟨s1, s2, rfl, hin, hb1, hgw⟩
  obtain ⟨p1, c1, rfl⟩ := hin.2.1.header
  obtain ⟨p2, c2, rfl⟩ := hin.2.2.header
  rw [HV.out, HE.out] at hgw ⊢
  obtain ⟨x0, x1, x2, fx⟩ := three_of (blk_b0 hb1)
  obtain ⟨y0, y1, y2, fy⟩ := three_of (blk_b1 hb1)
  have E0 := Lib.hid (blk_put3 (a' := .slice p1 nv c1) (b' := .slice p2 ne c2) (c' := .int .i64 g.last) (blk_b0 hb1))
  have E1 := Lib.hid (blk_oth (i := 2) (c := .int .i64 g.last) (B' := w.heap.size) (blk_oth (i := 1) (c := .slice p2 ne c2) (B' := w.heap.size) (blk_oth (i := 0) (c := .slice p1 nv c1) (B' := w.heap.size) (blk_b1 hb1) (by omega)) (by omega)) (by omega))
  have hz : ((w.alloc (.cells #[.slice pv nv cv, .slice pe ne ce, .int .i64 g.last] 27)).alloc (.cells #[.slice none 0 0, .slice none 0 0, .int .i64 0] 27)).heap.size = w.heap.size + 2 := by simp
  rw [hz] at hgw
  have GW := Lib.hid (hgw.put3 (a := .slice p1 nv c1) (b := .slice p2 ne c2) (c := .int .i64 g.last) (show w.heap.size < w.heap.size + 2 + 3 by omega))
  have B2 := Lib.hid (bel_s3 (bel_then (bel2 w _ _) hb1) (Nat.le_refl _) (.slice p1 nv c1) (.slice p2 ne c2) (.int .i64 g.last))
  clear hin hb1 hgw hz c56
  go_wp2_with (fail)
  clear x0 x1 x2 fx y0 y1 y2 fy
  generalize (((w1.setCell ⟨w.heap.size, 0, none⟩ (.slice p1 nv c1)).setCell ⟨w.heap.size, 1, none⟩ (.slice p2 ne c2)).setCell ⟨w.heap.size, 2, none⟩ (.int .i64 g.last)) = W2 at *
  refine (c57 _ _ W2 (GW.out.is h64.out hbv.out hbe.out)).mono ?_
  rintro e w3 ⟨rfl, hb3⟩
  replace E0 := Lib.hid (blk_on hb3 E0.out)
  replace E1 := Lib.hid (blk_on hb3 E1.out)
  replace GW := Lib.hid (GW.out.on hb3)
  replace B2 := Lib.hid (bel_then B2.out hb3)
  clear hb3 c57
  obtain ⟨x0, x1, x2, fx⟩ := three_of E0.out
  obtain ⟨y0, y1, y2, fy⟩ := three_of E1.out
  have FIN : Hid (∀ (n m : Int), RD3 w (.returned (.tuple #[.agg #[.slice p1 nv c1, .slice p2 ne c2, .int .i64 g.last], .int .i64 n, .int .i64 m])) (((w3.setCell ⟨w.heap.size + 1, 0, none⟩ (.slice p1 nv c1)).setCell ⟨w.heap.size + 1, 1, none⟩ (.slice p2 ne c2)).setCell ⟨w.heap.size + 1, 2, none⟩ (.int .i64 g.last))) :=
    fun n m => ⟨g, _, _, n, m, rfl, ((GW.out.put3 (by omega)).isl h64.out hbv.out hbe.out).low (by omega), bel_s3 B2.out (by omega) _ _ _⟩
  go_wp2_with (fail)
  refine (c58 _).mono ?_
  rintro e w4 ⟨rfl, ew⟩
  rw [ew]
  clear ew w4 c58
  cases hlb : nmB lb with
  | false =>
    go_wp2
    simp [bodyPost, results, Try.results24, go_sem, y0, y1, y2]
    exact FIN.out _ _
  | true =>
    have S64lb := Lib.hid (nm_size hlb)
    clear hlb
    by_cases h1 : 2048 ≤ nv
    · have h1' : (2048 : Int) ≤ (nv : Int) := by omega
      go_wp2
      simp [bodyPost, results, Try.results24, go_sem, y0, y1, y2]
      exact FIN.out _ _
    have h1' : ¬ (2048 : Int) ≤ (nv : Int) := by omega
    by_cases h2 : g.last = 281474976710656
    · have h2' : (g.last == 281474976710656) = true := by simpa using h2
      clear h2
      go_wp2
      simp [bodyPost, results, Try.results24, go_sem, y0, y1, y2]
      exact FIN.out _ _
    have h2' : (g.last == 281474976710656) = false := by simpa using h2
    have hl0 := hmm.out.1
    have hl1 := hmm.out.2.1
    have hlw : IntKind.i64.wrap (g.last + 1) = g.last + 1 := by rw [IntKind.wrap_i64]; omega
    obtain ⟨i0, hi, hz0, hz1, hz2⟩ := info_parts info41
    have hyI := Lib.hid (fun (u : World) => (show RV.In u (w.heap.size + 2 + 3) ⟨g.last + 1, lb, []⟩ (.slice none 0 0) from ⟨by unfold I64; show _ ≤ g.last + 1 ∧ g.last + 1 ≤ _; omega, S64lb.out, Sq.nil _ _⟩))
    have h1b : decide ((2048 : Int) ≤ (nv : Int)) = false := decide_eq_false (by omega)
    have h1n : nv < 2048 := by omega
    clear FIN h1 h2 h1'
    have hvb := Lib.hid (fun b (e : (Value.slice p1 nv c1).ownBlock = some b) => (GW.out.v.lt e).1)
    go_wp2_with (at_builtin; refine wpList_gro len_RV (by decide) 24 40 i0 zVx Try.underlying24 hi hz0 hz1 hz2 rfl _ rfl _ _ rfl (w.heap.size + 2 + 3) (w.heap.size + 2 + 3) _ g.vs _ ⟨g.last + 1, lb, []⟩ (.slice none 0 0) (noW w3) rfl (by exact (GW.out.v.put (Nat.le_refl _) (by omega) 2 _).alloc _) rfl (hyI.out _) (fun a c hc => (noW_cell hc).elim) (by exact new_ats' _ [.int .i64 (g.last + 1), .string lb, .slice none 0 0] 40 (by simp)) (by intro c hc; simp only [RV, List.mem_cons, List.not_mem_nil, or_false] at hc; rcases hc with rfl | rfl | rfl <;> rfl) (by rw [HV.out]; unfold maxLen; omega) (by rw [HV.out]; show (nv + 1) * 48 ≤ _; omega) (by have := GW.out.sz; simp; omega) ?_; intro g5 cap5 w5 hG5 hgr5 hg5; rw [HV.out] at hG5; have HA := Lib.hid (rapp_blk E0.out E1.out hvb.out (by omega) (Nat.le_refl _) B2.out hgr5); have HQ := Lib.hid (gw_addv ((GW.out.put (i := 2) (c := .int .i64 (g.last + 1)) (by omega)).on (bel1 _ _)) hgr5 hG5); have HG5 := Lib.hid hG5; obtain ⟨z0, z1, z2, fz⟩ := three_of HA.out.1; obtain ⟨v0, v1, v2, fv⟩ := three_of HA.out.2.1; clear hgr5 hG5 hg5)
    clear x0 x1 x2 fx y0 y1 y2 fy z0 z1 z2 fz v0 v1 v2 fv
    rw [HV.out]
    have e0 := blk_set3a (a' := .slice (some ⟨g5, 0, none⟩) (nv + 1) cap5) HA.out.1
    have e1 := blk_oth (i := 0) (c := .slice (some ⟨g5, 0, none⟩) (nv + 1) cap5) (B' := w.heap.size) HA.out.2.1 (by omega)
    have fin : Hid (RD3 w (.returned (.tuple #[.agg #[.slice (some ⟨g5, 0, none⟩) (nv + 1) cap5, .slice p2 ne c2, .int .i64 (g.last + 1)], .int .i64 (g.last + 1), .int .i64 0])) ((((w5.setCell ⟨w.heap.size, 0, none⟩ (.slice (some ⟨g5, 0, none⟩) (nv + 1) cap5)).setCell ⟨w.heap.size + 1, 0, none⟩ (.slice (some ⟨g5, 0, none⟩) (nv + 1) cap5)).setCell ⟨w.heap.size + 1, 1, none⟩ (.slice p2 ne c2)).setCell ⟨w.heap.size + 1, 2, none⟩ (.int .i64 (g.last + 1))).drew) := by
      obtain ⟨lo2, hlo2, hE⟩ := HQ.out
      have k : KeepB (w.heap.size + 2 + 3) w5 ((((w5.setCell ⟨w.heap.size, 0, none⟩ (.slice (some ⟨g5, 0, none⟩) (nv + 1) cap5)).setCell ⟨w.heap.size + 1, 0, none⟩ (.slice (some ⟨g5, 0, none⟩) (nv + 1) cap5)).setCell ⟨w.heap.size + 1, 1, none⟩ (.slice p2 ne c2)).setCell ⟨w.heap.size + 1, 2, none⟩ (.int .i64 (g.last + 1))).drew := (((keepB_set (by omega)).trans (keepB_set (by omega))).trans (keepB_set (by omega))).trans (keepB_set (by omega))
      refine ⟨⟨g.vs ++ [⟨g.last + 1, lb, []⟩], g.es, g.last + 1⟩, _, _, _, _, rfl, ⟨?_, ?_, ?_⟩, ?_⟩
      · show I64 (g.last + 1); unfold I64; omega
      · exact ((HG5.out.keepLo (Nat.le_refl _) k).sq (Nat.le_refl _) (by rw [List.length_append, HV.out]; show (nv + 1) * 48 ≤ _; omega)).low (by omega)
      · exact ((hE.keepLo (Nat.le_refl _) (k.mono hlo2)).sq (Nat.le_refl _) hbe.out).low (by omega)
      · exact (bel_s3 (HA.out.2.2.setCell (p := ⟨w.heap.size, 0, none⟩) (Nat.le_refl _) _) (show w.heap.size ≤ w.heap.size + 1 by omega) _ _ _).drew
    generalize w5.setCell ⟨w.heap.size, 0, none⟩ (.slice (some ⟨g5, 0, none⟩) (nv + 1) cap5) = W6 at *
    obtain ⟨x0, x1, x2, fx⟩ := three_of e0
    obtain ⟨y0, y1, y2, fy⟩ := three_of e1
    clear e0 e1
    go_region
    all_goals go_wp2
    all_goals simp [bodyPost, results, Try.results24, go_sem, y0, y1, y2]
    all_goals exact fin.out
end Go.Proofs.Yteknbploiombiaa
namespace Go.Proofs.Yteknbploiombiaa
open Go.RowKit
set_option linter.unusedVariables false      -- a walk need not use every condition

theorem GwGr.e {g : Gg} {w : World} {lo : Nat} {s1 s2 : Value} (h : GwGr g w lo s1 s2) : ∃ lo2, lo ≤ lo2 ∧ lo2 ≤ w.heap.size ∧ GrR RL 46 w lo2 lo2 g.es s2 := by
  obtain ⟨wv, h1, h2, h3, h4, h5⟩ := h
  exact ⟨_, h1, h3, h5⟩
set_option maxRecDepth 100000 in
set_option maxHeartbeats 8000000 in
theorem raddE25 (g : Gg) (sv se : Value) (lb : ByteArray) (io ii : Int) (h64o : I64 io) (h64i : I64 ii) (w : World) (hg : Gg.In w 0 g sv se) (hm : gMay g = true) :
    Calls Try.prog 25 #[g.agg sv se, .string lb, .int .i64 io, .int .i64 ii] w fun e w' => RD3 w e w' := by
  obtain ⟨pv, cv, rfl⟩ := hg.2.1.header
  obtain ⟨pe, ce, rfl⟩ := hg.2.2.header
  have hmm := Lib.hid (gMay_last hm)
  have h64 := Lib.hid hg.1
  obtain ⟨nv, hnv⟩ : ∃ n, g.vs.length = n := ⟨_, rfl⟩
  obtain ⟨ne, hne⟩ : ∃ n, g.es.length = n := ⟨_, rfl⟩
  have hbv := Lib.hid (show g.vs.length * 48 ≤ 140737488351232 by have := hmm.out.2.2.1; omega)
  have hbe := Lib.hid (show g.es.length * 64 ≤ 140737488351232 by have := hmm.out.2.2.2.1; omega)
  have c56 := fun W hW => rcg56g g _ _ W (hg.on (w' := W) hW)
  have c57 := fun s1 s2 W hW => check57 g s1 s2 W hW
  rw [err_yes hm] at c57
  have C59 := Lib.hid (fun id s1 s2 W hW => v59 g s1 s2 id W hW)
  have c58 := name39 lb
  rw [show nm lb.data.toList = nmB lb from rfl] at c58
  have HV := Lib.hid hnv
  have HE := Lib.hid hne
  rw [hnv, hne] at c56 ⊢
  clear hg hm hnv hne
  unfold Gg.agg at c56 c57 ⊢
  go_enter Try.func25, Try.ntmps25
  go_wp2_with (fail)
  refine (c56 _ (bel2 w _ _)).mono ?_
  rintro e w1 ⟨s1, s2, rfl, hin, hb1, hgw⟩
  obtain ⟨p1, c1, rfl⟩ := hin.2.1.header
  obtain ⟨p2, c2, rfl⟩ := hin.2.2.header
  rw [HV.out, HE.out] at hgw ⊢
  obtain ⟨x0, x1, x2, fx⟩ := three_of (blk_b0 hb1)
  obtain ⟨y0, y1, y2, fy⟩ := three_of (blk_b1 hb1)
  have E0 := Lib.hid (blk_put3 (a' := .slice p1 nv c1) (b' := .slice p2 ne c2) (c' := .int .i64 g.last) (blk_b0 hb1))
  have E1 := Lib.hid (blk_oth (i := 2) (c := .int .i64 g.last) (B' := w.heap.size) (blk_oth (i := 1) (c := .slice p2 ne c2) (B' := w.heap.size) (blk_oth (i := 0) (c := .slice p1 nv c1) (B' := w.heap.size) (blk_b1 hb1) (by omega)) (by omega)) (by omega))
  have hz : ((w.alloc (.cells #[.slice pv nv cv, .slice pe ne ce, .int .i64 g.last] 27)).alloc (.cells #[.slice none 0 0, .slice none 0 0, .int .i64 0] 27)).heap.size = w.heap.size + 2 := by simp
  rw [hz] at hgw
  have GW := Lib.hid (hgw.put3 (a := .slice p1 nv c1) (b := .slice p2 ne c2) (c := .int .i64 g.last) (show w.heap.size < w.heap.size + 2 + 3 by omega))
  have B2 := Lib.hid (bel_s3 (bel_then (bel2 w _ _) hb1) (Nat.le_refl _) (.slice p1 nv c1) (.slice p2 ne c2) (.int .i64 g.last))
  clear hin hb1 hgw hz c56
  go_wp2_with (fail)
  clear x0 x1 x2 fx y0 y1 y2 fy
  generalize (((w1.setCell ⟨w.heap.size, 0, none⟩ (.slice p1 nv c1)).setCell ⟨w.heap.size, 1, none⟩ (.slice p2 ne c2)).setCell ⟨w.heap.size, 2, none⟩ (.int .i64 g.last)) = W2 at *
  refine (c57 _ _ W2 (GW.out.is h64.out hbv.out hbe.out)).mono ?_
  rintro e w3 ⟨rfl, hb3⟩
  replace E0 := Lib.hid (blk_on hb3 E0.out)
  replace E1 := Lib.hid (blk_on hb3 E1.out)
  replace GW := Lib.hid (GW.out.on hb3)
  replace B2 := Lib.hid (bel_then B2.out hb3)
  clear hb3 c57
  obtain ⟨x0, x1, x2, fx⟩ := three_of E0.out
  obtain ⟨y0, y1, y2, fy⟩ := three_of E1.out
  have FIN : Hid (∀ (wz : World), Below w3.heap.size w3 wz → ∀ (n m : Int), RD3 w (.returned (.tuple #[.agg #[.slice p1 nv c1, .slice p2 ne c2, .int .i64 g.last], .int .i64 n, .int .i64 m])) (((wz.setCell ⟨w.heap.size + 1, 0, none⟩ (.slice p1 nv c1)).setCell ⟨w.heap.size + 1, 1, none⟩ (.slice p2 ne c2)).setCell ⟨w.heap.size + 1, 2, none⟩ (.int .i64 g.last))) :=
    fun wz hz n m => ⟨g, _, _, n, m, rfl, (((GW.out.on hz).put3 (by omega)).isl h64.out hbv.out hbe.out).low (by omega), bel_s3 (bel_then B2.out hz) (by omega) _ _ _⟩
  go_wp2_with (fail)
  refine (c58 _).mono ?_
  rintro e w4 ⟨rfl, ew⟩
  rw [ew]
  clear ew w4 c58
  cases hlb : nmB lb with
  | false =>
    go_wp2
    simp [bodyPost, results, Try.results25, go_sem, y0, y1, y2]
    exact FIN.out _ (Below.refl _ _) _ _
  | true =>
    have S64lb := Lib.hid (nm_size hlb)
    clear hlb
    have hg3 := GW.out.is h64.out hbv.out hbe.out
    have c59 := C59.out io _ _ w3 hg3
    unfold Gg.agg Vx.agg at c59
    clear hg3
    go_wp2_with (fail)
    refine c59.mono ?_
    rintro e w4 ⟨hb4, q3, n3, c3, rfl, -⟩
    have B4 := Lib.hid (bel_al hb4 (.cells #[.int .i64 (vTell g.vs io).id, .string (vTell g.vs io).lb, .slice q3 n3 c3] 40))
    clear hb4 c59 x0 x1 x2 fx y0 y1 y2 fy
    obtain ⟨x0, x1, x2, fx⟩ := three_of (blk_on B4.out E0.out)
    obtain ⟨y0, y1, y2, fy⟩ := three_of (blk_on B4.out E1.out)
    obtain ⟨A1, hA1⟩ : ∃ a, hasV g.vs io = a := ⟨_, rfl⟩
    rw [hA1]
    clear hA1
    have hg4 := (GW.out.on B4.out).is h64.out hbv.out hbe.out
    have c59 := C59.out ii _ _ _ hg4
    unfold Gg.agg Vx.agg at c59
    clear hg4
    go_wp2_with (fail)
    generalize w4.alloc (.cells #[.int .i64 (vTell g.vs io).id, .string (vTell g.vs io).lb, .slice q3 n3 c3] 40) = W4 at *
    refine c59.mono ?_
    rintro e w5 ⟨hb5, q5, n5, c5, rfl, -⟩
    replace B4 := Lib.hid (bel_al (bel_then B4.out hb5) (.cells #[.int .i64 (vTell g.vs ii).id, .string (vTell g.vs ii).lb, .slice q5 n5 c5] 40))
    clear hb5 c59 x0 x1 x2 fx y0 y1 y2 fy C59
    obtain ⟨x0, x1, x2, fx⟩ := three_of (blk_on B4.out E0.out)
    obtain ⟨y0, y1, y2, fy⟩ := three_of (blk_on B4.out E1.out)
    obtain ⟨A2, hA2⟩ : ∃ a, hasV g.vs ii = a := ⟨_, rfl⟩
    rw [hA2]
    clear hA2
    obtain ⟨W5, hW5⟩ : ∃ W, Hid (w5.alloc (.cells #[.int .i64 (vTell g.vs ii).id, .string (vTell g.vs ii).lb, .slice q5 n5 c5] 40) = W) := ⟨_, rfl⟩
    replace E0 := Lib.hid (blk_on B4.out E0.out)
    replace E1 := Lib.hid (blk_on B4.out E1.out)
    replace GW := Lib.hid (GW.out.on B4.out)
    replace B2 := Lib.hid (bel_then B2.out B4.out)
    have FIN := Lib.hid (FIN.out _ B4.out)
    rw [hW5.out] at E0 E1 GW B2 FIN
    clear B4
    cases A1 with
    | false =>
      go_wp2
      simp [bodyPost, results, Try.results25, go_sem, y0, y1, y2]
      rw [hW5.out]
      exact FIN.out _ _
    | true =>
      cases A2 with
      | false =>
        go_wp2
        simp [bodyPost, results, Try.results25, go_sem, y0, y1, y2]
        rw [hW5.out]
        exact FIN.out _ _
      | true =>
        by_cases h1 : 2048 ≤ ne
        · have h1' : (2048 : Int) ≤ (ne : Int) := by omega
          go_wp2
          simp [bodyPost, results, Try.results25, go_sem, y0, y1, y2]
          rw [hW5.out]
          exact FIN.out _ _
        have h1' : ¬ (2048 : Int) ≤ (ne : Int) := by omega
        by_cases h2 : g.last = 281474976710656
        · have h2' : (g.last == 281474976710656) = true := by simpa using h2
          clear h2
          go_wp2
          simp [bodyPost, results, Try.results25, go_sem, y0, y1, y2]
          rw [hW5.out]
          exact FIN.out _ _
        have h2' : (g.last == 281474976710656) = false := by simpa using h2
        have hl0 := hmm.out.1
        have hl1 := hmm.out.2.1
        have hlw : IntKind.i64.wrap (g.last + 1) = g.last + 1 := by rw [IntKind.wrap_i64]; omega
        obtain ⟨i0, hi, hz0, hz1, hz2⟩ := info_parts info46
        obtain ⟨lo2, hlo2, hsz2, hE⟩ := GW.out.e
        have HE2 := Lib.hid hE
        clear hE
        have hyI := Lib.hid (fun (u : World) => (show RL.In u lo2 ⟨g.last + 1, lb, io, ii, []⟩ (.slice none 0 0) from ⟨by unfold I64; show _ ≤ g.last + 1 ∧ g.last + 1 ≤ _; omega, S64lb.out, h64o, h64i, Sq.nil _ _⟩))
        have h1b : decide ((2048 : Int) ≤ (ne : Int)) = false := decide_eq_false (by omega)
        have h1n : ne < 2048 := by omega
        clear FIN h1 h2 h1'
        have hvb := Lib.hid (fun b (e : (Value.slice p2 ne c2).ownBlock = some b) => Nat.le_trans hlo2 (HE2.out.lt e).1)
        rw [← hW5.out] at E0 E1 GW B2 HE2 hsz2
        go_wp2_with (at_builtin; refine wpList_gro len_RL (by decide) 25 46 i0 zLk Try.underlying25 hi hz0 hz1 hz2 rfl _ rfl _ _ rfl lo2 lo2 _ g.es _ ⟨g.last + 1, lb, io, ii, []⟩ (.slice none 0 0) (noW w) rfl (by exact (HE2.out.put (Nat.le_refl _) (by omega) 2 _).alloc _) rfl (hyI.out _) (fun a c hc => (noW_cell hc).elim) (by exact new_ats' _ [.int .i64 (g.last + 1), .string lb, .int .i64 io, .int .i64 ii, .slice none 0 0] 46 (by simp)) (by intro c hc; simp only [RL, List.mem_cons, List.not_mem_nil, or_false] at hc; rcases hc with rfl | rfl | rfl | rfl | rfl <;> rfl) (by rw [HE.out]; unfold maxLen; omega) (by rw [HE.out]; show (ne + 1) * 64 ≤ _; omega) (by simp at hsz2 ⊢; omega) ?_; intro g5 cap5 w6 hG5 hgr5 hg5; rw [HE.out] at hG5; have HA := Lib.hid (rapp_blk E0.out E1.out hvb.out (by omega) (Nat.le_refl _) B2.out hgr5); have HQ := Lib.hid (gw_adde ((GW.out.put (i := 2) (c := .int .i64 (g.last + 1)) (by omega)).on (bel1 _ _)) hgr5); have HG5 := Lib.hid hG5; obtain ⟨z0, z1, z2, fz⟩ := three_of HA.out.1; obtain ⟨v0, v1, v2, fv⟩ := three_of HA.out.2.1; clear hgr5 hG5 hg5)
        clear x0 x1 x2 fx y0 y1 y2 fy z0 z1 z2 fz v0 v1 v2 fv
        rw [HE.out]
        have e0 := blk_set3b (b' := .slice (some ⟨g5, 0, none⟩) (ne + 1) cap5) HA.out.1
        have e1 := blk_oth (i := 1) (c := .slice (some ⟨g5, 0, none⟩) (ne + 1) cap5) (B' := w.heap.size) HA.out.2.1 (by omega)
        have fin : Hid (RD3 w (.returned (.tuple #[.agg #[.slice p1 nv c1, .slice (some ⟨g5, 0, none⟩) (ne + 1) cap5, .int .i64 (g.last + 1)], .int .i64 (g.last + 1), .int .i64 0])) ((((w6.setCell ⟨w.heap.size, 1, none⟩ (.slice (some ⟨g5, 0, none⟩) (ne + 1) cap5)).setCell ⟨w.heap.size + 1, 0, none⟩ (.slice p1 nv c1)).setCell ⟨w.heap.size + 1, 1, none⟩ (.slice (some ⟨g5, 0, none⟩) (ne + 1) cap5)).setCell ⟨w.heap.size + 1, 2, none⟩ (.int .i64 (g.last + 1))).drew) := by
          have k : KeepB (w.heap.size + 2 + 3) w6 ((((w6.setCell ⟨w.heap.size, 1, none⟩ (.slice (some ⟨g5, 0, none⟩) (ne + 1) cap5)).setCell ⟨w.heap.size + 1, 0, none⟩ (.slice p1 nv c1)).setCell ⟨w.heap.size + 1, 1, none⟩ (.slice (some ⟨g5, 0, none⟩) (ne + 1) cap5)).setCell ⟨w.heap.size + 1, 2, none⟩ (.int .i64 (g.last + 1))).drew := (((keepB_set (by omega)).trans (keepB_set (by omega))).trans (keepB_set (by omega))).trans (keepB_set (by omega))
          refine ⟨⟨g.vs, g.es ++ [⟨g.last + 1, lb, io, ii, []⟩], g.last + 1⟩, _, _, _, _, rfl, ⟨?_, ?_, ?_⟩, ?_⟩
          · show I64 (g.last + 1); unfold I64; omega
          · exact ((HQ.out.keepLo (Nat.le_refl _) k).sq (Nat.le_refl _) hbv.out).low (by omega)
          · exact ((HG5.out.keepLo (Nat.le_refl _) (k.mono hlo2)).sq (Nat.le_refl _) (by rw [List.length_append, HE.out]; show (ne + 1) * 64 ≤ _; omega)).low (by omega)
          · exact (bel_s3 (HA.out.2.2.setCell (p := ⟨w.heap.size, 1, none⟩) (Nat.le_refl _) _) (show w.heap.size ≤ w.heap.size + 1 by omega) _ _ _).drew
        generalize w6.setCell ⟨w.heap.size, 1, none⟩ (.slice (some ⟨g5, 0, none⟩) (ne + 1) cap5) = W6 at *
        obtain ⟨x0, x1, x2, fx⟩ := three_of e0
        obtain ⟨y0, y1, y2, fy⟩ := three_of e1
        clear e0 e1
        go_region
        all_goals go_wp2
        all_goals simp [bodyPost, results, Try.results25, go_sem, y0, y1, y2]
        all_goals exact fin.out
end Go.Proofs.Yteknbploiombiaa
