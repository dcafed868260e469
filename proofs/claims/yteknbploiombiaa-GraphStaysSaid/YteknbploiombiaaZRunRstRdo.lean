/-
  The document's Unset of a graph that may be: some graph, and where it lies.
  The document's Set of a graph that may be: some graph, and where it lies.
  The document's Drop of a graph that may be: some graph, and where it lies.
-/
import Derived.Test.YteknbploiombiaaZRavRae
import Derived.Test.YteknbploiombiaaZRatRlp
import Derived.Test.YteknbploiombiaaZRwi
import Derived.Test.YteknbploiombiaaZWop
import Derived.Test.YteknbploiombiaaZRpm
import Derived.Test.YteknbploiombiaaZRcvRcpRcgRcs
namespace Go.Proofs.Yteknbploiombiaa
open Go.RowKit
set_option linter.unusedVariables false      -- a walk need not use every condition

theorem blk_new0 (w : World) (o : Obj) : (w.alloc o).heap[w.heap.size]? = some o := World.alloc_heap_new w o
/-- Some graph, a truth and a number; some graph and a number. -/
def RDB (w : World) (e : Ending) (w' : World) : Prop := ∃ (Y : Gg) (t1 t2 : Value) (b : Bool) (m : Int), e = .returned (.tuple #[Y.agg t1 t2, .bool b, .int .i64 m]) ∧ Gg.In w' w.heap.size Y t1 t2 ∧ Below w.heap.size w w'
def RD2 (w : World) (e : Ending) (w' : World) : Prop := ∃ (Y : Gg) (t1 t2 : Value) (m : Int), e = .returned (.tuple #[Y.agg t1 t2, .int .i64 m]) ∧ Gg.In w' w.heap.size Y t1 t2 ∧ Below w.heap.size w w'
theorem with63 (g : Gg) (sv se : Value) (k id : Int) (s : ByteArray) (q : Option Addr) (m d : Nat) (ps ps0 : List Pr) (pp : Option Addr) (nn cc : Nat) (w : World) (hg : Gg.In w 0 g sv se) (hm : gMay g = true) (hel : elPs g k id = some ps0) (hps : Sq RP w 0 ps (.slice pp nn cc)) :
    Calls Try.prog 63 #[g.agg sv se, .agg #[.int .i64 k, .int .i64 id, .string s, .slice q m d], .slice pp nn cc] w fun e w' => Wt (gUp g k id fun _ => ps) w e w' := by
  by_cases h6 : k = 6
  · subst h6; exact with63v g sv se id s q m d ps ps0 pp nn cc w hg hm hel hps
  · by_cases h7 : k = 7
    · subst h7; exact with63e g sv se id s q m d ps ps0 pp nn cc w hg hm hel hps
    · unfold elPs at hel; rw [if_neg h6, if_neg h7] at hel; cases hel
theorem elLb_ps {g : Gg} {k id : Int} (h : (elLb g k id).isSome = true) : ∃ ps, elPs g k id = some ps := by
  unfold elLb at h
  unfold elPs
  by_cases h6 : k = 6
  · rw [if_pos h6] at h ⊢
    unfold vAt at h
    unfold vPs
    cases hh : g.vs.find? (fun x => decide (x.id = id)) with
    | none => rw [hh] at h; simp at h
    | some x => exact ⟨_, rfl⟩
  · rw [if_neg h6] at h ⊢
    by_cases h7 : k = 7
    · rw [if_pos h7] at h ⊢
      unfold eAt at h
      unfold ePs
      cases hh : g.es.find? (fun x => decide (x.id = id)) with
      | none => rw [hh] at h; simp at h
      | some x => exact ⟨_, rfl⟩
    · rw [if_neg h7] at h; simp at h
theorem Wt.any {g : Gg} {w : World} {e : Ending} {w' : World} (h : Wt g w e w') : ∃ p c p' c', e = .returned (g.agg (.slice p g.vs.length c) (.slice p' g.es.length c')) ∧ Gg.In w' w.heap.size g (.slice p g.vs.length c) (.slice p' g.es.length c') ∧ Below w.heap.size w w' := by
  obtain ⟨s1, s2, rfl, h1, h2⟩ := h
  obtain ⟨p, c, rfl⟩ := h1.2.1.header
  obtain ⟨p', c', rfl⟩ := h1.2.2.header
  exact ⟨p, c, p', c', rfl, h1, h2⟩
set_option maxRecDepth 100000 in
set_option maxHeartbeats 16000000 in
theorem runs27 (g : Gg) (sv se : Value) (k id : Int) (s : ByteArray) (q : Option Addr) (m d : Nat) (na : ByteArray) (w : World) (hg : Gg.In w 0 g sv se) (hm : gMay g = true) :
    Calls Try.prog 27 #[g.agg sv se, .agg #[.int .i64 k, .int .i64 id, .string s, .slice q m d], .string na] w fun e w' => RDB w e w' := by
  obtain ⟨pv, cv, rfl⟩ := hg.2.1.header
  obtain ⟨pe, ce, rfl⟩ := hg.2.2.header
  have hmm := Lib.hid (gMay_last hm)
  have h64 := Lib.hid hg.1
  obtain ⟨nv, hnv⟩ : ∃ n, g.vs.length = n := ⟨_, rfl⟩
  obtain ⟨ne, hne⟩ : ∃ n, g.es.length = n := ⟨_, rfl⟩
  have hbv := Lib.hid (show g.vs.length * 48 ≤ 140737488351232 by have := hmm.out.2.2.1; omega)
  have hbe := Lib.hid (show g.es.length * 64 ≤ 140737488351232 by have := hmm.out.2.2.2.1; omega)
  have c56 := fun W hW => rcg56g g _ _ W (hg.on (w' := W) hW)
  have c57 := fun s1 s2 W hW => check57 g s1 s2 W hW
  rw [err_yes hm] at c57
  have HM := Lib.hid hm
  have HV := Lib.hid hnv
  have HE := Lib.hid hne
  rw [hnv, hne] at c56 ⊢
  clear hg hm hnv hne
  unfold Gg.agg at c56 c57 ⊢
  go_enter Try.func27, Try.ntmps27
  go_wp2_with (fail)
  refine (c56 _ (bel_al (bel_al (bel1 w (.cells #[.slice pv nv cv, .slice pe ne ce, .int .i64 g.last] 27)) (.cells #[.int .i64 k, .int .i64 id, .string s, .slice q m d] 30)) (.cells #[.slice none 0 0, .slice none 0 0, .int .i64 0] 27))).mono ?_
  rintro e w1 ⟨s1, s2, rfl, hin, hb1, hgw⟩
  obtain ⟨p1, c1, rfl⟩ := hin.2.1.header
  obtain ⟨p2, c2, rfl⟩ := hin.2.2.header
  rw [HV.out, HE.out] at hgw ⊢
  have Z0 := blk_on hb1 (blk_on (bel1 _ (.cells #[.slice none 0 0, .slice none 0 0, .int .i64 0] 27)) (blk_on (bel1 _ (.cells #[.int .i64 k, .int .i64 id, .string s, .slice q m d] 30)) (blk_new0 w (.cells #[.slice pv nv cv, .slice pe ne ce, .int .i64 g.last] 27))))
  have Z1 := blk_on hb1 (blk_on (bel1 _ (.cells #[.slice none 0 0, .slice none 0 0, .int .i64 0] 27)) (blk_new0 (w.alloc (.cells #[.slice pv nv cv, .slice pe ne ce, .int .i64 g.last] 27)) (.cells #[.int .i64 k, .int .i64 id, .string s, .slice q m d] 30)))
  have Z2 := blk_on hb1 (blk_new0 ((w.alloc (.cells #[.slice pv nv cv, .slice pe ne ce, .int .i64 g.last] 27)).alloc (.cells #[.int .i64 k, .int .i64 id, .string s, .slice q m d] 30)) (.cells #[.slice none 0 0, .slice none 0 0, .int .i64 0] 27))
  simp only [World.size_alloc] at Z0 Z1 Z2
  have hz : ((((w.alloc (.cells #[.slice pv nv cv, .slice pe ne ce, .int .i64 g.last] 27)).alloc (.cells #[.int .i64 k, .int .i64 id, .string s, .slice q m d] 30)).alloc (.cells #[.slice none 0 0, .slice none 0 0, .int .i64 0] 27))).heap.size = w.heap.size + 3 := by simp
  rw [hz] at hgw
  obtain ⟨x0, x1, x2, fx⟩ := three_of Z0
  have E0 := Lib.hid (blk_put3 (a' := .slice p1 nv c1) (b' := .slice p2 ne c2) (c' := .int .i64 g.last) Z0)
  have E1 := Lib.hid (blk_oth (i := 2) (c := .int .i64 g.last) (B' := w.heap.size) (blk_oth (i := 1) (c := .slice p2 ne c2) (B' := w.heap.size) (blk_oth (i := 0) (c := .slice p1 nv c1) (B' := w.heap.size) Z1 (by omega)) (by omega)) (by omega))
  have E2 := Lib.hid (blk_oth (i := 2) (c := .int .i64 g.last) (B' := w.heap.size) (blk_oth (i := 1) (c := .slice p2 ne c2) (B' := w.heap.size) (blk_oth (i := 0) (c := .slice p1 nv c1) (B' := w.heap.size) Z2 (by omega)) (by omega)) (by omega))
  have GW := Lib.hid (hgw.put3 (a := .slice p1 nv c1) (b := .slice p2 ne c2) (c := .int .i64 g.last) (show w.heap.size < w.heap.size + 3 + 3 by omega))
  have B2 := Lib.hid (bel_s3 (bel_then (bel_al (bel_al (bel1 w (.cells #[.slice pv nv cv, .slice pe ne ce, .int .i64 g.last] 27)) (.cells #[.int .i64 k, .int .i64 id, .string s, .slice q m d] 30)) (.cells #[.slice none 0 0, .slice none 0 0, .int .i64 0] 27)) hb1) (Nat.le_refl _) (.slice p1 nv c1) (.slice p2 ne c2) (.int .i64 g.last))
  clear hin hb1 hgw hz c56 Z0 Z1 Z2
  go_wp2_with (fail)
  clear x0 x1 x2 fx
  generalize (((w1.setCell ⟨w.heap.size, 0, none⟩ (.slice p1 nv c1)).setCell ⟨w.heap.size, 1, none⟩ (.slice p2 ne c2)).setCell ⟨w.heap.size, 2, none⟩ (.int .i64 g.last)) = W2 at *
  refine (c57 _ _ W2 (GW.out.is h64.out hbv.out hbe.out)).mono ?_
  rintro e w3 ⟨rfl, hb3⟩
  replace E0 := Lib.hid (blk_on hb3 E0.out)
  replace E1 := Lib.hid (blk_on hb3 E1.out)
  replace E2 := Lib.hid (blk_on hb3 E2.out)
  replace GW := Lib.hid (GW.out.on hb3)
  replace B2 := Lib.hid (bel_then B2.out hb3)
  clear hb3 c57
  have FIN : Hid (∀ (wz : World), Below w3.heap.size w3 wz → ∀ (b : Bool) (n : Int), RDB w (.returned (.tuple #[.agg #[.slice p1 nv c1, .slice p2 ne c2, .int .i64 g.last], .bool b, .int .i64 n])) (((wz.setCell ⟨w.heap.size + 1 + 1, 0, none⟩ (.slice p1 nv c1)).setCell ⟨w.heap.size + 1 + 1, 1, none⟩ (.slice p2 ne c2)).setCell ⟨w.heap.size + 1 + 1, 2, none⟩ (.int .i64 g.last))) :=
    fun wz hz b n => ⟨g, _, _, b, n, rfl, (((GW.out.on hz).put3 (by omega)).isl h64.out hbv.out hbe.out).low (by omega), bel_s3 (bel_then B2.out hz) (by omega) _ _ _⟩
  have c60 := rlabel60 g _ _ k id s q m d w3 (GW.out.is h64.out hbv.out hbe.out)
  have c62 := fun W (hB : Below w3.heap.size w3 W) => rprops62 g _ _ k id s q m d W ((GW.out.on hB).is h64.out hbv.out hbe.out)
  have c63 := Lib.hid (fun ps0 ps pp nn cc W (hB : Below w3.heap.size w3 W) hel hps => with63 g _ _ k id s q m d ps ps0 pp nn cc W ((GW.out.on hB).is h64.out hbv.out hbe.out) HM.out hel hps)
  obtain ⟨x0, x1, x2, fx⟩ := three_of E0.out
  obtain ⟨e0, e1, e2, e3⟩ := four_cells E1.out
  obtain ⟨y0, y1, y2, fy⟩ := three_of E2.out
  unfold Gg.agg at c60 c62 c63
  go_wp2_with (fail)
  obtain ⟨LB, hLB⟩ : ∃ x, elLb g k id = x := ⟨_, rfl⟩
  have HLB := Lib.hid hLB
  refine c60.mono ?_
  rintro e w4 ⟨rfl, hb4⟩
  rw [hLB]
  clear hLB c60 x0 x1 x2 fx e0 e1 e2 e3 y0 y1 y2 fy
  obtain ⟨x0, x1, x2, fx⟩ := three_of (blk_on hb4 E0.out)
  obtain ⟨e0, e1, e2, e3⟩ := four_cells (blk_on hb4 E1.out)
  obtain ⟨y0, y1, y2, fy⟩ := three_of (blk_on hb4 E2.out)
  have B4 := Lib.hid hb4
  clear hb4
  generalize LB.getD ⟨#[]⟩ = LBs at *
  cases hs : LB.isSome with
  | false =>
    clear c62 c63
    go_wp2
    simp [bodyPost, results, Try.results27, go_sem, y0, y1, y2]
    exact FIN.out _ B4.out _ _
  | true =>
    obtain ⟨ps0, hps0⟩ := elLb_ps (g := g) (k := k) (id := id) (by rw [HLB.out]; exact hs)
    have HP0 := Lib.hid hps0
    clear hs HLB hps0 FIN LB
    go_wp2_with (fail)
    refine (c62 _ B4.out).mono ?_
    rintro e w5 ⟨hdr, ps, rfl, hS, -, hb5⟩
    have B5 := Lib.hid (bel_then B4.out hb5)
    clear c62 hb5 B4 x0 x1 x2 fx e0 e1 e2 e3 y0 y1 y2 fy
    obtain ⟨pp, cp, rfl, hpc, hpm, hp72, hpx⟩ := hS
    have HPX := Lib.hid hpx
    clear hpx
    obtain ⟨N, hN⟩ : ∃ n, ps.length = n := ⟨_, rfl⟩
    have HN := Lib.hid hN
    rw [hN] at hpc hp72 ⊢
    clear hN
    have hN72 : N * 72 ≤ 140737488351232 := hp72
    have hN6 : N ≤ 1954687338211 := by omega
    unfold maxLen at hpm
    clear hp72
    go_wp2
    go_loopg [13, 14] N (fun c s13 s14 wr => ∃ (i : Nat) (acc : List Pr), i + c = N ∧ s14 = .int .i64 i ∧ acc.length ≤ i ∧ Hid (GrR RP 84 wr 0 w5.heap.size acc s13) ∧ Hid (Below w5.heap.size w5 wr))
    case atStart => exact ⟨0, [], by omega, rfl, Nat.le_refl _, grR_nil _ _ _ _ _, Below.refl _ _⟩
    case round =>
      obtain ⟨i, acc, hic, rfl, hacc, HG, HB⟩ := hrel
      obtain ⟨pr, cr, rfl, hrc, hrm, -⟩ := HG.out.form
      cases gk with
      | succ c =>
        have hi : i < ps.length := by have := HN.out; omega
        have hiN : (i : Int) < (N : Int) := by omega
        have hi0 : (0 : Int) ≤ (i : Int) := by omega
        obtain ⟨b, o', rfl, -, hx1⟩ := HPX.out.resolve_left (by intro e; rw [e] at hi; simp at hi)
        obtain ⟨sl, hat, hin⟩ := hx1.at i hi
        obtain ⟨x0, x1, x2, x3, x4⟩ := ats5 (hat.keep (keep_below HB.out) (Nat.zero_le _))
        simp only [show RP.n = 5 from rfl] at x0 x1 x2 x3 x4
        have HIN := Lib.hid hin
        clear hat hin hx1 HPX
        generalize ps[i] = pv' at *
        obtain ⟨pn, ⟨vk, vn, vs, vl⟩⟩ := pv'
        simp only [V.k, V.n, V.s] at x0 x1 x2 x3 x4
        by_cases he : pn = na
        · have he1 : (pn.toList == na.toList) = true := by rw [nmEq]; exact decide_eq_true he
          go_wp2
          go_roundg c
          case measure => omega
          case rel => exact ⟨i + 1, acc, by omega, by first | rfl | simp, by omega, HG.out, HB.out⟩
        · have he1 : (pn.toList == na.toList) = false := by rw [nmEq]; exact decide_eq_false he
          clear he
          have hu5 := Lib.hid (fun (a : Addr) c (h : w5.cell? a = some c) => (show wr.cell? a = some c ∧ some a.block ≠ (Value.slice pr acc.length cr).ownBlock from ⟨some_on HB.out h, fun e => by have := (HG.out.lt e.symm).1; have := cell_lt h; omega⟩))
          obtain ⟨i0, hi', hz0, hz1, hz2⟩ := info_parts info99
          obtain ⟨t1, t2, t3, rfl⟩ := (HIN.out.2).header
          go_wp2_with (at_builtin; refine wpList_gro len_RP (by decide) 38 84 i0 zPr Try.underlying38 hi' hz0 hz1 hz2 rfl _ rfl _ _ rfl 0 w5.heap.size _ acc _ ⟨pn, ⟨vk, vn, vs, vl⟩⟩ (.slice t1 t2 t3) w5 rfl (by exact HG.out.alloc _) rfl HIN.out (fun a c hc => ⟨some_on (bel1 wr _) (hu5.out a c hc).1, (hu5.out a c hc).2⟩) (by exact new_ats' _ [.string pn, .int .i64 vk, .int .i64 vn, .string vs, .slice t1 t2 t3] 84 (by simp)) (by intro c hc; simp only [RP, List.mem_cons, List.not_mem_nil, or_false, V.k, V.n, V.s] at hc; rcases hc with rfl | rfl | rfl | rfl | rfl <;> rfl) (by unfold maxLen; omega) (by show (acc.length + 1) * 72 ≤ _; omega) (by have := HB.out.size; simp; omega) ?_; intro g5 cap5 w6 hG5 hgr5 hg5; have HG6 := Lib.hid hG5; have HB6 := Lib.hid ((bel_al HB.out _).trans (gro_below (B := w5.heap.size) (HG.out.alloc _) hgr5 (Nat.le_refl _) (by have := HB.out.size; simp; omega))); clear hgr5 hG5 hg5)
          go_roundg c
          case measure => omega
          case rel => exact ⟨i + 1, acc ++ [⟨pn, ⟨vk, vn, vs, vl⟩⟩], by omega, by first | rfl | simp, by simp; omega, HG6, HB6⟩
      | zero =>
        clear HPX
        have BR := Lib.hid (bel_then B5.out HB.out)
        obtain ⟨x0, x1, x2, fx⟩ := three_of (blk_on BR.out E0.out)
        obtain ⟨e0, e1, e2, e3⟩ := four_cells (blk_on BR.out E1.out)
        have hS := HG.out.sq (Nat.zero_le _) (by show acc.length * 72 ≤ _; omega)
        have c63 := c63.out ps0 acc pr acc.length cr wr BR.out HP0.out hS
        obtain ⟨R, hR⟩ : ∃ r, (gUp g k id fun _ => acc) = r := ⟨_, rfl⟩
        rw [hR] at c63
        clear hS hR
        have hiN : i = N := by omega
        subst hiN
        have hacc2 : acc.length ≤ 1954687338211 := by omega
        go_wp2_with (fail)
        refine c63.mono ?_
        rintro e w7 hw
        obtain ⟨r1, d1, r2, d2, rfl, hIn, hb7⟩ := hw.any
        have B7 := Lib.hid (bel_then BR.out hb7)
        have HIn := Lib.hid hIn
        clear hw hIn hb7 x0 x1 x2 fx e0 e1 e2 e3
        obtain ⟨y0, y1, y2, fy⟩ := three_of (blk_on B7.out E2.out)
        unfold Gg.agg
        have hfin : Hid (∀ b, RDB w (.returned (.tuple #[.agg #[.slice r1 R.vs.length d1, .slice r2 R.es.length d2, .int .i64 R.last], .bool b, .int .i64 0])) (((w7.setCell ⟨w.heap.size + 1 + 1, 0, none⟩ (.slice r1 R.vs.length d1)).setCell ⟨w.heap.size + 1 + 1, 1, none⟩ (.slice r2 R.es.length d2)).setCell ⟨w.heap.size + 1 + 1, 2, none⟩ (.int .i64 R.last))) := fun b => by
          refine ⟨R, _, _, b, 0, rfl, ?_, bel_s3 (bel_then B2.out B7.out) (by omega) _ _ _⟩
          have hlo : w.heap.size + 1 + 1 < wr.heap.size := by have := (Array.getElem?_eq_some_iff.1 E2.out).1; have := BR.out.size; omega
          exact HIn.out.keep (((keepB_set hlo).trans (keepB_set hlo)).trans (keepB_set hlo)).keep (by omega)
        go_wp2
        simp [bodyPost, results, Try.results27, go_sem, y0, y1, y2]
        exact hfin.out _
end Go.Proofs.Yteknbploiombiaa
namespace Go.Proofs.Yteknbploiombiaa
open Go.RowKit
set_option linter.unusedVariables false      -- a walk need not use every condition

set_option maxRecDepth 100000 in
set_option maxHeartbeats 16000000 in
theorem rset26 (g : Gg) (sv se : Value) (k id : Int) (s : ByteArray) (q : Option Addr) (m d : Nat) (na : ByteArray) (x : V) (r3 : Option Addr) (n3 c3 : Nat) (w : World) (hg : Gg.In w 0 g sv se) (hm : gMay g = true) (hx : x.In w 0 (.slice r3 n3 c3)) :
    Calls Try.prog 26 #[g.agg sv se, .agg #[.int .i64 k, .int .i64 id, .string s, .slice q m d], .string na, x.agg (.slice r3 n3 c3)] w fun e w' => RD2 w e w' := by
  obtain ⟨pv, cv, rfl⟩ := hg.2.1.header
  obtain ⟨pe, ce, rfl⟩ := hg.2.2.header
  have hmm := Lib.hid (gMay_last hm)
  have h64 := Lib.hid hg.1
  obtain ⟨nv, hnv⟩ : ∃ n, g.vs.length = n := ⟨_, rfl⟩
  obtain ⟨ne, hne⟩ : ∃ n, g.es.length = n := ⟨_, rfl⟩
  have hbv := Lib.hid (show g.vs.length * 48 ≤ 140737488351232 by have := hmm.out.2.2.1; omega)
  have hbe := Lib.hid (show g.es.length * 64 ≤ 140737488351232 by have := hmm.out.2.2.2.1; omega)
  have c56 := fun W hW => rcg56g g _ _ W (hg.on (w' := W) hW)
  have c57 := fun s1 s2 W hW => check57 g s1 s2 W hW
  rw [err_yes hm] at c57
  have HM := Lib.hid hm
  have HV := Lib.hid hnv
  have HE := Lib.hid hne
  rw [hnv, hne] at c56 ⊢
  clear hg hm hnv hne
  have HX := Lib.hid hx
  clear hx
  unfold Gg.agg at c56 c57 ⊢
  unfold V.agg
  go_enter Try.func26, Try.ntmps26
  go_wp2_with (fail)
  refine (c56 _ (bel_al (bel_al (bel_al (bel1 w (.cells #[.slice pv nv cv, .slice pe ne ce, .int .i64 g.last] 27)) (.cells #[.int .i64 k, .int .i64 id, .string s, .slice q m d] 30)) (.cells #[.int .i64 x.k, .int .i64 x.n, .string x.s, .slice r3 n3 c3] 30)) (.cells #[.slice none 0 0, .slice none 0 0, .int .i64 0] 27))).mono ?_
  rintro e w1 ⟨s1, s2, rfl, hin, hb1, hgw⟩
  obtain ⟨p1, c1, rfl⟩ := hin.2.1.header
  obtain ⟨p2, c2, rfl⟩ := hin.2.2.header
  rw [HV.out, HE.out] at hgw ⊢
  have Z0 := blk_on hb1 (blk_on (bel1 _ (.cells #[.slice none 0 0, .slice none 0 0, .int .i64 0] 27)) (blk_on (bel1 _ (.cells #[.int .i64 x.k, .int .i64 x.n, .string x.s, .slice r3 n3 c3] 30)) (blk_on (bel1 _ (.cells #[.int .i64 k, .int .i64 id, .string s, .slice q m d] 30)) (blk_new0 w (.cells #[.slice pv nv cv, .slice pe ne ce, .int .i64 g.last] 27)))))
  have Z1 := blk_on hb1 (blk_on (bel1 _ (.cells #[.slice none 0 0, .slice none 0 0, .int .i64 0] 27)) (blk_on (bel1 _ (.cells #[.int .i64 x.k, .int .i64 x.n, .string x.s, .slice r3 n3 c3] 30)) (blk_new0 (w.alloc (.cells #[.slice pv nv cv, .slice pe ne ce, .int .i64 g.last] 27)) (.cells #[.int .i64 k, .int .i64 id, .string s, .slice q m d] 30))))
  have Z2 := blk_on hb1 (blk_on (bel1 _ (.cells #[.slice none 0 0, .slice none 0 0, .int .i64 0] 27)) (blk_new0 ((w.alloc (.cells #[.slice pv nv cv, .slice pe ne ce, .int .i64 g.last] 27)).alloc (.cells #[.int .i64 k, .int .i64 id, .string s, .slice q m d] 30)) (.cells #[.int .i64 x.k, .int .i64 x.n, .string x.s, .slice r3 n3 c3] 30)))
  have Z3 := blk_on hb1 (blk_new0 (((w.alloc (.cells #[.slice pv nv cv, .slice pe ne ce, .int .i64 g.last] 27)).alloc (.cells #[.int .i64 k, .int .i64 id, .string s, .slice q m d] 30)).alloc (.cells #[.int .i64 x.k, .int .i64 x.n, .string x.s, .slice r3 n3 c3] 30)) (.cells #[.slice none 0 0, .slice none 0 0, .int .i64 0] 27))
  simp only [World.size_alloc] at Z0 Z1 Z2 Z3
  have hz : (((((w.alloc (.cells #[.slice pv nv cv, .slice pe ne ce, .int .i64 g.last] 27)).alloc (.cells #[.int .i64 k, .int .i64 id, .string s, .slice q m d] 30)).alloc (.cells #[.int .i64 x.k, .int .i64 x.n, .string x.s, .slice r3 n3 c3] 30)).alloc (.cells #[.slice none 0 0, .slice none 0 0, .int .i64 0] 27))).heap.size = w.heap.size + 4 := by simp
  rw [hz] at hgw
  obtain ⟨x0, x1, x2, fx⟩ := three_of Z0
  have E0 := Lib.hid (blk_put3 (a' := .slice p1 nv c1) (b' := .slice p2 ne c2) (c' := .int .i64 g.last) Z0)
  have E1 := Lib.hid (blk_oth (i := 2) (c := .int .i64 g.last) (B' := w.heap.size) (blk_oth (i := 1) (c := .slice p2 ne c2) (B' := w.heap.size) (blk_oth (i := 0) (c := .slice p1 nv c1) (B' := w.heap.size) Z1 (by omega)) (by omega)) (by omega))
  have E2 := Lib.hid (blk_oth (i := 2) (c := .int .i64 g.last) (B' := w.heap.size) (blk_oth (i := 1) (c := .slice p2 ne c2) (B' := w.heap.size) (blk_oth (i := 0) (c := .slice p1 nv c1) (B' := w.heap.size) Z2 (by omega)) (by omega)) (by omega))
  have E3 := Lib.hid (blk_oth (i := 2) (c := .int .i64 g.last) (B' := w.heap.size) (blk_oth (i := 1) (c := .slice p2 ne c2) (B' := w.heap.size) (blk_oth (i := 0) (c := .slice p1 nv c1) (B' := w.heap.size) Z3 (by omega)) (by omega)) (by omega))
  have GW := Lib.hid (hgw.put3 (a := .slice p1 nv c1) (b := .slice p2 ne c2) (c := .int .i64 g.last) (show w.heap.size < w.heap.size + 4 + 3 by omega))
  have B2 := Lib.hid (bel_s3 (bel_then (bel_al (bel_al (bel_al (bel1 w (.cells #[.slice pv nv cv, .slice pe ne ce, .int .i64 g.last] 27)) (.cells #[.int .i64 k, .int .i64 id, .string s, .slice q m d] 30)) (.cells #[.int .i64 x.k, .int .i64 x.n, .string x.s, .slice r3 n3 c3] 30)) (.cells #[.slice none 0 0, .slice none 0 0, .int .i64 0] 27)) hb1) (Nat.le_refl _) (.slice p1 nv c1) (.slice p2 ne c2) (.int .i64 g.last))
  clear hin hb1 hgw hz c56 Z0 Z1 Z2 Z3
  go_wp2_with (fail)
  clear x0 x1 x2 fx
  generalize (((w1.setCell ⟨w.heap.size, 0, none⟩ (.slice p1 nv c1)).setCell ⟨w.heap.size, 1, none⟩ (.slice p2 ne c2)).setCell ⟨w.heap.size, 2, none⟩ (.int .i64 g.last)) = W2 at *
  refine (c57 _ _ W2 (GW.out.is h64.out hbv.out hbe.out)).mono ?_
  rintro e w3 ⟨rfl, hb3⟩
  replace E0 := Lib.hid (blk_on hb3 E0.out)
  replace E1 := Lib.hid (blk_on hb3 E1.out)
  replace E2 := Lib.hid (blk_on hb3 E2.out)
  replace E3 := Lib.hid (blk_on hb3 E3.out)
  replace GW := Lib.hid (GW.out.on hb3)
  replace B2 := Lib.hid (bel_then B2.out hb3)
  clear hb3 c57
  have FIN : Hid (∀ (wz : World), Below w3.heap.size w3 wz → ∀ (n : Int), RD2 w (.returned (.tuple #[.agg #[.slice p1 nv c1, .slice p2 ne c2, .int .i64 g.last], .int .i64 n])) (((wz.setCell ⟨w.heap.size + 1 + 1 + 1, 0, none⟩ (.slice p1 nv c1)).setCell ⟨w.heap.size + 1 + 1 + 1, 1, none⟩ (.slice p2 ne c2)).setCell ⟨w.heap.size + 1 + 1 + 1, 2, none⟩ (.int .i64 g.last))) :=
    fun wz hz n => ⟨g, _, _, n, rfl, (((GW.out.on hz).put3 (by omega)).isl h64.out hbv.out hbe.out).low (by omega), bel_s3 (bel_then B2.out hz) (by omega) _ _ _⟩
  have c60 := rlabel60 g _ _ k id s q m d w3 (GW.out.is h64.out hbv.out hbe.out)
  have c62 := fun W (hB : Below w3.heap.size w3 W) => rprops62 g _ _ k id s q m d W ((GW.out.on hB).is h64.out hbv.out hbe.out)
  have c63 := Lib.hid (fun ps0 ps pp nn cc W (hB : Below w3.heap.size w3 W) hel hps => with63 g _ _ k id s q m d ps ps0 pp nn cc W ((GW.out.on hB).is h64.out hbv.out hbe.out) HM.out hel hps)
  have c61 := fun W (hB : Below w3.heap.size w3 W) => refCheck14 x _ W (HX.out.on (bel_then B2.out hB))
  have c58 := name39 na
  rw [show nm na.data.toList = nmB na from rfl] at c58
  obtain ⟨x0, x1, x2, fx⟩ := three_of E0.out
  obtain ⟨e0, e1, e2, e3⟩ := four_cells E1.out
  obtain ⟨v0, v1, v2, v3⟩ := four_cells E2.out
  obtain ⟨y0, y1, y2, fy⟩ := three_of E3.out
  unfold Gg.agg at c60 c62 c63
  unfold V.agg at c61
  go_wp2_with (fail)
  obtain ⟨LB, hLB⟩ : ∃ x, elLb g k id = x := ⟨_, rfl⟩
  have HLB := Lib.hid hLB
  refine c60.mono ?_
  rintro e w4 ⟨rfl, hb4⟩
  rw [hLB]
  clear hLB c60 x0 x1 x2 fx e0 e1 e2 e3 y0 y1 y2 fy v0 v1 v2 v3
  obtain ⟨x0, x1, x2, fx⟩ := three_of (blk_on hb4 E0.out)
  obtain ⟨e0, e1, e2, e3⟩ := four_cells (blk_on hb4 E1.out)
  obtain ⟨v0, v1, v2, v3⟩ := four_cells (blk_on hb4 E2.out)
  obtain ⟨y0, y1, y2, fy⟩ := three_of (blk_on hb4 E3.out)
  have B4 := Lib.hid hb4
  clear hb4
  generalize LB.getD ⟨#[]⟩ = LBs at *
  cases hs : LB.isSome with
  | false =>
    clear c62 c63 c61 c58
    go_wp2
    simp [bodyPost, results, Try.results26, go_sem, y0, y1, y2]
    exact FIN.out _ B4.out _
  | true =>
    obtain ⟨ps0, hps0⟩ := elLb_ps (g := g) (k := k) (id := id) (by rw [HLB.out]; exact hs)
    have HP0 := Lib.hid hps0
    clear hs HLB hps0 LB
    cases hna : nmB na with
    | false =>
      rw [hna] at c58
      go_wp2_with (go_at_call 58; refine (c58 _).mono ?_; rintro e wq ⟨rfl, ew⟩; rw [ew]; clear ew wq c58)
      simp [bodyPost, results, Try.results26, go_sem, y0, y1, y2]
      exact FIN.out _ B4.out _
    | true =>
      rw [hna] at c58
      have S64na := Lib.hid (nm_size hna)
      clear hna
      obtain ⟨xe, hxe⟩ : ∃ e, x.err = e := ⟨_, rfl⟩
      rw [hxe] at c61
      clear hxe
      go_wp2_with (go_at_call 58; refine (c58 _).mono ?_; rintro e wq ⟨rfl, ew⟩; rw [ew]; clear ew wq c58)
      refine (c61 _ B4.out).mono ?_
      rintro e w6 ⟨rfl, hb6⟩
      have B6 := Lib.hid (bel_then B4.out hb6)
      clear c61 hb6 B4 x0 x1 x2 fx e0 e1 e2 e3 y0 y1 y2 fy v0 v1 v2 v3
      obtain ⟨x0, x1, x2, fx⟩ := three_of (blk_on B6.out E0.out)
      obtain ⟨e0, e1, e2, e3⟩ := four_cells (blk_on B6.out E1.out)
      obtain ⟨y0, y1, y2, fy⟩ := three_of (blk_on B6.out E3.out)
      by_cases hxe : xe = 0
      rotate_left
      · have hxe' : (xe != 0) = true := by simpa using hxe
        go_wp2
        simp [bodyPost, results, Try.results26, go_sem, y0, y1, y2]
        exact FIN.out _ B6.out _
      have hxe' : (xe != 0) = false := by simpa using hxe
      clear hxe
      go_wp2_with (fail)
      refine (c62 _ B6.out).mono ?_
      rintro e w5 ⟨hdr, ps, rfl, hS, -, hb5⟩
      have B5 := Lib.hid (bel_then B6.out hb5)
      have HX5 := Lib.hid (HX.out.on (bel_then B2.out B5.out))
      clear c62 hb5 B6 x0 x1 x2 fx e0 e1 e2 e3 y0 y1 y2 fy
      obtain ⟨pp, cp, rfl, hpc, hpm, hp72, hpx⟩ := hS
      have HPX := Lib.hid hpx
      clear hpx
      obtain ⟨N, hN⟩ : ∃ n, ps.length = n := ⟨_, rfl⟩
      have HN := Lib.hid hN
      rw [hN] at hpc hp72 ⊢
      clear hN
      have hN72 : N * 72 ≤ 140737488351232 := hp72
      have hN6 : N ≤ 1954687338211 := by omega
      have HXP := Lib.hid (show RP.In w5 0 ⟨na, x⟩ (.slice r3 n3 c3) from ⟨S64na.out, HX5.out⟩)
      unfold maxLen at hpm
      clear hp72
      go_wp2
      go_loopg [15, 16, 17] N (fun c s15 s16 s17 wr => ∃ (i : Nat) (acc : List Pr) (dn : Bool), i + c = N ∧ s17 = .int .i64 i ∧ s16 = .bool dn ∧ acc.length ≤ i + (if dn = true then 1 else 0) ∧ Hid (GrR RP 84 wr 0 w5.heap.size acc s15) ∧ Hid (Below w5.heap.size w5 wr))
      case atStart => exact ⟨0, [], false, by omega, rfl, rfl, Nat.zero_le _, grR_nil _ _ _ _ _, Below.refl _ _⟩
      case round =>
        obtain ⟨i, acc, dn, hic, rfl, rfl, hacc, HG, HB⟩ := hrel
        obtain ⟨pr, cr, rfl, hrc, hrm, -⟩ := HG.out.form
        have hacc1 : acc.length ≤ N + 1 := by split at hacc <;> omega
        cases gk with
        | succ c =>
          have hi : i < ps.length := by have := HN.out; omega
          have hiN : (i : Int) < (N : Int) := by omega
          have hi0 : (0 : Int) ≤ (i : Int) := by omega
          obtain ⟨b, o', rfl, -, hx1⟩ := HPX.out.resolve_left (by intro e; rw [e] at hi; simp at hi)
          obtain ⟨sl, hat, hin⟩ := hx1.at i hi
          have HAT := Lib.hid (fun (W : World) (hW : Below w5.heap.size w5 W) => ats5 (hat.keep (keep_below hW) (Nat.zero_le _)))
          obtain ⟨x0, x1, x2, x3, x4⟩ := HAT.out _ HB.out
          obtain ⟨v0, v1, v2, v3⟩ := four_cells (blk_on (bel_then B5.out HB.out) E2.out)
          simp only [show RP.n = 5 from rfl] at x0 x1 x2 x3 x4 HAT
          have HIN := Lib.hid hin
          clear hat hin hx1 HPX
          generalize ps[i] = pv' at *
          obtain ⟨pn, ⟨vk, vn, vs, vl⟩⟩ := pv'
          simp only [V.k, V.n, V.s] at x0 x1 x2 x3 x4 HAT
          obtain ⟨t1, t2, t3, rfl⟩ := (HIN.out.2).header
          obtain ⟨lt, hlt⟩ : ∃ t, Op.bytesLess pn.toList na.toList = t := ⟨_, rfl⟩
          cases dn with
          | true =>
            by_cases he : pn = na
            · have he1 : (pn.toList == na.toList) = true := by rw [nmEq]; exact decide_eq_true he
              clear he
              go_wp2
              go_roundg c
              case measure => omega
              case rel => exact ⟨i + 1, acc, true, by omega, by first | rfl | simp, rfl, by simp at hacc ⊢; omega, by first | exact HG | (simp only [List.length_append, List.length_singleton] at HG; exact HG), HB⟩
            · have he1 : (pn.toList == na.toList) = false := by rw [nmEq]; exact decide_eq_false he
              clear he
              have hu5 := Lib.hid (fun (a : Addr) c (h : w5.cell? a = some c) => (show wr.cell? a = some c ∧ some a.block ≠ (Value.slice pr acc.length cr).ownBlock from ⟨some_on HB.out h, fun e => by have := (HG.out.lt e.symm).1; have := cell_lt h; omega⟩))
              obtain ⟨i0, hi', hz0, hz1, hz2⟩ := info_parts info99
              go_wp2_with (at_builtin; refine wpList_gro len_RP (by decide) 38 84 i0 zPr Try.underlying38 hi' hz0 hz1 hz2 rfl _ rfl _ _ rfl 0 w5.heap.size _ (acc) _ ⟨pn, ⟨vk, vn, vs, vl⟩⟩ (.slice t1 t2 t3) w5 rfl (by exact HG.out.alloc _) rfl HIN.out (fun a c hc => ⟨some_on (bel1 wr _) (hu5.out a c hc).1, (hu5.out a c hc).2⟩) (by exact new_ats' _ [.string pn, .int .i64 vk, .int .i64 vn, .string vs, .slice t1 t2 t3] 84 (by simp)) (by intro c hc; simp only [RP, List.mem_cons, List.not_mem_nil, or_false, V.k, V.n, V.s] at hc; rcases hc with rfl | rfl | rfl | rfl | rfl <;> rfl) (by (try simp only [List.length_append, List.length_singleton]); unfold maxLen; omega) (by (try simp only [List.length_append, List.length_singleton]); show (_ + 1) * 72 ≤ _; omega) (by have := HB.out.size; simp; omega) ?_; intro gw8 capw8 w8 hG5 hgr5 hg5; have HG8 := Lib.hid hG5; have HB8 := Lib.hid ((bel_al HB.out _).trans (gro_below (B := w5.heap.size) (HG.out.alloc _) hgr5 (Nat.le_refl _) (by have := HB.out.size; simp; omega))); clear hgr5 hG5 hg5)
              go_roundg c
              case measure => omega
              case rel => exact ⟨i + 1, acc ++ [⟨pn, ⟨vk, vn, vs, vl⟩⟩], true, by omega, by first | rfl | simp, rfl, by simp at hacc ⊢; omega, by first | exact HG8 | (simp only [List.length_append, List.length_singleton] at HG8; exact HG8), HB8⟩
          | false =>
            cases lt with
            | true =>
              by_cases he : pn = na
              · have he1 : (pn.toList == na.toList) = true := by rw [nmEq]; exact decide_eq_true he
                clear he
                go_wp2
                go_roundg c
                case measure => omega
                case rel => exact ⟨i + 1, acc, false, by omega, by first | rfl | simp, rfl, by simp at hacc ⊢; omega, by first | exact HG | (simp only [List.length_append, List.length_singleton] at HG; exact HG), HB⟩
              · have he1 : (pn.toList == na.toList) = false := by rw [nmEq]; exact decide_eq_false he
                clear he
                have hu5 := Lib.hid (fun (a : Addr) c (h : w5.cell? a = some c) => (show wr.cell? a = some c ∧ some a.block ≠ (Value.slice pr acc.length cr).ownBlock from ⟨some_on HB.out h, fun e => by have := (HG.out.lt e.symm).1; have := cell_lt h; omega⟩))
                obtain ⟨i0, hi', hz0, hz1, hz2⟩ := info_parts info99
                go_wp2_with (at_builtin; refine wpList_gro len_RP (by decide) 38 84 i0 zPr Try.underlying38 hi' hz0 hz1 hz2 rfl _ rfl _ _ rfl 0 w5.heap.size _ (acc) _ ⟨pn, ⟨vk, vn, vs, vl⟩⟩ (.slice t1 t2 t3) w5 rfl (by exact HG.out.alloc _) rfl HIN.out (fun a c hc => ⟨some_on (bel1 wr _) (hu5.out a c hc).1, (hu5.out a c hc).2⟩) (by exact new_ats' _ [.string pn, .int .i64 vk, .int .i64 vn, .string vs, .slice t1 t2 t3] 84 (by simp)) (by intro c hc; simp only [RP, List.mem_cons, List.not_mem_nil, or_false, V.k, V.n, V.s] at hc; rcases hc with rfl | rfl | rfl | rfl | rfl <;> rfl) (by (try simp only [List.length_append, List.length_singleton]); unfold maxLen; omega) (by (try simp only [List.length_append, List.length_singleton]); show (_ + 1) * 72 ≤ _; omega) (by have := HB.out.size; simp; omega) ?_; intro gw8 capw8 w8 hG5 hgr5 hg5; have HG8 := Lib.hid hG5; have HB8 := Lib.hid ((bel_al HB.out _).trans (gro_below (B := w5.heap.size) (HG.out.alloc _) hgr5 (Nat.le_refl _) (by have := HB.out.size; simp; omega))); clear hgr5 hG5 hg5)
                go_roundg c
                case measure => omega
                case rel => exact ⟨i + 1, acc ++ [⟨pn, ⟨vk, vn, vs, vl⟩⟩], false, by omega, by first | rfl | simp, rfl, by simp at hacc ⊢; omega, by first | exact HG8 | (simp only [List.length_append, List.length_singleton] at HG8; exact HG8), HB8⟩
            | false =>
              by_cases he : pn = na
              · have he1 : (pn.toList == na.toList) = true := by rw [nmEq]; exact decide_eq_true he
                clear he
                have hu5 := Lib.hid (fun (a : Addr) c (h : w5.cell? a = some c) => (show wr.cell? a = some c ∧ some a.block ≠ (Value.slice pr acc.length cr).ownBlock from ⟨some_on HB.out h, fun e => by have := (HG.out.lt e.symm).1; have := cell_lt h; omega⟩))
                obtain ⟨i0, hi', hz0, hz1, hz2⟩ := info_parts info99
                go_wp2_with (at_builtin; refine wpList_gro len_RP (by decide) 38 84 i0 zPr Try.underlying38 hi' hz0 hz1 hz2 rfl _ rfl _ _ rfl 0 w5.heap.size _ (acc) _ ⟨na, x⟩ (.slice r3 n3 c3) w5 rfl (by exact HG.out.alloc _) rfl HXP.out (fun a c hc => ⟨some_on (bel1 wr _) (hu5.out a c hc).1, (hu5.out a c hc).2⟩) (by exact new_ats' _ [.string na, .int .i64 x.k, .int .i64 x.n, .string x.s, .slice r3 n3 c3] 84 (by simp)) (by intro c hc; simp only [RP, List.mem_cons, List.not_mem_nil, or_false, V.k, V.n, V.s] at hc; rcases hc with rfl | rfl | rfl | rfl | rfl <;> rfl) (by (try simp only [List.length_append, List.length_singleton]); unfold maxLen; omega) (by (try simp only [List.length_append, List.length_singleton]); show (_ + 1) * 72 ≤ _; omega) (by have := HB.out.size; simp; omega) ?_; intro gw7 capw7 w7 hG5 hgr5 hg5; have HG7 := Lib.hid hG5; have HB7 := Lib.hid ((bel_al HB.out _).trans (gro_below (B := w5.heap.size) (HG.out.alloc _) hgr5 (Nat.le_refl _) (by have := HB.out.size; simp; omega))); clear hgr5 hG5 hg5; obtain ⟨x0, x1, x2, x3, x4⟩ := HAT.out _ HB7.out)
                go_roundg c
                case measure => omega
                case rel => exact ⟨i + 1, acc ++ [⟨na, x⟩], true, by omega, by first | rfl | simp, rfl, by simp at hacc ⊢; omega, by first | exact HG7 | (simp only [List.length_append, List.length_singleton] at HG7; exact HG7), HB7⟩
              · have he1 : (pn.toList == na.toList) = false := by rw [nmEq]; exact decide_eq_false he
                clear he
                have hu5 := Lib.hid (fun (a : Addr) c (h : w5.cell? a = some c) => (show wr.cell? a = some c ∧ some a.block ≠ (Value.slice pr acc.length cr).ownBlock from ⟨some_on HB.out h, fun e => by have := (HG.out.lt e.symm).1; have := cell_lt h; omega⟩))
                obtain ⟨i0, hi', hz0, hz1, hz2⟩ := info_parts info99
                have tk : True := trivial
                go_wp2_with (first
                  | (at_builtin; clear tk; refine wpList_gro len_RP (by decide) 38 84 i0 zPr Try.underlying38 hi' hz0 hz1 hz2 rfl _ rfl _ _ rfl 0 w5.heap.size _ (acc) _ ⟨na, x⟩ (.slice r3 n3 c3) w5 rfl (by exact HG.out.alloc _) rfl HXP.out (fun a c hc => ⟨some_on (bel1 wr _) (hu5.out a c hc).1, (hu5.out a c hc).2⟩) (by exact new_ats' _ [.string na, .int .i64 x.k, .int .i64 x.n, .string x.s, .slice r3 n3 c3] 84 (by simp)) (by intro c hc; simp only [RP, List.mem_cons, List.not_mem_nil, or_false, V.k, V.n, V.s] at hc; rcases hc with rfl | rfl | rfl | rfl | rfl <;> rfl) (by (try simp only [List.length_append, List.length_singleton]); unfold maxLen; omega) (by (try simp only [List.length_append, List.length_singleton]); show (_ + 1) * 72 ≤ _; omega) (by have := HB.out.size; simp; omega) ?_; intro gw7 capw7 w7 hG5 hgr5 hg5; have HG7 := Lib.hid hG5; have HB7 := Lib.hid ((bel_al HB.out _).trans (gro_below (B := w5.heap.size) (HG.out.alloc _) hgr5 (Nat.le_refl _) (by have := HB.out.size; simp; omega))); clear hgr5 hG5 hg5; obtain ⟨x0, x1, x2, x3, x4⟩ := HAT.out _ HB7.out; have hu7 := Lib.hid (fun (a : Addr) c (h : w5.cell? a = some c) => (show w7.cell? a = some c ∧ some a.block ≠ (Value.slice (some ⟨gw7, 0, none⟩) (acc.length + 1) capw7).ownBlock from ⟨some_on HB7.out h, fun e => by have := (HG7.out.lt e.symm).1; have := cell_lt h; omega⟩)))
                  | (at_builtin; refine wpList_gro len_RP (by decide) 38 84 i0 zPr Try.underlying38 hi' hz0 hz1 hz2 rfl _ rfl _ _ rfl 0 w5.heap.size _ (acc ++ [⟨na, x⟩]) _ ⟨pn, ⟨vk, vn, vs, vl⟩⟩ (.slice t1 t2 t3) w5 rfl (by exact HG7.out.alloc _) rfl HIN.out (fun a c hc => ⟨some_on (bel1 w7 _) (hu7.out a c hc).1, (hu7.out a c hc).2⟩) (by exact new_ats' _ [.string pn, .int .i64 vk, .int .i64 vn, .string vs, .slice t1 t2 t3] 84 (by simp)) (by intro c hc; simp only [RP, List.mem_cons, List.not_mem_nil, or_false, V.k, V.n, V.s] at hc; rcases hc with rfl | rfl | rfl | rfl | rfl <;> rfl) (by (try simp only [List.length_append, List.length_singleton]); unfold maxLen; omega) (by (try simp only [List.length_append, List.length_singleton]); show (_ + 1) * 72 ≤ _; omega) (by have := HB7.out.size; simp; omega) ?_; intro gw8 capw8 w8 hG5 hgr5 hg5; have HG8 := Lib.hid hG5; have HB8 := Lib.hid ((bel_al HB7.out _).trans (gro_below (B := w5.heap.size) (HG7.out.alloc _) hgr5 (Nat.le_refl _) (by have := HB7.out.size; simp; omega))); clear hgr5 hG5 hg5))
                go_roundg c
                case measure => omega
                case rel => exact ⟨i + 1, acc ++ [⟨na, x⟩] ++ [⟨pn, ⟨vk, vn, vs, vl⟩⟩], true, by omega, by first | rfl | simp, rfl, by simp at hacc ⊢; omega, by first | exact HG8 | (simp only [List.length_append, List.length_singleton] at HG8; exact HG8), HB8⟩
        | zero =>
          clear HPX
          have hiN : i = N := by omega
          subst hiN
          have hacc2 : acc.length ≤ 1954687338212 := by omega
          cases dn with
          | true =>
            have BR := Lib.hid (bel_then B5.out HB.out)
            obtain ⟨x0, x1, x2, fx⟩ := three_of (blk_on BR.out E0.out)
            obtain ⟨e0, e1, e2, e3⟩ := four_cells (blk_on BR.out E1.out)
            obtain ⟨y0, y1, y2, fy⟩ := three_of (blk_on BR.out E3.out)
            by_cases h16 : 16 < acc.length
            · have h16' : decide ((16 : Int) < (acc.length : Int)) = true := decide_eq_true (by omega)
              clear h16
              go_wp2
              simp [bodyPost, results, Try.results26, go_sem, y0, y1, y2]
              exact FIN.out _ BR.out _
            · have hle : acc.length ≤ 16 := by omega
              have h16' : decide ((16 : Int) < (acc.length : Int)) = false := decide_eq_false (by omega)
              clear h16
              have hS := HG.out.sq (Nat.zero_le _) (by (try simp only [List.length_append, List.length_singleton]); show _ * 72 ≤ _; omega)
              have c63 := c63.out ps0 (acc) pr acc.length cr wr BR.out HP0.out hS
              obtain ⟨R, hR⟩ : ∃ r, (gUp g k id fun _ => acc) = r := ⟨_, rfl⟩
              rw [hR] at c63
              clear hS hR
              go_wp2_with (fail)
              refine c63.mono ?_
              rintro e w9 hw
              obtain ⟨r1, d1, r2, d2, rfl, hIn, hb7⟩ := hw.any
              have B7 := Lib.hid (bel_then BR.out hb7)
              have HIn := Lib.hid hIn
              clear hw hIn hb7 x0 x1 x2 fx e0 e1 e2 e3 y0 y1 y2 fy
              obtain ⟨y0, y1, y2, fy⟩ := three_of (blk_on B7.out E3.out)
              unfold Gg.agg
              have hfin : Hid (RD2 w (.returned (.tuple #[.agg #[.slice r1 R.vs.length d1, .slice r2 R.es.length d2, .int .i64 R.last], .int .i64 0])) (((w9.setCell ⟨w.heap.size + 1 + 1 + 1, 0, none⟩ (.slice r1 R.vs.length d1)).setCell ⟨w.heap.size + 1 + 1 + 1, 1, none⟩ (.slice r2 R.es.length d2)).setCell ⟨w.heap.size + 1 + 1 + 1, 2, none⟩ (.int .i64 R.last))) := by
                refine ⟨R, _, _, 0, rfl, ?_, bel_s3 (bel_then B2.out B7.out) (by omega) _ _ _⟩
                have hlo : w.heap.size + 1 + 1 + 1 < wr.heap.size := by have := (Array.getElem?_eq_some_iff.1 E3.out).1; have := BR.out.size; omega
                exact HIn.out.keep (((keepB_set hlo).trans (keepB_set hlo)).trans (keepB_set hlo)).keep (by omega)
              go_wp2
              simp [bodyPost, results, Try.results26, go_sem, y0, y1, y2]
              exact hfin.out
          | false =>
            have hu5 := Lib.hid (fun (a : Addr) c (h : w5.cell? a = some c) => (show wr.cell? a = some c ∧ some a.block ≠ (Value.slice pr acc.length cr).ownBlock from ⟨some_on HB.out h, fun e => by have := (HG.out.lt e.symm).1; have := cell_lt h; omega⟩))
            obtain ⟨i0, hi', hz0, hz1, hz2⟩ := info_parts info99
            obtain ⟨v0, v1, v2, v3⟩ := four_cells (blk_on (bel_then B5.out HB.out) E2.out)
            by_cases h16 : 16 < acc.length + 1
            · have h16' : decide ((16 : Int) < (acc.length : Int) + 1) = true := decide_eq_true (by omega)
              clear h16
              go_wp2_with (at_builtin; refine wpList_gro len_RP (by decide) 38 84 i0 zPr Try.underlying38 hi' hz0 hz1 hz2 rfl _ rfl _ _ rfl 0 w5.heap.size _ (acc) _ ⟨na, x⟩ (.slice r3 n3 c3) w5 rfl (by exact HG.out.alloc _) rfl HXP.out (fun a c hc => ⟨some_on (bel1 wr _) (hu5.out a c hc).1, (hu5.out a c hc).2⟩) (by exact new_ats' _ [.string na, .int .i64 x.k, .int .i64 x.n, .string x.s, .slice r3 n3 c3] 84 (by simp)) (by intro c hc; simp only [RP, List.mem_cons, List.not_mem_nil, or_false, V.k, V.n, V.s] at hc; rcases hc with rfl | rfl | rfl | rfl | rfl <;> rfl) (by (try simp only [List.length_append, List.length_singleton]); unfold maxLen; omega) (by (try simp only [List.length_append, List.length_singleton]); show (_ + 1) * 72 ≤ _; omega) (by have := HB.out.size; simp; omega) ?_; intro gw7 capw7 w7 hG5 hgr5 hg5; have HG7 := Lib.hid hG5; have HB7 := Lib.hid ((bel_al HB.out _).trans (gro_below (B := w5.heap.size) (HG.out.alloc _) hgr5 (Nat.le_refl _) (by have := HB.out.size; simp; omega))); clear hgr5 hG5 hg5; have BR := Lib.hid (bel_then B5.out HB7.out); obtain ⟨x0, x1, x2, fx⟩ := three_of (blk_on BR.out E0.out); obtain ⟨e0, e1, e2, e3⟩ := four_cells (blk_on BR.out E1.out); obtain ⟨y0, y1, y2, fy⟩ := three_of (blk_on BR.out E3.out))
              simp [bodyPost, results, Try.results26, go_sem, y0, y1, y2]
              exact FIN.out _ BR.out _
            · have hle : acc.length ≤ 15 := by omega
              have h16' : decide ((16 : Int) < (acc.length : Int) + 1) = false := decide_eq_false (by omega)
              clear h16
              have tk : True := trivial
              go_wp2_with (at_builtin; refine wpList_gro len_RP (by decide) 38 84 i0 zPr Try.underlying38 hi' hz0 hz1 hz2 rfl _ rfl _ _ rfl 0 w5.heap.size _ (acc) _ ⟨na, x⟩ (.slice r3 n3 c3) w5 rfl (by exact HG.out.alloc _) rfl HXP.out (fun a c hc => ⟨some_on (bel1 wr _) (hu5.out a c hc).1, (hu5.out a c hc).2⟩) (by exact new_ats' _ [.string na, .int .i64 x.k, .int .i64 x.n, .string x.s, .slice r3 n3 c3] 84 (by simp)) (by intro c hc; simp only [RP, List.mem_cons, List.not_mem_nil, or_false, V.k, V.n, V.s] at hc; rcases hc with rfl | rfl | rfl | rfl | rfl <;> rfl) (by (try simp only [List.length_append, List.length_singleton]); unfold maxLen; omega) (by (try simp only [List.length_append, List.length_singleton]); show (_ + 1) * 72 ≤ _; omega) (by have := HB.out.size; simp; omega) ?_; intro gw7 capw7 w7 hG5 hgr5 hg5; have HG7 := Lib.hid hG5; have HB7 := Lib.hid ((bel_al HB.out _).trans (gro_below (B := w5.heap.size) (HG.out.alloc _) hgr5 (Nat.le_refl _) (by have := HB.out.size; simp; omega))); clear hgr5 hG5 hg5; have BR := Lib.hid (bel_then B5.out HB7.out); obtain ⟨x0, x1, x2, fx⟩ := three_of (blk_on BR.out E0.out); obtain ⟨e0, e1, e2, e3⟩ := four_cells (blk_on BR.out E1.out); obtain ⟨y0, y1, y2, fy⟩ := three_of (blk_on BR.out E3.out))
              have hS := HG7.out.sq (Nat.zero_le _) (by (try simp only [List.length_append, List.length_singleton]); show _ * 72 ≤ _; omega)
              have c63 := c63.out ps0 (acc ++ [⟨na, x⟩]) (some ⟨gw7, 0, none⟩) (acc.length + 1) capw7 w7 BR.out HP0.out hS
              obtain ⟨R, hR⟩ : ∃ r, (gUp g k id fun _ => acc ++ [⟨na, x⟩]) = r := ⟨_, rfl⟩
              rw [hR] at c63
              clear hS hR
              refine c63.mono ?_
              rintro e w9 hw
              obtain ⟨r1, d1, r2, d2, rfl, hIn, hb7⟩ := hw.any
              have B7 := Lib.hid (bel_then BR.out hb7)
              have HIn := Lib.hid hIn
              clear hw hIn hb7 x0 x1 x2 fx e0 e1 e2 e3 y0 y1 y2 fy
              obtain ⟨y0, y1, y2, fy⟩ := three_of (blk_on B7.out E3.out)
              unfold Gg.agg
              have hfin : Hid (RD2 w (.returned (.tuple #[.agg #[.slice r1 R.vs.length d1, .slice r2 R.es.length d2, .int .i64 R.last], .int .i64 0])) (((w9.setCell ⟨w.heap.size + 1 + 1 + 1, 0, none⟩ (.slice r1 R.vs.length d1)).setCell ⟨w.heap.size + 1 + 1 + 1, 1, none⟩ (.slice r2 R.es.length d2)).setCell ⟨w.heap.size + 1 + 1 + 1, 2, none⟩ (.int .i64 R.last))) := by
                refine ⟨R, _, _, 0, rfl, ?_, bel_s3 (bel_then B2.out B7.out) (by omega) _ _ _⟩
                have hlo : w.heap.size + 1 + 1 + 1 < w7.heap.size := by have := (Array.getElem?_eq_some_iff.1 E3.out).1; have := BR.out.size; omega
                exact HIn.out.keep (((keepB_set hlo).trans (keepB_set hlo)).trans (keepB_set hlo)).keep (by omega)
              go_wp2
              simp [bodyPost, results, Try.results26, go_sem, y0, y1, y2]
              exact hfin.out
end Go.Proofs.Yteknbploiombiaa
namespace Go.Proofs.Yteknbploiombiaa
open Go.RowKit
set_option linter.unusedVariables false      -- a walk need not use every condition

section
variable {α : Type}
/-- Elements whose memory lies in a given world. -/
def Fx (R : El α) (u : World) (f : Nat) : El α := { n := R.n, bytes := R.bytes, cs := R.cs, In := fun _ _ x sl => R.In u f x sl, keep := fun _ _ _ _ h => h }
theorem Fx.lq {R : El α} {u w : World} {f : Nat} (hk : Keep f u w) {lo : Nat} : ∀ {l : List α} {b o : Nat}, Lq (Fx R u f) w lo l b o → Lq R w f l b o
  | [], _, _, _ => trivial
  | x :: l, b, o, ⟨sl, ha, hi, hr⟩ => ⟨sl, ha, R.keep hk (Nat.le_refl _) x sl hi, Fx.lq hk (l := l) hr⟩
theorem Fx.sq {R : El α} {u w : World} {f : Nat} (hk : Keep f u w) {lo : Nat} {l : List α} {v : Value} (h : Sq (Fx R u f) w lo l v) (hf : f ≤ lo) : Sq R w f l v := by
  obtain ⟨p, cap, hv, hc, hm, hb, hx⟩ := h
  refine ⟨p, cap, hv, hc, hm, hb, hx.imp id ?_⟩
  rintro ⟨b, o, hp, hlo, hl⟩
  exact ⟨b, o, hp, Nat.le_trans hf hlo, Fx.lq hk hl⟩
theorem rdo_rnd2 {R : El α} {t : TypeId} {w4 wv wr wq w5 : World} {lo : Nat} {acc : List α} {v : Value} (HK : KeepB (w4.heap.size + 1) wv wr ∧ wv.heap.size ≤ wr.heap.size) (Q : Below wr.heap.size wr wq) (HG : GrR R t wq lo wv.heap.size acc v) (hgr : wq.grownBy w5 v.ownBlock) : KeepB (w4.heap.size + 1) wv w5 ∧ wv.heap.size ≤ w5.heap.size := by
  have hs := Q.size
  have h1 : Below wv.heap.size wq w5 := gro_below HG hgr (Nat.le_refl _) (by have := HK.2; omega)
  exact ⟨fun g o hg e => (h1.block g (Array.getElem?_eq_some_iff.1 e).1).trans (blk_on Q (HK.1 g o hg e)), by have := h1.size; have := HK.2; omega⟩
theorem rdo_rnd {R : El α} {t : TypeId} {w4 wr wq w5 : World} {lo base : Nat} {o : Obj} {acc : List α} {v : Value} (HB : Below w4.heap.size w4 wr ∧ w4.heap.size + 1 ≤ wr.heap.size) (HD : wr.heap[w4.heap.size]? = some o) (Q : Below wr.heap.size wr wq) (HG : GrR R t wq lo base acc v) (hbase : w4.heap.size + 1 ≤ base) (hgr : wq.grownBy w5 v.ownBlock) :
    (Below w4.heap.size w4 w5 ∧ w4.heap.size + 1 ≤ w5.heap.size) ∧ w5.heap[w4.heap.size]? = some o := by
  have hs := Q.size
  have h1 : Below (w4.heap.size + 1) wq w5 := gro_below HG hgr hbase (by have := HB.2; omega)
  refine ⟨⟨(HB.1.trans (Q.mono HB.1.size)).trans (h1.mono (Nat.le_succ _)), by have := h1.size; have := HB.2; omega⟩, ?_⟩
  exact (h1.block _ (Nat.lt_succ_self _)).trans (blk_on Q HD)
end
set_option maxRecDepth 100000 in
set_option maxHeartbeats 16000000 in
theorem rdrop28 (g : Gg) (sv se : Value) (k id : Int) (s : ByteArray) (q : Option Addr) (m d : Nat) (w : World) (hg : Gg.In w 0 g sv se) (hm : gMay g = true) :
    Calls Try.prog 28 #[g.agg sv se, .agg #[.int .i64 k, .int .i64 id, .string s, .slice q m d]] w fun e w' => RD2 w e w' := by
  obtain ⟨pv, cv, rfl⟩ := hg.2.1.header
  obtain ⟨pe, ce, rfl⟩ := hg.2.2.header
  have hmm := Lib.hid (gMay_last hm)
  have h64 := Lib.hid hg.1
  obtain ⟨nv, hnv⟩ : ∃ n, g.vs.length = n := ⟨_, rfl⟩
  obtain ⟨ne, hne⟩ : ∃ n, g.es.length = n := ⟨_, rfl⟩
  have hbv := Lib.hid (show g.vs.length * 48 ≤ 140737488351232 by have := hmm.out.2.2.1; omega)
  have hbe := Lib.hid (show g.es.length * 64 ≤ 140737488351232 by have := hmm.out.2.2.2.1; omega)
  have c56 := fun W hW => rcg56g g _ _ W (hg.on (w' := W) hW)
  have c57 := fun s1 s2 W hW => check57 g s1 s2 W hW
  rw [err_yes hm] at c57
  have HM := Lib.hid hm
  have HV := Lib.hid hnv
  have HE := Lib.hid hne
  rw [hnv, hne] at c56 ⊢
  clear hg hm hnv hne
  unfold Gg.agg at c56 c57 ⊢
  go_enter Try.func28, Try.ntmps28
  go_wp2_with (fail)
  refine (c56 _ (bel_al (bel_al (bel1 w (.cells #[.slice pv nv cv, .slice pe ne ce, .int .i64 g.last] 27)) (.cells #[.int .i64 k, .int .i64 id, .string s, .slice q m d] 30)) (.cells #[.slice none 0 0, .slice none 0 0, .int .i64 0] 27))).mono ?_
  rintro e w1 ⟨s1, s2, rfl, hin, hb1, hgw⟩
  obtain ⟨p1, c1, rfl⟩ := hin.2.1.header
  obtain ⟨p2, c2, rfl⟩ := hin.2.2.header
  rw [HV.out, HE.out] at hgw ⊢
  have Z0 := blk_on hb1 (blk_on (bel1 _ (.cells #[.slice none 0 0, .slice none 0 0, .int .i64 0] 27)) (blk_on (bel1 _ (.cells #[.int .i64 k, .int .i64 id, .string s, .slice q m d] 30)) (blk_new0 w (.cells #[.slice pv nv cv, .slice pe ne ce, .int .i64 g.last] 27))))
  have Z1 := blk_on hb1 (blk_on (bel1 _ (.cells #[.slice none 0 0, .slice none 0 0, .int .i64 0] 27)) (blk_new0 (w.alloc (.cells #[.slice pv nv cv, .slice pe ne ce, .int .i64 g.last] 27)) (.cells #[.int .i64 k, .int .i64 id, .string s, .slice q m d] 30)))
  have Z2 := blk_on hb1 (blk_new0 ((w.alloc (.cells #[.slice pv nv cv, .slice pe ne ce, .int .i64 g.last] 27)).alloc (.cells #[.int .i64 k, .int .i64 id, .string s, .slice q m d] 30)) (.cells #[.slice none 0 0, .slice none 0 0, .int .i64 0] 27))
  simp only [World.size_alloc] at Z0 Z1 Z2
  have hz : ((((w.alloc (.cells #[.slice pv nv cv, .slice pe ne ce, .int .i64 g.last] 27)).alloc (.cells #[.int .i64 k, .int .i64 id, .string s, .slice q m d] 30)).alloc (.cells #[.slice none 0 0, .slice none 0 0, .int .i64 0] 27))).heap.size = w.heap.size + 3 := by simp
  rw [hz] at hgw
  obtain ⟨x0, x1, x2, fx⟩ := three_of Z0
  have E0 := Lib.hid (blk_put3 (a' := .slice p1 nv c1) (b' := .slice p2 ne c2) (c' := .int .i64 g.last) Z0)
  have E1 := Lib.hid (blk_oth (i := 2) (c := .int .i64 g.last) (B' := w.heap.size) (blk_oth (i := 1) (c := .slice p2 ne c2) (B' := w.heap.size) (blk_oth (i := 0) (c := .slice p1 nv c1) (B' := w.heap.size) Z1 (by omega)) (by omega)) (by omega))
  have E2 := Lib.hid (blk_oth (i := 2) (c := .int .i64 g.last) (B' := w.heap.size) (blk_oth (i := 1) (c := .slice p2 ne c2) (B' := w.heap.size) (blk_oth (i := 0) (c := .slice p1 nv c1) (B' := w.heap.size) Z2 (by omega)) (by omega)) (by omega))
  have GW := Lib.hid (hgw.put3 (a := .slice p1 nv c1) (b := .slice p2 ne c2) (c := .int .i64 g.last) (show w.heap.size < w.heap.size + 3 + 3 by omega))
  have B2 := Lib.hid (bel_s3 (bel_then (bel_al (bel_al (bel1 w (.cells #[.slice pv nv cv, .slice pe ne ce, .int .i64 g.last] 27)) (.cells #[.int .i64 k, .int .i64 id, .string s, .slice q m d] 30)) (.cells #[.slice none 0 0, .slice none 0 0, .int .i64 0] 27)) hb1) (Nat.le_refl _) (.slice p1 nv c1) (.slice p2 ne c2) (.int .i64 g.last))
  clear hin hb1 hgw hz c56 Z0 Z1 Z2
  go_wp2_with (fail)
  clear x0 x1 x2 fx
  generalize (((w1.setCell ⟨w.heap.size, 0, none⟩ (.slice p1 nv c1)).setCell ⟨w.heap.size, 1, none⟩ (.slice p2 ne c2)).setCell ⟨w.heap.size, 2, none⟩ (.int .i64 g.last)) = W2 at *
  refine (c57 _ _ W2 (GW.out.is h64.out hbv.out hbe.out)).mono ?_
  rintro e w3 ⟨rfl, hb3⟩
  replace E0 := Lib.hid (blk_on hb3 E0.out)
  replace E1 := Lib.hid (blk_on hb3 E1.out)
  replace E2 := Lib.hid (blk_on hb3 E2.out)
  replace GW := Lib.hid (GW.out.on hb3)
  replace B2 := Lib.hid (bel_then B2.out hb3)
  clear hb3 c57
  have FIN : Hid (∀ (wz : World), Below w3.heap.size w3 wz → ∀ (n : Int), RD2 w (.returned (.tuple #[.agg #[.slice p1 nv c1, .slice p2 ne c2, .int .i64 g.last], .int .i64 n])) (((wz.setCell ⟨w.heap.size + 1 + 1, 0, none⟩ (.slice p1 nv c1)).setCell ⟨w.heap.size + 1 + 1, 1, none⟩ (.slice p2 ne c2)).setCell ⟨w.heap.size + 1 + 1, 2, none⟩ (.int .i64 g.last))) :=
    fun wz hz n => ⟨g, _, _, n, rfl, (((GW.out.on hz).put3 (by omega)).isl h64.out hbv.out hbe.out).low (by omega), bel_s3 (bel_then B2.out hz) (by omega) _ _ _⟩
  have c60 := rlabel60 g _ _ k id s q m d w3 (GW.out.is h64.out hbv.out hbe.out)
  obtain ⟨x0, x1, x2, fx⟩ := three_of E0.out
  obtain ⟨e0, e1, e2, e3⟩ := four_cells E1.out
  obtain ⟨y0, y1, y2, fy⟩ := three_of E2.out
  unfold Gg.agg at c60
  go_wp2_with (fail)
  obtain ⟨LB, hLB⟩ : ∃ x, elLb g k id = x := ⟨_, rfl⟩
  refine c60.mono ?_
  rintro e w4 ⟨rfl, hb4⟩
  rw [hLB]
  clear hLB c60 x0 x1 x2 fx e0 e1 e2 e3 y0 y1 y2 fy
  obtain ⟨x0, x1, x2, fx⟩ := three_of (blk_on hb4 E0.out)
  obtain ⟨e0, e1, e2, e3⟩ := four_cells (blk_on hb4 E1.out)
  obtain ⟨y0, y1, y2, fy⟩ := three_of (blk_on hb4 E2.out)
  have B4 := Lib.hid hb4
  clear hb4
  generalize LB.getD ⟨#[]⟩ = LBs at *
  cases hs : LB.isSome with
  | false =>
    go_wp2
    simp [bodyPost, results, Try.results28, go_sem, y0, y1, y2]
    exact FIN.out _ B4.out _
  | true =>
    clear hs LB FIN y0 y1 y2 fy e0 e1 e2 e3
    have G4 := Lib.hid ((GW.out.on B4.out).isl h64.out hbv.out hbe.out)
    replace E0 := Lib.hid (blk_on B4.out E0.out)
    replace E1 := Lib.hid (blk_on B4.out E1.out)
    replace E2 := Lib.hid (blk_on B4.out E2.out)
    replace B2 := Lib.hid (bel_then B2.out B4.out)
    have hA := Lib.hid (show w.heap.size + 3 + 3 ≤ w4.heap.size by obtain ⟨wv, h1, _, h3, _⟩ := GW.out.on B4.out; omega)
    clear GW B4
    obtain ⟨-, ⟨pv', cv', ev, hvc, hvm, hvb, hxv⟩, ⟨pe', ce', ee, hec, hem, heb, hxe⟩⟩ := G4.out
    injection ev with e1 e2 e3
    subst e1 e3
    clear e2
    injection ee with e1 e2 e3
    subst e1 e3
    clear e2
    rw [HV.out] at hvc hvb
    rw [HE.out] at hec heb
    have hvb : nv * 48 ≤ 140737488351232 := hvb
    have heb : ne * 64 ≤ 140737488351232 := heb
    unfold maxLen at hvm hem
    have hxv := Lib.hid hxv
    have hxe := Lib.hid hxe
    have ivx := Lib.hid (info_parts info41)
    have ilk := Lib.hid (info_parts info46)
    go_wp2
    clear x0 x1 x2 fx
    go_loopg [10] nv (fun c s10 wr => ∃ (i : Nat) (acc : List Vx) (qv : Option Addr) (mv dv : Nat), i + c = nv ∧ s10 = .int .i64 i ∧ mv = acc.length ∧ acc.length ≤ i ∧ Hid (Below w4.heap.size w4 wr ∧ w4.heap.size + 1 ≤ wr.heap.size) ∧ Hid (wr.heap[w4.heap.size]? = some (.cells #[.slice qv mv dv, .slice none 0 0, .int .i64 g.last] 27)) ∧ Hid (GrR (Fx RV w4 (w.heap.size + 3 + 3)) 40 wr (w4.heap.size + 1) (w4.heap.size + 1) acc (.slice qv mv dv)))
    case atStart => exact ⟨0, [], none, 0, 0, by omega, rfl, rfl, Nat.le_refl _, ⟨bel1 w4 _, by simp⟩, blk_new0 w4 _, grR_nil _ _ _ _ _⟩
    case round =>
      obtain ⟨i, acc, qv, mv, dv, hic, rfl, rfl, hacc, HB, HD, HG⟩ := hrel
      obtain ⟨z0, z1, z2, fz⟩ := three_of HD.out
      obtain ⟨x0, x1, x2, fx⟩ := three_of (blk_on HB.out.1 E0.out)
      obtain ⟨e0, e1, e2, e3⟩ := four_cells (blk_on HB.out.1 E1.out)
      cases gk with
      | succ c =>
        have hi : i < g.vs.length := by have := HV.out; omega
        have hiN : (i : Int) < (nv : Int) := by omega
        have hi0 : (0 : Int) ≤ (i : Int) := by omega
        obtain ⟨b, o, rfl, -, hx1⟩ := hxv.out.resolve_left (by intro e; rw [e] at hi; simp at hi)
        obtain ⟨sl, hat, hv1⟩ := hx1.at i hi
        obtain ⟨f1, f2, f3, rfl⟩ := hdV hv1
        obtain ⟨a0, a1, a2⟩ := ats3 (hat.keep (keep_below HB.out.1) (Nat.zero_le _))
        simp only [show RV.n = 3 from rfl] at a0 a1 a2
        have HIN := Lib.hid hv1
        clear hat hv1 hx1 hxv hxe
        generalize g.vs[i] = x at *
        have S0 : (wr.drew.cell? ⟨w.heap.size, 0, none⟩ = some (.slice (some ⟨b, o, none⟩) nv c1) ∧ wr.drew.cell? ⟨b, o + i * 3, none⟩ = some (.int .i64 x.id)) ∧ wr.drew.cell? ⟨w.heap.size + 1, 0, none⟩ = some (.int .i64 k) ∧ wr.drew.cell? ⟨w.heap.size + 1, 1, none⟩ = some (.int .i64 id) := ⟨⟨x0, a0⟩, e0, e1⟩
        by_cases hgo : k = 6 ∧ x.id = id
        · have g1 : (k != 6) = false := by simpa using hgo.1
          have g2 : (x.id != id) = false := by simpa using hgo.2
          clear hgo
          go_wp2
          go_region_held3 (fun u => (u.cell? ⟨w.heap.size, 0, none⟩ = some (.slice (some ⟨b, o, none⟩) nv c1) ∧ u.cell? ⟨b, o + i * 3, none⟩ = some (.int .i64 x.id)) ∧ u.cell? ⟨w.heap.size + 1, 0, none⟩ = some (.int .i64 k) ∧ u.cell? ⟨w.heap.size + 1, 1, none⟩ = some (.int .i64 id)) (first | with_reducible exact S0) (fail)
          all_goals go_wp2
          all_goals (go_roundg c)
          case measure => omega
          case rel => exact ⟨i + 1, acc, qv, _, dv, by omega, by first | rfl | simp, rfl, by omega, ⟨HB.out.1.drew, HB.out.2⟩, HD.out, HG.out.on ((Below.refl _ wr).drew)⟩
        · have hgo2 : ((k != 6) = true) ∨ ((k != 6) = false ∧ (x.id != id) = true) := by
            by_cases h6 : k = 6
            · exact .inr ⟨by simpa using h6, by have : ¬ x.id = id := fun e => hgo ⟨h6, e⟩; simpa using this⟩
            · exact .inl (by simpa using h6)
          clear hgo
          have HG2 := Lib.hid (HG.out.on (((Below.refl _ wr).drew).drew))
          have za := some_on (bel1 wr (.cells #[.int .i64 x.id, .string x.lb, .slice f1 f2 f3] 40)) z0
          obtain ⟨i0, hi', hz0, hz1, hz2⟩ := ivx.out
          rcases hgo2 with g1 | ⟨g1, g2⟩
          · go_wp2
            go_region
            all_goals go_wp2
            all_goals go_region_law (refine step_gro (R := Fx RV w4 (w.heap.size + 3 + 3)) (fun x sl => len_RV x sl) (show 0 < RV.n by decide) 24 40 i0 zVx Try.underlying24 hi' hz0 hz1 hz2 rfl _ rfl (.tmp 56) (.tmp 62) rfl (w4.heap.size + 1) (w4.heap.size + 1) _ acc (.slice qv acc.length dv) x (.slice f1 f2 f3) (noW wr) (by simp [Act.eval]) (by exact HG2.out.alloc _) (by simp [Act.eval]; rfl) HIN.out (fun a c hc => (noW_cell hc).elim) (by exact new_ats' _ (RV.cs x (.slice f1 f2 f3)) 40 rfl) (by intro c hc; simp only [Fx, RV, List.mem_cons, List.not_mem_nil, or_false] at hc; rcases hc with rfl | rfl | rfl <;> rfl) (by unfold maxLen; omega) (by show (acc.length + 1) * 48 ≤ _; omega) (by have := HB.out.2; simp; omega) ?_; intro g5 cap5 w5 hG5 hgr5 hg5; have HH := Lib.hid (And.intro hG5 (rdo_rnd HB.out HD.out (bel_al (((Below.refl _ wr).drew).drew) (.cells #[.int .i64 x.id, .string x.lb, .slice f1 f2 f3] 40)) (HG2.out.alloc _) (Nat.le_refl _) hgr5)); obtain ⟨q0, q1, q2, fq⟩ := three_of HH.out.2.2; clear hG5 hgr5 hg5)
            all_goals go_wp2
            all_goals (go_roundg c)
            all_goals first
              | exact ⟨i + 1, acc ++ [x], some ⟨g5, 0, none⟩, _, cap5, by omega, by first | rfl | simp, by simp, by simp; omega, ⟨bel1s HH.out.2.1.1 (Nat.le_refl _) 0, by have := HH.out.2.1.2; simpa [World.setCell] using this⟩, blk_set3a HH.out.2.2, HH.out.1.put (Nat.le_refl _) (by omega) 0 _⟩
              | omega
          · go_wp2
            go_region_held3 (fun u => (u.cell? ⟨w.heap.size, 0, none⟩ = some (.slice (some ⟨b, o, none⟩) nv c1) ∧ u.cell? ⟨b, o + i * 3, none⟩ = some (.int .i64 x.id)) ∧ u.cell? ⟨w.heap.size + 1, 0, none⟩ = some (.int .i64 k) ∧ u.cell? ⟨w.heap.size + 1, 1, none⟩ = some (.int .i64 id)) (first | with_reducible exact S0) (fail)
            all_goals go_wp2
            all_goals go_region_law (refine step_gro (R := Fx RV w4 (w.heap.size + 3 + 3)) (fun x sl => len_RV x sl) (show 0 < RV.n by decide) 24 40 i0 zVx Try.underlying24 hi' hz0 hz1 hz2 rfl _ rfl (.tmp 56) (.tmp 62) rfl (w4.heap.size + 1) (w4.heap.size + 1) _ acc (.slice qv acc.length dv) x (.slice f1 f2 f3) (noW wr) (by simp [Act.eval]) (by exact HG2.out.alloc _) (by simp [Act.eval]; rfl) HIN.out (fun a c hc => (noW_cell hc).elim) (by exact new_ats' _ (RV.cs x (.slice f1 f2 f3)) 40 rfl) (by intro c hc; simp only [Fx, RV, List.mem_cons, List.not_mem_nil, or_false] at hc; rcases hc with rfl | rfl | rfl <;> rfl) (by unfold maxLen; omega) (by show (acc.length + 1) * 48 ≤ _; omega) (by have := HB.out.2; simp; omega) ?_; intro g5 cap5 w5 hG5 hgr5 hg5; have HH := Lib.hid (And.intro hG5 (rdo_rnd HB.out HD.out (bel_al (((Below.refl _ wr).drew).drew) (.cells #[.int .i64 x.id, .string x.lb, .slice f1 f2 f3] 40)) (HG2.out.alloc _) (Nat.le_refl _) hgr5)); obtain ⟨q0, q1, q2, fq⟩ := three_of HH.out.2.2; clear hG5 hgr5 hg5)
            all_goals go_wp2
            all_goals (go_roundg c)
            all_goals first
              | exact ⟨i + 1, acc ++ [x], some ⟨g5, 0, none⟩, _, cap5, by omega, by first | rfl | simp, by simp, by simp; omega, ⟨bel1s HH.out.2.1.1 (Nat.le_refl _) 0, by have := HH.out.2.1.2; simpa [World.setCell] using this⟩, blk_set3a HH.out.2.2, HH.out.1.put (Nat.le_refl _) (by omega) 0 _⟩
              | omega
      | zero =>
        obtain ⟨wv, rfl⟩ : ∃ v, v = wr := ⟨_, rfl⟩
        have hac : acc.length ≤ nv := by omega
        have HBv := HB
        obtain rfl : nv = i := by omega
        clear hacc hic
        go_wp2
        clear x0 x1 x2 fx e0 e1 e2 e3 z0 z1 z2 fz
        go_loopg [11, 12, 13] ne (fun c s11 s12 s13 wr => ∃ (i : Nat) (ae : List Lk) (qe : Option Addr) (me de : Nat), i + c = ne ∧ s11 = .int .i64 i ∧ me = ae.length ∧ ae.length ≤ i ∧ Hid (Below w4.heap.size w4 wr ∧ w4.heap.size + 1 ≤ wr.heap.size) ∧ Hid (wr.heap[w4.heap.size]? = some (.cells #[.slice qv acc.length dv, .slice qe me de, .int .i64 g.last] 27)) ∧ Hid (GrR (Fx RL w4 (w.heap.size + 3 + 3)) 46 wr wv.heap.size wv.heap.size ae (.slice qe me de)) ∧ Hid (KeepB (w4.heap.size + 1) wv wr ∧ wv.heap.size ≤ wr.heap.size))
        case atStart => exact ⟨0, [], none, 0, 0, by omega, rfl, rfl, Nat.le_refl _, HB.out, HD.out, grR_nil _ _ _ _ _, fun _ _ _ h => h, Nat.le_refl _⟩
        case round =>
          clear HB HD
          obtain ⟨i2, ae, qe, me, de, hic2, rfl, rfl, hae, HB2, HD2, HE2, HK2⟩ := hrel
          obtain ⟨z0, z1, z2, fz⟩ := three_of HD2.out
          obtain ⟨x0, x1, x2, fx⟩ := three_of (blk_on HB2.out.1 E0.out)
          obtain ⟨e0, e1, e2, e3⟩ := four_cells (blk_on HB2.out.1 E1.out)
          cases gk with
          | succ c =>
            have hi : i2 < g.es.length := by have := HE.out; omega
            have hiN : (i2 : Int) < (ne : Int) := by omega
            have hi0 : (0 : Int) ≤ (i2 : Int) := by omega
            obtain ⟨b, o, rfl, -, hx1⟩ := hxe.out.resolve_left (by intro e; rw [e] at hi; simp at hi)
            obtain ⟨sl, hat, hl1⟩ := hx1.at i2 hi
            obtain ⟨f1, f2, f3, rfl⟩ := hdL hl1
            obtain ⟨a0, a1, a2, a3, a4⟩ := ats5 (hat.keep (keep_below HB2.out.1) (Nat.zero_le _))
            simp only [show RL.n = 5 from rfl] at a0 a1 a2 a3 a4
            have HIN := Lib.hid hl1
            clear hat hl1 hx1 hxv hxe
            generalize g.es[i2] = x at *
            have n0 := blk_new0 wr (.cells #[.int .i64 x.id, .string x.lb, .int .i64 x.out, .int .i64 x.inn, .slice f1 f2 f3] 46)
            obtain ⟨m0, m1, m2, m3, m4, fm⟩ := five_of n0
            obtain ⟨h0, h1, h2, h3⟩ := four_cells (blk_on (bel1 wr (.cells #[.int .i64 x.id, .string x.lb, .int .i64 x.out, .int .i64 x.inn, .slice f1 f2 f3] 46)) (blk_on HB2.out.1 E1.out))
            obtain ⟨zb0, zb1, zb2, zbf⟩ := three_of (blk_on (bel1 wr (.cells #[.int .i64 x.id, .string x.lb, .int .i64 x.out, .int .i64 x.inn, .slice f1 f2 f3] 46)) HD2.out)
            obtain ⟨i0, hi', hz0, hz1, hz2⟩ := ilk.out
            by_cases h6 : k = 6
            · have g1 : (k == 6) = true := by simpa using h6
              clear h6
              obtain ⟨za0, za1, za2, zaf⟩ := three_of (blk_on (bel_al (bel1 wr (.cells #[.int .i64 x.id, .string x.lb, .int .i64 x.out, .int .i64 x.inn, .slice f1 f2 f3] 46)) (.cells #[.int .i64 x.id, .string x.lb, .int .i64 x.out, .int .i64 x.inn, .slice f1 f2 f3] 46)) HD2.out)
              by_cases ho : x.out = id
              · have g2 : (x.out == id) = true := by simpa using ho
                clear ho
                go_wp2
                go_roundg c
                case measure => omega
                case rel => exact ⟨i2 + 1, ae, qe, _, de, by omega, by first | rfl | simp, rfl, by omega, ⟨HB2.out.1.trans (((bel1 wr (.cells #[.int .i64 x.id, .string x.lb, .int .i64 x.out, .int .i64 x.inn, .slice f1 f2 f3] 46))).mono HB2.out.1.size), Nat.le_trans HB2.out.2 ((bel1 wr (.cells #[.int .i64 x.id, .string x.lb, .int .i64 x.out, .int .i64 x.inn, .slice f1 f2 f3] 46))).size⟩, blk_on (bel1 wr (.cells #[.int .i64 x.id, .string x.lb, .int .i64 x.out, .int .i64 x.inn, .slice f1 f2 f3] 46)) HD2.out, HE2.out.on (bel1 wr (.cells #[.int .i64 x.id, .string x.lb, .int .i64 x.out, .int .i64 x.inn, .slice f1 f2 f3] 46)), fun g o hg e => blk_on (bel1 wr (.cells #[.int .i64 x.id, .string x.lb, .int .i64 x.out, .int .i64 x.inn, .slice f1 f2 f3] 46)) (HK2.out.1 g o hg e), Nat.le_trans HK2.out.2 ((bel1 wr (.cells #[.int .i64 x.id, .string x.lb, .int .i64 x.out, .int .i64 x.inn, .slice f1 f2 f3] 46))).size⟩
              · have g2 : (x.out == id) = false := by simpa using ho
                clear ho
                by_cases hn : x.inn = id
                · have g3 : (x.inn == id) = true := by simpa using hn
                  clear hn
                  go_wp2
                  go_roundg c
                  case measure => omega
                  case rel => exact ⟨i2 + 1, ae, qe, _, de, by omega, by first | rfl | simp, rfl, by omega, ⟨HB2.out.1.trans (((bel1 wr (.cells #[.int .i64 x.id, .string x.lb, .int .i64 x.out, .int .i64 x.inn, .slice f1 f2 f3] 46))).mono HB2.out.1.size), Nat.le_trans HB2.out.2 ((bel1 wr (.cells #[.int .i64 x.id, .string x.lb, .int .i64 x.out, .int .i64 x.inn, .slice f1 f2 f3] 46))).size⟩, blk_on (bel1 wr (.cells #[.int .i64 x.id, .string x.lb, .int .i64 x.out, .int .i64 x.inn, .slice f1 f2 f3] 46)) HD2.out, HE2.out.on (bel1 wr (.cells #[.int .i64 x.id, .string x.lb, .int .i64 x.out, .int .i64 x.inn, .slice f1 f2 f3] 46)), fun g o hg e => blk_on (bel1 wr (.cells #[.int .i64 x.id, .string x.lb, .int .i64 x.out, .int .i64 x.inn, .slice f1 f2 f3] 46)) (HK2.out.1 g o hg e), Nat.le_trans HK2.out.2 ((bel1 wr (.cells #[.int .i64 x.id, .string x.lb, .int .i64 x.out, .int .i64 x.inn, .slice f1 f2 f3] 46))).size⟩
                · have g3 : (x.inn == id) = false := by simpa using hn
                  clear hn
                  go_wp2_with (at_builtin; refine wpList_gro (R := Fx RL w4 (w.heap.size + 3 + 3)) (fun x sl => len_RL x sl) (show 0 < RL.n by decide) 25 46 i0 zLk Try.underlying25 hi' hz0 hz1 hz2 rfl _ rfl _ _ rfl wv.heap.size wv.heap.size _ ae _ x (.slice f1 f2 f3) (noW wr) rfl (by exact (HE2.out.on (bel1 wr (.cells #[.int .i64 x.id, .string x.lb, .int .i64 x.out, .int .i64 x.inn, .slice f1 f2 f3] 46))).alloc _) rfl HIN.out (fun a c hc => (noW_cell hc).elim) (by exact new_ats' _ (RL.cs x (.slice f1 f2 f3)) 46 (by simp)) (by intro c hc; simp only [Fx, RL, List.mem_cons, List.not_mem_nil, or_false] at hc; rcases hc with rfl | rfl | rfl | rfl | rfl <;> rfl) (by unfold maxLen; omega) (by show (ae.length + 1) * 64 ≤ _; omega) (by have := HK2.out.2; simp; omega) ?_; intro g5 cap5 w5 hG5 hgr5 hg5; have HH := Lib.hid (And.intro hG5 (And.intro (rdo_rnd HB2.out HD2.out (bel_al (bel1 wr (.cells #[.int .i64 x.id, .string x.lb, .int .i64 x.out, .int .i64 x.inn, .slice f1 f2 f3] 46)) (.cells #[.int .i64 x.id, .string x.lb, .int .i64 x.out, .int .i64 x.inn, .slice f1 f2 f3] 46)) ((HE2.out.on (bel1 wr (.cells #[.int .i64 x.id, .string x.lb, .int .i64 x.out, .int .i64 x.inn, .slice f1 f2 f3] 46))).alloc _) HBv.out.2 hgr5) (rdo_rnd2 HK2.out (bel_al (bel1 wr (.cells #[.int .i64 x.id, .string x.lb, .int .i64 x.out, .int .i64 x.inn, .slice f1 f2 f3] 46)) (.cells #[.int .i64 x.id, .string x.lb, .int .i64 x.out, .int .i64 x.inn, .slice f1 f2 f3] 46)) ((HE2.out.on (bel1 wr (.cells #[.int .i64 x.id, .string x.lb, .int .i64 x.out, .int .i64 x.inn, .slice f1 f2 f3] 46))).alloc _) hgr5))); obtain ⟨q0, q1, q2, fq⟩ := three_of HH.out.2.1.2; clear hG5 hgr5 hg5)
                  go_roundg c
                  case measure => omega
                  case rel => exact ⟨i2 + 1, ae ++ [x], some ⟨g5, 0, none⟩, _, cap5, by omega, by first | rfl | simp, by simp, by simp; omega, ⟨bel1s HH.out.2.1.1.1 (Nat.le_refl _) 1, by have := HH.out.2.1.1.2; simpa [World.setCell] using this⟩, blk_set3b HH.out.2.1.2, HH.out.1.put (Nat.le_refl _) (by have := HBv.out.2; omega) 1 _, HH.out.2.2.1.trans (keepB_set (Nat.lt_succ_self _)), by have := HH.out.2.2.2; simpa [World.setCell] using this⟩
            · have g1 : (k == 6) = false := by simpa using h6
              clear h6
              obtain ⟨za0, za1, za2, zaf⟩ := three_of (blk_on (bel_al (bel1 wr (.cells #[.int .i64 x.id, .string x.lb, .int .i64 x.out, .int .i64 x.inn, .slice f1 f2 f3] 46)) (.cells #[.int .i64 x.id, .string x.lb, .int .i64 x.out, .int .i64 x.inn, .slice f1 f2 f3] 46)) HD2.out)
              by_cases hn : x.id = id
              · have g3 : (x.id == id) = true := by simpa using hn
                clear hn
                go_wp2
                go_roundg c
                case measure => omega
                case rel => exact ⟨i2 + 1, ae, qe, _, de, by omega, by first | rfl | simp, rfl, by omega, ⟨HB2.out.1.trans (((bel1 wr (.cells #[.int .i64 x.id, .string x.lb, .int .i64 x.out, .int .i64 x.inn, .slice f1 f2 f3] 46))).mono HB2.out.1.size), Nat.le_trans HB2.out.2 ((bel1 wr (.cells #[.int .i64 x.id, .string x.lb, .int .i64 x.out, .int .i64 x.inn, .slice f1 f2 f3] 46))).size⟩, blk_on (bel1 wr (.cells #[.int .i64 x.id, .string x.lb, .int .i64 x.out, .int .i64 x.inn, .slice f1 f2 f3] 46)) HD2.out, HE2.out.on (bel1 wr (.cells #[.int .i64 x.id, .string x.lb, .int .i64 x.out, .int .i64 x.inn, .slice f1 f2 f3] 46)), fun g o hg e => blk_on (bel1 wr (.cells #[.int .i64 x.id, .string x.lb, .int .i64 x.out, .int .i64 x.inn, .slice f1 f2 f3] 46)) (HK2.out.1 g o hg e), Nat.le_trans HK2.out.2 ((bel1 wr (.cells #[.int .i64 x.id, .string x.lb, .int .i64 x.out, .int .i64 x.inn, .slice f1 f2 f3] 46))).size⟩
              · have g3 : (x.id == id) = false := by simpa using hn
                clear hn
                go_wp2_with (at_builtin; refine wpList_gro (R := Fx RL w4 (w.heap.size + 3 + 3)) (fun x sl => len_RL x sl) (show 0 < RL.n by decide) 25 46 i0 zLk Try.underlying25 hi' hz0 hz1 hz2 rfl _ rfl _ _ rfl wv.heap.size wv.heap.size _ ae _ x (.slice f1 f2 f3) (noW wr) rfl (by exact (HE2.out.on (bel1 wr (.cells #[.int .i64 x.id, .string x.lb, .int .i64 x.out, .int .i64 x.inn, .slice f1 f2 f3] 46))).alloc _) rfl HIN.out (fun a c hc => (noW_cell hc).elim) (by exact new_ats' _ (RL.cs x (.slice f1 f2 f3)) 46 (by simp)) (by intro c hc; simp only [Fx, RL, List.mem_cons, List.not_mem_nil, or_false] at hc; rcases hc with rfl | rfl | rfl | rfl | rfl <;> rfl) (by unfold maxLen; omega) (by show (ae.length + 1) * 64 ≤ _; omega) (by have := HK2.out.2; simp; omega) ?_; intro g5 cap5 w5 hG5 hgr5 hg5; have HH := Lib.hid (And.intro hG5 (And.intro (rdo_rnd HB2.out HD2.out (bel_al (bel1 wr (.cells #[.int .i64 x.id, .string x.lb, .int .i64 x.out, .int .i64 x.inn, .slice f1 f2 f3] 46)) (.cells #[.int .i64 x.id, .string x.lb, .int .i64 x.out, .int .i64 x.inn, .slice f1 f2 f3] 46)) ((HE2.out.on (bel1 wr (.cells #[.int .i64 x.id, .string x.lb, .int .i64 x.out, .int .i64 x.inn, .slice f1 f2 f3] 46))).alloc _) HBv.out.2 hgr5) (rdo_rnd2 HK2.out (bel_al (bel1 wr (.cells #[.int .i64 x.id, .string x.lb, .int .i64 x.out, .int .i64 x.inn, .slice f1 f2 f3] 46)) (.cells #[.int .i64 x.id, .string x.lb, .int .i64 x.out, .int .i64 x.inn, .slice f1 f2 f3] 46)) ((HE2.out.on (bel1 wr (.cells #[.int .i64 x.id, .string x.lb, .int .i64 x.out, .int .i64 x.inn, .slice f1 f2 f3] 46))).alloc _) hgr5))); obtain ⟨q0, q1, q2, fq⟩ := three_of HH.out.2.1.2; clear hG5 hgr5 hg5)
                go_roundg c
                case measure => omega
                case rel => exact ⟨i2 + 1, ae ++ [x], some ⟨g5, 0, none⟩, _, cap5, by omega, by first | rfl | simp, by simp, by simp; omega, ⟨bel1s HH.out.2.1.1.1 (Nat.le_refl _) 1, by have := HH.out.2.1.1.2; simpa [World.setCell] using this⟩, blk_set3b HH.out.2.1.2, HH.out.1.put (Nat.le_refl _) (by have := HBv.out.2; omega) 1 _, HH.out.2.2.1.trans (keepB_set (Nat.lt_succ_self _)), by have := HH.out.2.2.2; simpa [World.setCell] using this⟩
          | zero =>
            obtain rfl : ne = i2 := by omega
            clear hxv hxe
            have hSV : Sq RV wr (w.heap.size + 3 + 3) acc (.slice qv acc.length dv) := Fx.sq (keep_below HB2.out.1) ((HG.out.sq (Nat.le_refl _) (by show _ * 48 ≤ _; omega)).keep HK2.out.1.keep (Nat.le_refl _)) (by have := hA.out; omega)
            have hSE : Sq RL wr (w.heap.size + 3 + 3) ae (.slice qe ae.length de) := Fx.sq (keep_below HB2.out.1) (HE2.out.sq (Nat.le_refl _) (by show _ * 64 ≤ _; omega)) (by have := HBv.out.2; have := hA.out; omega)
            have hI : Gg.In wr (w.heap.size + 3 + 3) ⟨acc, ae, g.last⟩ (.slice qv acc.length dv) (.slice qe ae.length de) := ⟨h64.out, hSV, hSE⟩
            have hfin : Hid (RD2 w (.returned (.tuple #[.agg #[.slice qv acc.length dv, .slice qe ae.length de, .int .i64 g.last], .int .i64 0])) (((wr.setCell ⟨w.heap.size + 1 + 1, 0, none⟩ (.slice qv acc.length dv)).setCell ⟨w.heap.size + 1 + 1, 1, none⟩ (.slice qe ae.length de)).setCell ⟨w.heap.size + 1 + 1, 2, none⟩ (.int .i64 g.last))) := by
              refine ⟨⟨acc, ae, g.last⟩, _, _, 0, rfl, ?_, bel_s3 (bel_then B2.out HB2.out.1) (by omega) _ _ _⟩
              have hlo : w.heap.size + 1 + 1 < w.heap.size + 3 + 3 := by omega
              exact hI.keep (((keepB_set hlo).trans (keepB_set hlo)).trans (keepB_set hlo)).keep (by omega)
            clear hSV hSE hI e0 e1 e2 e3
            obtain ⟨y0, y1, y2, fy⟩ := three_of (blk_on HB2.out.1 E2.out)
            go_wp2
            simp [bodyPost, results, Try.results28, go_sem, y0, y1, y2]
            exact hfin.out
end Go.Proofs.Yteknbploiombiaa
