/-
  Which graphs may be: linksMay and Check of package graph.
-/
import Derived.Test.YteknbploiombiaaZEmEme
namespace Go.Proofs.Yteknbploiombiaa
open Go.RowKit
set_option linter.unusedVariables false      -- a walk need not use every condition

def lkOk (vs : List Vx) (e : Lk) : Bool := !hasV vs e.id && hasV vs e.out && hasV vs e.inn
def lksMay (vs : List Vx) (es : List Lk) : Bool := es.all (lkOk vs)
theorem lks_no {vs : List Vx} {es : List Lk} {i : Nat} (h : i < es.length) (hf : lkOk vs es[i] = false) : lksMay vs es = false := by
  unfold lksMay
  rw [List.all_eq_false]
  exact ⟨_, List.getElem_mem h, by simp [hf]⟩
set_option maxHeartbeats 4000000 in
theorem links30 (g : Gg) (sv se : Value) (w : World) (hg : Gg.In w 0 g sv se) (hu : Up g.vs) :
    Calls Try.prog 30 #[g.agg sv se] w fun e w' => e = .returned (.bool (lksMay g.vs g.es)) ∧ Below w.heap.size w w' := by
  have c85 := fun id W hW => has50 g sv se id W (hg.on hW) hu
  obtain ⟨-, hV, hE⟩ := hg
  obtain ⟨pv, cv, rfl⟩ := hV.header
  obtain ⟨pe, ce, rfl, hec, hem, -, hx⟩ := hE
  unfold maxLen at hem
  have hx := Lib.hid hx
  clear hV hu
  unfold Gg.agg at c85 ⊢
  obtain ⟨top, htop⟩ : ∃ t, g.last = t := ⟨_, rfl⟩
  rw [htop] at c85 ⊢
  obtain ⟨nv, hnv⟩ : ∃ n, g.vs.length = n := ⟨_, rfl⟩
  rw [hnv] at c85 ⊢
  obtain ⟨N, hN⟩ : ∃ n, g.es.length = n := ⟨_, rfl⟩
  rw [hN] at c85 hec ⊢
  have hlen := Lib.hid hN
  obtain ⟨Res, hRes⟩ : ∃ R, lksMay g.vs g.es = R := ⟨_, rfl⟩
  rw [hRes]
  have HR := Lib.hid hRes
  clear hRes hN hnv htop
  have hb0 := Lib.hid (bel1 w (Obj.cells #[.slice pv nv cv, .slice pe N ce, .int .i64 top] 27))
  have hblk := Lib.hid (World.alloc_heap_new w (Obj.cells #[.slice pv nv cv, .slice pe N ce, .int .i64 top] 27))
  go_enter Try.func30, Try.ntmps30
  go_wp2
  go_loopg [8, 4] N (fun c s8 s4 wr => ∃ i : Nat, i + c = N ∧ s8 = .int .i64 i ∧ Hid (Below w.heap.size w wr) ∧ Hid (wr.heap[w.heap.size]? = some (Obj.cells #[.slice pv nv cv, .slice pe N ce, .int .i64 top] 27)) ∧ Hid (∀ t (ht : t < g.es.length), t < i → lkOk g.vs g.es[t] = true))
  case atStart => exact ⟨0, by omega, rfl, hb0.out, hblk.out, fun t _ h => absurd h (Nat.not_lt_zero _)⟩
  case round =>
    obtain ⟨i, hig, rfl, hB, hbl, hall⟩ := hrel
    cases gk with
    | succ c =>
      have hi : i < g.es.length := by have := hlen.out; omega
      have hiz : (i : Int) < (N : Int) := by omega
      have hi0 : (0 : Int) ≤ (i : Int) := by omega
      obtain ⟨b, o, rfl, -, hx1⟩ := hx.out.resolve_left (by intro e; rw [e] at hi; simp at hi)
      obtain ⟨s1, hat, hv1⟩ := (hx1.on' hB.out).at i hi
      obtain ⟨p1, n1, c1, rfl⟩ := hdL hv1
      obtain ⟨a0, a1, a2, a3, a4⟩ := ats5 hat
      simp only [show RL.n = 5 from rfl] at a0 a1 a2 a3 a4
      have hF : Hid (lkOk g.vs g.es[i] = false → Res = false) := fun h => by rw [← HR.out]; exact lks_no hi h
      have hT : Hid (lkOk g.vs g.es[i] = true → ∀ t (ht : t < g.es.length), t < i + 1 → lkOk g.vs g.es[t] = true) := fun h t ht hti => by
        by_cases e : t = i
        · subst e; exact h
        · exact hall.out t ht (by omega)
      clear hat hv1 hx1 hx
      generalize g.es[i] = x at *
      have hokx : lkOk g.vs x = (!hasV g.vs x.id && hasV g.vs x.out && hasV g.vs x.inn) := rfl
      rw [hokx] at hF hT
      have cA := c85 x.id
      have cB := c85 x.out
      have cC := c85 x.inn
      obtain ⟨g0, g1, g2, fg⟩ := three_of hbl.out
      have hBW := Lib.hid (bel_then hB.out (bel1 wr (Obj.cells #[.int .i64 x.id, .string x.lb, .int .i64 x.out, .int .i64 x.inn, .slice p1 n1 c1] 46)))
      have hbx := Lib.hid (World.alloc_heap_new wr (Obj.cells #[.int .i64 x.id, .string x.lb, .int .i64 x.out, .int .i64 x.inn, .slice p1 n1 c1] 46))
      have hbg := Lib.hid (blk_on (bel1 wr (Obj.cells #[.int .i64 x.id, .string x.lb, .int .i64 x.out, .int .i64 x.inn, .slice p1 n1 c1] 46)) hbl.out)
      obtain ⟨gg0, gg1, gg2, fgg⟩ := three_of hbg.out
      generalize hasV g.vs x.id = A at *
      generalize hasV g.vs x.out = Bq at *
      generalize hasV g.vs x.inn = C at *
      clear hokx c85
      cases A with
      | true =>
        have hr := Lib.hid (hF.out (by simp))
        go_wp2_with (go_at_call 50; refine (cA _ hBW.out).mono ?_; rintro e w1 ⟨rfl, hb1⟩; have HB1 := Lib.hid (bel_then hBW.out hb1); clear hb1)
        go_ret
        exact ⟨by rw [hr.out]; rfl, HB1.out⟩
      | false =>
        cases Bq with
        | false =>
          have hr := Lib.hid (hF.out (by simp))
          have tk1 : True := trivial
          go_wp2_with (first
            | (go_at_call 50; clear tk1; refine (cA _ hBW.out).mono ?_; rintro e w1 ⟨rfl, hb1⟩; have HB1 := Lib.hid (bel_then hBW.out hb1); have e1 := Lib.hid (blk_on hb1 hbx.out); have f1 := Lib.hid (blk_on hb1 hbg.out); obtain ⟨u0, u1, u2, u3, u4, fu⟩ := five_of e1.out; obtain ⟨y0, y1, y2, fy⟩ := three_of f1.out; clear hb1 cA)
            | (go_at_call 50; refine (cB _ HB1.out).mono ?_; rintro e w2 ⟨rfl, hb2⟩; have HB2 := Lib.hid (bel_then HB1.out hb2); clear hb2))
          go_ret
          exact ⟨by rw [hr.out]; rfl, HB2.out⟩
        | true =>
          cases C with
          | false =>
            have hr := Lib.hid (hF.out (by simp))
            have tk1 : True := trivial
            have tk2 : True := trivial
            go_wp2_with (first
              | (go_at_call 50; clear tk1; refine (cA _ hBW.out).mono ?_; rintro e w1 ⟨rfl, hb1⟩; have HB1 := Lib.hid (bel_then hBW.out hb1); have e1 := Lib.hid (blk_on hb1 hbx.out); have f1 := Lib.hid (blk_on hb1 hbg.out); obtain ⟨u0, u1, u2, u3, u4, fu⟩ := five_of e1.out; obtain ⟨y0, y1, y2, fy⟩ := three_of f1.out; clear hb1 cA)
              | (go_at_call 50; clear tk2; refine (cB _ HB1.out).mono ?_; rintro e w2 ⟨rfl, hb2⟩; have HB2 := Lib.hid (bel_then HB1.out hb2); have e2 := Lib.hid (blk_on hb2 e1.out); have f2 := Lib.hid (blk_on hb2 f1.out); obtain ⟨v0, v1, v2, v3, v4, fv⟩ := five_of e2.out; obtain ⟨z0, z1, z2, fz⟩ := three_of f2.out; clear hb2 cB)
              | (go_at_call 50; refine (cC _ HB2.out).mono ?_; rintro e w3 ⟨rfl, hb3⟩; have HB3 := Lib.hid (bel_then HB2.out hb3); have f3 := Lib.hid (blk_on hb3 f2.out); clear hb3))
            go_ret
            exact ⟨by rw [hr.out]; rfl, HB3.out⟩
          | true =>
            have hr := Lib.hid (hT.out (by simp))
            have tk1 : True := trivial
            have tk2 : True := trivial
            go_wp2_with (first
              | (go_at_call 50; clear tk1; refine (cA _ hBW.out).mono ?_; rintro e w1 ⟨rfl, hb1⟩; have HB1 := Lib.hid (bel_then hBW.out hb1); have e1 := Lib.hid (blk_on hb1 hbx.out); have f1 := Lib.hid (blk_on hb1 hbg.out); obtain ⟨u0, u1, u2, u3, u4, fu⟩ := five_of e1.out; obtain ⟨y0, y1, y2, fy⟩ := three_of f1.out; clear hb1 cA)
              | (go_at_call 50; clear tk2; refine (cB _ HB1.out).mono ?_; rintro e w2 ⟨rfl, hb2⟩; have HB2 := Lib.hid (bel_then HB1.out hb2); have e2 := Lib.hid (blk_on hb2 e1.out); have f2 := Lib.hid (blk_on hb2 f1.out); obtain ⟨v0, v1, v2, v3, v4, fv⟩ := five_of e2.out; obtain ⟨z0, z1, z2, fz⟩ := three_of f2.out; clear hb2 cB)
              | (go_at_call 50; refine (cC _ HB2.out).mono ?_; rintro e w3 ⟨rfl, hb3⟩; have HB3 := Lib.hid (bel_then HB2.out hb3); have f3 := Lib.hid (blk_on hb3 f2.out); clear hb3))
            go_roundg c
            case measure => omega
            case rel => exact ⟨i + 1, by omega, by first | rfl | simp, HB3.out, f3.out, hr.out⟩
    | zero =>
      have hA : Hid (Res = true) := by
        show _ = _
        rw [← HR.out]
        unfold lksMay
        rw [List.all_eq_true]
        intro e he
        obtain ⟨t, ht, rfl⟩ := List.getElem_of_mem he
        exact hall.out t ht (by have := hlen.out; omega)
      obtain rfl : i = N := by omega
      clear hx c85
      go_wp2
      go_ret
      exact ⟨by rw [hA.out]; rfl, hB.out⟩

theorem up_els {top : Int} : ∀ {vs : List Vx} {a : Int}, elsFrom top a (vs.map Vx.ee) = true → up a (vs.map Vx.id) = true
  | [], _, _ => rfl
  | x :: vs, a, h => by
    simp only [List.map_cons, elsFrom, Bool.and_eq_true] at h
    simp only [List.map_cons, up, Bool.and_eq_true]
    refine ⟨?_, up_els h.2⟩
    have := h.1
    unfold elOk at this
    simp only [Bool.and_eq_true] at this
    exact this.1.1.1
/-- A graph may be. -/
def gMay (g : Gg) : Bool := decide (0 ≤ g.last) && decide (g.last ≤ 281474976710656) && decide (g.vs.length ≤ 2048) && decide (g.es.length ≤ 2048) && elsFrom g.last 0 (g.vs.map Vx.ee) && elsFrom g.last 0 (g.es.map Lk.ee) && lksMay g.vs g.es
def Gg.err (g : Gg) : Int := if gMay g = true then 0 else 103
theorem err_no {g : Gg} (h : gMay g = false) : g.err = 103 := by unfold Gg.err; rw [h]; rfl
theorem err_yes {g : Gg} (h : gMay g = true) : g.err = 0 := by unfold Gg.err; rw [h]; rfl
set_option maxHeartbeats 4000000 in
theorem check8 (g : Gg) (sv se : Value) (w : World) (hg : Gg.In w 0 g sv se) :
    Calls Try.prog 8 #[g.agg sv se] w fun e w' => e = .returned (.int .i64 g.err) ∧ Below w.heap.size w w' := by
  have cV := fun W hW => may29v g sv se W (hg.on hW)
  have cE := fun W hW => may29e g sv se W (hg.on hW)
  have cL := fun W hW hu => links30 g sv se W (hg.on hW) hu
  have hU : Hid (elsFrom g.last 0 (g.vs.map Vx.ee) = true → Up g.vs) := fun h => Up.of (up_els h)
  obtain ⟨hl64, hV, hE⟩ := hg
  obtain ⟨pv, cv, rfl, -, hvm, -⟩ := hV
  obtain ⟨pe, ce, rfl, -, hem, -⟩ := hE
  unfold I64 at hl64
  have hm : gMay g = (decide (0 ≤ g.last) && decide (g.last ≤ 281474976710656) && decide (g.vs.length ≤ 2048) && decide (g.es.length ≤ 2048) && elsFrom g.last 0 (g.vs.map Vx.ee) && elsFrom g.last 0 (g.es.map Lk.ee) && lksMay g.vs g.es) := rfl
  have hno : Hid (gMay g = false → g.err = 103) := err_no
  have hyes : Hid (gMay g = true → g.err = 0) := err_yes
  have hm := Lib.hid hm
  unfold Gg.agg at cV cE cL ⊢
  generalize g.err = E at *
  generalize g.last = top at *
  generalize g.vs.length = nv at *
  generalize g.es.length = ne at *
  have hb0 := Lib.hid (bel1 w (Obj.cells #[.slice pv nv cv, .slice pe ne ce, .int .i64 top] 27))
  have hblk := Lib.hid (World.alloc_heap_new w (Obj.cells #[.slice pv nv cv, .slice pe ne ce, .int .i64 top] 27))
  by_cases k1 : top < 0
  · have hr := Lib.hid (hno.out (by rw [hm.out, decide_eq_false (show ¬ 0 ≤ top by omega)]; simp))
    go_enter Try.func8, Try.ntmps8
    go_wp2
    go_ret
    exact ⟨by rw [hr.out]; rfl, hb0.out⟩
  by_cases k2 : 281474976710656 < top
  · have hr := Lib.hid (hno.out (by rw [hm.out, decide_eq_false (show ¬ top ≤ 281474976710656 by omega)]; simp))
    have k1' : decide (top < 0) = false := decide_eq_false k1
    go_enter Try.func8, Try.ntmps8
    go_wp2
    go_ret
    exact ⟨by rw [hr.out]; rfl, hb0.out⟩
  by_cases k3 : 2048 < nv
  · have hr := Lib.hid (hno.out (by rw [hm.out, decide_eq_false (show ¬ nv ≤ 2048 by omega)]; simp))
    have k1' : decide (top < 0) = false := decide_eq_false k1
    have k2' : decide (281474976710656 < top) = false := decide_eq_false k2
    have k3' : (2048 : Int) < (nv : Int) := by omega
    go_enter Try.func8, Try.ntmps8
    go_wp2
    go_ret
    exact ⟨by rw [hr.out]; rfl, hb0.out⟩
  by_cases k4 : 2048 < ne
  · have hr := Lib.hid (hno.out (by rw [hm.out, decide_eq_false (show ¬ ne ≤ 2048 by omega)]; simp))
    have k1' : decide (top < 0) = false := decide_eq_false k1
    have k2' : decide (281474976710656 < top) = false := decide_eq_false k2
    have k3' : ¬ (2048 : Int) < (nv : Int) := by omega
    have k4' : (2048 : Int) < (ne : Int) := by omega
    go_enter Try.func8, Try.ntmps8
    go_wp2
    go_ret
    exact ⟨by rw [hr.out]; rfl, hb0.out⟩
  have hm' : Hid (gMay g = (elsFrom top 0 (g.vs.map Vx.ee) && elsFrom top 0 (g.es.map Lk.ee) && lksMay g.vs g.es)) := by
    show _ = _
    rw [hm.out, decide_eq_true (show 0 ≤ top by omega), decide_eq_true (show top ≤ 281474976710656 by omega), decide_eq_true (show nv ≤ 2048 by omega), decide_eq_true (show ne ≤ 2048 by omega)]
    rfl
  have k1' : decide (top < 0) = false := decide_eq_false k1
  have k2' : decide (281474976710656 < top) = false := decide_eq_false k2
  have k3' : ¬ (2048 : Int) < (nv : Int) := by omega
  have k4' : ¬ (2048 : Int) < (ne : Int) := by omega
  clear hm
  generalize elsFrom top 0 (g.vs.map Vx.ee) = A at *
  generalize elsFrom top 0 (g.es.map Lk.ee) = Bq at *
  generalize lksMay g.vs g.es = C at *
  cases A with
  | false =>
    have hr := Lib.hid (hno.out (by rw [hm'.out]; rfl))
    go_enter Try.func8, Try.ntmps8
    go_wp2_with (go_at_call 29; refine (cV _ hb0.out).mono ?_; rintro e w1 ⟨rfl, hb1⟩; have HB1 := Lib.hid (bel_then hb0.out hb1); clear hb1)
    go_ret
    exact ⟨by rw [hr.out]; rfl, HB1.out⟩
  | true =>
    have cL' := fun W hW => cL W hW (hU.out rfl)
    clear cL hU
    cases Bq with
    | false =>
      have hr := Lib.hid (hno.out (by rw [hm'.out]; rfl))
      have tk1 : True := trivial
      go_enter Try.func8, Try.ntmps8
      go_wp2_with (first
        | (go_at_call 29; clear tk1; refine (cV _ hb0.out).mono ?_; rintro e w1 ⟨rfl, hb1⟩; have HB1 := Lib.hid (bel_then hb0.out hb1); have e1 := Lib.hid (blk_on hb1 hblk.out); obtain ⟨u0, u1, u2, fu⟩ := three_of e1.out; clear hb1 cV)
        | (go_at_call 29; refine (cE _ HB1.out).mono ?_; rintro e w2 ⟨rfl, hb2⟩; have HB2 := Lib.hid (bel_then HB1.out hb2); clear hb2))
      go_ret
      exact ⟨by rw [hr.out]; rfl, HB2.out⟩
    | true =>
      have hr : Hid (E = if C = true then 0 else 103) := by
        show _ = _
        cases C with
        | false => exact hno.out (by rw [hm'.out]; rfl)
        | true => exact hyes.out (by rw [hm'.out]; rfl)
      clear hno hyes hm'
      have tk1 : True := trivial
      cases C with
      | false =>
        go_enter Try.func8, Try.ntmps8
        go_wp2_with (first
          | (go_at_call 29; clear tk1; refine (cV _ hb0.out).mono ?_; rintro e w1 ⟨rfl, hb1⟩; have HB1 := Lib.hid (bel_then hb0.out hb1); have e1 := Lib.hid (blk_on hb1 hblk.out); obtain ⟨u0, u1, u2, fu⟩ := three_of e1.out; clear hb1 cV)
          | (go_at_call 29; refine (cE _ HB1.out).mono ?_; rintro e w2 ⟨rfl, hb2⟩; have HB2 := Lib.hid (bel_then HB1.out hb2); have e2 := Lib.hid (blk_on hb2 e1.out); obtain ⟨v0, v1, v2, fv⟩ := three_of e2.out; clear hb2)
          | (go_at_call 30; refine (cL' _ HB2.out).mono ?_; rintro e w3 ⟨rfl, hb3⟩; have HB3 := Lib.hid (bel_then HB2.out hb3); clear hb3))
        go_ret
        exact ⟨by rw [hr.out]; rfl, HB3.out⟩
      | true =>
        go_enter Try.func8, Try.ntmps8
        go_wp2_with (first
          | (go_at_call 29; clear tk1; refine (cV _ hb0.out).mono ?_; rintro e w1 ⟨rfl, hb1⟩; have HB1 := Lib.hid (bel_then hb0.out hb1); have e1 := Lib.hid (blk_on hb1 hblk.out); obtain ⟨u0, u1, u2, fu⟩ := three_of e1.out; clear hb1 cV)
          | (go_at_call 29; refine (cE _ HB1.out).mono ?_; rintro e w2 ⟨rfl, hb2⟩; have HB2 := Lib.hid (bel_then HB1.out hb2); have e2 := Lib.hid (blk_on hb2 e1.out); obtain ⟨v0, v1, v2, fv⟩ := three_of e2.out; clear hb2)
          | (go_at_call 30; refine (cL' _ HB2.out).mono ?_; rintro e w3 ⟨rfl, hb3⟩; have HB3 := Lib.hid (bel_then HB2.out hb3); clear hb3))
        go_ret
        exact ⟨by rw [hr.out]; rfl, HB3.out⟩
end Go.Proofs.Yteknbploiombiaa
