/-
  Which properties, vertices and edges are the same, by the document's functions.
  Which vertices and edges are the same, by the document's functions.
-/
import Derived.Test.YteknbploiombiaaZPm
import Derived.Test.YteknbploiombiaaZRefRefCheck
import Derived.Test.YteknbploiombiaaZAmg
namespace Go.Proofs.Yteknbploiombiaa
open Go.RowKit Go.Sort
set_option linter.unusedVariables false      -- a walk need not use every condition

def prSame (p q : Pr) : Bool := decide (p.nm = q.nm) && (p.v.cmp q.v == 0)
def psSame : List Pr → List Pr → Bool
  | [], [] => true
  | p :: l, q :: m => prSame p q && psSame l m
  | _, _ => false
theorem psSame_len : ∀ {l m : List Pr}, l.length ≠ m.length → psSame l m = false
  | [], [], h => absurd rfl h
  | [], _ :: _, _ => rfl
  | _ :: _, [], _ => rfl
  | p :: l, q :: m, h => by
    simp only [psSame]
    rw [psSame_len (l := l) (m := m) (by simpa using h), Bool.and_false]
theorem psSame_step {l m : List Pr} {i : Nat} (h : i < l.length) (h' : i < m.length) : psSame (l.drop i) (m.drop i) = (prSame l[i] m[i] && psSame (l.drop (i + 1)) (m.drop (i + 1))) := by
  rw [List.drop_eq_getElem_cons h, List.drop_eq_getElem_cons h']
  rfl
set_option maxHeartbeats 8000000 in
set_option maxRecDepth 100000 in
theorem sprops77 (l m : List Pr) (sl sm : Value) (w : World) (hl : Sq RP w 0 l sl) (hm : Sq RP w 0 m sm) :
    Calls Try.prog 77 #[sl, sm] w fun e w' => e = .returned (.bool (psSame l m)) ∧ Below w.heap.size w w' := by
  obtain ⟨p, cap, rfl, hc, hcm, -, hx⟩ := hl
  obtain ⟨q, cap', rfl, hc', hcm', -, hx'⟩ := hm
  unfold maxLen at hcm hcm'
  have hx := Lib.hid hx
  have hx' := Lib.hid hx'
  obtain ⟨N, hN⟩ : ∃ N, l.length = N := ⟨_, rfl⟩
  obtain ⟨M, hM⟩ : ∃ N, m.length = N := ⟨_, rfl⟩
  by_cases hne : N = M
  · subst hne
    rw [hN] at hc ⊢
    rw [hM] at hc' ⊢
    have hlen := Lib.hid hN
    have hlen' := Lib.hid hM
    clear hN hM
    obtain ⟨Res, hRes⟩ : ∃ R, psSame l m = R := ⟨_, rfl⟩
    rw [hRes]
    have HR := Lib.hid hRes
    clear hRes
    go_enter Try.func77, Try.ntmps77
    go_wp2
    go_loopg [5] N (fun g s5 wr => ∃ (i : Nat), i + g = N ∧ s5 = .int .i64 i ∧ Hid (Below w.heap.size w wr) ∧ Hid (psSame (l.drop i) (m.drop i) = Res))
    case atStart => exact ⟨0, by omega, rfl, Below.refl _ _, HR.out⟩
    case round =>
      obtain ⟨i, hig, rfl, hb, hs⟩ := hrel
      cases gk with
      | succ g =>
        have hi : i < l.length := by have := hlen.out; omega
        have hi' : i < m.length := by have := hlen'.out; omega
        have hiz : (i : Int) < (N : Int) := by omega
        have hi0 : (0 : Int) ≤ (i : Int) := by omega
        obtain ⟨b, o, rfl, -, hx1⟩ := hx.out.resolve_left (by rintro rfl; simp at hi)
        obtain ⟨b', o', rfl, -, hx1'⟩ := hx'.out.resolve_left (by rintro rfl; simp at hi')
        obtain ⟨s1, hat, hv1⟩ := (hx1.on' hb.out).at i hi
        obtain ⟨s2, hat', hv2⟩ := (hx1'.on' hb.out).at i hi'
        obtain ⟨p1, n1, c1, rfl⟩ := hdP hv1
        obtain ⟨p2, n2, c2, rfl⟩ := hdP hv2
        obtain ⟨a0, a1, a2, a3, a4⟩ := ats5 hat
        obtain ⟨b0, b1, b2, b3, b4⟩ := ats5 hat'
        simp only [show RP.n = 5 from rfl] at a0 a1 a2 a3 a4 b0 b1 b2 b3 b4
        have hs' := hs.out
        rw [psSame_step hi hi'] at hs'
        have HM' := Lib.hid hs'
        have hvv := Lib.hid hv1.2
        have hvv' := Lib.hid hv2.2
        clear hs hs' hat hat' hx hx' hx1 hx1' hv1 hv2
        generalize l[i] = x at *
        generalize m[i] = y at *
        have q25 : ∀ d os, Calls Try.prog 18 #[.agg #[.int .i64 x.v.k, .int .i64 x.v.n, .string x.v.s, .slice p1 n1 c1], .agg #[.int .i64 y.v.k, .int .i64 y.v.n, .string y.v.s, .slice p2 n2 c2]] (grow (redrawn wr d) os) fun e w'' => e = .returned (.bool (x.v.cmp y.v == 0)) ∧ ∃ p : Regrown, w'' = grow (redrawn wr p.d) p.os := fun d os => Calls.regrown_of (refSame_any x.v y.v _ _ _ (hvv.out.on (below_regrown wr d os)) (hvv'.out.on (below_regrown wr d os)))
        have hq := str_eq x.nm y.nm
        have u0 := cell_regrown a0
        have u1 := cell_regrown a1
        have u2 := cell_regrown a2
        have u3 := cell_regrown a3
        have u4 := cell_regrown a4
        have t0 := cell_regrown b0
        have t1 := cell_regrown b1
        have t2 := cell_regrown b2
        have t3 := cell_regrown b3
        have t4 := cell_regrown b4
        have hps : Hid (prSame x y = (decide (x.nm = y.nm) && (x.v.cmp y.v == 0))) := rfl
        rw [hps.out] at HM'
        generalize (x.v.cmp y.v == 0) = B2 at *
        generalize (decide (x.nm = y.nm)) = B1 at *
        clear hps hvv hvv'
        cases B1 with
        | false =>
          have hr : Hid (false = Res) := by show _ = _; have := HM'.out; simpa using this
          clear HM'
          go_wp2
          refine wp_region_quiet_below mixed (by kernel_rfl) ?_
          repeat (go_big_quiet_step (exact q25 _ _))
          refine wpQuiet_nil ?_
          intro _ hw'
          obtain ⟨⟨dq, osq⟩, hw''⟩ := hw'
          subst hw''
          have B7 := Lib.hid (below_regrown wr dq osq)
          generalize grow (redrawn wr dq) osq = w7 at B7 ⊢
          go_wp2
          go_ret
          exact ⟨by rw [← hr.out]; rfl, bel_then hb.out B7.out⟩
        | true =>
          cases B2 with
          | false =>
            have hr : Hid (false = Res) := by show _ = _; have := HM'.out; simpa using this
            clear HM'
            go_wp2
            refine wp_region_quiet_below mixed (by kernel_rfl) ?_
            repeat (go_big_quiet_step (exact q25 _ _))
            refine wpQuiet_nil ?_
            intro _ hw'
            obtain ⟨⟨dq, osq⟩, hw''⟩ := hw'
            subst hw''
            have B7 := Lib.hid (below_regrown wr dq osq)
            generalize grow (redrawn wr dq) osq = w7 at B7 ⊢
            go_wp2
            go_ret
            exact ⟨by rw [← hr.out]; rfl, bel_then hb.out B7.out⟩
          | true =>
            have HM2 : Hid (psSame (l.drop (i + 1)) (m.drop (i + 1)) = Res) := by show _ = _; have := HM'.out; simpa using this
            clear HM'
            go_wp2
            refine wp_region_quiet_below mixed (by kernel_rfl) ?_
            repeat (go_big_quiet_step (exact q25 _ _))
            refine wpQuiet_nil ?_
            intro _ hw'
            obtain ⟨⟨dq, osq⟩, hw''⟩ := hw'
            subst hw''
            have B7 := Lib.hid (below_regrown wr dq osq)
            generalize grow (redrawn wr dq) osq = w7 at B7 ⊢
            go_wp2
            go_roundg g
            case measure => omega
            case rel => exact ⟨i + 1, by omega, by first | rfl | simp, bel_then hb.out B7.out, HM2⟩
      | zero =>
        have hA : Hid (true = Res) := by
          show _ = _
          rw [← hs.out, List.drop_eq_nil_of_le (by have := hlen.out; omega), List.drop_eq_nil_of_le (by have := hlen'.out; omega)]; rfl
        obtain rfl : i = N := by omega
        clear hs hx hx'
        go_wp2
        go_ret
        exact ⟨by rw [← hA.out]; rfl, hb.out⟩
  · have hr := Lib.hid (psSame_len (l := l) (m := m) (by omega))
    rw [hr.out]
    have hz : ((l.length : Int) != (m.length : Int)) = true := by simp; omega
    have hz' : ((l.length : Int) == (m.length : Int)) = false := by simp; omega
    generalize l.length = A at *
    generalize m.length = B at *
    clear hr hx hx' hN hM
    go_enter Try.func77, Try.ntmps77
    go_wp2
    go_ret
    exact ⟨rfl, Below.refl _ _⟩
end Go.Proofs.Yteknbploiombiaa
namespace Go.Proofs.Yteknbploiombiaa
open Go.RowKit
set_option linter.unusedVariables false      -- a walk need not use every condition

theorem int_eq (a b : Int) : (a == b) = decide (a = b) := by rw [Bool.eq_iff_iff]; simp
def vxSame (a b : Vx) : Bool := decide (a.id = b.id) && (decide (a.lb = b.lb) && psSame a.ps b.ps)
def lkSame (a b : Lk) : Bool := decide (a.id = b.id) && (decide (a.lb = b.lb) && (decide (a.out = b.out) && (decide (a.inn = b.inn) && psSame a.ps b.ps)))

set_option maxHeartbeats 4000000 in
theorem same45 (x y : Vx) (sx sy : Value) (w : World) (hx : RV.In w 0 x sx) (hy : RV.In w 0 y sy) :
    Calls Try.prog 45 #[x.agg sx, y.agg sy] w fun e w' => e = .returned (.bool (vxSame x y)) ∧ Below w.heap.size w w' := by
  obtain ⟨p, c, rfl⟩ := hx.2.2.header
  obtain ⟨q, d, rfl⟩ := hy.2.2.header
  have hb := Lib.hid (bel2 w (Obj.cells #[.int .i64 x.id, .string x.lb, .slice p x.ps.length c] 40) (Obj.cells #[.int .i64 y.id, .string y.lb, .slice q y.ps.length d] 40))
  have c20 := sprops77 x.ps y.ps _ _ _ (hx.2.2.on hb.out) (hy.2.2.on hb.out)
  have hr : Hid (vxSame x y = (decide (x.id = y.id) && (decide (x.lb = y.lb) && psSame x.ps y.ps))) := rfl
  rw [hr.out]
  unfold Vx.agg
  have eid := int_eq x.id y.id
  have elb := str_eq x.lb y.lb
  generalize psSame x.ps y.ps = PS at *
  clear hx hy hr
  generalize (decide (x.id = y.id)) = Bid at *
  generalize (decide (x.lb = y.lb)) = Blb at *
  generalize x.ps.length = NX at *
  generalize y.ps.length = NY at *
  cases Bid with
  | false =>
    go_enter Try.func45, Try.ntmps45
    go_wp2
    go_ret
    exact ⟨by first | rfl | simp, hb.out⟩
  | true =>
    cases Blb with
    | false =>
      go_enter Try.func45, Try.ntmps45
      go_wp2
      go_ret
      exact ⟨by first | rfl | simp, hb.out⟩
    | true =>
      go_enter Try.func45, Try.ntmps45
      go_wp2_with (go_at_call 77; refine c20.mono ?_; rintro e w1 ⟨rfl, hb1⟩; have HB := Lib.hid (bel_then hb.out hb1); clear hb1)
      go_ret
      exact ⟨by first | rfl | simp, HB.out⟩

set_option maxHeartbeats 4000000 in
theorem same46 (x y : Lk) (sx sy : Value) (w : World) (hx : RL.In w 0 x sx) (hy : RL.In w 0 y sy) :
    Calls Try.prog 46 #[x.agg sx, y.agg sy] w fun e w' => e = .returned (.bool (lkSame x y)) ∧ Below w.heap.size w w' := by
  obtain ⟨p, c, rfl⟩ := hx.2.2.2.2.header
  obtain ⟨q, d, rfl⟩ := hy.2.2.2.2.header
  have hb := Lib.hid (bel2 w (Obj.cells #[.int .i64 x.id, .string x.lb, .int .i64 x.out, .int .i64 x.inn, .slice p x.ps.length c] 46) (Obj.cells #[.int .i64 y.id, .string y.lb, .int .i64 y.out, .int .i64 y.inn, .slice q y.ps.length d] 46))
  have c20 := sprops77 x.ps y.ps _ _ _ (hx.2.2.2.2.on hb.out) (hy.2.2.2.2.on hb.out)
  have hr : Hid (lkSame x y = (decide (x.id = y.id) && (decide (x.lb = y.lb) && (decide (x.out = y.out) && (decide (x.inn = y.inn) && psSame x.ps y.ps))))) := rfl
  rw [hr.out]
  unfold Lk.agg
  have eid := int_eq x.id y.id
  have elb := str_eq x.lb y.lb
  have eout := int_eq x.out y.out
  have einn := int_eq x.inn y.inn
  generalize psSame x.ps y.ps = PS at *
  clear hx hy hr
  generalize (decide (x.id = y.id)) = Bid at *
  generalize (decide (x.lb = y.lb)) = Blb at *
  generalize (decide (x.out = y.out)) = Bout at *
  generalize (decide (x.inn = y.inn)) = Binn at *
  generalize x.ps.length = NX at *
  generalize y.ps.length = NY at *
  cases Bid with
  | false =>
    go_enter Try.func46, Try.ntmps46
    go_wp2
    go_ret
    exact ⟨by first | rfl | simp, hb.out⟩
  | true =>
    cases Blb with
    | false =>
      go_enter Try.func46, Try.ntmps46
      go_wp2
      go_ret
      exact ⟨by first | rfl | simp, hb.out⟩
    | true =>
      cases Bout with
      | false =>
        go_enter Try.func46, Try.ntmps46
        go_wp2
        go_ret
        exact ⟨by first | rfl | simp, hb.out⟩
      | true =>
        cases Binn with
        | false =>
          go_enter Try.func46, Try.ntmps46
          go_wp2
          go_ret
          exact ⟨by first | rfl | simp, hb.out⟩
        | true =>
          go_enter Try.func46, Try.ntmps46
          go_wp2_with (go_at_call 77; refine c20.mono ?_; rintro e w1 ⟨rfl, hb1⟩; have HB := Lib.hid (bel_then hb.out hb1); clear hb1)
          go_ret
          exact ⟨by first | rfl | simp, HB.out⟩
end Go.Proofs.Yteknbploiombiaa
