/-
  Which graphs are the same, by the document's function.
-/
import Derived.Test.YteknbploiombiaaZSamSax
namespace Go.Proofs.Yteknbploiombiaa
open Go.RowKit Go.Sort
set_option linter.unusedVariables false      -- a walk need not use every condition

def allB {α : Type} (f : α → α → Bool) : List α → List α → Bool
  | [], [] => true
  | p :: l, q :: m => f p q && allB f l m
  | _, _ => false
theorem allB_step {α : Type} {f : α → α → Bool} {l m : List α} {i : Nat} (h : i < l.length) (h' : i < m.length) : allB f (l.drop i) (m.drop i) = (f l[i] m[i] && allB f (l.drop (i + 1)) (m.drop (i + 1))) := by
  rw [List.drop_eq_getElem_cons h, List.drop_eq_getElem_cons h']
  rfl
set_option maxHeartbeats 8000000 in
set_option maxRecDepth 100000 in
theorem same42_len (x y : Gg) (sx sy tx ty : Value) (w : World) (hx : Gg.In w 0 x sx sy) (hy : Gg.In w 0 y tx ty) (hl : x.last = y.last) (hv : x.vs.length = y.vs.length) (he : x.es.length = y.es.length) :
    Calls Try.prog 17 #[x.agg sx sy, y.agg tx ty] w fun e w' => e = .returned (.bool (allB vxSame x.vs y.vs && allB lkSame x.es y.es)) ∧ Below w.heap.size w w' := by
  obtain ⟨p0, c0, rfl⟩ := hx.2.1.header
  obtain ⟨p1, c1, rfl⟩ := hx.2.2.header
  obtain ⟨q0, d0, rfl⟩ := hy.2.1.header
  obtain ⟨q1, d1, rfl⟩ := hy.2.2.header
  have HX := Lib.hid hx
  have HY := Lib.hid hy
  have hcx : c0 ≤ 9223372036854775807 ∧ c1 ≤ 9223372036854775807 ∧ d0 ≤ 9223372036854775807 ∧ d1 ≤ 9223372036854775807 := by
    obtain ⟨_, _, e, _, h, _⟩ := hx.2.1
    obtain ⟨_, _, e', _, h', _⟩ := hx.2.2
    obtain ⟨_, _, e2, _, h2, _⟩ := hy.2.1
    obtain ⟨_, _, e3, _, h3, _⟩ := hy.2.2
    injection e with _ _ e; injection e' with _ _ e'; injection e2 with _ _ e2; injection e3 with _ _ e3
    unfold maxLen at h h' h2 h3
    omega
  obtain ⟨hc0, hc1, hd0, hd1⟩ := hcx
  have hNb : x.vs.length ≤ 9223372036854775807 ∧ x.es.length ≤ 9223372036854775807 := by
    obtain ⟨_, _, e, hle, h, _⟩ := hx.2.1
    obtain ⟨_, _, e', hle', h', _⟩ := hx.2.2
    unfold maxLen at h h'
    omega
  obtain ⟨N, hN⟩ : ∃ n, x.vs.length = n := ⟨_, rfl⟩
  obtain ⟨M, hM⟩ : ∃ n, x.es.length = n := ⟨_, rfl⟩
  rw [hN, hM] at hNb
  obtain ⟨hNb, hMb⟩ := hNb
  have hlvs := Lib.hid hN
  have hles := Lib.hid hM
  have hmvs : Hid (y.vs.length = N) := by show _ = _; omega
  have hmes : Hid (y.es.length = M) := by show _ = _; omega
  unfold Gg.agg
  rw [hmvs.out, hmes.out, ← hl, hN, hM]
  obtain ⟨Rvs, hRv⟩ : ∃ r, allB vxSame x.vs y.vs = r := ⟨_, rfl⟩
  obtain ⟨Res, hRe⟩ : ∃ r, allB lkSame x.es y.es = r := ⟨_, rfl⟩
  rw [hRv, hRe]
  have HRvs := Lib.hid hRv
  have HRes := Lib.hid hRe
  clear hx hy hRv hRe hN hM hl hv he
  have hB0 := Lib.hid (bel2 w (Obj.cells #[.slice p0 N c0, .slice p1 M c1, .int .i64 x.last] 27) (Obj.cells #[.slice q0 N d0, .slice q1 M d1, .int .i64 x.last] 27))
  have E0 := World.alloc_heap_new w (Obj.cells #[.slice p0 N c0, .slice p1 M c1, .int .i64 x.last] 27)
  replace E0 := blk_on (bel1 _ (Obj.cells #[.slice q0 N d0, .slice q1 M d1, .int .i64 x.last] 27)) E0
  have E1 := World.alloc_heap_new (w.alloc (Obj.cells #[.slice p0 N c0, .slice p1 M c1, .int .i64 x.last] 27)) (Obj.cells #[.slice q0 N d0, .slice q1 M d1, .int .i64 x.last] 27)
  rw [World.size_alloc] at E1
  go_enter Try.func17, Try.ntmps17
  go_wp2
  generalize (w.alloc (Obj.cells #[.slice p0 N c0, .slice p1 M c1, .int .i64 x.last] 27)).alloc (Obj.cells #[.slice q0 N d0, .slice q1 M d1, .int .i64 x.last] 27) = W0 at *
  have E0 := Lib.hid E0
  have E1 := Lib.hid E1
  go_loopg [5] N (fun g s wr => ∃ (i : Nat), i + g = N ∧ s = .int .i64 i ∧ Hid (Below W0.heap.size W0 wr) ∧ Hid (allB vxSame (x.vs.drop i) (y.vs.drop i) = Rvs))
  case atStart => exact ⟨0, by omega, rfl, Below.refl _ _, HRvs.out⟩
  case round =>
    obtain ⟨i, hig, rfl, hb, hs⟩ := hrel
    obtain ⟨g0, g1, g2, gf⟩ := three_of (blk_on hb.out E0.out)
    obtain ⟨k0, k1, k2, kf⟩ := three_of (blk_on hb.out E1.out)
    cases gk with
    | succ c =>
      have hi : i < x.vs.length := by have := hlvs.out; omega
      have hi' : i < y.vs.length := by have := hmvs.out; omega
      have hiz : (i : Int) < (N : Int) := by omega
      have hi0 : (0 : Int) ≤ (i : Int) := by omega
      obtain ⟨_, _, ev, -, -, -, hx⟩ := (HX.out.on (bel_then hB0.out hb.out)).2.1
      injection ev with ev1 ev2 ev3
      obtain ⟨b, o, hpv, -, hx1⟩ := hx.resolve_left (by intro e; rw [e] at hi; simp at hi)
      obtain ⟨_, _, fv, -, -, -, hx'⟩ := (HY.out.on (bel_then hB0.out hb.out)).2.1
      injection fv with fv1 fv2 fv3
      obtain ⟨b', o', hpv', -, hx1'⟩ := hx'.resolve_left (by intro e; rw [e] at hi'; simp at hi')
      rw [hpv] at ev1
      rw [hpv'] at fv1
      subst ev1 fv1
      clear hx hx' ev2 ev3 fv2 fv3 hpv hpv'
      obtain ⟨s1, hat, hv1⟩ := hx1.at i hi
      obtain ⟨s2, hat', hv2⟩ := hx1'.at i hi'
      obtain ⟨p1, n1, c1, rfl⟩ := hdV hv1
      obtain ⟨p2, n2, c2, rfl⟩ := hdV hv2
      obtain ⟨a0, a1, a2⟩ := ats3 hat
      obtain ⟨b0, b1, b2⟩ := ats3 hat'
      simp only [show RV.n = 3 from rfl] at a0 a1 a2 b0 b1 b2
      have hs' := hs.out
      rw [allB_step hi hi'] at hs'
      have HM' := Lib.hid hs'
      have q14 : ∀ d os, Calls Try.prog 45 #[x.vs[i].agg (.slice p1 n1 c1), y.vs[i].agg (.slice p2 n2 c2)] (grow (redrawn wr d) os) fun e w'' => e = .returned (.bool (vxSame x.vs[i] y.vs[i])) ∧ ∃ p : Regrown, w'' = grow (redrawn wr p.d) p.os := fun d os => Calls.regrown_of (same45 _ _ _ _ _ (RV.on (below_regrown wr d os) hv1) (RV.on (below_regrown wr d os) hv2))
      unfold Vx.agg at q14
      clear hs hs' hat hat' hx1 hx1' hv1 hv2
      generalize x.vs[i] = u at *
      generalize y.vs[i] = v at *
      have ha0 := cell_regrown a0
      have hb0 := cell_regrown b0
      have ha1 := cell_regrown a1
      have hb1 := cell_regrown b1
      have ha2 := cell_regrown a2
      have hb2 := cell_regrown b2
      have hg0 := cell_regrown g0
      have hg1 := cell_regrown g1
      have hk0 := cell_regrown k0
      have hk1 := cell_regrown k1
      generalize (vxSame u v) = B1 at *
      cases B1 with
      | false =>
        have hr : Hid (false = Rvs) := by show _ = _; have := HM'.out; simpa using this
        clear HM'
        go_wp2
        refine wp_region_quiet_below mixed (by kernel_rfl) ?_
        repeat (go_big_quiet_step (exact q14 _ _))
        refine wpQuiet_nil ?_
        intro _ hw'
        obtain ⟨⟨dq, osq⟩, hw''⟩ := hw'
        subst hw''
        have B7 := Lib.hid (below_regrown wr dq osq)
        generalize grow (redrawn wr dq) osq = w7 at B7 ⊢
        go_wp2
        go_ret
        exact ⟨by rw [← hr.out]; rfl, bel_then hB0.out (bel_then hb.out B7.out)⟩
      | true =>
        have HM2 : Hid (allB vxSame (x.vs.drop (i + 1)) (y.vs.drop (i + 1)) = Rvs) := by show _ = _; have := HM'.out; simpa using this
        clear HM'
        go_wp2
        refine wp_region_quiet_below mixed (by kernel_rfl) ?_
        repeat (go_big_quiet_step (exact q14 _ _))
        refine wpQuiet_nil ?_
        intro _ hw'
        obtain ⟨⟨dq, osq⟩, hw''⟩ := hw'
        subst hw''
        have B7 := Lib.hid (below_regrown wr dq osq)
        generalize grow (redrawn wr dq) osq = w7 at B7 ⊢
        go_wp2
        go_roundg c
        case measure => omega
        case rel => exact ⟨i + 1, by omega, by first | rfl | simp, bel_then hb.out B7.out, HM2⟩
    | zero =>
      have hA : Hid (true = Rvs) := by
        show _ = _
        rw [← hs.out, List.drop_eq_nil_of_le (by have := hlvs.out; omega), List.drop_eq_nil_of_le (by have := hmvs.out; omega)]; rfl
      obtain rfl : i = N := by omega
      clear hs
      have hAv : Hid (true = Rvs) := hA.out
      have hbV := Lib.hid hb.out
      obtain ⟨wo, rfl⟩ : ∃ v, v = wr := ⟨_, rfl⟩
      clear hA hb hig
      go_wp2
      clear g0 g1 g2 gf k0 k1 k2 kf
      go_loopg [6] M (fun g s wr => ∃ (i : Nat), i + g = M ∧ s = .int .i64 i ∧ Hid (Below W0.heap.size W0 wr) ∧ Hid (allB lkSame (x.es.drop i) (y.es.drop i) = Res))
      case atStart => exact ⟨0, by omega, rfl, hbV.out, HRes.out⟩
      case round =>
        obtain ⟨i, hig, rfl, hb, hs⟩ := hrel
        obtain ⟨g0, g1, g2, gf⟩ := three_of (blk_on hb.out E0.out)
        obtain ⟨k0, k1, k2, kf⟩ := three_of (blk_on hb.out E1.out)
        cases gk with
        | succ c =>
          have hi : i < x.es.length := by have := hles.out; omega
          have hi' : i < y.es.length := by have := hmes.out; omega
          have hiz : (i : Int) < (M : Int) := by omega
          have hi0 : (0 : Int) ≤ (i : Int) := by omega
          obtain ⟨_, _, ev, -, -, -, hx⟩ := (HX.out.on (bel_then hB0.out hb.out)).2.2
          injection ev with ev1 ev2 ev3
          obtain ⟨b, o, hpv, -, hx1⟩ := hx.resolve_left (by intro e; rw [e] at hi; simp at hi)
          obtain ⟨_, _, fv, -, -, -, hx'⟩ := (HY.out.on (bel_then hB0.out hb.out)).2.2
          injection fv with fv1 fv2 fv3
          obtain ⟨b', o', hpv', -, hx1'⟩ := hx'.resolve_left (by intro e; rw [e] at hi'; simp at hi')
          rw [hpv] at ev1
          rw [hpv'] at fv1
          subst ev1 fv1
          clear hx hx' ev2 ev3 fv2 fv3 hpv hpv'
          obtain ⟨s1, hat, hv1⟩ := hx1.at i hi
          obtain ⟨s2, hat', hv2⟩ := hx1'.at i hi'
          obtain ⟨p1, n1, c1, rfl⟩ := hdL hv1
          obtain ⟨p2, n2, c2, rfl⟩ := hdL hv2
          obtain ⟨a0, a1, a2, a3, a4⟩ := ats5 hat
          obtain ⟨b0, b1, b2, b3, b4⟩ := ats5 hat'
          simp only [show RL.n = 5 from rfl] at a0 a1 a2 a3 a4 b0 b1 b2 b3 b4
          have hs' := hs.out
          rw [allB_step hi hi'] at hs'
          have HM' := Lib.hid hs'
          have q17 : ∀ d os, Calls Try.prog 46 #[x.es[i].agg (.slice p1 n1 c1), y.es[i].agg (.slice p2 n2 c2)] (grow (redrawn wr d) os) fun e w'' => e = .returned (.bool (lkSame x.es[i] y.es[i])) ∧ ∃ p : Regrown, w'' = grow (redrawn wr p.d) p.os := fun d os => Calls.regrown_of (same46 _ _ _ _ _ (RL.on (below_regrown wr d os) hv1) (RL.on (below_regrown wr d os) hv2))
          unfold Lk.agg at q17
          clear hs hs' hat hat' hx1 hx1' hv1 hv2
          generalize x.es[i] = u at *
          generalize y.es[i] = v at *
          have ha0 := cell_regrown a0
          have hb0 := cell_regrown b0
          have ha1 := cell_regrown a1
          have hb1 := cell_regrown b1
          have ha2 := cell_regrown a2
          have hb2 := cell_regrown b2
          have ha3 := cell_regrown a3
          have hb3 := cell_regrown b3
          have ha4 := cell_regrown a4
          have hb4 := cell_regrown b4
          have hg0 := cell_regrown g0
          have hg1 := cell_regrown g1
          have hk0 := cell_regrown k0
          have hk1 := cell_regrown k1
          generalize (lkSame u v) = B1 at *
          cases B1 with
          | false =>
            have hr : Hid (false = Res) := by show _ = _; have := HM'.out; simpa using this
            clear HM'
            go_wp2
            refine wp_region_quiet_below mixed (by kernel_rfl) ?_
            repeat (go_big_quiet_step (exact q17 _ _))
            refine wpQuiet_nil ?_
            intro _ hw'
            obtain ⟨⟨dq, osq⟩, hw''⟩ := hw'
            subst hw''
            have B7 := Lib.hid (below_regrown wr dq osq)
            generalize grow (redrawn wr dq) osq = w7 at B7 ⊢
            go_wp2
            go_ret
            exact ⟨by rw [← hr.out, ← hAv.out]; rfl, bel_then hB0.out (bel_then hb.out B7.out)⟩
          | true =>
            have HM2 : Hid (allB lkSame (x.es.drop (i + 1)) (y.es.drop (i + 1)) = Res) := by show _ = _; have := HM'.out; simpa using this
            clear HM'
            go_wp2
            refine wp_region_quiet_below mixed (by kernel_rfl) ?_
            repeat (go_big_quiet_step (exact q17 _ _))
            refine wpQuiet_nil ?_
            intro _ hw'
            obtain ⟨⟨dq, osq⟩, hw''⟩ := hw'
            subst hw''
            have B7 := Lib.hid (below_regrown wr dq osq)
            generalize grow (redrawn wr dq) osq = w7 at B7 ⊢
            go_wp2
            go_roundg c
            case measure => omega
            case rel => exact ⟨i + 1, by omega, by first | rfl | simp, bel_then hb.out B7.out, HM2⟩
        | zero =>
          have hA : Hid (true = Res) := by
            show _ = _
            rw [← hs.out, List.drop_eq_nil_of_le (by have := hles.out; omega), List.drop_eq_nil_of_le (by have := hmes.out; omega)]; rfl
          obtain rfl : i = M := by omega
          clear hs
          go_wp2
          go_ret
          exact ⟨by rw [← hA.out, ← hAv.out]; rfl, bel_then hB0.out hb.out⟩
set_option maxHeartbeats 4000000 in
theorem same42_no (x y : Gg) (sx sy tx ty : Value) (w : World) (hx : Gg.In w 0 x sx sy) (hy : Gg.In w 0 y tx ty) (hno : x.last ≠ y.last ∨ x.vs.length ≠ y.vs.length ∨ x.es.length ≠ y.es.length) :
    Calls Try.prog 17 #[x.agg sx sy, y.agg tx ty] w fun e w' => e = .returned (.bool false) ∧ Below w.heap.size w w' := by
  obtain ⟨p0, c0, rfl⟩ := hx.2.1.header
  obtain ⟨p1, c1, rfl⟩ := hx.2.2.header
  obtain ⟨q0, d0, rfl⟩ := hy.2.1.header
  obtain ⟨q1, d1, rfl⟩ := hy.2.2.header
  unfold Gg.agg
  clear hx hy
  generalize x.vs.length = N at *
  generalize x.es.length = M at *
  generalize y.vs.length = N' at *
  generalize y.es.length = M' at *
  generalize x.last = A at *
  generalize y.last = B at *
  have hB0 := Lib.hid (bel2 w (Obj.cells #[.slice p0 N c0, .slice p1 M c1, .int .i64 A] 27) (Obj.cells #[.slice q0 N' d0, .slice q1 M' d1, .int .i64 B] 27))
  by_cases h1 : A = B
  · have k1 : (A == B) = true := by simpa using h1
    have k1' : (A != B) = false := by simp [h1]
    by_cases h2 : N = N'
    · have h3 : M ≠ M' := by rcases hno with h | h | h <;> first | exact absurd h1 h | exact absurd h2 h | exact h
      have k3 : ((M : Int) == (M' : Int)) = false := by simp; omega
      have k3' : ((M : Int) != (M' : Int)) = true := by simp; omega
      subst h1 h2
      clear hno h3
      go_enter Try.func17, Try.ntmps17
      go_wp2
      go_ret
      exact ⟨rfl, hB0.out⟩
    · have k2 : ((N : Int) == (N' : Int)) = false := by simp; omega
      have k2' : ((N : Int) != (N' : Int)) = true := by simp; omega
      subst h1
      clear hno h2
      go_enter Try.func17, Try.ntmps17
      go_wp2
      go_ret
      exact ⟨rfl, hB0.out⟩
  · have k1 : (A == B) = false := by simpa using h1
    have k1' : (A != B) = true := by simp [h1]
    clear hno h1
    go_enter Try.func17, Try.ntmps17
    go_wp2
    go_ret
    exact ⟨rfl, hB0.out⟩
theorem allB_len {α : Type} {f : α → α → Bool} : ∀ {l m : List α}, l.length ≠ m.length → allB f l m = false
  | [], [], h => absurd rfl h
  | [], _ :: _, _ => rfl
  | _ :: _, [], _ => rfl
  | p :: l, q :: m, h => by
    simp only [allB]
    rw [allB_len (l := l) (m := m) (by simpa using h), Bool.and_false]
/-- Which graphs are the same. -/
def gSame (x y : Gg) : Bool := decide (x.last = y.last) && (allB vxSame x.vs y.vs && allB lkSame x.es y.es)
theorem same17 (x y : Gg) (sx sy tx ty : Value) (w : World) (hx : Gg.In w 0 x sx sy) (hy : Gg.In w 0 y tx ty) :
    Calls Try.prog 17 #[x.agg sx sy, y.agg tx ty] w fun e w' => e = .returned (.bool (gSame x y)) ∧ Below w.heap.size w w' := by
  unfold gSame
  by_cases h1 : x.last = y.last
  · by_cases h2 : x.vs.length = y.vs.length
    · by_cases h3 : x.es.length = y.es.length
      · rw [decide_eq_true h1, Bool.true_and]
        exact same42_len x y sx sy tx ty w hx hy h1 h2 h3
      · rw [allB_len h3, Bool.and_false, Bool.and_false]
        exact same42_no x y sx sy tx ty w hx hy (.inr (.inr h3))
    · rw [allB_len h2, Bool.false_and, Bool.and_false]
      exact same42_no x y sx sy tx ty w hx hy (.inr (.inl h2))
  · rw [decide_eq_false h1, Bool.false_and]
    exact same42_no x y sx sy tx ty w hx hy (.inl h1)
end Go.Proofs.Yteknbploiombiaa
