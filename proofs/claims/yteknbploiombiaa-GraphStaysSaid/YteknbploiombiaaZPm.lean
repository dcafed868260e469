/-
  Which rows of properties may be: propsMay of package graph.
-/
import Derived.Test.YteknbploiombiaaZClnClr
import Derived.Test.YteknbploiombiaaZCheckName
import Derived.Lib.QuietBelow
import Derived.BigQuiet
import Derived.Laws.Cover1
import Derived.Laws.Cover2
namespace Go.Proofs.Yteknbploiombiaa
open Go.RowKit Go.Sort
set_option linter.unusedVariables false      -- a walk need not use every condition

/-- A name stands below another one. -/
def bl (a b : ByteArray) : Bool := Op.bytesLess a.toList b.toList
def nmB (s : ByteArray) : Bool := nm s.data.toList
/-- The properties from here on may be, behind one of that name. -/
def psFrom : Option ByteArray → List Pr → Bool
  | _, [] => true
  | q, p :: r => nmB p.nm && (match q with | none => true | some a => bl a p.nm) && p.v.may 1 && psFrom (some p.nm) r
def psMay (l : List Pr) : Bool := decide (l.length ≤ 16) && psFrom none l
/-- The name ahead of the place i. -/
def ahd (l : List Pr) : Nat → Option ByteArray
  | 0 => none
  | i + 1 => (l[i]?).map Pr.nm
theorem ps_step {l : List Pr} {i : Nat} (h : i < l.length) : psFrom (ahd l i) (l.drop i) = (nmB l[i].nm && (match ahd l i with | none => true | some a => bl a l[i].nm) && l[i].v.may 1 && psFrom (ahd l (i + 1)) (l.drop (i + 1))) := by
  rw [List.drop_eq_getElem_cons h]
  have e : ahd l (i + 1) = some l[i].nm := by unfold ahd; simp [h]
  rw [e]
  rfl
theorem name_b (s : ByteArray) (w : World) : Calls Try.prog 41 #[.string s] w fun e w' => e = .returned (.bool (nmB s)) ∧ Below w.heap.size w w' :=
  (name38 s w).mono fun e w' ⟨h1, h2⟩ => ⟨h1, by rw [h2]; exact Below.refl _ _⟩
theorem mixed : Try.prog.follows .mixedOrders = true := by kernel_rfl
theorem err_ne (v : V) : (v.err != 0) = !(v.may 1) := by unfold V.err; cases v.may 1 <;> rfl
set_option maxHeartbeats 8000000 in
set_option maxRecDepth 100000 in
theorem props65 (l : List Pr) (sl : Value) (w : World) (hs : Sq RP w 0 l sl) :
    Calls Try.prog 65 #[sl] w fun e w' => e = .returned (.bool (psMay l)) ∧ Below w.heap.size w w' := by
  obtain ⟨p, cap, rfl, hc, hcm, h72, hx⟩ := hs
  unfold maxLen at hcm
  have hx := Lib.hid hx
  by_cases h16 : l.length ≤ 16
  · have hRes : Hid (psMay l = psFrom none l) := by show _ = _; unfold psMay; rw [decide_eq_true h16, Bool.true_and]
    rw [hRes.out]
    clear hRes
    obtain ⟨N, hN⟩ : ∃ N, l.length = N := ⟨_, rfl⟩
    rw [hN] at hc h72 h16 ⊢
    have hlen : Hid (l.length = N) := hN
    clear hN
    have hz : ¬ (16 : Int) < (N : Int) := by omega
    obtain ⟨Res, hRes⟩ : ∃ R, psFrom none l = R := ⟨_, rfl⟩
    rw [hRes]
    have HR := Lib.hid hRes
    clear hRes h72
    go_enter Try.func65, Try.ntmps65
    go_wp2
    go_loopg [10, 3, 4] N (fun g s10 s3 s4 wr => ∃ (i : Nat), i + g = N ∧ s10 = .int .i64 i ∧ Hid (Below w.heap.size w wr) ∧ Hid (psFrom (ahd l i) (l.drop i) = Res))
    case atStart => exact ⟨0, by omega, rfl, Below.refl _ _, HR.out⟩
    case round =>
      obtain ⟨i, hig, rfl, hb, hm⟩ := hrel
      cases gk with
      | succ g =>
        have hi : i < l.length := by have := hlen.out; omega
        have hiz : (i : Int) < (N : Int) := by omega
        have hi0 : (0 : Int) ≤ (i : Int) := by omega
        obtain ⟨b, o, rfl, -, hx1⟩ := hx.out.resolve_left (by rintro rfl; simp at hi)
        obtain ⟨s1, hat, hv1⟩ := (hx1.on' hb.out).at i hi
        obtain ⟨p1, n1, c1, rfl⟩ := hdP hv1
        obtain ⟨a0, a1, a2, a3, a4⟩ := ats5 hat
        simp only [show RP.n = 5 from rfl] at a0 a1 a2 a3 a4
        have hm' := hm.out
        rw [ps_step hi] at hm'
        have HM' := Lib.hid hm'
        clear hm hm' hat hx
        have hv := Lib.hid hv1.2
        clear hv1
        have hprev : ∀ j, i = j + 1 → ∃ nj, ahd l i = some nj ∧ wr.cell? ⟨b, o + j * 5, none⟩ = some (.string nj) := fun j e => by
          have hj : j < l.length := by omega
          obtain ⟨s2, hat2, -⟩ := (hx1.on' hb.out).at j hj
          have := (ats5 hat2).1
          simp only [show RP.n = 5 from rfl] at this
          exact ⟨l[j].nm, by rw [e]; unfold ahd; simp [hj], this⟩
        have hprev := Lib.hid hprev
        have hlast : Hid (psFrom (ahd l (i + 1)) (l.drop (i + 1)) = psFrom (ahd l (i + 1)) (l.drop (i + 1))) := rfl
        generalize l[i] = x at *
        clear hx1
        have hW0 := World.alloc_heap_new wr (Obj.cells #[.string x.nm, .int .i64 x.v.k, .int .i64 x.v.n, .string x.v.s, .slice p1 n1 c1] 84)
        have hWb := Lib.hid (bel1 wr (Obj.cells #[.string x.nm, .int .i64 x.v.k, .int .i64 x.v.n, .string x.v.s, .slice p1 n1 c1] 84))
        obtain ⟨W, hW⟩ : ∃ W, wr.alloc (Obj.cells #[.string x.nm, .int .i64 x.v.k, .int .i64 x.v.n, .string x.v.s, .slice p1 n1 c1] 84) = W := ⟨_, rfl⟩
        rw [hW] at hW0 hWb
        obtain ⟨x0, x1, x2, x3, x4, -⟩ := five_of hW0
        have hvW := Lib.hid (hv.out.on hWb.out)
        have q79 : ∀ d os, Calls Try.prog 41 #[.string x.nm] (grow (redrawn W d) os) fun e w'' => e = .returned (.bool (nmB x.nm)) ∧ ∃ p : Regrown, w'' = grow (redrawn W p.d) p.os := fun d os => Calls.regrown_of (name_b _ _)
        have q80 : ∀ d os, Calls Try.prog 42 #[.agg #[.int .i64 x.v.k, .int .i64 x.v.n, .string x.v.s, .slice p1 n1 c1]] (grow (redrawn W d) os) fun e w'' => e = .returned (.int .i64 x.v.err) ∧ ∃ p : Regrown, w'' = grow (redrawn W p.d) p.os := fun d os => Calls.regrown_of (check_any x.v _ _ (hvW.out.on (below_regrown W d os)))
        have he := err_ne x.v
        have y0 := cell_regrown x0
        have y1 := cell_regrown x1
        have y2 := cell_regrown x2
        have y3 := cell_regrown x3
        have y4 := cell_regrown x4
        generalize x.v.err = E at *
        generalize x.v.may 1 = B3 at *
        generalize x.v.k = X1 at *
        generalize x.v.n = X2 at *
        generalize x.v.s = X3 at *
        generalize hB1 : nmB x.nm = B1 at *
        cases B1 with
        | false =>
          have hr : Hid (false = Res) := by show _ = _; have := HM'.out; simpa using this
          clear HM' hprev he
          go_wp2
          refine wp_region_quiet_below mixed (by kernel_rfl) ?_
          repeat (go_big_quiet_step (first | exact q79 _ _ | exact q80 _ _))
          refine wpQuiet_nil ?_
          intro _ hw'
          obtain ⟨⟨dq, osq⟩, hw''⟩ := hw'
          subst hw''
          have B7 := Lib.hid (below_regrown W dq osq)
          generalize grow (redrawn W dq) osq = w7 at B7 ⊢
          go_wp2
          go_ret
          exact ⟨by rw [← hr.out]; rfl, bel_then (bel_then hb.out hWb.out) B7.out⟩
        | true =>
          by_cases hi1 : i = 0
          · have hpk : ahd l i = none := by rw [hi1]; rfl
            rw [hpk] at HM'
            have hnz : (decide (0 < i)) = false := decide_eq_false (by omega)
            have hnz' : (decide ((0 : Int) < (i : Int))) = false := decide_eq_false (by omega)
            clear hprev hpk hi1
            cases B3 with
            | false =>
              have hr : Hid (false = Res) := by show _ = _; have := HM'.out; simpa using this
              have he' : (E != 0) = true := by simpa using he
              clear HM' he
              go_wp2
              refine wp_region_quiet_below mixed (by kernel_rfl) ?_
              repeat (go_big_quiet_step (first | exact q79 _ _ | exact q80 _ _))
              refine wpQuiet_nil ?_
              intro _ hw'
              obtain ⟨⟨dq, osq⟩, hw''⟩ := hw'
              subst hw''
              have B7 := Lib.hid (below_regrown W dq osq)
              generalize grow (redrawn W dq) osq = w7 at B7 ⊢
              go_wp2
              go_ret
              exact ⟨by rw [← hr.out]; rfl, bel_then (bel_then hb.out hWb.out) B7.out⟩
            | true =>
              have HM2 : Hid (psFrom (ahd l (i + 1)) (l.drop (i + 1)) = Res) := by show _ = _; have := HM'.out; simpa using this
              have he' : (E != 0) = false := by simpa using he
              clear HM' he
              go_wp2
              refine wp_region_quiet_below mixed (by kernel_rfl) ?_
              repeat (go_big_quiet_step (first | exact q79 _ _ | exact q80 _ _))
              refine wpQuiet_nil ?_
              intro _ hw'
              obtain ⟨⟨dq, osq⟩, hw''⟩ := hw'
              subst hw''
              have B7 := Lib.hid (below_regrown W dq osq)
              generalize grow (redrawn W dq) osq = w7 at B7 ⊢
              go_wp2
              go_roundg g
              case measure => omega
              case rel => exact ⟨i + 1, by omega, by first | rfl | simp, bel_then (bel_then hb.out hWb.out) B7.out, HM2⟩
          · obtain ⟨j, rfl⟩ : ∃ j, i = j + 1 := ⟨i - 1, by omega⟩
            obtain ⟨nj, hpk, hcj⟩ := hprev.out j rfl
            rw [hpk] at HM'
            have hcjW := cell_regrown (some_on hWb.out hcj)
            have hnz : (decide (0 < j + 1)) = true := decide_eq_true (by omega)
            have hnz' : (decide ((0 : Int) < ((j + 1 : Nat) : Int))) = true := decide_eq_true (by omega)
            have hnz'' : (decide ((0 : Int) < (j : Int) + 1)) = true := decide_eq_true (by omega)
            clear hprev hpk hi1
            generalize hB2 : bl nj x.nm = B2 at *
            have hbl : Op.bytesLess nj.toList x.nm.toList = B2 := hB2
            clear hB2
            cases B2 with
            | false =>
              have hr : Hid (false = Res) := by show _ = _; have := HM'.out; simpa [bl, hbl] using this
              clear HM' he
              go_wp2
              refine wp_region_quiet_below mixed (by kernel_rfl) ?_
              repeat (go_big_quiet_step (first | exact q79 _ _ | exact q80 _ _))
              refine wpQuiet_nil ?_
              intro _ hw'
              obtain ⟨⟨dq, osq⟩, hw''⟩ := hw'
              subst hw''
              have B7 := Lib.hid (below_regrown W dq osq)
              generalize grow (redrawn W dq) osq = w7 at B7 ⊢
              go_wp2
              go_ret
              exact ⟨by rw [← hr.out]; rfl, bel_then (bel_then hb.out hWb.out) B7.out⟩
            | true =>
              cases B3 with
              | false =>
                have hr : Hid (false = Res) := by show _ = _; have := HM'.out; simpa [bl, hbl] using this
                have he' : (E != 0) = true := by simpa using he
                clear HM' he
                go_wp2
                refine wp_region_quiet_below mixed (by kernel_rfl) ?_
                repeat (go_big_quiet_step (first | exact q79 _ _ | exact q80 _ _))
                refine wpQuiet_nil ?_
                intro _ hw'
                obtain ⟨⟨dq, osq⟩, hw''⟩ := hw'
                subst hw''
                have B7 := Lib.hid (below_regrown W dq osq)
                generalize grow (redrawn W dq) osq = w7 at B7 ⊢
                go_wp2
                go_ret
                exact ⟨by rw [← hr.out]; rfl, bel_then (bel_then hb.out hWb.out) B7.out⟩
              | true =>
                have HM2 : Hid (psFrom (ahd l (j + 1 + 1)) (l.drop (j + 1 + 1)) = Res) := by show _ = _; have := HM'.out; simpa [bl, hbl] using this
                have he' : (E != 0) = false := by simpa using he
                clear HM' he
                go_wp2
                refine wp_region_quiet_below mixed (by kernel_rfl) ?_
                repeat (go_big_quiet_step (first | exact q79 _ _ | exact q80 _ _))
                refine wpQuiet_nil ?_
                intro _ hw'
                obtain ⟨⟨dq, osq⟩, hw''⟩ := hw'
                subst hw''
                have B7 := Lib.hid (below_regrown W dq osq)
                generalize grow (redrawn W dq) osq = w7 at B7 ⊢
                go_wp2
                go_roundg g
                case measure => omega
                case rel => exact ⟨j + 1 + 1, by omega, by first | rfl | simp, bel_then (bel_then hb.out hWb.out) B7.out, HM2⟩
      | zero =>
        have hA : Hid (true = Res) := by
          show _ = _
          rw [← hm.out, List.drop_eq_nil_of_le (by have := hlen.out; omega)]; unfold psFrom; rfl
        obtain rfl : i = N := by omega
        clear hm hx
        go_wp2
        go_ret
        exact ⟨by rw [← hA.out]; rfl, hb.out⟩
  · have hRes : Hid (psMay l = false) := by show _ = _; unfold psMay; rw [decide_eq_false h16, Bool.false_and]
    rw [hRes.out]
    clear hRes hx h72
    have hz : (16 : Int) < (l.length : Int) := by omega
    go_enter Try.func65, Try.ntmps65
    go_wp2
    go_ret
    exact ⟨rfl, Below.refl _ _⟩
end Go.Proofs.Yteknbploiombiaa
