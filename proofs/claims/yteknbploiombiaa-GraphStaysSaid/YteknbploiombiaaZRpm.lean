/-
  Which rows of properties may be: the document's props.
-/
import Derived.Test.YteknbploiombiaaZPm
import Derived.Test.YteknbploiombiaaZRefRefCheck
namespace Go.Proofs.Yteknbploiombiaa
open Go.RowKit Go.Sort
set_option linter.unusedVariables false      -- a walk need not use every condition

theorem name_d (s : ByteArray) (w : World) : Calls Try.prog 58 #[.string s] w fun e w' => e = .returned (.bool (nmB s)) ∧ Below w.heap.size w w' :=
  (name39 s w).mono fun e w' ⟨h1, h2⟩ => ⟨h1, by rw [h2]; exact Below.refl _ _⟩
theorem leq_less : ∀ x y : List UInt8, (Op.bytesLess x y || x == y) = !Op.bytesLess y x
  | [], [] => by simp [Op.bytesLess]
  | _ :: _, [] => by simp [Op.bytesLess]
  | [], _ :: _ => by simp [Op.bytesLess]
  | a :: x, b :: y => by
    have ih := leq_less x y
    rw [Op.bytesLess, Op.bytesLess]
    have e1 : (a == b) = decide (a.toNat = b.toNat) := by rw [Bool.eq_iff_iff]; simp [UInt8.toNat_inj]
    have e2 : (b == a) = decide (b.toNat = a.toNat) := by rw [Bool.eq_iff_iff]; simp [UInt8.toNat_inj]
    rw [List.cons_beq_cons, e1, e2]
    simp only [UInt8.lt_iff_toNat_lt]
    rcases Nat.lt_trichotomy a.toNat b.toNat with h | h | h
    · have h1 : ¬ b.toNat < a.toNat := by omega
      have h2 : ¬ b.toNat = a.toNat := by omega
      simp [h, h1, h2]
    · simpa [h] using ih
    · have h1 : ¬ a.toNat < b.toNat := by omega
      have h2 : ¬ a.toNat = b.toNat := by omega
      simp [h, h1, h2]
set_option maxHeartbeats 8000000 in
set_option maxRecDepth 100000 in
theorem props84 (l : List Pr) (sl : Value) (w : World) (hs : Sq RP w 0 l sl) :
    Calls Try.prog 84 #[sl] w fun e w' => e = .returned (.bool (psMay l)) ∧ Below w.heap.size w w' := by
  obtain ⟨p, cap, rfl, hc, hcm, h72, hx⟩ := hs
  unfold maxLen at hcm
  have hx := Lib.hid hx
  by_cases h16 : l.length ≤ 16
  · have hRes : Hid (psMay l = psFrom none l) := by show _ = _; unfold psMay; rw [decide_eq_true h16, Bool.true_and]
    rw [hRes.out]
    clear hRes
    obtain ⟨N, hN⟩ : ∃ N, l.length = N := ⟨_, rfl⟩
    rw [hN] at hc h72 h16 ⊢
    have hlen : Hid (l.length = N) := hN
    clear hN
    have hz : ¬ (16 : Int) < (N : Int) := by omega
    obtain ⟨Res, hRes⟩ : ∃ R, psFrom none l = R := ⟨_, rfl⟩
    rw [hRes]
    have HR := Lib.hid hRes
    clear hRes h72
    go_enter Try.func84, Try.ntmps84
    go_wp2
    go_loopg [3] N (fun g s3 wr => ∃ (i : Nat), i + g = N ∧ s3 = .int .i64 i ∧ Hid (Below w.heap.size w wr) ∧ Hid (psFrom (ahd l i) (l.drop i) = Res))
    case atStart => exact ⟨0, by omega, rfl, Below.refl _ _, HR.out⟩
    case round =>
      obtain ⟨i, hig, rfl, hb, hm⟩ := hrel
      cases gk with
      | succ g =>
        have hi : i < l.length := by have := hlen.out; omega
        have hiz : (i : Int) < (N : Int) := by omega
        have hi0 : (0 : Int) ≤ (i : Int) := by omega
        obtain ⟨b, o, rfl, -, hx1⟩ := hx.out.resolve_left (by rintro rfl; simp at hi)
        obtain ⟨s1, hat, hv1⟩ := (hx1.on' hb.out).at i hi
        obtain ⟨p1, n1, c1, rfl⟩ := hdP hv1
        obtain ⟨a0, a1, a2, a3, a4⟩ := ats5 hat
        simp only [show RP.n = 5 from rfl] at a0 a1 a2 a3 a4
        have hm' := hm.out
        rw [ps_step hi] at hm'
        have HM' := Lib.hid hm'
        clear hm hm' hat hx
        have hv := Lib.hid hv1.2
        clear hv1
        have hprev : ∀ j, i = j + 1 → ∃ nj, ahd l i = some nj ∧ wr.cell? ⟨b, o + j * 5, none⟩ = some (.string nj) := fun j e => by
          have hj : j < l.length := by omega
          obtain ⟨s2, hat2, -⟩ := (hx1.on' hb.out).at j hj
          have := (ats5 hat2).1
          simp only [show RP.n = 5 from rfl] at this
          exact ⟨l[j].nm, by rw [e]; unfold ahd; simp [hj], this⟩
        have hprev := Lib.hid hprev
        generalize l[i] = x at *
        clear hx1
        have q50 : ∀ d os, Calls Try.prog 58 #[.string x.nm] (grow (redrawn wr d) os) fun e w'' => e = .returned (.bool (nmB x.nm)) ∧ ∃ p : Regrown, w'' = grow (redrawn wr p.d) p.os := fun d os => Calls.regrown_of (name_d _ _)
        have q94 : ∀ d os, Calls Try.prog 61 #[.agg #[.int .i64 x.v.k, .int .i64 x.v.n, .string x.v.s, .slice p1 n1 c1]] (grow (redrawn wr d) os) fun e w'' => e = .returned (.int .i64 x.v.err) ∧ ∃ p : Regrown, w'' = grow (redrawn wr p.d) p.os := fun d os => Calls.regrown_of (refCheck14 x.v _ _ (hv.out.on (below_regrown wr d os)))
        have he := err_ne x.v
        have y0 := cell_regrown a0
        have y1 := cell_regrown a1
        have y2 := cell_regrown a2
        have y3 := cell_regrown a3
        have y4 := cell_regrown a4
        generalize x.v.err = E at *
        generalize x.v.may 1 = B3 at *
        generalize x.v.k = X1 at *
        generalize x.v.n = X2 at *
        generalize x.v.s = X3 at *
        generalize hB1 : nmB x.nm = B1 at *
        cases B1 with
        | false =>
          have hr : Hid (false = Res) := by show _ = _; have := HM'.out; simpa using this
          clear HM' hprev he
          go_wp2
          refine wp_region_quiet_below mixed (by kernel_rfl) ?_
          repeat (go_big_quiet_step (first | exact q50 _ _ | exact q94 _ _))
          refine wpQuiet_nil ?_
          intro _ hw'
          obtain ⟨⟨dq, osq⟩, hw''⟩ := hw'
          subst hw''
          have B7 := Lib.hid (below_regrown wr dq osq)
          generalize grow (redrawn wr dq) osq = w7 at B7 ⊢
          go_wp2
          go_ret
          exact ⟨by rw [← hr.out]; rfl, bel_then hb.out B7.out⟩
        | true =>
          by_cases hi1 : i = 0
          · have hpk : ahd l i = none := by rw [hi1]; rfl
            rw [hpk] at HM'
            have hnz : (decide (0 < i)) = false := decide_eq_false (by omega)
            have hnz' : (decide ((0 : Int) < (i : Int))) = false := decide_eq_false (by omega)
            clear hprev hpk hi1
            cases B3 with
            | false =>
              have hr : Hid (false = Res) := by show _ = _; have := HM'.out; simpa using this
              have he' : (E != 0) = true := by simpa using he
              clear HM' he
              go_wp2
              refine wp_region_quiet_below mixed (by kernel_rfl) ?_
              repeat (go_big_quiet_step (first | exact q50 _ _ | exact q94 _ _))
              refine wpQuiet_nil ?_
              intro _ hw'
              obtain ⟨⟨dq, osq⟩, hw''⟩ := hw'
              subst hw''
              have B7 := Lib.hid (below_regrown wr dq osq)
              generalize grow (redrawn wr dq) osq = w7 at B7 ⊢
              go_wp2
              go_ret
              exact ⟨by rw [← hr.out]; rfl, bel_then hb.out B7.out⟩
            | true =>
              have HM2 : Hid (psFrom (ahd l (i + 1)) (l.drop (i + 1)) = Res) := by show _ = _; have := HM'.out; simpa using this
              have he' : (E != 0) = false := by simpa using he
              clear HM' he
              go_wp2
              refine wp_region_quiet_below mixed (by kernel_rfl) ?_
              repeat (go_big_quiet_step (first | exact q50 _ _ | exact q94 _ _))
              refine wpQuiet_nil ?_
              intro _ hw'
              obtain ⟨⟨dq, osq⟩, hw''⟩ := hw'
              subst hw''
              have B7 := Lib.hid (below_regrown wr dq osq)
              generalize grow (redrawn wr dq) osq = w7 at B7 ⊢
              go_wp2
              go_roundg g
              case measure => omega
              case rel => exact ⟨i + 1, by omega, by first | rfl | simp, bel_then hb.out B7.out, HM2⟩
          · obtain ⟨j, rfl⟩ : ∃ j, i = j + 1 := ⟨i - 1, by omega⟩
            obtain ⟨nj, hpk, hcj⟩ := hprev.out j rfl
            rw [hpk] at HM'
            have hcjW := cell_regrown hcj
            have hnz : (decide (0 < j + 1)) = true := decide_eq_true (by omega)
            have hnz' : (decide ((0 : Int) < ((j + 1 : Nat) : Int))) = true := decide_eq_true (by omega)
            have hnz'' : (decide ((0 : Int) < (j : Int) + 1)) = true := decide_eq_true (by omega)
            clear hprev hpk hi1
            generalize hB2 : bl nj x.nm = B2 at *
            have hbl : Op.bytesLess nj.toList x.nm.toList = B2 := hB2
            have hle : (Op.bytesLess x.nm.toList nj.toList || x.nm.toList == nj.toList) = !B2 := by rw [leq_less, hbl]
            clear hB2
            cases B2 with
            | false =>
              have hr : Hid (false = Res) := by show _ = _; have := HM'.out; simpa [bl, hbl] using this
              clear HM' he
              go_wp2
              refine wp_region_quiet_below mixed (by kernel_rfl) ?_
              repeat (go_big_quiet_step (first | exact q50 _ _ | exact q94 _ _))
              refine wpQuiet_nil ?_
              intro _ hw'
              obtain ⟨⟨dq, osq⟩, hw''⟩ := hw'
              subst hw''
              have B7 := Lib.hid (below_regrown wr dq osq)
              generalize grow (redrawn wr dq) osq = w7 at B7 ⊢
              go_wp2
              go_ret
              exact ⟨by rw [← hr.out]; rfl, bel_then hb.out B7.out⟩
            | true =>
              cases B3 with
              | false =>
                have hr : Hid (false = Res) := by show _ = _; have := HM'.out; simpa [bl, hbl] using this
                have he' : (E != 0) = true := by simpa using he
                clear HM' he
                go_wp2
                refine wp_region_quiet_below mixed (by kernel_rfl) ?_
                repeat (go_big_quiet_step (first | exact q50 _ _ | exact q94 _ _))
                refine wpQuiet_nil ?_
                intro _ hw'
                obtain ⟨⟨dq, osq⟩, hw''⟩ := hw'
                subst hw''
                have B7 := Lib.hid (below_regrown wr dq osq)
                generalize grow (redrawn wr dq) osq = w7 at B7 ⊢
                go_wp2
                go_ret
                exact ⟨by rw [← hr.out]; rfl, bel_then hb.out B7.out⟩
              | true =>
                have HM2 : Hid (psFrom (ahd l (j + 1 + 1)) (l.drop (j + 1 + 1)) = Res) := by show _ = _; have := HM'.out; simpa [bl, hbl] using this
                have he' : (E != 0) = false := by simpa using he
                clear HM' he
                go_wp2
                refine wp_region_quiet_below mixed (by kernel_rfl) ?_
                repeat (go_big_quiet_step (first | exact q50 _ _ | exact q94 _ _))
                refine wpQuiet_nil ?_
                intro _ hw'
                obtain ⟨⟨dq, osq⟩, hw''⟩ := hw'
                subst hw''
                have B7 := Lib.hid (below_regrown wr dq osq)
                generalize grow (redrawn wr dq) osq = w7 at B7 ⊢
                go_wp2
                go_roundg g
                case measure => omega
                case rel => exact ⟨j + 1 + 1, by omega, by first | rfl | simp, bel_then hb.out B7.out, HM2⟩
      | zero =>
        have hA : Hid (true = Res) := by
          show _ = _
          rw [← hm.out, List.drop_eq_nil_of_le (by have := hlen.out; omega)]; unfold psFrom; rfl
        obtain rfl : i = N := by omega
        clear hm hx
        go_wp2
        go_ret
        exact ⟨by rw [← hA.out]; rfl, hb.out⟩
  · have hRes : Hid (psMay l = false) := by show _ = _; unfold psMay; rw [decide_eq_false h16, Bool.false_and]
    rw [hRes.out]
    clear hRes hx h72
    have hz : (16 : Int) < (l.length : Int) := by omega
    go_enter Try.func84, Try.ntmps84
    go_wp2
    go_ret
    exact ⟨rfl, Below.refl _ _⟩
end Go.Proofs.Yteknbploiombiaa
