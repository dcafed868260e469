/-
  What the document's Check does, and its inner functions.
-/
import Derived.Test.YtbgikgeknnmelaaGreatCheck
import Derived.Test.YtbgikgeknnmelaaGreatRef
namespace Go.Proofs.YtbgikgeknnmelaaGreat
open Go.RowKit
set_option linter.unusedVariables false      -- a walk need not use every condition

set_option maxHeartbeats 2000000 in
theorem all69 (l : List V) (sl : Value) (d : Int) (hd : I64 d) (hd1 : d < 9223372036854775800) (w : World) (hl : Sl w 0 l sl)
    (ih : ∀ x ∈ l, ∀ (sx : Value) (w' : World), x.In w' 0 sx → Calls Tryz.prog 82 #[x.agg sx, .int .i64 (d + 1)] w' fun e w'' => e = .returned (.bool (x.may (d + 2))) ∧ Below w'.heap.size w' w'') :
    Calls Tryz.prog 109 #[sl, .int .i64 d] w fun e w' => e = .returned (.bool (allMay l (d + 2))) ∧ Below w.heap.size w w' := by
  obtain ⟨p, cap, rfl, hc, hcm, -, hx⟩ := hl
  unfold maxLen at hcm
  unfold I64 at hd
  have wd : IntKind.i64.wrap (d + 1) = d + 1 := by rw [IntKind.wrap_i64]; omega
  go_enter Tryz.func109, Tryz.ntmps109
  go_wp2
  go_loopg [5] l.length (fun g i wr => ∃ k : Nat, g + k = l.length ∧ i = .int .i64 k ∧ Hid (∀ j (hj : j < l.length), j < k → V.may l[j] (d + 2) = true) ∧ Below w.heap.size w wr)
  case atStart => exact ⟨0, rfl, rfl, fun j _ h => absurd h (Nat.not_lt_zero _), Below.refl _ _⟩
  case round =>
    obtain ⟨k, hgk, rfl, hall, hB⟩ := hrel
    by_cases hk : k < l.length
    · obtain ⟨b, o, rfl, -, hx1⟩ := hx.resolve_left (by rintro rfl; simp at hk)
      obtain ⟨s1, a0, a1, a2, a3, hv1⟩ := (hx1.on' hB).at k hk
      have ih' := ih l[k] (List.getElem_mem hk) s1
      have hF : Hid (V.may l[k] (d + 2) = false → allMay l (d + 2) = false) := fun h => allMay_at hk h
      have hT : Hid (V.may l[k] (d + 2) = true → ∀ j (hj : j < l.length), j < k + 1 → V.may l[j] (d + 2) = true) := fun h j hj hjk => by
        by_cases e : j = k
        · subst e; exact h
        · exact hall j hj (by omega)
      clear ih hx hx1 hall
      unfold V.agg at ih'
      generalize l[k] = x at *
      obtain ⟨m, hm⟩ : ∃ m, V.may x (d + 2) = m := ⟨_, rfl⟩
      rw [hm] at ih' hF hT
      clear hm
      obtain ⟨p1, n1, c1, rfl⟩ := hv1.header
      cases m
      · go_wp2_with (go_at_call 82; refine (ih' _ hv1).mono ?_; rintro e w1 ⟨rfl, hb1⟩)
        go_ret
        exact ⟨ret_bool (hF.out (by simp)).symm, bel_then hB hb1⟩
      · go_wp2_with (go_at_call 82; refine (ih' _ hv1).mono ?_; rintro e w1 ⟨rfl, hb1⟩)
        go_roundg (gk - 1)
        case rel => exact ⟨k + 1, by omega, by go_num, hT.out (by simp), bel_then hB hb1⟩
        case measure => omega
    · have hA : Hid (allMay l (d + 2) = true) := allMay_all fun i hi => hall i hi (by omega)
      obtain rfl : k = l.length := by omega
      clear ih hx hall
      go_wp2
      go_ret
      exact ⟨ret_bool hA.out.symm, hB⟩
set_option maxHeartbeats 2000000 in
theorem rises70 (l : List V) (sl : Value) (w : World) (hl : Sl w 0 l sl) :
    Calls Tryz.prog 110 #[sl] w fun e w' => e = .returned (.bool (rise l)) ∧ Below w.heap.size w w' := by
  obtain ⟨p, cap, rfl, hc, hcm, h56, hx⟩ := hl
  unfold maxLen at hcm
  go_enter Tryz.func110, Tryz.ntmps110
  go_wp2
  go_loopg [3] (l.length + 2) (fun g i wr => ∃ k q : Nat, g = l.length + 2 - k ∧ q = k + 2 ∧ i = .int .i64 q ∧ Hid (rise l = rise (l.drop k)) ∧ k ≤ l.length + 1 ∧ Below w.heap.size w wr)
  case atStart => exact ⟨0, 2, rfl, rfl, rfl, rfl, by omega, Below.refl _ _⟩
  case round =>
    obtain ⟨k, q, hgk, hq, rfl, hr, hk1, hB⟩ := hrel
    by_cases hk : q < l.length
    · obtain ⟨b, o, rfl, -, hx1⟩ := hx.resolve_left (by rintro rfl; simp at hk)
      have hkl : k < l.length := by omega
      obtain ⟨s1, a0, a1, a2, a3, hv1⟩ := (hx1.on' hB).at k hkl
      obtain ⟨s2, b0, b1, b2, b3, hv2⟩ := (hx1.on' hB).at q hk
      have c29 := fun w => refCmp_any l[k] l[q] s1 s2 w
      have hr1 : Hid (rise l = (decide (V.cmp l[k] l[q] < 0) && rise (l.drop q))) := by subst hq; exact hr.out.trans (rise_drop hk)
      have w1 : IntKind.i64.wrap ((q : Int) - 2) = (k : Int) := by rw [IntKind.wrap_i64]; omega
      have w3 : IntKind.i64.wrap (k : Int) = (k : Int) := by rw [IntKind.wrap_i64]; omega
      have i0 : (0 : Int) ≤ k := by omega
      have i1 : (k : Int) < (l.length : Int) := by omega
      have i2 : (q : Int) < (l.length : Int) := by omega
      have hq' : Hid (q = k + 2) := hq
      clear hx hx1 hr hq
      unfold V.agg at c29
      generalize l[k] = x at *
      generalize l[q] = y at *
      obtain ⟨c, hcmp⟩ : ∃ c, V.cmp x y = c := ⟨_, rfl⟩
      rw [hcmp] at c29 hr1
      clear hcmp
      obtain ⟨p1, n1, c1, rfl⟩ := hv1.header
      obtain ⟨p2, n2, c2, rfl⟩ := hv2.header
      go_wp2
      go_region_held3 (fun w' => w'.cell? ⟨b, o + k * 4, none⟩ = some (.int .i64 x.k) ∧ w'.cell? ⟨b, o + k * 4 + 1, none⟩ = some (.int .i64 x.n) ∧ w'.cell? ⟨b, o + k * 4 + 2, none⟩ = some (.string x.s) ∧ w'.cell? ⟨b, o + k * 4 + 3, none⟩ = some (.slice p1 n1 c1) ∧
          w'.cell? ⟨b, o + q * 4, none⟩ = some (.int .i64 y.k) ∧ w'.cell? ⟨b, o + q * 4 + 1, none⟩ = some (.int .i64 y.n) ∧ w'.cell? ⟨b, o + q * 4 + 2, none⟩ = some (.string y.s) ∧ w'.cell? ⟨b, o + q * 4 + 3, none⟩ = some (.slice p2 n2 c2))
        (first | exact ⟨a0, a1, a2, a3, b0, b1, b2, b3⟩ | exact ⟨some_on hb2 a0, some_on hb2 a1, some_on hb2 a2, some_on hb2 a3, some_on hb2 b0, some_on hb2 b1, some_on hb2 b2, some_on hb2 b3⟩)
        (first | (go_at_call 73; refine (c29 _ (hv1.on (Below.refl _ _).drew) (hv2.on (Below.refl _ _).drew)).mono ?_; rintro e w2 ⟨rfl, hb2⟩))
      go_wp2
      · go_ret
        have h : 0 ≤ c := by assumption
        exact ⟨ret_bool (by rw [hr1.out]; simp; omega), bel_then hB (bel_then (Below.refl _ wr).drew hb2)⟩
      · have h : ¬ 0 ≤ c := by omega
        have hq := hq'.out
        go_roundg (gk - 2)
        case rel => exact ⟨q, q + 2, by omega, rfl, by go_num, by show _ = _; rw [hr1.out, decide_eq_true (show c < 0 by omega)]; rfl, by omega, bel_then hB (bel_then (Below.refl _ wr).drew hb2)⟩
        case measure => omega
    · have hA : Hid (rise l = true) := hr.out.trans (rise_end (by omega))
      clear hx hr hq
      go_wp2
      go_ret
      exact ⟨ret_bool hA.out.symm, hB⟩

set_option maxHeartbeats 4000000 in
theorem may46_of (k n : Int) (s : ByteArray) (l : List V) (sl : Value) (d : Int) (hd : I64 d) (w : World) (hin : (V.mk k n s l).In w 0 sl)
    (ih : d ≤ 7 → ∀ x ∈ l, ∀ (sx : Value) (w' : World), x.In w' 0 sx → Calls Tryz.prog 82 #[x.agg sx, .int .i64 (d + 1)] w' fun e w'' => e = .returned (.bool (x.may (d + 2))) ∧ Below w'.heap.size w' w'') :
    Calls Tryz.prog 82 #[.agg #[.int .i64 k, .int .i64 n, .string s, sl], .int .i64 d] w fun e w' => e = .returned (.bool ((V.mk k n s l).may (d + 1))) ∧ Below w.heap.size w w' := by
  have hS := ((V.in_iff _ _ _ _).1 hin).2.2.2
  obtain ⟨b1, b2, b3, p, cap, rfl, hc, hcm, h56, -⟩ := (V.in_iff _ _ _ _).1 hin
  simp only [V.l, V.k, V.n, V.s] at *
  unfold I64 at b1 b2 hd
  unfold maxLen at hcm
  have c69 := fun h w' hb => all69 l (.slice p l.length cap) d (by unfold I64; omega) (by omega) w' (hS.on hb) (ih h)
  have c70 := fun w' hb => rises70 l (.slice p l.length cap) w' (hS.on hb)
  clear ih hin hS
  by_cases h8 : 7 < d
  · have hF : Hid (V.may (V.mk k n s l) (d + 1) = false) := by show _ = _; simp only [V.may, decide_eq_false (show ¬ d + 1 ≤ 8 by omega), Bool.false_and]
    go_enter Tryz.func82, Tryz.ntmps82
    go_wp2
    go_ret
    exact ⟨ret_bool hF.out.symm, bel1 w _⟩
  · have h8' : d ≤ 7 := by omega
    have c69 := c69 h8'
    have hT : Hid (V.may (V.mk k n s l) (d + 1) = (onlyB k n s l.length && (if k = 1 then true else if k = 2 then decide (s.size ≤ 128) else if k = 3 then decide (n = 0) || decide (n = 1)
         else if k = 6 ∨ k = 7 then decide (1 ≤ n) && decide (n ≤ 281474976710656)
         else if k = 4 then decide (l.length ≤ 256) && allMay l (d + 2)
         else if k = 5 then decide (l.length ≤ 512) && decide (l.length % 2 = 0) && allMay l (d + 2) && rise l
         else false))) := by show _ = _; simp only [V.may, decide_eq_true (show d + 1 ≤ 8 by omega), Bool.true_and, show d + 1 + 1 = d + 2 by omega]
    generalize V.may (V.mk k n s l) (d + 1) = M at *
    obtain ⟨am, ham⟩ : ∃ am, allMay l (d + 2) = am := ⟨_, rfl⟩
    obtain ⟨ri, hri⟩ : ∃ ri, rise l = ri := ⟨_, rfl⟩
    rw [ham] at c69 hT; rw [hri] at c70 hT
    clear ham hri
    by_cases hk : 1 ≤ k ∧ k ≤ 7
    · have hk' : k = 1 ∨ k = 2 ∨ k = 3 ∨ k = 4 ∨ k = 5 ∨ k = 6 ∨ k = 7 := by omega
      rcases hk' with rfl | rfl | rfl | rfl | rfl | rfl | rfl
      all_goals
        go_enter Tryz.func82, Tryz.ntmps82
        go_wp2_with (first
          | (go_at_call 109; refine (c69 _ (bel1 w _)).mono ?_; rintro e w2 ⟨rfl, hb2⟩; have hB2 := bel_then (bel1 w _) hb2; obtain ⟨x0, x1, x2, x3⟩ := box4 hb2; clear hb2)
          | (go_at_call 110; refine (c70 _ hB2).mono ?_; rintro e w3 ⟨rfl, hb3⟩; have hB3 := bel_then hB2 hb3; clear hb3))
        all_goals go_ret
        all_goals refine ⟨ret_bool ?_, by first | exact hB3 | exact hB2 | exact bel1 w _⟩
        all_goals rw [hT.out]
        all_goals clear hT c69 c70
        all_goals (first | (simp_all [onlyB, nil_size]; done) | (simp_all [onlyB, nil_size]; omega) | (simp_all [onlyB, nil_size]; exact cast_zero _) | (rw [Bool.eq_iff_iff]; simp_all [onlyB, nil_size]; done))
    · have n1 : (k == 1) = false := by simp; omega
      have n2 : (k == 2) = false := by simp; omega
      have n3 : (k == 3) = false := by simp; omega
      have n4 : (k == 4) = false := by simp; omega
      have n5 : (k == 5) = false := by simp; omega
      have n6 : (k == 6) = false := by simp; omega
      have n7 : (k == 7) = false := by simp; omega
      have hF : Hid (M = false) := by
        show _ = _
        rw [hT.out, if_neg (by omega), if_neg (by omega), if_neg (by omega), if_neg (by omega), if_neg (by omega), if_neg (by omega), Bool.and_false]
      clear hk
      go_enter Tryz.func82, Tryz.ntmps82
      go_wp2
      go_ret
      exact ⟨ret_bool hF.out.symm, bel1 w _⟩

theorem may46 : ∀ (N : Nat) (x : V), SizeOf.sizeOf x < N → ∀ (d : Int) (sx : Value) (w : World), I64 d → x.In w 0 sx →
    Calls Tryz.prog 82 #[x.agg sx, .int .i64 d] w fun e w' => e = .returned (.bool (x.may (d + 1))) ∧ Below w.heap.size w w'
  | 0, _, h => absurd h (Nat.not_lt_zero _)
  | N + 1, .mk k n s l, h => fun d sx w hd hx => may46_of k n s l sx d hd w hx fun h8 x hx sx w' hix => by
      have := may46 N x (by
        have := List.sizeOf_lt_of_mem hx
        simp at h
        omega) (d + 1) sx w' (by unfold I64 at *; omega) hix
      rw [show d + 1 + 1 = d + 2 by omega] at this
      exact this

set_option maxHeartbeats 1000000 in
theorem refCheck14 (x : V) (sx : Value) (w : World) (hx : x.In w 0 sx) :
    Calls Tryz.prog 58 #[x.agg sx] w fun e w' => e = .returned (.int .i64 x.err) ∧ Below w.heap.size w w' := by
  have c46 := fun w => may46 (SizeOf.sizeOf x + 1) x (Nat.lt_succ_self _) 0 sx w (by unfold I64; decide)
  rw [show (0 : Int) + 1 = 1 by omega] at c46
  unfold V.err
  obtain ⟨m, hm⟩ : ∃ m, V.may x 1 = m := ⟨_, rfl⟩
  rw [hm] at c46 ⊢
  clear hm
  unfold V.agg at c46 ⊢
  obtain ⟨p1, n1, q1, rfl⟩ := hx.header
  cases m
  · go_enter Tryz.func58, Tryz.ntmps58
    go_wp2_with (go_at_call 82; refine (c46 _ (hx.on (bel1 w _))).mono ?_; rintro e w1 ⟨rfl, hb1⟩)
    go_ret
    exact ⟨ret_int (by simp), bel_then (bel1 w _) hb1⟩
  · go_enter Tryz.func58, Tryz.ntmps58
    go_wp2_with (go_at_call 82; refine (c46 _ (hx.on (bel1 w _))).mono ?_; rintro e w1 ⟨rfl, hb1⟩)
    go_ret
    exact ⟨ret_int (by simp), bel_then (bel1 w _) hb1⟩
end Go.Proofs.YtbgikgeknnmelaaGreat
