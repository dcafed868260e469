/-
  The reader of package value, open or not, and whatever is wrong: numbers, ids.
-/
import Derived.Test.YtbicodlclmdgaaaGreatDoorRoF
namespace Go.Proofs.YtbicodlclmdgaaaGreatDoor
open Go.RowKit
set_option linter.unusedVariables false      -- a walk need not use every condition

set_option maxHeartbeats 1000000 in
theorem widest121 (n lim : Int) (hn : I64 n) (hl0 : 0 ≤ lim) (hl1 : lim ≤ 9223372036854775807) (w : World) :
    Calls Tryz.prog 121 #[.int .i64 n, .int .i64 lim] w fun e w' => ∃ m, e = .returned (.int .i64 m) ∧ I64 m ∧ w' = w := by
  by_cases h1 : n ≤ 0
  · have i1 : decide (n ≤ 0) = true := decide_eq_true h1
    go_enter Tryz.func121, Tryz.ntmps121
    go_wp2
    go_ret
    exact ⟨n, rfl, hn, rfl⟩
  · by_cases h2 : lim < n
    · go_enter Tryz.func121, Tryz.ntmps121
      go_wp2
      go_ret
      exact ⟨n, rfl, hn, rfl⟩
    · go_enter Tryz.func121, Tryz.ntmps121
      go_wp2
      go_loopg [0, 5] (lim - n).toNat (fun c a b wr => ∃ (x s : Int), a = .int .i64 x ∧ b = .int .i64 s ∧ (c : Int) = lim - x ∧ 1 ≤ s ∧ s ≤ x ∧ x ≤ lim ∧ wr = w)
      case atStart => exact ⟨n, 1, rfl, rfl, by omega, by omega, by omega, by omega, rfl⟩
      case round =>
        obtain ⟨x, s, rfl, rfl, hc, hs1, hsx, hxl, rfl⟩ := hrel
        obtain ⟨D, hD⟩ : ∃ D, lim.tdiv 10 = D := ⟨_, rfl⟩
        have hDD : 10 * D ≤ lim ∧ lim < 10 * D + 10 := by
          rw [Int.tdiv_eq_ediv_of_nonneg hl0] at hD
          omega
        have wD : IntKind.i64.wrap D = D := by rw [IntKind.wrap_i64]; omega
        by_cases hx : x ≤ D
        · have w1 : IntKind.i64.wrap (x * 10) = x * 10 := by rw [IntKind.wrap_i64]; omega
          have w2 : IntKind.i64.wrap (s * 10) = s * 10 := by rw [IntKind.wrap_i64]; omega
          go_wp2
          go_roundg (lim - x * 10).toNat
          case rel => exact ⟨x * 10, s * 10, rfl, rfl, by omega, by omega, by omega, by omega, rfl⟩
          case measure => omega
        · have w1 : IntKind.i64.wrap (s - 1) = s - 1 := by rw [IntKind.wrap_i64]; omega
          have w2 : IntKind.i64.wrap (lim - x) = lim - x := by rw [IntKind.wrap_i64]; omega
          go_wp2
          go_ret
          exact ⟨x + min (s - 1) (lim - x), rfl, by unfold I64; omega, rfl⟩
set_option maxHeartbeats 1000000 in
set_option maxRecDepth 20000 in
theorem num_a (w : World) (r : Nat) (T : ByteArray) (p : Nat) (o : Bool) (k : Nat) (h : Ro w r T p o k) (hT : T.size ≤ 140737488000000) (lim : Int) (hl0 : 0 ≤ lim) (hl1 : lim ≤ 9223372036854775807) (hp : p = T.size) :
    Calls Tryz.prog 103 #[.pointer (some ⟨r, 0, none⟩), .int .i64 lim] w fun e w' => (o = true ∧ e = .returned (.int .i64 lim) ∧ Rq r T p o k w w') ∨ (o = false ∧ Fails r T w e w') := by
  have hb : ((p : Int) == (T.size : Int)) = true := by simp; omega
  obtain ⟨c0, c1, c2, c3, cf⟩ := h.cells
  go_enter Tryz.func103, Tryz.ntmps103
  go_wp2
  go_quiet (first | (go_at_call 80; refine Calls.quiet_of (ended80_q _ r T p o k (h.dn _) _ hb)))
  have hR := (Rq.refl h).dn nq
  have c96 := cut96_end _ r T p o k hR.2 hp
  go_wp2_with (go_at_call 96; refine c96.mono ?_; rintro e w2 (⟨ho, rfl, h2⟩ | ⟨ho, q2, hq2, rfl, hg⟩); (try obtain ⟨d0, d1, d2, d3, df⟩ := h2.2.cells))
  · go_ret
    exact .inl ⟨ho, rfl, hR.trans h2⟩
  · exact ⟨rfl, .inr ⟨ho, q2, hq2, rfl, hR.1.trans hg⟩⟩
set_option maxHeartbeats 1000000 in
set_option maxRecDepth 20000 in
theorem num_b (w : World) (r : Nat) (T : ByteArray) (p : Nat) (o : Bool) (k : Nat) (h : Ro w r T p o k) (hT : T.size ≤ 140737488000000) (lim : Int) (hl0 : 0 ≤ lim) (hl1 : lim ≤ 9223372036854775807) (hlt : p < T.size) (h45 : T[p].toNat = 45) (q : Nat) (hq0 : q = p + 1) (hqe : q = T.size) :
    Calls Tryz.prog 103 #[.pointer (some ⟨r, 0, none⟩), .int .i64 lim] w fun e w' => (o = true ∧ e = .returned (.int .i64 (-1)) ∧ Rq r T q o k w w') ∨ (o = false ∧ Fails r T w e w') := by
  have hb : ((p : Int) == (T.size : Int)) = false := by simp; omega
  have he : ((T[p].toNat : Int) == 45) = true := by simp; omega
  have hw : IntKind.i64.wrap ((p : Int) + 1) = (p : Int) + 1 := by rw [IntKind.wrap_i64]; omega
  have hqp : (p : Int) < (q : Int) := by omega
  obtain ⟨c0, c1, c2, c3, cf⟩ := h.cells
  clear h45
  go_enter Tryz.func103, Tryz.ntmps103
  go_wp2
  go_quiet (first | (go_at_call 80; refine Calls.quiet_of (ended80_q _ r T p o k (h.dn _) _ hb)))
  have hR := ((Rq.refl h).dn nq).step
  rw [← hq0] at hR
  have c96 := cut96_end _ r T q o k hR.2 hqe
  clear hq0
  go_wp2_with (go_at_call 96; refine c96.mono ?_; rintro e w2 (⟨ho, rfl, h2⟩ | ⟨ho, q2, hq2, rfl, hg⟩); (try obtain ⟨d0, d1, d2, d3, df⟩ := h2.2.cells))
  · go_ret
    exact .inl ⟨ho, rfl, hR.trans h2⟩
  · exact ⟨rfl, .inr ⟨ho, q2, hq2, rfl, hR.1.trans hg⟩⟩
set_option maxHeartbeats 1000000 in
set_option maxRecDepth 20000 in
theorem num_no_s (w : World) (r : Nat) (T : ByteArray) (p : Nat) (o : Bool) (k : Nat) (h : Ro w r T p o k) (hT : T.size ≤ 140737488000000) (lim : Int) (hl0 : 0 ≤ lim) (hl1 : lim ≤ 9223372036854775807) (hlt : p < T.size) (h45 : T[p].toNat = 45) (q : Nat) (hq0 : q = p + 1) (hlq : q < T.size) (hd : isDig T[q] = false) :
    Calls Tryz.prog 103 #[.pointer (some ⟨r, 0, none⟩), .int .i64 lim] w fun e w' => Fails r T w e w' := by
  have hnd : ¬ (48 ≤ T[q].toNat ∧ T[q].toNat ≤ 57) := by simpa [isDig] using hd
  clear hd
  have hb : ((p : Int) == (T.size : Int)) = false := by simp; omega
  have he : ((T[p].toNat : Int) == 45) = true := by simp; omega
  have hw : IntKind.i64.wrap ((p : Int) + 1) = (p : Int) + 1 := by rw [IntKind.wrap_i64]; omega
  have hpq : p ≤ q := by omega
  obtain ⟨c0, c1, c2, c3, cf⟩ := h.cells
  clear h45
  go_enter Tryz.func103, Tryz.ntmps103
  go_wp2
  go_quiet (first | (go_at_call 80; refine Calls.quiet_of (ended80_q _ r T p o k (h.dn _) _ hb)))
  have hR := ((Rq.refl h).dn nq).step
  rw [← hq0] at hR
  clear hq0
  have c96 := cut96_no _ r T q o k hR.2 hlq
  go_wp2_with (go_at_call 96; refine c96.mono ?_; rintro e w2 ⟨rfl, h2⟩; obtain ⟨d0, d1, d2, d3, df⟩ := h2.2.cells)
  go_quiet (first | (go_at_call 57; refine Calls.quiet_of_same (digit_no T[q] _ hnd)))
  have hR2 := (hR.trans h2).dn nq
  go_wp2_with (go_at_call 81; refine (giveUp81 _ r T q o k hR2.2 (by omega)).mono ?_; rintro e w6 ⟨q2, hq2, rfl, hg⟩)
  exact ⟨rfl, q2, hq2, rfl, hR2.1.trans hg⟩
set_option maxHeartbeats 1000000 in
set_option maxRecDepth 20000 in
theorem num_yes_s (w : World) (r : Nat) (T : ByteArray) (p : Nat) (o : Bool) (k : Nat) (h : Ro w r T p o k) (hT : T.size ≤ 140737488000000) (lim : Int) (hl0 : 0 ≤ lim) (hl1 : lim ≤ 9223372036854775807) (hlt : p < T.size) (h45 : T[p].toNat = 45) (q : Nat) (hq0 : q = p + 1) (hlq : q < T.size) (hd : isDig T[q] = true) :
    Calls Tryz.prog 103 #[.pointer (some ⟨r, 0, none⟩), .int .i64 lim] w
      (Comes r T o w (pDig (sub T p q) 0 (rest T q)) fun n p' e w' => e = .returned (.int .i64 n) ∧ q < p' ∧ I64 n ∧ Rq r T p' o k w w') := by
  have hdd : 48 ≤ T[q].toNat ∧ T[q].toNat ≤ 57 := by simpa [isDig] using hd
  obtain ⟨g1, g2⟩ := hdd
  have hdH : Hid (isDig T[q] = true) := hd
  clear hd
  have hb : ((p : Int) == (T.size : Int)) = false := by simp; omega
  have he : ((T[p].toNat : Int) == 45) = true := by simp; omega
  have hw : IntKind.i64.wrap ((p : Int) + 1) = (p : Int) + 1 := by rw [IntKind.wrap_i64]; omega
  have hpq : p ≤ q := by omega
  obtain ⟨c0, c1, c2, c3, cf⟩ := h.cells
  clear h45
  go_enter Tryz.func103, Tryz.ntmps103
  go_wp2
  go_quiet (first | (go_at_call 80; refine Calls.quiet_of (ended80_q _ r T p o k (h.dn _) _ hb)))
  have hR := ((Rq.refl h).dn nq).step
  rw [← hq0] at hR
  clear hq0
  have c96 := cut96_no _ r T q o k hR.2 hlq
  go_wp2_with (go_at_call 96; refine c96.mono ?_; rintro e w2 ⟨rfl, h2⟩; obtain ⟨d0, d1, d2, d3, df⟩ := h2.2.cells)
  go_quiet (first | (go_at_call 57; refine Calls.quiet_of_same (digit_yes T[q] _ g1 g2)))
  have hR2 := (hR.trans h2).dn nq
  have c120 := digits120o _ r T p q o k hR2.2 hpq (by omega) hT
  go_wp2_with (go_at_call 120; refine c120.mono ?_; rintro e w4 (⟨n4, p4, hp4, ⟨rfl, hle4, hn4, hpr4, h4⟩, hs4⟩ | ⟨⟨q2, hq2, rfl, hg⟩, hs4⟩))
  case inr => exact ⟨rfl, .inr ⟨⟨q2, hq2, rfl, hR2.1.trans hg⟩, hs4⟩⟩
  have hqp4 : Hid (q < p4) := hpr4.out hlq hdH.out
  clear c120 c96 hpr4
  obtain ⟨e0, e1, e2, e3, ef⟩ := h4.2.cells
  by_cases hl4 : p4 < T.size
  · go_wp2_with (go_at_call 80; refine (ended80_no _ r T p4 o k h4.2 hl4).mono ?_; rintro e w5 ⟨rfl, h5⟩)
    go_ret
    exact .inl ⟨n4, p4, hp4, ⟨rfl, hqp4.out, hn4, (hR2.trans h4).trans h5⟩, hs4⟩
  · have he4 : p4 = T.size := by omega
    cases o with
    | true =>
      go_wp2_with (first
        | (go_at_call 80; refine (ended80_yes _ r T p4 true k h4.2 he4).mono ?_; rintro e w5 ⟨rfl, h5⟩; obtain ⟨f0, f1, f2, f3, ff⟩ := h5.2.cells)
        | (go_at_call 121; refine (widest121 n4 lim hn4 hl0 hl1 _).mono ?_; rintro e w6 ⟨m6, rfl, hm6, rfl⟩))
      go_ret
      exact .inl ⟨m6, p4, hp4, ⟨rfl, hqp4.out, hm6, (hR2.trans h4).trans h5⟩, fun h => by cases h⟩
    | false =>
      go_wp2_with (first
        | (go_at_call 80; refine (ended80_yes _ r T p4 false k h4.2 he4).mono ?_; rintro e w5 ⟨rfl, h5⟩; obtain ⟨f0, f1, f2, f3, ff⟩ := h5.2.cells))
      go_ret
      exact .inl ⟨n4, p4, hp4, ⟨rfl, hqp4.out, hn4, (hR2.trans h4).trans h5⟩, fun _ => hs4.out trivial⟩
set_option maxHeartbeats 1000000 in
set_option maxRecDepth 20000 in
theorem num_no_p (w : World) (r : Nat) (T : ByteArray) (p : Nat) (o : Bool) (k : Nat) (h : Ro w r T p o k) (hT : T.size ≤ 140737488000000) (lim : Int) (hl0 : 0 ≤ lim) (hl1 : lim ≤ 9223372036854775807) (q : Nat) (hq0 : q = p) (hlq : q < T.size) (h45 : T[q].toNat ≠ 45) (hd : isDig T[q] = false) :
    Calls Tryz.prog 103 #[.pointer (some ⟨r, 0, none⟩), .int .i64 lim] w fun e w' => Fails r T w e w' := by
  have hnd : ¬ (48 ≤ T[q].toNat ∧ T[q].toNat ≤ 57) := by simpa [isDig] using hd
  clear hd
  subst hq0
  have hb : ((q : Int) == (T.size : Int)) = false := by simp; omega
  have he : ((T[q].toNat : Int) == 45) = false := by simp; omega
  have hpq : q ≤ q := by omega
  obtain ⟨c0, c1, c2, c3, cf⟩ := h.cells
  clear h45
  go_enter Tryz.func103, Tryz.ntmps103
  go_wp2
  go_quiet (first | (go_at_call 80; refine Calls.quiet_of (ended80_q _ r T q o k (h.dn _) _ hb)))
  have hR := (Rq.refl h).dn nq
  have c96 := cut96_no _ r T q o k hR.2 hlq
  go_wp2_with (go_at_call 96; refine c96.mono ?_; rintro e w2 ⟨rfl, h2⟩; obtain ⟨d0, d1, d2, d3, df⟩ := h2.2.cells)
  go_quiet (first | (go_at_call 57; refine Calls.quiet_of_same (digit_no T[q] _ hnd)))
  have hR2 := (hR.trans h2).dn nq
  go_wp2_with (go_at_call 81; refine (giveUp81 _ r T q o k hR2.2 (by omega)).mono ?_; rintro e w6 ⟨q2, hq2, rfl, hg⟩)
  exact ⟨rfl, q2, hq2, rfl, hR2.1.trans hg⟩
set_option maxHeartbeats 1000000 in
set_option maxRecDepth 20000 in
theorem num_yes_p (w : World) (r : Nat) (T : ByteArray) (p : Nat) (o : Bool) (k : Nat) (h : Ro w r T p o k) (hT : T.size ≤ 140737488000000) (lim : Int) (hl0 : 0 ≤ lim) (hl1 : lim ≤ 9223372036854775807) (q : Nat) (hq0 : q = p) (hlq : q < T.size) (h45 : T[q].toNat ≠ 45) (hd : isDig T[q] = true) :
    Calls Tryz.prog 103 #[.pointer (some ⟨r, 0, none⟩), .int .i64 lim] w
      (Comes r T o w (pDig (sub T p q) 0 (rest T q)) fun n p' e w' => e = .returned (.int .i64 n) ∧ q < p' ∧ I64 n ∧ Rq r T p' o k w w') := by
  have hdd : 48 ≤ T[q].toNat ∧ T[q].toNat ≤ 57 := by simpa [isDig] using hd
  obtain ⟨g1, g2⟩ := hdd
  have hdH : Hid (isDig T[q] = true) := hd
  clear hd
  subst hq0
  have hb : ((q : Int) == (T.size : Int)) = false := by simp; omega
  have he : ((T[q].toNat : Int) == 45) = false := by simp; omega
  have hpq : q ≤ q := by omega
  obtain ⟨c0, c1, c2, c3, cf⟩ := h.cells
  clear h45
  go_enter Tryz.func103, Tryz.ntmps103
  go_wp2
  go_quiet (first | (go_at_call 80; refine Calls.quiet_of (ended80_q _ r T q o k (h.dn _) _ hb)))
  have hR := (Rq.refl h).dn nq
  have c96 := cut96_no _ r T q o k hR.2 hlq
  go_wp2_with (go_at_call 96; refine c96.mono ?_; rintro e w2 ⟨rfl, h2⟩; obtain ⟨d0, d1, d2, d3, df⟩ := h2.2.cells)
  go_quiet (first | (go_at_call 57; refine Calls.quiet_of_same (digit_yes T[q] _ g1 g2)))
  have hR2 := (hR.trans h2).dn nq
  have c120 := digits120o _ r T q q o k hR2.2 hpq (by omega) hT
  go_wp2_with (go_at_call 120; refine c120.mono ?_; rintro e w4 (⟨n4, p4, hp4, ⟨rfl, hle4, hn4, hpr4, h4⟩, hs4⟩ | ⟨⟨q2, hq2, rfl, hg⟩, hs4⟩))
  case inr => exact ⟨rfl, .inr ⟨⟨q2, hq2, rfl, hR2.1.trans hg⟩, hs4⟩⟩
  have hqp4 : Hid (q < p4) := hpr4.out hlq hdH.out
  clear c120 c96 hpr4
  obtain ⟨e0, e1, e2, e3, ef⟩ := h4.2.cells
  by_cases hl4 : p4 < T.size
  · go_wp2_with (go_at_call 80; refine (ended80_no _ r T p4 o k h4.2 hl4).mono ?_; rintro e w5 ⟨rfl, h5⟩)
    go_ret
    exact .inl ⟨n4, p4, hp4, ⟨rfl, hqp4.out, hn4, (hR2.trans h4).trans h5⟩, hs4⟩
  · have he4 : p4 = T.size := by omega
    cases o with
    | true =>
      go_wp2_with (first
        | (go_at_call 80; refine (ended80_yes _ r T p4 true k h4.2 he4).mono ?_; rintro e w5 ⟨rfl, h5⟩; obtain ⟨f0, f1, f2, f3, ff⟩ := h5.2.cells)
        | (go_at_call 121; refine (widest121 n4 lim hn4 hl0 hl1 _).mono ?_; rintro e w6 ⟨m6, rfl, hm6, rfl⟩))
      go_ret
      exact .inl ⟨m6, p4, hp4, ⟨rfl, hqp4.out, hm6, (hR2.trans h4).trans h5⟩, fun h => by cases h⟩
    | false =>
      go_wp2_with (first
        | (go_at_call 80; refine (ended80_yes _ r T p4 false k h4.2 he4).mono ?_; rintro e w5 ⟨rfl, h5⟩; obtain ⟨f0, f1, f2, f3, ff⟩ := h5.2.cells))
      go_ret
      exact .inl ⟨n4, p4, hp4, ⟨rfl, hqp4.out, hn4, (hR2.trans h4).trans h5⟩, fun _ => hs4.out trivial⟩
theorem sub_self (T : ByteArray) (p : Nat) : sub T p p = [] := by unfold sub; apply List.eq_nil_of_length_eq_zero; simp
theorem sub_one {T : ByteArray} {p : Nat} (h : p < T.size) : sub T p (p + 1) = [T[p]] := by rw [sub_snoc (Nat.le_refl _) h, sub_self]; rfl
theorem number103o (w : World) (r : Nat) (T : ByteArray) (p : Nat) (o : Bool) (k : Nat) (h : Ro w r T p o k) (hT : T.size ≤ 140737488000000) (lim : Int) (hl0 : 0 ≤ lim) (hl1 : lim ≤ 9223372036854775807) (hp : p ≤ T.size) :
    Calls Tryz.prog 103 #[.pointer (some ⟨r, 0, none⟩), .int .i64 lim] w
      (Comes r T o w (pNum (rest T p)) fun n p' e w' => e = .returned (.int .i64 n) ∧ p ≤ p' ∧ (p < T.size → p < p') ∧ I64 n ∧ Rq r T p' o k w w') := by
  by_cases hlt : p < T.size
  · by_cases h45 : T[p].toNat = 45
    · have hsp : pNum (rest T p) = pNum1 [T[p]] (rest T (p + 1)) := by rw [rest_cons hlt]; simp only [pNum]; rw [if_pos h45]
      by_cases hlq : p + 1 < T.size
      · cases hd : isDig T[p + 1] with
        | false =>
          refine (num_no_s w r T p o k h hT lim hl0 hl1 hlt h45 _ rfl hlq hd).mono fun e w' hf => .inr ⟨hf, fun _ => ?_⟩
          rw [hsp, rest_cons hlq]; simp only [pNum1, hd]; rfl
        | true =>
          have hsp' : pNum (rest T p) = pDig (sub T p (p + 1)) 0 (rest T (p + 1)) := by rw [hsp, sub_one hlt, rest_cons hlq]; simp only [pNum1, hd]; rfl
          rw [hsp']
          refine (num_yes_s w r T p o k h hT lim hl0 hl1 hlt h45 _ rfl hlq hd).mono ?_
          rintro e w' (⟨n, p', hp', ⟨rfl, h1, h2, h3⟩, hs⟩ | hf)
          · exact .inl ⟨n, p', hp', ⟨rfl, by omega, fun _ => by omega, h2, h3⟩, hs⟩
          · exact .inr hf
      · have hqe : p + 1 = T.size := by omega
        refine (num_b w r T p o k h hT lim hl0 hl1 hlt h45 _ rfl hqe).mono ?_
        rintro e w' (⟨ho, rfl, hR⟩ | ⟨ho, hf⟩)
        · exact .inl ⟨-1, p + 1, by omega, ⟨rfl, by omega, fun _ => by omega, by unfold I64; omega, hR⟩, fun h => by rw [ho] at h; cases h⟩
        · exact .inr ⟨hf, fun _ => by rw [hsp, rest_nil hqe]; rfl⟩
    · have hsp : pNum (rest T p) = pNum1 [] (rest T p) := by rw [rest_cons hlt]; simp only [pNum]; rw [if_neg h45]
      cases hd : isDig T[p] with
      | false =>
        refine (num_no_p w r T p o k h hT lim hl0 hl1 _ rfl hlt h45 hd).mono fun e w' hf => .inr ⟨hf, fun _ => ?_⟩
        rw [hsp, rest_cons hlt]; simp only [pNum1, hd]; rfl
      | true =>
        have hsp' : pNum (rest T p) = pDig (sub T p p) 0 (rest T p) := by rw [hsp, sub_self, rest_cons hlt]; simp only [pNum1, hd]; rfl
        rw [hsp']
        refine (num_yes_p w r T p o k h hT lim hl0 hl1 _ rfl hlt h45 hd).mono ?_
        rintro e w' (⟨n, p', hp', ⟨rfl, h1, h2, h3⟩, hs⟩ | hf)
        · exact .inl ⟨n, p', hp', ⟨rfl, by omega, fun _ => by omega, h2, h3⟩, hs⟩
        · exact .inr hf
  · have hpe : p = T.size := by omega
    refine (num_a w r T p o k h hT lim hl0 hl1 hpe).mono ?_
    rintro e w' (⟨ho, rfl, hR⟩ | ⟨ho, hf⟩)
    · exact .inl ⟨lim, p, hp, ⟨rfl, Nat.le_refl _, fun h => absurd h hlt, by unfold I64; omega, hR⟩, fun h => by rw [ho] at h; cases h⟩
    · exact .inr ⟨hf, fun _ => by rw [rest_nil hpe]; rfl⟩
theorem id_spec {hd s : List UInt8} : pId hd s = (strip hd s).bind fun s1 => (pNum s1).bind fun x => (strip [93] x.2).map fun s3 => (x.1, s3) := by
  unfold pId
  cases strip hd s with
  | none => rfl
  | some s1 =>
    simp only [Option.bind_some]
    cases pNum s1 with
    | none => rfl
    | some x =>
      obtain ⟨n, s2⟩ := x
      simp only [Option.bind_some]
      cases strip [93] s2 <;> rfl
set_option maxHeartbeats 1000000 in
set_option maxRecDepth 20000 in
theorem id102o (w : World) (r : Nat) (T hd : ByteArray) (p : Nat) (o : Bool) (k : Nat) (h : Ro w r T p o k) (hp : p ≤ T.size) (hh : 0 < hd.size) (hT : T.size ≤ 140737488000000) :
    Calls Tryz.prog 102 #[.pointer (some ⟨r, 0, none⟩), .string hd] w
      (Comes r T o w (pId hd.data.toList (rest T p)) fun n p' e w' => e = .returned (.int .i64 n) ∧ p ≤ p' ∧ (p < T.size → p < p') ∧ I64 n ∧ Rq r T p' o k w w') := by
  have hTm : T.size ≤ maxLen := by unfold maxLen; omega
  rw [id_spec]
  have tk : True := trivial
  have c99 := word99o w r T hd p o k h hp hTm
  have c99' := fun w q h hq => word99o w r T ⟨#[93]⟩ q o k h hq hTm
  have c103 := fun w q h hq => number103o w r T q o k h hT 281474976710656 (by omega) (by omega) hq
  go_enter Tryz.func102, Tryz.ntmps102
  go_wp2_with (first
    | (go_at_call 99; clear tk; refine c99.mono ?_; rintro e w1 (⟨u1, p1, hp1, ⟨rfl, hle1, hlt1, h1⟩, hs1⟩ | ⟨⟨q2, hq2, rfl, hg⟩, hs1⟩))
    | (go_at_call 103; refine (c103 _ p1 h1.2 hp1).mono ?_; rintro e w2 (⟨n2, p2, hp2, ⟨rfl, hle2, hlt2, hn2, h2⟩, hs2⟩ | ⟨⟨q2, hq2, rfl, hg⟩, hs2⟩))
    | (go_at_call 99; refine (c99' _ p2 h2.2 hp2).mono ?_; rintro e w3 (⟨u3, p3, hp3, ⟨rfl, hle3, hlt3, h3⟩, hs3⟩ | ⟨⟨q2, hq2, rfl, hg⟩, hs3⟩)))
  · go_ret
    refine .inl ⟨n2, p3, hp3, ⟨rfl, by omega, fun hl => by have := hlt1 hh hl; omega, hn2, (h1.trans h2).trans h3⟩, fun ho => ?_⟩
    rw [map_some (hs1.out ho)]
    simp only [Option.bind_some]
    rw [hs2.out ho]
    simp only [Option.bind_some]
    rw [map_some (hs3.out ho)]; rfl
  · refine ⟨rfl, .inr ⟨⟨q2, hq2, rfl, (h1.trans h2).1.trans hg⟩, fun ho => ?_⟩⟩
    rw [map_some (hs1.out ho)]
    simp only [Option.bind_some]
    rw [hs2.out ho]
    simp only [Option.bind_some]
    rw [map_none (hs3.out ho)]; rfl
  · refine ⟨rfl, .inr ⟨⟨q2, hq2, rfl, h1.1.trans hg⟩, fun ho => ?_⟩⟩
    rw [map_some (hs1.out ho)]
    simp only [Option.bind_some]
    rw [hs2.out ho]; rfl
  · refine ⟨rfl, .inr ⟨⟨q2, hq2, rfl, hg⟩, fun ho => ?_⟩⟩
    rw [map_none (hs1.out ho)]; rfl
end Go.Proofs.YtbicodlclmdgaaaGreatDoor
