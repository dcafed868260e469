/-
  What Check of package value does, and its inner functions.
  What Name of package value, and the document's Name, do.
-/
import Derived.Test.YteknbploiombiaaZCmp
import Derived.Deep.RegionHeld3
import Derived.Deep.LoopGhost
namespace Go.Proofs.Yteknbploiombiaa
open Go.RowKit
set_option linter.unusedVariables false      -- a walk need not use every condition

/-- All fields are zero that the kind does not have. -/
def onlyB (k n : Int) (s : ByteArray) (len : Nat) : Bool :=
  if k = 2 then decide (n = 0) && decide (len = 0)
  else if k = 4 ∨ k = 5 then decide (n = 0) && decide (s.size = 0)
  else decide (s.size = 0) && decide (len = 0)
/-- The keys rise. -/
def rise : List V → Bool
  | a :: _ :: c :: r => decide (a.cmp c < 0) && rise (c :: r)
  | _ => true
mutual
/-- It may be, that deep. -/
def V.may : V → Int → Bool
  | .mk k n s l, d => decide (d ≤ 8) && onlyB k n s l.length &&
      (if k = 1 then true else if k = 2 then decide (s.size ≤ 128) else if k = 3 then decide (n = 0) || decide (n = 1)
       else if k = 6 ∨ k = 7 then decide (1 ≤ n) && decide (n ≤ 281474976710656)
       else if k = 4 then decide (l.length ≤ 256) && allMay l (d + 1)
       else if k = 5 then decide (l.length ≤ 512) && decide (l.length % 2 = 0) && allMay l (d + 1) && rise l
       else false)
def allMay : List V → Int → Bool
  | [], _ => true
  | v :: l, d => V.may v d && allMay l d
end
theorem ret_bool {a b : Bool} (h : a = b) : Ending.returned (.bool a) = .returned (.bool b) := by rw [h]

theorem cast_zero (n : Nat) : ((n : Int) == 0) = decide (n = 0) := by rw [Bool.eq_iff_iff]; simp
theorem nil_size (s : ByteArray) : s.toList = [] ↔ s.size = 0 := by
  rw [Go.Lib.toList_data, List.eq_nil_iff_length_eq_zero]; simp
theorem isEmpty_size (s : ByteArray) : s.toList.isEmpty = decide (s.size = 0) := by
  rw [Bool.eq_iff_iff, List.isEmpty_iff, nil_size]; simp

set_option maxHeartbeats 2000000 in
theorem only66 (k n : Int) (s : ByteArray) (p : Option Addr) (len cap : Nat) (w : World) :
    Calls Try.prog 95 #[.agg #[.int .i64 k, .int .i64 n, .string s, .slice p len cap]] w fun e w' => e = .returned (.bool (onlyB k n s len)) ∧ Below w.heap.size w w' := by
  go_enter Try.func95, Try.ntmps95
  go_wp2
  all_goals go_ret
  all_goals refine ⟨ret_bool ?_, bel1 w _⟩
  all_goals (first | (simp_all [onlyB, isEmpty_size, nil_size]; done) | (simp_all [onlyB, nil_size]; exact cast_zero _))

theorem may_in {w : World} {lo : Nat} {v : V} {sl : Value} (h : v.In w lo sl) : ∃ p cap, sl = .slice p v.l.length cap ∧ v.l.length ≤ 9223372036854775807 := by
  obtain ⟨_, _, _, p, cap, e, hc, hm, _⟩ := (V.in_iff _ _ _ _).1 h
  exact ⟨p, cap, e, by unfold maxLen at hm; omega⟩

theorem allMay_at {l : List V} {d : Int} {i : Nat} (hi : i < l.length) (h : V.may l[i] d = false) : allMay l d = false := by
  induction l generalizing i with
  | nil => exact absurd hi (Nat.not_lt_zero _)
  | cons v l ih =>
    simp only [allMay, Bool.and_eq_false_iff]
    cases i with
    | zero => exact Or.inl h
    | succ i => exact Or.inr (ih (i := i) (by simpa using hi) (by simpa using h))
theorem allMay_all {l : List V} {d : Int} (h : ∀ i (hi : i < l.length), V.may l[i] d = true) : allMay l d = true := by
  induction l with
  | nil => rfl
  | cons v l ih =>
    simp only [allMay, Bool.and_eq_true]
    exact ⟨h 0 (by simp), ih fun i hi => h (i + 1) (by simpa using hi)⟩

set_option maxHeartbeats 2000000 in
theorem all67 (l : List V) (sl : Value) (d : Int) (hd : I64 d) (w : World) (hl : Sl w 0 l sl)
    (ih : ∀ x ∈ l, ∀ (sx : Value) (w' : World), x.In w' 0 sx → Calls Try.prog 73 #[x.agg sx, .int .i64 d] w' fun e w'' => e = .returned (.bool (x.may d)) ∧ Below w'.heap.size w' w'') :
    Calls Try.prog 96 #[sl, .int .i64 d] w fun e w' => e = .returned (.bool (allMay l d)) ∧ Below w.heap.size w w' := by
  obtain ⟨p, cap, rfl, hc, hcm, -, hx⟩ := hl
  unfold maxLen at hcm
  unfold I64 at hd
  go_enter Try.func96, Try.ntmps96
  go_wp2
  go_loopg [9] l.length (fun g i wr => ∃ k : Nat, g + k = l.length ∧ i = .int .i64 k ∧ Hid (∀ j (hj : j < l.length), j < k → V.may l[j] d = true) ∧ Below w.heap.size w wr)
  case atStart => exact ⟨0, rfl, rfl, fun j _ h => absurd h (Nat.not_lt_zero _), Below.refl _ _⟩
  case round =>
    obtain ⟨k, hgk, rfl, hall, hB⟩ := hrel
    by_cases hk : k < l.length
    · obtain ⟨b, o, rfl, -, hx1⟩ := hx.resolve_left (by rintro rfl; simp at hk)
      obtain ⟨s1, a0, a1, a2, a3, hv1⟩ := (hx1.on' hB).at k hk
      have ih' := ih l[k] (List.getElem_mem hk) s1
      have hF : Hid (V.may l[k] d = false → allMay l d = false) := fun h => allMay_at hk h
      have hT : Hid (V.may l[k] d = true → ∀ j (hj : j < l.length), j < k + 1 → V.may l[j] d = true) := fun h j hj hjk => by
        by_cases e : j = k
        · subst e; exact h
        · exact hall j hj (by omega)
      clear ih hx hx1 hall
      unfold V.agg at ih'
      generalize l[k] = x at *
      obtain ⟨m, hm⟩ : ∃ m, V.may x d = m := ⟨_, rfl⟩
      rw [hm] at ih' hF hT
      clear hm
      obtain ⟨p1, n1, c1, rfl⟩ := hv1.header
      cases m
      · go_wp2_with (go_at_call 73; refine (ih' _ (hv1.on (bel1 wr _))).mono ?_; rintro e w1 ⟨rfl, hb1⟩)
        go_ret
        exact ⟨ret_bool (hF.out (by simp)).symm, bel_then hB (bel_then (bel1 wr _) hb1)⟩
      · go_wp2_with (go_at_call 73; refine (ih' _ (hv1.on (bel1 wr _))).mono ?_; rintro e w1 ⟨rfl, hb1⟩)
        go_roundg (gk - 1)
        case rel => exact ⟨k + 1, by omega, by go_num, hT.out (by simp), bel_then hB (bel_then (bel1 wr _) hb1)⟩
        case measure => omega
    · have hA : Hid (allMay l d = true) := allMay_all fun i hi => hall i hi (by omega)
      obtain rfl : k = l.length := by omega
      clear ih hx hall
      go_wp2
      go_ret
      exact ⟨ret_bool hA.out.symm, hB⟩
/-- The keys from i on rise. -/
theorem rise_drop {l : List V} {i : Nat} (hi : i + 2 < l.length) : rise (l.drop i) = (decide (V.cmp l[i] l[i + 2] < 0) && rise (l.drop (i + 2))) := by
  rw [List.drop_eq_getElem_cons (show i < l.length by omega), List.drop_eq_getElem_cons (show i + 1 < l.length by omega), List.drop_eq_getElem_cons (show i + 1 + 1 < l.length by omega)]
  rfl
theorem rise_end {l : List V} {i : Nat} (hi : l.length ≤ i + 2) : rise (l.drop i) = true := by
  have : (l.drop i).length ≤ 2 := by simp; omega
  match h : l.drop i, this with
  | [], _ => rfl
  | [_], _ => rfl
  | [_, _], _ => rfl

set_option maxHeartbeats 2000000 in
theorem rise68 (l : List V) (sl : Value) (w : World) (hl : Sl w 0 l sl) :
    Calls Try.prog 97 #[sl] w fun e w' => e = .returned (.bool (rise l)) ∧ Below w.heap.size w w' := by
  obtain ⟨p, cap, rfl, hc, hcm, h56, hx⟩ := hl
  unfold maxLen at hcm
  go_enter Try.func97, Try.ntmps97
  go_wp2
  go_loopg [3] (l.length + 2) (fun g i wr => ∃ k q : Nat, g = l.length + 2 - k ∧ q = k + 2 ∧ i = .int .i64 q ∧ Hid (rise l = rise (l.drop k)) ∧ k ≤ l.length + 1 ∧ Below w.heap.size w wr)
  case atStart => exact ⟨0, 2, rfl, rfl, rfl, rfl, by omega, Below.refl _ _⟩
  case round =>
    obtain ⟨k, q, hgk, hq, rfl, hr, hk1, hB⟩ := hrel
    by_cases hk : q < l.length
    · obtain ⟨b, o, rfl, -, hx1⟩ := hx.resolve_left (by rintro rfl; simp at hk)
      have hkl : k < l.length := by omega
      obtain ⟨s1, a0, a1, a2, a3, hv1⟩ := (hx1.on' hB).at k hkl
      obtain ⟨s2, b0, b1, b2, b3, hv2⟩ := (hx1.on' hB).at q hk
      have c28 := fun w => cmp_any l[k] l[q] s1 s2 w
      have hr1 : Hid (rise l = (decide (V.cmp l[k] l[q] < 0) && rise (l.drop q))) := by subst hq; exact hr.out.trans (rise_drop hk)
      have w1 : IntKind.i64.wrap ((q : Int) - 2) = (k : Int) := by rw [IntKind.wrap_i64]; omega
      have w3 : IntKind.i64.wrap (k : Int) = (k : Int) := by rw [IntKind.wrap_i64]; omega
      have i0 : (0 : Int) ≤ k := by omega
      have i1 : (k : Int) < (l.length : Int) := by omega
      have i2 : (q : Int) < (l.length : Int) := by omega
      have hq' : Hid (q = k + 2) := hq
      clear hx hx1 hr hq
      unfold V.agg at c28
      generalize l[k] = x at *
      generalize l[q] = y at *
      obtain ⟨c, hcmp⟩ : ∃ c, V.cmp x y = c := ⟨_, rfl⟩
      rw [hcmp] at c28 hr1
      clear hcmp
      obtain ⟨p1, n1, c1, rfl⟩ := hv1.header
      obtain ⟨p2, n2, c2, rfl⟩ := hv2.header
      go_wp2
      go_region_held3 (fun w' => w'.cell? ⟨b, o + k * 4, none⟩ = some (.int .i64 x.k) ∧ w'.cell? ⟨b, o + k * 4 + 1, none⟩ = some (.int .i64 x.n) ∧ w'.cell? ⟨b, o + k * 4 + 2, none⟩ = some (.string x.s) ∧ w'.cell? ⟨b, o + k * 4 + 3, none⟩ = some (.slice p1 n1 c1) ∧
          w'.cell? ⟨b, o + q * 4, none⟩ = some (.int .i64 y.k) ∧ w'.cell? ⟨b, o + q * 4 + 1, none⟩ = some (.int .i64 y.n) ∧ w'.cell? ⟨b, o + q * 4 + 2, none⟩ = some (.string y.s) ∧ w'.cell? ⟨b, o + q * 4 + 3, none⟩ = some (.slice p2 n2 c2))
        (first | exact ⟨a0, a1, a2, a3, b0, b1, b2, b3⟩ | exact ⟨some_on hb2 a0, some_on hb2 a1, some_on hb2 a2, some_on hb2 a3, some_on hb2 b0, some_on hb2 b1, some_on hb2 b2, some_on hb2 b3⟩)
        (first | (go_at_call 105; refine (c28 _ (hv1.on (Below.refl _ _).drew) (hv2.on (Below.refl _ _).drew)).mono ?_; rintro e w2 ⟨rfl, hb2⟩))
      go_wp2
      · go_ret
        have h : 0 ≤ c := by assumption
        exact ⟨ret_bool (by rw [hr1.out]; simp; omega), bel_then hB (bel_then (Below.refl _ wr).drew hb2)⟩
      · have h : ¬ 0 ≤ c := by omega
        have hq := hq'.out
        go_roundg (gk - 2)
        case rel => exact ⟨q, q + 2, by omega, rfl, by go_num, by show _ = _; rw [hr1.out, decide_eq_true (show c < 0 by omega)]; rfl, by omega, bel_then hB (bel_then (Below.refl _ wr).drew hb2)⟩
        case measure => omega
    · have hA : Hid (rise l = true) := hr.out.trans (rise_end (by omega))
      clear hx hr hq
      go_wp2
      go_ret
      exact ⟨ret_bool hA.out.symm, hB⟩
/-- A boxed value's cells stay. -/
theorem box4 {w w1 : World} {a b c d : Value} {t : TypeId} (hb : Below (w.alloc (.cells #[a, b, c, d] t)).heap.size (w.alloc (.cells #[a, b, c, d] t)) w1) :
    w1.cell? ⟨w.heap.size, 0, none⟩ = some a ∧ w1.cell? ⟨w.heap.size, 1, none⟩ = some b ∧ w1.cell? ⟨w.heap.size, 2, none⟩ = some c ∧ w1.cell? ⟨w.heap.size, 3, none⟩ = some d := by
  have e : w1.heap[w.heap.size]? = some (.cells #[a, b, c, d] t) := (hb.block w.heap.size (by simp)).trans (by show (w.heap.push _)[w.heap.size]? = _; simp)
  refine ⟨?_, ?_, ?_, ?_⟩ <;> simp [World.cell?, e]

set_option maxHeartbeats 4000000 in
theorem may45_of (k n : Int) (s : ByteArray) (l : List V) (sl : Value) (d : Int) (hd : I64 d) (w : World) (hin : (V.mk k n s l).In w 0 sl)
    (ih : d ≤ 8 → ∀ x ∈ l, ∀ (sx : Value) (w' : World), x.In w' 0 sx → Calls Try.prog 73 #[x.agg sx, .int .i64 (d + 1)] w' fun e w'' => e = .returned (.bool (x.may (d + 1))) ∧ Below w'.heap.size w' w'') :
    Calls Try.prog 73 #[.agg #[.int .i64 k, .int .i64 n, .string s, sl], .int .i64 d] w fun e w' => e = .returned (.bool ((V.mk k n s l).may d)) ∧ Below w.heap.size w w' := by
  have hS := ((V.in_iff _ _ _ _).1 hin).2.2.2
  obtain ⟨b1, b2, b3, p, cap, rfl, hc, hcm, h56, -⟩ := (V.in_iff _ _ _ _).1 hin
  simp only [V.l, V.k, V.n, V.s] at *
  unfold I64 at b1 b2 hd
  unfold maxLen at hcm
  have c66 := only66 k n s p l.length cap
  have c67 := fun h w' hb => all67 l (.slice p l.length cap) (d + 1) (by unfold I64; omega) w' (hS.on hb) (ih h)
  have c68 := fun w' hb => rise68 l (.slice p l.length cap) w' (hS.on hb)
  clear ih hin hS
  by_cases h8 : 8 < d
  · have hF : Hid (V.may (V.mk k n s l) d = false) := by show _ = _; simp only [V.may, decide_eq_false (show ¬ d ≤ 8 by omega), Bool.false_and]
    go_enter Try.func73, Try.ntmps73
    go_wp2
    go_ret
    exact ⟨ret_bool hF.out.symm, bel1 w _⟩
  · have h8' : d ≤ 8 := by omega
    have c67 := c67 h8'
    obtain ⟨m, hm⟩ : ∃ m, onlyB k n s l.length = m := ⟨_, rfl⟩
    rw [hm] at c66
    cases m
    · have hF : Hid (V.may (V.mk k n s l) d = false) := by show _ = _; simp only [V.may, hm, Bool.and_false, Bool.false_and]
      clear hm
      go_enter Try.func73, Try.ntmps73
      go_wp2_with (go_at_call 95; refine (c66 _).mono ?_; rintro e w1 ⟨rfl, hb1⟩)
      go_ret
      exact ⟨ret_bool hF.out.symm, bel_then (bel1 w _) hb1⟩
    · have hT : Hid (V.may (V.mk k n s l) d = (if k = 1 then true else if k = 2 then decide (s.size ≤ 128) else if k = 3 then decide (n = 0) || decide (n = 1)
         else if k = 6 ∨ k = 7 then decide (1 ≤ n) && decide (n ≤ 281474976710656)
         else if k = 4 then decide (l.length ≤ 256) && allMay l (d + 1)
         else if k = 5 then decide (l.length ≤ 512) && decide (l.length % 2 = 0) && allMay l (d + 1) && rise l
         else false)) := by show _ = _; simp only [V.may, hm, decide_eq_true h8', Bool.true_and]
      clear hm
      obtain ⟨am, ham⟩ : ∃ am, allMay l (d + 1) = am := ⟨_, rfl⟩
      obtain ⟨ri, hri⟩ : ∃ ri, rise l = ri := ⟨_, rfl⟩
      rw [ham] at c67 hT; rw [hri] at c68 hT
      clear ham hri
      have wd : IntKind.i64.wrap (d + 1) = d + 1 := by rw [IntKind.wrap_i64]; omega
      by_cases hk : 1 ≤ k ∧ k ≤ 7
      · have hk' : k = 1 ∨ k = 2 ∨ k = 3 ∨ k = 4 ∨ k = 5 ∨ k = 6 ∨ k = 7 := by omega
        rcases hk' with rfl | rfl | rfl | rfl | rfl | rfl | rfl
        all_goals
          go_enter Try.func73, Try.ntmps73
          go_wp2_with (first
            | (go_at_call 95; refine (c66 _).mono ?_; rintro e w1 ⟨rfl, hb1⟩; have hB1 := bel_then (bel1 w _) hb1; obtain ⟨x0, x1, x2, x3⟩ := box4 hb1; clear hb1)
            | (go_at_call 96; refine (c67 _ hB1).mono ?_; rintro e w2 ⟨rfl, hb2⟩; have hB2 := bel_then hB1 hb2; have x4 := some_on hb2 x3; clear hb2)
            | (go_at_call 97; refine (c68 _ hB2).mono ?_; rintro e w3 ⟨rfl, hb3⟩; have hB3 := bel_then hB2 hb3; clear hb3))
          all_goals go_ret
          all_goals refine ⟨ret_bool ?_, by first | exact hB3 | exact hB2 | exact hB1⟩
          all_goals rw [hT.out]
          all_goals clear hT c66 c67 c68
          all_goals first
            | (simp; done)
            | (simp; omega)
            | (have h5 : l.length ≤ 256 := by omega
               simp [h5]; done)
            | (have h5 : ¬ l.length ≤ 256 := by omega
               simp [h5]; omega)
            | (have h5 : ¬ l.length ≤ 256 := by omega
               simp [h5]; done)
            | (have h5 : l.length ≤ 512 := by omega
               have h6 : l.length % 2 = 0 := by omega
               simp_all; done)
            | (have h6 : ¬ l.length % 2 = 0 := by omega
               simp [h6]; done)
            | (have h5 : ¬ l.length ≤ 512 := by omega
               simp [h5]; done)
            | (rw [Bool.eq_iff_iff]; simp; done)
            | (rw [Bool.eq_iff_iff]; simp; omega)
      · have n1 : (k == 1) = false := by simp; omega
        have n2 : (k == 2) = false := by simp; omega
        have n3 : (k == 3) = false := by simp; omega
        have n4 : (k == 4) = false := by simp; omega
        have n5 : (k == 5) = false := by simp; omega
        have n6 : (k == 6) = false := by simp; omega
        have n7 : (k == 7) = false := by simp; omega
        have hF : Hid (V.may (V.mk k n s l) d = false) := by
          show _ = _
          rw [hT.out, if_neg (by omega), if_neg (by omega), if_neg (by omega), if_neg (by omega), if_neg (by omega), if_neg (by omega)]
        clear hk
        go_enter Try.func73, Try.ntmps73
        go_wp2_with (go_at_call 95; refine (c66 _).mono ?_; rintro e w1 ⟨rfl, hb1⟩; obtain ⟨x0, x1, x2, x3⟩ := box4 hb1)
        go_ret
        exact ⟨ret_bool hF.out.symm, bel_then (bel1 w _) hb1⟩

theorem may45 : ∀ (N : Nat) (x : V), SizeOf.sizeOf x < N → ∀ (d : Int) (sx : Value) (w : World), I64 d → x.In w 0 sx →
    Calls Try.prog 73 #[x.agg sx, .int .i64 d] w fun e w' => e = .returned (.bool (x.may d)) ∧ Below w.heap.size w w'
  | 0, _, h => absurd h (Nat.not_lt_zero _)
  | N + 1, .mk k n s l, h => fun d sx w hd hx => may45_of k n s l sx d hd w hx fun h8 x hx sx w' hix => may45 N x (by
      have := List.sizeOf_lt_of_mem hx
      simp at h
      omega) (d + 1) sx w' (by unfold I64 at *; omega) hix

/-- ErrValue, if it may not be. -/
def V.err (v : V) : Int := if v.may 1 = true then 0 else 20
set_option maxHeartbeats 1000000 in
theorem check_any (x : V) (sx : Value) (w : World) (hx : x.In w 0 sx) :
    Calls Try.prog 42 #[x.agg sx] w fun e w' => e = .returned (.int .i64 x.err) ∧ Below w.heap.size w w' := by
  have c45 := fun w => may45 (SizeOf.sizeOf x + 1) x (Nat.lt_succ_self _) 1 sx w (by unfold I64; decide)
  unfold V.err
  obtain ⟨m, hm⟩ : ∃ m, V.may x 1 = m := ⟨_, rfl⟩
  rw [hm] at c45 ⊢
  clear hm
  unfold V.agg at c45 ⊢
  obtain ⟨p1, n1, q1, rfl⟩ := hx.header
  cases m
  · go_enter Try.func42, Try.ntmps42
    go_wp2_with (go_at_call 73; refine (c45 _ (hx.on (bel1 w _))).mono ?_; rintro e w1 ⟨rfl, hb1⟩)
    go_ret
    exact ⟨ret_int (by simp), bel_then (bel1 w _) hb1⟩
  · go_enter Try.func42, Try.ntmps42
    go_wp2_with (go_at_call 73; refine (c45 _ (hx.on (bel1 w _))).mono ?_; rintro e w1 ⟨rfl, hb1⟩)
    go_ret
    exact ⟨ret_int (by simp), bel_then (bel1 w _) hb1⟩
end Go.Proofs.Yteknbploiombiaa
namespace Go.Proofs.Yteknbploiombiaa
open Go.RowKit

def isLet (c : UInt8) : Bool := decide (97 ≤ c.toNat ∧ c.toNat ≤ 122) || decide (65 ≤ c.toNat ∧ c.toNat ≤ 90)
def isDg (c : UInt8) : Bool := decide (48 ≤ c.toNat ∧ c.toNat ≤ 57)
def okc (c : UInt8) : Bool := isLet c || isDg c || decide (c.toNat = 95)
/-- Which texts are names. -/
def nm : List UInt8 → Bool
  | [] => false
  | c :: r => decide (r.length + 1 ≤ 24) && !isDg c && (c :: r).all okc
theorem isLet_yes {c : UInt8} (h : isLet c = true) : (97 ≤ c.toNat ∧ c.toNat ≤ 122) ∨ (65 ≤ c.toNat ∧ c.toNat ≤ 90) := by
  simpa [isLet] using h
theorem isLet_no {c : UInt8} (h : isLet c = false) : ¬ ((97 ≤ c.toNat ∧ c.toNat ≤ 122) ∨ (65 ≤ c.toNat ∧ c.toNat ≤ 90)) := by
  intro h'
  have : isLet c = true := by unfold isLet; rcases h' with h' | h' <;> simp [h']
  rw [h] at this; cases this
theorem take_snoc (s : ByteArray) (k : Nat) (h : k < s.size) : s.data.toList.take (k + 1) = s.data.toList.take k ++ [s[k]] := by
  rw [List.take_succ_eq_append_getElem (by simpa using h)]; rfl
theorem mem_at (s : ByteArray) (k : Nat) (h : k < s.size) : s[k] ∈ s.data.toList := by
  have : s[k] = s.data.toList[k]'(by simpa using h) := rfl
  rw [this]; exact List.getElem_mem _
theorem digit_yes (c : UInt8) (w : World) (h1 : 48 ≤ c.toNat) (h2 : c.toNat ≤ 57) : Calls Try.prog 71 #[.int .u8 c.toNat] w fun e w' => e = .returned (.bool true) ∧ w' = w := by
  have i1 : (48 : Int) ≤ c.toNat := by omega
  have i2 : (c.toNat : Int) ≤ 57 := by omega
  go_enter Try.func71, Try.ntmps71
  go_wp2
  go_ret
  exact ⟨rfl, rfl⟩
theorem digit_no (c : UInt8) (w : World) (h1 : ¬ (48 ≤ c.toNat ∧ c.toNat ≤ 57)) : Calls Try.prog 71 #[.int .u8 c.toNat] w fun e w' => e = .returned (.bool false) ∧ w' = w := by
  by_cases i1 : (48 : Int) ≤ c.toNat
  · have i2 : ¬ (c.toNat : Int) ≤ 57 := by omega
    go_enter Try.func71, Try.ntmps71
    go_wp2
    go_ret
    exact ⟨rfl, rfl⟩
  · go_enter Try.func71, Try.ntmps71
    go_wp2
    go_ret
    exact ⟨rfl, rfl⟩

set_option maxHeartbeats 1000000 in
theorem digit57 (c : UInt8) (w : World) : Calls Try.prog 71 #[.int .u8 c.toNat] w fun e w' => e = .returned (.bool (isDg c)) ∧ w' = w := by
  by_cases h : 48 ≤ c.toNat ∧ c.toNat ≤ 57
  · rw [show isDg c = true by simp [isDg, h]]; exact digit_yes c w h.1 h.2
  · rw [show isDg c = false by unfold isDg; rw [decide_eq_false h]]; exact digit_no c w h
theorem letter58 (c : UInt8) (w : World) : Calls Try.prog 72 #[.int .u8 c.toNat] w fun e w' => e = .returned (.bool (isLet c)) ∧ w' = w := by
  have hc : c.toNat < 65 ∨ (65 ≤ c.toNat ∧ c.toNat ≤ 90) ∨ (90 < c.toNat ∧ c.toNat < 97) ∨ (97 ≤ c.toNat ∧ c.toNat ≤ 122) ∨ 122 < c.toNat := by omega
  rcases hc with h | h | h | h | h
  · have k1 : ¬ (97 : Int) ≤ c.toNat := by omega
    have k2 : ¬ (65 : Int) ≤ c.toNat := by omega
    rw [show isLet c = false by unfold isLet; rw [decide_eq_false (by omega), decide_eq_false (by omega)]; rfl]
    go_enter Try.func72, Try.ntmps72
    go_wp2
    go_ret
    exact ⟨rfl, rfl⟩
  · have k1 : ¬ (97 : Int) ≤ c.toNat := by omega
    have k2 : (65 : Int) ≤ c.toNat := by omega
    have k3 : (c.toNat : Int) ≤ 90 := by omega
    rw [show isLet c = true by unfold isLet; rw [decide_eq_true (p := 65 ≤ c.toNat ∧ c.toNat ≤ 90) h]; simp]
    go_enter Try.func72, Try.ntmps72
    go_wp2
    go_ret
    exact ⟨rfl, rfl⟩
  · have k1 : ¬ (97 : Int) ≤ c.toNat := by omega
    have k2 : (65 : Int) ≤ c.toNat := by omega
    have k3 : ¬ (c.toNat : Int) ≤ 90 := by omega
    rw [show isLet c = false by unfold isLet; rw [decide_eq_false (by omega), decide_eq_false (by omega)]; rfl]
    go_enter Try.func72, Try.ntmps72
    go_wp2
    go_ret
    exact ⟨rfl, rfl⟩
  · have k1 : (97 : Int) ≤ c.toNat := by omega
    have k3 : (c.toNat : Int) ≤ 122 := by omega
    rw [show isLet c = true by unfold isLet; rw [decide_eq_true (p := 97 ≤ c.toNat ∧ c.toNat ≤ 122) h]; simp]
    go_enter Try.func72, Try.ntmps72
    go_wp2
    go_ret
    exact ⟨rfl, rfl⟩
  · have k1 : (97 : Int) ≤ c.toNat := by omega
    have k2 : (65 : Int) ≤ c.toNat := by omega
    have k3 : ¬ (c.toNat : Int) ≤ 122 := by omega
    have k4 : ¬ (c.toNat : Int) ≤ 90 := by omega
    rw [show isLet c = false by unfold isLet; rw [decide_eq_false (by omega), decide_eq_false (by omega)]; rfl]
    go_enter Try.func72, Try.ntmps72
    go_wp2
    go_ret
    exact ⟨rfl, rfl⟩
/-- The document's letter: an underline, too. -/
def isLetU (c : UInt8) : Bool := isLet c || decide (c.toNat = 95)
theorem letter59 (c : UInt8) (w : World) : Calls Try.prog 85 #[.int .u8 c.toNat] w fun e w' => e = .returned (.bool (isLetU c)) ∧ w' = w := by
  by_cases h95 : c.toNat = 95
  · have k0 : (c.toNat : Int) = 95 := by omega
    rw [show isLetU c = true by unfold isLetU; rw [decide_eq_true h95]; simp]
    go_enter Try.func85, Try.ntmps85
    go_wp2
    go_ret
    exact ⟨rfl, rfl⟩
  · have k0 : ((c.toNat : Int) == 95) = false := by simp; omega
    rw [show isLetU c = isLet c by unfold isLetU; rw [decide_eq_false h95]; simp]
    clear h95
    have hc : c.toNat < 65 ∨ (65 ≤ c.toNat ∧ c.toNat ≤ 90) ∨ (90 < c.toNat ∧ c.toNat < 97) ∨ (97 ≤ c.toNat ∧ c.toNat ≤ 122) ∨ 122 < c.toNat := by omega
    rcases hc with h | h | h | h | h
    · have k1 : ¬ (97 : Int) ≤ c.toNat := by omega
      have k2 : ¬ (65 : Int) ≤ c.toNat := by omega
      rw [show isLet c = false by unfold isLet; rw [decide_eq_false (by omega), decide_eq_false (by omega)]; rfl]
      go_enter Try.func85, Try.ntmps85
      go_wp2
      go_ret
      exact ⟨rfl, rfl⟩
    · have k1 : ¬ (97 : Int) ≤ c.toNat := by omega
      have k2 : (65 : Int) ≤ c.toNat := by omega
      have k3 : (c.toNat : Int) ≤ 90 := by omega
      rw [show isLet c = true by unfold isLet; rw [decide_eq_true (p := 65 ≤ c.toNat ∧ c.toNat ≤ 90) h]; simp]
      go_enter Try.func85, Try.ntmps85
      go_wp2
      go_ret
      exact ⟨rfl, rfl⟩
    · have k1 : ¬ (97 : Int) ≤ c.toNat := by omega
      have k2 : (65 : Int) ≤ c.toNat := by omega
      have k3 : ¬ (c.toNat : Int) ≤ 90 := by omega
      rw [show isLet c = false by unfold isLet; rw [decide_eq_false (by omega), decide_eq_false (by omega)]; rfl]
      go_enter Try.func85, Try.ntmps85
      go_wp2
      go_ret
      exact ⟨rfl, rfl⟩
    · have k1 : (97 : Int) ≤ c.toNat := by omega
      have k3 : (c.toNat : Int) ≤ 122 := by omega
      rw [show isLet c = true by unfold isLet; rw [decide_eq_true (p := 97 ≤ c.toNat ∧ c.toNat ≤ 122) h]; simp]
      go_enter Try.func85, Try.ntmps85
      go_wp2
      go_ret
      exact ⟨rfl, rfl⟩
    · have k1 : (97 : Int) ≤ c.toNat := by omega
      have k2 : (65 : Int) ≤ c.toNat := by omega
      have k3 : ¬ (c.toNat : Int) ≤ 122 := by omega
      have k4 : ¬ (c.toNat : Int) ≤ 90 := by omega
      rw [show isLet c = false by unfold isLet; rw [decide_eq_false (by omega), decide_eq_false (by omega)]; rfl]
      go_enter Try.func85, Try.ntmps85
      go_wp2
      go_ret
      exact ⟨rfl, rfl⟩

theorem nm_eq (s : ByteArray) (h : 0 < s.size) : nm s.data.toList = (decide (s.size ≤ 24) && !isDg s[0] && s.data.toList.all okc) := by
  obtain ⟨⟨l⟩⟩ := s
  cases l with
  | nil => exact absurd h (by decide)
  | cons c r => rfl

set_option maxHeartbeats 2000000 in
theorem name38 (s : ByteArray) (w : World) : Calls Try.prog 41 #[.string s] w fun e w' => e = .returned (.bool (nm s.data.toList)) ∧ w' = w := by
  by_cases h0 : s.size = 0
  · have hz : ((s.size : Int) == 0) = true := by simp [h0]
    have hn : s.data.toList = [] := List.eq_nil_of_length_eq_zero (by simpa using h0)
    rw [hn, show nm [] = false from rfl]
    go_enter Try.func41, Try.ntmps41
    go_wp2
    go_ret
    exact ⟨rfl, rfl⟩
  · have hz : ((s.size : Int) == 0) = false := by rw [beq_eq_false_iff_ne]; omega
    have hpos : 0 < s.size := by omega
    rw [nm_eq s hpos]
    obtain ⟨A, hA⟩ : ∃ A, Hid (s.data.toList.all okc = A) := ⟨_, rfl⟩
    rw [hA.out]
    by_cases h24 : s.size ≤ 24
    · have k1 : ¬ (24 : Int) < (s.size : Int) := by omega
      rw [decide_eq_true h24]
      have c57 := digit57 s[0] w
      cases hd : isDg s[0]
      · rw [hd] at c57
        simp only [Bool.not_false, Bool.true_and]
        go_enter Try.func41, Try.ntmps41
        go_wp2_with (go_at_call 71; refine c57.mono ?_; rintro e w' ⟨rfl, rfl⟩)
        go_loop [19] (fun i => ∃ k : Nat, k ≤ s.size ∧ i = .int .i64 k ∧ (s.data.toList.take k).all okc = true) (fun i => s.size - (intOf i).toNat)
        case atStart => exact ⟨0, Nat.zero_le _, rfl, rfl⟩
        case round =>
          obtain ⟨k, hk, rfl, hall⟩ := hrel
          by_cases hlt : k < s.size
          · have hstep : ∀ b, okc s[k] = b → Hid ((s.data.toList.take (k + 1)).all okc = b) := fun b hb => by
              show _ = b
              rw [take_snoc s k hlt, List.all_append, hall]; simp [hb]
            have hfalse : okc s[k] = false → Hid (s.data.toList.all okc = false) := fun hb => by
              show _ = false
              rw [List.all_eq_false]; exact ⟨s[k], mem_at s k hlt, by simp [hb]⟩
            have c58 := fun w => letter58 s[k] w
            have c57' := fun w => digit57 s[k] w
            cases hL : isLet s[k]
            · cases hD : isDg s[k]
              · by_cases hU : s[k].toNat = 95
                · have HA := hstep true (by unfold okc; rw [hL, hD, decide_eq_true hU]; rfl)
                  have k0 : ((s[k].toNat : Int) != 95) = false := by rw [bne_eq_false_iff_eq]; omega
                  rw [hL] at c58; rw [hD] at c57'
                  clear hall hL hD hstep hfalse hU
                  go_wp2_with (first | (go_at_call 72; refine (c58 _).mono ?_; rintro e w' ⟨rfl, rfl⟩) | (go_at_call 71; refine (c57' _).mono ?_; rintro e w' ⟨rfl, rfl⟩))
                  go_round
                  case rel => exact ⟨k + 1, by omega, by go_num, HA.out⟩
                  case measure => simp [intOf]; omega
                · have HF := hfalse (by unfold okc; rw [hL, hD, decide_eq_false hU]; rfl)
                  have k0 : ((s[k].toNat : Int) != 95) = true := by rw [bne_iff_ne]; omega
                  rw [hL] at c58; rw [hD] at c57'
                  clear hall hL hD hstep hfalse hU
                  go_wp2_with (first | (go_at_call 72; refine (c58 _).mono ?_; rintro e w' ⟨rfl, rfl⟩) | (go_at_call 71; refine (c57' _).mono ?_; rintro e w' ⟨rfl, rfl⟩))
                  go_ret
                  exact ⟨ret_bool (HF.out.symm.trans hA.out), rfl⟩
              · have HA := hstep true (by unfold okc; rw [hL, hD]; rfl)
                rw [hL] at c58; rw [hD] at c57'
                clear hall hL hD hstep hfalse
                go_wp2_with (first | (go_at_call 72; refine (c58 _).mono ?_; rintro e w' ⟨rfl, rfl⟩) | (go_at_call 71; refine (c57' _).mono ?_; rintro e w' ⟨rfl, rfl⟩))
                go_round
                case rel => exact ⟨k + 1, by omega, by go_num, HA.out⟩
                case measure => simp [intOf]; omega
            · have HA := hstep true (by unfold okc; rw [hL]; rfl)
              rw [hL] at c58
              clear hall hL hstep hfalse c57'
              go_wp2_with (go_at_call 72; refine (c58 _).mono ?_; rintro e w' ⟨rfl, rfl⟩)
              go_round
              case rel => exact ⟨k + 1, by omega, by go_num, HA.out⟩
              case measure => simp [intOf]; omega
          · have HA : Hid (s.data.toList.all okc = true) := by
              show _ = _
              rw [List.take_of_length_le (by simp; omega)] at hall
              exact hall
            clear hall
            go_wp2
            go_ret
            exact ⟨ret_bool (HA.out.symm.trans hA.out), rfl⟩
      · rw [hd] at c57
        simp only [Bool.not_true, Bool.and_false, Bool.false_and]
        go_enter Try.func41, Try.ntmps41
        go_wp2_with (go_at_call 71; refine c57.mono ?_; rintro e w' ⟨rfl, rfl⟩)
        go_ret
        exact ⟨rfl, rfl⟩
    · have k1 : (24 : Int) < (s.size : Int) := by omega
      rw [decide_eq_false h24]
      simp only [Bool.false_and]
      go_enter Try.func41, Try.ntmps41
      go_wp2
      go_ret
      exact ⟨rfl, rfl⟩

theorem nm_eq' (s : ByteArray) (h : 0 < s.size) : nm s.data.toList = (decide (s.size ≤ 24) && isLetU s[0] && s.data.toList.all okc) := by
  rw [nm_eq s h]
  cases ha : s.data.toList.all okc
  · simp
  · have h0 : okc s[0] = true := List.all_eq_true.1 ha s[0] (mem_at s 0 h)
    have : isLetU s[0] = !isDg s[0] := by
      unfold okc at h0
      unfold isLetU
      cases hd : isDg s[0]
      · rw [hd] at h0; simpa using h0
      · have hd' : 48 ≤ s[0].toNat ∧ s[0].toNat ≤ 57 := by simpa [isDg] using hd
        have hl : isLet s[0] = false := by unfold isLet; rw [decide_eq_false (by omega), decide_eq_false (by omega)]; rfl
        rw [hl, decide_eq_false (by omega)]; rfl
    rw [this]

set_option maxHeartbeats 2000000 in
theorem name39 (s : ByteArray) (w : World) : Calls Try.prog 58 #[.string s] w fun e w' => e = .returned (.bool (nm s.data.toList)) ∧ w' = w := by
  by_cases h0 : s.size = 0
  · have hz : (s.toList == []) = true := by rw [Go.Lib.toList_data]; have : s.data.toList = [] := List.eq_nil_of_length_eq_zero (by simpa using h0); rw [this]; rfl
    have hE : s.toList.isEmpty = true := by rw [Go.Lib.toList_data, List.isEmpty_iff]; exact List.eq_nil_of_length_eq_zero (by simpa using h0)
    have hn : s.data.toList = [] := List.eq_nil_of_length_eq_zero (by simpa using h0)
    rw [hn, show nm [] = false from rfl]
    go_enter Try.func58, Try.ntmps58
    go_wp2
    go_ret
    exact ⟨rfl, rfl⟩
  · have hpos : 0 < s.size := by omega
    rw [nm_eq' s hpos]
    obtain ⟨A, hA⟩ : ∃ A, Hid (s.data.toList.all okc = A) := ⟨_, rfl⟩
    rw [hA.out]
    have hne : s.data.toList ≠ [] := fun e => by
      have h1 : s.data.toList.length = 0 := by rw [e]; rfl
      rw [Array.length_toList] at h1
      exact h0 h1
    have hE : s.toList.isEmpty = false := by rw [Go.Lib.toList_data, List.isEmpty_eq_false_iff]; exact hne
    have hE' : ¬ s.toList = [] := by rw [Go.Lib.toList_data]; exact hne
    clear hne
    by_cases h24 : s.size ≤ 24
    · have k1 : ¬ (24 : Int) < (s.size : Int) := by omega
      rw [decide_eq_true h24]
      have c59' := letter59 s[0] w
      cases hd : isLetU s[0]
      · rw [hd] at c59'
        simp only [Bool.and_false, Bool.false_and]
        go_enter Try.func58, Try.ntmps58
        go_wp2_with (go_at_call 85; refine c59'.mono ?_; rintro e w' ⟨rfl, rfl⟩)
        go_ret
        exact ⟨rfl, rfl⟩
      · rw [hd] at c59'
        simp only [Bool.true_and]
        go_enter Try.func58, Try.ntmps58
        go_wp2_with (go_at_call 85; refine c59'.mono ?_; rintro e w' ⟨rfl, rfl⟩)
        go_loop [3] (fun i => ∃ k : Nat, k ≤ s.size ∧ i = .int .i64 k ∧ (s.data.toList.take k).all okc = true) (fun i => s.size - (intOf i).toNat)
        case atStart => exact ⟨0, Nat.zero_le _, rfl, rfl⟩
        case round =>
          obtain ⟨k, hk, rfl, hall⟩ := hrel
          by_cases hlt : k < s.size
          · have hstep : ∀ b, okc s[k] = b → Hid ((s.data.toList.take (k + 1)).all okc = b) := fun b hb => by
              show _ = b
              rw [take_snoc s k hlt, List.all_append, hall]; simp [hb]
            have hfalse : okc s[k] = false → Hid (s.data.toList.all okc = false) := fun hb => by
              show _ = false
              rw [List.all_eq_false]; exact ⟨s[k], mem_at s k hlt, by simp [hb]⟩
            have c59 := fun w => letter59 s[k] w
            cases hL : isLetU s[k]
            · have hL' : isLet s[k] = false ∧ ¬ s[k].toNat = 95 := by unfold isLetU at hL; simpa using hL
              by_cases hD : 48 ≤ s[k].toNat ∧ s[k].toNat ≤ 57
              · have HA := hstep true (by unfold okc; rw [hL'.1, show isDg s[k] = true by simp [isDg, hD]]; rfl)
                have k1 : ¬ (s[k].toNat : Int) < 48 := by omega
                have k2 : ¬ (57 : Int) < (s[k].toNat : Int) := by omega
                rw [hL] at c59
                clear hall hL hD hstep hfalse hL'
                go_wp2_with (go_at_call 85; refine (c59 _).mono ?_; rintro e w' ⟨rfl, rfl⟩)
                go_round
                case rel => exact ⟨k + 1, by omega, by go_num, HA.out⟩
                case measure => simp [intOf]; omega
              · have HF := hfalse (by unfold okc; rw [hL'.1, show isDg s[k] = false by unfold isDg; rw [decide_eq_false hD], decide_eq_false hL'.2]; rfl)
                rw [hL] at c59
                clear hall hL hstep hfalse hL'
                by_cases k1 : (s[k].toNat : Int) < 48
                · clear hD
                  go_wp2_with (go_at_call 85; refine (c59 _).mono ?_; rintro e w' ⟨rfl, rfl⟩)
                  go_ret
                  exact ⟨ret_bool (HF.out.symm.trans hA.out), rfl⟩
                · have k2 : (57 : Int) < (s[k].toNat : Int) := by omega
                  clear hD
                  go_wp2_with (go_at_call 85; refine (c59 _).mono ?_; rintro e w' ⟨rfl, rfl⟩)
                  go_ret
                  exact ⟨ret_bool (HF.out.symm.trans hA.out), rfl⟩
            · have HA := hstep true (by
                unfold isLetU at hL
                unfold okc
                rcases Bool.or_eq_true_iff.1 hL with h | h
                · rw [h]; rfl
                · rw [h]; simp)
              rw [hL] at c59
              clear hall hL hstep hfalse
              go_wp2_with (go_at_call 85; refine (c59 _).mono ?_; rintro e w' ⟨rfl, rfl⟩)
              go_round
              case rel => exact ⟨k + 1, by omega, by go_num, HA.out⟩
              case measure => simp [intOf]; omega
          · have HA : Hid (s.data.toList.all okc = true) := by
              show _ = _
              rw [List.take_of_length_le (by simp; omega)] at hall
              exact hall
            clear hall
            go_wp2
            go_ret
            exact ⟨ret_bool (HA.out.symm.trans hA.out), rfl⟩
    · have k1 : (24 : Int) < (s.size : Int) := by omega
      rw [decide_eq_false h24]
      simp only [Bool.false_and]
      go_enter Try.func58, Try.ntmps58
      go_wp2
      go_ret
      exact ⟨rfl, rfl⟩
end Go.Proofs.Yteknbploiombiaa
