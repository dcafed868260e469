/-
  What the document's Compare and Same (rambleref02) do.
  What the document's Check does, and its inner functions.
-/
import Derived.Test.YteknbploiombiaaZCmp
import Derived.Deep.RegionHeld3
import Derived.Deep.RegionWith
import Derived.Deep.QuietTactic
import Derived.BigQuiet
import Derived.Deep.LoopGhost
import Derived.Test.YteknbploiombiaaZCheckName
namespace Go.Proofs.Yteknbploiombiaa
open Go.RowKit
set_option linter.unusedVariables false      -- a walk need not use every condition

theorem below_on {B : Nat} {a w : World} (h : Below B a w) (n : Nat) : Below B a (w.drewN n) := h.trans ⟨rfl, rfl, rfl, Nat.le_refl _, fun _ _ => rfl⟩

theorem ref51 (x y : Int) (w : World) : Calls Try.prog 78 #[.int .i64 x, .int .i64 y] w fun e w' => e = .returned (.int .i64 (icmp x y)) ∧ w' = w := by
  go_enter Try.func78, Try.ntmps78
  go_wp2
  all_goals (go_ret; refine ⟨?_, rfl⟩; unfold icmp; (repeat' split) <;> first | rfl | (exfalso; omega))

def bTo (l m : List UInt8) : Nat → Prop := fun i => Lib.compareBytes l m = Lib.compareBytes (l.drop i) (m.drop i)
theorem bTo_step {l m : List UInt8} {i : Nat} (h : bTo l m i) (hi : i < l.length) (hj : i < m.length) (e : l[i].toNat = m[i].toNat) : bTo l m (i + 1) := by
  unfold bTo at *
  rw [h, List.drop_eq_getElem_cons hi, List.drop_eq_getElem_cons hj, Lib.compareBytes, if_neg (by rw [UInt8.lt_iff_toNat_lt]; omega), if_neg (by rw [UInt8.lt_iff_toNat_lt]; omega)]
theorem bTo_ne {l m : List UInt8} {i : Nat} (h : bTo l m i) (hi : i < l.length) (hj : i < m.length) (e : l[i].toNat ≠ m[i].toNat) : icmp (l[i].toNat : Int) (m[i].toNat : Int) = Lib.compareBytes l m := by
  unfold bTo at h
  rw [h, List.drop_eq_getElem_cons hi, List.drop_eq_getElem_cons hj, Lib.compareBytes]
  unfold icmp
  simp only [UInt8.lt_iff_toNat_lt]
  repeat' split
  all_goals omega
theorem bTo_end {l m : List UInt8} {i : Nat} (h : bTo l m i) (hi : i ≤ l.length) (hj : i ≤ m.length) (e : ¬ (i < l.length ∧ i < m.length)) : icmp (l.length : Int) (m.length : Int) = Lib.compareBytes l m := by
  unfold bTo at h
  rw [h]
  by_cases h1 : i < l.length
  · have h2 : m.length = i := by omega
    have e1 : m.drop i = [] := List.drop_eq_nil_of_le (by omega)
    rw [List.drop_eq_getElem_cons h1, e1, Lib.compareBytes]; unfold icmp; rw [if_neg (by omega), if_pos (by omega)]
  · have e1 : l.drop i = [] := List.drop_eq_nil_of_le (by omega)
    by_cases h2 : i < m.length
    · rw [List.drop_eq_getElem_cons h2, e1, Lib.compareBytes]; unfold icmp; rw [if_pos (by omega)]
    · have e2 : m.drop i = [] := List.drop_eq_nil_of_le (by omega)
      rw [e1, e2, Lib.compareBytes]; unfold icmp; rw [if_neg (by omega), if_neg (by omega)]

theorem wrap_byte (c : UInt8) : IntKind.i64.wrap (c.toNat : Int) = c.toNat := by
  have := c.toNat_lt
  rw [IntKind.wrap_i64]; omega
theorem len_data (s : ByteArray) : s.data.toList.length = s.size := Array.length_toList
theorem get_data (s : ByteArray) (k : Nat) (h : k < s.size) : s.data.toList[k]'(by simpa using h) = s[k] := rfl

set_option maxHeartbeats 1000000 in
theorem ref52 (a b : ByteArray) (w : World) (ha : a.size ≤ maxLen) (hb : b.size ≤ maxLen) :
    Calls Try.prog 79 #[.string a, .string b] w fun e w' => e = .returned (.int .i64 (Lib.compareBytes a.data.toList b.data.toList)) ∧ Below w.heap.size w w' := by
  unfold maxLen at ha hb
  go_enter Try.func79, Try.ntmps79
  go_wp2
  go_loopw [5] (fun i wr => ∃ k : Nat, k ≤ a.size ∧ k ≤ b.size ∧ i = .int .i64 k ∧ Hid (bTo a.data.toList b.data.toList k) ∧ Below w.heap.size w wr) (fun i _ => a.size - (intOf i).toNat)
  case atStart => exact ⟨0, Nat.zero_le _, Nat.zero_le _, rfl, rfl, Below.refl _ _⟩
  case round =>
    obtain ⟨k, hk, hk', rfl, hto, hB⟩ := hrel
    by_cases hka : k < a.size
    · by_cases hkb : k < b.size
      · by_cases he : a[k].toNat = b[k].toNat
        · have ht : Hid (bTo a.data.toList b.data.toList (k + 1)) := bTo_step hto.out (by simpa using hka) (by simpa using hkb) he
          clear hto
          go_wp2
          go_quiet (fail)
          go_wp2
          go_round
          case rel => exact ⟨k + 1, by omega, by omega, by go_num, ht, below_on hB _⟩
          case measure => simp [intOf]; omega
        · have ht : Hid (icmp (a[k].toNat : Int) (b[k].toNat : Int) = Lib.compareBytes a.data.toList b.data.toList) := bTo_ne hto.out (by simpa using hka) (by simpa using hkb) he
          clear hto
          have he' : ((a[k].toNat : Int) != (b[k].toNat : Int)) = true := by simp; omega
          go_wp2
          go_quiet (fail)
          go_wp2
          go_region_with (first | (go_at_call 78; refine (ref51 _ _ _).mono ?_; rintro e w' ⟨rfl, rfl⟩))
          all_goals (go_wp2; go_ret; exact ⟨ret_int (by rw [wrap_byte, wrap_byte]; exact ht.out), (below_on hB _).drew⟩)
      · have ht : Hid (icmp (a.size : Int) (b.size : Int) = Lib.compareBytes a.data.toList b.data.toList) := by
          have := bTo_end hto.out (by rw [len_data]; exact hk) (by rw [len_data]; exact hk') (by rw [len_data, len_data]; omega)
          rw [len_data, len_data] at this; exact this
        clear hto
        go_wp2_with (go_at_call 78; refine (ref51 _ _ _).mono ?_; rintro e w' ⟨rfl, rfl⟩)
        go_ret
        exact ⟨ret_int ht.out, hB⟩
    · have ht : Hid (icmp (a.size : Int) (b.size : Int) = Lib.compareBytes a.data.toList b.data.toList) := by
        have := bTo_end hto.out (by rw [len_data]; exact hk) (by rw [len_data]; exact hk') (by rw [len_data, len_data]; omega)
        rw [len_data, len_data] at this; exact this
      clear hto
      go_wp2_with (go_at_call 78; refine (ref51 _ _ _).mono ?_; rintro e w' ⟨rfl, rfl⟩)
      go_ret
      exact ⟨ret_int ht.out, hB⟩

theorem cmpTo_stop {l m : List V} {i : Nat} (h : cmpTo l m i) (hi : i ≤ l.length) (hj : i ≤ m.length) (e : ¬ (i < l.length ∧ i < m.length)) : icmp (l.length : Int) (m.length : Int) = cmpL l m := by
  unfold cmpTo at h
  rw [h]
  by_cases h1 : i < l.length
  · have h2 : m.length = i := by omega
    have e1 : m.drop i = [] := List.drop_eq_nil_of_le (by omega)
    rw [List.drop_eq_getElem_cons h1, e1, cmpL]; unfold icmp; rw [if_neg (by omega), if_pos (by omega)]
  · have e1 : l.drop i = [] := List.drop_eq_nil_of_le (by omega)
    by_cases h2 : i < m.length
    · rw [List.drop_eq_getElem_cons h2, e1, cmpL]; unfold icmp; rw [if_pos (by omega)]
    · have e2 : m.drop i = [] := List.drop_eq_nil_of_le (by omega)
      rw [e1, e2, cmpL]; unfold icmp; rw [if_neg (by omega), if_neg (by omega)]

set_option maxHeartbeats 2000000 in
theorem ref29_of (k n k' n' : Int) (s s' : ByteArray) (l l' : List V) (sl sl' : Value) (w : World) (h1 : s.size ≤ maxLen) (h2 : s'.size ≤ maxLen)
    (hl : Sl w 0 l sl) (hm : Sl w 0 l' sl')
    (ih : ∀ x ∈ l, ∀ (y : V) (sx sy : Value) (w' : World), x.In w' 0 sx → y.In w' 0 sy → Calls Try.prog 47 #[x.agg sx, y.agg sy] w' fun e w'' => e = .returned (.int .i64 (x.cmp y)) ∧ Below w'.heap.size w' w'') :
    Calls Try.prog 47 #[.agg #[.int .i64 k, .int .i64 n, .string s, sl], .agg #[.int .i64 k', .int .i64 n', .string s', sl']] w fun e w' =>
      e = .returned (.int .i64 (lex (icmp k k') (lex (icmp n n') (lex (Lib.compareBytes s.data.toList s'.data.toList) (cmpL l l'))))) ∧ Below w.heap.size w w' := by
  obtain ⟨p, cap, rfl, hc, hcm, -, hx⟩ := hl
  obtain ⟨q, cap', rfl, hc', hcm', -, hx'⟩ := hm
  unfold maxLen at hcm hcm'
  obtain ⟨x, hx0⟩ : ∃ x, icmp k k' = x := ⟨_, rfl⟩
  obtain ⟨y, hy0⟩ : ∃ x, icmp n n' = x := ⟨_, rfl⟩
  obtain ⟨z, hz0⟩ : ∃ x, Lib.compareBytes s.data.toList s'.data.toList = x := ⟨_, rfl⟩
  have c47 := ref51 k k'
  have c48 := ref51 n n'
  have c49 := fun w => ref52 s s' w h1 h2
  rw [hx0] at c47; rw [hy0] at c48; rw [hz0] at c49; rw [hx0, hy0, hz0]
  clear hx0 hy0 hz0 h1 h2
  go_enter Try.func47, Try.ntmps47
  go_wp2_with (first
    | (go_at_call 78; refine (c47 _).mono ?_; rintro e w' ⟨rfl, rfl⟩; clear c47)
    | (go_at_call 78; refine (c48 _).mono ?_; rintro e w' ⟨rfl, rfl⟩; clear c48)
    | (go_at_call 79; refine (c49 _).mono ?_; rintro e w1 ⟨rfl, hb1⟩; clear c49))
  · go_ret
    exact ⟨ret_int (lex_ne (by assumption)), bel2 w _ _⟩
  · go_ret
    exact ⟨ret_int (by rw [lex_eq (by assumption)]; exact lex_ne (by assumption)), bel2 w _ _⟩
  · go_ret
    refine ⟨ret_int ?_, bel_then (bel2 w _ _) hb1⟩
    rw [lex_eq (c := x) (by assumption), lex_eq (c := y) (by assumption)]; exact lex_ne (by assumption)
  · have hE : Hid (lex x (lex y (lex z (cmpL l l'))) = cmpL l l') := by
      show _ = _
      rw [lex_eq (c := x) (by assumption), lex_eq (c := y) (by assumption), lex_eq (c := z) (by assumption)]
    have hbW := bel_then (bel2 w _ _) hb1
    have q1 : w1.cell? ⟨w.heap.size, 3, none⟩ = some (.slice p l.length cap) := (hb1.cell (by simp; omega)).trans (by simp [go_sem, World.cell?_alloc_past])
    have q2 : w1.cell? ⟨w.heap.size + 1, 3, none⟩ = some (.slice q l'.length cap') := (hb1.cell (by simp)).trans (by simp [go_sem])
    have hsz : w.heap.size + 2 ≤ w1.heap.size := by have := hb1.size; simpa using this
    clear hb1
    have hz : (z != 0) = false := by assumption
    rw [hz]
    go_loopg [8] l.length (fun g i wr => ∃ j : Nat, g + j = l.length ∧ j ≤ l'.length ∧ i = .int .i64 j ∧ Hid (cmpTo l l' j) ∧ Below w1.heap.size w1 wr)
    case atStart => exact ⟨0, rfl, Nat.zero_le _, rfl, rfl, Below.refl _ _⟩
    case round =>
      obtain ⟨j, hgj, hj', rfl, hto, hB⟩ := hrel
      have hj : j ≤ l.length := by omega
      have r1 := (hB.cell (p := ⟨w.heap.size, 3, none⟩) (by show w.heap.size < _; omega)).trans q1
      have r2 := (hB.cell (p := ⟨w.heap.size + 1, 3, none⟩) (by show w.heap.size + 1 < _; omega)).trans q2
      have hBW := bel_then hbW hB
      by_cases hkl : j < l.length
      · by_cases hkm : j < l'.length
        · obtain ⟨b, o, rfl, -, hx1⟩ := hx.resolve_left (by rintro rfl; simp at hkl)
          obtain ⟨b', o', rfl, -, hx2⟩ := hx'.resolve_left (by rintro rfl; simp at hkm)
          obtain ⟨s1, a0, a1, a2, a3, hv1⟩ := (hx1.on' hBW).at j hkl
          obtain ⟨s2, b0, b1, b2, b3, hv2⟩ := (hx2.on' hBW).at j hkm
          clear hx hx' hx1 hx2 q1 q2
          have ih' := ih l[j] (List.getElem_mem hkl) l'[j] s1 s2
          have hto1 : Hid (V.cmp l[j] l'[j] = 0 → cmpTo l l' (j + 1)) := fun h => cmpTo_step hto hkl hkm h
          have hto2 : Hid ((V.cmp l[j] l'[j] != 0) = true → V.cmp l[j] l'[j] = cmpL l l') := fun h => cmpTo_ne hto hkl hkm h
          clear ih hto
          unfold V.agg at ih'
          generalize l[j] = x1 at *
          generalize l'[j] = y1 at *
          obtain ⟨c, hcmp⟩ : ∃ c, V.cmp x1 y1 = c := ⟨_, rfl⟩
          rw [hcmp] at ih' hto1 hto2
          clear hcmp
          obtain ⟨p1, n1, c1, rfl⟩ := hv1.header
          obtain ⟨p2, n2, c2, rfl⟩ := hv2.header
          go_wp2
          go_region_held3 (fun w' => w'.cell? ⟨w.heap.size, 3, none⟩ = some (.slice (some ⟨b, o, none⟩) l.length cap) ∧ w'.cell? ⟨w.heap.size + 1, 3, none⟩ = some (.slice (some ⟨b', o', none⟩) l'.length cap') ∧
              w'.cell? ⟨b, o + j * 4, none⟩ = some (.int .i64 x1.k) ∧ w'.cell? ⟨b, o + j * 4 + 1, none⟩ = some (.int .i64 x1.n) ∧ w'.cell? ⟨b, o + j * 4 + 2, none⟩ = some (.string x1.s) ∧ w'.cell? ⟨b, o + j * 4 + 3, none⟩ = some (.slice p1 n1 c1) ∧
              w'.cell? ⟨b', o' + j * 4, none⟩ = some (.int .i64 y1.k) ∧ w'.cell? ⟨b', o' + j * 4 + 1, none⟩ = some (.int .i64 y1.n) ∧ w'.cell? ⟨b', o' + j * 4 + 2, none⟩ = some (.string y1.s) ∧ w'.cell? ⟨b', o' + j * 4 + 3, none⟩ = some (.slice p2 n2 c2))
            (first | exact ⟨r1, r2, a0, a1, a2, a3, b0, b1, b2, b3⟩ | exact ⟨some_on hb2 r1, some_on hb2 r2, some_on hb2 a0, some_on hb2 a1, some_on hb2 a2, some_on hb2 a3, some_on hb2 b0, some_on hb2 b1, some_on hb2 b2, some_on hb2 b3⟩)
            (first | (go_at_call 47; refine (ih' _ (hv1.on (Below.refl _ _).drew) (hv2.on (Below.refl _ _).drew)).mono ?_; rintro e w2 ⟨rfl, hb2⟩))
          go_wp2
          · go_ret
            exact ⟨ret_int (by rw [hE.out]; exact hto2.out (by assumption)), bel_then hBW (bel_then (Below.refl _ wr).drew hb2)⟩
          · go_roundg (gk - 1)
            case rel => exact ⟨j + 1, by omega, by omega, by go_num, hto1.out (by simpa using (by assumption : (c != 0) = false)), bel_then hB (bel_then (Below.refl _ wr).drew hb2)⟩
            case measure => omega
        · have ht : Hid (icmp (l.length : Int) (l'.length : Int) = cmpL l l') := cmpTo_stop hto hj hj' (by omega)
          clear ih hto hx hx'
          go_wp2_with (go_at_call 78; refine (ref51 _ _ _).mono ?_; rintro e w' ⟨rfl, rfl⟩)
          go_ret
          exact ⟨ret_int (by rw [hE.out]; exact ht.out), hBW⟩
      · have ht : Hid (icmp (l.length : Int) (l'.length : Int) = cmpL l l') := cmpTo_stop hto hj hj' (by omega)
        clear ih hto hx hx'
        go_wp2_with (go_at_call 78; refine (ref51 _ _ _).mono ?_; rintro e w' ⟨rfl, rfl⟩)
        go_ret
        exact ⟨ret_int (by rw [hE.out]; exact ht.out), hBW⟩

theorem ref29 : ∀ (N : Nat) (x : V), SizeOf.sizeOf x < N → ∀ (y : V) (sx sy : Value) (w : World), x.In w 0 sx → y.In w 0 sy →
    Calls Try.prog 47 #[x.agg sx, y.agg sy] w fun e w' => e = .returned (.int .i64 (x.cmp y)) ∧ Below w.heap.size w w'
  | 0, _, h => absurd h (Nat.not_lt_zero _)
  | N + 1, .mk k n s l, h => fun y sx sy w hx hy => by
    cases y with | mk k' n' s' l' =>
    have h1 := ((V.in_iff _ _ _ _).1 hx).2.2
    have h2 := ((V.in_iff _ _ _ _).1 hy).2.2
    simp only [V.cmp]
    exact ref29_of k n k' n' s s' l l' sx sy w (Nat.le_trans h1.1 (by unfold maxLen; omega)) (Nat.le_trans h2.1 (by unfold maxLen; omega)) h1.2 h2.2 fun x hx y sx sy w' hix hiy => ref29 N x (by
      have := List.sizeOf_lt_of_mem hx
      simp at h
      omega) y sx sy w' hix hiy
theorem refCmp_any (x y : V) (sx sy : Value) (w : World) (hx : x.In w 0 sx) (hy : y.In w 0 sy) :
    Calls Try.prog 47 #[x.agg sx, y.agg sy] w fun e w' => e = .returned (.int .i64 (x.cmp y)) ∧ Below w.heap.size w w' :=
  ref29 (SizeOf.sizeOf x + 1) x (Nat.lt_succ_self _) y sx sy w hx hy

/-- Same. -/
theorem refSame_any (x y : V) (sx sy : Value) (w : World) (hx : x.In w 0 sx) (hy : y.In w 0 sy) :
    Calls Try.prog 18 #[x.agg sx, y.agg sy] w fun e w' => e = .returned (.bool (x.cmp y == 0)) ∧ Below w.heap.size w w' := by
  have c28 := fun w => refCmp_any x y sx sy w
  obtain ⟨c, hc⟩ : ∃ c, V.cmp x y = c := ⟨_, rfl⟩
  rw [hc] at c28 ⊢
  clear hc
  unfold V.agg at c28 ⊢
  obtain ⟨p1, n1, q1, rfl⟩ := hx.header
  obtain ⟨p2, n2, q2, rfl⟩ := hy.header
  go_enter Try.func18, Try.ntmps18
  go_wp2_with (go_at_call 47; refine (c28 _ (hx.on (bel2 w _ _)) (hy.on (bel2 w _ _))).mono ?_; rintro e w1 ⟨rfl, hb1⟩)
  go_ret
  exact ⟨rfl, bel_then (bel2 w _ _) hb1⟩
end Go.Proofs.Yteknbploiombiaa
namespace Go.Proofs.Yteknbploiombiaa
open Go.RowKit
set_option linter.unusedVariables false      -- a walk need not use every condition

set_option maxHeartbeats 2000000 in
theorem all69 (l : List V) (sl : Value) (d : Int) (hd : I64 d) (hd1 : d < 9223372036854775800) (w : World) (hl : Sl w 0 l sl)
    (ih : ∀ x ∈ l, ∀ (sx : Value) (w' : World), x.In w' 0 sx → Calls Try.prog 87 #[x.agg sx, .int .i64 (d + 1)] w' fun e w'' => e = .returned (.bool (x.may (d + 2))) ∧ Below w'.heap.size w' w'') :
    Calls Try.prog 101 #[sl, .int .i64 d] w fun e w' => e = .returned (.bool (allMay l (d + 2))) ∧ Below w.heap.size w w' := by
  obtain ⟨p, cap, rfl, hc, hcm, -, hx⟩ := hl
  unfold maxLen at hcm
  unfold I64 at hd
  have wd : IntKind.i64.wrap (d + 1) = d + 1 := by rw [IntKind.wrap_i64]; omega
  go_enter Try.func101, Try.ntmps101
  go_wp2
  go_loopg [5] l.length (fun g i wr => ∃ k : Nat, g + k = l.length ∧ i = .int .i64 k ∧ Hid (∀ j (hj : j < l.length), j < k → V.may l[j] (d + 2) = true) ∧ Below w.heap.size w wr)
  case atStart => exact ⟨0, rfl, rfl, fun j _ h => absurd h (Nat.not_lt_zero _), Below.refl _ _⟩
  case round =>
    obtain ⟨k, hgk, rfl, hall, hB⟩ := hrel
    by_cases hk : k < l.length
    · obtain ⟨b, o, rfl, -, hx1⟩ := hx.resolve_left (by rintro rfl; simp at hk)
      obtain ⟨s1, a0, a1, a2, a3, hv1⟩ := (hx1.on' hB).at k hk
      have ih' := ih l[k] (List.getElem_mem hk) s1
      have hF : Hid (V.may l[k] (d + 2) = false → allMay l (d + 2) = false) := fun h => allMay_at hk h
      have hT : Hid (V.may l[k] (d + 2) = true → ∀ j (hj : j < l.length), j < k + 1 → V.may l[j] (d + 2) = true) := fun h j hj hjk => by
        by_cases e : j = k
        · subst e; exact h
        · exact hall j hj (by omega)
      clear ih hx hx1 hall
      unfold V.agg at ih'
      generalize l[k] = x at *
      obtain ⟨m, hm⟩ : ∃ m, V.may x (d + 2) = m := ⟨_, rfl⟩
      rw [hm] at ih' hF hT
      clear hm
      obtain ⟨p1, n1, c1, rfl⟩ := hv1.header
      cases m
      · go_wp2_with (go_at_call 87; refine (ih' _ hv1).mono ?_; rintro e w1 ⟨rfl, hb1⟩)
        go_ret
        exact ⟨ret_bool (hF.out (by simp)).symm, bel_then hB hb1⟩
      · go_wp2_with (go_at_call 87; refine (ih' _ hv1).mono ?_; rintro e w1 ⟨rfl, hb1⟩)
        go_roundg (gk - 1)
        case rel => exact ⟨k + 1, by omega, by go_num, hT.out (by simp), bel_then hB hb1⟩
        case measure => omega
    · have hA : Hid (allMay l (d + 2) = true) := allMay_all fun i hi => hall i hi (by omega)
      obtain rfl : k = l.length := by omega
      clear ih hx hall
      go_wp2
      go_ret
      exact ⟨ret_bool hA.out.symm, hB⟩
set_option maxHeartbeats 2000000 in
theorem rises70 (l : List V) (sl : Value) (w : World) (hl : Sl w 0 l sl) :
    Calls Try.prog 102 #[sl] w fun e w' => e = .returned (.bool (rise l)) ∧ Below w.heap.size w w' := by
  obtain ⟨p, cap, rfl, hc, hcm, h56, hx⟩ := hl
  unfold maxLen at hcm
  go_enter Try.func102, Try.ntmps102
  go_wp2
  go_loopg [3] (l.length + 2) (fun g i wr => ∃ k q : Nat, g = l.length + 2 - k ∧ q = k + 2 ∧ i = .int .i64 q ∧ Hid (rise l = rise (l.drop k)) ∧ k ≤ l.length + 1 ∧ Below w.heap.size w wr)
  case atStart => exact ⟨0, 2, rfl, rfl, rfl, rfl, by omega, Below.refl _ _⟩
  case round =>
    obtain ⟨k, q, hgk, hq, rfl, hr, hk1, hB⟩ := hrel
    by_cases hk : q < l.length
    · obtain ⟨b, o, rfl, -, hx1⟩ := hx.resolve_left (by rintro rfl; simp at hk)
      have hkl : k < l.length := by omega
      obtain ⟨s1, a0, a1, a2, a3, hv1⟩ := (hx1.on' hB).at k hkl
      obtain ⟨s2, b0, b1, b2, b3, hv2⟩ := (hx1.on' hB).at q hk
      have c29 := fun w => refCmp_any l[k] l[q] s1 s2 w
      have hr1 : Hid (rise l = (decide (V.cmp l[k] l[q] < 0) && rise (l.drop q))) := by subst hq; exact hr.out.trans (rise_drop hk)
      have w1 : IntKind.i64.wrap ((q : Int) - 2) = (k : Int) := by rw [IntKind.wrap_i64]; omega
      have w3 : IntKind.i64.wrap (k : Int) = (k : Int) := by rw [IntKind.wrap_i64]; omega
      have i0 : (0 : Int) ≤ k := by omega
      have i1 : (k : Int) < (l.length : Int) := by omega
      have i2 : (q : Int) < (l.length : Int) := by omega
      have hq' : Hid (q = k + 2) := hq
      clear hx hx1 hr hq
      unfold V.agg at c29
      generalize l[k] = x at *
      generalize l[q] = y at *
      obtain ⟨c, hcmp⟩ : ∃ c, V.cmp x y = c := ⟨_, rfl⟩
      rw [hcmp] at c29 hr1
      clear hcmp
      obtain ⟨p1, n1, c1, rfl⟩ := hv1.header
      obtain ⟨p2, n2, c2, rfl⟩ := hv2.header
      go_wp2
      go_region_held3 (fun w' => w'.cell? ⟨b, o + k * 4, none⟩ = some (.int .i64 x.k) ∧ w'.cell? ⟨b, o + k * 4 + 1, none⟩ = some (.int .i64 x.n) ∧ w'.cell? ⟨b, o + k * 4 + 2, none⟩ = some (.string x.s) ∧ w'.cell? ⟨b, o + k * 4 + 3, none⟩ = some (.slice p1 n1 c1) ∧
          w'.cell? ⟨b, o + q * 4, none⟩ = some (.int .i64 y.k) ∧ w'.cell? ⟨b, o + q * 4 + 1, none⟩ = some (.int .i64 y.n) ∧ w'.cell? ⟨b, o + q * 4 + 2, none⟩ = some (.string y.s) ∧ w'.cell? ⟨b, o + q * 4 + 3, none⟩ = some (.slice p2 n2 c2))
        (first | exact ⟨a0, a1, a2, a3, b0, b1, b2, b3⟩ | exact ⟨some_on hb2 a0, some_on hb2 a1, some_on hb2 a2, some_on hb2 a3, some_on hb2 b0, some_on hb2 b1, some_on hb2 b2, some_on hb2 b3⟩)
        (first | (go_at_call 47; refine (c29 _ (hv1.on (Below.refl _ _).drew) (hv2.on (Below.refl _ _).drew)).mono ?_; rintro e w2 ⟨rfl, hb2⟩))
      go_wp2
      · go_ret
        have h : 0 ≤ c := by assumption
        exact ⟨ret_bool (by rw [hr1.out]; simp; omega), bel_then hB (bel_then (Below.refl _ wr).drew hb2)⟩
      · have h : ¬ 0 ≤ c := by omega
        have hq := hq'.out
        go_roundg (gk - 2)
        case rel => exact ⟨q, q + 2, by omega, rfl, by go_num, by show _ = _; rw [hr1.out, decide_eq_true (show c < 0 by omega)]; rfl, by omega, bel_then hB (bel_then (Below.refl _ wr).drew hb2)⟩
        case measure => omega
    · have hA : Hid (rise l = true) := hr.out.trans (rise_end (by omega))
      clear hx hr hq
      go_wp2
      go_ret
      exact ⟨ret_bool hA.out.symm, hB⟩

set_option maxHeartbeats 4000000 in
theorem may46_of (k n : Int) (s : ByteArray) (l : List V) (sl : Value) (d : Int) (hd : I64 d) (w : World) (hin : (V.mk k n s l).In w 0 sl)
    (ih : d ≤ 7 → ∀ x ∈ l, ∀ (sx : Value) (w' : World), x.In w' 0 sx → Calls Try.prog 87 #[x.agg sx, .int .i64 (d + 1)] w' fun e w'' => e = .returned (.bool (x.may (d + 2))) ∧ Below w'.heap.size w' w'') :
    Calls Try.prog 87 #[.agg #[.int .i64 k, .int .i64 n, .string s, sl], .int .i64 d] w fun e w' => e = .returned (.bool ((V.mk k n s l).may (d + 1))) ∧ Below w.heap.size w w' := by
  have hS := ((V.in_iff _ _ _ _).1 hin).2.2.2
  obtain ⟨b1, b2, b3, p, cap, rfl, hc, hcm, h56, -⟩ := (V.in_iff _ _ _ _).1 hin
  simp only [V.l, V.k, V.n, V.s] at *
  unfold I64 at b1 b2 hd
  unfold maxLen at hcm
  have c69 := fun h w' hb => all69 l (.slice p l.length cap) d (by unfold I64; omega) (by omega) w' (hS.on hb) (ih h)
  have c70 := fun w' hb => rises70 l (.slice p l.length cap) w' (hS.on hb)
  clear ih hin hS
  by_cases h8 : 7 < d
  · have hF : Hid (V.may (V.mk k n s l) (d + 1) = false) := by show _ = _; simp only [V.may, decide_eq_false (show ¬ d + 1 ≤ 8 by omega), Bool.false_and]
    go_enter Try.func87, Try.ntmps87
    go_wp2
    go_ret
    exact ⟨ret_bool hF.out.symm, bel1 w _⟩
  · have h8' : d ≤ 7 := by omega
    have c69 := c69 h8'
    have hT : Hid (V.may (V.mk k n s l) (d + 1) = (onlyB k n s l.length && (if k = 1 then true else if k = 2 then decide (s.size ≤ 128) else if k = 3 then decide (n = 0) || decide (n = 1)
         else if k = 6 ∨ k = 7 then decide (1 ≤ n) && decide (n ≤ 281474976710656)
         else if k = 4 then decide (l.length ≤ 256) && allMay l (d + 2)
         else if k = 5 then decide (l.length ≤ 512) && decide (l.length % 2 = 0) && allMay l (d + 2) && rise l
         else false))) := by show _ = _; simp only [V.may, decide_eq_true (show d + 1 ≤ 8 by omega), Bool.true_and, show d + 1 + 1 = d + 2 by omega]
    generalize V.may (V.mk k n s l) (d + 1) = M at *
    obtain ⟨am, ham⟩ : ∃ am, allMay l (d + 2) = am := ⟨_, rfl⟩
    obtain ⟨ri, hri⟩ : ∃ ri, rise l = ri := ⟨_, rfl⟩
    rw [ham] at c69 hT; rw [hri] at c70 hT
    clear ham hri
    by_cases hk : 1 ≤ k ∧ k ≤ 7
    · have hk' : k = 1 ∨ k = 2 ∨ k = 3 ∨ k = 4 ∨ k = 5 ∨ k = 6 ∨ k = 7 := by omega
      rcases hk' with rfl | rfl | rfl | rfl | rfl | rfl | rfl
      all_goals
        go_enter Try.func87, Try.ntmps87
        go_wp2_with (first
          | (go_at_call 101; refine (c69 _ (bel1 w _)).mono ?_; rintro e w2 ⟨rfl, hb2⟩; have hB2 := bel_then (bel1 w _) hb2; obtain ⟨x0, x1, x2, x3⟩ := box4 hb2; clear hb2)
          | (go_at_call 102; refine (c70 _ hB2).mono ?_; rintro e w3 ⟨rfl, hb3⟩; have hB3 := bel_then hB2 hb3; clear hb3))
        all_goals go_ret
        all_goals refine ⟨ret_bool ?_, by first | exact hB3 | exact hB2 | exact bel1 w _⟩
        all_goals rw [hT.out]
        all_goals clear hT c69 c70
        all_goals (first | (simp_all [onlyB, nil_size]; done) | (simp_all [onlyB, nil_size]; omega) | (simp_all [onlyB, nil_size]; exact cast_zero _) | (rw [Bool.eq_iff_iff]; simp_all [onlyB, nil_size]; done))
    · have n1 : (k == 1) = false := by simp; omega
      have n2 : (k == 2) = false := by simp; omega
      have n3 : (k == 3) = false := by simp; omega
      have n4 : (k == 4) = false := by simp; omega
      have n5 : (k == 5) = false := by simp; omega
      have n6 : (k == 6) = false := by simp; omega
      have n7 : (k == 7) = false := by simp; omega
      have hF : Hid (M = false) := by
        show _ = _
        rw [hT.out, if_neg (by omega), if_neg (by omega), if_neg (by omega), if_neg (by omega), if_neg (by omega), if_neg (by omega), Bool.and_false]
      clear hk
      go_enter Try.func87, Try.ntmps87
      go_wp2
      go_ret
      exact ⟨ret_bool hF.out.symm, bel1 w _⟩

theorem may46 : ∀ (N : Nat) (x : V), SizeOf.sizeOf x < N → ∀ (d : Int) (sx : Value) (w : World), I64 d → x.In w 0 sx →
    Calls Try.prog 87 #[x.agg sx, .int .i64 d] w fun e w' => e = .returned (.bool (x.may (d + 1))) ∧ Below w.heap.size w w'
  | 0, _, h => absurd h (Nat.not_lt_zero _)
  | N + 1, .mk k n s l, h => fun d sx w hd hx => may46_of k n s l sx d hd w hx fun h8 x hx sx w' hix => by
      have := may46 N x (by
        have := List.sizeOf_lt_of_mem hx
        simp at h
        omega) (d + 1) sx w' (by unfold I64 at *; omega) hix
      rw [show d + 1 + 1 = d + 2 by omega] at this
      exact this

set_option maxHeartbeats 1000000 in
theorem refCheck14 (x : V) (sx : Value) (w : World) (hx : x.In w 0 sx) :
    Calls Try.prog 61 #[x.agg sx] w fun e w' => e = .returned (.int .i64 x.err) ∧ Below w.heap.size w w' := by
  have c46 := fun w => may46 (SizeOf.sizeOf x + 1) x (Nat.lt_succ_self _) 0 sx w (by unfold I64; decide)
  rw [show (0 : Int) + 1 = 1 by omega] at c46
  unfold V.err
  obtain ⟨m, hm⟩ : ∃ m, V.may x 1 = m := ⟨_, rfl⟩
  rw [hm] at c46 ⊢
  clear hm
  unfold V.agg at c46 ⊢
  obtain ⟨p1, n1, q1, rfl⟩ := hx.header
  cases m
  · go_enter Try.func61, Try.ntmps61
    go_wp2_with (go_at_call 87; refine (c46 _ (hx.on (bel1 w _))).mono ?_; rintro e w1 ⟨rfl, hb1⟩)
    go_ret
    exact ⟨ret_int (by simp), bel_then (bel1 w _) hb1⟩
  · go_enter Try.func61, Try.ntmps61
    go_wp2_with (go_at_call 87; refine (c46 _ (hx.on (bel1 w _))).mono ?_; rintro e w1 ⟨rfl, hb1⟩)
    go_ret
    exact ⟨ret_int (by simp), bel_then (bel1 w _) hb1⟩
end Go.Proofs.Yteknbploiombiaa
