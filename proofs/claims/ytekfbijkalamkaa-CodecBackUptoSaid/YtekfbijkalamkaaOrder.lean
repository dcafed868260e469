/-
  The walk of CodecOrder.
-/
import Derived.Test.YtekfbijkalamkaaBegun
import Derived.Test.YtekfbijkalamkaaRef
import Derived.Test.YtekfbijkalamkaaRdr
namespace Go.Proofs.Ytekfbijkalamkaa
open Go.RowKit
set_option linter.unusedVariables false      -- a walk need not use every condition

theorem cmp_app : ∀ (p x y : List UInt8), Lib.compareBytes (p ++ x) (p ++ y) = Lib.compareBytes x y
  | [], _, _ => rfl
  | c :: p, x, y => by
    simp only [List.cons_append]
    rw [cmp_same]; exact cmp_app p x y
theorem keyL_app (l m : List V) : keyL (l ++ m) = keyL l ++ keyL m := by unfold keyL; rw [List.flatMap_append]
theorem keyL_at {l : List V} {j : Nat} (hj : j < l.length) : keyL l = keyL (l.take j) ++ (kForm l[j] ++ keyL (l.drop (j + 1))) := by
  have h : l = l.take j ++ (l[j] :: l.drop (j + 1)) := by rw [← List.drop_eq_getElem_cons hj, List.take_append_drop]
  have e : keyL l = keyL (l.take j ++ (l[j] :: l.drop (j + 1))) := by rw [← h]
  rw [e, keyL_app]
  congr 1
theorem order_ne {l m : List V} {j : Nat} (hl : j < l.length) (hm : j < m.length) (e : l.take j = m.take j) (bl : bads l = 0) (bm : bads m = 0) (wl : wideL l) (wm : wideL m) (hne : V.cmp l[j] m[j] ≠ 0) : Lib.compareBytes (keyL l) (keyL m) = V.cmp l[j] m[j] := by
  rw [keyL_at hl, keyL_at hm, e, cmp_app]
  exact cmp_forms (bads_mem bl _ (List.getElem_mem hl)) (bads_mem bm _ (List.getElem_mem hm)) (wideL_mem wl _ (List.getElem_mem hl)) (wideL_mem wm _ (List.getElem_mem hm)) hne _ _
theorem take_same {l m : List V} {j : Nat} (hl : j < l.length) (hm : j < m.length) (e : l.take j = m.take j) (h : V.cmp l[j] m[j] = 0) : l.take (j + 1) = m.take (j + 1) := by
  rw [List.take_succ_eq_append_getElem hl, List.take_succ_eq_append_getElem hm, e, cmp_eq _ _ h]
theorem begins_app (p q : List UInt8) : begins (p ++ q) p = true := by simp [begins]
theorem keyL_pos {l : List V} (h : l ≠ []) : 0 < (keyL l).length := by
  cases l with
  | nil => exact absurd rfl h
  | cons v l =>
    have := kForm_pos v
    simp only [keyL, List.flatMap_cons, List.length_append]; omega
/-- A beginning of as many. -/
theorem order_pre {l m : List V} (h : l.length ≤ m.length) (e : l.take l.length = m.take l.length) : begins (keyL m) (keyL l) = true ∧ (l.length < m.length → (keyL l).length < (keyL m).length) ∧ (l.length = m.length → keyL l = keyL m) := by
  have hm : m = l ++ m.drop l.length := by
    have := List.take_append_drop l.length m
    rw [← e, List.take_length] at this
    exact this.symm
  have hk : keyL m = keyL l ++ keyL (m.drop l.length) := by rw [← keyL_app, ← hm]
  refine ⟨by rw [hk]; exact begins_app _ _, fun hlt => ?_, fun heq => ?_⟩
  · have := keyL_pos (l := m.drop l.length) (fun h0 => by have := congrArg List.length h0; simp at this; omega)
    rw [hk, List.length_append]; omega
  · rw [hk, List.drop_eq_nil_of_le (by omega)]; simp [keyL]
theorem Sl.wideL {w : World} {lo : Nat} {l : List V} {sl : Value} (h : Sl w lo l sl) : wideL l := by
  obtain ⟨p, cap, -, -, -, -, hx⟩ := h
  rcases hx with rfl | ⟨b, o, -, -, hx⟩
  · simp only [Ytekfbijkalamkaa.wideL]
  · exact Ls.wide l b o hx
set_option maxHeartbeats 1000000 in
set_option maxRecDepth 20000 in
/-- One of the two is no key's. -/
theorem order_no (l m : List V) (sl sm : Value) (w : World) (hl : Sl w 0 l sl) (hm : Sl w 0 m sm) (kl : (keyL l).length ≤ 140737488355328) (km : (keyL m).length ≤ 140737488355328) (hno : bads l ≠ 0 ∨ bads m ≠ 0) :
    Calls Try.prog 5 #[sl, sm] w fun e w' => e = .returned (.bool true) ∧ Below w.heap.size w w' := by
  have c10 := fun w => begun10 w
  have c8l := key8 l sl w hl kl
  have c8m := fun w' (hB : Below w.heap.size w w') => key8 m sm w' (hm.on hB) km
  unfold KeyR at c8l c8m
  obtain ⟨p, cap, rfl, -⟩ := hl
  obtain ⟨q, cap', rfl, -⟩ := hm
  generalize bads l = A at *
  generalize bads m = B at *
  generalize (if A = 0 then keyL l else []) = KL at *
  generalize (if B = 0 then keyL m else []) = KM at *
  have tk : True := trivial
  have tk2 : True := trivial
  by_cases hA : A = 0
  · have hB0 : (B != 0) = true := by simp; omega
    subst hA
    clear hno
    go_enter Try.func5, Try.ntmps5
    go_wp2_with (first
      | (go_at_call 8; clear tk; refine c8l.mono ?_; rintro e w1 ⟨b1, rfl, -, hB1⟩)
      | (go_at_call 8; refine (c8m _ hB1).mono ?_; rintro e w2 ⟨b2, rfl, -, hB2⟩; have hB2' := bel_then hB1 hB2)
      | (go_at_call 10; clear tk2; refine (c10 _).mono ?_; rintro e w3 ⟨rfl, hB3⟩; have hB3' := bel_then hB2' hB3)
      | (go_at_call 10; refine (c10 _).mono ?_; rintro e w4 ⟨rfl, hB4⟩; have hB4' := bel_then hB3' hB4))
    go_ret
    exact ⟨rfl, hB4'⟩
  · have hA0 : (A != 0) = true := by simp; omega
    clear hno hA
    go_enter Try.func5, Try.ntmps5
    go_wp2_with (first
      | (go_at_call 8; clear tk; refine c8l.mono ?_; rintro e w1 ⟨b1, rfl, -, hB1⟩)
      | (go_at_call 8; refine (c8m _ hB1).mono ?_; rintro e w2 ⟨b2, rfl, -, hB2⟩; have hB2' := bel_then hB1 hB2)
      | (go_at_call 10; clear tk2; refine (c10 _).mono ?_; rintro e w3 ⟨rfl, hB3⟩; have hB3' := bel_then hB2' hB3)
      | (go_at_call 10; refine (c10 _).mono ?_; rintro e w4 ⟨rfl, hB4⟩; have hB4' := bel_then hB3' hB4))
    go_ret
    exact ⟨rfl, hB4'⟩
set_option maxHeartbeats 2000000 in
set_option maxRecDepth 20000 in
theorem order_yes (l m : List V) (sl sm : Value) (w : World) (hl : Sl w 0 l sl) (hm : Sl w 0 m sm) (kl : (keyL l).length ≤ 140737488355328) (km : (keyL m).length ≤ 140737488355328) (hA : bads l = 0) (hB : bads m = 0) :
    Calls Try.prog 5 #[sl, sm] w fun e w' => e = .returned (.bool true) ∧ Below w.heap.size w w' := by
  have c10 := fun w => begun10 w
  have c8l := key8 l sl w hl kl
  have c8m := fun w' (hB : Below w.heap.size w w') => key8 m sm w' (hm.on hB) km
  unfold KeyR at c8l c8m
  rw [hA] at c8l
  rw [hB] at c8m
  simp only [if_true] at c8l c8m
  have wl := hl.wideL
  have wm := hm.wideL
  have hne := Lib.hid (fun j hl hm e h => order_ne (l := l) (m := m) (j := j) hl hm e hA hB wl wm h)
  obtain ⟨p, cap, rfl, hc, hcm, -, hx⟩ := hl
  obtain ⟨q, cap', rfl, hc', hcm', -, hx'⟩ := hm
  unfold maxLen at hcm hcm'
  clear wl wm hA hB
  have tk : True := trivial
  by_cases hlm : m.length < l.length
  · go_enter Try.func5, Try.ntmps5
    go_wp2_with (first
      | (go_at_call 8; clear tk; refine c8l.mono ?_; rintro e w1 ⟨b1, rfl, hb1, hB1⟩)
      | (go_at_call 8; refine (c8m _ hB1).mono ?_; rintro e w2 ⟨b2, rfl, hb2, hB2⟩; have hB2' := bel_then hB1 hB2)
      | (go_at_call 10; refine (c10 _).mono ?_; rintro e w3 ⟨rfl, hB3⟩; have hB3' := bel_then hB2' hB3; have hs1 := (hb1.bs.on hB2).on hB3; have hs2 := hb2.bs.on hB3; clear hb1 hb2))
    go_loopg [37] m.length (fun g i wr => ∃ k : Nat, g + k = m.length ∧ i = .int .i64 k ∧ Hid (l.take k = m.take k) ∧ Hid (Below w3.heap.size w3 wr))
    case atStart => exact ⟨0, by omega, rfl, (rfl : _ = _), Below.refl _ _⟩
    case round =>
      obtain ⟨k, hgk, rfl, hto, hBr⟩ := hrel
      by_cases hk : k < m.length
      · have hkl : k < l.length := by omega
        have hkm : k < m.length := by omega
        obtain ⟨b, o, rfl, -, hx1⟩ := hx.resolve_left (by rintro rfl; simp at hkl)
        obtain ⟨b', o', rfl, -, hx2⟩ := hx'.resolve_left (by rintro rfl; simp at hkm)
        have hBW := bel_then hB3' hBr.out
        obtain ⟨s1, a0, a1, a2, a3, hv1⟩ := (hx1.on' hBW).at k hkl
        obtain ⟨s2, b0, b1', b2', b3, hv2⟩ := (hx2.on' hBW).at k hkm
        have c27 := fun w => refCmp_any (l[k]'hkl) (m[k]'hkm) s1 s2 w
        have hF := Lib.hid (hne.out k hkl hkm hto.out)
        have hT := Lib.hid (take_same hkl hkm hto.out)
        have c28 := fun w h1 h2 => compare28 w _ _ _ _ (hs1.on (w' := w) h1) (hs2.on (w' := w) h2)
        clear hx hx' hx1 hx2 hto
        unfold V.agg at c27
        generalize l[k] = x at *
        generalize m[k] = y at *
        obtain ⟨c, hcmp⟩ : ∃ c, V.cmp x y = c := ⟨_, rfl⟩
        rw [hcmp] at c27 hF hT
        clear hcmp
        obtain ⟨p1, n1, c1, rfl⟩ := hv1.header
        obtain ⟨p2, n2, c2, rfl⟩ := hv2.header
        have i1 : (k : Int) < (l.length : Int) := by omega
        have i2 : (k : Int) < (m.length : Int) := by omega
        go_wp2
        go_region_held3 (fun w' => w'.cell? ⟨b, o + k * 4, none⟩ = some (.int .i64 x.k) ∧ w'.cell? ⟨b, o + k * 4 + 1, none⟩ = some (.int .i64 x.n) ∧ w'.cell? ⟨b, o + k * 4 + 2, none⟩ = some (.string x.s) ∧ w'.cell? ⟨b, o + k * 4 + 3, none⟩ = some (.slice p1 n1 c1) ∧
            w'.cell? ⟨b', o' + k * 4, none⟩ = some (.int .i64 y.k) ∧ w'.cell? ⟨b', o' + k * 4 + 1, none⟩ = some (.int .i64 y.n) ∧ w'.cell? ⟨b', o' + k * 4 + 2, none⟩ = some (.string y.s) ∧ w'.cell? ⟨b', o' + k * 4 + 3, none⟩ = some (.slice p2 n2 c2))
          (first | exact ⟨a0, a1, a2, a3, b0, b1', b2', b3⟩ | exact ⟨some_on hb2 a0, some_on hb2 a1, some_on hb2 a2, some_on hb2 a3, some_on hb2 b0, some_on hb2 b1', some_on hb2 b2', some_on hb2 b3⟩)
          (first | (go_at_call 27; refine (c27 _ (hv1.on (Below.refl _ _).drew) (hv2.on (Below.refl _ _).drew)).mono ?_; rintro e w2 ⟨rfl, hb2⟩))
        have hB5 := bel_then hBr.out (bel_then (Below.refl _ wr).drew hb2)
        by_cases hc0 : c = 0
        · have hT' := Lib.hid (hT.out hc0)
          have e0 : (c != 0) = false := by simp [hc0]
          clear hF hT c28 c27
          go_wp2
          go_roundg (gk - 1)
          case rel => exact ⟨k + 1, by omega, by go_num, hT', hB5⟩
          case measure => omega
        · have e0 : (c != 0) = true := by simp [hc0]
          have c28' := c28 _ hB5 hB5
          rw [hF.out hc0] at c28'
          clear hF hT c28 c27
          go_wp2_with (go_at_call 28; refine c28'.mono ?_; rintro e w' ⟨rfl, rfl⟩)
          go_ret
          exact ⟨by simp, bel_then hB3' hB5⟩
      · obtain rfl : k = m.length := by omega
        have hBr := hBr
        have hpre := order_pre (l := m) (m := l) (by omega) (by rw [hto.out])
        obtain ⟨g1, g2, -⟩ := hpre
        have g2 := g2 (by omega)
        have c29 := hasPrefix29 wr _ _ _ _ (hs1.on hBr.out) (hs2.on hBr.out)
        rw [g1] at c29
        have q1 : ¬ (l.length ≤ m.length) := by omega
        have q2 : m.length ≤ l.length := by omega
        have q3 : ¬ (l.length < m.length) := by omega
        have hd : Hid (¬ (keyL l).length < (keyL m).length) := by show ¬ _; omega
        obtain ⟨p1, r1, rfl, r2, r3⟩ := hs1.slice
        obtain ⟨p2, r4, rfl, r5, r6⟩ := hs2.slice
        clear hto hx hx' hne g1 hs1 hs2 g2
        have hd' := hd.out
        generalize (keyL l).length = L at *
        generalize (keyL m).length = M at *
        go_wp2_with (go_at_call 29; refine c29.mono ?_; rintro e w' ⟨rfl, rfl⟩)
        go_ret
        exact ⟨rfl, bel_then hB3' hBr.out⟩
  · go_enter Try.func5, Try.ntmps5
    go_wp2_with (first
      | (go_at_call 8; clear tk; refine c8l.mono ?_; rintro e w1 ⟨b1, rfl, hb1, hB1⟩)
      | (go_at_call 8; refine (c8m _ hB1).mono ?_; rintro e w2 ⟨b2, rfl, hb2, hB2⟩; have hB2' := bel_then hB1 hB2)
      | (go_at_call 10; refine (c10 _).mono ?_; rintro e w3 ⟨rfl, hB3⟩; have hB3' := bel_then hB2' hB3; have hs1 := (hb1.bs.on hB2).on hB3; have hs2 := hb2.bs.on hB3; clear hb1 hb2))
    go_loopg [37] l.length (fun g i wr => ∃ k : Nat, g + k = l.length ∧ i = .int .i64 k ∧ Hid (l.take k = m.take k) ∧ Hid (Below w3.heap.size w3 wr))
    case atStart => exact ⟨0, by omega, rfl, (rfl : _ = _), Below.refl _ _⟩
    case round =>
      obtain ⟨k, hgk, rfl, hto, hBr⟩ := hrel
      by_cases hk : k < l.length
      · have hkl : k < l.length := by omega
        have hkm : k < m.length := by omega
        obtain ⟨b, o, rfl, -, hx1⟩ := hx.resolve_left (by rintro rfl; simp at hkl)
        obtain ⟨b', o', rfl, -, hx2⟩ := hx'.resolve_left (by rintro rfl; simp at hkm)
        have hBW := bel_then hB3' hBr.out
        obtain ⟨s1, a0, a1, a2, a3, hv1⟩ := (hx1.on' hBW).at k hkl
        obtain ⟨s2, b0, b1', b2', b3, hv2⟩ := (hx2.on' hBW).at k hkm
        have c27 := fun w => refCmp_any (l[k]'hkl) (m[k]'hkm) s1 s2 w
        have hF := Lib.hid (hne.out k hkl hkm hto.out)
        have hT := Lib.hid (take_same hkl hkm hto.out)
        have c28 := fun w h1 h2 => compare28 w _ _ _ _ (hs1.on (w' := w) h1) (hs2.on (w' := w) h2)
        clear hx hx' hx1 hx2 hto
        unfold V.agg at c27
        generalize l[k] = x at *
        generalize m[k] = y at *
        obtain ⟨c, hcmp⟩ : ∃ c, V.cmp x y = c := ⟨_, rfl⟩
        rw [hcmp] at c27 hF hT
        clear hcmp
        obtain ⟨p1, n1, c1, rfl⟩ := hv1.header
        obtain ⟨p2, n2, c2, rfl⟩ := hv2.header
        have i1 : (k : Int) < (l.length : Int) := by omega
        have i2 : (k : Int) < (m.length : Int) := by omega
        go_wp2
        go_region_held3 (fun w' => w'.cell? ⟨b, o + k * 4, none⟩ = some (.int .i64 x.k) ∧ w'.cell? ⟨b, o + k * 4 + 1, none⟩ = some (.int .i64 x.n) ∧ w'.cell? ⟨b, o + k * 4 + 2, none⟩ = some (.string x.s) ∧ w'.cell? ⟨b, o + k * 4 + 3, none⟩ = some (.slice p1 n1 c1) ∧
            w'.cell? ⟨b', o' + k * 4, none⟩ = some (.int .i64 y.k) ∧ w'.cell? ⟨b', o' + k * 4 + 1, none⟩ = some (.int .i64 y.n) ∧ w'.cell? ⟨b', o' + k * 4 + 2, none⟩ = some (.string y.s) ∧ w'.cell? ⟨b', o' + k * 4 + 3, none⟩ = some (.slice p2 n2 c2))
          (first | exact ⟨a0, a1, a2, a3, b0, b1', b2', b3⟩ | exact ⟨some_on hb2 a0, some_on hb2 a1, some_on hb2 a2, some_on hb2 a3, some_on hb2 b0, some_on hb2 b1', some_on hb2 b2', some_on hb2 b3⟩)
          (first | (go_at_call 27; refine (c27 _ (hv1.on (Below.refl _ _).drew) (hv2.on (Below.refl _ _).drew)).mono ?_; rintro e w2 ⟨rfl, hb2⟩))
        have hB5 := bel_then hBr.out (bel_then (Below.refl _ wr).drew hb2)
        by_cases hc0 : c = 0
        · have hT' := Lib.hid (hT.out hc0)
          have e0 : (c != 0) = false := by simp [hc0]
          clear hF hT c28 c27
          go_wp2
          go_roundg (gk - 1)
          case rel => exact ⟨k + 1, by omega, by go_num, hT', hB5⟩
          case measure => omega
        · have e0 : (c != 0) = true := by simp [hc0]
          have c28' := c28 _ hB5 hB5
          rw [hF.out hc0] at c28'
          clear hF hT c28 c27
          go_wp2_with (go_at_call 28; refine c28'.mono ?_; rintro e w' ⟨rfl, rfl⟩)
          go_ret
          exact ⟨by simp, bel_then hB3' hB5⟩
      · obtain rfl : k = l.length := by omega
        have hBr := hBr
        obtain ⟨g1, g2, g3⟩ := order_pre (l := l) (m := m) (by omega) (by rw [hto.out])
        have c29 := hasPrefix29 wr _ _ _ _ (hs2.on hBr.out) (hs1.on hBr.out)
        rw [g1] at c29
        have q2 : l.length ≤ m.length := by omega
        by_cases heq : l.length = m.length
        · have q1 : m.length ≤ l.length := by omega
          have q3 : ¬ (l.length < m.length) := by omega
          have hk := g3 heq
          have c29' := hasPrefix29 wr _ _ _ _ (hs1.on hBr.out) (hs2.on hBr.out)
          rw [hk, show begins (keyL m) (keyL m) = true from by have := begins_app (keyL m) []; rwa [List.append_nil] at this] at c29'
          have hd : ¬ (keyL l).length < (keyL m).length := by rw [hk]; omega
          obtain ⟨p1, r1, rfl, r2, r3⟩ := hs1.slice
          obtain ⟨p2, r4, rfl, r5, r6⟩ := hs2.slice
          have tk3 : True := trivial
          clear hto hx hx' hne g1 hs1 hs2 g2 g3 hk
          generalize (keyL l).length = L at *
          generalize (keyL m).length = M at *
          go_wp2_with (first
            | (go_at_call 29; clear tk3; refine c29.mono ?_; rintro e w' ⟨rfl, rfl⟩)
            | (go_at_call 29; refine c29'.mono ?_; rintro e w' ⟨rfl, rfl⟩))
          go_ret
          exact ⟨rfl, bel_then hB3' hBr.out⟩
        · have q1 : ¬ m.length ≤ l.length := by omega
          have q3 : l.length < m.length := by omega
          have hd := g2 q3
          obtain ⟨p1, r1, rfl, r2, r3⟩ := hs1.slice
          obtain ⟨p2, r4, rfl, r5, r6⟩ := hs2.slice
          clear hto hx hx' hne g1 hs1 hs2 g2 g3
          generalize (keyL l).length = L at *
          generalize (keyL m).length = M at *
          go_wp2_with (go_at_call 29; refine c29.mono ?_; rintro e w' ⟨rfl, rfl⟩)
          go_ret
          exact ⟨rfl, bel_then hB3' hBr.out⟩
end Go.Proofs.Ytekfbijkalamkaa
