/-
  What Compare and Same of package value do.
-/
import Derived.Test.YteknbploiombiaaChecked
import Derived.Test.YteknbploiombiaaZValRwGm
import Derived.WalkKit
import Derived.WalkSpells
import Derived.WalkLawsBesides
import Derived.OwnWalk
import Derived.Sort.Grow
import Derived.Lib.AppendIntMem
namespace Go.Proofs.Yteknbploiombiaa
open Go.RowKit

theorem cmp47 (x y : Int) (w : World) : Calls Try.prog 107 #[.int .i64 x, .int .i64 y] w fun e w' => e = .returned (.int .i64 (icmp x y)) ∧ w' = w := by
  go_enter Try.func107, Try.ntmps107
  go_wp2
  all_goals (go_ret; refine ⟨?_, rfl⟩; unfold icmp; (repeat' split) <;> first | rfl | (exfalso; omega))
theorem cmp48 (x y : Int) (w : World) : Calls Try.prog 82 #[.int .i64 x, .int .i64 y] w fun e w' => e = .returned (.int .i64 (icmp x y)) ∧ w' = w := by
  go_enter Try.func82, Try.ntmps82
  go_wp2
  all_goals (go_ret; refine ⟨?_, rfl⟩; unfold icmp; (repeat' split) <;> first | rfl | (exfalso; omega))
set_option maxRecDepth 100000 in
theorem cmp73 (a b : ByteArray) (w : World) : Calls Try.prog 98 #[.string a, .string b] w fun e w' => e = .returned (.int .i64 (Lib.compareBytes a.data.toList b.data.toList)) ∧ w' = w := by
  go_enter Try.func98, Try.ntmps98
  go_wp2
  rw [run_callFunc_extern Try.func106 (by kernel_rfl) (by kernel_rfl) (by kernel_rfl) (e := Extern.BytealgCompare.compare) (by kernel_rfl), Lib.run_compareString]
  simp only [Result.andThen]
  rw [Oper.upon_value]
  go_wp2
  go_ret
  exact ⟨rfl, rfl⟩
theorem cmp49 (a b : ByteArray) (w : World) : Calls Try.prog 76 #[.string a, .string b] w fun e w' => e = .returned (.int .i64 (Lib.compareBytes a.data.toList b.data.toList)) ∧ w' = w := by
  go_enter Try.func76, Try.ntmps76
  go_wp2_with (go_at_call 98; refine (cmp73 _ _ _).mono ?_; rintro e w' ⟨rfl, rfl⟩)
  go_ret
  exact ⟨rfl, rfl⟩

/-- Draws, and new blocks behind all others. -/
def Gr (w w' : World) : Prop := ∃ q os, w' = Sort.grow (w.drewN q) os
theorem Gr.refl (w : World) : Gr w w := ⟨0, #[], by rw [Sort.grow_empty]; rfl⟩
theorem Gr.bel {w w' : World} (h : Gr w w') : Below w.heap.size w w' := by
  obtain ⟨q, os, rfl⟩ := h
  exact Lib.below_grow _ w (Nat.le_refl _) q os
theorem Gr.then {a b c : World} (h : Gr a b) (k : Gr b c) : Gr a c := by
  obtain ⟨q, os, rfl⟩ := h
  obtain ⟨q', os', rfl⟩ := k
  refine ⟨q + q', os ++ os', ?_⟩
  simp [Sort.grow, World.drewN, Array.append_assoc, Nat.add_assoc]
theorem gr1 (w : World) (o : Obj) : Gr w (w.alloc o) := ⟨0, #[o], by rw [Sort.alloc_eq_grow]; rfl⟩
theorem gr2 (w : World) (o p : Obj) : Gr w ((w.alloc o).alloc p) := (gr1 w o).then (gr1 _ p)

theorem bel1 (w : World) (o : Obj) : Below w.heap.size w (w.alloc o) := (Below.refl _ w).alloc (Nat.le_refl _) _
theorem bel2 (w : World) (o p : Obj) : Below w.heap.size w ((w.alloc o).alloc p) := (bel1 w o).alloc (by simp) _
theorem bel_then {a b c : World} (h : Below a.heap.size a b) (k : Below b.heap.size b c) : Below a.heap.size a c := h.trans (k.mono h.size)
theorem ret_int {a b : Int} (h : a = b) : Ending.returned (.int .i64 a) = .returned (.int .i64 b) := by rw [h]
theorem lex_ne {c d : Int} (h : (c != 0) = true) : c = lex c d := by unfold lex; rw [if_pos (by simpa using h)]
theorem lex_eq {c d : Int} (h : (c != 0) = false) : lex c d = d := by unfold lex; rw [if_neg (by simpa using h)]

/-- The function Compare as a value. -/
def fCmp : Value := .func (.func 105) #[] #[]

set_option maxHeartbeats 1000000 in
theorem cmp28_of (k n k' n' : Int) (s s' : ByteArray) (l l' : List V) (sl sl' : Value) (w : World)
    (c50 : ∀ w', Gr w w' → Calls Try.prog 108 #[sl, sl', fCmp] w' fun e w'' => e = .returned (.int .i64 (cmpL l l')) ∧ Gr w' w'') :
    Calls Try.prog 105 #[.agg #[.int .i64 k, .int .i64 n, .string s, sl], .agg #[.int .i64 k', .int .i64 n', .string s', sl']] w fun e w' =>
      e = .returned (.int .i64 (lex (icmp k k') (lex (icmp n n') (lex (Lib.compareBytes s.data.toList s'.data.toList) (cmpL l l'))))) ∧ Gr w w' := by
  obtain ⟨x, hx⟩ : ∃ x, icmp k k' = x := ⟨_, rfl⟩
  obtain ⟨y, hy⟩ : ∃ x, icmp n n' = x := ⟨_, rfl⟩
  obtain ⟨z, hz⟩ : ∃ x, Lib.compareBytes s.data.toList s'.data.toList = x := ⟨_, rfl⟩
  have c47 := cmp47 k k'
  have c48 := cmp48 n n'
  have c49 := cmp49 s s'
  rw [hx] at c47; rw [hy] at c48; rw [hz] at c49; rw [hx, hy, hz]
  clear hx hy hz
  unfold fCmp at c50
  go_enter Try.func105, Try.ntmps105
  go_wp2_with (first
    | (go_at_call 107; refine (c47 _).mono ?_; rintro e w' ⟨rfl, rfl⟩)
    | (go_at_call 82; refine (c48 _).mono ?_; rintro e w' ⟨rfl, rfl⟩)
    | (go_at_call 76; refine (c49 _).mono ?_; rintro e w' ⟨rfl, rfl⟩)
    | (go_at_call 108; refine (c50 _ (gr2 w _ _)).mono ?_; rintro e w1 ⟨rfl, hb⟩))
  · go_ret
    exact ⟨ret_int (lex_ne (by assumption)), gr2 w _ _⟩
  · go_ret
    exact ⟨ret_int (by rw [lex_eq (by assumption)]; exact lex_ne (by assumption)), gr2 w _ _⟩
  · go_ret
    refine ⟨ret_int ?_, gr2 w _ _⟩
    rw [lex_eq (c := x) (by assumption), lex_eq (c := y) (by assumption)]; exact lex_ne (by assumption)
  · go_ret
    refine ⟨ret_int ?_, (gr2 w _ _).then hb⟩
    rw [lex_eq (c := x) (by assumption), lex_eq (c := y) (by assumption), lex_eq (c := z) (by assumption)]

/-- Elements of two lists, one against the other, up to the first that differ. -/
def cmpTo (l m : List V) : Nat → Prop := fun i => cmpL l m = cmpL (l.drop i) (m.drop i)
theorem cmpTo_step {l m : List V} {i : Nat} (h : cmpTo l m i) (hi : i < l.length) (hj : i < m.length) (e : V.cmp l[i] m[i] = 0) : cmpTo l m (i + 1) := by
  unfold cmpTo at *
  rw [h, List.drop_eq_getElem_cons hi, List.drop_eq_getElem_cons hj, cmpL, lex_eq (by simp [e])]
theorem cmpTo_ne {l m : List V} {i : Nat} (h : cmpTo l m i) (hi : i < l.length) (hj : i < m.length) (e : (V.cmp l[i] m[i] != 0) = true) : V.cmp l[i] m[i] = cmpL l m := by
  unfold cmpTo at h
  rw [h, List.drop_eq_getElem_cons hi, List.drop_eq_getElem_cons hj, cmpL]; exact lex_ne e
theorem cmpTo_long {l m : List V} {i : Nat} (h : cmpTo l m i) (hi : i < l.length) (hj : m.length ≤ i) : 1 = cmpL l m := by
  unfold cmpTo at h
  rw [h, List.drop_eq_getElem_cons hi, List.drop_eq_nil_of_le hj, cmpL]
theorem cmpTo_end {l m : List V} (h : cmpTo l m l.length) (hj : l.length < m.length) : -1 = cmpL l m := by
  unfold cmpTo at h
  rw [h, List.drop_eq_getElem_cons hj, List.drop_eq_nil_of_le (Nat.le_refl _), cmpL]
theorem cmpTo_even {l m : List V} (h : cmpTo l m l.length) (hj : m.length ≤ l.length) : 0 = cmpL l m := by
  unfold cmpTo at h
  rw [h, List.drop_eq_nil_of_le (Nat.le_refl _), List.drop_eq_nil_of_le hj, cmpL]

theorem Ls.on' {w w' : World} (h : Below w.heap.size w w') {l : List V} {b o : Nat} (hv : Ls w 0 l b o) : Ls w' 0 l b o := hv.on h (Nat.zero_le _)

set_option maxHeartbeats 1000000 in
theorem cmp50_of (l m : List V) (sl sm : Value) (w : World) (hl : Sl w 0 l sl) (hm : Sl w 0 m sm)
    (ih : ∀ x ∈ l, ∀ (y : V) (sx sy : Value) (w' : World), x.In w' 0 sx → y.In w' 0 sy → Calls Try.prog 105 #[x.agg sx, y.agg sy] w' fun e w'' => e = .returned (.int .i64 (x.cmp y)) ∧ Gr w' w'') :
    Calls Try.prog 108 #[sl, sm, fCmp] w fun e w' => e = .returned (.int .i64 (cmpL l m)) ∧ Gr w w' := by
  obtain ⟨p, cap, rfl, hc, hcm, -, hx⟩ := hl
  obtain ⟨q, cap', rfl, hc', hcm', -, hx'⟩ := hm
  unfold maxLen at hcm hcm'
  unfold fCmp
  go_enter Try.func108, Try.ntmps108
  go_wp2
  go_loopw [13] (fun i wr => ∃ k : Nat, k ≤ l.length ∧ i = .int .i64 k ∧ cmpTo l m k ∧ Gr w wr) (fun i _ => l.length - (intOf i).toNat)
  case atStart => exact ⟨0, Nat.zero_le _, rfl, rfl, Gr.refl _⟩
  case round =>
    obtain ⟨k, hk, rfl, hto, hB⟩ := hrel
    by_cases hkl : k < l.length
    · obtain ⟨b, o, rfl, -, hx1⟩ := hx.resolve_left (by rintro rfl; simp at hkl)
      have hxr := hx1.on' hB.bel
      obtain ⟨s1, a0, a1, a2, a3, hv1⟩ := hxr.at k hkl
      have hb := cell_lt a0
      clear hx hx1 hxr
      by_cases hkm : k < m.length
      · obtain ⟨b', o', rfl, -, hx1⟩ := hx'.resolve_left (by rintro rfl; simp at hkm)
        have hxr := hx1.on' hB.bel
        obtain ⟨s2, b0, b1, b2, b3, hv2⟩ := hxr.at k hkm
        have hb' := cell_lt b0
        clear hx' hx1 hxr
        have ih' := ih l[k] (List.getElem_mem hkl) m[k] s1 s2
        have hto1 : Hid (V.cmp l[k] m[k] = 0 → cmpTo l m (k + 1)) := fun h => cmpTo_step hto hkl hkm h
        have hto2 : Hid ((V.cmp l[k] m[k] != 0) = true → V.cmp l[k] m[k] = cmpL l m) := fun h => cmpTo_ne hto hkl hkm h
        clear ih hto
        unfold V.agg at ih'
        generalize l[k] = x at *
        generalize m[k] = y at *
        obtain ⟨c, hcmp⟩ : ∃ c, V.cmp x y = c := ⟨_, rfl⟩
        rw [hcmp] at ih' hto1 hto2
        clear hcmp
        obtain ⟨p1, n1, q1, rfl⟩ := hv1.header
        obtain ⟨p2, n2, q2, rfl⟩ := hv2.header
        go_wp2_with (go_at_call 105; refine (ih' _ (hv1.on (gr2 wr _ _).bel) (hv2.on (gr2 wr _ _).bel)).mono ?_; rintro e w1 ⟨rfl, hb1⟩)
        · go_ret
          exact ⟨ret_int (hto2.out (by assumption)), hB.then ((gr2 wr _ _).then hb1)⟩
        · go_round
          case rel => exact ⟨k + 1, by omega, by go_num, hto1.out (by simpa using (by assumption : (c != 0) = false)), hB.then ((gr2 wr _ _).then hb1)⟩
          case measure => simp [intOf]; omega
      · have hto1 : Hid (1 = cmpL l m) := cmpTo_long hto hkl (by omega)
        clear ih hto hx'
        generalize l[k] = x at *
        obtain ⟨p1, n1, q1, rfl⟩ := hv1.header
        go_wp2
        go_ret
        exact ⟨ret_int hto1.out, hB.then (gr1 wr _)⟩
    · obtain rfl : k = l.length := by omega
      by_cases hj : l.length < m.length
      · have hto1 : Hid (-1 = cmpL l m) := cmpTo_end hto hj
        clear ih hto hx' hx
        go_wp2
        go_ret
        exact ⟨ret_int hto1.out, hB⟩
      · have hto1 : Hid (0 = cmpL l m) := cmpTo_even hto (by omega)
        clear ih hto hx' hx
        go_wp2
        go_ret
        exact ⟨ret_int hto1.out, hB⟩

/-- Compare. -/
theorem cmp28 : ∀ (N : Nat) (x : V), SizeOf.sizeOf x < N → ∀ (y : V) (sx sy : Value) (w : World), x.In w 0 sx → y.In w 0 sy →
    Calls Try.prog 105 #[x.agg sx, y.agg sy] w fun e w' => e = .returned (.int .i64 (x.cmp y)) ∧ Gr w w'
  | 0, _, h => absurd h (Nat.not_lt_zero _)
  | N + 1, .mk k n s l, h => fun y sx sy w hx hy => by
    cases y with | mk k' n' s' l' =>
    have h1 := ((V.in_iff _ _ _ _).1 hx).2.2.2
    have h2 := ((V.in_iff _ _ _ _).1 hy).2.2.2
    simp only [V.cmp]
    refine cmp28_of k n k' n' s s' l l' sx sy w fun w' hb => ?_
    exact cmp50_of l l' sx sy w' (h1.on hb.bel) (h2.on hb.bel) fun x hx y sx sy w' hix hiy => cmp28 N x (by
      have := List.sizeOf_lt_of_mem hx
      simp at h
      omega) y sx sy w' hix hiy
theorem cmpGr_any (x y : V) (sx sy : Value) (w : World) (hx : x.In w 0 sx) (hy : y.In w 0 sy) :
    Calls Try.prog 105 #[x.agg sx, y.agg sy] w fun e w' => e = .returned (.int .i64 (x.cmp y)) ∧ Gr w w' :=
  cmp28 (SizeOf.sizeOf x + 1) x (Nat.lt_succ_self _) y sx sy w hx hy

theorem cmp_any (x y : V) (sx sy : Value) (w : World) (hx : x.In w 0 sx) (hy : y.In w 0 sy) :
    Calls Try.prog 105 #[x.agg sx, y.agg sy] w fun e w' => e = .returned (.int .i64 (x.cmp y)) ∧ Below w.heap.size w w' :=
  (cmpGr_any x y sx sy w hx hy).mono fun _ _ ⟨he, h⟩ => ⟨he, h.bel⟩

/-- Same. -/
theorem same_any (x y : V) (sx sy : Value) (w : World) (hx : x.In w 0 sx) (hy : y.In w 0 sy) :
    Calls Try.prog 91 #[x.agg sx, y.agg sy] w fun e w' => e = .returned (.bool (x.cmp y == 0)) ∧ Gr w w' := by
  have c28 := fun w => cmpGr_any x y sx sy w
  obtain ⟨c, hc⟩ : ∃ c, V.cmp x y = c := ⟨_, rfl⟩
  rw [hc] at c28 ⊢
  clear hc
  unfold V.agg at c28 ⊢
  obtain ⟨p1, n1, q1, rfl⟩ := hx.header
  obtain ⟨p2, n2, q2, rfl⟩ := hy.header
  go_enter Try.func91, Try.ntmps91
  go_wp2_with (go_at_call 105; refine (c28 _ (hx.on (gr2 w _ _).bel) (hy.on (gr2 w _ _).bel)).mono ?_; rintro e w1 ⟨rfl, hb1⟩)
  go_ret
  exact ⟨rfl, (gr2 w _ _).then hb1⟩
end Go.Proofs.Yteknbploiombiaa
