/-
  Cells put between others, and taken out: with and without of package node.
-/
import Derived.Test.YtbkpgppaahpalaaOwn
import Derived.ArgAppend
import Derived.Deep.RegionHeld3
namespace Go.Proofs.Ytbkpgppaahpalaa
open Go.RowKit
set_option linter.unusedVariables false      -- a walk need not use every condition

theorem below_none {w w' : World} (h : w.grownBy w' none) : Below w.heap.size w w' := (Below.refl _ w).grown h (Nat.le_refl _) (fun k e => by cases e)
theorem src_none (w : World) (ST ET s : Nat) (hst : Try.prog.underlying ST = some (.slice ET)) (p : Option Addr) (cap : Nat) : Src Try.prog s ST (.slice p 0 cap) 0 [] w := by
  cases p with
  | none => exact Src.ofNil (w := w) hst cap
  | some a => exact Src.ofSlice (w := w) hst a 0 cap [] (by simp) (by simp) (by simp)
theorem range_add {w : World} {g o : Nat} {vs : List Value} (h : w.rangeAt g o vs) : ∀ j u, vs[j]? = some u → w.cell? ((⟨g, o, none⟩ : Addr).add j) = some u := fun j u hu => by
  rw [Go.WideShapes.add_plain]
  exact h j u hu
/-- More put behind a row of somebody else's that has no room: it goes to memory of its own, or nothing is put. -/
theorem app_fl (ST ET s by_ : Nat) (i0 : TypeInfo) (z : Value) (hst : Try.prog.underlying ST = some (.slice ET)) (hi : Try.prog.info? ET = some i0) (hz0 : i0.zero = some z) (hz1 : i0.size = s) (hz2 : i0.bytes = by_) (hzc : z.cells.size = s) (hs : 0 < s)
    (w : World) (p : Option Addr) (k m : Nat) (x : Value) (vs news : List Value) (ty : TypeId) (h : Fl w (.slice p k k) s k vs) (hx : Fl w x s m news) (h1 : ∀ u ∈ news, u.oneCell' = true) (hb : (k + m) * by_ ≤ 140737488355328) (h63 : k + m ≤ maxLen) :
    ∃ v' w', (Builtin.append_ #[ST, ST] ty #[.slice p k k, x]).run Try.prog w = .ok v' w' ∧ Fl w' v' s (k + m) (vs ++ news) ∧ Below w.heap.size w w' ∧ (0 < m → w'.ownsRow w.heap.size ET s v' (k + m) (vs ++ news)) ∧ (m = 0 → v' = .slice p k k) := by
  obtain ⟨q, c, rfl, x1, x2, x3, x4, x5⟩ := hx
  by_cases hm : m = 0
  · subst hm
    have hn : news = [] := List.eq_nil_of_length_eq_zero (by rw [x4]; simp)
    subst hn
    refine ⟨_, w, run_append_nothing w ST ST ty ET i0 hst hi p k k (Nat.le_refl _) _ (by rw [hz1]; exact src_none w ST ET s hst q c), by rw [List.append_nil]; exact h, Below.refl _ _, fun h0 => absurd h0 (by omega), fun _ => rfl⟩
  · obtain ⟨g, o, rfl, hr⟩ := x5.resolve_left hm
    obtain ⟨p', cp, e, y1, y2, y3, y4, y5⟩ := h
    injection e with e1 e2 e3
    subst e1 e3
    cases p with
    | none =>
      have hk0 := y3 rfl
      subst hk0
      have hv : vs = [] := List.eq_nil_of_length_eq_zero (by rw [y4]; simp)
      subst hv
      obtain ⟨v', w', hrun, hown, hg, -⟩ := run_append_own (P := Try.prog) w w.heap.size ST ty ET i0 z s by_ hst hi hz0 hz1 hz2 hzc hs (.slice none 0 0) 0 [] (World.ownsRow_nil _ _ _ _) ⟨g, o, none⟩ m c news x4 (range_add hr) h1 h63 hb (Nat.le_refl _)
      exact ⟨v', w', hrun, fl_own hown, below_none hg, fun _ => hown, fun h0 => absurd h0 hm⟩
    | some b =>
      have holds : ∀ j u, vs[j]? = some u → w.cell? (b.add j) = some u := by
        rcases y5 with h0 | ⟨g', o', e, hr'⟩
        · have hv : vs = [] := List.eq_nil_of_length_eq_zero (by rw [y4, h0]; simp)
          subst hv
          intro j u hu
          simp at hu
        · injection e with e
          subst e
          exact range_add hr'
      obtain ⟨v', w', hrun, hown, hg⟩ := run_append_arg_grows (P := Try.prog) w ST ty ET i0 z s by_ hst hi hz0 hz1 hz2 hzc hs b k k vs y4 holds ⟨g, o, none⟩ m c news x4 (range_add hr) (by omega) h63 hb
      exact ⟨v', w', hrun, fl_own hown, below_none hg, fun _ => hown, fun h0 => absurd h0 hm⟩
/-- More put behind a row of one's own. -/
theorem app_ow (ST ET s by_ : Nat) (i0 : TypeInfo) (z : Value) (hst : Try.prog.underlying ST = some (.slice ET)) (hi : Try.prog.info? ET = some i0) (hz0 : i0.zero = some z) (hz1 : i0.size = s) (hz2 : i0.bytes = by_) (hzc : z.cells.size = s) (hs : 0 < s)
    (w : World) (base k m : Nat) (v x : Value) (vs news : List Value) (ty : TypeId) (h : w.ownsRow base ET s v k vs) (hx : Fl w x s m news) (h1 : ∀ u ∈ news, u.oneCell' = true) (hb : (k + m) * by_ ≤ 140737488355328) (h63 : k + m ≤ maxLen) (hbase : base ≤ w.heap.size) :
    ∃ v' w', (Builtin.append_ #[ST, ST] ty #[v, x]).run Try.prog w = .ok v' w' ∧ w'.ownsRow base ET s v' (k + m) (vs ++ news) ∧ Below base w w' := by
  obtain ⟨q, c, rfl, x1, x2, x3, x4, x5⟩ := hx
  have below : ∀ w', w.grownBy w' v.ownBlock → Below base w w' := fun w' hg => (Below.refl _ w).grown hg hbase (fun j e => by have := (World.ownsRow.lt h j e).1; omega)
  by_cases hm : m = 0
  · subst hm
    have hn : news = [] := List.eq_nil_of_length_eq_zero (by rw [x4]; simp)
    subst hn
    have hs' : ∃ q n c, v = .slice q n c ∧ n ≤ c := by
      rcases h.2 with ⟨rfl, h0⟩ | ⟨g, cap, cur, rfl, hbg, hg, hnc, hcm, hcs, htake⟩
      · exact ⟨none, 0, 0, rfl, Nat.le_refl _⟩
      · exact ⟨_, _, cap, rfl, hnc⟩
    obtain ⟨q', n', c', rfl, hnc⟩ := hs'
    exact ⟨_, w, run_append_nothing w ST ST ty ET i0 hst hi q' n' c' hnc _ (by rw [hz1]; exact src_none w ST ET s hst q c), by rw [List.append_nil]; exact h, Below.refl _ _⟩
  · obtain ⟨g, o, rfl, hr⟩ := x5.resolve_left hm
    obtain ⟨v', w', hrun, hown, hg, -⟩ := run_append_own (P := Try.prog) w base ST ty ET i0 z s by_ hst hi hz0 hz1 hz2 hzc hs v k vs h ⟨g, o, none⟩ m c news x4 (range_add hr) h1 h63 hb hbase
    exact ⟨v', w', hrun, hown, below w' hg⟩
/-- An append whose run is known, as a step of a region that draws. -/
theorem step_run {ops : Array Oper} {o : Oper} {a : Act} {w : World} {K : Act → World → Prop} {Q : Exit → Act → World → Prop} {E : Prop} (hgd : o.guard = none) (s x : Operand) (T : TypeId)
    (ho : o.op = .call { callee := .builtin .append, args := #[s, x], argTypes := #[T, T] }) (v y v' : Value) (w' : World) (hs : a.eval s = v) (hy : a.eval x = y) (hr : (Builtin.append_ #[T, T] o.type #[v, y]).run Try.prog w = .ok v' w')
    (h : K (a.put o.dst v') w') : if Region.wanted o (yielded ops a.tmps) = true then Oper.wp Try.prog o a w K Q else E := by
  have hw : Region.wanted o (yielded ops a.tmps) = true := by simp [Region.wanted, hgd]
  rw [if_pos hw]
  unfold Oper.wp execOp
  simp only [ho, resolve, invoke, builtin, Sem.run_bind, Sem.run_pure, Result.andThen_ok, List.map_toArray, List.map_cons, List.map_nil, hs, hy, hr]
  exact h
/-- Parts of a slice. -/
theorem row_first {w w0 : World} {p : Option Addr} {cap k : Nat} {L : List C} {vs : List Value} (h : Fl w (.slice p L.length cap) 4 L.length vs) (he : Enc cellV 4 w0 L vs) (hk : k ≤ L.length) : Fl w (.slice p k k) 4 k (vs.take (k * 4)) ∧ Enc cellV 4 w0 (L.take k) (vs.take (k * 4)) := by
  obtain ⟨p', c', e, h1, h2, h3, h4, h5⟩ := h
  injection e with e1 e2 e3
  subst e1 e3
  have ht := he.take k
  refine ⟨⟨p, k, rfl, Nat.le_refl _, by omega, fun e => by have := h3 e; omega, by rw [ht.1, List.length_take, Nat.min_eq_left hk], ?_⟩, ht⟩
  rcases h5 with h5 | ⟨g, o, rfl, hr⟩
  · exact .inl (by omega)
  · exact .inr ⟨g, o, rfl, fun j u hu => hr j u (by rw [List.getElem?_take] at hu; split at hu; exact hu; cases hu)⟩
theorem row_last {w w0 : World} {p : Option Addr} {cap k : Nat} {L : List C} {vs : List Value} (h : Fl w (.slice p L.length cap) 4 L.length vs) (he : Enc cellV 4 w0 L vs) (hk : k ≤ L.length) : Fl w (.slice (if cap = k then p else p.map (·.add (k * 4))) (L.length - k) (cap - k)) 4 (L.length - k) (vs.drop (k * 4)) ∧ Enc cellV 4 w0 (L.drop k) (vs.drop (k * 4)) := by
  obtain ⟨p', c', e, h1, h2, h3, h4, h5⟩ := h
  injection e with e1 e2 e3
  subst e1 e3
  have ht := he.drop k
  refine ⟨⟨_, cap - k, rfl, by omega, by omega, fun e => ?_, by rw [ht.1, List.length_drop], ?_⟩, ht⟩
  · by_cases hc : cap = k
    · omega
    · rw [if_neg hc] at e
      cases p with
      | none => have := h3 rfl; omega
      | some a => cases e
  · by_cases h0 : L.length - k = 0
    · exact .inl h0
    · refine .inr ?_
      obtain ⟨g, o, rfl, hr⟩ := h5.resolve_left (by omega)
      refine ⟨g, o + k * 4, ?_, ?_⟩
      · rw [if_neg (by omega)]
        simp only [Option.map_some]
        rw [Go.WideShapes.add_plain]
      · have := range_sub hr (k * 4) vs.length
        rwa [List.take_of_length_le (by rw [List.length_drop]; omega)] at this
theorem enc_one4 {w : World} {L : List C} {vs : List Value} (h : Enc cellV 4 w L vs) : ∀ u ∈ vs, u.oneCell' = true := enc_ones (by decide) h (fun a x h => h.ones)
set_option maxHeartbeats 4000000 in
set_option maxRecDepth 100000 in
theorem without63 (w w0 : World) (v : Value) (L : List C) (xs : List Value) (k : Nat) (h : Fl w v 4 L.length xs) (he : Enc cellV 4 w0 L xs) (hk : k < L.length) (hb : L.length * 64 ≤ 140737488355328) :
    Calls Try.prog 63 #[v, .int .i64 k] w fun e w' => ∃ v' ys, e = .returned v' ∧ ((∀ u, Fl u v 4 L.length xs → Fl u v' 4 (L.length - 1) ys) ∨ w'.ownsRow w.heap.size 44 4 v' (L.length - 1) ys) ∧ Enc cellV 4 w0 (L.take k ++ L.drop (k + 1)) ys ∧ Below w.heap.size w w' := by
  have h0 := h
  obtain ⟨p, cap, rfl, hlc, -⟩ := h0
  have hd := h.on (Below.refl _ w).drew
  obtain ⟨f1, e1⟩ := row_first hd he (k := k) (by omega)
  obtain ⟨f2, e2⟩ := row_last hd he (k := k + 1) (by omega)
  have f1w : ∀ u, Fl u (.slice p L.length cap) 4 L.length xs → Fl u (.slice p k k) 4 k (xs.take (k * 4)) := fun u hu => (row_first hu he (by omega)).1
  generalize xs.take (k * 4) = vs at *
  generalize xs.drop ((k + 1) * 4) = us at *
  obtain ⟨i0, hi, hz0, hz1, hz2⟩ := info_parts infoE44
  obtain ⟨v', w', hap, hF, hB, hOw, hEq⟩ := app_fl 22 44 4 64 i0 _ Try.underlying22 hi hz0 hz1 hz2 rfl (by decide) w.drew p k (L.length - (k + 1)) _ vs us 22 f1 f2 (enc_one4 e2) (by omega) (by unfold maxLen; omega)
  have hR : Hid (((∀ u, Fl u (.slice p L.length cap) 4 L.length xs → Fl u v' 4 (L.length - 1) (vs ++ us)) ∨ w'.ownsRow w.heap.size 44 4 v' (L.length - 1) (vs ++ us)) ∧ Enc cellV 4 w0 (L.take k ++ L.drop (k + 1)) (vs ++ us)) := by
    refine ⟨?_, e1.app e2⟩
    by_cases hm : L.length - (k + 1) = 0
    · left
      rw [hEq hm]
      have hu : us = [] := List.eq_nil_of_length_eq_zero (by rw [f2.len, hm])
      rw [hu, List.append_nil, show L.length - 1 = k by omega]
      exact f1w
    · right
      have := hOw (by omega)
      rw [show k + (L.length - (k + 1)) = L.length - 1 by omega] at this
      exact this
  have HB := Lib.hid (bel_then (Below.refl _ w).drew hB)
  obtain ⟨g, o, cp, e, -⟩ := fl_pos h (by omega)
  injection e with ea eb ec
  subst ea ec
  clear hd f1 f2 e1 e2 hF hB hi hz0 hz1 hz2 h eb hOw hEq f1w he
  generalize L.length = N at *
  obtain ⟨q, hq⟩ : ∃ q, k + 1 = q := ⟨_, rfl⟩
  rw [hq] at hap
  have hw : IntKind.i64.wrap ((k : Int) + 1) = (q : Int) := by rw [IntKind.wrap_i64]; omega
  have hqN : (q : Int) ≤ (N : Int) := by omega
  have hqc : (q : Int) ≤ (cap : Int) := by omega
  have hkc : (k : Int) ≤ (cap : Int) := by omega
  have hNc : (N : Int) ≤ (cap : Int) := by omega
  have HQ := Lib.hid hq
  clear hq
  have HAP := Lib.hid hap
  clear hap
  by_cases hc : cap = q
  · obtain rfl : N = q := by omega
    have hap := HAP.out
    rw [if_pos hc, Nat.sub_self] at hap
    subst hc
    rw [Nat.sub_self] at hap
    have HAP2 := Lib.hid hap
    clear hap HAP
    go_enter Try.func63, Try.ntmps63
    go_wp2
    go_region_held3 (fun _ => True) (trivial) (refine step_run (by rfl) _ _ 22 (by rfl) _ _ _ _ (by rfl) (by rfl) HAP2.out ?_)
    go_wp2
    go_ret
    exact ⟨_, _, rfl, hR.out.1, hR.out.2, HB.out⟩
  · have hap := HAP.out
    rw [if_neg hc] at hap
    simp only [Option.map_some, Go.WideShapes.add_plain] at hap
    have HAP2 := Lib.hid hap
    clear hap HAP
    go_enter Try.func63, Try.ntmps63
    go_wp2
    go_region_held3 (fun _ => True) (trivial) (refine step_run (by rfl) _ _ 22 (by rfl) _ _ _ _ (by rfl) (by rfl) HAP2.out ?_)
    go_wp2
    go_ret
    exact ⟨_, _, rfl, hR.out.1, hR.out.2, HB.out⟩
set_option maxHeartbeats 8000000 in
set_option maxRecDepth 100000 in
theorem with64 (w w0 : World) (v x : Value) (L : List C) (xs : List Value) (c : C) (k : Nat) (h : Fl w v 4 L.length xs) (he : Enc cellV 4 w0 L xs) (hx : CeS w0 x c) (hk : k ≤ L.length) (hb : (L.length + 1) * 64 ≤ 140737488355328) :
    Calls Try.prog 64 #[v, .int .i64 k, x] w fun e w' => ∃ v' ys, e = .returned v' ∧ w'.ownsRow w.heap.size 44 4 v' (L.length + 1) ys ∧ Enc cellV 4 w0 (L.take k ++ c :: L.drop k) ys ∧ Below w.heap.size w w' := by
  have h0 := h
  obtain ⟨p, cap, rfl, hlc, -⟩ := h0
  obtain ⟨ka, xa, rfl, hBk, hBx, hIo, hIl⟩ := hx
  obtain ⟨kp, kc, rfl, -, -⟩ := hBk.slice
  obtain ⟨xp, xc, rfl, -, -⟩ := hBx.slice
  obtain ⟨W1, hW1⟩ : ∃ W, W = ((w.alloc (Obj.cells #[.slice kp c.key.length kc, .slice xp c.val.length xc, .int .i64 c.over, .int .i64 c.len] 44)).drew).alloc (Obj.cells #[.slice kp c.key.length kc, .slice xp c.val.length xc, .int .i64 c.over, .int .i64 c.len] 44) := ⟨_, rfl⟩
  have hB1 : Below w.heap.size w W1 := by rw [hW1]; exact bel_then (bel_then (bel1 _ _) (Below.refl _ _).drew) (bel1 _ _)
  have hs1 : W1.heap.size = w.heap.size + 1 + 1 := by rw [hW1]; simp
  have hrg : W1.rangeAt (w.heap.size + 1) 0 [.slice kp c.key.length kc, .slice xp c.val.length xc, .int .i64 c.over, .int .i64 c.len] := by
    rw [hW1]
    have := range_lit (w.alloc (Obj.cells #[.slice kp c.key.length kc, .slice xp c.val.length xc, .int .i64 c.over, .int .i64 c.len] 44)).drew [.slice kp c.key.length kc, .slice xp c.val.length xc, .int .i64 c.over, .int .i64 c.len] 44 (0, 0)
    rwa [show (w.alloc (Obj.cells #[.slice kp c.key.length kc, .slice xp c.val.length xc, .int .i64 c.over, .int .i64 c.len] 44)).drew.heap.size = w.heap.size + 1 by simp] at this
  have hcv : cellV w0 c [.slice kp c.key.length kc, .slice xp c.val.length xc, .int .i64 c.over, .int .i64 c.len] := ⟨_, _, rfl, hBk, hBx, hIo, hIl⟩
  have hd := h.on hB1
  obtain ⟨f1, e1⟩ := row_first hd he hk
  obtain ⟨f2', e2⟩ := row_last hd he hk
  generalize xs.take (k * 4) = vs at *
  generalize xs.drop (k * 4) = us at *
  obtain ⟨i0, hi, hz0, hz1, hz2⟩ := info_parts infoE44
  have fx : Fl W1 (.slice (some ⟨w.heap.size + 1, 0, none⟩) 1 1) 4 1 [.slice kp c.key.length kc, .slice xp c.val.length xc, .int .i64 c.over, .int .i64 c.len] := ⟨_, 1, rfl, Nat.le_refl _, by unfold maxLen; omega, fun e => (by cases e), rfl, .inr ⟨_, _, rfl, hrg⟩⟩
  obtain ⟨v1, w1, hap1, -, hB2, hO1, -⟩ := app_fl 22 44 4 64 i0 _ Try.underlying22 hi hz0 hz1 hz2 rfl (by decide) W1 p k 1 _ vs _ 22 f1 fx (hcv.ones) (by omega) (by unfold maxLen; omega)
  have ho1 := hO1 (by decide)
  have f2 := f2'.on hB2
  obtain ⟨v2, w2, hap2, ho2, hB3⟩ := app_ow 22 44 4 64 i0 _ Try.underlying22 hi hz0 hz1 hz2 rfl (by decide) w1 W1.heap.size (k + 1) (L.length - k) v1 _ _ us 22 ho1 f2 (enc_one4 e2) (by omega) (by unfold maxLen; omega) hB2.size
  have hB12 : Below W1.heap.size W1 w2 := hB2.trans hB3
  have hR : Hid (w2.ownsRow w.heap.size 44 4 v2 (L.length + 1) ((vs ++ [.slice kp c.key.length kc, .slice xp c.val.length xc, .int .i64 c.over, .int .i64 c.len]) ++ us) ∧ Enc cellV 4 w0 (L.take k ++ c :: L.drop k) ((vs ++ [.slice kp c.key.length kc, .slice xp c.val.length xc, .int .i64 c.over, .int .i64 c.len]) ++ us)) := by
    refine ⟨?_, ?_⟩
    · rw [show L.length + 1 = k + 1 + (L.length - k) by omega]
      exact ho2.mono (by omega)
    · have e : L.take k ++ c :: L.drop k = (L.take k ++ [c]) ++ L.drop k := by simp
      rw [e]
      exact (e1.app (enc_one hcv rfl)).app e2
  have HB := Lib.hid (bel_then hB1 hB12)
  have HAP := Lib.hid (And.intro hap1 hap2)
  have hbx0 : ((w.alloc (Obj.cells #[.slice kp c.key.length kc, .slice xp c.val.length xc, .int .i64 c.over, .int .i64 c.len] 44)).drew).heap[w.heap.size]? = some (Obj.cells #[.slice kp c.key.length kc, .slice xp c.val.length xc, .int .i64 c.over, .int .i64 c.len] 44) := World.alloc_heap_new w _
  have hbx1 : W1.heap[w.heap.size]? = some (Obj.cells #[.slice kp c.key.length kc, .slice xp c.val.length xc, .int .i64 c.over, .int .i64 c.len] 44) := by rw [hW1]; exact blk_on (bel1 _ _) hbx0
  have r0 := four_of hbx0
  have r1 := four_of hbx1
  have r2 := four_of (blk_on hB2 hbx1)
  have r3 := four_of (blk_on hB12 hbx1)
  clear hap1 hap2 hd f1 e1 fx hO1 ho1 f2 f2' e2 ho2 hB3 hB2 hB12 hB1 hrg hcv hi hz0 hz1 hz2 hBk hBx hIo hIl h hbx0 hbx1 he
  generalize c.key.length = K1 at *
  generalize c.val.length = K2 at *
  generalize c.over = K3 at *
  generalize c.len = K4 at *
  generalize L.length = N at *
  have hkz : (k : Int) ≤ (N : Int) := by omega
  have hkc : (k : Int) ≤ (cap : Int) := by omega
  have hNc : (N : Int) ≤ (cap : Int) := by omega
  subst hW1
  obtain ⟨q0, q1, q2, q3⟩ := id r0
  by_cases hc : cap = k
  · have hap2 := HAP.out.2
    rw [if_pos hc] at hap2
    obtain rfl : N = cap := by omega
    subst hc
    rw [Nat.sub_self] at hap2
    have HP1 := Lib.hid HAP.out.1
    have HP2 := Lib.hid hap2
    clear hap2 HAP
    have tk : True := trivial
    go_enter Try.func64, Try.ntmps64
    go_wp2
    go_region_held3 (fun u => u.cell? ⟨w.heap.size, 0, none⟩ = some (.slice kp K1 kc) ∧ u.cell? ⟨w.heap.size, 1, none⟩ = some (.slice xp K2 xc) ∧ u.cell? ⟨w.heap.size, 2, none⟩ = some (.int .i64 K3) ∧ u.cell? ⟨w.heap.size, 3, none⟩ = some (.int .i64 K4)) (first | exact r0 | exact r1 | exact r2 | exact r3)
      (first
        | (refine step_run (by rfl) _ _ 22 (by rfl) _ _ _ _ (by rfl) (by rfl) HP1.out ?_; clear tk)
        | (refine step_run (by rfl) _ _ 22 (by rfl) _ _ _ _ (by rfl) (by rfl) HP2.out ?_))
    go_wp2
    go_ret
    exact ⟨_, _, rfl, hR.out.1, hR.out.2, HB.out⟩
  · have hap2 := HAP.out.2
    rw [if_neg hc] at hap2
    have HP1 := Lib.hid HAP.out.1
    have HP2 := Lib.hid hap2
    clear hap2 HAP
    have tk : True := trivial
    go_enter Try.func64, Try.ntmps64
    go_wp2
    go_region_held3 (fun u => u.cell? ⟨w.heap.size, 0, none⟩ = some (.slice kp K1 kc) ∧ u.cell? ⟨w.heap.size, 1, none⟩ = some (.slice xp K2 xc) ∧ u.cell? ⟨w.heap.size, 2, none⟩ = some (.int .i64 K3) ∧ u.cell? ⟨w.heap.size, 3, none⟩ = some (.int .i64 K4)) (first | exact r0 | exact r1 | exact r2 | exact r3)
      (first
        | (refine step_run (by rfl) _ _ 22 (by rfl) _ _ _ _ (by rfl) (by rfl) HP1.out ?_; clear tk)
        | (refine step_run (by rfl) _ _ 22 (by rfl) _ _ _ _ (by rfl) (by rfl) HP2.out ?_))
    go_wp2
    go_ret
    exact ⟨_, _, rfl, hR.out.1, hR.out.2, HB.out⟩
end Go.Proofs.Ytbkpgppaahpalaa
