/-
  The edges that are told, one by one, and collected: the iterator of Out and In, and links of the statements (what the edges' properties lead to is not told here).
-/
import Derived.Test.YteknbploiombiaaZTelTei
import Derived.Test.YteknbploiombiaaZEmEme
import Derived.Maps.AppendAt
namespace Go.Proofs.Yteknbploiombiaa
open Go.RowKit Go.Shelf
set_option linter.unusedVariables false      -- a walk need not use every condition
attribute [local go_sem] Oper.semAt_some

theorem gr_bel {w w' : World} (h : Below w.heap.size w w') (row : Option Nat) : w.grownBy w' row := ⟨h.os, h.tape, h.output, h.size, fun k hk _ => h.block k hk⟩
abbrev Hd := Option Addr × Nat × Nat
set_option maxRecDepth 100000 in
set_option maxHeartbeats 4000000 in
theorem tell67 (n : Nat) (hn1 : 1 ≤ n) (l P n₀ : Nat) (L : List Lk) (u : World) (p : Option Addr) (cap : Nat) (hG : Sq RL u 0 L (.slice p L.length cap)) (hu : u.heap.size = n₀)
    (J Jx : List (Fin L.length × Hd) → World → Prop) (W : World) (hJ : AbidesFrom W.heap.size J)
    (hY : ∀ (pre : List (Fin L.length × Hd)) (x : Fin L.length × Hd) (W1 : World), J pre W1 → pre.length < L.length → YieldAt Fence.wide (n - 1) Try.prog l #[.agg #[.int .i64 L[x.1.1].id, .string L[x.1.1].lb, .int .i64 L[x.1.1].out, .int .i64 L[x.1.1].inn, .slice x.2.1 x.2.2.1 x.2.2.2]] W1 fun e W' =>
      (e = .returned (.bool true) ∧ J (pre ++ [x]) W' ∧ Below n₀ W1 W') ∨ (e = .returned (.bool false) ∧ Jx (pre ++ [x]) W'))
    (huW : Below n₀ u W) (hP : W.cell? ⟨P, 0, none⟩ = some (.slice p L.length cap)) (h0 : J [] W) :
    CallsIn Fence.wide n Try.prog 67 #[.func (.yield l) #[] #[], .pointer (some ⟨P, 0, none⟩)] W fun e W' => (∃ v, e = .returned v) ∧
      ((∃ ys, ys.map Prod.fst = List.finRange L.length ∧ J ys W') ∨ (∃ pre, True ∧ Jx pre W')) := by
  obtain ⟨p', cap', e', hlc, hcap, -, hx⟩ := hG
  injection e' with e1 e2 e3
  subst e1 e3
  clear e2
  unfold maxLen at hcap
  have hx := Lib.hid hx
  obtain ⟨N, hN⟩ : ∃ N, L.length = N := ⟨_, rfl⟩
  have hlen := Lib.hid hN
  rw [hN] at hP hlc
  have huW := Lib.hid huW
  have c58 := clone66
  refine callsIn_of_wp Try.func67 rfl trivial ?_ rfl
  simp only [Try.ntmps67, List.size_toArray, List.length_cons, List.length_nil, Nat.reduceAdd, Nat.reduceSub, Array.replicate_succ, Array.replicate_zero, List.push_toArray, List.append_toArray, List.nil_append, List.cons_append]
  clear hN
  gi_wp2
  gi_loopw [7] (fun i wr => ∃ (k : Nat) (pre : List (Fin L.length × Hd)), k ≤ N ∧ i = .int .i64 (k : Nat) ∧ Hid (pre.map Prod.fst = upto L.length k) ∧ J pre wr ∧ Hid (Below n₀ u wr) ∧ Hid (W.heap.size ≤ wr.heap.size))
    (fun i _ => N - vn i)
  case atStart => exact ⟨0, [], Nat.zero_le _, rfl, rfl, h0, huW.out, Nat.le_refl _⟩
  case round =>
    obtain ⟨k, pre, hkN, rfl, hpre, hJs, hB, hzW⟩ := hrel
    by_cases hlt : k < N
    · have hlt' : k < L.length := by have := hlen.out; omega
      obtain ⟨b, o, rfl, -, hx1⟩ := hx.out.resolve_left (by rintro rfl; simp at hlt')
      obtain ⟨s1, hat, hv1⟩ := hx1.at k hlt'
      obtain ⟨p1, n1, c1, rfl⟩ := hdL hv1
      obtain ⟨a0, a1, a2, a3, a4⟩ := ats5 hat
      simp only [show RL.n = 5 from rfl] at a0 a1 a2 a3 a4
      replace a0 := (hB.out.cell (by rw [← hu]; exact cell_lt a0)).trans a0
      replace a1 := (hB.out.cell (by rw [← hu]; exact cell_lt a1)).trans a1
      replace a2 := (hB.out.cell (by rw [← hu]; exact cell_lt a2)).trans a2
      replace a3 := (hB.out.cell (by rw [← hu]; exact cell_lt a3)).trans a3
      replace a4 := (hB.out.cell (by rw [← hu]; exact cell_lt a4)).trans a4
      have hJa := Abides_alloc hJ (Obj.cells #[.int .i64 L[k].id, .string L[k].lb, .int .i64 L[k].out, .int .i64 L[k].inn, .slice p1 n1 c1] 46) hJs
      have hplen : Hid (pre.length < L.length) := by
        show _ < _
        have := congrArg List.length hpre.out
        rw [List.length_map, upto_len _ k (by omega)] at this
        omega
      have hvw : RL.In (wr.alloc (Obj.cells #[.int .i64 L[k].id, .string L[k].lb, .int .i64 L[k].out, .int .i64 L[k].inn, .slice p1 n1 c1] 46)) 0 L[k] (.slice p1 n1 c1) := RL.on (bel1 _ _) (RL.keep (fun a v _ hc => (hB.out.cell (by rw [← hu]; exact cell_lt hc)).trans hc) (Nat.le_refl _) _ _ hv1)
      have cl := c58 L[k] _ _ hvw
      have hY' := fun (q : Hd) (W1 : World) hJ1 => hY pre (⟨k, hlt'⟩, q) W1 hJ1 hplen.out
      dsimp only at hY'
      unfold ClE Lk.agg at cl
      have hkz : (k : Int) < (N : Int) := by omega
      have hkz0 : (0 : Int) ≤ (k : Int) := by omega
      have hJ' := Lib.hid (fun W1 (hb : Below (wr.alloc (Obj.cells #[.int .i64 L[k].id, .string L[k].lb, .int .i64 L[k].out, .int .i64 L[k].inn, .slice p1 n1 c1] 46)).heap.size (wr.alloc (Obj.cells #[.int .i64 L[k].id, .string L[k].lb, .int .i64 L[k].out, .int .i64 L[k].inn, .slice p1 n1 c1] 46)) W1) => hJ _ _ _ none hJa (gr_bel hb none) (fun r e => by cases e))
      clear hY hat hv1 hvw hx1 hx c58 hJa
      generalize hxx : L[k] = x at *
      have hxx := Lib.hid hxx
      have hnw := Lib.hid (show n₀ ≤ wr.heap.size by have := hB.out.size; rw [hu] at this; exact this)
      gi_wp2_with (refine ⟨trivial, ?_⟩; gi_at_call 66; refine (callsIn_wide.2 cl).mono ?_; rintro e w3 ⟨sl3, rfl, hin3, hb3, -⟩; obtain ⟨p3, n3, c3, rfl⟩ := hdL hin3; obtain ⟨fn, tmps, assign, body, hy, hR⟩ := hY' (p3, n3, c3) w3 (hJ'.out w3 hb3); dsimp only at hy hR; rw [hxx.out] at hy; have HB3 := Lib.hid ((((Below.refl n₀ wr).alloc hnw.out _).trans (hb3.mono (by have := hnw.out; simp; omega)))); clear hin3 hb3 cl hY' hJ')
      refine hR.mono ?_
      rintro e W3 (⟨rfl, hJ3, hk3⟩ | ⟨rfl, hJx3⟩)
      · gi_wp2
        go_roundw
        case rel => exact ⟨k + 1, _, by omega, by simp, by show _ = _; rw [List.map_append, hpre.out, upto_succ _ k hlt']; rfl, hJ3, hB.out.trans (HB3.out.trans hk3), Nat.le_trans hzW.out (Nat.le_trans HB3.out.size hk3.size)⟩
        case measure => simp [vn]; omega
      · gi_wp2
        refine bodyPost_ret (results_none rfl _ _ _) rfl ?_
        exact ⟨⟨_, rfl⟩, .inr ⟨_, trivial, hJx3⟩⟩
    · obtain rfl : k = N := by omega
      gi_wp2
      go_end0
      exact ⟨⟨_, rfl⟩, .inl ⟨pre, by rw [hpre.out, ← hlen.out, upto_all], hJs⟩⟩
theorem tell_stops (n : Nat) (hn1 : 1 ≤ n) (P n₀ : Nat) (L : List Lk) (u w : World) (p : Option Addr) (cap : Nat) (hG : Sq RL u 0 L (.slice p L.length cap)) (hu : u.heap.size = n₀) (huw : Below n₀ u w) (hP : w.cell? ⟨P, 0, none⟩ = some (.slice p L.length cap)) :
    SeqStopsK Fence.wide n Try.prog 67 #[.pointer (some ⟨P, 0, none⟩)] (fun x : Fin L.length × Hd => #[Value.agg #[.int .i64 L[x.1.1].id, .string L[x.1.1].lb, .int .i64 L[x.1.1].out, .int .i64 L[x.1.1].inn, .slice x.2.1 x.2.2.1 x.2.2.2]]) (Below n₀)
      (fun ys => ys.map Prod.fst = List.finRange L.length) (fun _ => True) L.length w := fun l J Jx W hW hJ _ hY h0 =>
  tell67 n hn1 l P n₀ L u p cap hG hu J Jx W hJ hY (huw.trans (hW.mono (by rw [← hu]; exact huw.size))) ((hW.cell (p := ⟨P, 0, none⟩) (cell_lt hP)).trans hP) h0

/-- A row of edges, one behind the other, with some headers. -/
def SR (W : World) (base : Nat) (l : List Lk) (v : Value) : Prop := ∃ xs, W.ownsRow base 46 5 v l.length xs ∧ ∀ i (hi : i < l.length), ∃ (p : Option Addr) (n c : Nat), ∀ j u, (RL.cs l[i] (.slice p n c))[j]? = some u → xs[i * 5 + j]? = some u
theorem SR.nil (W : World) (base : Nat) : SR W base [] (.slice none 0 0) := ⟨[], World.ownsRow_nil _ _ _ _, fun i hi => absurd hi (Nat.not_lt_zero _)⟩
theorem sr_snoc {W' : World} {base : Nat} {l : List Lk} {v' : Value} {xs : List Value} {x : Lk} {p : Option Addr} {n c : Nat} (h : ∀ i (hi : i < l.length), ∃ (p : Option Addr) (n c : Nat), ∀ j u, (RL.cs l[i] (.slice p n c))[j]? = some u → xs[i * 5 + j]? = some u) (hxl : xs.length = l.length * 5)
    (hown : W'.ownsRow base 46 5 v' (l.length + 1) (xs ++ [.int .i64 x.id, .string x.lb, .int .i64 x.out, .int .i64 x.inn, .slice p n c])) : SR W' base (l ++ [x]) v' := by
  refine ⟨_, by rw [List.length_append]; exact hown, fun i hi => ?_⟩
  rw [List.length_append, List.length_singleton] at hi
  by_cases hl : i < l.length
  · obtain ⟨p', n', c', h'⟩ := h i hl
    refine ⟨p', n', c', fun j u hj => ?_⟩
    rw [List.getElem_append_left hl] at hj
    have hh := h' j u hj
    rw [List.getElem?_append_left (List.getElem?_eq_some_iff.1 hh).1]
    exact hh
  · obtain rfl : i = l.length := by omega
    refine ⟨p, n, c, fun j u hj => ?_⟩
    simp at hj
    rw [List.getElem?_append_right (by omega), hxl, show l.length * 5 + j - l.length * 5 = j by omega]
    exact hj
/-- Edges of which the headers lead anywhere. -/
def RS : El Lk where
  n := 5
  bytes := 64
  cs x sl := [.int .i64 x.id, .string x.lb, .int .i64 x.out, .int .i64 x.inn, sl]
  In _ _ _ sl := ∃ p n c, sl = .slice p n c
  keep _ _ _ _ h := h
theorem SR.sq {W : World} {base : Nat} {l : List Lk} {v : Value} (h : SR W base l v) (hb : l.length * 64 ≤ 140737488351232) : Sq RS W base l v := by
  obtain ⟨xs, ho, he⟩ := h
  rcases id ho.2 with ⟨rfl, h0⟩ | ⟨g, cap', cur, rfl, hbg, hg, hc, hm, hs, ht⟩
  · obtain rfl := List.length_eq_zero_iff.1 h0
    exact Sq.nil _ _
  · refine ⟨_, _, rfl, hc, hm, hb, ?_⟩
    by_cases h0 : l = []
    · exact .inl h0
    · refine .inr ⟨g, 0, rfl, hbg, Lq.of_at fun i hi => ?_⟩
      obtain ⟨p, n, c, hcs⟩ := he i hi
      refine ⟨.slice p n c, fun j u hj => ?_, p, n, c, rfl⟩
      obtain ⟨g', hp', hcell⟩ := own_cells ho rfl (hcs j u hj)
      injection hp' with hp'
      injection hp' with hp'
      subst hp'
      rw [Nat.zero_add]
      exact hcell
theorem own_nc {X Y : World} {row : Option Nat} {base : Nat} {t : TypeId} {size n : Nat} {v : Value} {xs : List Value} (h : X.ownsRow base t size v n xs) (hg : X.grownBy Y row) (hrow : ∀ r, row = some r → ∃ o : Obj, X.heap[r]? = some o ∧ o.isCells = false) : Y.ownsRow base t size v n xs := by
  refine World.ownsRow.kept h hg ?_
  rcases h.2 with ⟨rfl, _⟩ | ⟨g, cap, cur, rfl, _, hgb, _⟩
  · exact .inl rfl
  · refine .inr fun e' => ?_
    obtain ⟨o, ho, hc⟩ := hrow g (show row = some g from e'.symm)
    rw [hgb] at ho; cases ho; cases hc
theorem SR.nc {X Y : World} {row : Option Nat} {base : Nat} {l : List Lk} {v : Value} (h : SR X base l v) (hg : X.grownBy Y row) (hrow : ∀ r, row = some r → ∃ o : Obj, X.heap[r]? = some o ∧ o.isCells = false) : SR Y base l v := by
  obtain ⟨xs, ho, he⟩ := h
  exact ⟨xs, own_nc ho hg hrow, he⟩
theorem sr_own {α : Type} (base B : Nat) (f : α → List Lk) : Own (fun s W => ∃ v, Boxed W B 25 v ∧ SR W base (f s) v) := by
  rintro s X Y row ⟨v, hv, hr⟩ hg hrow
  exact ⟨v, boxed_own1 (α := Unit) B 25 (fun _ => v) () X Y row hv hg hrow, hr.nc hg hrow⟩
theorem cells_new5 (W : World) (cs : List Value) (t : TypeId) : ∀ (j : Nat) (u : Value), cs[j]? = some u → (W.alloc (.cells cs.toArray t)).cell? ((⟨W.heap.size, 0, none⟩ : Addr).add j) = some u := by
  intro j u h
  have := new_ats W cs t j u h
  rw [Go.WideShapes.add_plain]
  simpa using this
theorem eqF (w : World) (P : Nat) : (Op.equal 43 (Value.func (.func 67) #[] #[.pointer (some ⟨P, 0, none⟩)]) .nilFunc).run Try.prog w = .ok false w := by
  show (Op.equalIn (9999 + 1) 43 _ _).run Try.prog w = _
  rw [Op.equalIn]
  rw [Sem.run_bind, run_underlying Try.underlying43]
  rfl
theorem nilF (w : World) (P : Nat) : (binOp BinOp.eql 43 (Value.func (.func 67) #[] #[.pointer (some ⟨P, 0, none⟩)]) .nilFunc).run Try.prog w = .ok (.bool false) w := by
  show (do pure (Value.bool (← Op.equal 43 (Value.func (.func 67) #[] #[.pointer (some ⟨P, 0, none⟩)]) .nilFunc))).run Try.prog w = _
  rw [Sem.run_bind, eqF]
  rfl
set_option maxRecDepth 100000 in
set_option maxHeartbeats 8000000 in
theorem links9 (L : List Lk) (P : Nat) (v : Value) (lo : Nat) (w : World) (hP : Boxed w P 25 v) (hG : GrR RL 46 w lo lo L v) (hb : L.length * 64 ≤ 140737488351232) :
    Calls Try.prog 9 #[.func (.func 67) #[] #[.pointer (some ⟨P, 0, none⟩)]] w fun e w' => ∃ v', e = .returned v' ∧ SR w' w.heap.size L v' ∧ Below w.heap.size w w' := by
  have hq := (hG.sq (Nat.le_refl _) hb).low (Nat.zero_le _)
  obtain ⟨p, cap, rfl, -⟩ := hG.form
  obtain ⟨B, hB⟩ : ∃ B, w.heap.size = B := ⟨_, rfl⟩
  have hq := Lib.hid hq
  have hPc := Lib.hid hP.cell
  clear hP hG
  have hnil := nilF w P
  refine (callsIn_wide (n := 3)).1 ?_
  refine callsIn_of_wp_marks Try.func9 rfl trivial ?_ rfl
  simp only [Try.ntmps9, List.size_toArray, List.length_cons, List.length_nil, Nat.reduceAdd, Nat.reduceSub, Array.replicate_succ, Array.replicate_zero, List.push_toArray, List.append_toArray, List.nil_append, List.cons_append]
  gi_wp2
  clear hnil
  obtain ⟨W0, hW0⟩ : ∃ W0, w.alloc (.cells #[.slice none 0 0] 25) = W0 := ⟨_, rfl⟩
  have b0 := Boxed.new w 25 (.slice none 0 0)
  have hB0 : Below w.heap.size w W0 := by rw [← hW0]; exact bel1 _ _
  have hsz : W0.heap.size = B + 1 := by rw [← hW0]; simp [hB]
  rw [hB] at hB0 b0
  rw [hW0] at b0
  simp only [hW0]
  obtain ⟨i0, hi, hz0, hz1, hz2⟩ := info_parts info46
  refine wpIn_rangeFunc_ownH rfl (by omega) (gf := 67) (lb := #[.pointer (some ⟨P, 0, none⟩)]) rfl trivial (enters_of Try.func67 (by kernel_rfl) rfl)
    (tell_stops 2 (by omega) P B L w W0 p cap hq.out hB hB0 ((hB0.cell (p := ⟨P, 0, none⟩) (by rw [← hB]; exact cell_lt hPc.out)).trans hPc.out)) belowK_t (belowK_b (by omega)) (Below.refl _ _) (fun _ => rfl)
    (fun pre W => (∃ v, Boxed W B 25 v ∧ SR W B (pre.map fun q => L[q.1.1]) v) ∧ Below B w W)
    (fun _ _ _ => False)
    ?hI (fun _ _ _ _ _ h _ _ => h)
    ⟨⟨_, b0, SR.nil _ _⟩, hB0⟩
    (fun x a' W => ∃ Bx, B < Bx ∧ W.heap[Bx]? = some (.cells #[.int .i64 L[x.1.1].id, .string L[x.1.1].lb, .int .i64 L[x.1.1].out, .int .i64 L[x.1.1].inn, .slice x.2.1 x.2.2.1 x.2.2.2] 46) ∧ a' = { tmps := #[.func (.func 67) #[] #[.pointer (some ⟨P, 0, none⟩)], undef, .slice none 0 0, .pointer (some ⟨B, 0, none⟩), .pointer (some ⟨Bx, 0, none⟩), .func (.func 67) #[] #[.pointer (some ⟨P, 0, none⟩)], .bool false, .func (.func 67) #[] #[.pointer (some ⟨P, 0, none⟩)], .agg #[.int .i64 L[x.1.1].id, .string L[x.1.1].lb, .int .i64 L[x.1.1].out, .int .i64 L[x.1.1].inn, .slice x.2.1 x.2.2.1 x.2.2.2], undef, undef, undef, undef, undef], defers := [] }) ?hAx ?assign ?body ?done ?stop
  case hI =>
    refine OwnFrom.and (Own.from (sr_own B B (fun pre : List (Fin L.length × Hd) => pre.map fun q => L[q.1.1])) _) ?_
    rw [← hB]
    exact ownFrom_below (Nat.le_refl _) (by omega)
  case hAx =>
    rintro x a' s X Y row ⟨Bx, h1, h2, h3⟩ hg hrow
    exact ⟨Bx, h1, (Own.from (blk_own (α := Unit) _ _ _) _) () X Y row h2 hg hrow, h3⟩
  case assign =>
    rintro l pre x W K ⟨⟨v, h1, h2⟩, h3⟩ hK
    have hzW := h1.lt
    gi_wp2
    refine hK _ _ ((KeepsOthers.alloc _ _).from _) ((Below.refl _ W).alloc (by omega) _) ⟨⟨v, h1.alloc _, h2.nc (World.grownBy_alloc W _ none) (fun r e => by cases e)⟩, h3.trans ((Below.refl _ W).alloc (by omega) _)⟩ ⟨W.heap.size, h1.lt, World.alloc_heap_new W _, ?_⟩
    rfl
  case body =>
    rintro l pre x a' W hl ⟨r, hr⟩ ⟨⟨v, hv, xs, ho, he⟩, hBW⟩ ⟨Bx, hBx, bX, rfl⟩ hlt
    obtain ⟨x0, x1, x2, x3, x4, fx⟩ := five_of bX
    have l0 := hv.cell
    have hzB := hv.lt
    have HB := Lib.hid (show B ≤ W.heap.size by omega)
    have Hv := Lib.hid hv
    have Ho := Lib.hid ho
    have He := Lib.hid he
    have HW := Lib.hid hBW
    have hxl := Lib.hid ho.1
    have hpl : Hid ((pre.map fun q => L[q.1.1]).length + 1 ≤ L.length) := by show _ ≤ _; rw [List.length_map]; exact hlt
    have hmp : Hid ((pre ++ [x]).map (fun q => L[q.1.1]) = (pre.map fun q => L[q.1.1]) ++ [L[x.1.1]]) := by show _ = _; simp
    clear hv ho he hBW hr hlt
    generalize L[x.1.1] = X at *
    obtain ⟨⟨xi, hxi⟩, xp, xn, xc⟩ := x
    dsimp only at *
    generalize hM : pre.map (fun q => L[q.1.1]) = M at *
    have hm1 := hpl.out
    gi_wp2_with (gi_at_builtin; refine wpListIn_append_own _ rfl _ _ 25 rfl B 46 i0 zLk 5 64 Try.underlying25 hi hz0 hz1 hz2 rfl (by decide) _ _ _ rfl (Ho.out.alloc _) ⟨W.heap.size, 0, none⟩ 1 1 [.int .i64 X.id, .string X.lb, .int .i64 X.out, .int .i64 X.inn, .slice xp xn xc] rfl rfl (cells_new5 _ _ _) (by simp [Value.oneCell']) (by unfold maxLen; omega) (by omega) (by have := HB.out; simp; omega) ?_; intro v' w1 hown' hgrow _; obtain ⟨g', cap', rfl⟩ := ownsRow_succ hown'; have HA := Lib.hid (Boxed.appended Hv.out (by decide) Ho.out HB.out (Nat.le_refl _) hown' hgrow); have hc1 := HA.out.1.cell; have hf1 := HA.out.1.frozen; clear hown' hgrow)
    obtain ⟨-, hv2, hr2, hk2, hb2⟩ := HA.out
    refine ⟨hk2.from _, hb2, ⟨_, hv2, ?_⟩, HW.out.trans hb2⟩
    rw [hmp.out]
    exact sr_snoc He.out hxl.out hr2
  case done =>
    rintro D ys W hD hys ⟨⟨v, hv, hr⟩, hBW⟩ hK
    have hDl : D < W.heap.size := (Array.getElem?_eq_some_iff.1 hK).1
    have hmap : ys.map (fun q => L[q.1.1]) = L := by
      have : ys.map (fun q => L[q.1.1]) = (ys.map Prod.fst).map (fun q : Fin L.length => L[q.1]) := by rw [List.map_map]; rfl
      rw [this, hys]
      have := finR_map L (fun x => x)
      simpa using this
    rw [hmap] at hr
    have hc := hv.cell
    have H := Lib.hid (And.intro hr hBW)
    have hhd : ∃ p n c, v = .slice p n c := by
      obtain ⟨xs, ho, -⟩ := hr
      rcases ho.2 with ⟨rfl, _⟩ | ⟨g, cap, cur, rfl, _⟩
      · exact ⟨_, _, _, rfl⟩
      · exact ⟨_, _, _, rfl⟩
    obtain ⟨vp, vn', vc, rfl⟩ := hhd
    clear hr hBW hv hys hmap
    gi_wp2
    refine ⟨by simp, .inl ⟨_, _, rfl, run_takeDeferred hK, ?_⟩⟩
    refine ⟨_, results_tmp rfl _ _ _, _, rfl, ?_, ?_⟩
    · rw [hB]
      exact H.out.1.nc (grownBy_putObj' W D _) (fun r e => by cases e; exact ⟨_, hK, rfl⟩)
    · exact res_bel hB (by omega) H.out.2
  case stop =>
    rintro D c pre W _ _ h _
    exact h.elim
end Go.Proofs.Yteknbploiombiaa
