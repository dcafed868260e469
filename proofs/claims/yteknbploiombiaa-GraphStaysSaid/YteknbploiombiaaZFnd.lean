/-
  What find of package graph tells of any graph.
-/
import Derived.Test.YteknbploiombiaaZEmEme
import Derived.Test.YteknbploiombiaaZTha
namespace Go.Proofs.Yteknbploiombiaa
open Go.RowKit Go.Shelf
set_option linter.unusedVariables false      -- a walk need not use every condition
attribute [local go_sem] Oper.semAt_some

theorem res_cells {W : World} {B D i : Nat} {t : TypeId} {cs : Array Value} {v : Value} (o : Obj) (h : W.heap[B]? = some (.cells cs t)) (hne : B ≠ D) (hi : cs[i]? = some v) : (W.putObj D o).cell? ⟨B, i, none⟩ = some v := by
  have e : (W.putObj D o).heap[B]? = some (.cells cs t) := (World.putObj_heap_other (by simpa using hne)).trans h
  simp only [World.cell?, e]
  exact hi
theorem four_S {w : World} {g : Nat} {a b c d : Value} {t : TypeId} (e : w.heap[g]? = some (.cells #[a, b, c, d] t)) :
    w.cell? ⟨g, 0, none⟩ = some a ∧ w.cell? ⟨g, 1, none⟩ = some b ∧ w.cell? ⟨g, 2, none⟩ = some c ∧ w.cell? ⟨g, 3, none⟩ = some d := by
  refine ⟨?_, ?_, ?_, ?_⟩ <;> simp [World.cell?, e]
theorem blk_own' {α : Type} (B : Nat) (t : TypeId) (f : α → Array Value) : Own (fun s W => W.heap[B]? = some (.cells (f s) t)) := by
  rintro s X Y row hv hg hrow
  refine (hg.block B (Array.getElem?_eq_some_iff.1 hv).1 (fun e' => ?_)).trans hv
  obtain ⟨o, ho, hc⟩ := hrow B e'.symm
  rw [hv] at ho; cases ho; cases hc
theorem set3_blk {W : World} {B : Nat} {t : TypeId} {a b c a' b' c' : Value} (h : W.heap[B]? = some (.cells #[a, b, c] t)) : (((W.setCell ⟨B, 0, none⟩ a').setCell ⟨B, 1, none⟩ b').setCell ⟨B, 2, none⟩ c').heap[B]? = some (.cells #[a', b', c'] t) := by
  simp [World.setCell, Array.getElem?_modify, h]
theorem oth_blk {W : World} {B B' i : Nat} {o : Obj} {c : Value} (h : W.heap[B]? = some o) (hne : B ≠ B') : (W.setCell ⟨B', i, none⟩ c).heap[B]? = some o := (Below.heap_setCell _ _ _ _ (by show B ≠ B'; exact hne)).trans h
theorem oth_blk3 {W : World} {B B' : Nat} {o : Obj} {a b c : Value} (h : W.heap[B]? = some o) (hne : B ≠ B') : (((W.setCell ⟨B', 0, none⟩ a).setCell ⟨B', 1, none⟩ b).setCell ⟨B', 2, none⟩ c).heap[B]? = some o := oth_blk (oth_blk (oth_blk h hne) hne) hne
theorem bel_set4 {W : World} {B b1 b2 : Nat} (h1 : B ≤ b1) (h2 : B ≤ b2) (a b c d : Value) : Below B W ((((W.setCell ⟨b1, 0, none⟩ a).setCell ⟨b1, 1, none⟩ b).setCell ⟨b1, 2, none⟩ c).setCell ⟨b2, 0, none⟩ d) :=
  ((((Below.refl B W).setCell (p := ⟨b1, 0, none⟩) h1 _).setCell (p := ⟨b1, 1, none⟩) h1 _).setCell (p := ⟨b1, 2, none⟩) h1 _).setCell (p := ⟨b2, 0, none⟩) h2 _
/-- What find tells: the first element of that id, or none. -/
def Fd {α : Type} (l : List α) (ID : α → Int) (LB : α → ByteArray) (PS : α → List Pr) (id : Int) (pl : Bool) (e : Ending) (w' : World) : Prop :=
  (∃ (i : Nat) (hi : i < l.length) (hdr : Value), pl = true ∧ ID l[i] = id ∧ (∀ t (ht : t < l.length), t < i → ID l[t] ≠ id) ∧ e = .returned (.tuple #[.agg #[.int .i64 (ID l[i]), .string (LB l[i]), hdr], .bool true]) ∧ Sq RP w' 0 (PS l[i]) hdr) ∨
  ((∀ t (ht : t < l.length), pl = true → ID l[t] ≠ id) ∧ e = .returned (.tuple #[.agg #[.int .i64 0, .string ⟨#[]⟩, .slice none 0 0], .bool false]))
theorem pre_at {m : Nat} {pre : List (Fin m)} {x : Fin m} (h : pre ++ [x] <+: List.finRange m) : (∀ t (ht : t < m), t < x.1 → (⟨t, ht⟩ : Fin m) ∈ pre) := by
  obtain ⟨r, hr⟩ := h
  have hl : pre.length < m := by have := congrArg List.length hr; simp at this; omega
  have hx : x.1 = pre.length := by
    have h1 : (List.finRange m)[pre.length]? = some x := by rw [← hr]; simp
    rw [List.getElem?_eq_getElem (by simpa using hl)] at h1
    injection h1 with h1
    rw [← h1]; simp
  intro t ht htx
  have h2 : (List.finRange m)[t]? = pre[t]? := by
    rw [← hr, List.append_assoc, List.getElem?_append_left (by omega)]
  rw [List.getElem?_eq_getElem (by simpa using ht)] at h2
  have h3 := List.getElem?_eq_some_iff.1 h2.symm
  obtain ⟨h4, h5⟩ := h3
  have : pre[t] = (⟨t, ht⟩ : Fin m) := by rw [h5]; simp
  rw [← this]
  exact List.getElem_mem h4

set_option maxRecDepth 100000 in
set_option maxHeartbeats 8000000 in
theorem find36v (g : Gg) (sv se : Value) (id : Int) (s : ByteArray) (l : List V) (q : Option Addr) (m d : Nat) (w : World) (hG : Gg.In w 0 g sv se) (hel : (V.mk 6 id s l).In w 0 (.slice q m d)) :
    Calls Try.prog 36 #[g.agg sv se, .agg #[.int .i64 6, .int .i64 id, .string s, .slice q m d]] w fun e w' => Below w.heap.size w w' ∧
      Fd g.vs Vx.id Vx.lb Vx.ps id (plain s l) e w' := by
  obtain ⟨hl64, hV, hE⟩ := hG
  obtain ⟨pv, cv, rfl, hvc, hvm, -⟩ := _root_.id hV
  obtain ⟨pe, ce, rfl, hec, hem, -⟩ := _root_.id hE
  unfold maxLen at hvm hem
  obtain ⟨b, o, hp, hn, hc, hH⟩ := Sq.heads (fun x sl => hdV) hV
  have hH := Lib.hid hH
  have C69 := Lib.hid (fun (n : Int) (hn : I64 n) (W : World) (hB : Below w.heap.size w W) => isThat69 6 id s l q m d n hn W (hel.on hB))
  clear hV hE hel
  unfold Gg.agg
  obtain ⟨nv, hnv⟩ : ∃ n, g.vs.length = n := ⟨_, rfl⟩
  obtain ⟨ne, hne⟩ : ∃ n, g.es.length = n := ⟨_, rfl⟩
  rw [hnv] at hvc
  rw [hne] at hec
  rw [hnv, hne]
  obtain ⟨xs, hxs⟩ : ∃ xs, g.vs = xs := ⟨_, rfl⟩
  rw [hxs] at hH hnv
  simp only [hxs]
  obtain ⟨B, hB⟩ : ∃ B, w.heap.size = B := ⟨_, rfl⟩
  obtain ⟨top, htop⟩ : ∃ t, g.last = t := ⟨_, rfl⟩
  rw [htop] at hl64 ⊢
  refine (callsIn_wide (n := 3)).1 ?_
  refine callsIn_of_wp_marks Try.func36 rfl trivial ?_ rfl
  simp only [Try.ntmps36, List.size_toArray, List.length_cons, List.length_nil, Nat.reduceAdd, Nat.reduceSub, Array.replicate_succ, Array.replicate_zero, List.push_toArray, List.append_toArray, List.nil_append, List.cons_append]
  gi_wp2_with (refine ⟨trivial, ?_⟩; gi_at_call 64; refine (callsIn_wide.2 (elements64 _ _ _ _ _ _ _ _ _)).mono ?_; rintro e w' ⟨rfl, rfl⟩)
  obtain ⟨W0, hW0⟩ : ∃ W0, ((((((w.alloc (.cells #[.slice pv nv cv, .slice pe ne ce, .int .i64 top] 27)).alloc (.cells #[.int .i64 6, .int .i64 id, .string s, .slice q m d] 30)).alloc (.cells #[.int .i64 0, .string ⟨#[]⟩, .slice none 0 0] 70)).alloc (.cells #[.bool false] 4)).alloc (.cells #[.slice pv nv cv, .slice pe ne ce, .int .i64 top] 27)).alloc (.cells #[.int .i64 6] 3)) = W0 := ⟨_, rfl⟩
  have b0 := World.alloc_heap_new w (.cells #[.slice pv nv cv, .slice pe ne ce, .int .i64 top] 27)
  have b1 := World.alloc_heap_new (w.alloc (.cells #[.slice pv nv cv, .slice pe ne ce, .int .i64 top] 27)) (.cells #[.int .i64 6, .int .i64 id, .string s, .slice q m d] 30)
  have b2 := World.alloc_heap_new ((w.alloc (.cells #[.slice pv nv cv, .slice pe ne ce, .int .i64 top] 27)).alloc (.cells #[.int .i64 6, .int .i64 id, .string s, .slice q m d] 30)) (.cells #[.int .i64 0, .string ⟨#[]⟩, .slice none 0 0] 70)
  have b3 := World.alloc_heap_new (((w.alloc (.cells #[.slice pv nv cv, .slice pe ne ce, .int .i64 top] 27)).alloc (.cells #[.int .i64 6, .int .i64 id, .string s, .slice q m d] 30)).alloc (.cells #[.int .i64 0, .string ⟨#[]⟩, .slice none 0 0] 70)) (.cells #[.bool false] 4)
  have b4 := World.alloc_heap_new ((((w.alloc (.cells #[.slice pv nv cv, .slice pe ne ce, .int .i64 top] 27)).alloc (.cells #[.int .i64 6, .int .i64 id, .string s, .slice q m d] 30)).alloc (.cells #[.int .i64 0, .string ⟨#[]⟩, .slice none 0 0] 70)).alloc (.cells #[.bool false] 4)) (.cells #[.slice pv nv cv, .slice pe ne ce, .int .i64 top] 27)
  have b5 := World.alloc_heap_new (((((w.alloc (.cells #[.slice pv nv cv, .slice pe ne ce, .int .i64 top] 27)).alloc (.cells #[.int .i64 6, .int .i64 id, .string s, .slice q m d] 30)).alloc (.cells #[.int .i64 0, .string ⟨#[]⟩, .slice none 0 0] 70)).alloc (.cells #[.bool false] 4)).alloc (.cells #[.slice pv nv cv, .slice pe ne ce, .int .i64 top] 27)) (.cells #[.int .i64 6] 3)
  replace b0 := blk_on (bel_then (bel1 _ (.cells #[.int .i64 6, .int .i64 id, .string s, .slice q m d] 30)) (bel_then (bel1 _ (.cells #[.int .i64 0, .string ⟨#[]⟩, .slice none 0 0] 70)) (bel_then (bel1 _ (.cells #[.bool false] 4)) (bel_then (bel1 _ (.cells #[.slice pv nv cv, .slice pe ne ce, .int .i64 top] 27)) (bel1 _ (.cells #[.int .i64 6] 3)))))) b0
  replace b1 := blk_on (bel_then (bel1 _ (.cells #[.int .i64 0, .string ⟨#[]⟩, .slice none 0 0] 70)) (bel_then (bel1 _ (.cells #[.bool false] 4)) (bel_then (bel1 _ (.cells #[.slice pv nv cv, .slice pe ne ce, .int .i64 top] 27)) (bel1 _ (.cells #[.int .i64 6] 3))))) b1
  replace b2 := blk_on (bel_then (bel1 _ (.cells #[.bool false] 4)) (bel_then (bel1 _ (.cells #[.slice pv nv cv, .slice pe ne ce, .int .i64 top] 27)) (bel1 _ (.cells #[.int .i64 6] 3)))) b2
  replace b3 := blk_on (bel_then (bel1 _ (.cells #[.slice pv nv cv, .slice pe ne ce, .int .i64 top] 27)) (bel1 _ (.cells #[.int .i64 6] 3))) b3
  replace b4 := blk_on (bel1 _ (.cells #[.int .i64 6] 3)) b4
  simp only [World.size_alloc, hB, hW0] at b0 b1 b2 b3 b4 b5
  have hB0 : Below w.heap.size w W0 := by
    rw [← hW0]
    exact bel_then (bel_then (bel1 _ _) (bel1 _ _)) (bel_then (bel_then (bel1 _ _) (bel1 _ _)) (bel_then (bel1 _ _) (bel1 _ _)))
  have hsz : W0.heap.size = B + 6 := by rw [← hW0]; simp [hB]
  rw [hB] at hB0
  simp only [hW0]
  refine wpIn_rangeFunc_ownH rfl (by omega) (gf := 88) (lb := #[.pointer (some ⟨B + 1 + 1 + 1 + 1 + 1, 0, none⟩), .pointer (some ⟨B + 1 + 1 + 1 + 1, 0, none⟩)]) rfl trivial (enters_of Try.func88 (by kernel_rfl) rfl)
    (stopsv 2 (by omega) (B + 1 + 1 + 1 + 1 + 1) (B + 1 + 1 + 1 + 1) B xs w W0 pv cv b o hp hn hc (by omega) (by rw [hnv]; exact hvc) hH.out hB hB0 (one_of b5).1 (by rw [hnv]; exact (three_of b4).1)) belowK_t (belowK_b (by omega)) (Below.refl _ _) (fun _ => rfl)
    (fun pre W => W.heap[B]? = some (.cells #[.slice pv nv cv, .slice pe ne ce, .int .i64 top] 27) ∧ W.heap[B + 1]? = some (.cells #[.int .i64 6, .int .i64 id, .string s, .slice q m d] 30) ∧ W.heap[B + 1 + 1]? = some (.cells #[.int .i64 0, .string ⟨#[]⟩, .slice none 0 0] 70) ∧ W.heap[B + 1 + 1 + 1]? = some (.cells #[.bool false] 4) ∧ (∀ x ∈ pre, plain s l = true → xs[x.1].id ≠ id) ∧ Below B w W)
    (fun c pre W => c = .ret ∧ W.heap[B + 1 + 1]? = some (.cells (match pre.getLast? with | some x => #[.int .i64 xs[x.1].id, .string xs[x.1].lb, .slice (hp x.1) (hn x.1) (hc x.1)] | none => #[]) 70) ∧ W.heap[B + 1 + 1 + 1]? = some (.cells #[.bool true] 4) ∧ (∃ pre' x, pre = pre' ++ [x] ∧ plain s l = true ∧ xs[x.1].id = id ∧ ∀ y ∈ pre', plain s l = true → xs[y.1].id ≠ id) ∧ Below B w W)
    ?hI ?hIx
    ⟨b0, b1, b2, b3, fun x h => absurd h (by simp), hB0⟩
    (fun x a' W => ∃ Bx, B + 1 + 1 + 1 < Bx ∧ W.heap[Bx]? = some (.cells #[.int .i64 xs[x.1].id, .string xs[x.1].lb, .slice (hp x.1) (hn x.1) (hc x.1)] 70) ∧ a' = { tmps := #[.agg #[.slice pv nv cv, .slice pe ne ce, .int .i64 top], .agg #[.int .i64 6, .int .i64 id, .string s, .slice q m d], .pointer (some ⟨B, 0, none⟩), .pointer (some ⟨B + 1, 0, none⟩), .pointer (some ⟨B + 1 + 1, 0, none⟩), .pointer (some ⟨B + 1 + 1 + 1, 0, none⟩), .pointer (some ⟨Bx, 0, none⟩), .agg #[.slice pv nv cv, .slice pe ne ce, .int .i64 top], .pointer (some ⟨B + 1, 0, none⟩), .int .i64 6, .func (.func 88) #[] #[.pointer (some ⟨B + 1 + 1 + 1 + 1 + 1, 0, none⟩), .pointer (some ⟨B + 1 + 1 + 1 + 1, 0, none⟩)], .agg #[.int .i64 xs[x.1].id, .string xs[x.1].lb, .slice (hp x.1) (hn x.1) (hc x.1)], undef, undef, undef, undef, undef, undef], defers := [] }) ?hAx ?assign ?body ?done ?stop
  case hI =>
    refine OwnFrom.and (Own.from (blk_own _ _ _) _) (OwnFrom.and (Own.from (blk_own _ _ _) _) (OwnFrom.and (Own.from (blk_own _ _ _) _) (OwnFrom.and (Own.from (blk_own _ _ _) _) (OwnFrom.and (pure_own _ _) ?_))))
    rw [← hB]
    exact ownFrom_below (Nat.le_refl _) (by omega)
  case hIx =>
    intro c
    refine OwnFrom.and (pure_own _ (fun _ => c = .ret)) (OwnFrom.and (Own.from (blk_own' _ _ _) _) (OwnFrom.and (Own.from (blk_own _ _ _) _) (OwnFrom.and (pure_own _ _) ?_)))
    rw [← hB]
    exact ownFrom_below (Nat.le_refl _) (by omega)
  case hAx =>
    rintro x a' s X Y row ⟨Bx, h1, h2, h3⟩ hg hrow
    exact ⟨Bx, h1, (Own.from (blk_own (α := Unit) _ _ _) _) () X Y row h2 hg hrow, h3⟩
  case assign =>
    rintro l pre x W K ⟨h1, h2, h3, h4, h5, h6⟩ hK
    have hzW := (Array.getElem?_eq_some_iff.1 h4).1
    gi_wp2
    refine hK _ _ ((KeepsOthers.alloc _ _).from _) ((Below.refl _ W).alloc (by omega) _) ⟨blk_on (bel1 _ _) h1, blk_on (bel1 _ _) h2, blk_on (bel1 _ _) h3, blk_on (bel1 _ _) h4, h5, h6.trans ((Below.refl _ W).alloc (by omega) _)⟩ ⟨W.heap.size, hzW, World.alloc_heap_new W _, ?_⟩
    rfl
  case body =>
    rintro lp pre x a' W hl ⟨r, hr⟩ ⟨h1, h2, h3, h4, h5, h6⟩ ⟨Bx, hBx, bX, rfl⟩ hlt
    obtain ⟨x0, x1, x2, fx⟩ := three_of bX
    obtain ⟨g0, g1, g2, g3⟩ := four_S h2
    have HI := Lib.hid (And.intro h1 (And.intro h2 (And.intro h3 (And.intro h4 (And.intro h5 h6)))))
    have HX := Lib.hid bX
    obtain ⟨-, hin⟩ := hH.out.2 x.1 x.2
    have c69 := C69.out xs[x.1].id hin.1 W (by rw [hB]; exact h6)
    obtain ⟨TB, hTB⟩ : ∃ t, (decide (xs[x.1].id = id) && plain s l) = t := ⟨_, rfl⟩
    rw [hTB] at c69
    have hno : Hid (TB = false → ∀ z ∈ pre ++ [x], plain s l = true → xs[z.1].id ≠ id) := fun ht z hz hp => by
      rcases List.mem_append.1 hz with hz | hz
      · exact h5 z hz hp
      · rw [List.mem_singleton.1 hz]
        intro hh
        rw [ht, hh, hp] at hTB
        simp at hTB
    have hyes : Hid (TB = true → ∃ pre' x', pre ++ [x] = pre' ++ [x'] ∧ plain s l = true ∧ xs[x'.1].id = id ∧ ∀ y ∈ pre', plain s l = true → xs[y.1].id ≠ id) := fun ht => by
      rw [ht] at hTB
      have hT : xs[x.1].id = id ∧ plain s l = true := by simpa using hTB
      exact ⟨pre, x, rfl, hT.2, hT.1, h5⟩
    have hlast : Hid ((pre ++ [x]).getLast? = some x) := by show _ = _; simp
    have hXX : Hid (∀ X, xs[x.1] = X → ((match (pre ++ [x]).getLast? with | some x => #[Value.int .i64 xs[x.1].id, .string xs[x.1].lb, .slice (hp x.1) (hn x.1) (hc x.1)] | none => #[]) = #[.int .i64 X.id, .string X.lb, .slice (hp x.1) (hn x.1) (hc x.1)])) := fun X hX => by rw [hlast.out]; simp [hX]
    have hXX := Lib.hid (hXX.out _ rfl)
    clear hr h1 h2 h3 h4 h5 h6 bX hlast hin hTB
    generalize xs[x.1] = X at x0 x1 x2 hXX c69 HX
    cases TB with
    | false =>
      have hq := Lib.hid (hno.out rfl)
      clear hno hyes hXX
      gi_wp2_with (refine ⟨trivial, ?_⟩; gi_at_call 69; refine (CallsIn.inRound lp (callsIn_wide.2 c69)).mono ?_; rintro e w1 ⟨rfl, hb1⟩; obtain ⟨x0, x1, x2, fx⟩ := three_of (blk_on hb1 HX.out); obtain ⟨y0, y1, y2, fy⟩ := three_of (blk_on hb1 HI.out.2.2.1); obtain ⟨r0, fr⟩ := one_of (blk_on hb1 HI.out.2.2.2.1); have HI1 := Lib.hid (And.intro (blk_on hb1 HI.out.1) (And.intro (blk_on hb1 HI.out.2.1) (And.intro (blk_on hb1 HI.out.2.2.1) (And.intro (blk_on hb1 HI.out.2.2.2.1) (HI.out.2.2.2.2.2.trans (hb1.mono (by have := HI.out.2.2.2.2.2.size; omega))))))); have KO := Lib.hid (others_bel hb1); have HB1 := Lib.hid hb1; clear hb1)
      exact ⟨KO.out.from _, HB1.out.mono (by have := HI.out.2.2.2.2.2.size; omega), HI1.out.1, HI1.out.2.1, HI1.out.2.2.1, HI1.out.2.2.2.1, hq.out, HI1.out.2.2.2.2⟩
    | true =>
      have hq := Lib.hid (hyes.out rfl)
      clear hno hyes
      gi_wp2_with (refine ⟨trivial, ?_⟩; gi_at_call 69; refine (CallsIn.inRound lp (callsIn_wide.2 c69)).mono ?_; rintro e w1 ⟨rfl, hb1⟩; obtain ⟨x0, x1, x2, fx⟩ := three_of (blk_on hb1 HX.out); obtain ⟨y0, y1, y2, fy⟩ := three_of (blk_on hb1 HI.out.2.2.1); obtain ⟨r0, fr⟩ := one_of (blk_on hb1 HI.out.2.2.2.1); have HI1 := Lib.hid (And.intro (blk_on hb1 HI.out.1) (And.intro (blk_on hb1 HI.out.2.1) (And.intro (blk_on hb1 HI.out.2.2.1) (And.intro (blk_on hb1 HI.out.2.2.2.1) (HI.out.2.2.2.2.2.trans (hb1.mono (by have := HI.out.2.2.2.2.2.size; omega))))))); have KO := Lib.hid (others_bel hb1); have HB1 := Lib.hid hb1; clear hb1)
      refine ⟨(KO.out.trans ((((KeepsOthers.setCell _ _ _).trans (KeepsOthers.setCell _ _ _)).trans (KeepsOthers.setCell _ _ _)).trans (KeepsOthers.setCell _ _ _))).from _, rfl, ?_, ?_, hq.out, HI1.out.2.2.2.2.trans (bel_set4 (by omega) (by omega) _ _ _ _)⟩
      · rw [hXX.out]
        exact oth_blk (set3_blk HI1.out.2.2.1) (by omega)
      · exact blk_set1 (oth_blk3 HI1.out.2.2.2.1 (by omega))
  case done =>
    rintro D ys W hD rfl ⟨h1, h2, h3, h4, h5, h6⟩ hK
    obtain ⟨y0, y1, y2, fy⟩ := three_of h3
    obtain ⟨r0, fr⟩ := one_of h4
    have HI := Lib.hid (And.intro h3 (And.intro h4 (And.intro h5 h6)))
    have hK2 : ((((W.setCell ⟨B + 1 + 1, 0, none⟩ (.int .i64 0)).setCell ⟨B + 1 + 1, 1, none⟩ (.string ⟨#[]⟩)).setCell ⟨B + 1 + 1, 2, none⟩ (.slice none 0 0)).setCell ⟨B + 1 + 1 + 1, 0, none⟩ (.bool false)).heap[D]? = some (.deferred (some [])) :=
      oth_blk (oth_blk3 hK (by omega)) (by omega)
    clear h1 h2 h3 h4 h5 h6
    gi_wp2
    refine ⟨by simp, .inl ⟨_, _, rfl, run_takeDeferred hK2, ?_⟩⟩
    have e2 := oth_blk (i := 0) (c := .bool false) (B' := B + 1 + 1 + 1) (set3_blk (a' := .int .i64 0) (b' := .string ⟨#[]⟩) (c' := .slice none 0 0) HI.out.1) (by omega)
    have e3 := blk_set1 (v' := .bool false) (oth_blk3 (a := .int .i64 0) (b := .string ⟨#[]⟩) (c := .slice none 0 0) (B' := B + 1 + 1) HI.out.2.1 (by omega))
    have c0 := res_cells (D := D) (i := 0) (.deferred none) e2 (by omega) rfl
    have c1 := res_cells (D := D) (i := 1) (.deferred none) e2 (by omega) rfl
    have c2 := res_cells (D := D) (i := 2) (.deferred none) e2 (by omega) rfl
    have c3 := res_cells (D := D) (i := 0) (.deferred none) e3 (by omega) rfl
    refine ⟨_, by simp [results, Try.results36, go_sem, c0, c1, c2, c3] <;> rfl, ?_, Or.inr ⟨fun t ht hp => HI.out.2.2.1 ⟨t, ht⟩ (by simp) hp, rfl⟩⟩
    first | exact hB ▸ res_bel hB (by omega) (HI.out.2.2.2.trans (bel_set4 (by omega) (by omega) _ _ _ _)) | rw [hB]
    all_goals exact hB ▸ res_bel hB (by omega) (HI.out.2.2.2.trans (bel_set4 (by omega) (by omega) _ _ _ _))
  case stop =>
    rintro D c pre W hD hpre ⟨rfl, h2, h3, ⟨pre', x, rfl, hpl, hx, h4⟩, h5⟩ hK
    have e2 : W.heap[B + 1 + 1]? = some (.cells #[.int .i64 xs[x.1].id, .string xs[x.1].lb, .slice (hp x.1) (hn x.1) (hc x.1)] 70) := by simpa using h2
    have hpa := pre_at hpre
    obtain ⟨hat, hin⟩ := hH.out.2 x.1 x.2
    have H := Lib.hid (And.intro e2 (And.intro h3 (And.intro h4 h5)))
    clear h2 h3 h5 e2
    gi_wp2
    refine ⟨by simp, .inl ⟨_, _, rfl, run_takeDeferred hK, ?_⟩⟩
    have c0 := res_cells (D := D) (i := 0) (.deferred none) H.out.1 (by omega) rfl
    have c1 := res_cells (D := D) (i := 1) (.deferred none) H.out.1 (by omega) rfl
    have c2 := res_cells (D := D) (i := 2) (.deferred none) H.out.1 (by omega) rfl
    have c3 := res_cells (D := D) (i := 0) (.deferred none) H.out.2.1 (by omega) rfl
    have hbel : Below B w (W.putObj D (.deferred none)) := hB ▸ res_bel hB (by omega) H.out.2.2.2
    refine ⟨_, by simp [results, Try.results36, go_sem, c0, c1, c2, c3] <;> rfl, by first | exact hbel | (rw [hB]; exact hbel), Or.inl ⟨x.1, x.2, _, by first | exact hpl | rfl, hx, fun t ht htx => h4 ⟨t, ht⟩ (hpa t ht htx) (by first | exact hpl | rfl), rfl, ?_⟩⟩
    exact (hin.2.2).keep (keep_u (by rw [hB]; exact hbel)) (Nat.le_refl _)
end Go.Proofs.Yteknbploiombiaa
