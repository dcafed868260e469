/-
  Which elements may be: elementsMay of package graph, of either kind.
  Which elements may be: elementsMay of package graph, of edges.
-/
import Derived.Test.YteknbploiombiaaZEls
namespace Go.Proofs.Yteknbploiombiaa
open Go.RowKit Go.Shelf
set_option linter.unusedVariables false      -- a walk need not use every condition
attribute [local go_sem] Oper.semAt_some


theorem blk_set1 {W : World} {B : Nat} {t : TypeId} {v v' : Value} (h : W.heap[B]? = some (.cells #[v] t)) : (W.setCell ⟨B, 0, none⟩ v').heap[B]? = some (.cells #[v'] t) := by
  simp [World.setCell, Array.getElem?_modify, h]
theorem blk_set2 {W : World} {B B' : Nat} {t : TypeId} {cs : Array Value} {v' : Value} (h : W.heap[B]? = some (.cells cs t)) (hne : B ≠ B') : (W.setCell ⟨B', 0, none⟩ v').heap[B]? = some (.cells cs t) := by
  have : (W.setCell ⟨B', 0, none⟩ v').heap[B]? = W.heap[B]? := by simp [World.setCell, Array.getElem?_modify, Ne.symm hne]
  rw [this, h]
theorem blk_on {w w' : World} (h : Below w.heap.size w w') {g : Nat} {o : Obj} (e : w.heap[g]? = some o) : w'.heap[g]? = some o :=
  (h.block g (Array.getElem?_eq_some_iff.1 e).1).trans e
theorem res_cell {W : World} {B D : Nat} {t : TypeId} {v : Value} (o : Obj) (h : W.heap[B]? = some (.cells #[v] t)) (hne : B ≠ D) : (W.putObj D o).cell? ⟨B, 0, none⟩ = some v := by
  have e : (W.putObj D o).heap[B]? = some (.cells #[v] t) := (World.putObj_heap_other (by simpa using hne)).trans h
  exact (one_of e).1
theorem res_bel {w W : World} {B D : Nat} {o : Obj} (hB : w.heap.size = B) (hD : B ≤ D) (h : Below B w W) : Below w.heap.size w (W.putObj D o) := by
  rw [hB]
  have hg := grownBy_putObj' W D o
  exact h.trans ⟨hg.os, hg.tape, hg.output, hg.size, fun k hk => hg.block k (by have := h.size; omega) (fun e => by injection e with e; omega)⟩
theorem others_bel {W w1 : World} (hb : Below W.heap.size W w1) : KeepsOthers W w1 := ⟨hb.size, fun k o hk _ => blk_on hb hk⟩
/-- What vertices and edges have in common. -/
abbrev Ee := Int × ByteArray × List Pr
def Vx.ee (x : Vx) : Ee := (x.id, x.lb, x.ps)
def Lk.ee (x : Lk) : Ee := (x.id, x.lb, x.ps)
def elOk (top last : Int) (x : Ee) : Bool := decide (last < x.1) && decide (x.1 ≤ top) && nmB x.2.1 && psMay x.2.2
def elsFrom (top : Int) : Int → List Ee → Bool
  | _, [] => true
  | a, x :: r => elOk top a x && elsFrom top x.1 r
def lstId : Int → List Ee → Int
  | a, [] => a
  | _, x :: r => lstId x.1 r
theorem elsFrom_app (top : Int) : ∀ (l r : List Ee) (a : Int), elsFrom top a (l ++ r) = (elsFrom top a l && elsFrom top (lstId a l) r)
  | [], r, a => by simp [elsFrom, lstId]
  | x :: l, r, a => by simp only [List.cons_append, elsFrom, lstId, elsFrom_app top l r, Bool.and_assoc]
theorem lstId_app : ∀ (l : List Ee) (x : Ee) (a : Int), lstId a (l ++ [x]) = x.1
  | [], _, _ => rfl
  | y :: l, x, a => by simp only [List.cons_append, lstId, lstId_app l x]
theorem els_snoc (top a : Int) (l : List Ee) (x : Ee) : elsFrom top a (l ++ [x]) = (elsFrom top a l && elOk top (lstId a l) x) := by
  rw [elsFrom_app]; simp [elsFrom]
theorem els_pre {top a : Int} {l m : List Ee} (h : l <+: m) (hf : elsFrom top a l = false) : elsFrom top a m = false := by
  obtain ⟨r, rfl⟩ := h
  rw [elsFrom_app, hf, Bool.false_and]
theorem finR_map {β γ : Type} (xs : List β) (f : β → γ) : (List.finRange xs.length).map (fun x => f xs[x.1]) = xs.map f := by
  refine List.ext_getElem (by simp) fun i h1 h2 => ?_
  simp
theorem blk_own {α : Type} (B : Nat) (t : TypeId) (cs : Array Value) : Own (fun (_ : α) W => W.heap[B]? = some (.cells cs t)) := by
  rintro s X Y row hv hg hrow
  refine (hg.block B (Array.getElem?_eq_some_iff.1 hv).1 (fun e' => ?_)).trans hv
  obtain ⟨o, ho, hc⟩ := hrow B e'.symm
  rw [hv] at ho; cases ho; cases hc
theorem pure_own {α : Type} (B : Nat) (p : α → Prop) : OwnFrom B (fun s (_ : World) => p s) := fun _ _ _ _ h _ _ => h
theorem boxed_own1 {α : Type} (B : Nat) (t : TypeId) (f : α → Value) : Own (fun s W => Boxed W B t (f s)) := by
  rintro s X Y row hv hg hrow
  refine hv.kept hg (fun e' => ?_)
  obtain ⟨o, ho, hc⟩ := hrow B e'.symm
  rw [show X.heap[B]? = _ from hv] at ho; cases ho; cases hc
theorem keep_u {u W : World} (h : Below u.heap.size u W) : Keep 0 u W := fun a v _ hc => (h.cell (cell_lt hc)).trans hc
theorem elements64 (pv pe : Option Addr) (nv ne cv ce : Nat) (last kind : Int) (w : World) :
    Calls Try.prog 64 #[.agg #[.slice pv nv cv, .slice pe ne ce, .int .i64 last], .int .i64 kind] w fun e w' =>
      e = .returned (.func (.func 88) #[] #[.pointer (some ⟨w.heap.size + 1, 0, none⟩), .pointer (some ⟨w.heap.size, 0, none⟩)]) ∧ w' = (w.alloc (.cells #[.slice pv nv cv, .slice pe ne ce, .int .i64 last] 27)).alloc (.cells #[.int .i64 kind] 3) := by
  go_enter Try.func64, Try.ntmps64
  go_wp2
  go_ret
  exact ⟨by simp, rfl⟩
theorem eok1 {top last : Int} {x : Ee} (h : x.1 ≤ last) : elOk top last x = false := by unfold elOk; rw [decide_eq_false (by omega)]; rfl
theorem eok2 {top last : Int} {x : Ee} (h : top < x.1) : elOk top last x = false := by unfold elOk; rw [decide_eq_false (show ¬ x.1 ≤ top by omega)]; simp
theorem eok3 {top last : Int} {x : Ee} (h : nmB x.2.1 = false) : elOk top last x = false := by unfold elOk; rw [h]; simp
theorem eok4 {top last : Int} {x : Ee} (h : psMay x.2.2 = false) : elOk top last x = false := by unfold elOk; rw [h]; simp
theorem eok5 {top last : Int} {x : Ee} (h1 : last < x.1) (h2 : x.1 ≤ top) (h3 : nmB x.2.1 = true) (h4 : psMay x.2.2 = true) : elOk top last x = true := by unfold elOk; rw [decide_eq_true h1, decide_eq_true h2, h3, h4]; rfl

theorem stopsv (n : Nat) (hn1 : 1 ≤ n) (Bk Bg n₀ : Nat) (xs : List Vx) (u w : World) (p : Option Addr) (cap b o : Nat) (hp : Nat → Option Addr) (hn hc : Nat → Nat) (hcap : cap ≤ 9223372036854775807) (hlc : xs.length ≤ cap) (hH : Heads RV u xs p b o hp hn hc) (hu : u.heap.size = n₀)
    (huw : Below n₀ u w) (hk : w.cell? ⟨Bk, 0, none⟩ = some (.int .i64 6)) (hg : w.cell? ⟨Bg, 0, none⟩ = some (.slice p xs.length cap)) :
    SeqStopsK Fence.wide n Try.prog 88 #[.pointer (some ⟨Bk, 0, none⟩), .pointer (some ⟨Bg, 0, none⟩)] (fun x : Fin xs.length => #[Value.agg #[.int .i64 xs[x.1].id, .string xs[x.1].lb, .slice (hp x.1) (hn x.1) (hc x.1)]]) (Below n₀)
      (fun ys => ys = List.finRange xs.length) (fun pre => pre <+: List.finRange xs.length) xs.length w := fun l J Jx W hW hJ _ hY h0 =>
  els88v n hn1 l Bk Bg n₀ xs u p cap b o (.int .i64 0) 0 hp hn hc hcap hlc hH hu J Jx W hJ hY (huw.trans (hW.mono (by rw [← hu]; exact huw.size)))
    ((hW.cell (p := ⟨Bk, 0, none⟩) (cell_lt hk)).trans hk) ((hW.cell (p := ⟨Bg, 0, none⟩) (cell_lt hg)).trans hg) h0
set_option maxRecDepth 100000 in
set_option maxHeartbeats 8000000 in
theorem may29v (g : Gg) (sv se : Value) (w : World) (hG : Gg.In w 0 g sv se) :
    Calls Try.prog 29 #[g.agg sv se, .int .i64 6] w fun e w' => e = .returned (.bool (elsFrom g.last 0 (g.vs.map Vx.ee))) ∧ Below w.heap.size w w' := by
  obtain ⟨hl64, hV, hE⟩ := hG
  obtain ⟨pv, cv, rfl, hvc, hvm, -⟩ := id hV
  obtain ⟨pe, ce, rfl, hec, hem, -⟩ := id hE
  unfold maxLen at hvm hem
  obtain ⟨b, o, hp, hn, hc, hH⟩ := Sq.heads (fun x sl => hdV) hV
  have hH := Lib.hid hH
  clear hV hE
  unfold Gg.agg
  obtain ⟨nv, hnv⟩ : ∃ n, g.vs.length = n := ⟨_, rfl⟩
  obtain ⟨ne, hne⟩ : ∃ n, g.es.length = n := ⟨_, rfl⟩
  rw [hnv] at hvc ⊢
  rw [hne] at hec ⊢
  obtain ⟨xs, hxs⟩ : ∃ xs, g.vs = xs := ⟨_, rfl⟩
  rw [hxs] at hH hnv ⊢
  obtain ⟨B, hB⟩ : ∃ B, w.heap.size = B := ⟨_, rfl⟩
  obtain ⟨top, htop⟩ : ∃ t, g.last = t := ⟨_, rfl⟩
  rw [htop] at hl64 ⊢
  unfold I64 at hl64
  refine (callsIn_wide (n := 3)).1 ?_
  refine callsIn_of_wp_marks Try.func29 rfl trivial ?_ rfl
  simp only [Try.ntmps29, List.size_toArray, List.length_cons, List.length_nil, Nat.reduceAdd, Nat.reduceSub, Array.replicate_succ, Array.replicate_zero, List.push_toArray, List.append_toArray, List.nil_append, List.cons_append]
  gi_wp2_with (refine ⟨trivial, ?_⟩; gi_at_call 64; refine (callsIn_wide.2 (elements64 _ _ _ _ _ _ _ _ _)).mono ?_; rintro e w' ⟨rfl, rfl⟩)
  obtain ⟨W0, hW0⟩ : ∃ W0, ((((w.alloc (.cells #[.slice pv nv cv, .slice pe ne ce, .int .i64 top] 27)).alloc (.cells #[.bool false] 4)).alloc (.cells #[.int .i64 0] 2)).alloc (.cells #[.slice pv nv cv, .slice pe ne ce, .int .i64 top] 27)).alloc (.cells #[.int .i64 6] 3) = W0 := ⟨_, rfl⟩
  have b0 := World.alloc_heap_new w (.cells #[.slice pv nv cv, .slice pe ne ce, .int .i64 top] 27)
  have b1 := World.alloc_heap_new (w.alloc (.cells #[.slice pv nv cv, .slice pe ne ce, .int .i64 top] 27)) (.cells #[.bool false] 4)
  have b2 := World.alloc_heap_new ((w.alloc (.cells #[.slice pv nv cv, .slice pe ne ce, .int .i64 top] 27)).alloc (.cells #[.bool false] 4)) (.cells #[.int .i64 0] 2)
  have b3 := World.alloc_heap_new (((w.alloc (.cells #[.slice pv nv cv, .slice pe ne ce, .int .i64 top] 27)).alloc (.cells #[.bool false] 4)).alloc (.cells #[.int .i64 0] 2)) (.cells #[.slice pv nv cv, .slice pe ne ce, .int .i64 top] 27)
  have b4 := World.alloc_heap_new ((((w.alloc (.cells #[.slice pv nv cv, .slice pe ne ce, .int .i64 top] 27)).alloc (.cells #[.bool false] 4)).alloc (.cells #[.int .i64 0] 2)).alloc (.cells #[.slice pv nv cv, .slice pe ne ce, .int .i64 top] 27)) (.cells #[.int .i64 6] 3)
  replace b0 := blk_on (bel_then (bel_then (bel1 _ (.cells #[.bool false] 4)) (bel1 _ (.cells #[.int .i64 0] 2))) (bel_then (bel1 _ (.cells #[.slice pv nv cv, .slice pe ne ce, .int .i64 top] 27)) (bel1 _ (.cells #[.int .i64 6] 3)))) b0
  replace b1 := blk_on (bel_then (bel1 _ (.cells #[.int .i64 0] 2)) (bel_then (bel1 _ (.cells #[.slice pv nv cv, .slice pe ne ce, .int .i64 top] 27)) (bel1 _ (.cells #[.int .i64 6] 3)))) b1
  replace b2 := blk_on (bel_then (bel1 _ (.cells #[.slice pv nv cv, .slice pe ne ce, .int .i64 top] 27)) (bel1 _ (.cells #[.int .i64 6] 3))) b2
  replace b3 := blk_on (bel1 _ (.cells #[.int .i64 6] 3)) b3
  simp only [World.size_alloc, hB, hW0] at b0 b1 b2 b3 b4
  have hB0 : Below w.heap.size w W0 := by
    rw [← hW0]
    exact bel_then (bel_then (bel1 _ _) (bel1 _ _)) (bel_then (bel_then (bel1 _ _) (bel1 _ _)) (bel1 _ _))
  have hsz : W0.heap.size = B + 5 := by rw [← hW0]; simp [hB]
  rw [hB] at hB0
  simp only [hW0]
  have c92 := props65
  refine wpIn_rangeFunc_ownH rfl (by omega) (gf := 88) (lb := #[.pointer (some ⟨B + 1 + 1 + 1 + 1, 0, none⟩), .pointer (some ⟨B + 1 + 1 + 1, 0, none⟩)]) rfl trivial (enters_of Try.func88 (by kernel_rfl) rfl)
    (stopsv 2 (by omega) (B + 1 + 1 + 1 + 1) (B + 1 + 1 + 1) B xs w W0 pv cv b o hp hn hc (by omega) (by rw [hnv]; exact hvc) hH.out hB hB0 (one_of b4).1 (by rw [hnv]; exact (three_of b3).1)) belowK_t (belowK_b (by omega)) (Below.refl _ _) (fun _ => rfl)
    (fun pre W => W.heap[B]? = some (.cells #[.slice pv nv cv, .slice pe ne ce, .int .i64 top] 27) ∧ W.heap[B + 1]? = some (.cells #[.bool false] 4) ∧ Boxed W (B + 1 + 1) 2 (.int .i64 (lstId 0 (pre.map fun x => xs[x.1].ee))) ∧ elsFrom top 0 (pre.map fun x => xs[x.1].ee) = true ∧ Below B w W)
    (fun c pre W => c = .ret ∧ W.heap[B + 1]? = some (.cells #[.bool false] 4) ∧ elsFrom top 0 (pre.map fun x => xs[x.1].ee) = false ∧ Below B w W)
    ?hI ?hIx
    ⟨b0, b1, b2, rfl, hB0⟩
    (fun x a' W => ∃ Bx, B + 1 + 1 < Bx ∧ W.heap[Bx]? = some (.cells #[.int .i64 xs[x.1].id, .string xs[x.1].lb, .slice (hp x.1) (hn x.1) (hc x.1)] 70) ∧ a' = { tmps := #[.agg #[.slice pv nv cv, .slice pe ne ce, .int .i64 top], .int .i64 6, .pointer (some ⟨B, 0, none⟩), undef, .pointer (some ⟨B + 1, 0, none⟩), .pointer (some ⟨B + 1 + 1, 0, none⟩), .pointer (some ⟨Bx, 0, none⟩), .agg #[.slice pv nv cv, .slice pe ne ce, .int .i64 top], .int .i64 6, .func (.func 88) #[] #[.pointer (some ⟨B + 1 + 1 + 1 + 1, 0, none⟩), .pointer (some ⟨B + 1 + 1 + 1, 0, none⟩)], .agg #[.int .i64 xs[x.1].id, .string xs[x.1].lb, .slice (hp x.1) (hn x.1) (hc x.1)], undef, undef, undef, undef, undef, undef, undef, undef, undef, undef, undef, undef, undef, undef, undef, undef, undef, undef, undef, undef, undef, undef, undef, undef, undef], defers := [] }) ?hAx ?assign ?body ?done ?stop
  case hI =>
    refine OwnFrom.and (Own.from (blk_own _ _ _) _) (OwnFrom.and (Own.from (blk_own _ _ _) _) (OwnFrom.and (Own.from (boxed_own1 _ _ _) _) (OwnFrom.and (pure_own _ _) ?_)))
    rw [← hB]
    exact ownFrom_below (Nat.le_refl _) (by omega)
  case hIx =>
    intro c
    refine OwnFrom.and (pure_own _ (fun _ => c = .ret)) (OwnFrom.and (Own.from (blk_own _ _ _) _) (OwnFrom.and (pure_own _ _) ?_))
    rw [← hB]
    exact ownFrom_below (Nat.le_refl _) (by omega)
  case hAx =>
    rintro x a' s X Y row ⟨Bx, h1, h2, h3⟩ hg hrow
    exact ⟨Bx, h1, (Own.from (blk_own (α := Unit) _ _ _) _) () X Y row h2 hg hrow, h3⟩
  case assign =>
    rintro l pre x W K ⟨h1, h2, h3, h4, h5⟩ hK
    have hzW := h3.lt
    gi_wp2
    refine hK _ _ ((KeepsOthers.alloc _ _).from _) ((Below.refl _ W).alloc (by omega) _) ⟨blk_on (bel1 _ _) h1, blk_on (bel1 _ _) h2, h3.alloc _, h4, h5.trans ((Below.refl _ W).alloc (by omega) _)⟩ ⟨W.heap.size, h3.lt, World.alloc_heap_new W _, ?_⟩
    rfl
  case body =>
    rintro l pre x a' W hl ⟨r, hr⟩ ⟨h1, h2, h3, h4, h5⟩ ⟨Bx, hBx, bX, rfl⟩ hlt
    obtain ⟨hat, hin⟩ := hH.out.2 x.1 x.2
    have hps : Sq RP W 0 xs[x.1].ps (.slice (hp x.1) (hn x.1) (hc x.1)) := (hin.2.2).keep (keep_u (by rw [hB]; exact h5)) (Nat.le_refl _)
    obtain ⟨x0, x1, x2, fx⟩ := three_of bX
    obtain ⟨g0, g1, g2, fg⟩ := three_of h1
    obtain ⟨r0, fr⟩ := one_of h2
    have l0 := h3.cell
    have fl := h3.frozen
    have HI := Lib.hid (And.intro h1 (And.intro h2 (And.intro h3 (And.intro h4 (And.intro h5 bX)))))
    have hpre : Hid (pre.map (fun x => xs[x.1].ee) ++ [xs[x.1].ee] = (pre ++ [x]).map fun x => xs[x.1].ee) := by show _ = _; simp
    have hok : Hid (∀ e, elOk top (lstId 0 (pre.map fun x => xs[x.1].ee)) xs[x.1].ee = e → elsFrom top 0 ((pre ++ [x]).map fun x => xs[x.1].ee) = e) := fun e he => by
      rw [← hpre.out, els_snoc, h4, Bool.true_and, he]
    have hls : Hid (lstId 0 ((pre ++ [x]).map fun x => xs[x.1].ee) = xs[x.1].id) := by show _ = _; rw [← hpre.out, lstId_app]; rfl
    have hps := Lib.hid hps
    have hee : Hid (xs[x.1].ee = (xs[x.1].id, xs[x.1].lb, xs[x.1].ps)) := rfl
    clear hat hin hr h1 h2 h3 h4 h5 bX
    generalize hq : xs[x.1] = X at *
    obtain ⟨a, ha⟩ : ∃ a, lstId 0 (pre.map fun x => xs[x.1].ee) = a := ⟨_, rfl⟩
    rw [ha] at l0 hok HI
    rw [hee.out] at hok
    by_cases k1 : X.id ≤ a
    · have hF := Lib.hid (hok.out false (eok1 (x := (X.id, X.lb, X.ps)) k1))
      clear hok
      gi_wp2
      refine ⟨trivial, ?_⟩
      gi_wp2
      refine ⟨trivial, ?_⟩
      gi_wp2
      exact ⟨(KeepsOthers.setCell _ _ _).from _, rfl, blk_set1 HI.out.2.1, hF.out, HI.out.2.2.2.2.1.trans ((Below.refl _ W).setCell (p := ⟨B + 1, 0, none⟩) (by show B ≤ B + 1; omega) _)⟩
    · have k1' : decide (X.id ≤ a) = false := decide_eq_false k1
      by_cases k2 : top < X.id
      · have hF := Lib.hid (hok.out false (eok2 (x := (X.id, X.lb, X.ps)) k2))
        clear hok
        gi_wp2
        refine ⟨trivial, ?_⟩
        gi_wp2
        refine ⟨trivial, ?_⟩
        gi_wp2
        exact ⟨(KeepsOthers.setCell _ _ _).from _, rfl, blk_set1 HI.out.2.1, hF.out, HI.out.2.2.2.2.1.trans ((Below.refl _ W).setCell (p := ⟨B + 1, 0, none⟩) (by show B ≤ B + 1; omega) _)⟩
      · have k2' : decide (top < X.id) = false := decide_eq_false k2
        have c79 := name_b X.lb W
        cases k3 : nmB X.lb with
        | false =>
          rw [k3] at c79
          have hF := Lib.hid (hok.out false (eok3 (x := (X.id, X.lb, X.ps)) k3))
          clear hok k3
          gi_wp2_with (refine ⟨trivial, ?_⟩; gi_at_call 41; refine (CallsIn.inRound l (callsIn_wide.2 c79)).mono ?_; rintro e w1 ⟨rfl, hb1⟩; obtain ⟨q0, fq⟩ := one_of (blk_on hb1 HI.out.2.1); have HB1 := Lib.hid hb1; clear hb1)
          refine ⟨trivial, ?_⟩
          gi_wp2
          exact ⟨((others_bel HB1.out).trans (KeepsOthers.setCell _ _ _)).from _, rfl, blk_set1 (blk_on HB1.out HI.out.2.1), hF.out, HI.out.2.2.2.2.1.trans ((HB1.out.mono (by have := cell_lt r0; simp at this; omega)).setCell (p := ⟨B + 1, 0, none⟩) (by show B ≤ B + 1; omega) _)⟩
        | true =>
          rw [k3] at c79
          have c92' := fun (W' : World) (hb : Below W.heap.size W W') => c92 X.ps (.slice (hp x.1) (hn x.1) (hc x.1)) W' (hps.out.on hb)
          cases k4 : psMay X.ps with
          | false =>
            rw [k4] at c92'
            have hF := Lib.hid (hok.out false (eok4 (x := (X.id, X.lb, X.ps)) k4))
            clear hok k3 k4 c92
            gi_wp2_with (first
              | (refine ⟨trivial, ?_⟩; gi_at_call 41; refine (CallsIn.inRound l (callsIn_wide.2 c79)).mono ?_; rintro e w1 ⟨rfl, hb1⟩; obtain ⟨y0, y1, y2, fy⟩ := three_of (blk_on hb1 HI.out.2.2.2.2.2); have HB1 := Lib.hid hb1; clear hb1 c79)
              | (refine ⟨trivial, ?_⟩; gi_at_call 65; refine (CallsIn.inRound l (callsIn_wide.2 (c92' _ HB1.out))).mono ?_; rintro e w2 ⟨rfl, hb2⟩; have HB2 := Lib.hid (bel_then HB1.out hb2); obtain ⟨q0, fq⟩ := one_of (blk_on HB2.out HI.out.2.1); clear hb2))
            exact ⟨((others_bel HB2.out).trans (KeepsOthers.setCell _ _ _)).from _, rfl, blk_set1 (blk_on HB2.out HI.out.2.1), hF.out, HI.out.2.2.2.2.1.trans ((HB2.out.mono (by have := cell_lt r0; simp at this; omega)).setCell (p := ⟨B + 1, 0, none⟩) (by show B ≤ B + 1; omega) _)⟩
          | true =>
            rw [k4] at c92'
            have hF := Lib.hid (hok.out true (eok5 (x := (X.id, X.lb, X.ps)) (by show a < X.id; omega) (by show X.id ≤ top; omega) k3 k4))
            clear hok k3 k4 c92
            gi_wp2_with (first
              | (refine ⟨trivial, ?_⟩; gi_at_call 41; refine (CallsIn.inRound l (callsIn_wide.2 c79)).mono ?_; rintro e w1 ⟨rfl, hb1⟩; obtain ⟨y0, y1, y2, fy⟩ := three_of (blk_on hb1 HI.out.2.2.2.2.2); have HB1 := Lib.hid hb1; clear hb1 c79)
              | (refine ⟨trivial, ?_⟩; gi_at_call 65; refine (CallsIn.inRound l (callsIn_wide.2 (c92' _ HB1.out))).mono ?_; rintro e w2 ⟨rfl, hb2⟩; have HB2 := Lib.hid (bel_then HB1.out hb2); obtain ⟨q0, fq⟩ := one_of (blk_on HB2.out HI.out.2.2.1); obtain ⟨z0, z1, z2, fz⟩ := three_of (blk_on HB2.out HI.out.2.2.2.2.2); clear hb2))
            refine ⟨((others_bel HB2.out).trans (KeepsOthers.setCell _ _ _)).from _, ?_, ?_, ?_, ?_, hF.out, ?_⟩
            · exact (HB2.out.mono (by have := cell_lt r0; simp at this; omega)).setCell (p := ⟨B + 1 + 1, 0, none⟩) (by show B ≤ B + 1 + 1; omega) _
            · exact blk_set2 (blk_on HB2.out HI.out.1) (by omega)
            · exact blk_set2 (blk_on HB2.out HI.out.2.1) (by omega)
            · rw [hls.out]; exact Boxed.set _ (show Boxed _ _ _ _ from blk_on HB2.out HI.out.2.2.1)
            · exact HI.out.2.2.2.2.1.trans ((HB2.out.mono (by have := cell_lt r0; simp at this; omega)).setCell (p := ⟨B + 1 + 1, 0, none⟩) (by show B ≤ B + 1 + 1; omega) _)
  case done =>
    rintro D ys W hD rfl ⟨h1, h2, h3, h4, h5⟩ hK
    have hDl : D < W.heap.size := (Array.getElem?_eq_some_iff.1 hK).1
    rw [finR_map] at h4
    obtain ⟨r0, fr⟩ := one_of h2
    have H := Lib.hid (And.intro h2 (And.intro h4 h5))
    clear h1 h2 h3 h4 h5
    have hK2 : (W.setCell ⟨B + 1, 0, none⟩ (.bool true)).heap[D]? = some (.deferred (some [])) := (KeepsOthers.setCell W ⟨B + 1, 0, none⟩ (.bool true)).same D _ hK rfl
    gi_wp2
    refine ⟨by simp, .inl ⟨_, _, rfl, run_takeDeferred hK2, ?_⟩⟩
    have hBD : B + 1 ≠ D := by have := hsz; omega
    have hc := res_cell (v := .bool true) (D := D) (.deferred none) (blk_set1 (v' := .bool true) H.out.1) hBD
    refine ⟨_, by simp [results, Try.results29, go_sem, hc]; rfl, by rw [H.out.2.1], ?_⟩
    exact res_bel hB (by omega) (H.out.2.2.trans ((Below.refl _ W).setCell (p := ⟨B + 1, 0, none⟩) (by show B ≤ B + 1; omega) _))
  case stop =>
    rintro D c pre W hD hpre ⟨rfl, h2, h4, h5⟩ hK
    have hf : elsFrom top 0 (xs.map Vx.ee) = false := by
      obtain ⟨r, hr⟩ := hpre
      rw [← finR_map, ← hr, List.map_append, elsFrom_app, h4, Bool.false_and]
    obtain ⟨r0, fr⟩ := one_of h2
    have H := Lib.hid (And.intro h2 (And.intro hf h5))
    clear h2 h4 h5 hf
    gi_wp2
    refine ⟨by simp, .inl ⟨_, _, rfl, run_takeDeferred hK, ?_⟩⟩
    have hBD : B + 1 ≠ D := by have := hsz; omega
    have hc := res_cell (v := .bool false) (D := D) (.deferred none) H.out.1 hBD
    refine ⟨_, by simp [results, Try.results29, go_sem, hc]; rfl, by rw [H.out.2.1], ?_⟩
    exact res_bel hB (by omega) H.out.2.2
end Go.Proofs.Yteknbploiombiaa
namespace Go.Proofs.Yteknbploiombiaa
open Go.RowKit Go.Shelf
set_option linter.unusedVariables false      -- a walk need not use every condition
attribute [local go_sem] Oper.semAt_some


theorem stopse (n : Nat) (hn1 : 1 ≤ n) (Bk Bg n₀ : Nat) (xs : List Lk) (u w : World) (p : Option Addr) (cap b o : Nat) (hp : Nat → Option Addr) (hn hc : Nat → Nat) (hcap : cap ≤ 9223372036854775807) (hlc : xs.length ≤ cap) (hH : Heads RL u xs p b o hp hn hc) (hu : u.heap.size = n₀)
    (huw : Below n₀ u w) (hk : w.cell? ⟨Bk, 0, none⟩ = some (.int .i64 7)) (hg : w.cell? ⟨Bg, 1, none⟩ = some (.slice p xs.length cap)) :
    SeqStopsK Fence.wide n Try.prog 88 #[.pointer (some ⟨Bk, 0, none⟩), .pointer (some ⟨Bg, 0, none⟩)] (fun x : Fin xs.length => #[Value.agg #[.int .i64 xs[x.1].id, .string xs[x.1].lb, .slice (hp x.1) (hn x.1) (hc x.1)]]) (Below n₀)
      (fun ys => ys = List.finRange xs.length) (fun pre => pre <+: List.finRange xs.length) xs.length w := fun l J Jx W hW hJ _ hY h0 =>
  els88e n hn1 l Bk Bg n₀ xs u p cap b o (.int .i64 0) 0 hp hn hc hcap hlc hH hu J Jx W hJ hY (huw.trans (hW.mono (by rw [← hu]; exact huw.size)))
    ((hW.cell (p := ⟨Bk, 0, none⟩) (cell_lt hk)).trans hk) ((hW.cell (p := ⟨Bg, 1, none⟩) (cell_lt hg)).trans hg) h0
set_option maxRecDepth 100000 in
set_option maxHeartbeats 8000000 in
theorem may29e (g : Gg) (sv se : Value) (w : World) (hG : Gg.In w 0 g sv se) :
    Calls Try.prog 29 #[g.agg sv se, .int .i64 7] w fun e w' => e = .returned (.bool (elsFrom g.last 0 (g.es.map Lk.ee))) ∧ Below w.heap.size w w' := by
  obtain ⟨hl64, hV, hE⟩ := hG
  obtain ⟨pv, cv, rfl, hvc, hvm, -⟩ := id hV
  obtain ⟨pe, ce, rfl, hec, hem, -⟩ := id hE
  unfold maxLen at hvm hem
  obtain ⟨b, o, hp, hn, hc, hH⟩ := Sq.heads (fun x sl => hdL) hE
  have hH := Lib.hid hH
  clear hV hE
  unfold Gg.agg
  obtain ⟨nv, hnv⟩ : ∃ n, g.vs.length = n := ⟨_, rfl⟩
  obtain ⟨ne, hne⟩ : ∃ n, g.es.length = n := ⟨_, rfl⟩
  rw [hnv] at hvc ⊢
  rw [hne] at hec ⊢
  obtain ⟨xs, hxs⟩ : ∃ xs, g.es = xs := ⟨_, rfl⟩
  rw [hxs] at hH hne ⊢
  obtain ⟨B, hB⟩ : ∃ B, w.heap.size = B := ⟨_, rfl⟩
  obtain ⟨top, htop⟩ : ∃ t, g.last = t := ⟨_, rfl⟩
  rw [htop] at hl64 ⊢
  unfold I64 at hl64
  refine (callsIn_wide (n := 3)).1 ?_
  refine callsIn_of_wp_marks Try.func29 rfl trivial ?_ rfl
  simp only [Try.ntmps29, List.size_toArray, List.length_cons, List.length_nil, Nat.reduceAdd, Nat.reduceSub, Array.replicate_succ, Array.replicate_zero, List.push_toArray, List.append_toArray, List.nil_append, List.cons_append]
  gi_wp2_with (refine ⟨trivial, ?_⟩; gi_at_call 64; refine (callsIn_wide.2 (elements64 _ _ _ _ _ _ _ _ _)).mono ?_; rintro e w' ⟨rfl, rfl⟩)
  obtain ⟨W0, hW0⟩ : ∃ W0, ((((w.alloc (.cells #[.slice pv nv cv, .slice pe ne ce, .int .i64 top] 27)).alloc (.cells #[.bool false] 4)).alloc (.cells #[.int .i64 0] 2)).alloc (.cells #[.slice pv nv cv, .slice pe ne ce, .int .i64 top] 27)).alloc (.cells #[.int .i64 7] 3) = W0 := ⟨_, rfl⟩
  have b0 := World.alloc_heap_new w (.cells #[.slice pv nv cv, .slice pe ne ce, .int .i64 top] 27)
  have b1 := World.alloc_heap_new (w.alloc (.cells #[.slice pv nv cv, .slice pe ne ce, .int .i64 top] 27)) (.cells #[.bool false] 4)
  have b2 := World.alloc_heap_new ((w.alloc (.cells #[.slice pv nv cv, .slice pe ne ce, .int .i64 top] 27)).alloc (.cells #[.bool false] 4)) (.cells #[.int .i64 0] 2)
  have b3 := World.alloc_heap_new (((w.alloc (.cells #[.slice pv nv cv, .slice pe ne ce, .int .i64 top] 27)).alloc (.cells #[.bool false] 4)).alloc (.cells #[.int .i64 0] 2)) (.cells #[.slice pv nv cv, .slice pe ne ce, .int .i64 top] 27)
  have b4 := World.alloc_heap_new ((((w.alloc (.cells #[.slice pv nv cv, .slice pe ne ce, .int .i64 top] 27)).alloc (.cells #[.bool false] 4)).alloc (.cells #[.int .i64 0] 2)).alloc (.cells #[.slice pv nv cv, .slice pe ne ce, .int .i64 top] 27)) (.cells #[.int .i64 7] 3)
  replace b0 := blk_on (bel_then (bel_then (bel1 _ (.cells #[.bool false] 4)) (bel1 _ (.cells #[.int .i64 0] 2))) (bel_then (bel1 _ (.cells #[.slice pv nv cv, .slice pe ne ce, .int .i64 top] 27)) (bel1 _ (.cells #[.int .i64 7] 3)))) b0
  replace b1 := blk_on (bel_then (bel1 _ (.cells #[.int .i64 0] 2)) (bel_then (bel1 _ (.cells #[.slice pv nv cv, .slice pe ne ce, .int .i64 top] 27)) (bel1 _ (.cells #[.int .i64 7] 3)))) b1
  replace b2 := blk_on (bel_then (bel1 _ (.cells #[.slice pv nv cv, .slice pe ne ce, .int .i64 top] 27)) (bel1 _ (.cells #[.int .i64 7] 3))) b2
  replace b3 := blk_on (bel1 _ (.cells #[.int .i64 7] 3)) b3
  simp only [World.size_alloc, hB, hW0] at b0 b1 b2 b3 b4
  have hB0 : Below w.heap.size w W0 := by
    rw [← hW0]
    exact bel_then (bel_then (bel1 _ _) (bel1 _ _)) (bel_then (bel_then (bel1 _ _) (bel1 _ _)) (bel1 _ _))
  have hsz : W0.heap.size = B + 5 := by rw [← hW0]; simp [hB]
  rw [hB] at hB0
  simp only [hW0]
  have c92 := props65
  refine wpIn_rangeFunc_ownH rfl (by omega) (gf := 88) (lb := #[.pointer (some ⟨B + 1 + 1 + 1 + 1, 0, none⟩), .pointer (some ⟨B + 1 + 1 + 1, 0, none⟩)]) rfl trivial (enters_of Try.func88 (by kernel_rfl) rfl)
    (stopse 2 (by omega) (B + 1 + 1 + 1 + 1) (B + 1 + 1 + 1) B xs w W0 pe ce b o hp hn hc (by omega) (by rw [hne]; exact hec) hH.out hB hB0 (one_of b4).1 (by rw [hne]; exact (three_of b3).2.1)) belowK_t (belowK_b (by omega)) (Below.refl _ _) (fun _ => rfl)
    (fun pre W => W.heap[B]? = some (.cells #[.slice pv nv cv, .slice pe ne ce, .int .i64 top] 27) ∧ W.heap[B + 1]? = some (.cells #[.bool false] 4) ∧ Boxed W (B + 1 + 1) 2 (.int .i64 (lstId 0 (pre.map fun x => xs[x.1].ee))) ∧ elsFrom top 0 (pre.map fun x => xs[x.1].ee) = true ∧ Below B w W)
    (fun c pre W => c = .ret ∧ W.heap[B + 1]? = some (.cells #[.bool false] 4) ∧ elsFrom top 0 (pre.map fun x => xs[x.1].ee) = false ∧ Below B w W)
    ?hI ?hIx
    ⟨b0, b1, b2, rfl, hB0⟩
    (fun x a' W => ∃ Bx, B + 1 + 1 < Bx ∧ W.heap[Bx]? = some (.cells #[.int .i64 xs[x.1].id, .string xs[x.1].lb, .slice (hp x.1) (hn x.1) (hc x.1)] 70) ∧ a' = { tmps := #[.agg #[.slice pv nv cv, .slice pe ne ce, .int .i64 top], .int .i64 7, .pointer (some ⟨B, 0, none⟩), undef, .pointer (some ⟨B + 1, 0, none⟩), .pointer (some ⟨B + 1 + 1, 0, none⟩), .pointer (some ⟨Bx, 0, none⟩), .agg #[.slice pv nv cv, .slice pe ne ce, .int .i64 top], .int .i64 7, .func (.func 88) #[] #[.pointer (some ⟨B + 1 + 1 + 1 + 1, 0, none⟩), .pointer (some ⟨B + 1 + 1 + 1, 0, none⟩)], .agg #[.int .i64 xs[x.1].id, .string xs[x.1].lb, .slice (hp x.1) (hn x.1) (hc x.1)], undef, undef, undef, undef, undef, undef, undef, undef, undef, undef, undef, undef, undef, undef, undef, undef, undef, undef, undef, undef, undef, undef, undef, undef, undef], defers := [] }) ?hAx ?assign ?body ?done ?stop
  case hI =>
    refine OwnFrom.and (Own.from (blk_own _ _ _) _) (OwnFrom.and (Own.from (blk_own _ _ _) _) (OwnFrom.and (Own.from (boxed_own1 _ _ _) _) (OwnFrom.and (pure_own _ _) ?_)))
    rw [← hB]
    exact ownFrom_below (Nat.le_refl _) (by omega)
  case hIx =>
    intro c
    refine OwnFrom.and (pure_own _ (fun _ => c = .ret)) (OwnFrom.and (Own.from (blk_own _ _ _) _) (OwnFrom.and (pure_own _ _) ?_))
    rw [← hB]
    exact ownFrom_below (Nat.le_refl _) (by omega)
  case hAx =>
    rintro x a' s X Y row ⟨Bx, h1, h2, h3⟩ hg hrow
    exact ⟨Bx, h1, (Own.from (blk_own (α := Unit) _ _ _) _) () X Y row h2 hg hrow, h3⟩
  case assign =>
    rintro l pre x W K ⟨h1, h2, h3, h4, h5⟩ hK
    have hzW := h3.lt
    gi_wp2
    refine hK _ _ ((KeepsOthers.alloc _ _).from _) ((Below.refl _ W).alloc (by omega) _) ⟨blk_on (bel1 _ _) h1, blk_on (bel1 _ _) h2, h3.alloc _, h4, h5.trans ((Below.refl _ W).alloc (by omega) _)⟩ ⟨W.heap.size, h3.lt, World.alloc_heap_new W _, ?_⟩
    rfl
  case body =>
    rintro l pre x a' W hl ⟨r, hr⟩ ⟨h1, h2, h3, h4, h5⟩ ⟨Bx, hBx, bX, rfl⟩ hlt
    obtain ⟨hat, hin⟩ := hH.out.2 x.1 x.2
    have hps : Sq RP W 0 xs[x.1].ps (.slice (hp x.1) (hn x.1) (hc x.1)) := (hin.2.2.2.2).keep (keep_u (by rw [hB]; exact h5)) (Nat.le_refl _)
    obtain ⟨x0, x1, x2, fx⟩ := three_of bX
    obtain ⟨g0, g1, g2, fg⟩ := three_of h1
    obtain ⟨r0, fr⟩ := one_of h2
    have l0 := h3.cell
    have fl := h3.frozen
    have HI := Lib.hid (And.intro h1 (And.intro h2 (And.intro h3 (And.intro h4 (And.intro h5 bX)))))
    have hpre : Hid (pre.map (fun x => xs[x.1].ee) ++ [xs[x.1].ee] = (pre ++ [x]).map fun x => xs[x.1].ee) := by show _ = _; simp
    have hok : Hid (∀ e, elOk top (lstId 0 (pre.map fun x => xs[x.1].ee)) xs[x.1].ee = e → elsFrom top 0 ((pre ++ [x]).map fun x => xs[x.1].ee) = e) := fun e he => by
      rw [← hpre.out, els_snoc, h4, Bool.true_and, he]
    have hls : Hid (lstId 0 ((pre ++ [x]).map fun x => xs[x.1].ee) = xs[x.1].id) := by show _ = _; rw [← hpre.out, lstId_app]; rfl
    have hps := Lib.hid hps
    have hee : Hid (xs[x.1].ee = (xs[x.1].id, xs[x.1].lb, xs[x.1].ps)) := rfl
    clear hat hin hr h1 h2 h3 h4 h5 bX
    generalize hq : xs[x.1] = X at *
    obtain ⟨a, ha⟩ : ∃ a, lstId 0 (pre.map fun x => xs[x.1].ee) = a := ⟨_, rfl⟩
    rw [ha] at l0 hok HI
    rw [hee.out] at hok
    by_cases k1 : X.id ≤ a
    · have hF := Lib.hid (hok.out false (eok1 (x := (X.id, X.lb, X.ps)) k1))
      clear hok
      gi_wp2
      refine ⟨trivial, ?_⟩
      gi_wp2
      refine ⟨trivial, ?_⟩
      gi_wp2
      exact ⟨(KeepsOthers.setCell _ _ _).from _, rfl, blk_set1 HI.out.2.1, hF.out, HI.out.2.2.2.2.1.trans ((Below.refl _ W).setCell (p := ⟨B + 1, 0, none⟩) (by show B ≤ B + 1; omega) _)⟩
    · have k1' : decide (X.id ≤ a) = false := decide_eq_false k1
      by_cases k2 : top < X.id
      · have hF := Lib.hid (hok.out false (eok2 (x := (X.id, X.lb, X.ps)) k2))
        clear hok
        gi_wp2
        refine ⟨trivial, ?_⟩
        gi_wp2
        refine ⟨trivial, ?_⟩
        gi_wp2
        exact ⟨(KeepsOthers.setCell _ _ _).from _, rfl, blk_set1 HI.out.2.1, hF.out, HI.out.2.2.2.2.1.trans ((Below.refl _ W).setCell (p := ⟨B + 1, 0, none⟩) (by show B ≤ B + 1; omega) _)⟩
      · have k2' : decide (top < X.id) = false := decide_eq_false k2
        have c79 := name_b X.lb W
        cases k3 : nmB X.lb with
        | false =>
          rw [k3] at c79
          have hF := Lib.hid (hok.out false (eok3 (x := (X.id, X.lb, X.ps)) k3))
          clear hok k3
          gi_wp2_with (refine ⟨trivial, ?_⟩; gi_at_call 41; refine (CallsIn.inRound l (callsIn_wide.2 c79)).mono ?_; rintro e w1 ⟨rfl, hb1⟩; obtain ⟨q0, fq⟩ := one_of (blk_on hb1 HI.out.2.1); have HB1 := Lib.hid hb1; clear hb1)
          refine ⟨trivial, ?_⟩
          gi_wp2
          exact ⟨((others_bel HB1.out).trans (KeepsOthers.setCell _ _ _)).from _, rfl, blk_set1 (blk_on HB1.out HI.out.2.1), hF.out, HI.out.2.2.2.2.1.trans ((HB1.out.mono (by have := cell_lt r0; simp at this; omega)).setCell (p := ⟨B + 1, 0, none⟩) (by show B ≤ B + 1; omega) _)⟩
        | true =>
          rw [k3] at c79
          have c92' := fun (W' : World) (hb : Below W.heap.size W W') => c92 X.ps (.slice (hp x.1) (hn x.1) (hc x.1)) W' (hps.out.on hb)
          cases k4 : psMay X.ps with
          | false =>
            rw [k4] at c92'
            have hF := Lib.hid (hok.out false (eok4 (x := (X.id, X.lb, X.ps)) k4))
            clear hok k3 k4 c92
            gi_wp2_with (first
              | (refine ⟨trivial, ?_⟩; gi_at_call 41; refine (CallsIn.inRound l (callsIn_wide.2 c79)).mono ?_; rintro e w1 ⟨rfl, hb1⟩; obtain ⟨y0, y1, y2, fy⟩ := three_of (blk_on hb1 HI.out.2.2.2.2.2); have HB1 := Lib.hid hb1; clear hb1 c79)
              | (refine ⟨trivial, ?_⟩; gi_at_call 65; refine (CallsIn.inRound l (callsIn_wide.2 (c92' _ HB1.out))).mono ?_; rintro e w2 ⟨rfl, hb2⟩; have HB2 := Lib.hid (bel_then HB1.out hb2); obtain ⟨q0, fq⟩ := one_of (blk_on HB2.out HI.out.2.1); clear hb2))
            exact ⟨((others_bel HB2.out).trans (KeepsOthers.setCell _ _ _)).from _, rfl, blk_set1 (blk_on HB2.out HI.out.2.1), hF.out, HI.out.2.2.2.2.1.trans ((HB2.out.mono (by have := cell_lt r0; simp at this; omega)).setCell (p := ⟨B + 1, 0, none⟩) (by show B ≤ B + 1; omega) _)⟩
          | true =>
            rw [k4] at c92'
            have hF := Lib.hid (hok.out true (eok5 (x := (X.id, X.lb, X.ps)) (by show a < X.id; omega) (by show X.id ≤ top; omega) k3 k4))
            clear hok k3 k4 c92
            gi_wp2_with (first
              | (refine ⟨trivial, ?_⟩; gi_at_call 41; refine (CallsIn.inRound l (callsIn_wide.2 c79)).mono ?_; rintro e w1 ⟨rfl, hb1⟩; obtain ⟨y0, y1, y2, fy⟩ := three_of (blk_on hb1 HI.out.2.2.2.2.2); have HB1 := Lib.hid hb1; clear hb1 c79)
              | (refine ⟨trivial, ?_⟩; gi_at_call 65; refine (CallsIn.inRound l (callsIn_wide.2 (c92' _ HB1.out))).mono ?_; rintro e w2 ⟨rfl, hb2⟩; have HB2 := Lib.hid (bel_then HB1.out hb2); obtain ⟨q0, fq⟩ := one_of (blk_on HB2.out HI.out.2.2.1); obtain ⟨z0, z1, z2, fz⟩ := three_of (blk_on HB2.out HI.out.2.2.2.2.2); clear hb2))
            refine ⟨((others_bel HB2.out).trans (KeepsOthers.setCell _ _ _)).from _, ?_, ?_, ?_, ?_, hF.out, ?_⟩
            · exact (HB2.out.mono (by have := cell_lt r0; simp at this; omega)).setCell (p := ⟨B + 1 + 1, 0, none⟩) (by show B ≤ B + 1 + 1; omega) _
            · exact blk_set2 (blk_on HB2.out HI.out.1) (by omega)
            · exact blk_set2 (blk_on HB2.out HI.out.2.1) (by omega)
            · rw [hls.out]; exact Boxed.set _ (show Boxed _ _ _ _ from blk_on HB2.out HI.out.2.2.1)
            · exact HI.out.2.2.2.2.1.trans ((HB2.out.mono (by have := cell_lt r0; simp at this; omega)).setCell (p := ⟨B + 1 + 1, 0, none⟩) (by show B ≤ B + 1 + 1; omega) _)
  case done =>
    rintro D ys W hD rfl ⟨h1, h2, h3, h4, h5⟩ hK
    have hDl : D < W.heap.size := (Array.getElem?_eq_some_iff.1 hK).1
    rw [finR_map] at h4
    obtain ⟨r0, fr⟩ := one_of h2
    have H := Lib.hid (And.intro h2 (And.intro h4 h5))
    clear h1 h2 h3 h4 h5
    have hK2 : (W.setCell ⟨B + 1, 0, none⟩ (.bool true)).heap[D]? = some (.deferred (some [])) := (KeepsOthers.setCell W ⟨B + 1, 0, none⟩ (.bool true)).same D _ hK rfl
    gi_wp2
    refine ⟨by simp, .inl ⟨_, _, rfl, run_takeDeferred hK2, ?_⟩⟩
    have hBD : B + 1 ≠ D := by have := hsz; omega
    have hc := res_cell (v := .bool true) (D := D) (.deferred none) (blk_set1 (v' := .bool true) H.out.1) hBD
    refine ⟨_, by simp [results, Try.results29, go_sem, hc]; rfl, by rw [H.out.2.1], ?_⟩
    exact res_bel hB (by omega) (H.out.2.2.trans ((Below.refl _ W).setCell (p := ⟨B + 1, 0, none⟩) (by show B ≤ B + 1; omega) _))
  case stop =>
    rintro D c pre W hD hpre ⟨rfl, h2, h4, h5⟩ hK
    have hf : elsFrom top 0 (xs.map Lk.ee) = false := by
      obtain ⟨r, hr⟩ := hpre
      rw [← finR_map, ← hr, List.map_append, elsFrom_app, h4, Bool.false_and]
    obtain ⟨r0, fr⟩ := one_of h2
    have H := Lib.hid (And.intro h2 (And.intro hf h5))
    clear h2 h4 h5 hf
    gi_wp2
    refine ⟨by simp, .inl ⟨_, _, rfl, run_takeDeferred hK, ?_⟩⟩
    have hBD : B + 1 ≠ D := by have := hsz; omega
    have hc := res_cell (v := .bool false) (D := D) (.deferred none) H.out.1 hBD
    refine ⟨_, by simp [results, Try.results29, go_sem, hc]; rfl, by rw [H.out.2.1], ?_⟩
    exact res_bel hB (by omega) H.out.2.2
end Go.Proofs.Yteknbploiombiaa
