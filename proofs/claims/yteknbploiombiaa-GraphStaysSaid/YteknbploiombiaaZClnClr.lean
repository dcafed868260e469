/-
  What package graph's clones of properties, vertices, edges and of rows of these do.
  What package graph's clones of rows of vertices and of edges do.
-/
import Derived.Test.YteknbploiombiaaZWr
namespace Go.Proofs.Yteknbploiombiaa
open Go.RowKit
set_option linter.unusedVariables false      -- a walk need not use every condition

theorem blk_b0 {w w1 : World} {cs ds : Array Value} {t u : TypeId} (hb : Below ((w.alloc (.cells cs t)).alloc (.cells ds u)).heap.size ((w.alloc (.cells cs t)).alloc (.cells ds u)) w1) : w1.heap[w.heap.size]? = some (.cells cs t) :=
  (hb.block w.heap.size (by simp; omega)).trans ((Below.heap_alloc _ _ _ (by simp)).trans (World.alloc_heap_new w _))
theorem blk_b1 {w w1 : World} {cs ds : Array Value} {t u : TypeId} (hb : Below ((w.alloc (.cells cs t)).alloc (.cells ds u)).heap.size ((w.alloc (.cells cs t)).alloc (.cells ds u)) w1) : w1.heap[w.heap.size + 1]? = some (.cells ds u) := by
  have h := World.alloc_heap_new (w.alloc (.cells cs t)) (.cells ds u)
  rw [World.size_alloc] at h
  exact (hb.block (w.heap.size + 1) (by simp)).trans h
theorem five_of {w : World} {g : Nat} {a b c d f : Value} {t : TypeId} (e : w.heap[g]? = some (.cells #[a, b, c, d, f] t)) :
    w.cell? ⟨g, 0, none⟩ = some a ∧ w.cell? ⟨g, 1, none⟩ = some b ∧ w.cell? ⟨g, 2, none⟩ = some c ∧ w.cell? ⟨g, 3, none⟩ = some d ∧ w.cell? ⟨g, 4, none⟩ = some f ∧ ∀ i, w.frozen? ⟨g, i, none⟩ = false := by
  refine ⟨?_, ?_, ?_, ?_, ?_, fun i => ?_⟩ <;> simp [World.cell?, World.frozen?, e]
theorem three_of {w : World} {g : Nat} {a b c : Value} {t : TypeId} (e : w.heap[g]? = some (.cells #[a, b, c] t)) :
    w.cell? ⟨g, 0, none⟩ = some a ∧ w.cell? ⟨g, 1, none⟩ = some b ∧ w.cell? ⟨g, 2, none⟩ = some c ∧ ∀ i, w.frozen? ⟨g, i, none⟩ = false := by
  refine ⟨?_, ?_, ?_, fun i => ?_⟩ <;> simp [World.cell?, World.frozen?, e]
theorem one_of {w : World} {g : Nat} {a : Value} {t : TypeId} (e : w.heap[g]? = some (.cells #[a] t)) : w.cell? ⟨g, 0, none⟩ = some a ∧ w.frozen? ⟨g, 0, none⟩ = false := by
  constructor <;> simp [World.cell?, World.frozen?, e]

set_option maxHeartbeats 2000000 in
theorem clone104 (x : Pr) (sx : Value) (w : World) (hx : RP.In w 0 x sx) : Calls Try.prog 104 #[x.agg sx] w fun e w' => ClE RP Pr.agg x w e w' := by
  obtain ⟨nm, v⟩ := x
  obtain ⟨h1, h2⟩ := hx
  simp only at h1 h2
  have c63 := fun W hW => clone_any v sx W (h2.on hW)
  obtain ⟨p, n, c, rfl⟩ := h2.header
  cases v with | mk k q s l =>
  unfold ClE Pr.agg
  unfold Cl V.agg at c63
  simp only [V.k, V.n, V.s] at *
  go_enter Try.func104, Try.ntmps104
  go_wp2_with (go_at_call 38; refine (c63 _ (bel2 w _ _)).mono ?_; rintro e w2 ⟨sl2, rfl, hin2, hb2, hnf2⟩; obtain ⟨p2, n2, c2, rfl⟩ := hin2.header; have e0 := blk_b0 hb2; have e1 := blk_b1 hb2; obtain ⟨x0, x1, x2, x3, x4, f0⟩ := five_of e0; obtain ⟨y0, y1, y2, y3, y4, f1⟩ := five_of e1; have hnf2 : Hid _ := hnf2; have hin2 : Hid _ := hin2; have hb2 : Hid _ := hb2; clear e0 e1)
  have hbf : Below w.heap.size w (putL (putL w2 w.heap.size 1 [.int .i64 k, .int .i64 q, .string s, .slice p2 n2 c2]) (w.heap.size + 1) 0 [.string nm, .int .i64 k, .int .i64 q, .string s, .slice p2 n2 c2]) :=
    (bel_then (bel2 w _ _) hb2.out).trans ((putL_below (Nat.le_refl _)).trans (putL_below (by omega)))
  have hif : (V.mk k q s l).In (putL (putL w2 w.heap.size 1 [.int .i64 k, .int .i64 q, .string s, .slice p2 n2 c2]) (w.heap.size + 1) 0 [.string nm, .int .i64 k, .int .i64 q, .string s, .slice p2 n2 c2]) w.heap.size (.slice p2 n2 c2) :=
    V.In.keep (lo := w.heap.size + 1 + 1) (fun a v ha hc => putL_other (putL_other hc (.inl (by omega))) (.inl (by omega))) (by omega) _ _ (by have := hin2.out; rwa [World.size_alloc, World.size_alloc] at this)
  have hnf : NF w.heap.size (putL (putL w2 w.heap.size 1 [.int .i64 k, .int .i64 q, .string s, .slice p2 n2 c2]) (w.heap.size + 1) 0 [.string nm, .int .i64 k, .int .i64 q, .string s, .slice p2 n2 c2]) :=
    putL_nf (putL_nf ((((nf_new w).alloc _ _).alloc _ _).call hb2.out hnf2.out))
  unfold putL putL putL putL putL putL at hbf hif hnf
  simp [bodyPost, results, Try.results104, go_sem, y0, y1, y2, y3, y4]
  exact ⟨⟨h1, hif⟩, hbf, hnf⟩

theorem hdP {w : World} {lo : Nat} {x : Pr} {sl : Value} (h : RP.In w lo x sl) : ∃ p n c, sl = .slice p n c := h.2.header
theorem hdV {w : World} {lo : Nat} {x : Vx} {sl : Value} (h : RV.In w lo x sl) : ∃ p n c, sl = .slice p n c := by
  obtain ⟨p, c, e⟩ := h.2.2.header; exact ⟨p, _, c, e⟩
theorem hdL {w : World} {lo : Nat} {x : Lk} {sl : Value} (h : RL.In w lo x sl) : ∃ p n c, sl = .slice p n c := by
  obtain ⟨p, c, e⟩ := h.2.2.2.2.header; exact ⟨p, _, c, e⟩

set_option maxHeartbeats 4000000 in
theorem clone103 (l : List Pr) (sl : Value) (w : World) (hl0 : Sq RP w 0 l sl) : Calls Try.prog 103 #[sl, .func (.func 104) #[] #[]] w fun e w' => ClS RP 84 l w e w' := by
  obtain ⟨p, cap, rfl, hc, hcm, h56, hx⟩ := hl0
  unfold maxLen at hcm
  by_cases hl : l = []
  · subst hl
    go_enter Try.func103, Try.ntmps103
    go_wp2
    go_ret
    exact ⟨_, rfl, .inl ⟨rfl, rfl⟩, Below.refl _ _, nf_new w⟩
  · obtain ⟨b, o, rfl, -, hx1⟩ := hx.resolve_left hl
    have hl0 : 0 < l.length := List.length_pos_iff.2 hl
    obtain ⟨cur, hcur, hmk⟩ := make39 l.length h56
    have hne : ((l.length : Int) == 0) = false := by simp; omega
    have hne' : ¬ (l.length : Int) = 0 := by omega
    have hx1 := Lib.hid hx1
    clear hx
    go_enter Try.func103, Try.ntmps103
    go_wp2
    clear hmk
    have hrow0 : Rowt (w.alloc (.cells cur 84)) w.heap.size 84 (l.length * 5) := ⟨cur, World.alloc_heap_new w _, hcur⟩
    have hbW : Below w.heap.size w (w.alloc (.cells cur 84)) := bel1 w _
    have hnf : NF w.heap.size (w.alloc (.cells cur 84)) := (nf_new w).alloc _ _
    have hsz : (w.alloc (.cells cur 84)).heap.size = w.heap.size + 1 := by simp
    generalize (w.alloc (.cells cur 84)) = W1 at *
    go_loopg [15, 6] l.length (fun c i s6 wr => ∃ j : Nat, c + j = l.length ∧ i = .int .i64 j ∧ Hid (Lq RP wr (w.heap.size + 1) (l.take j) w.heap.size 0) ∧ Hid (Rowt wr w.heap.size 84 (l.length * 5)) ∧ Below w.heap.size W1 wr ∧ Hid (NF w.heap.size wr))
    case atStart => exact ⟨0, rfl, rfl, trivial, hrow0, Below.refl _ _, hnf⟩
    case round =>
      obtain ⟨j, hgj, rfl, hls, hrow, hB, hNF⟩ := hrel
      have hBW : Below w.heap.size w wr := hbW.trans hB
      by_cases hj : j < l.length
      · obtain ⟨s1, hat, hv1⟩ := (hx1.out.on' hBW).at j hj
        have ih' := clone104 l[j] s1 wr hv1
        have htake : Hid (l.take (j + 1) = l.take j ++ [l[j]]) := by show _ = _; rw [List.take_succ_eq_append_getElem hj]
        have hlen : Hid ((l.take j).length = j) := by show _ = _; simp; omega
        unfold ClE Pr.agg at ih'
        generalize l[j] = x at *
        obtain ⟨a0, a1, a2, a3, a4⟩ := ats5 hat
        simp only [show RP.n = 5 from rfl] at a0 a1 a2 a3 a4
        clear hat
        obtain ⟨p1, n1, c1, rfl⟩ : ∃ p n c, s1 = .slice p n c := hdP hv1
        obtain ⟨z0, e0⟩ := hrow.out.cell (j * 5) (by omega)
        have hv1 := Lib.hid hv1
        go_wp2_with (go_at_call 104; refine ih'.mono ?_; rintro e w2 ⟨sl2, rfl, hin2, hb2, hnf2⟩; obtain ⟨p2, n2, c2, rfl⟩ : ∃ p n c, sl2 = .slice p n c := hdP hin2; have hnf2 : Hid _ := hnf2; have hin2 := Lib.hid hin2; have hr2 := hrow.out.on hb2; obtain ⟨z0, e0⟩ := hr2.cell (j * 5) (by omega); have f0 := hr2.frozen (j * 5); obtain ⟨z1, e1⟩ := hr2.cell (j * 5 + 1) (by omega); have f1 := hr2.frozen (j * 5 + 1); obtain ⟨z2, e2⟩ := hr2.cell (j * 5 + 2) (by omega); have f2 := hr2.frozen (j * 5 + 2); obtain ⟨z3, e3⟩ := hr2.cell (j * 5 + 3) (by omega); have f3 := hr2.frozen (j * 5 + 3); obtain ⟨z4, e4⟩ := hr2.cell (j * 5 + 4) (by omega); have f4 := hr2.frozen (j * 5 + 4); have hr2 : Hid _ := hr2)
        have hrl := hrow.out.lt
        have hr3 : Rowt w2 w.heap.size 84 (l.length * 5) := hr2
        have hls2 : Lq RP w2 (w.heap.size + 1) (l.take j) w.heap.size 0 := Lq.row len_RP (keep_below hb2) (fun i v _ hc => some_on hb2 hc) hls.out
        go_roundg (gk - 1)
        case rel =>
          refine ⟨j + 1, by omega, by go_num, ?_, ?_, ?_, ?_⟩
          · show Lq _ _ _ _ _ _
            rw [htake.out]
            exact rq_step len_RP hr3 (by show j * 5 + 5 ≤ _; omega) hlen.out hls2 (RP.low (by omega) hin2.out)
          · exact hr3.putL (i := j * 5) (l := RP.cs x (.slice p2 n2 c2))
          · exact (hB.trans (hb2.mono (by omega))).trans (putL_below (g := w.heap.size) (i := j * 5) (l := RP.cs x (.slice p2 n2 c2)) (Nat.le_refl _))
          · exact putL_nf (i := j * 5) (l := RP.cs x (.slice p2 n2 c2)) (hNF.out.call hb2 hnf2.out)
        case measure => omega
      · obtain rfl : j = l.length := by omega
        have hls' : Hid (Lq RP wr (w.heap.size + 1) l w.heap.size 0) := by
          have := hls.out; rwa [List.take_length] at this
        clear hls
        go_wp2
        go_ret
        exact ⟨_, rfl, .inr ⟨w.heap.size, Nat.le_refl _, rfl, hl0, h56, by unfold maxLen; omega, hrow.out, hls'.out⟩, hBW, hNF.out⟩

theorem clone89 (l : List Pr) (sl : Value) (w : World) (hl : Sq RP w 0 l sl) : Calls Try.prog 89 #[sl] w fun e w' => ClS RP 84 l w e w' := by
  have c97 := fun w hl => clone103 l sl w hl
  obtain ⟨p, c, rfl⟩ := hl.header
  have hl := Lib.hid hl
  unfold ClS at c97 ⊢
  go_enter Try.func89, Try.ntmps89
  go_wp2_with (go_at_call 103; refine (c97 _ hl.out).mono ?_; rintro e w2 ⟨sl2, rfl, hin2, hb2, hnf2⟩; have hnf2 : Hid _ := hnf2; have hin2 := Lib.hid hin2; have hb2 : Hid _ := hb2)
  go_ret
  exact ⟨_, rfl, hin2.out, hb2.out, hnf2.out⟩

set_option maxHeartbeats 2000000 in
theorem clone93 (x : Vx) (sx : Value) (w : World) (hx : RV.In w 0 x sx) : Calls Try.prog 93 #[x.agg sx] w fun e w' => ClE RV Vx.agg x w e w' := by
  obtain ⟨id, lb, ps⟩ := x
  obtain ⟨h1, h2, hp⟩ := hx
  simp only at h1 h2 hp
  have c61 := fun W hW => clone89 ps sx W (hp.on hW)
  obtain ⟨p, c, rfl⟩ := hp.header
  unfold ClE Vx.agg
  unfold ClS at c61
  go_enter Try.func93, Try.ntmps93
  go_wp2_with (go_at_call 89; refine (c61 _ (bel2 w _ _)).mono ?_; rintro e w2 ⟨sl2, rfl, hin2, hb2, hnf2⟩; replace hin2 := hin2.sq; obtain ⟨p2, m2, c2, rfl⟩ : ∃ p n c, sl2 = .slice p n c := (by obtain ⟨p, c, e⟩ := hin2.header; exact ⟨p, _, c, e⟩); have e0 := blk_b0 hb2; have e1 := blk_b1 hb2; obtain ⟨x0, x1, x2, f0⟩ := three_of e0; obtain ⟨y0, y1, y2, f1⟩ := three_of e1; have hnf2 : Hid _ := hnf2; have hin2 := Lib.hid hin2; have hb2 : Hid _ := hb2; clear e0 e1)
  have hbf : Below w.heap.size w (putL (putL w2 w.heap.size 2 [.slice p2 m2 c2]) (w.heap.size + 1) 0 [.int .i64 id, .string lb, .slice p2 m2 c2]) :=
    (bel_then (bel2 w _ _) hb2.out).trans ((putL_below (Nat.le_refl _)).trans (putL_below (by omega)))
  have hif : Sq RP (putL (putL w2 w.heap.size 2 [.slice p2 m2 c2]) (w.heap.size + 1) 0 [.int .i64 id, .string lb, .slice p2 m2 c2]) w.heap.size ps (.slice p2 m2 c2) :=
    Sq.keep (lo := w.heap.size + 1 + 1) (fun a v ha hc => putL_other (putL_other hc (.inl (by omega))) (.inl (by omega))) (by omega) (by have := hin2.out; rwa [World.size_alloc, World.size_alloc] at this)
  have hnf : NF w.heap.size (putL (putL w2 w.heap.size 2 [.slice p2 m2 c2]) (w.heap.size + 1) 0 [.int .i64 id, .string lb, .slice p2 m2 c2]) :=
    putL_nf (putL_nf ((((nf_new w).alloc _ _).alloc _ _).call hb2.out hnf2.out))
  unfold putL putL putL putL putL at hbf hif hnf
  simp [bodyPost, results, Try.results93, go_sem, y0, y1, y2]
  exact ⟨⟨h1, h2, hif⟩, hbf, hnf⟩

set_option maxHeartbeats 2000000 in
theorem clone66 (x : Lk) (sx : Value) (w : World) (hx : RL.In w 0 x sx) : Calls Try.prog 66 #[x.agg sx] w fun e w' => ClE RL Lk.agg x w e w' := by
  obtain ⟨id, lb, out, inn, ps⟩ := x
  obtain ⟨h1, h2, h3, h4, hp⟩ := hx
  simp only at h1 h2 h3 h4 hp
  have c61 := fun W hW => clone89 ps sx W (hp.on hW)
  obtain ⟨p, c, rfl⟩ := hp.header
  unfold ClE Lk.agg
  unfold ClS at c61
  go_enter Try.func66, Try.ntmps66
  go_wp2_with (go_at_call 89; refine (c61 _ (bel2 w _ _)).mono ?_; rintro e w2 ⟨sl2, rfl, hin2, hb2, hnf2⟩; replace hin2 := hin2.sq; obtain ⟨p2, m2, c2, rfl⟩ : ∃ p n c, sl2 = .slice p n c := (by obtain ⟨p, c, e⟩ := hin2.header; exact ⟨p, _, c, e⟩); have e0 := blk_b0 hb2; have e1 := blk_b1 hb2; obtain ⟨x0, x1, x2, x3, x4, f0⟩ := five_of e0; obtain ⟨y0, y1, y2, y3, y4, f1⟩ := five_of e1; have hnf2 : Hid _ := hnf2; have hin2 := Lib.hid hin2; have hb2 : Hid _ := hb2; clear e0 e1)
  have hbf : Below w.heap.size w (putL (putL w2 w.heap.size 4 [.slice p2 m2 c2]) (w.heap.size + 1) 0 [.int .i64 id, .string lb, .int .i64 out, .int .i64 inn, .slice p2 m2 c2]) :=
    (bel_then (bel2 w _ _) hb2.out).trans ((putL_below (Nat.le_refl _)).trans (putL_below (by omega)))
  have hif : Sq RP (putL (putL w2 w.heap.size 4 [.slice p2 m2 c2]) (w.heap.size + 1) 0 [.int .i64 id, .string lb, .int .i64 out, .int .i64 inn, .slice p2 m2 c2]) w.heap.size ps (.slice p2 m2 c2) :=
    Sq.keep (lo := w.heap.size + 1 + 1) (fun a v ha hc => putL_other (putL_other hc (.inl (by omega))) (.inl (by omega))) (by omega) (by have := hin2.out; rwa [World.size_alloc, World.size_alloc] at this)
  have hnf : NF w.heap.size (putL (putL w2 w.heap.size 4 [.slice p2 m2 c2]) (w.heap.size + 1) 0 [.int .i64 id, .string lb, .int .i64 out, .int .i64 inn, .slice p2 m2 c2]) :=
    putL_nf (putL_nf ((((nf_new w).alloc _ _).alloc _ _).call hb2.out hnf2.out))
  unfold putL putL putL putL putL putL putL at hbf hif hnf
  simp [bodyPost, results, Try.results66, go_sem, y0, y1, y2, y3, y4]
  exact ⟨⟨h1, h2, h3, h4, hif⟩, hbf, hnf⟩
end Go.Proofs.Yteknbploiombiaa
namespace Go.Proofs.Yteknbploiombiaa
open Go.RowKit
set_option linter.unusedVariables false      -- a walk need not use every condition

set_option maxHeartbeats 4000000 in
theorem clone92 (l : List Vx) (sl : Value) (w : World) (hl0 : Sq RV w 0 l sl) : Calls Try.prog 92 #[sl, .func (.func 93) #[] #[]] w fun e w' => ClS RV 40 l w e w' := by
  obtain ⟨p, cap, rfl, hc, hcm, h56, hx⟩ := hl0
  unfold maxLen at hcm
  by_cases hl : l = []
  · subst hl
    go_enter Try.func92, Try.ntmps92
    go_wp2
    go_ret
    exact ⟨_, rfl, .inl ⟨rfl, rfl⟩, Below.refl _ _, nf_new w⟩
  · obtain ⟨b, o, rfl, -, hx1⟩ := hx.resolve_left hl
    have hl0 : 0 < l.length := List.length_pos_iff.2 hl
    obtain ⟨cur, hcur, hmk⟩ := make22v l.length h56
    have hne : ((l.length : Int) == 0) = false := by simp; omega
    have hne' : ¬ (l.length : Int) = 0 := by omega
    have hx1 := Lib.hid hx1
    clear hx
    go_enter Try.func92, Try.ntmps92
    go_wp2
    clear hmk
    have hrow0 : Rowt (w.alloc (.cells cur 40)) w.heap.size 40 (l.length * 3) := ⟨cur, World.alloc_heap_new w _, hcur⟩
    have hbW : Below w.heap.size w (w.alloc (.cells cur 40)) := bel1 w _
    have hnf : NF w.heap.size (w.alloc (.cells cur 40)) := (nf_new w).alloc _ _
    have hsz : (w.alloc (.cells cur 40)).heap.size = w.heap.size + 1 := by simp
    generalize (w.alloc (.cells cur 40)) = W1 at *
    go_loopg [15, 6] l.length (fun c i s6 wr => ∃ j : Nat, c + j = l.length ∧ i = .int .i64 j ∧ Hid (Lq RV wr (w.heap.size + 1) (l.take j) w.heap.size 0) ∧ Hid (Rowt wr w.heap.size 40 (l.length * 3)) ∧ Below w.heap.size W1 wr ∧ Hid (NF w.heap.size wr))
    case atStart => exact ⟨0, rfl, rfl, trivial, hrow0, Below.refl _ _, hnf⟩
    case round =>
      obtain ⟨j, hgj, rfl, hls, hrow, hB, hNF⟩ := hrel
      have hBW : Below w.heap.size w wr := hbW.trans hB
      by_cases hj : j < l.length
      · obtain ⟨s1, hat, hv1⟩ := (hx1.out.on' hBW).at j hj
        have ih' := clone93 l[j] s1 wr hv1
        have htake : Hid (l.take (j + 1) = l.take j ++ [l[j]]) := by show _ = _; rw [List.take_succ_eq_append_getElem hj]
        have hlen : Hid ((l.take j).length = j) := by show _ = _; simp; omega
        unfold ClE Vx.agg at ih'
        generalize l[j] = x at *
        obtain ⟨a0, a1, a2⟩ := ats3 hat
        simp only [show RV.n = 3 from rfl] at a0 a1 a2
        clear hat
        obtain ⟨p1, n1, c1, rfl⟩ : ∃ p n c, s1 = .slice p n c := hdV hv1
        obtain ⟨z0, e0⟩ := hrow.out.cell (j * 3) (by omega)
        have hv1 := Lib.hid hv1
        go_wp2_with (go_at_call 93; refine ih'.mono ?_; rintro e w2 ⟨sl2, rfl, hin2, hb2, hnf2⟩; obtain ⟨p2, n2, c2, rfl⟩ : ∃ p n c, sl2 = .slice p n c := hdV hin2; have hnf2 : Hid _ := hnf2; have hin2 := Lib.hid hin2; have hr2 := hrow.out.on hb2; obtain ⟨z0, e0⟩ := hr2.cell (j * 3) (by omega); have f0 := hr2.frozen (j * 3); obtain ⟨z1, e1⟩ := hr2.cell (j * 3 + 1) (by omega); have f1 := hr2.frozen (j * 3 + 1); obtain ⟨z2, e2⟩ := hr2.cell (j * 3 + 2) (by omega); have f2 := hr2.frozen (j * 3 + 2); have hr2 : Hid _ := hr2)
        have hrl := hrow.out.lt
        have hr3 : Rowt w2 w.heap.size 40 (l.length * 3) := hr2
        have hls2 : Lq RV w2 (w.heap.size + 1) (l.take j) w.heap.size 0 := Lq.row len_RV (keep_below hb2) (fun i v _ hc => some_on hb2 hc) hls.out
        go_roundg (gk - 1)
        case rel =>
          refine ⟨j + 1, by omega, by go_num, ?_, ?_, ?_, ?_⟩
          · show Lq _ _ _ _ _ _
            rw [htake.out]
            exact rq_step len_RV hr3 (by show j * 3 + 3 ≤ _; omega) hlen.out hls2 (RV.low (by omega) hin2.out)
          · exact hr3.putL (i := j * 3) (l := RV.cs x (.slice p2 n2 c2))
          · exact (hB.trans (hb2.mono (by omega))).trans (putL_below (g := w.heap.size) (i := j * 3) (l := RV.cs x (.slice p2 n2 c2)) (Nat.le_refl _))
          · exact putL_nf (i := j * 3) (l := RV.cs x (.slice p2 n2 c2)) (hNF.out.call hb2 hnf2.out)
        case measure => omega
      · obtain rfl : j = l.length := by omega
        have hls' : Hid (Lq RV wr (w.heap.size + 1) l w.heap.size 0) := by
          have := hls.out; rwa [List.take_length] at this
        clear hls
        go_wp2
        go_ret
        exact ⟨_, rfl, .inr ⟨w.heap.size, Nat.le_refl _, rfl, hl0, h56, by unfold maxLen; omega, hrow.out, hls'.out⟩, hBW, hNF.out⟩

set_option maxHeartbeats 4000000 in
theorem clone94 (l : List Lk) (sl : Value) (w : World) (hl0 : Sq RL w 0 l sl) : Calls Try.prog 94 #[sl, .func (.func 66) #[] #[]] w fun e w' => ClS RL 46 l w e w' := by
  obtain ⟨p, cap, rfl, hc, hcm, h56, hx⟩ := hl0
  unfold maxLen at hcm
  by_cases hl : l = []
  · subst hl
    go_enter Try.func94, Try.ntmps94
    go_wp2
    go_ret
    exact ⟨_, rfl, .inl ⟨rfl, rfl⟩, Below.refl _ _, nf_new w⟩
  · obtain ⟨b, o, rfl, -, hx1⟩ := hx.resolve_left hl
    have hl0 : 0 < l.length := List.length_pos_iff.2 hl
    obtain ⟨cur, hcur, hmk⟩ := make23 l.length h56
    have hne : ((l.length : Int) == 0) = false := by simp; omega
    have hne' : ¬ (l.length : Int) = 0 := by omega
    have hx1 := Lib.hid hx1
    clear hx
    go_enter Try.func94, Try.ntmps94
    go_wp2
    clear hmk
    have hrow0 : Rowt (w.alloc (.cells cur 46)) w.heap.size 46 (l.length * 5) := ⟨cur, World.alloc_heap_new w _, hcur⟩
    have hbW : Below w.heap.size w (w.alloc (.cells cur 46)) := bel1 w _
    have hnf : NF w.heap.size (w.alloc (.cells cur 46)) := (nf_new w).alloc _ _
    have hsz : (w.alloc (.cells cur 46)).heap.size = w.heap.size + 1 := by simp
    generalize (w.alloc (.cells cur 46)) = W1 at *
    go_loopg [15, 6] l.length (fun c i s6 wr => ∃ j : Nat, c + j = l.length ∧ i = .int .i64 j ∧ Hid (Lq RL wr (w.heap.size + 1) (l.take j) w.heap.size 0) ∧ Hid (Rowt wr w.heap.size 46 (l.length * 5)) ∧ Below w.heap.size W1 wr ∧ Hid (NF w.heap.size wr))
    case atStart => exact ⟨0, rfl, rfl, trivial, hrow0, Below.refl _ _, hnf⟩
    case round =>
      obtain ⟨j, hgj, rfl, hls, hrow, hB, hNF⟩ := hrel
      have hBW : Below w.heap.size w wr := hbW.trans hB
      by_cases hj : j < l.length
      · obtain ⟨s1, hat, hv1⟩ := (hx1.out.on' hBW).at j hj
        have ih' := clone66 l[j] s1 wr hv1
        have htake : Hid (l.take (j + 1) = l.take j ++ [l[j]]) := by show _ = _; rw [List.take_succ_eq_append_getElem hj]
        have hlen : Hid ((l.take j).length = j) := by show _ = _; simp; omega
        unfold ClE Lk.agg at ih'
        generalize l[j] = x at *
        obtain ⟨a0, a1, a2, a3, a4⟩ := ats5 hat
        simp only [show RL.n = 5 from rfl] at a0 a1 a2 a3 a4
        clear hat
        obtain ⟨p1, n1, c1, rfl⟩ : ∃ p n c, s1 = .slice p n c := hdL hv1
        obtain ⟨z0, e0⟩ := hrow.out.cell (j * 5) (by omega)
        have hv1 := Lib.hid hv1
        go_wp2_with (go_at_call 66; refine ih'.mono ?_; rintro e w2 ⟨sl2, rfl, hin2, hb2, hnf2⟩; obtain ⟨p2, n2, c2, rfl⟩ : ∃ p n c, sl2 = .slice p n c := hdL hin2; have hnf2 : Hid _ := hnf2; have hin2 := Lib.hid hin2; have hr2 := hrow.out.on hb2; obtain ⟨z0, e0⟩ := hr2.cell (j * 5) (by omega); have f0 := hr2.frozen (j * 5); obtain ⟨z1, e1⟩ := hr2.cell (j * 5 + 1) (by omega); have f1 := hr2.frozen (j * 5 + 1); obtain ⟨z2, e2⟩ := hr2.cell (j * 5 + 2) (by omega); have f2 := hr2.frozen (j * 5 + 2); obtain ⟨z3, e3⟩ := hr2.cell (j * 5 + 3) (by omega); have f3 := hr2.frozen (j * 5 + 3); obtain ⟨z4, e4⟩ := hr2.cell (j * 5 + 4) (by omega); have f4 := hr2.frozen (j * 5 + 4); have hr2 : Hid _ := hr2)
        have hrl := hrow.out.lt
        have hr3 : Rowt w2 w.heap.size 46 (l.length * 5) := hr2
        have hls2 : Lq RL w2 (w.heap.size + 1) (l.take j) w.heap.size 0 := Lq.row len_RL (keep_below hb2) (fun i v _ hc => some_on hb2 hc) hls.out
        go_roundg (gk - 1)
        case rel =>
          refine ⟨j + 1, by omega, by go_num, ?_, ?_, ?_, ?_⟩
          · show Lq _ _ _ _ _ _
            rw [htake.out]
            exact rq_step len_RL hr3 (by show j * 5 + 5 ≤ _; omega) hlen.out hls2 (RL.low (by omega) hin2.out)
          · exact hr3.putL (i := j * 5) (l := RL.cs x (.slice p2 n2 c2))
          · exact (hB.trans (hb2.mono (by omega))).trans (putL_below (g := w.heap.size) (i := j * 5) (l := RL.cs x (.slice p2 n2 c2)) (Nat.le_refl _))
          · exact putL_nf (i := j * 5) (l := RL.cs x (.slice p2 n2 c2)) (hNF.out.call hb2 hnf2.out)
        case measure => omega
      · obtain rfl : j = l.length := by omega
        have hls' : Hid (Lq RL wr (w.heap.size + 1) l w.heap.size 0) := by
          have := hls.out; rwa [List.take_length] at this
        clear hls
        go_wp2
        go_ret
        exact ⟨_, rfl, .inr ⟨w.heap.size, Nat.le_refl _, rfl, hl0, h56, by unfold maxLen; omega, hrow.out, hls'.out⟩, hBW, hNF.out⟩
end Go.Proofs.Yteknbploiombiaa
