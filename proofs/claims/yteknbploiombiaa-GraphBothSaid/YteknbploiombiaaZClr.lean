/-
  What package graph's clones of rows of vertices and of edges do.
-/
import Derived.Test.YteknbploiombiaaZCln
namespace Go.Proofs.Yteknbploiombiaa
open Go.RowKit
set_option linter.unusedVariables false      -- a walk need not use every condition

set_option maxHeartbeats 4000000 in
theorem clone92 (l : List Vx) (sl : Value) (w : World) (hl0 : Sq RV w 0 l sl) : Calls Try.prog 92 #[sl, .func (.func 93) #[] #[]] w fun e w' => ClS RV 40 l w e w' := by
  obtain ⟨p, cap, rfl, hc, hcm, h56, hx⟩ := hl0
  unfold maxLen at hcm
  by_cases hl : l = []
  · subst hl
    go_enter Try.func92, Try.ntmps92
    go_wp2
    go_ret
    exact ⟨_, rfl, .inl ⟨rfl, rfl⟩, Below.refl _ _, nf_new w⟩
  · obtain ⟨b, o, rfl, -, hx1⟩ := hx.resolve_left hl
    have hl0 : 0 < l.length := List.length_pos_iff.2 hl
    obtain ⟨cur, hcur, hmk⟩ := make22v l.length h56
    have hne : ((l.length : Int) == 0) = false := by simp; omega
    have hne' : ¬ (l.length : Int) = 0 := by omega
    have hx1 := Lib.hid hx1
    clear hx
    go_enter Try.func92, Try.ntmps92
    go_wp2
    clear hmk
    have hrow0 : Rowt (w.alloc (.cells cur 40)) w.heap.size 40 (l.length * 3) := ⟨cur, World.alloc_heap_new w _, hcur⟩
    have hbW : Below w.heap.size w (w.alloc (.cells cur 40)) := bel1 w _
    have hnf : NF w.heap.size (w.alloc (.cells cur 40)) := (nf_new w).alloc _ _
    have hsz : (w.alloc (.cells cur 40)).heap.size = w.heap.size + 1 := by simp
    generalize (w.alloc (.cells cur 40)) = W1 at *
    go_loopg [15, 6] l.length (fun c i s6 wr => ∃ j : Nat, c + j = l.length ∧ i = .int .i64 j ∧ Hid (Lq RV wr (w.heap.size + 1) (l.take j) w.heap.size 0) ∧ Hid (Rowt wr w.heap.size 40 (l.length * 3)) ∧ Below w.heap.size W1 wr ∧ Hid (NF w.heap.size wr))
    case atStart => exact ⟨0, rfl, rfl, trivial, hrow0, Below.refl _ _, hnf⟩
    case round =>
      obtain ⟨j, hgj, rfl, hls, hrow, hB, hNF⟩ := hrel
      have hBW : Below w.heap.size w wr := hbW.trans hB
      by_cases hj : j < l.length
      · obtain ⟨s1, hat, hv1⟩ := (hx1.out.on' hBW).at j hj
        have ih' := clone93 l[j] s1 wr hv1
        have htake : Hid (l.take (j + 1) = l.take j ++ [l[j]]) := by show _ = _; rw [List.take_succ_eq_append_getElem hj]
        have hlen : Hid ((l.take j).length = j) := by show _ = _; simp; omega
        unfold ClE Vx.agg at ih'
        generalize l[j] = x at *
        obtain ⟨a0, a1, a2⟩ := ats3 hat
        simp only [show RV.n = 3 from rfl] at a0 a1 a2
        clear hat
        obtain ⟨p1, n1, c1, rfl⟩ : ∃ p n c, s1 = .slice p n c := hdV hv1
        obtain ⟨z0, e0⟩ := hrow.out.cell (j * 3) (by omega)
        have hv1 := Lib.hid hv1
        go_wp2_with (go_at_call 93; refine ih'.mono ?_; rintro e w2 ⟨sl2, rfl, hin2, hb2, hnf2⟩; obtain ⟨p2, n2, c2, rfl⟩ : ∃ p n c, sl2 = .slice p n c := hdV hin2; have hnf2 : Hid _ := hnf2; have hin2 := Lib.hid hin2; have hr2 := hrow.out.on hb2; obtain ⟨z0, e0⟩ := hr2.cell (j * 3) (by omega); have f0 := hr2.frozen (j * 3); obtain ⟨z1, e1⟩ := hr2.cell (j * 3 + 1) (by omega); have f1 := hr2.frozen (j * 3 + 1); obtain ⟨z2, e2⟩ := hr2.cell (j * 3 + 2) (by omega); have f2 := hr2.frozen (j * 3 + 2); have hr2 : Hid _ := hr2)
        have hrl := hrow.out.lt
        have hr3 : Rowt w2 w.heap.size 40 (l.length * 3) := hr2
        have hls2 : Lq RV w2 (w.heap.size + 1) (l.take j) w.heap.size 0 := Lq.row len_RV (keep_below hb2) (fun i v _ hc => some_on hb2 hc) hls.out
        go_roundg (gk - 1)
        case rel =>
          refine ⟨j + 1, by omega, by go_num, ?_, ?_, ?_, ?_⟩
          · show Lq _ _ _ _ _ _
            rw [htake.out]
            exact rq_step len_RV hr3 (by show j * 3 + 3 ≤ _; omega) hlen.out hls2 (RV.low (by omega) hin2.out)
          · exact hr3.putL (i := j * 3) (l := RV.cs x (.slice p2 n2 c2))
          · exact (hB.trans (hb2.mono (by omega))).trans (putL_below (g := w.heap.size) (i := j * 3) (l := RV.cs x (.slice p2 n2 c2)) (Nat.le_refl _))
          · exact putL_nf (i := j * 3) (l := RV.cs x (.slice p2 n2 c2)) (hNF.out.call hb2 hnf2.out)
        case measure => omega
      · obtain rfl : j = l.length := by omega
        have hls' : Hid (Lq RV wr (w.heap.size + 1) l w.heap.size 0) := by
          have := hls.out; rwa [List.take_length] at this
        clear hls
        go_wp2
        go_ret
        exact ⟨_, rfl, .inr ⟨w.heap.size, Nat.le_refl _, rfl, hl0, h56, by unfold maxLen; omega, hrow.out, hls'.out⟩, hBW, hNF.out⟩

set_option maxHeartbeats 4000000 in
theorem clone94 (l : List Lk) (sl : Value) (w : World) (hl0 : Sq RL w 0 l sl) : Calls Try.prog 94 #[sl, .func (.func 66) #[] #[]] w fun e w' => ClS RL 46 l w e w' := by
  obtain ⟨p, cap, rfl, hc, hcm, h56, hx⟩ := hl0
  unfold maxLen at hcm
  by_cases hl : l = []
  · subst hl
    go_enter Try.func94, Try.ntmps94
    go_wp2
    go_ret
    exact ⟨_, rfl, .inl ⟨rfl, rfl⟩, Below.refl _ _, nf_new w⟩
  · obtain ⟨b, o, rfl, -, hx1⟩ := hx.resolve_left hl
    have hl0 : 0 < l.length := List.length_pos_iff.2 hl
    obtain ⟨cur, hcur, hmk⟩ := make23 l.length h56
    have hne : ((l.length : Int) == 0) = false := by simp; omega
    have hne' : ¬ (l.length : Int) = 0 := by omega
    have hx1 := Lib.hid hx1
    clear hx
    go_enter Try.func94, Try.ntmps94
    go_wp2
    clear hmk
    have hrow0 : Rowt (w.alloc (.cells cur 46)) w.heap.size 46 (l.length * 5) := ⟨cur, World.alloc_heap_new w _, hcur⟩
    have hbW : Below w.heap.size w (w.alloc (.cells cur 46)) := bel1 w _
    have hnf : NF w.heap.size (w.alloc (.cells cur 46)) := (nf_new w).alloc _ _
    have hsz : (w.alloc (.cells cur 46)).heap.size = w.heap.size + 1 := by simp
    generalize (w.alloc (.cells cur 46)) = W1 at *
    go_loopg [15, 6] l.length (fun c i s6 wr => ∃ j : Nat, c + j = l.length ∧ i = .int .i64 j ∧ Hid (Lq RL wr (w.heap.size + 1) (l.take j) w.heap.size 0) ∧ Hid (Rowt wr w.heap.size 46 (l.length * 5)) ∧ Below w.heap.size W1 wr ∧ Hid (NF w.heap.size wr))
    case atStart => exact ⟨0, rfl, rfl, trivial, hrow0, Below.refl _ _, hnf⟩
    case round =>
      obtain ⟨j, hgj, rfl, hls, hrow, hB, hNF⟩ := hrel
      have hBW : Below w.heap.size w wr := hbW.trans hB
      by_cases hj : j < l.length
      · obtain ⟨s1, hat, hv1⟩ := (hx1.out.on' hBW).at j hj
        have ih' := clone66 l[j] s1 wr hv1
        have htake : Hid (l.take (j + 1) = l.take j ++ [l[j]]) := by show _ = _; rw [List.take_succ_eq_append_getElem hj]
        have hlen : Hid ((l.take j).length = j) := by show _ = _; simp; omega
        unfold ClE Lk.agg at ih'
        generalize l[j] = x at *
        obtain ⟨a0, a1, a2, a3, a4⟩ := ats5 hat
        simp only [show RL.n = 5 from rfl] at a0 a1 a2 a3 a4
        clear hat
        obtain ⟨p1, n1, c1, rfl⟩ : ∃ p n c, s1 = .slice p n c := hdL hv1
        obtain ⟨z0, e0⟩ := hrow.out.cell (j * 5) (by omega)
        have hv1 := Lib.hid hv1
        go_wp2_with (go_at_call 66; refine ih'.mono ?_; rintro e w2 ⟨sl2, rfl, hin2, hb2, hnf2⟩; obtain ⟨p2, n2, c2, rfl⟩ : ∃ p n c, sl2 = .slice p n c := hdL hin2; have hnf2 : Hid _ := hnf2; have hin2 := Lib.hid hin2; have hr2 := hrow.out.on hb2; obtain ⟨z0, e0⟩ := hr2.cell (j * 5) (by omega); have f0 := hr2.frozen (j * 5); obtain ⟨z1, e1⟩ := hr2.cell (j * 5 + 1) (by omega); have f1 := hr2.frozen (j * 5 + 1); obtain ⟨z2, e2⟩ := hr2.cell (j * 5 + 2) (by omega); have f2 := hr2.frozen (j * 5 + 2); obtain ⟨z3, e3⟩ := hr2.cell (j * 5 + 3) (by omega); have f3 := hr2.frozen (j * 5 + 3); obtain ⟨z4, e4⟩ := hr2.cell (j * 5 + 4) (by omega); have f4 := hr2.frozen (j * 5 + 4); have hr2 : Hid _ := hr2)
        have hrl := hrow.out.lt
        have hr3 : Rowt w2 w.heap.size 46 (l.length * 5) := hr2
        have hls2 : Lq RL w2 (w.heap.size + 1) (l.take j) w.heap.size 0 := Lq.row len_RL (keep_below hb2) (fun i v _ hc => some_on hb2 hc) hls.out
        go_roundg (gk - 1)
        case rel =>
          refine ⟨j + 1, by omega, by go_num, ?_, ?_, ?_, ?_⟩
          · show Lq _ _ _ _ _ _
            rw [htake.out]
            exact rq_step len_RL hr3 (by show j * 5 + 5 ≤ _; omega) hlen.out hls2 (RL.low (by omega) hin2.out)
          · exact hr3.putL (i := j * 5) (l := RL.cs x (.slice p2 n2 c2))
          · exact (hB.trans (hb2.mono (by omega))).trans (putL_below (g := w.heap.size) (i := j * 5) (l := RL.cs x (.slice p2 n2 c2)) (Nat.le_refl _))
          · exact putL_nf (i := j * 5) (l := RL.cs x (.slice p2 n2 c2)) (hNF.out.call hb2 hnf2.out)
        case measure => omega
      · obtain rfl : j = l.length := by omega
        have hls' : Hid (Lq RL wr (w.heap.size + 1) l w.heap.size 0) := by
          have := hls.out; rwa [List.take_length] at this
        clear hls
        go_wp2
        go_ret
        exact ⟨_, rfl, .inr ⟨w.heap.size, Nat.le_refl _, rfl, hl0, h56, by unfold maxLen; omega, hrow.out, hls'.out⟩, hBW, hNF.out⟩
end Go.Proofs.Yteknbploiombiaa
