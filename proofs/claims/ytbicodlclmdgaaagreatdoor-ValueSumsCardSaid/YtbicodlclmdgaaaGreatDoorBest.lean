/-
  What Min and Max of package value, and the document's, do.
-/
import Derived.Test.YtbicodlclmdgaaaGreatDoorOrder
namespace Go.Proofs.YtbicodlclmdgaaaGreatDoor
open Go.RowKit

/-- The better one of two. -/
def bett (sgn : Int) (m v : V) : V := if v.cmp m = sgn then v else m
/-- The first value to which none of the first j others stands so. -/
def bst (sgn : Int) (x : V) (r : List V) (j : Nat) : V := (r.take j).foldl (bett sgn) x
def bestR (l : List V) (sgn : Int) : V × Int := match l with
  | [] => (.mk 0 0 ⟨#[]⟩ [], 4)
  | x :: r => (r.foldl (bett sgn) x, 0)
theorem bst_step (sgn : Int) (x : V) (r : List V) (j : Nat) (h : j < r.length) : bst sgn x r (j + 1) = bett sgn (bst sgn x r j) r[j] := by
  unfold bst
  rw [List.take_succ_eq_append_getElem h, List.foldl_append]; rfl
theorem bst_all (sgn : Int) (x : V) (r : List V) : bst sgn x r r.length = r.foldl (bett sgn) x := by unfold bst; rw [List.take_length]
/-- What is handed back, in memory of its own. -/
def Found (R : V × Int) (w : World) (e : Ending) (w' : World) : Prop := ∃ sl, e = .returned (.tuple #[R.1.agg sl, .int .i64 R.2]) ∧ R.1.In w' w.heap.size sl ∧ Below w.heap.size w w'
/-- What is handed back, in the memory that was handed in. -/
def FoundR (wI : World) (R : V × Int) (w : World) (e : Ending) (w' : World) : Prop := ∃ sl, e = .returned (.tuple #[R.1.agg sl, .int .i64 R.2]) ∧ R.1.In wI 0 sl ∧ Below w.heap.size w w'

set_option maxRecDepth 20000 in
set_option maxHeartbeats 4000000 in
theorem fore55 (l : List V) (sgn : Int) (sl : Value) (w : World) (hS : Sl w 0 l sl) : Calls Tryz.prog 55 #[sl, .int .i64 sgn] w fun e w' => Found (bestR l sgn) w e w' := by
  obtain ⟨p, cap, rfl, hc, hcm, h56, hx⟩ := hS
  unfold maxLen at hcm
  unfold Found
  match l with
  | [] =>
    simp only [bestR]
    unfold V.agg
    go_enter Tryz.func55, Tryz.ntmps55
    go_wp2
    simp [bodyPost, results, Tryz.results55, go_sem, V.k, V.n, V.s]
    exact ⟨zero_in _ _, bel1 w _⟩
  | x :: r =>
    simp only [bestR]
    rw [← bst_all]
    obtain ⟨bx, ox, rfl, -, hx1⟩ := hx.resolve_left (by simp)
    obtain ⟨s0, a0, a1, a2, a3, ha⟩ := hx1.at 0 (by simp)
    simp only [List.getElem_cons_zero, Nat.zero_mul, Nat.add_zero] at a0 a1 a2 a3 ha
    obtain ⟨p0, n0, q0, rfl⟩ := ha.header
    have hrl : (x :: r).length = r.length + 1 := rfl
    rw [hrl] at h56 hc ⊢
    have hbx : bx < w.heap.size := cell_lt a0
    obtain ⟨W, hW⟩ : ∃ W, W = (w.alloc (.cells #[.int .i64 0, .int .i64 0, .string ⟨#[]⟩, .slice none 0 0] 24)).alloc (.cells #[.int .i64 x.k, .int .i64 x.n, .string x.s, .slice p0 n0 q0] 24) := ⟨_, rfl⟩
    have hA0 : W.heap[w.heap.size]? = some (.cells #[.int .i64 0, .int .i64 0, .string ⟨#[]⟩, .slice none 0 0] 24) := by rw [hW]; exact blk_old (blk_new w _)
    have hB0 : W.heap[w.heap.size + 1]? = some (.cells #[.int .i64 x.k, .int .i64 x.n, .string x.s, .slice p0 n0 q0] 24) := by
      have := blk_new (w.alloc (.cells #[.int .i64 0, .int .i64 0, .string ⟨#[]⟩, .slice none 0 0] 24)) (.cells #[.int .i64 x.k, .int .i64 x.n, .string x.s, .slice p0 n0 q0] 24)
      rw [World.size_alloc] at this
      rw [hW]; exact this
    have hbW : Below w.heap.size w W := by rw [hW]; exact bel2 w _ _
    have hszW : W.heap.size = w.heap.size + 1 + 1 := by rw [hW]; simp
    have k1 : ¬ ((r.length : Int) + 1 = 0) := by omega
    have k2 : (0 : Int) < (r.length : Int) + 1 := by omega
    have k3 : (1 : Int) ≤ (r.length : Int) + 1 := by omega
    unfold V.agg
    have hrel0 : bst sgn x r 0 = x := rfl
    by_cases hr : r = []
    · subst hr
      simp only [List.length_nil] at *
      rw [hrel0]
      have c31 := fun w h => clone_any x (.slice p0 n0 q0) w h
      unfold Cl V.agg at c31
      have hxW := ha.on hbW
      obtain ⟨y0, y1, y2, y3, yf⟩ := four_of hA0
      obtain ⟨z0, z1, z2, z3, zf⟩ := four_of hB0
      go_enter Tryz.func55, Tryz.ntmps55
      go_wp2
      all_goals
        rw [← hW]
        go_loopg [19] 0 (fun c i wr => c = 0 ∧ i = .int .i64 0 ∧ wr = W)
        case atStart => exact ⟨rfl, rfl, rfl⟩
        case round =>
          obtain ⟨-, rfl, rfl⟩ := hrel
          clear hW
          rename World => wr
          have hbr := hbW
          go_wp2_with (go_at_call 31; refine (c31 _ hxW).mono ?_; rintro e w5 ⟨s5, rfl, hin5, hb5, -⟩; obtain ⟨p5, n5, q5, rfl⟩ := hin5.header; obtain ⟨y0, y1, y2, y3, yf⟩ := four_of (blk_on hb5 hA0))
          have hs5 := hb5.size
          have hfin : Below w.heap.size w (put4 w5 w.heap.size 0 (.int .i64 x.k) (.int .i64 x.n) (.string x.s) (.slice p5 n5 q5)) := (hbr.trans (hb5.mono hbr.size)).trans (below_put4 (Nat.le_refl _) _ _ _ _)
          have hin9 : x.In (put4 w5 w.heap.size 0 (.int .i64 x.k) (.int .i64 x.n) (.string x.s) (.slice p5 n5 q5)) w.heap.size (.slice p5 n5 q5) :=
            V.In.keep (lo := wr.heap.size) (fun a v ha hc => set_other (set_other (set_other (set_other hc (.inl (by omega))) (.inl (by omega))) (.inl (by omega))) (.inl (by omega))) (by omega) x _ hin5
          unfold put4 at hfin hin9
          simp [bodyPost, results, Tryz.results55, go_sem, y0, y1, y2, y3]
          exact ⟨hin9, hfin⟩
    · have hr0 : 0 < r.length := List.length_pos_iff.2 hr
      have hcap : ¬ cap = 1 := by omega
      go_enter Tryz.func55, Tryz.ntmps55
      go_wp2
      rw [← hW]
      clear hW
      go_loopg [19] r.length (fun c i wr => ∃ (j : Nat) (m : V) (sm : Value), c + j = r.length ∧ i = .int .i64 j ∧ Hid (m = bst sgn x r j) ∧ m.In w 0 sm ∧ Hid (wr.heap[w.heap.size + 1]? = some (.cells #[.int .i64 m.k, .int .i64 m.n, .string m.s, sm] 24)) ∧ Hid (wr.heap[w.heap.size]? = some (.cells #[.int .i64 0, .int .i64 0, .string ⟨#[]⟩, .slice none 0 0] 24)) ∧ Hid (Below w.heap.size w wr) ∧ w.heap.size + 1 + 1 ≤ wr.heap.size)
      case atStart => exact ⟨0, x, .slice p0 n0 q0, rfl, rfl, rfl, ha, hB0, hA0, hbW, by omega⟩
      case round =>
        obtain ⟨j, m, sm, hj, rfl, hm, him, hBm, hA, hB, hsz⟩ := hrel
        obtain ⟨pm, nm, qm, rfl⟩ := him.header
        have hbr := hB.out
        obtain ⟨z0, z1, z2, z3, zf⟩ := four_of hBm.out
        have hl1 : w.heap.size + 1 < wr.heap.size := by omega
        by_cases hlt : j < r.length
        · obtain ⟨sv, b0, b1, b2, b3, hv⟩ := hx1.at (j + 1) (by simp; omega)
          simp only [List.getElem_cons_succ] at b0 b1 b2 b3 hv
          have hoff : ox + (j + 1) * 4 = ox + 4 + j * 4 := by omega
          rw [hoff] at b0 b1 b2 b3
          have hst : Hid (bst sgn x r (j + 1) = bett sgn m r[j]) := by show _ = _; rw [bst_step sgn x r j hlt, ← hm.out]
          obtain ⟨pv, nv, qv, rfl⟩ := hv.header
          have e0 := some_on hbr b0
          have e1 := some_on hbr b1
          have e2 := some_on hbr b2
          have e3 := some_on hbr b3
          have i2 : (j : Int) < (r.length : Int) := by omega
          have hj1 : Hid (j < r.length) := hlt
          generalize r[j] = v at *
          have c28 := fun w hx hy => cmp_any v m (.slice pv nv qv) (.slice pm nm qm) w hx hy
          unfold V.agg at c28
          obtain ⟨cc, hcc⟩ : ∃ cc, V.cmp v m = cc := ⟨_, rfl⟩
          unfold bett at hst
          rw [hcc] at c28 hst
          clear hcc hx hx1
          have hv1 := (hv.on hbr).on (bel1 wr (.cells #[.int .i64 v.k, .int .i64 v.n, .string v.s, .slice pv nv qv] 24))
          have hm1 := (him.on hbr).on (bel1 wr (.cells #[.int .i64 v.k, .int .i64 v.n, .string v.s, .slice pv nv qv] 24))
          have hV1 := blk_new wr (.cells #[.int .i64 v.k, .int .i64 v.n, .string v.s, .slice pv nv qv] 24)
          have hM1 := blk_old (o' := .cells #[.int .i64 v.k, .int .i64 v.n, .string v.s, .slice pv nv qv] 24) hBm.out
          have hA1 := blk_old (o' := .cells #[.int .i64 v.k, .int .i64 v.n, .string v.s, .slice pv nv qv] 24) hA.out
          have hb1 := bel_then hbr (bel1 wr (.cells #[.int .i64 v.k, .int .i64 v.n, .string v.s, .slice pv nv qv] 24))
          by_cases hs : cc = sgn
          · subst hs
            rw [if_pos rfl] at hst
            go_wp2_with (go_at_call 28; refine (c28 _ hv1 hm1).mono ?_; rintro e w5 ⟨rfl, hb5⟩; obtain ⟨f0, f1, f2, f3, ff⟩ := four_of (blk_on hb5 hV1); obtain ⟨g0, g1, g2, g3, gf⟩ := four_of (blk_on hb5 hM1))
            have hs5 := hb5.size
            rw [World.size_alloc] at hs5
            have hM5 := blk_put4 (blk_on hb5 hM1) (.int .i64 v.k) (.int .i64 v.n) (.string v.s) (.slice pv nv qv)
            have hA5 := ((gr_put4 w5 (w.heap.size + 1) 0 (.int .i64 v.k) (.int .i64 v.n) (.string v.s) (.slice pv nv qv)).block w.heap.size (by omega) (by intro e; injection e with e; omega)).trans (blk_on hb5 hA1)
            have hb6 : Below w.heap.size w (put4 w5 (w.heap.size + 1) 0 (.int .i64 v.k) (.int .i64 v.n) (.string v.s) (.slice pv nv qv)) := (bel_then hb1 hb5).trans (below_put4 (by omega) _ _ _ _)
            have hs6 := (gr_put4 w5 (w.heap.size + 1) 0 (.int .i64 v.k) (.int .i64 v.n) (.string v.s) (.slice pv nv qv)).size
            unfold put4 at hM5 hA5 hb6 hs6
            go_roundg (gk - 1)
            case rel => exact ⟨j + 1, v, .slice pv nv qv, by omega, by go_num, hst.out.symm, hv, hM5, hA5, hb6, Nat.le_trans (m := w5.heap.size) (by omega) hs6⟩
            case measure => omega
          · rw [if_neg hs] at hst
            go_wp2_with (go_at_call 28; refine (c28 _ hv1 hm1).mono ?_; rintro e w5 ⟨rfl, hb5⟩; obtain ⟨f0, f1, f2, f3, ff⟩ := four_of (blk_on hb5 hV1); obtain ⟨g0, g1, g2, g3, gf⟩ := four_of (blk_on hb5 hM1))
            have hs5 := hb5.size
            rw [World.size_alloc] at hs5
            go_roundg (gk - 1)
            case rel => exact ⟨j + 1, m, .slice pm nm qm, by omega, by go_num, hst.out.symm, him, blk_on hb5 hM1, blk_on hb5 hA1, bel_then hb1 hb5, by omega⟩
            case measure => omega
        · obtain rfl : j = r.length := by omega
          have i2 : ¬ (r.length : Int) < (r.length : Int) := by omega
          obtain rfl : m = bst sgn x r r.length := hm.out
          generalize hbm : bst sgn x r r.length = m at *
          have c31 := fun w h => clone_any m (.slice pm nm qm) w h
          unfold Cl V.agg at c31
          have hmr := him.on hbr
          clear hx hx1
          go_wp2_with (go_at_call 31; refine (c31 _ hmr).mono ?_; rintro e w5 ⟨s5, rfl, hin5, hb5, -⟩; obtain ⟨p5, n5, q5, rfl⟩ := hin5.header; obtain ⟨y0, y1, y2, y3, yf⟩ := four_of (blk_on hb5 hA.out))
          have hs5 := hb5.size
          have hfin : Below w.heap.size w (put4 w5 w.heap.size 0 (.int .i64 m.k) (.int .i64 m.n) (.string m.s) (.slice p5 n5 q5)) := (hbr.trans (hb5.mono hbr.size)).trans (below_put4 (Nat.le_refl _) _ _ _ _)
          have hin9 : m.In (put4 w5 w.heap.size 0 (.int .i64 m.k) (.int .i64 m.n) (.string m.s) (.slice p5 n5 q5)) w.heap.size (.slice p5 n5 q5) :=
            V.In.keep (lo := wr.heap.size) (fun a v ha hc => set_other (set_other (set_other (set_other hc (.inl (by omega))) (.inl (by omega))) (.inl (by omega))) (.inl (by omega))) (by omega) m _ hin5
          unfold put4 at hfin hin9
          simp [bodyPost, results, Tryz.results55, go_sem, y0, y1, y2, y3]
          subst hbm
          refine ⟨.slice p5 n5 q5, ?_, hin9, hfin⟩
          simp

set_option maxRecDepth 20000 in
set_option maxHeartbeats 4000000 in
theorem best56 (l : List V) (sgn : Int) (sl : Value) (wI w : World) (hS : Sl wI 0 l sl) (hbI : Below wI.heap.size wI w) : Calls Tryz.prog 56 #[sl, .int .i64 sgn] w fun e w' => FoundR wI (bestR l sgn) w e w' := by
  obtain ⟨p, cap, rfl, hc, hcm, h56, hx⟩ := hS
  unfold maxLen at hcm
  unfold FoundR
  match l with
  | [] =>
    simp only [bestR]
    unfold V.agg
    go_enter Tryz.func56, Tryz.ntmps56
    go_wp2
    simp [bodyPost, results, Tryz.results56, go_sem, V.k, V.n, V.s]
    exact ⟨zero_in _ _, bel1 w _⟩
  | x :: r =>
    simp only [bestR]
    rw [← bst_all]
    obtain ⟨bx, ox, rfl, -, hx1⟩ := hx.resolve_left (by simp)
    obtain ⟨s0, a0, a1, a2, a3, ha⟩ := hx1.at 0 (by simp)
    simp only [List.getElem_cons_zero, Nat.zero_mul, Nat.add_zero] at a0 a1 a2 a3 ha
    obtain ⟨p0, n0, q0, rfl⟩ := ha.header
    have a0 := some_on hbI a0
    have a1 := some_on hbI a1
    have a2 := some_on hbI a2
    have a3 := some_on hbI a3
    have hrl : (x :: r).length = r.length + 1 := rfl
    rw [hrl] at h56 hc ⊢
    have hbx : bx < w.heap.size := cell_lt a0
    obtain ⟨W, hW⟩ : ∃ W, W = (w.alloc (.cells #[.int .i64 0, .int .i64 0, .string ⟨#[]⟩, .slice none 0 0] 24)).alloc (.cells #[.int .i64 x.k, .int .i64 x.n, .string x.s, .slice p0 n0 q0] 24) := ⟨_, rfl⟩
    have hA0 : W.heap[w.heap.size]? = some (.cells #[.int .i64 0, .int .i64 0, .string ⟨#[]⟩, .slice none 0 0] 24) := by rw [hW]; exact blk_old (blk_new w _)
    have hB0 : W.heap[w.heap.size + 1]? = some (.cells #[.int .i64 x.k, .int .i64 x.n, .string x.s, .slice p0 n0 q0] 24) := by
      have := blk_new (w.alloc (.cells #[.int .i64 0, .int .i64 0, .string ⟨#[]⟩, .slice none 0 0] 24)) (.cells #[.int .i64 x.k, .int .i64 x.n, .string x.s, .slice p0 n0 q0] 24)
      rw [World.size_alloc] at this
      rw [hW]; exact this
    have hbW : Below w.heap.size w W := by rw [hW]; exact bel2 w _ _
    have hszW : W.heap.size = w.heap.size + 1 + 1 := by rw [hW]; simp
    have k1 : ¬ ((r.length : Int) + 1 = 0) := by omega
    have k2 : (0 : Int) < (r.length : Int) + 1 := by omega
    have k3 : (1 : Int) ≤ (r.length : Int) + 1 := by omega
    unfold V.agg
    go_enter Tryz.func56, Tryz.ntmps56
    go_wp2
    rw [← hW]
    clear hW
    go_loopg [7] r.length (fun c i wr => ∃ (j i' : Nat) (m : V) (sm : Value), c + j = r.length ∧ Hid (i' = j + 1) ∧ i = .int .i64 (i' : Int) ∧ Hid (m = bst sgn x r j) ∧ m.In wI 0 sm ∧ Hid (wr.heap[w.heap.size + 1]? = some (.cells #[.int .i64 m.k, .int .i64 m.n, .string m.s, sm] 24)) ∧ Hid (wr.heap[w.heap.size]? = some (.cells #[.int .i64 0, .int .i64 0, .string ⟨#[]⟩, .slice none 0 0] 24)) ∧ Hid (Below w.heap.size w wr) ∧ w.heap.size + 1 + 1 ≤ wr.heap.size)
    case atStart => exact ⟨0, 1, x, .slice p0 n0 q0, rfl, rfl, rfl, rfl, ha, hB0, hA0, hbW, by omega⟩
    case round =>
      obtain ⟨j, i', m, sm, hj, hi', rfl, hm, him, hBm, hA, hB, hsz⟩ := hrel
      obtain ⟨pm, nm, qm, rfl⟩ := him.header
      have hbr := hB.out
      obtain ⟨z0, z1, z2, z3, zf⟩ := four_of hBm.out
      have hl1 : w.heap.size + 1 < wr.heap.size := by omega
      by_cases hlt : j < r.length
      · obtain ⟨sv, b0, b1, b2, b3, hv⟩ := hx1.at (j + 1) (by simp; omega)
        simp only [List.getElem_cons_succ] at b0 b1 b2 b3 hv
        have hoff : ox + (j + 1) * 4 = ox + i' * 4 := by rw [hi'.out]
        rw [hoff] at b0 b1 b2 b3
        have hst : Hid (bst sgn x r (j + 1) = bett sgn m r[j]) := by show _ = _; rw [bst_step sgn x r j hlt, ← hm.out]
        obtain ⟨pv, nv, qv, rfl⟩ := hv.header
        have hbri := bel_then hbI hbr
        have e0 := some_on hbri b0
        have e1 := some_on hbri b1
        have e2 := some_on hbri b2
        have e3 := some_on hbri b3
        have i2 : (i' : Int) < (r.length : Int) + 1 := by have := hi'.out; omega
        have i3 : IntKind.i64.wrap ((i' : Int) + 1) = (i' : Int) + 1 := by rw [IntKind.wrap_i64]; have := hi'.out; omega
        have hj1 : Hid (j < r.length) := hlt
        generalize r[j] = v at *
        have c29 := fun w hx hy => refCmp_any v m (.slice pv nv qv) (.slice pm nm qm) w hx hy
        unfold V.agg at c29
        obtain ⟨cc, hcc⟩ : ∃ cc, V.cmp v m = cc := ⟨_, rfl⟩
        unfold bett at hst
        rw [hcc] at c29 hst
        clear hcc hx hx1
        have hv1 := (hv.on hbri).on (Below.refl _ _).drew
        have hm1 := (him.on hbri).on (Below.refl _ _).drew
        by_cases hs : cc = sgn
        · subst hs
          rw [if_pos rfl] at hst
          go_wp2
          go_region_held3 (fun u => u.cell? ⟨w.heap.size + 1, 0, none⟩ = some (.int .i64 m.k) ∧ u.cell? ⟨w.heap.size + 1, 1, none⟩ = some (.int .i64 m.n) ∧ u.cell? ⟨w.heap.size + 1, 2, none⟩ = some (.string m.s) ∧ u.cell? ⟨w.heap.size + 1, 3, none⟩ = some (.slice pm nm qm) ∧
            u.cell? ⟨bx, ox + i' * 4, none⟩ = some (.int .i64 v.k) ∧ u.cell? ⟨bx, ox + i' * 4 + 1, none⟩ = some (.int .i64 v.n) ∧ u.cell? ⟨bx, ox + i' * 4 + 2, none⟩ = some (.string v.s) ∧ u.cell? ⟨bx, ox + i' * 4 + 3, none⟩ = some (.slice pv nv qv))
            (first | exact ⟨z0, z1, z2, z3, e0, e1, e2, e3⟩ | exact ⟨some_on hb5 z0, some_on hb5 z1, some_on hb5 z2, some_on hb5 z3, some_on hb5 e0, some_on hb5 e1, some_on hb5 e2, some_on hb5 e3⟩)
            (first | (go_at_call 29; refine (c29 _ hv1 hm1).mono ?_; rintro e w5 ⟨rfl, hb5⟩))
          have hs5 : wr.heap.size ≤ w5.heap.size := hb5.size
          have hbd := bel_then (Below.refl _ wr).drew hb5
          have f0 := some_on hbd e0
          have f1 := some_on hbd e1
          have f2 := some_on hbd e2
          have f3 := some_on hbd e3
          obtain ⟨g0, g1, g2, g3, gf⟩ := four_of (blk_on hbd hBm.out)
          have hM5 := blk_put4 (blk_on hbd hBm.out) (.int .i64 v.k) (.int .i64 v.n) (.string v.s) (.slice pv nv qv)
          have hA5 := ((gr_put4 w5 (w.heap.size + 1) 0 (.int .i64 v.k) (.int .i64 v.n) (.string v.s) (.slice pv nv qv)).block w.heap.size (by omega) (by intro e; injection e with e; omega)).trans (blk_on hbd hA.out)
          have hb6 : Below w.heap.size w (put4 w5 (w.heap.size + 1) 0 (.int .i64 v.k) (.int .i64 v.n) (.string v.s) (.slice pv nv qv)) := (bel_then hbr hbd).trans (below_put4 (by omega) _ _ _ _)
          have hs6 := (gr_put4 w5 (w.heap.size + 1) 0 (.int .i64 v.k) (.int .i64 v.n) (.string v.s) (.slice pv nv qv)).size
          unfold put4 at hM5 hA5 hb6 hs6
          go_wp2
          go_roundg (gk - 1)
          case rel => exact ⟨j + 1, i' + 1, v, .slice pv nv qv, by omega, (by show _ = _; rw [hi'.out]), by go_num, hst.out.symm, hv, hM5, hA5, hb6, Nat.le_trans (m := w5.heap.size) (by omega) hs6⟩
          case measure => omega
        · rw [if_neg hs] at hst
          go_wp2
          go_region_held3 (fun u => u.cell? ⟨w.heap.size + 1, 0, none⟩ = some (.int .i64 m.k) ∧ u.cell? ⟨w.heap.size + 1, 1, none⟩ = some (.int .i64 m.n) ∧ u.cell? ⟨w.heap.size + 1, 2, none⟩ = some (.string m.s) ∧ u.cell? ⟨w.heap.size + 1, 3, none⟩ = some (.slice pm nm qm) ∧
            u.cell? ⟨bx, ox + i' * 4, none⟩ = some (.int .i64 v.k) ∧ u.cell? ⟨bx, ox + i' * 4 + 1, none⟩ = some (.int .i64 v.n) ∧ u.cell? ⟨bx, ox + i' * 4 + 2, none⟩ = some (.string v.s) ∧ u.cell? ⟨bx, ox + i' * 4 + 3, none⟩ = some (.slice pv nv qv))
            (first | exact ⟨z0, z1, z2, z3, e0, e1, e2, e3⟩ | exact ⟨some_on hb5 z0, some_on hb5 z1, some_on hb5 z2, some_on hb5 z3, some_on hb5 e0, some_on hb5 e1, some_on hb5 e2, some_on hb5 e3⟩)
            (first | (go_at_call 29; refine (c29 _ hv1 hm1).mono ?_; rintro e w5 ⟨rfl, hb5⟩))
          have hs5 : wr.heap.size ≤ w5.heap.size := hb5.size
          have hbd := bel_then (Below.refl _ wr).drew hb5
          go_wp2
          go_roundg (gk - 1)
          case rel => exact ⟨j + 1, i' + 1, m, .slice pm nm qm, by omega, (by show _ = _; rw [hi'.out]), by go_num, hst.out.symm, him, blk_on hbd hBm.out, blk_on hbd hA.out, bel_then hbr hbd, by omega⟩
          case measure => omega
      · obtain rfl : j = r.length := by omega
        have i2 : ¬ (i' : Int) < (r.length : Int) + 1 := by have := hi'.out; omega
        obtain rfl : m = bst sgn x r r.length := hm.out
        generalize hbm : bst sgn x r r.length = m at *
        clear hx hx1
        obtain ⟨y0, y1, y2, y3, yf⟩ := four_of hA.out
        have hfin : Below w.heap.size w (put4 wr w.heap.size 0 (.int .i64 m.k) (.int .i64 m.n) (.string m.s) (.slice pm nm qm)) := hbr.trans (below_put4 (Nat.le_refl _) _ _ _ _)
        unfold put4 at hfin
        go_wp2
        simp [bodyPost, results, Tryz.results56, go_sem, y0, y1, y2, y3]
        exact ⟨him, hfin⟩

set_option maxHeartbeats 1000000 in
theorem min34 (l : List V) (sl : Value) (w : World) (hS : Sl w 0 l sl) : Calls Tryz.prog 34 #[sl] w fun e w' => Found (bestR l (-1)) w e w' := by
  have c := fore55 l (-1) sl (w.alloc (.cells #[.int .i64 0, .int .i64 0, .string ⟨#[]⟩, .slice none 0 0] 24)) (hS.on (bel1 w _))
  generalize bestR l (-1) = R at *
  unfold Found V.agg at c ⊢
  go_enter Tryz.func34, Tryz.ntmps34
  go_wp2_with (go_at_call 55; refine c.mono ?_; rintro e w1 ⟨s1, rfl, hin1, hb1⟩; obtain ⟨p1, n1, q1, rfl⟩ := hin1.header; obtain ⟨y0, y1, y2, y3, yf⟩ := four_of (blk_on hb1 (blk_new w _)))
  have hfin : Below w.heap.size w (put4 w1 w.heap.size 0 (.int .i64 R.1.k) (.int .i64 R.1.n) (.string R.1.s) (.slice p1 n1 q1)) := (bel_then (bel1 w _) hb1).trans (below_put4 (Nat.le_refl _) _ _ _ _)
  have hin9 : R.1.In (put4 w1 w.heap.size 0 (.int .i64 R.1.k) (.int .i64 R.1.n) (.string R.1.s) (.slice p1 n1 q1)) w.heap.size (.slice p1 n1 q1) :=
    V.In.keep (lo := w.heap.size + 1) (fun a v ha hc => set_other (set_other (set_other (set_other hc (.inl (by omega))) (.inl (by omega))) (.inl (by omega))) (.inl (by omega))) (by omega) R.1 _ (by rw [World.size_alloc] at hin1; exact hin1)
  unfold put4 at hfin hin9
  simp [bodyPost, results, Tryz.results34, go_sem, y0, y1, y2, y3]
  exact ⟨hin9, hfin⟩

set_option maxHeartbeats 1000000 in
theorem max36 (l : List V) (sl : Value) (w : World) (hS : Sl w 0 l sl) : Calls Tryz.prog 36 #[sl] w fun e w' => Found (bestR l (1)) w e w' := by
  have c := fore55 l 1 sl (w.alloc (.cells #[.int .i64 0, .int .i64 0, .string ⟨#[]⟩, .slice none 0 0] 24)) (hS.on (bel1 w _))
  generalize bestR l (1) = R at *
  unfold Found V.agg at c ⊢
  go_enter Tryz.func36, Tryz.ntmps36
  go_wp2_with (go_at_call 55; refine c.mono ?_; rintro e w1 ⟨s1, rfl, hin1, hb1⟩; obtain ⟨p1, n1, q1, rfl⟩ := hin1.header; obtain ⟨y0, y1, y2, y3, yf⟩ := four_of (blk_on hb1 (blk_new w _)))
  have hfin : Below w.heap.size w (put4 w1 w.heap.size 0 (.int .i64 R.1.k) (.int .i64 R.1.n) (.string R.1.s) (.slice p1 n1 q1)) := (bel_then (bel1 w _) hb1).trans (below_put4 (Nat.le_refl _) _ _ _ _)
  have hin9 : R.1.In (put4 w1 w.heap.size 0 (.int .i64 R.1.k) (.int .i64 R.1.n) (.string R.1.s) (.slice p1 n1 q1)) w.heap.size (.slice p1 n1 q1) :=
    V.In.keep (lo := w.heap.size + 1) (fun a v ha hc => set_other (set_other (set_other (set_other hc (.inl (by omega))) (.inl (by omega))) (.inl (by omega))) (.inl (by omega))) (by omega) R.1 _ (by rw [World.size_alloc] at hin1; exact hin1)
  unfold put4 at hfin hin9
  simp [bodyPost, results, Tryz.results36, go_sem, y0, y1, y2, y3]
  exact ⟨hin9, hfin⟩

set_option maxHeartbeats 1000000 in
theorem refMin35 (l : List V) (sl : Value) (w : World) (hS : Sl w 0 l sl) : Calls Tryz.prog 35 #[sl] w fun e w' => FoundR w (bestR l (-1)) w e w' := by
  have c := best56 l (-1) sl w (w.alloc (.cells #[.int .i64 0, .int .i64 0, .string ⟨#[]⟩, .slice none 0 0] 24)) hS (bel1 w _)
  generalize bestR l (-1) = R at *
  unfold FoundR V.agg at c ⊢
  go_enter Tryz.func35, Tryz.ntmps35
  go_wp2_with (go_at_call 56; refine c.mono ?_; rintro e w1 ⟨s1, rfl, hin1, hb1⟩; obtain ⟨p1, n1, q1, rfl⟩ := hin1.header; obtain ⟨y0, y1, y2, y3, yf⟩ := four_of (blk_on hb1 (blk_new w _)))
  have hfin : Below w.heap.size w (put4 w1 w.heap.size 0 (.int .i64 R.1.k) (.int .i64 R.1.n) (.string R.1.s) (.slice p1 n1 q1)) := (bel_then (bel1 w _) hb1).trans (below_put4 (Nat.le_refl _) _ _ _ _)
  have hin9 := hin1
  unfold put4 at hfin
  simp [bodyPost, results, Tryz.results35, go_sem, y0, y1, y2, y3]
  exact ⟨hin9, hfin⟩

set_option maxHeartbeats 1000000 in
theorem refMax37 (l : List V) (sl : Value) (w : World) (hS : Sl w 0 l sl) : Calls Tryz.prog 37 #[sl] w fun e w' => FoundR w (bestR l (1)) w e w' := by
  have c := best56 l 1 sl w (w.alloc (.cells #[.int .i64 0, .int .i64 0, .string ⟨#[]⟩, .slice none 0 0] 24)) hS (bel1 w _)
  generalize bestR l (1) = R at *
  unfold FoundR V.agg at c ⊢
  go_enter Tryz.func37, Tryz.ntmps37
  go_wp2_with (go_at_call 56; refine c.mono ?_; rintro e w1 ⟨s1, rfl, hin1, hb1⟩; obtain ⟨p1, n1, q1, rfl⟩ := hin1.header; obtain ⟨y0, y1, y2, y3, yf⟩ := four_of (blk_on hb1 (blk_new w _)))
  have hfin : Below w.heap.size w (put4 w1 w.heap.size 0 (.int .i64 R.1.k) (.int .i64 R.1.n) (.string R.1.s) (.slice p1 n1 q1)) := (bel_then (bel1 w _) hb1).trans (below_put4 (Nat.le_refl _) _ _ _ _)
  have hin9 := hin1
  unfold put4 at hfin
  simp [bodyPost, results, Tryz.results37, go_sem, y0, y1, y2, y3]
  exact ⟨hin9, hfin⟩
end Go.Proofs.YtbicodlclmdgaaaGreatDoor
