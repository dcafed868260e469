/-
  What Get of package value, and the document's Get, do.
-/
import Derived.Test.YtbicodlclmdgaaaGreatDoorOrder
namespace Go.Proofs.YtbicodlclmdgaaaGreatDoor
open Go.RowKit

/-- What keys and values have for a key. -/
def gets (key : V) : List V → Option V
  | k :: v :: r => if V.cmp k key = 0 then some v else gets key r
  | _ => none
theorem gets_drop (key : V) {l : List V} {i : Nat} (hi : i + 1 < l.length) : gets key (l.drop i) = if V.cmp l[i] key = 0 then some l[i + 1] else gets key (l.drop (i + 2)) := by
  rw [List.drop_eq_getElem_cons (show i < l.length by omega), List.drop_eq_getElem_cons hi]
  rfl
theorem gets_end (key : V) {l : List V} {i : Nat} (hi : l.length ≤ i + 1) : gets key (l.drop i) = none := by
  have : (l.drop i).length ≤ 1 := by simp; omega
  match h : l.drop i, this with
  | [], _ => rfl
  | [_], _ => rfl
def orZero : Option V → V × Bool
  | some v => (v, true)
  | none => (.mk 0 0 ⟨#[]⟩ [], false)
def getR (m key : V) : V × Bool := if m.k = 5 then orZero (gets key m.l) else orZero none
/-- What Get hands back. -/
def Got (r : V × Bool) (w : World) (e : Ending) (w' : World) : Prop := ∃ sl, e = .returned (.tuple #[r.1.agg sl, .bool r.2]) ∧ r.1.In w' 0 sl ∧ Below w.heap.size w w'

set_option maxRecDepth 20000 in
set_option maxHeartbeats 4000000 in
theorem get26 (k n : Int) (s : ByteArray) (l : List V) (key : V) (sm sk : Value) (w : World) (hm : (V.mk k n s l).In w 0 sm) (hk : key.In w 0 sk) :
    Calls Tryz.prog 26 #[.agg #[.int .i64 k, .int .i64 n, .string s, sm], key.agg sk] w fun e w' => Got (getR (.mk k n s l) key) w e w' := by
  have hS := ((V.in_iff _ _ _ _).1 hm).2.2.2
  simp only [V.l] at hS
  obtain ⟨p, cap, rfl, hc, hcm, h56, hx⟩ := hS
  unfold maxLen at hcm
  obtain ⟨pk, nk, qk, rfl⟩ := hk.header
  obtain ⟨R, hR⟩ : ∃ R, getR (.mk k n s l) key = R := ⟨_, rfl⟩
  rw [hR]
  unfold Got V.agg
  by_cases h5 : k = 5
  · have hR' : Hid (orZero (gets key l) = R) := by show _ = _; rw [← hR]; unfold getR; rw [if_pos (show (V.mk k n s l).k = 5 from h5)]; rfl
    subst h5
    clear hR hm
    obtain ⟨W, hW⟩ : ∃ W, W = ((w.alloc (.cells #[.int .i64 5, .int .i64 n, .string s, .slice p l.length cap] 24)).alloc (.cells #[.int .i64 key.k, .int .i64 key.n, .string key.s, .slice pk nk qk] 24)).alloc (.cells #[.int .i64 0, .int .i64 0, .string ⟨#[]⟩, .slice none 0 0] 24) := ⟨_, rfl⟩
    have hA0 : W.heap[w.heap.size]? = some (.cells #[.int .i64 5, .int .i64 n, .string s, .slice p l.length cap] 24) := by rw [hW]; exact blk_old (blk_old (blk_new w _))
    have hB0 : W.heap[w.heap.size + 1]? = some (.cells #[.int .i64 key.k, .int .i64 key.n, .string key.s, .slice pk nk qk] 24) := by
      have := blk_new (w.alloc (.cells #[.int .i64 5, .int .i64 n, .string s, .slice p l.length cap] 24)) (.cells #[.int .i64 key.k, .int .i64 key.n, .string key.s, .slice pk nk qk] 24)
      rw [World.size_alloc] at this
      rw [hW]; exact blk_old this
    have hC0 : W.heap[w.heap.size + 1 + 1]? = some (.cells #[.int .i64 0, .int .i64 0, .string ⟨#[]⟩, .slice none 0 0] 24) := by
      have := blk_new ((w.alloc (.cells #[.int .i64 5, .int .i64 n, .string s, .slice p l.length cap] 24)).alloc (.cells #[.int .i64 key.k, .int .i64 key.n, .string key.s, .slice pk nk qk] 24)) (.cells #[.int .i64 0, .int .i64 0, .string ⟨#[]⟩, .slice none 0 0] 24)
      rw [World.size_alloc, World.size_alloc] at this
      rw [hW]; exact this
    have hbW : Below w.heap.size w W := by rw [hW]; exact (bel2 w _ _).alloc (by simp; omega) _
    have hszW : W.heap.size = w.heap.size + 1 + 1 + 1 := by rw [hW]; simp
    obtain ⟨x0, x1, x2, x3, y0, y1, y2, y3, z0, z1, z2, z3⟩ := twelve hA0 hB0 hC0
    go_enter Tryz.func26, Tryz.ntmps26
    go_wp2
    rw [← hW]
    clear hW
    go_loopg [6] (l.length + 1) (fun c i wr => ∃ j i' : Nat, c + j = l.length + 1 ∧ Hid (i' = 2 * j + 1) ∧ i = .int .i64 (i' : Int) ∧ 2 * j ≤ l.length + 1 ∧ Hid (gets key l = gets key (l.drop (2 * j))) ∧ Hid (Below W.heap.size W wr))
    case atStart => exact ⟨0, 1, rfl, rfl, rfl, by omega, rfl, Below.refl _ _⟩
    case round =>
      obtain ⟨j, i', hj, hi', rfl, hjl, hg, hB⟩ := hrel
      have hA := blk_on hB.out hA0
      have hBk := blk_on hB.out hB0
      have hC := blk_on hB.out hC0
      have hbr : Below w.heap.size w wr := bel_then hbW hB.out
      clear x0 x1 x2 x3 y0 y1 y2 y3 z0 z1 z2 z3
      obtain ⟨x0, x1, x2, x3, y0, y1, y2, y3, z0, z1, z2, z3⟩ := twelve hA hBk hC
      have zf := fun i => (four_of hC).2.2.2.2 i
      by_cases hlt : i' < l.length
      · obtain ⟨bx, ox, rfl, -, hx1⟩ := hx.resolve_left (by rintro rfl; simp at hlt)
        obtain ⟨q, hq⟩ : ∃ q, Hid (q = 2 * j) := ⟨_, rfl⟩
        have hq' := hq.out
        have hi'' := hi'.out
        have hqi : i' = q + 1 := by omega
        have hql : q < l.length := by omega
        obtain ⟨s1, a0, a1, a2, a3, ha⟩ := hx1.at q hql
        obtain ⟨s2, b0, b1, b2, b3, hb⟩ := hx1.at i' hlt
        have hgd : Hid (gets key l = if V.cmp l[q] key = 0 then some l[i'] else gets key (l.drop (2 * (j + 1)))) := by
          show _ = _
          rw [hg.out, ← hq.out, gets_drop key (by omega)]
          simp only [← hqi]
          rw [show 2 * (j + 1) = q + 2 by omega]
        have wA : IntKind.i64.wrap ((i' : Int) - 1) = (q : Int) := by rw [IntKind.wrap_i64]; omega
        have wB : IntKind.i64.wrap (q : Int) = (q : Int) := by rw [IntKind.wrap_i64]; omega
        have wC : IntKind.i64.wrap ((i' : Int) + 2) = (i' : Int) + 2 := by rw [IntKind.wrap_i64]; omega
        have i1 : (q : Int) < (l.length : Int) := by omega
        have i2 : (i' : Int) < (l.length : Int) := by omega
        have i0 : (0 : Int) ≤ (q : Int) := by omega
        generalize l[q] = xk at *
        generalize l[i'] = xv at *
        have c30 := fun w hx hy => same_any xk key s1 (.slice pk nk qk) w hx hy
        have c31 := fun w hx => clone_any xv s2 w hx
        obtain ⟨p1, n1, q1, rfl⟩ := ha.header
        obtain ⟨p2, n2, q2, rfl⟩ := hb.header
        have e0 := some_on hbr a0
        have e1 := some_on hbr a1
        have e2 := some_on hbr a2
        have e3 := some_on hbr a3
        have f0 := some_on hbr b0
        have f1 := some_on hbr b1
        have f2 := some_on hbr b2
        have f3 := some_on hbr b3
        have hk1 := (ha.on hbr).on (Below.refl _ _).drew
        have hk2 := (hk.on hbr).on (Below.refl _ _).drew
        have hv1 := hb.on hbr
        clear hg hx hx1 hq' hi''
        have hqi' : Hid (i' = q + 1) := hqi
        clear hqi
        unfold Cl V.agg at c31
        unfold V.agg at c30
        obtain ⟨cc, hcc⟩ : ∃ cc, (V.cmp xk key == 0) = cc := ⟨_, rfl⟩
        rw [hcc] at c30
        cases cc
        · have hgd' : Hid (gets key l = gets key (l.drop (2 * (j + 1)))) := by
            show _ = _
            rw [hgd.out, if_neg (by simpa using hcc)]
          clear hgd hcc
          go_wp2
          go_region_held3 (fun u => u.cell? ⟨w.heap.size, 3, none⟩ = some (.slice (some ⟨bx, ox, none⟩) l.length cap) ∧ u.cell? ⟨w.heap.size + 1, 0, none⟩ = some (.int .i64 key.k) ∧ u.cell? ⟨w.heap.size + 1, 1, none⟩ = some (.int .i64 key.n) ∧ u.cell? ⟨w.heap.size + 1, 2, none⟩ = some (.string key.s) ∧ u.cell? ⟨w.heap.size + 1, 3, none⟩ = some (.slice pk nk qk) ∧
              u.cell? ⟨bx, ox + q * 4, none⟩ = some (.int .i64 xk.k) ∧ u.cell? ⟨bx, ox + q * 4 + 1, none⟩ = some (.int .i64 xk.n) ∧ u.cell? ⟨bx, ox + q * 4 + 2, none⟩ = some (.string xk.s) ∧ u.cell? ⟨bx, ox + q * 4 + 3, none⟩ = some (.slice p1 n1 q1))
            (first | exact ⟨x3, y0, y1, y2, y3, e0, e1, e2, e3⟩ | exact ⟨some_on hb5 x3, some_on hb5 y0, some_on hb5 y1, some_on hb5 y2, some_on hb5 y3, some_on hb5 e0, some_on hb5 e1, some_on hb5 e2, some_on hb5 e3⟩)
            (first | (go_at_call 30; refine (c30 _ hk1 hk2).mono ?_; rintro e w5 ⟨rfl, hg5⟩; have hb5 := hg5.bel))
          go_wp2
          have hb6 := bel_then hB.out (bel_then (Below.refl _ wr).drew hb5)
          go_roundg (gk - 1)
          case rel => exact ⟨j + 1, i' + 2, by omega, (by show _ = _; have := hi'.out; omega), by go_num, (by have := hi'.out; omega), hgd', hb6⟩
          case measure => omega
        · have hR2 : Hid (R = orZero (some xv)) := by
            show _ = _
            rw [← hR'.out, hgd.out, if_pos (by simpa using hcc)]
          clear hgd hcc hR'
          obtain ⟨R1, R2⟩ := R
          have r1 : R1 = xv := congrArg Prod.fst hR2.out
          have r2 : R2 = true := congrArg Prod.snd hR2.out
          subst r1 r2
          go_wp2
          go_region_held3 (fun u => u.cell? ⟨w.heap.size, 3, none⟩ = some (.slice (some ⟨bx, ox, none⟩) l.length cap) ∧ u.cell? ⟨w.heap.size + 1, 0, none⟩ = some (.int .i64 key.k) ∧ u.cell? ⟨w.heap.size + 1, 1, none⟩ = some (.int .i64 key.n) ∧ u.cell? ⟨w.heap.size + 1, 2, none⟩ = some (.string key.s) ∧ u.cell? ⟨w.heap.size + 1, 3, none⟩ = some (.slice pk nk qk) ∧
              u.cell? ⟨bx, ox + q * 4, none⟩ = some (.int .i64 xk.k) ∧ u.cell? ⟨bx, ox + q * 4 + 1, none⟩ = some (.int .i64 xk.n) ∧ u.cell? ⟨bx, ox + q * 4 + 2, none⟩ = some (.string xk.s) ∧ u.cell? ⟨bx, ox + q * 4 + 3, none⟩ = some (.slice p1 n1 q1))
            (first | exact ⟨x3, y0, y1, y2, y3, e0, e1, e2, e3⟩ | exact ⟨some_on hb5 x3, some_on hb5 y0, some_on hb5 y1, some_on hb5 y2, some_on hb5 y3, some_on hb5 e0, some_on hb5 e1, some_on hb5 e2, some_on hb5 e3⟩)
            (first | (go_at_call 30; refine (c30 _ hk1 hk2).mono ?_; rintro e w5 ⟨rfl, hg5⟩; have hb5 := hg5.bel))
          have x3' := some_on hb5 x3
          have f0' := some_on hb5 f0
          have f1' := some_on hb5 f1
          have f2' := some_on hb5 f2
          have f3' := some_on hb5 f3
          have hv5 := (hv1.on (Below.refl _ wr).drew).on hb5
          have hb6 := bel_then hB.out (bel_then (Below.refl _ wr).drew hb5)
          go_wp2_with (go_at_call 31; refine (c31 _ hv5).mono ?_; rintro e w7 ⟨sl7, rfl, hin7, hb7, -⟩; obtain ⟨p7, n7, q7, rfl⟩ := hin7.header; obtain ⟨y0, y1, y2, y3, yf⟩ := four_of (blk_on (bel_then hb6 hb7) hC0))
          have hs6 := hb6.size
          have hb8 := bel_then hbW (bel_then hb6 hb7)
          have hfin : Below w.heap.size w (put4 w7 (w.heap.size + 1 + 1) 0 (.int .i64 R1.k) (.int .i64 R1.n) (.string R1.s) (.slice p7 n7 q7)) := hb8.trans (below_put4 (by omega) _ _ _ _)
          have hin9 : R1.In (put4 w7 (w.heap.size + 1 + 1) 0 (.int .i64 R1.k) (.int .i64 R1.n) (.string R1.s) (.slice p7 n7 q7)) 0 (.slice p7 n7 q7) :=
            V.In.keep (lo := w5.heap.size) (fun a v ha hc => set_other (set_other (set_other (set_other hc (.inl (by omega))) (.inl (by omega))) (.inl (by omega))) (.inl (by omega))) (by omega) R1 _ hin7
          unfold put4 at hfin hin9
          simp [bodyPost, results, Tryz.results26, go_sem, y0, y1, y2, y3]
          exact ⟨hin9, hfin⟩
      · have hi2 : ¬ (i' : Int) < (l.length : Int) := by omega
        have hR2 : Hid (R = orZero none) := by
          have := hi'.out
          show _ = _
          rw [← hR'.out, hg.out, gets_end key (by omega)]
        clear hg hR'
        obtain ⟨R1, R2⟩ := R
        have e1 : R1 = .mk 0 0 ⟨#[]⟩ [] := congrArg Prod.fst hR2.out
        have e2 : R2 = false := congrArg Prod.snd hR2.out
        subst e1 e2
        have hfin : Below w.heap.size w (put4 wr (w.heap.size + 1 + 1) 0 (.int .i64 0) (.int .i64 0) (.string ⟨#[]⟩) (.slice none 0 0)) := hbr.trans (below_put4 (by omega) _ _ _ _)
        have hin9 := zero_in (put4 wr (w.heap.size + 1 + 1) 0 (.int .i64 0) (.int .i64 0) (.string ⟨#[]⟩) (.slice none 0 0)) 0
        unfold put4 at hfin hin9
        go_wp2
        simp [bodyPost, results, Tryz.results26, go_sem, z0, z1, z2, z3, V.k, V.n, V.s]
        exact ⟨hin9, hfin⟩
  · have hR' : R = orZero none := by rw [← hR]; unfold getR; rw [if_neg (show ¬ (V.mk k n s l).k = 5 from h5)]
    have h5' : (k != 5) = true := by simpa using h5
    obtain ⟨R1, R2⟩ := R
    have e1 : R1 = .mk 0 0 ⟨#[]⟩ [] := congrArg Prod.fst hR'
    have e2 : R2 = false := congrArg Prod.snd hR'
    subst e1 e2
    clear hR hR' hm hx
    go_enter Tryz.func26, Tryz.ntmps26
    go_wp2
    simp [bodyPost, results, Tryz.results26, go_sem, V.k, V.n, V.s]
    exact ⟨zero_in _ 0, (bel2 w _ _).alloc (by simp; omega) _⟩
set_option maxRecDepth 20000 in
set_option maxHeartbeats 4000000 in
theorem get27 (k n : Int) (s : ByteArray) (l : List V) (key : V) (sm sk : Value) (w : World) (hm : (V.mk k n s l).In w 0 sm) (hk : key.In w 0 sk) :
    Calls Tryz.prog 27 #[.agg #[.int .i64 k, .int .i64 n, .string s, sm], key.agg sk] w fun e w' => Got (getR (.mk k n s l) key) w e w' := by
  have hS := ((V.in_iff _ _ _ _).1 hm).2.2.2
  simp only [V.l] at hS
  obtain ⟨p, cap, rfl, hc, hcm, h56, hx⟩ := hS
  unfold maxLen at hcm
  obtain ⟨pk, nk, qk, rfl⟩ := hk.header
  obtain ⟨R, hR⟩ : ∃ R, getR (.mk k n s l) key = R := ⟨_, rfl⟩
  rw [hR]
  unfold Got V.agg
  by_cases h5 : k = 5
  · have hR' : Hid (orZero (gets key l) = R) := by show _ = _; rw [← hR]; unfold getR; rw [if_pos (show (V.mk k n s l).k = 5 from h5)]; rfl
    subst h5
    clear hR hm
    obtain ⟨W, hW⟩ : ∃ W, W = ((w.alloc (.cells #[.int .i64 5, .int .i64 n, .string s, .slice p l.length cap] 24)).alloc (.cells #[.int .i64 key.k, .int .i64 key.n, .string key.s, .slice pk nk qk] 24)).alloc (.cells #[.int .i64 0, .int .i64 0, .string ⟨#[]⟩, .slice none 0 0] 24) := ⟨_, rfl⟩
    have hA0 : W.heap[w.heap.size]? = some (.cells #[.int .i64 5, .int .i64 n, .string s, .slice p l.length cap] 24) := by rw [hW]; exact blk_old (blk_old (blk_new w _))
    have hB0 : W.heap[w.heap.size + 1]? = some (.cells #[.int .i64 key.k, .int .i64 key.n, .string key.s, .slice pk nk qk] 24) := by
      have := blk_new (w.alloc (.cells #[.int .i64 5, .int .i64 n, .string s, .slice p l.length cap] 24)) (.cells #[.int .i64 key.k, .int .i64 key.n, .string key.s, .slice pk nk qk] 24)
      rw [World.size_alloc] at this
      rw [hW]; exact blk_old this
    have hC0 : W.heap[w.heap.size + 1 + 1]? = some (.cells #[.int .i64 0, .int .i64 0, .string ⟨#[]⟩, .slice none 0 0] 24) := by
      have := blk_new ((w.alloc (.cells #[.int .i64 5, .int .i64 n, .string s, .slice p l.length cap] 24)).alloc (.cells #[.int .i64 key.k, .int .i64 key.n, .string key.s, .slice pk nk qk] 24)) (.cells #[.int .i64 0, .int .i64 0, .string ⟨#[]⟩, .slice none 0 0] 24)
      rw [World.size_alloc, World.size_alloc] at this
      rw [hW]; exact this
    have hbW : Below w.heap.size w W := by rw [hW]; exact (bel2 w _ _).alloc (by simp; omega) _
    have hszW : W.heap.size = w.heap.size + 1 + 1 + 1 := by rw [hW]; simp
    obtain ⟨x0, x1, x2, x3, y0, y1, y2, y3, z0, z1, z2, z3⟩ := twelve hA0 hB0 hC0
    go_enter Tryz.func27, Tryz.ntmps27
    go_wp2
    rw [← hW]
    clear hW
    go_loopg [6] (l.length + 1) (fun c i wr => ∃ j i' : Nat, c + j = l.length + 1 ∧ Hid (i' = 2 * j) ∧ i = .int .i64 (i' : Int) ∧ 2 * j ≤ l.length + 1 ∧ Hid (gets key l = gets key (l.drop (2 * j))) ∧ Hid (Below W.heap.size W wr))
    case atStart => exact ⟨0, 0, rfl, rfl, rfl, by omega, rfl, Below.refl _ _⟩
    case round =>
      obtain ⟨j, i', hj, hi', rfl, hjl, hg, hB⟩ := hrel
      have hA := blk_on hB.out hA0
      have hBk := blk_on hB.out hB0
      have hC := blk_on hB.out hC0
      have hbr : Below w.heap.size w wr := bel_then hbW hB.out
      clear x0 x1 x2 x3 y0 y1 y2 y3 z0 z1 z2 z3
      obtain ⟨x0, x1, x2, x3, y0, y1, y2, y3, z0, z1, z2, z3⟩ := twelve hA hBk hC
      have zf := fun i => (four_of hC).2.2.2.2 i
      by_cases hlt : i' + 1 < l.length
      · obtain ⟨bx, ox, rfl, -, hx1⟩ := hx.resolve_left (by rintro rfl; simp at hlt)
        obtain ⟨q, hq⟩ : ∃ q, Hid (q = 2 * j + 1) := ⟨_, rfl⟩
        have hq' := hq.out
        have hi'' := hi'.out
        have hqi : q = i' + 1 := by omega
        have hil : i' < l.length := by omega
        have hql : q < l.length := by omega
        obtain ⟨s1, a0, a1, a2, a3, ha⟩ := hx1.at i' hil
        obtain ⟨s2, b0, b1, b2, b3, hb⟩ := hx1.at q hql
        have hgd : Hid (gets key l = if V.cmp l[i'] key = 0 then some l[q] else gets key (l.drop (2 * (j + 1)))) := by
          show _ = _
          rw [hg.out, ← hi'.out, gets_drop key (by omega)]
          simp only [← hqi]
          rw [show 2 * (j + 1) = i' + 2 by omega]
        have wA : IntKind.i64.wrap ((i' : Int) + 1) = (q : Int) := by rw [IntKind.wrap_i64]; omega
        have wA' : (i' : Int) + 1 = (q : Int) := by omega
        have wB : IntKind.i64.wrap (q : Int) = (q : Int) := by rw [IntKind.wrap_i64]; omega
        have wC : IntKind.i64.wrap ((i' : Int) + 2) = (i' : Int) + 2 := by rw [IntKind.wrap_i64]; omega
        have i1 : (q : Int) < (l.length : Int) := by omega
        have i2 : (i' : Int) < (l.length : Int) := by omega
        have i0 : (0 : Int) ≤ (q : Int) := by omega
        generalize l[i'] = xk at *
        generalize l[q] = xv at *
        have c30 := fun w hx hy => refSame_any xk key s1 (.slice pk nk qk) w hx hy
        obtain ⟨p1, n1, q1, rfl⟩ := ha.header
        obtain ⟨p2, n2, q2, rfl⟩ := hb.header
        have e0 := some_on hbr a0
        have e1 := some_on hbr a1
        have e2 := some_on hbr a2
        have e3 := some_on hbr a3
        have f0 := some_on hbr b0
        have f1 := some_on hbr b1
        have f2 := some_on hbr b2
        have f3 := some_on hbr b3
        have hk1 := (ha.on hbr).on (Below.refl _ _).drew
        have hk2 := (hk.on hbr).on (Below.refl _ _).drew
        have hv1 := hb.on hbr
        clear hg hx hx1 hq' hi''
        have hqi' : Hid (q = i' + 1) := hqi
        clear hqi
        unfold V.agg at c30
        obtain ⟨cc, hcc⟩ : ∃ cc, (V.cmp xk key == 0) = cc := ⟨_, rfl⟩
        rw [hcc] at c30
        cases cc
        · have hgd' : Hid (gets key l = gets key (l.drop (2 * (j + 1)))) := by
            show _ = _
            rw [hgd.out, if_neg (by simpa using hcc)]
          clear hgd hcc
          go_wp2
          go_region_held3 (fun u => u.cell? ⟨w.heap.size, 3, none⟩ = some (.slice (some ⟨bx, ox, none⟩) l.length cap) ∧ u.cell? ⟨w.heap.size + 1, 0, none⟩ = some (.int .i64 key.k) ∧ u.cell? ⟨w.heap.size + 1, 1, none⟩ = some (.int .i64 key.n) ∧ u.cell? ⟨w.heap.size + 1, 2, none⟩ = some (.string key.s) ∧ u.cell? ⟨w.heap.size + 1, 3, none⟩ = some (.slice pk nk qk) ∧
              u.cell? ⟨bx, ox + i' * 4, none⟩ = some (.int .i64 xk.k) ∧ u.cell? ⟨bx, ox + i' * 4 + 1, none⟩ = some (.int .i64 xk.n) ∧ u.cell? ⟨bx, ox + i' * 4 + 2, none⟩ = some (.string xk.s) ∧ u.cell? ⟨bx, ox + i' * 4 + 3, none⟩ = some (.slice p1 n1 q1))
            (first | exact ⟨x3, y0, y1, y2, y3, e0, e1, e2, e3⟩ | exact ⟨some_on hb5 x3, some_on hb5 y0, some_on hb5 y1, some_on hb5 y2, some_on hb5 y3, some_on hb5 e0, some_on hb5 e1, some_on hb5 e2, some_on hb5 e3⟩)
            (first | (go_at_call 15; refine (c30 _ hk1 hk2).mono ?_; rintro e w5 ⟨rfl, hb5⟩))
          go_wp2
          have hb6 := bel_then hB.out (bel_then (Below.refl _ wr).drew hb5)
          go_roundg (gk - 1)
          case rel => exact ⟨j + 1, i' + 2, by omega, (by show _ = _; have := hi'.out; omega), by go_num, (by have := hi'.out; omega), hgd', hb6⟩
          case measure => omega
        · have hR2 : Hid (R = orZero (some xv)) := by
            show _ = _
            rw [← hR'.out, hgd.out, if_pos (by simpa using hcc)]
          clear hgd hcc hR'
          obtain ⟨R1, R2⟩ := R
          have r1 : R1 = xv := congrArg Prod.fst hR2.out
          have r2 : R2 = true := congrArg Prod.snd hR2.out
          subst r1 r2
          go_wp2
          go_region_held3 (fun u => u.cell? ⟨w.heap.size, 3, none⟩ = some (.slice (some ⟨bx, ox, none⟩) l.length cap) ∧ u.cell? ⟨w.heap.size + 1, 0, none⟩ = some (.int .i64 key.k) ∧ u.cell? ⟨w.heap.size + 1, 1, none⟩ = some (.int .i64 key.n) ∧ u.cell? ⟨w.heap.size + 1, 2, none⟩ = some (.string key.s) ∧ u.cell? ⟨w.heap.size + 1, 3, none⟩ = some (.slice pk nk qk) ∧
              u.cell? ⟨bx, ox + i' * 4, none⟩ = some (.int .i64 xk.k) ∧ u.cell? ⟨bx, ox + i' * 4 + 1, none⟩ = some (.int .i64 xk.n) ∧ u.cell? ⟨bx, ox + i' * 4 + 2, none⟩ = some (.string xk.s) ∧ u.cell? ⟨bx, ox + i' * 4 + 3, none⟩ = some (.slice p1 n1 q1))
            (first | exact ⟨x3, y0, y1, y2, y3, e0, e1, e2, e3⟩ | exact ⟨some_on hb5 x3, some_on hb5 y0, some_on hb5 y1, some_on hb5 y2, some_on hb5 y3, some_on hb5 e0, some_on hb5 e1, some_on hb5 e2, some_on hb5 e3⟩)
            (first | (go_at_call 15; refine (c30 _ hk1 hk2).mono ?_; rintro e w5 ⟨rfl, hb5⟩))
          have x3' := some_on hb5 x3
          have f0' := some_on hb5 f0
          have f1' := some_on hb5 f1
          have f2' := some_on hb5 f2
          have f3' := some_on hb5 f3
          have hv5 := (hv1.on (Below.refl _ wr).drew).on hb5
          have hb6 := bel_then hB.out (bel_then (Below.refl _ wr).drew hb5)
          obtain ⟨y0, y1, y2, y3, yf⟩ := four_of (blk_on hb6 hC0)
          have hb8 := bel_then hbW hb6
          have hlw : ∀ {a : Addr} {v : Value}, w.cell? a = some v → a.block < w.heap.size := fun h => cell_lt h
          have hfin : Below w.heap.size w (put4 w5 (w.heap.size + 1 + 1) 0 (.int .i64 R1.k) (.int .i64 R1.n) (.string R1.s) (.slice p2 n2 q2)) := hb8.trans (below_put4 (by omega) _ _ _ _)
          have hin9 : R1.In (put4 w5 (w.heap.size + 1 + 1) 0 (.int .i64 R1.k) (.int .i64 R1.n) (.string R1.s) (.slice p2 n2 q2)) 0 (.slice p2 n2 q2) := hb.on hfin
          go_wp2
          unfold put4 at hfin hin9
          simp [bodyPost, results, Tryz.results27, go_sem, y0, y1, y2, y3]
          exact ⟨hin9, hfin⟩
      · have wA : IntKind.i64.wrap ((i' : Int) + 1) = (i' : Int) + 1 := by rw [IntKind.wrap_i64]; have := hi'.out; omega
        have hi2 : ¬ (i' : Int) + 1 < (l.length : Int) := by omega
        have hR2 : Hid (R = orZero none) := by
          have := hi'.out
          show _ = _
          rw [← hR'.out, hg.out, gets_end key (by omega)]
        clear hg hR'
        obtain ⟨R1, R2⟩ := R
        have e1 : R1 = .mk 0 0 ⟨#[]⟩ [] := congrArg Prod.fst hR2.out
        have e2 : R2 = false := congrArg Prod.snd hR2.out
        subst e1 e2
        have hfin : Below w.heap.size w (put4 wr (w.heap.size + 1 + 1) 0 (.int .i64 0) (.int .i64 0) (.string ⟨#[]⟩) (.slice none 0 0)) := hbr.trans (below_put4 (by omega) _ _ _ _)
        have hin9 := zero_in (put4 wr (w.heap.size + 1 + 1) 0 (.int .i64 0) (.int .i64 0) (.string ⟨#[]⟩) (.slice none 0 0)) 0
        unfold put4 at hfin hin9
        go_wp2
        simp [bodyPost, results, Tryz.results27, go_sem, z0, z1, z2, z3, V.k, V.n, V.s]
        exact ⟨hin9, hfin⟩
  · have hR' : R = orZero none := by rw [← hR]; unfold getR; rw [if_neg (show ¬ (V.mk k n s l).k = 5 from h5)]
    have h5' : (k != 5) = true := by simpa using h5
    obtain ⟨R1, R2⟩ := R
    have e1 : R1 = .mk 0 0 ⟨#[]⟩ [] := congrArg Prod.fst hR'
    have e2 : R2 = false := congrArg Prod.snd hR'
    subst e1 e2
    clear hR hR' hm hx
    go_enter Tryz.func27, Tryz.ntmps27
    go_wp2
    simp [bodyPost, results, Tryz.results27, go_sem, V.k, V.n, V.s]
    exact ⟨zero_in _ 0, (bel2 w _ _).alloc (by simp; omega) _⟩
end Go.Proofs.YtbicodlclmdgaaaGreatDoor
