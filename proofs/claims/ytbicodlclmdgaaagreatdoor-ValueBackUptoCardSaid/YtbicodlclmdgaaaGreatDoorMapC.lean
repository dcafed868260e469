/-
  What Map of package value does: the call itself.
-/
import Derived.Test.YtbicodlclmdgaaaGreatDoorMapB
namespace Go.Proofs.YtbicodlclmdgaaaGreatDoor
open Go.RowKit
open Go.Sort (HoldsK flatK get_flatK)

theorem holds_on {w0 W W' : World} {g : Nat} {d : Array (Pr w0)} (h : HoldsK encP 8 W g 0 d) (hb : Below W.heap.size W W') : HoldsK encP 8 W' g 0 d := fun j hj => by
  obtain ⟨h1, h2⟩ := h j hj
  exact ⟨some_on hb h1, (hb.frozen (cell_lt h1)).trans h2⟩
theorem holds_below {w0 W W' : World} {B g : Nat} {d : Array (Pr w0)} (h : HoldsK encP 8 W g 0 d) (hb : Below B W W') (hg : g < B) : HoldsK encP 8 W' g 0 d := fun j hj => by
  obtain ⟨h1, h2⟩ := h j hj
  exact ⟨(hb.cell hg).trans h1, (hb.frozen hg).trans h2⟩
theorem twice_drop {w : World} {l : List (Pr w)} {i : Nat} (hi : i + 1 < l.length) : twice (l.drop i) = (decide (V.cmp l[i].1.1.1 l[i + 1].1.1.1 = 0) || twice (l.drop (i + 1))) := by
  rw [List.drop_eq_getElem_cons (show i < l.length by omega), List.drop_eq_getElem_cons hi]
  rfl
theorem twice_end {w : World} {l : List (Pr w)} {i : Nat} (hi : l.length ≤ i + 1) : twice (l.drop i) = false := by
  have : (l.drop i).length ≤ 1 := by simp; omega
  match h : l.drop i, this with
  | [], _ => rfl
  | [_], _ => rfl

theorem cells_new (W : World) (cs : List Value) (t : TypeId) : ∀ (j : Nat) (u : Value), cs[j]? = some u → (W.alloc (.cells cs.toArray t)).cell? ((⟨W.heap.size, 0, none⟩ : Addr).add j) = some u := by
  intro j u h
  have e : (W.alloc (.cells cs.toArray t)).heap[W.heap.size]? = some (.cells cs.toArray t) := blk_new W _
  unfold World.cell?
  have hb : ((⟨W.heap.size, 0, none⟩ : Addr).add j).block = W.heap.size := by unfold Addr.add; split <;> rfl
  have ho : ((⟨W.heap.size, 0, none⟩ : Addr).add j).off = j := by unfold Addr.add; split <;> simp_all
  have hs : ((⟨W.heap.size, 0, none⟩ : Addr).add j).spot = none := by unfold Addr.add; split <;> rfl
  rw [hb, e]
  simp only [hs, ho]
  simpa using h

/-- What Map comes to, the pairs in order being d. -/
def Mapped {w1 : World} (d : Array (Pr w1)) (w : World) (e : Ending) (w' : World) : Prop :=
  Below w.heap.size w w' ∧ (twice d.toList = true → e = .returned (.tuple #[zeroAgg, .int .i64 5])) ∧
    (twice d.toList = false → ((V.mk 5 0 ⟨#[]⟩ (flat2 d.toList)).may 1 = true → ∃ sl, e = .returned (.tuple #[(V.mk 5 0 ⟨#[]⟩ (flat2 d.toList)).agg sl, .int .i64 0]) ∧ (V.mk 5 0 ⟨#[]⟩ (flat2 d.toList)).In w' w.heap.size sl) ∧
      ((V.mk 5 0 ⟨#[]⟩ (flat2 d.toList)).may 1 = false → e = .returned (.tuple #[zeroAgg, .int .i64 20])))

/-- The row of keys and values that was made is a map in memory. -/
theorem made_row {w0 W : World} (hbr : Below w0.heap.size w0 W) {d : Array (Pr w0)} {base m : Nat} {v : Value} (hdl : d.toList.length = m) (hm : 2 * m * 56 ≤ 140737488351232) (h : W.ownsRow base 24 4 v (2 * m) (d.toList.flatMap encP)) :
    ∃ p cap, v = .slice p (2 * m) cap ∧ 2 * m ≤ cap ∧ cap ≤ maxLen ∧ (V.mk 5 0 ⟨#[]⟩ (flat2 d.toList)).In W 0 (.slice p (2 * m) cap) := by
  have key : ∀ p cap, 2 * m ≤ cap → cap ≤ maxLen → (flat2 d.toList = [] ∨ ∃ b o, p = some ⟨b, o, none⟩ ∧ 0 ≤ b ∧ Ls W 0 (flat2 d.toList) b o) → (V.mk 5 0 ⟨#[]⟩ (flat2 d.toList)).In W 0 (.slice p (2 * m) cap) := fun p cap h1 h2 h3 => by
    rw [V.in_iff]
    refine ⟨by unfold I64; simp [V.k], by unfold I64; simp [V.n], (by show (0 : Nat) ≤ 140737488351232; omega), _, _, ?_, ?_, h2, ?_, h3⟩
    · simp only [V.l]; rw [flat2_len, hdl]
    · simp only [V.l]; rw [flat2_len, hdl]; exact h1
    · simp only [V.l]; rw [flat2_len, hdl]; omega
  have hrow := h
  obtain ⟨hxl, hor⟩ := h
  rcases hor with ⟨rfl, h0⟩ | ⟨g4, cap4, cur, rfl, hg4, hcur, hc1, hc2, hcs, hct⟩
  · have hm0 : m = 0 := by omega
    subst hm0
    have e0 : d.toList = [] := List.eq_nil_of_length_eq_zero hdl
    exact ⟨none, 0, rfl, Nat.le_refl _, Nat.zero_le _, key _ _ (Nat.le_refl _) (Nat.zero_le _) (.inl (by rw [e0]; rfl))⟩
  · exact ⟨_, _, rfl, hc1, hc2, key _ _ hc1 hc2 (.inr ⟨g4, 0, rfl, Nat.zero_le _, ls_flat hbr d.toList 0 fun i hi => by rw [Nat.zero_add]; exact hrow.cellAt i (by rw [hdl] at hi; omega)⟩)⟩

set_option maxHeartbeats 4000000 in
theorem map10 (l : List V) (sl : Value) (m : Nat) (w : World) (hS : Sl w 0 l sl) (hlen : l.length = 2 * m) (w1 : World) (hw1 : w1 = w.alloc (.cells #[.int .i64 0, .int .i64 0, .string ⟨#[]⟩, .slice none 0 0] 24)) (pr : Fin m → Pr w1)
    (c44 : Calls Tryz.prog 44 #[sl] w1 fun e w' => Sorted44 w1 m pr e w') :
    Calls Tryz.prog 10 #[sl] w fun e w' => ∃ d : Array (Pr w1), d.size = m ∧ Sort.PermIn 0 m (Array.ofFn pr) d ∧ Sort.SortedIn (ltOf keyCmp) 0 m d ∧ Mapped d w e w' := by
  obtain ⟨p, cap, rfl, hc, hcm, h56, -⟩ := hS
  unfold maxLen at hcm
  rw [hlen] at *
  unfold Sorted44 at c44
  have hq : w1.heap[w.heap.size]? = some (.cells #[.int .i64 0, .int .i64 0, .string ⟨#[]⟩, .slice none 0 0] 24) := by rw [hw1]; exact blk_new w _
  have hb0 : Below w.heap.size w w1 := by rw [hw1]; exact bel1 w _
  have hsz1 : w1.heap.size = w.heap.size + 1 := by rw [hw1]; simp
  go_enter Tryz.func10, Tryz.ntmps10
  go_wp2_with (go_at_call 44; rw [← hw1]; refine c44.mono ?_; rintro e w2 ⟨g, cap', d, rfl, hg1, hg2, hmc, hcm', hds, hH, hP, hSo, hb2⟩)
  have hq2 := blk_on hb2 hq
  have hbw2 := hb0.trans (hb2.mono (by omega))
  have hdl : d.toList.length = m := by simp [hds]
  unfold maxLen at hcm'
  clear c44 hq
  go_loopg [5] (m + 1) (fun c i wr => ∃ k q : Nat, c + k = m + 1 ∧ q = k + 1 ∧ k ≤ m ∧ i = .int .i64 q ∧ Hid (twice d.toList = twice (d.toList.drop k)) ∧ Below w2.heap.size w2 wr)
  case atStart => exact ⟨0, 1, rfl, rfl, by omega, rfl, rfl, Below.refl _ _⟩
  case round =>
    obtain ⟨k, q, hgk, hkq, hkm, rfl, htw, hB⟩ := hrel
    have hHr := holds_on hH hB
    by_cases hq3 : q < m
    · have hkm' : k < m := by omega
      obtain ⟨a0, a1, a2, a3, -⟩ := pair_cells hHr k (by omega)
      obtain ⟨b0, b1, b2, b3, -⟩ := pair_cells hHr q (by omega)
      have hbr := bel_then hb2 hB
      have hv1 := (d[k]'(by omega)).2.1.on hbr
      have hv2 := (d[q]'(by omega)).2.1.on hbr
      have c30 := fun w => same_any (d[k]'(by omega)).1.1.1 (d[q]'(by omega)).1.1.1 (d[k]'(by omega)).1.1.2 (d[q]'(by omega)).1.1.2 w
      have htd : Hid (twice d.toList = (decide (V.cmp (d[k]'(by omega)).1.1.1 (d[q]'(by omega)).1.1.1 = 0) || twice (d.toList.drop q))) := by
        subst hkq
        exact htw.out.trans (twice_drop (by omega))
      have w1' : IntKind.i64.wrap ((q : Int) - 1) = (k : Int) := by rw [IntKind.wrap_i64]; omega
      have w3' : IntKind.i64.wrap (k : Int) = (k : Int) := by rw [IntKind.wrap_i64]; omega
      have i0 : (0 : Int) ≤ k := by omega
      have i1 : (k : Int) < (m : Int) := by omega
      have i2 : (q : Int) < (m : Int) := by omega
      unfold V.agg at c30
      generalize (d[k]'(by omega)).1.1.1 = x at *
      generalize (d[k]'(by omega)).1.1.2 = sx at *
      generalize (d[q]'(by omega)).1.1.1 = y at *
      generalize (d[q]'(by omega)).1.1.2 = sy at *
      have hkq' : Hid (q = k + 1) := hkq
      have HP : Hid (Sort.PermIn 0 m (Array.ofFn pr) d) := hP
      have HS : Hid (Sort.SortedIn (ltOf keyCmp) 0 m d) := hSo
      clear hH hHr htw hkq hP hSo
      obtain ⟨cc, hcmp⟩ : ∃ c, decide (V.cmp x y = 0) = c := ⟨_, rfl⟩
      have hcb : (V.cmp x y == 0) = cc := by rw [← hcmp]; rfl
      rw [hcb] at c30
      rw [hcmp] at htd
      clear hcmp hcb
      obtain ⟨p1, n1, c1, rfl⟩ := hv1.header
      obtain ⟨p2, n2, c2, rfl⟩ := hv2.header
      go_wp2
      go_region_held3 (fun w' => w'.cell? ⟨g, k * 8, none⟩ = some (.int .i64 x.k) ∧ w'.cell? ⟨g, k * 8 + 1, none⟩ = some (.int .i64 x.n) ∧ w'.cell? ⟨g, k * 8 + 2, none⟩ = some (.string x.s) ∧ w'.cell? ⟨g, k * 8 + 3, none⟩ = some (.slice p1 n1 c1) ∧
          w'.cell? ⟨g, q * 8, none⟩ = some (.int .i64 y.k) ∧ w'.cell? ⟨g, q * 8 + 1, none⟩ = some (.int .i64 y.n) ∧ w'.cell? ⟨g, q * 8 + 2, none⟩ = some (.string y.s) ∧ w'.cell? ⟨g, q * 8 + 3, none⟩ = some (.slice p2 n2 c2))
        (first | exact ⟨a0, a1, a2, a3, b0, b1, b2, b3⟩ | exact ⟨some_on hb3 a0, some_on hb3 a1, some_on hb3 a2, some_on hb3 a3, some_on hb3 b0, some_on hb3 b1, some_on hb3 b2, some_on hb3 b3⟩)
        (first | (go_at_call 30; refine (c30 _ (hv1.on (Below.refl _ _).drew) (hv2.on (Below.refl _ _).drew)).mono ?_; rintro e w3 ⟨rfl, hb3'⟩; have hb3 := hb3'.bel))
      have hbw3 := bel_then hB (bel_then (Below.refl _ wr).drew hb3)
      cases cc
      · go_wp2
        have hkq := hkq'.out
        go_roundg (gk - 1)
        case rel => exact ⟨q, q + 1, by omega, rfl, by omega, by go_num, by show _ = _; rw [htd.out]; rfl, hbw3⟩
        case measure => omega
      · obtain ⟨y0, y1, y2, y3, yf⟩ := four_of (blk_on hbw3 hq2)
        go_wp2
        have hfin : Below w.heap.size w (put4 w3 w.heap.size 0 (.int .i64 0) (.int .i64 0) (.string ⟨#[]⟩) (.slice none 0 0)) := (hbw2.trans (hbw3.mono hbw2.size)).trans (below_put4 (Nat.le_refl _) _ _ _ _)
        have htt : twice d.toList = true := by rw [htd.out]; rfl
        have hgoal : ∃ d : Array (Pr w1), d.size = m ∧ Sort.PermIn 0 m (Array.ofFn pr) d ∧ Sort.SortedIn (ltOf keyCmp) 0 m d ∧ Mapped d w (.returned (.tuple #[zeroAgg, .int .i64 5])) (put4 w3 w.heap.size 0 (.int .i64 0) (.int .i64 0) (.string ⟨#[]⟩) (.slice none 0 0)) :=
          ⟨d, hds, HP.out, HS.out, hfin, fun _ => rfl, fun h => by rw [htt] at h; cases h⟩
        unfold put4 zeroAgg at hgoal
        clear htt hfin HP HS htd
        simp [bodyPost, results, Tryz.results10, go_sem, y0, y1, y2, y3]
        exact hgoal
    · have htt : twice d.toList = false := htw.out.trans (twice_end (by omega))
      have hHr' : Hid (HoldsK encP 8 wr g 0 d) := hHr
      have HP : Hid (Sort.PermIn 0 m (Array.ofFn pr) d) := hP
      have HS : Hid (Sort.SortedIn (ltOf keyCmp) 0 m d) := hSo
      have HT : Hid (twice d.toList = false) := htt
      obtain ⟨i0, hi, hz0, hz1, hz2⟩ := info_parts info24
      obtain ⟨wm, hmk, hrow0, hg0⟩ := run_make_own (P := Tryz.prog) (w := wr) w2.heap.size 22 24 i0 zVal 4 Tryz.underlying22 hi hz0 hz1 .i64 .i64 (2 * m) (by rw [hz2]; omega) (by unfold maxLen; omega) hB.size
      have hmk' : (Instr.makeSlice 22 (.int .i64 0) (.int .i64 (2 * (m : Int)))).run Tryz.prog wr = .ok (.slice (some ⟨wr.heap.size, 0, none⟩) 0 (2 * m)) wm := by
        have := hmk; push_cast at this; exact this
      clear hH hHr htw hP hSo htt hmk hkq
      go_wp2
      have hBm : Below w2.heap.size w2 wm := hB.grown hg0 hB.size (fun k e => by cases e)
      have hBr : Below wr.heap.size wr wm := (Below.refl _ wr).grown hg0 (Nat.le_refl _) (fun k e => by cases e)
      have hHm : Hid (HoldsK encP 8 wm g 0 d) := holds_on hHr'.out hBr
      have hgl : g < w2.heap.size := hg2
      clear hmk' hHr'
      go_loopg [6, 40] m (fun c v i wq => ∃ j : Nat, c + j = m ∧ i = .int .i64 j ∧ Hid (wq.ownsRow w2.heap.size 24 4 v (2 * j) ((d.toList.take j).flatMap encP)) ∧ Below w2.heap.size w2 wq ∧ Hid (HoldsK encP 8 wq g 0 d))
      case atStart => exact ⟨0, by omega, rfl, hrow0, hBm, hHm⟩
      case round =>
        obtain ⟨j, hgj, rfl, hrow, hBq, hHq⟩ := hrel
        by_cases hj : j < m
        · obtain ⟨a0, a1, a2, a3, b0, b1, b2, b3⟩ := pair_cells hHq.out j (by omega)
          have hbr := bel_then hb2 hBq
          obtain ⟨p1, n1, c1, e1⟩ := ((d[j]'(by omega)).2.1.on hbr).header
          obtain ⟨p2, n2, c2, e2⟩ := ((d[j]'(by omega)).2.2.on hbr).header
          have htake : Hid ((d.toList.take (j + 1)).flatMap encP = (d.toList.take j).flatMap encP ++ encP (d[j]'(by omega))) := by
            show _ = _
            rw [List.take_succ_eq_append_getElem (by omega), List.flatMap_append]; simp
          have henc : Hid (encP (d[j]'(by omega)) = [.int .i64 (d[j]'(by omega)).1.1.1.k, .int .i64 (d[j]'(by omega)).1.1.1.n, .string (d[j]'(by omega)).1.1.1.s, .slice p1 n1 c1, .int .i64 (d[j]'(by omega)).1.2.1.k, .int .i64 (d[j]'(by omega)).1.2.1.n, .string (d[j]'(by omega)).1.2.1.s, .slice p2 n2 c2]) := by
            show _ = _; simp only [encP, e1, e2]
          rw [e1] at a3; rw [e2] at b3
          clear e1 e2
          generalize (d[j]'(by omega)).1.1.1.k = k1 at *
          generalize (d[j]'(by omega)).1.1.1.n = k2 at *
          generalize (d[j]'(by omega)).1.1.1.s = k3 at *
          generalize (d[j]'(by omega)).1.2.1.k = k4 at *
          generalize (d[j]'(by omega)).1.2.1.n = k5 at *
          generalize (d[j]'(by omega)).1.2.1.s = k6 at *
          generalize encP (d[j]'(by omega)) = E at *
          go_wp2_with (at_builtin; refine wpList_append_own _ rfl _ _ 22 rfl w2.heap.size 24 i0 zVal 4 56 Tryz.underlying22 hi hz0 hz1 hz2 rfl (by decide) _ _ _ rfl (hrow.out.alloc _) ⟨wr.heap.size, 0, none⟩ 2 2 [.int .i64 k1, .int .i64 k2, .string k3, .slice p1 n1 c1, .int .i64 k4, .int .i64 k5, .string k6, .slice p2 n2 c2] rfl rfl (cells_new _ _ _) (by simp [Value.oneCell']) (by unfold maxLen; omega) (by omega) (by have := hBq.size; simp; omega) ?_; intro v' w4 hown' hgrow _)
          have hb4 : Below w2.heap.size wr w4 := ((Below.refl _ wr).alloc hBq.size _).grown hgrow (by have := hBq.size; simp; omega) (fun k e => (hrow.out.lt k e).1)
          have hH4 : HoldsK encP 8 w4 g 0 d := holds_below hHq.out hb4 hgl
          have hown4 : w4.ownsRow w2.heap.size 24 4 v' (2 * j + 2) ((d.toList.take j).flatMap encP ++ [.int .i64 k1, .int .i64 k2, .string k3, .slice p1 n1 c1, .int .i64 k4, .int .i64 k5, .string k6, .slice p2 n2 c2]) := hown'
          clear hown' hgrow
          go_roundg (gk - 1)
          case rel =>
            refine ⟨j + 1, by omega, by go_num, ?_, hBq.trans hb4, hH4⟩
            show World.ownsRow _ _ _ _ _ _ _
            rw [htake.out, henc.out, show 2 * (j + 1) = 2 * j + 2 by omega]
            exact hown4
          case measure => omega
        · obtain rfl : j = m := by omega
          have hbr := bel_then hb2 hBq
          have htk : d.toList.take j = d.toList := List.take_of_length_le (by omega)
          rw [htk] at hrow
          obtain ⟨p4, cap4, hv4, hc1, hc2, hIn⟩ := made_row hbr hdl (by omega) hrow.out
          subst hv4
          have c42 := checked42 _ _ wr hIn
          have hq4 := blk_on hBq hq2
          have hbww := hbw2.trans (hBq.mono hbw2.size)
          unfold Made V.agg at c42
          simp only [V.k, V.n, V.s] at c42
          generalize hX : V.mk 5 0 ⟨#[]⟩ (flat2 d.toList) = X at *
          obtain ⟨my, hmy⟩ : ∃ my, X.may 1 = my := ⟨_, rfl⟩
          rw [hmy] at c42
          clear hrow hHq
          have hlt : w.heap.size < wr.heap.size := by have := hbr.size; omega
          cases my
          · go_wp2_with (go_at_call 42; refine c42.mono ?_; rintro e w5 ⟨hb5, -, hF5⟩; obtain rfl := hF5 rfl; obtain ⟨y0, y1, y2, y3, yf⟩ := four_of (blk_on hb5 hq4); unfold zeroAgg)
            have hfin : Below w.heap.size w (put4 w5 w.heap.size 0 (.int .i64 0) (.int .i64 0) (.string ⟨#[]⟩) (.slice none 0 0)) := (hbww.trans (hb5.mono hbww.size)).trans (below_put4 (Nat.le_refl _) _ _ _ _)
            have hgoal : ∃ d : Array (Pr w1), d.size = j ∧ Sort.PermIn 0 j (Array.ofFn pr) d ∧ Sort.SortedIn (ltOf keyCmp) 0 j d ∧ Mapped d w (.returned (.tuple #[zeroAgg, .int .i64 20])) (put4 w5 w.heap.size 0 (.int .i64 0) (.int .i64 0) (.string ⟨#[]⟩) (.slice none 0 0)) :=
              ⟨d, hds, HP.out, HS.out, hfin, (fun h => by rw [HT.out] at h; cases h), fun _ => ⟨(fun h => by rw [hX, hmy] at h; cases h), fun _ => rfl⟩⟩
            unfold put4 zeroAgg at hgoal
            clear hfin HP HS HT c42 hIn
            simp [bodyPost, results, Tryz.results10, go_sem, y0, y1, y2, y3]
            exact hgoal
          · go_wp2_with (go_at_call 42; refine c42.mono ?_; rintro e w5 ⟨hb5, hT5, -⟩; obtain ⟨sl5, rfl, hin5⟩ := hT5 rfl; obtain ⟨p5, n5, c5, rfl⟩ := hin5.header; obtain ⟨y0, y1, y2, y3, yf⟩ := four_of (blk_on hb5 hq4))
            have hfin : Below w.heap.size w (put4 w5 w.heap.size 0 (.int .i64 5) (.int .i64 0) (.string ⟨#[]⟩) (.slice p5 n5 c5)) := (hbww.trans (hb5.mono hbww.size)).trans (below_put4 (Nat.le_refl _) _ _ _ _)
            have hin9 : X.In (put4 w5 w.heap.size 0 (.int .i64 5) (.int .i64 0) (.string ⟨#[]⟩) (.slice p5 n5 c5)) w.heap.size (.slice p5 n5 c5) :=
              V.In.keep (lo := wr.heap.size) (fun a v ha hc => set_other (set_other (set_other (set_other hc (.inl (by omega))) (.inl (by omega))) (.inl (by omega))) (.inl (by omega))) (by omega) X _ hin5
            have hgoal : ∃ d : Array (Pr w1), d.size = j ∧ Sort.PermIn 0 j (Array.ofFn pr) d ∧ Sort.SortedIn (ltOf keyCmp) 0 j d ∧ Mapped d w (.returned (.tuple #[.agg #[.int .i64 5, .int .i64 0, .string ⟨#[]⟩, .slice p5 n5 c5], .int .i64 0])) (put4 w5 w.heap.size 0 (.int .i64 5) (.int .i64 0) (.string ⟨#[]⟩) (.slice p5 n5 c5)) :=
              ⟨d, hds, HP.out, HS.out, hfin, (fun h => by rw [HT.out] at h; cases h), fun _ => ⟨(fun _ => ⟨.slice p5 n5 c5, rfl, by rw [hX]; exact hin9⟩), (fun h => by rw [hX, hmy] at h; cases h)⟩⟩
            unfold put4 at hgoal
            clear hfin HP HS HT c42 hIn hin9 hT5
            simp [bodyPost, results, Tryz.results10, go_sem, y0, y1, y2, y3]
            exact hgoal
end Go.Proofs.YtbicodlclmdgaaaGreatDoor
