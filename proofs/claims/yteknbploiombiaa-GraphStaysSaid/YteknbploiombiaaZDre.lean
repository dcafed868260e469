/-
  What Drop of package graph does: its errors, and an edge.
-/
import Derived.Test.YteknbploiombiaaZPinDrp
import Derived.Test.YteknbploiombiaaZOwf
namespace Go.Proofs.Yteknbploiombiaa
open Go.RowKit
set_option linter.unusedVariables false      -- a walk need not use every condition

theorem goes55 (x : Lk) (p : Option Addr) (n c : Nat) (id : Int) (B1 : Nat) (w : World) (h1 : w.cell? ⟨B1, 0, none⟩ = some (.int .i64 id)) :
    Calls Try.prog 55 #[.agg #[.int .i64 x.id, .string x.lb, .int .i64 x.out, .int .i64 x.inn, .slice p n c], .pointer (some ⟨B1, 0, none⟩)] w fun e w' => e = .returned (.bool (decide (x.id = id))) ∧ Below w.heap.size w w' := by
  have k1 := some_on (bel1 w (Obj.cells #[.int .i64 x.id, .string x.lb, .int .i64 x.out, .int .i64 x.inn, .slice p n c] 46)) h1
  have hb := Lib.hid (bel1 w (Obj.cells #[.int .i64 x.id, .string x.lb, .int .i64 x.out, .int .i64 x.inn, .slice p n c] 46))
  have hd : (x.id == id) = decide (x.id = id) := by rw [Bool.eq_iff_iff]; simp
  generalize decide (x.id = id) = A at *
  go_enter Try.func55, Try.ntmps55
  go_wp2
  go_ret
  exact ⟨by first | rfl | simp [hd], hb.out⟩
set_option maxRecDepth 100000 in
set_option maxHeartbeats 8000000 in
theorem without88_90 (l : List Lk) (sl : Value) (id : Int) (B1 lo : Nat) (w : World) (hs : Sq RL w lo l sl) (h1 : w.cell? ⟨B1, 0, none⟩ = some (.int .i64 id)) (hlo : lo ≤ w.heap.size) :
    Calls Try.prog 53 #[sl, .func (.func 55) #[] #[.pointer (some ⟨B1, 0, none⟩)]] w fun e w' => ∃ v, e = .returned v ∧ GrR RL 46 w' lo w.heap.size (l.filter (fun x => !(decide (x.id = id)))) v ∧ Below w.heap.size w w' := by
  obtain ⟨p, cap, rfl, hc, hcm, hby, hx⟩ := hs
  unfold maxLen at hcm
  have hx := Lib.hid hx
  have cg := fun (W : World) (hW : Below w.heap.size w W) (x : Lk) p n c => goes55 x p n c id B1 W (some_on hW h1)
  obtain ⟨f, hf⟩ : ∃ f : Lk → Bool, f = fun x => decide (x.id = id) := ⟨_, rfl⟩
  have hff : (fun x : Lk => !(decide (x.id = id))) = fun x => !f x := by rw [hf]
  rw [hff]
  have cg : ∀ (W : World) (hW : Below w.heap.size w W) (x : Lk) p n c, Calls Try.prog 55 #[.agg #[.int .i64 x.id, .string x.lb, .int .i64 x.out, .int .i64 x.inn, .slice p n c], .pointer (some ⟨B1, 0, none⟩)] W fun e w' => e = .returned (.bool (f x)) ∧ Below W.heap.size W w' := by rw [hf]; exact cg
  clear hff hf h1
  obtain ⟨N, hN⟩ : ∃ n, l.length = n := ⟨_, rfl⟩
  rw [hN] at hc hby ⊢
  have hby : N * 64 ≤ 140737488351232 := hby
  have hlen := Lib.hid hN
  clear hN
  obtain ⟨i0, hi, hz0, hz1, hz2⟩ := info_parts info46
  have hlo := Lib.hid hlo
  go_enter Try.func53, Try.ntmps53
  go_wp2
  go_loopg [10, 7, 5] N (fun c s10 s7 s5 wr => ∃ (i : Nat) (q : Option Addr) (m d : Nat), i + c = N ∧ s10 = .int .i64 i ∧ s5 = .slice q m d ∧ Hid (Below w.heap.size w wr) ∧ Hid (GrR RL 46 wr lo w.heap.size ((l.take i).filter (fun x => !f x)) (.slice q m d)))
  case atStart => exact ⟨0, none, 0, 0, by omega, rfl, rfl, Below.refl _ _, grR_nil _ _ _ _ _⟩
  case round =>
    obtain ⟨i, q, m, d, hig, rfl, rfl, hB, hgr⟩ := hrel
    cases gk with
    | succ c =>
      have hil : i < l.length := by have := hlen.out; omega
      have hiz : (i : Int) < (N : Int) := by omega
      have hiz0 : (0 : Int) ≤ (i : Int) := by omega
      obtain ⟨b, o, rfl, hlb, hx1⟩ := hx.out.resolve_left (by rintro rfl; simp at hil)
      obtain ⟨s1, hat, hv1⟩ := hx1.at i hil
      obtain ⟨p1, n1, c1, rfl⟩ := hdL hv1
      obtain ⟨a0, a1, a2, a3, a4⟩ := ats5 (hat.keep (keep_below hB.out) hlb)
      simp only [show RL.n = 5 from rfl] at a0 a1 a2 a3 a4
      have htf := Lib.hid (take_fltr hil (fun x => !f x))
      have hfl : Hid (((l.take i).filter (fun x => !f x)).length ≤ i) := by
        show _ ≤ _
        exact Nat.le_trans (List.length_filter_le _ _) (by simp; omega)
      have hm : Hid (m = ((l.take i).filter (fun x => !f x)).length) := by
        show _ = _
        obtain ⟨_, _, e, _⟩ := hgr.out.form
        injection e
      have hv1 := Lib.hid hv1
      clear hat hx1 hx
      generalize l[i] = x at *
      generalize (l.take i).filter (fun x => !f x) = L at *
      have hBW := Lib.hid (bel_then hB.out (bel1 wr (Obj.cells #[.int .i64 x.id, .string x.lb, .int .i64 x.out, .int .i64 x.inn, .slice p1 n1 c1] 46)))
      have hbl := Lib.hid (World.alloc_heap_new wr (Obj.cells #[.int .i64 x.id, .string x.lb, .int .i64 x.out, .int .i64 x.inn, .slice p1 n1 c1] 46))
      have hb1 := Lib.hid (bel1 wr (Obj.cells #[.int .i64 x.id, .string x.lb, .int .i64 x.out, .int .i64 x.inn, .slice p1 n1 c1] 46))
      have c66 := cg _ hBW.out x p1 n1 c1
      generalize hfx : f x = fx at *
      cases fx with
      | true =>
        go_wp2_with (go_at_call 55; refine c66.mono ?_; rintro e w2 ⟨rfl, hb2⟩; have HB2 := Lib.hid (bel_then hb1.out hb2); clear hb2 c66)
        go_roundg c
        case measure => omega
        case rel => exact ⟨i + 1, q, m, d, by omega, by first | rfl | simp, rfl, bel_then hB.out HB2.out, by show GrR _ _ _ _ _ _ _; rw [htf.out]; simpa using hgr.out.on HB2.out⟩
      | false =>
        have hu := Lib.hid (fun (W : World) (hW : Below wr.heap.size wr W) => (show ∀ a c', w.cell? a = some c' → W.cell? a = some c' ∧ some a.block ≠ (Value.slice q m d).ownBlock from fun a c' hc' => ⟨some_on hW (some_on hB.out hc'), fun e => by have := (hgr.out.lt e.symm).1; have := cell_lt hc'; omega⟩))
        go_wp2_with (first
          | (go_at_call 55; refine c66.mono ?_; rintro e w2 ⟨rfl, hb2⟩; have HB2 := Lib.hid (bel_then hb1.out hb2); obtain ⟨u0, u1, u2, u3, u4, uf⟩ := five_of (blk_on hb2 hbl.out); clear hb2 c66)
          | (at_builtin; refine wpList_gro len_RL (by decide) 25 46 i0 zLk Try.underlying25 hi hz0 hz1 hz2 rfl _ rfl _ _ rfl lo w.heap.size _ L _ x (.slice p1 n1 c1) w rfl (by exact (hgr.out.on HB2.out).alloc _) rfl hv1.out (by exact hu.out _ (bel_then HB2.out (bel1 _ _))) (by exact new_ats' _ (RL.cs x (.slice p1 n1 c1)) 46 (by simp)) (by intro c hc; simp only [RL, List.mem_cons, List.not_mem_nil, or_false] at hc; rcases hc with rfl | rfl | rfl | rfl | rfl <;> rfl) (by have := hfl.out; unfold maxLen; omega) (by have := hfl.out; show (L.length + 1) * 64 ≤ _; omega) (by have := (bel_then hB.out HB2.out).size; simp; omega) ?_; intro g5 cap5 w5 hG5 hgr5 hg5; have HG := Lib.hid (And.intro hG5 (gro_below ((hgr.out.on HB2.out).alloc _) hgr5 (Nat.le_refl _) (by have := (bel_then hB.out HB2.out).size; simp; omega))); clear hG5 hgr5 hg5))
        go_roundg c
        case measure => omega
        case rel => exact ⟨i + 1, _, _, _, by omega, by first | rfl | simp, rfl, (bel_then hB.out (bel_then HB2.out (bel1 _ _))).trans HG.out.2, by show GrR _ _ _ _ _ _ _; rw [htf.out]; simpa using HG.out.1⟩
    | zero =>
      obtain rfl : i = N := by omega
      have hfin : Hid (GrR RL 46 wr lo w.heap.size (l.filter (fun x => !f x)) (.slice q m d)) := by
        have := hgr.out
        rwa [← hlen.out, List.take_length] at this
      clear hgr hx cg
      go_wp2
      go_ret
      exact ⟨_, rfl, hfin.out, hB.out⟩

def gDropE (g : Gg) (id : Int) : Gg := { g with es := g.es.filter (fun x => !(decide (x.id = id))) }
theorem fin3 {g : Gg} {w W : World} {s1 s2 : Value} {last : Int} (hl : g.last = last) (h : Gg.In W (w.heap.size + 3) g s1 s2) (hb : Below w.heap.size w W) :
    Gg.In (((W.setCell ⟨w.heap.size + 1 + 1, 0, none⟩ s1).setCell ⟨w.heap.size + 1 + 1, 1, none⟩ s2).setCell ⟨w.heap.size + 1 + 1, 2, none⟩ (.int .i64 last)) w.heap.size g s1 s2 ∧
    Below w.heap.size w (((W.setCell ⟨w.heap.size + 1 + 1, 0, none⟩ s1).setCell ⟨w.heap.size + 1 + 1, 1, none⟩ s2).setCell ⟨w.heap.size + 1 + 1, 2, none⟩ (.int .i64 last)) := by
  have k : KeepB (w.heap.size + 3) W (((W.setCell ⟨w.heap.size + 1 + 1, 0, none⟩ s1).setCell ⟨w.heap.size + 1 + 1, 1, none⟩ s2).setCell ⟨w.heap.size + 1 + 1, 2, none⟩ (.int .i64 last)) := ((keepB_set (by omega)).trans (keepB_set (by omega))).trans (keepB_set (by omega))
  refine ⟨h.keep k.keep (by omega), ?_⟩
  exact ((hb.setCell (p := ⟨w.heap.size + 1 + 1, 0, none⟩) (by show w.heap.size ≤ w.heap.size + 1 + 1; omega) _).setCell (p := ⟨w.heap.size + 1 + 1, 1, none⟩) (by show w.heap.size ≤ w.heap.size + 1 + 1; omega) _).setCell (p := ⟨w.heap.size + 1 + 1, 2, none⟩) (by show w.heap.size ≤ w.heap.size + 1 + 1; omega) _
set_option maxRecDepth 100000 in
set_option maxHeartbeats 8000000 in
theorem drop_no (g : Gg) (sv se : Value) (k id : Int) (s : ByteArray) (lx : List V) (r : Option Addr) (m d : Nat) (w : World) (hg : Gg.In w 0 g sv se) (hem : (V.mk k id s lx).In w 0 (.slice r m d)) (hm : gMay g = false) :
    Calls Try.prog 22 #[g.agg sv se, .agg #[.int .i64 k, .int .i64 id, .string s, .slice r m d]] w fun e w' => Chg2 g 103 w e w' := by
  replace hem := Lib.hid hem
  obtain ⟨pv, cv, rfl⟩ := hg.2.1.header
  obtain ⟨pe, ce, rfl⟩ := hg.2.2.header
  have hl64 := Lib.hid hg.1
  obtain ⟨nv, hnv⟩ : ∃ n, g.vs.length = n := ⟨_, rfl⟩
  obtain ⟨ne, hne⟩ : ∃ n, g.es.length = n := ⟨_, rfl⟩
  rw [hnv, hne] at hg ⊢
  have c77 := fun W hW => own39' g pv pe nv ne cv ce hnv hne W (hg.on hW)
  rw [err_no hm] at c77
  clear hg
  replace hnv := Lib.hid hnv
  replace hne := Lib.hid hne
  unfold Chg2 Gg.agg
  go_enter Try.func22, Try.ntmps22
  go_wp2_with (fail)
  refine (c77 _ (bel_then (bel2 w _ _) (bel1 _ _))).mono ?_
  rintro e w1 ⟨p, q, rfl, ho, hb1⟩
  have T2 := World.alloc_heap_new ((w.alloc (.cells #[.slice pv nv cv, .slice pe ne ce, .int .i64 g.last] 27)).alloc (.cells #[.int .i64 k, .int .i64 id, .string s, .slice r m d] 30)) (.cells #[.slice none 0 0, .slice none 0 0, .int .i64 0] 27)
  simp only [World.size_alloc] at T2
  replace T2 := Lib.hid (blk_on hb1 T2)
  obtain ⟨t0, t1, HF⟩ := own_fin3 ho hb1
  obtain ⟨x0, x1, x2, fx⟩ := three_of t0
  obtain ⟨y0, y1, y2, y3⟩ := four_cells t1
  replace HF := Lib.hid HF
  clear ho hb1 c77 t0 t1
  clear y0 y1 y2 y3
  obtain ⟨z0, z1, z2, fz⟩ := three_of T2.out
  go_wp2
  have fin := fin3 (s1 := .slice p nv nv) (s2 := .slice q ne ne) (last := g.last) rfl HF.out.2.2.2.1.is HF.out.2.2.2.2.1
  obtain ⟨r0, r1, r2, -⟩ := three_of HF.out.2.2.1
  simp [bodyPost, results, Try.results22, go_sem, r0, r1, r2]
  exact ⟨_, _, ⟨rfl, rfl⟩, fin⟩
set_option maxRecDepth 100000 in
set_option maxHeartbeats 8000000 in
theorem drop_el (g : Gg) (sv se : Value) (k id : Int) (s : ByteArray) (lx : List V) (r : Option Addr) (m d : Nat) (w : World) (hg : Gg.In w 0 g sv se) (hem : (V.mk k id s lx).In w 0 (.slice r m d)) (hm : gMay g = true) (hel : elPs g (ek k s lx) id = none) :
    Calls Try.prog 22 #[g.agg sv se, .agg #[.int .i64 k, .int .i64 id, .string s, .slice r m d]] w fun e w' => Chg2 g 101 w e w' := by
  replace hem := Lib.hid hem
  obtain ⟨pv, cv, rfl⟩ := hg.2.1.header
  obtain ⟨pe, ce, rfl⟩ := hg.2.2.header
  have hl64 := Lib.hid hg.1
  obtain ⟨nv, hnv⟩ : ∃ n, g.vs.length = n := ⟨_, rfl⟩
  obtain ⟨ne, hne⟩ : ∃ n, g.es.length = n := ⟨_, rfl⟩
  rw [hnv, hne] at hg ⊢
  have c77 := fun W hW => own39' g pv pe nv ne cv ce hnv hne W (hg.on hW)
  rw [err_yes hm] at c77
  clear hg
  replace hnv := Lib.hid hnv
  replace hne := Lib.hid hne
  unfold Chg2 Gg.agg
  go_enter Try.func22, Try.ntmps22
  go_wp2_with (fail)
  refine (c77 _ (bel_then (bel2 w _ _) (bel1 _ _))).mono ?_
  rintro e w1 ⟨p, q, rfl, ho, hb1⟩
  have T2 := World.alloc_heap_new ((w.alloc (.cells #[.slice pv nv cv, .slice pe ne ce, .int .i64 g.last] 27)).alloc (.cells #[.int .i64 k, .int .i64 id, .string s, .slice r m d] 30)) (.cells #[.slice none 0 0, .slice none 0 0, .int .i64 0] 27)
  simp only [World.size_alloc] at T2
  replace T2 := Lib.hid (blk_on hb1 T2)
  obtain ⟨t0, t1, HF⟩ := own_fin3 ho hb1
  obtain ⟨x0, x1, x2, fx⟩ := three_of t0
  obtain ⟨y0, y1, y2, y3⟩ := four_cells t1
  replace HF := Lib.hid HF
  clear ho hb1 c77 t0 t1
  obtain ⟨y0', y1', y2', y3'⟩ := four_cells HF.out.2.1
  go_wp2_with (fail)
  clear x0 x1 x2 fx y0 y1 y2 y3 y0' y1' y2' y3' T2
  generalize (((w1.setCell ⟨w.heap.size, 0, none⟩ (.slice p nv nv)).setCell ⟨w.heap.size, 1, none⟩ (.slice q ne ne)).setCell ⟨w.heap.size, 2, none⟩ (.int .i64 g.last)) = W2 at *
  have c78 : Calls Try.prog 40 #[.pointer (some ⟨w.heap.size, 0, none⟩), .agg #[.int .i64 k, .int .i64 id, .string s, .slice r m d]] W2 fun e W3 => Below W2.heap.size W2 W3 ∧ e = .returned (.pointer none) := by
    have hin := HF.out.2.2.2.1.is
    by_cases h6 : k = 6
    · subst h6
      refine (pin_v g.vs p nv (.slice q ne ne) g.last w.heap.size id s lx r m d W2 (by rw [hnv.out]; exact HF.out.1) (by rw [hnv.out]; exact hin.2.1.low (Nat.zero_le _)) (hem.out.on HF.out.2.2.2.2.1)).mono ?_
      rintro e W3 ⟨hb, ⟨i, hi, hpl, h1, h2, b, o, rfl, rfl⟩ | ⟨h1, rfl⟩⟩
      · rw [elv_yes hpl (find_at_v hi h1 h2)] at hel; cases hel
      · exact ⟨hb, rfl⟩
    · by_cases h7 : k = 7
      · subst h7
        refine (pin_e g.es q ne (.slice p nv nv) g.last w.heap.size id s lx r m d W2 (by rw [hne.out]; exact HF.out.1) (by rw [hne.out]; exact hin.2.2.low (Nat.zero_le _)) (hem.out.on HF.out.2.2.2.2.1)).mono ?_
        rintro e W3 ⟨hb, ⟨i, hi, hpl, h1, h2, b, o, rfl, rfl⟩ | ⟨h1, rfl⟩⟩
        · rw [ele_yes hpl (find_at_e hi h1 h2)] at hel; cases hel
        · exact ⟨hb, rfl⟩
      · exact (pin_o w.heap.size k id s r m d W2 h6 h7).mono fun e W3 h => h
  refine c78.mono ?_
  rintro e W3 ⟨hb3, rfl⟩
  have HF3 := Lib.hid (HF.out.on hb3)
  clear hb3 c78 HF
  obtain ⟨x0, x1, x2, fx⟩ := three_of HF3.out.1
  obtain ⟨z0, z1, z2, fz⟩ := three_of HF3.out.2.2.1
  have hnil := nilP0 W3
  go_wp2
  have fin := fin3 (s1 := .slice p nv nv) (s2 := .slice q ne ne) (last := g.last) rfl HF3.out.2.2.2.1.is HF3.out.2.2.2.2.1
  obtain ⟨r0, r1, r2, -⟩ := three_of HF3.out.2.2.1
  simp [bodyPost, results, Try.results22, go_sem, r0, r1, r2]
  exact ⟨_, _, ⟨rfl, rfl⟩, fin⟩
set_option maxRecDepth 100000 in
set_option maxHeartbeats 8000000 in
theorem drop_ed (g : Gg) (sv se : Value) (k id : Int) (s : ByteArray) (lx : List V) (r : Option Addr) (m d : Nat) (w : World) (hg : Gg.In w 0 g sv se) (hem : (V.mk k id s lx).In w 0 (.slice r m d)) (hm : gMay g = true) (h7 : k = 7) (hpl : plain s lx = true) (ps : List Pr) (hel : ePs g.es id = some ps) :
    Calls Try.prog 22 #[g.agg sv se, .agg #[.int .i64 k, .int .i64 id, .string s, .slice r m d]] w fun e w' => Chg2 (gDropE g id) 0 w e w' := by
  replace hem := Lib.hid hem
  obtain ⟨pv, cv, rfl⟩ := hg.2.1.header
  obtain ⟨pe, ce, rfl⟩ := hg.2.2.header
  have hl64 := Lib.hid hg.1
  obtain ⟨nv, hnv⟩ : ∃ n, g.vs.length = n := ⟨_, rfl⟩
  obtain ⟨ne, hne⟩ : ∃ n, g.es.length = n := ⟨_, rfl⟩
  rw [hnv, hne] at hg ⊢
  have c77 := fun W hW => own39' g pv pe nv ne cv ce hnv hne W (hg.on hW)
  rw [err_yes hm] at c77
  clear hg
  replace hnv := Lib.hid hnv
  replace hne := Lib.hid hne
  unfold Chg2 Gg.agg
  have hlast : (gDropE g id).last = g.last := rfl
  rw [hlast]
  subst h7
  go_enter Try.func22, Try.ntmps22
  go_wp2_with (fail)
  refine (c77 _ (bel_then (bel2 w _ _) (bel1 _ _))).mono ?_
  rintro e w1 ⟨p, q, rfl, ho, hb1⟩
  have T2 := World.alloc_heap_new ((w.alloc (.cells #[.slice pv nv cv, .slice pe ne ce, .int .i64 g.last] 27)).alloc (.cells #[.int .i64 7, .int .i64 id, .string s, .slice r m d] 30)) (.cells #[.slice none 0 0, .slice none 0 0, .int .i64 0] 27)
  simp only [World.size_alloc] at T2
  replace T2 := Lib.hid (blk_on hb1 T2)
  obtain ⟨t0, t1, HF⟩ := own_fin3 ho hb1
  obtain ⟨x0, x1, x2, fx⟩ := three_of t0
  obtain ⟨y0, y1, y2, y3⟩ := four_cells t1
  replace HF := Lib.hid HF
  clear ho hb1 c77 t0 t1
  obtain ⟨y0', y1', y2', y3'⟩ := four_cells HF.out.2.1
  go_wp2_with (fail)
  clear x0 x1 x2 fx y0 y1 y2 y3 y0' y1' y2' y3' T2
  generalize (((w1.setCell ⟨w.heap.size, 0, none⟩ (.slice p nv nv)).setCell ⟨w.heap.size, 1, none⟩ (.slice q ne ne)).setCell ⟨w.heap.size, 2, none⟩ (.int .i64 g.last)) = W2 at *
  have c78 : Calls Try.prog 40 #[.pointer (some ⟨w.heap.size, 0, none⟩), .agg #[.int .i64 7, .int .i64 id, .string s, .slice r m d]] W2 fun e W3 => Below W2.heap.size W2 W3 ∧ ∃ a, e = .returned (.pointer (some a)) := by
    have hin := HF.out.2.2.2.1.is
    refine (pin_e g.es q ne (.slice p nv nv) g.last w.heap.size id s lx r m d W2 (by rw [hne.out]; exact HF.out.1) (by rw [hne.out]; exact hin.2.2.low (Nat.zero_le _)) (hem.out.on HF.out.2.2.2.2.1)).mono ?_
    rintro e W3 ⟨hb, ⟨i, hi, -, h1, h2, b, o, rfl, rfl⟩ | ⟨h1, rfl⟩⟩
    · exact ⟨hb, _, rfl⟩
    · rw [find_no_e (fun t ht => h1 t ht hpl)] at hel; cases hel
  refine c78.mono ?_
  rintro e W3 ⟨hb3, a, rfl⟩
  have HF3 := Lib.hid (HF.out.on hb3)
  clear hb3 c78 HF
  have hnil := nilP W3 a
  obtain ⟨y0, y1, y2, y3⟩ := four_cells HF3.out.2.1
  have hbT := Lib.hid (bel1 W3 (Obj.cells #[.int .i64 id] 2))
  have hT := Lib.hid (Boxed.new W3 2 (.int .i64 id))
  have HF4 := Lib.hid (HF3.out.on hbT.out)
  obtain ⟨x0', x1', x2', fx'⟩ := three_of HF4.out.1
  obtain ⟨y0', y1', y2', y3'⟩ := four_cells HF4.out.2.1
  go_wp2_with (fail)
  clear y0 y1 y2 y3 x0' x1' x2' fx' y0' y1' y2' y3' hnil
  have hT' := hT.out
  generalize hTe : W3.alloc (Obj.cells #[.int .i64 id] 2) = W4 at *
  have hz4 := HF4.out.2.2.2.2.2
  have c88 := without88_90 g.es (.slice q ne ne) id W3.heap.size (w.heap.size + 3) W4 HF4.out.2.2.2.1.e.sq hT'.cell hz4
  refine c88.mono ?_
  rintro e W5 ⟨v1, rfl, hG5, hb5⟩
  obtain ⟨p5, cap5, rfl, -⟩ := hG5.form
  have hmm := gMay_last hm
  have hE : (g.es.filter fun x => !(decide (x.id = id))).length ≤ g.es.length := List.length_filter_le _ _
  have hsq : Sq RL W5 (w.heap.size + 3) (gDropE g id).es (.slice p5 (g.es.filter fun x => !(decide (x.id = id))).length cap5) := hG5.sq hz4 (by show _ * 64 ≤ _; omega)
  obtain ⟨n5, hn5⟩ : ∃ n, (g.es.filter fun x => !(decide (x.id = id))).length = n := ⟨_, rfl⟩
  rw [hn5] at hsq
  have hes : (gDropE g id).es.length = n5 := hn5
  have HF5 := Lib.hid (HF4.out.on hb5)
  have hGin : Gg.In W5 (w.heap.size + 3) (gDropE g id) (.slice p nv nv) (.slice p5 n5 cap5) := ⟨hl64.out, HF5.out.2.2.2.1.v.sq, hsq⟩
  have hGin6 := hGin.keep (w' := W5.setCell ⟨w.heap.size, 1, none⟩ (.slice p5 n5 cap5)) (keepB_set (by omega)).keep (Nat.le_refl _)
  have g0 := blk_set3b (b' := .slice p5 n5 cap5) HF5.out.1
  have g2 := blk_oth (i := 1) (c := .slice p5 n5 cap5) (B' := w.heap.size) HF5.out.2.2.1 (by omega)
  have b6 := HF5.out.2.2.2.2.1.setCell (p := ⟨w.heap.size, 1, none⟩) (Nat.le_refl _) (.slice p5 n5 cap5)
  replace g2 := Lib.hid g2
  replace b6 := Lib.hid b6
  replace hGin6 := Lib.hid hGin6
  obtain ⟨x0, x1, x2, fx⟩ := three_of HF5.out.1
  obtain ⟨z0, z1, z2, fz⟩ := three_of HF5.out.2.2.1
  clear c88 hG5 hb5 hT' hT hbT HF4 hsq hGin hmm hE g0 hTe hz4
  simp only [hn5]
  replace hn5 := Lib.hid hn5
  replace hes := Lib.hid hes
  go_wp2
  have fin := fin3 (s1 := .slice p nv nv) (s2 := .slice p5 n5 cap5) hlast hGin6.out b6.out
  obtain ⟨r0, r1, r2, -⟩ := three_of g2.out
  simp [bodyPost, results, Try.results22, go_sem, r0, r1, r2]
  exact ⟨_, _, ⟨rfl, rfl⟩, fin⟩

def gDrop (g : Gg) (k id : Int) : Gg × Int := if gMay g = false then (g, 103) else if elPs g k id = none then (g, 101) else if k = 6 then (gDropV g id, 0) else (gDropE g id, 0)
theorem elPs_six {g : Gg} {id : Int} (h : elPs g 6 id ≠ none) : hasV g.vs id = true := by
  unfold elPs at h
  rw [if_pos rfl] at h
  cases hh : hasV g.vs id with
  | true => rfl
  | false =>
    refine absurd (find_no_v fun t ht e => ?_) h
    rw [hasV_yes ht e] at hh; cases hh
/-- What Drop does. -/
theorem drop22 (g : Gg) (sv se : Value) (k id : Int) (s : ByteArray) (lx : List V) (r : Option Addr) (m d : Nat) (w : World) (hg : Gg.In w 0 g sv se) (hem : (V.mk k id s lx).In w 0 (.slice r m d)) :
    Calls Try.prog 22 #[g.agg sv se, .agg #[.int .i64 k, .int .i64 id, .string s, .slice r m d]] w fun e w' => Chg2 (gDrop g (ek k s lx) id).1 (gDrop g (ek k s lx) id).2 w e w' := by
  replace hem := Lib.hid hem
  unfold gDrop
  by_cases hm : gMay g = false
  · rw [if_pos hm]
    exact drop_no g sv se k id s lx r m d w hg hem.out hm
  rw [if_neg hm]
  replace hm : gMay g = true := by simpa using hm
  by_cases hel : elPs g (ek k s lx) id = none
  · rw [if_pos hel]
    exact drop_el g sv se k id s lx r m d w hg hem.out hm hel
  rw [if_neg hel]
  by_cases h6 : ek k s lx = 6
  · rw [if_pos h6]
    obtain ⟨hk, hpl⟩ := ek_six (g := g) (id := id) h6
    subst hk
    rw [ek_yes hpl] at hel
    refine (drop22v g sv se id s lx r m d w hg hm (elPs_six hel) hem.out hpl).mono ?_
    rintro e w' ⟨s1, s2, h1, h2, h3⟩
    exact ⟨s1, s2, h1, h2, h3⟩
  · rw [if_neg h6]
    have hel' := hel
    unfold elPs at hel'
    rw [if_neg h6] at hel'
    by_cases h7 : ek k s lx = 7
    · rw [if_pos h7] at hel'
      obtain ⟨hk, hpl⟩ := ek_seven h7
      cases he : ePs g.es id with
      | none => exact absurd he hel'
      | some ps => exact drop_ed g sv se k id s lx r m d w hg hem.out hm hk hpl ps he
    · rw [if_neg h7] at hel'; exact absurd rfl hel'
end Go.Proofs.Yteknbploiombiaa
