/-
  Which edges are picked: Out and In of package graph.
  Which edges are picked: Out and In of package graph.
-/
import Derived.Test.YteknbploiombiaaZAmg
import Derived.Deep.RegionWith
import Derived.RangeFuncBox
namespace Go.Proofs.Yteknbploiombiaa
open Go.RowKit Go.Shelf
set_option linter.unusedVariables false      -- a walk need not use every condition

theorem take_filter {α : Type} {l : List α} {i : Nat} (hi : i < l.length) (f : α → Bool) : (l.take (i + 1)).filter f = (l.take i).filter f ++ (if f l[i] = true then [l[i]] else []) := by
  rw [List.take_succ_eq_append_getElem hi, List.filter_append]
  congr 1
  cases h : f l[i] <;> simp [h]
theorem take_filter_yes {α : Type} {l : List α} {i : Nat} (hi : i < l.length) (f : α → Bool) (h : f l[i] = true) : (l.take (i + 1)).filter f = (l.take i).filter f ++ [l[i]] := by rw [take_filter hi, if_pos h]
theorem take_filter_no {α : Type} {l : List α} {i : Nat} (hi : i < l.length) (f : α → Bool) (h : f l[i] = false) : (l.take (i + 1)).filter f = (l.take i).filter f := by rw [take_filter hi, if_neg (by simp [h])]; simp
theorem one_RL (x : Lk) {p : Option Addr} {n c : Nat} : ∀ u ∈ RL.cs x (.slice p n c), u.oneCell' = true := by
  intro u hu
  simp only [RL, List.mem_cons, List.not_mem_nil, or_false] at hu
  rcases hu with rfl | rfl | rfl | rfl | rfl <;> rfl
theorem new_ats (w : World) (cs : List Value) (t : TypeId) : Ats (w.alloc (.cells cs.toArray t)) w.heap.size 0 cs := fun j u h => by
  have e := World.alloc_heap_new w (.cells cs.toArray t)
  simp only [World.cell?, e]
  simpa using h
/-- One edge more, cloned, behind the row. -/
theorem pick_run (w2 w3 : World) (n₀ : Nat) (l : List Lk) (v : Value) (x : Lk) (p : Option Addr) (n c : Nat) (h : GrR RL 46 w2 n₀ n₀ l v) (hb : Below w2.heap.size w2 w3) (hin : RL.In w3 w2.heap.size x (.slice p n c)) (hn₀ : n₀ ≤ w2.heap.size) (hm : (l.length + 1) * 64 ≤ 140737488355328) (ty : TypeId) :
    ∃ g cap w', (Builtin.append_ #[25, 25] ty #[v, .slice (some ⟨w3.heap.size, 0, none⟩) 1 1]).run Try.prog (w3.alloc (.cells #[.int .i64 x.id, .string x.lb, .int .i64 x.out, .int .i64 x.inn, .slice p n c] 46)) = .ok (.slice (some ⟨g, 0, none⟩) (l.length + 1) cap) w' ∧
      GrR RL 46 w' n₀ n₀ (l ++ [x]) (.slice (some ⟨g, 0, none⟩) (l.length + 1) cap) ∧ (w3.alloc (.cells #[.int .i64 x.id, .string x.lb, .int .i64 x.out, .int .i64 x.inn, .slice p n c] 46)).grownBy w' v.ownBlock ∧ n₀ ≤ g := by
  obtain ⟨i0, hi, hz0, hz1, hz2⟩ := info_parts info46
  have h3 := h.on hb
  have h4 := h3.on (bel1 w3 (.cells #[.int .i64 x.id, .string x.lb, .int .i64 x.out, .int .i64 x.inn, .slice p n c] 46))
  obtain ⟨u, hu1, hu2⟩ := frag_of (B := v.ownBlock) hin (fun b e => (h.lt e).2)
  refine gro_run len_RL (by decide) 25 46 i0 zLk Try.underlying25 hi hz0 hz1 hz2 rfl _ n₀ n₀ w3.heap.size l v x (.slice p n c) u h4 (RL.low hn₀ hu1) (fun a c' hc => ⟨some_on (bel1 w3 _) (hu2 a c' hc).1, (hu2 a c' hc).2⟩) (new_ats w3 (RL.cs x (.slice p n c)) 46) (one_RL x) ?_ hm (by have := hb.size; simp; omega) ty
  have : (l.length + 1) * 64 ≤ 140737488355328 := hm
  unfold maxLen; omega

/-- What a pick leaves. -/
theorem pick_fin {w2 w3 w4 : World} {P n3 c3 : Nat} {p3 : Option Addr} {v v4 : Value} {x : Lk} {L L4 : List Lk} (hP : Boxed w2 P 25 v) (hG : GrR RL 46 w2 (P + 1) (P + 1) L v) (hb : Below w2.heap.size w2 w3)
    (hg : (w3.alloc (.cells #[.int .i64 x.id, .string x.lb, .int .i64 x.out, .int .i64 x.inn, .slice p3 n3 c3] 46)).grownBy w4 v.ownBlock) (hG4 : GrR RL 46 w4 (P + 1) (P + 1) L4 v4) (hz : P + 1 ≤ w2.heap.size) :
    Boxed w3 P 25 v ∧ Boxed w4 P 25 v ∧ Boxed (w4.setCell ⟨P, 0, none⟩ v4) P 25 v4 ∧ GrR RL 46 (w4.setCell ⟨P, 0, none⟩ v4) (P + 1) (P + 1) L4 v4 ∧ Below P w2 (w4.setCell ⟨P, 0, none⟩ v4) ∧ P + 1 ≤ (w4.setCell ⟨P, 0, none⟩ v4).heap.size := by
  have h3 : Boxed w3 P 25 v := blk_on hb hP
  have hne : some P ≠ v.ownBlock := fun e => by have := (hG.lt e.symm).1; omega
  have h4 : Boxed w4 P 25 v := (h3.alloc _).kept hg hne
  have z3 := hb.size
  have bb : Below P (w3.alloc (.cells #[.int .i64 x.id, .string x.lb, .int .i64 x.out, .int .i64 x.inn, .slice p3 n3 c3] 46)) w4 := gro_below ((hG.on hb).on (bel1 w3 _)) hg (by omega) (by simp; omega)
  have b2 : Below P w2 w4 := ((hb.mono (by omega)).trans ((bel1 w3 _).mono (by omega))).trans bb
  have b5 := b2.setCell (p := ⟨P, 0, none⟩) (Nat.le_refl P) v4
  exact ⟨h3, h4, h4.set v4, hG4.put (Nat.le_refl _) (by omega) 0 v4, b5, (h4.set v4).lt⟩

theorem want32 (x : Lk) (p : Option Addr) (n c : Nat) (id : Int) (ls : List ByteArray) (q : Option Addr) (k d B1 B2 : Nat) (w : World) (h1 : w.cell? ⟨B1, 0, none⟩ = some (.int .i64 id)) (h2 : w.cell? ⟨B2, 0, none⟩ = some (.slice q k d)) (hs : Sq RB w 0 ls (.slice q k d)) :
    Calls Try.prog 32 #[.agg #[.int .i64 x.id, .string x.lb, .int .i64 x.out, .int .i64 x.inn, .slice p n c], .pointer (some ⟨B1, 0, none⟩), .pointer (some ⟨B2, 0, none⟩)] w fun e w' => e = .returned (.bool (decide (x.out = id) && amg ls x.lb)) ∧ Below w.heap.size w w' := by
  have c67 := fun W hW => among33 ls (.slice q k d) x.lb W (hs.on hW)
  have k1 := some_on (bel1 w (Obj.cells #[.int .i64 x.id, .string x.lb, .int .i64 x.out, .int .i64 x.inn, .slice p n c] 46)) h1
  have k2 := some_on (bel1 w (Obj.cells #[.int .i64 x.id, .string x.lb, .int .i64 x.out, .int .i64 x.inn, .slice p n c] 46)) h2
  have hb := Lib.hid (bel1 w (Obj.cells #[.int .i64 x.id, .string x.lb, .int .i64 x.out, .int .i64 x.inn, .slice p n c] 46))
  generalize amg ls x.lb = A at *
  clear hs
  by_cases he : x.out = id
  · have heb : (x.out == id) = true := by simpa using he
    have hr : Hid ((decide (x.out = id) && A) = A) := by show _ = _; rw [decide_eq_true he]; rfl
    rw [hr.out]
    clear hr he
    go_enter Try.func32, Try.ntmps32
    go_wp2_with (go_at_call 33; refine (c67 _ hb.out).mono ?_; rintro e w' ⟨rfl, rfl⟩)
    go_ret
    exact ⟨rfl, hb.out⟩
  · have heb : (x.out == id) = false := by simpa using he
    have hr : Hid ((decide (x.out = id) && A) = false) := by show _ = _; rw [decide_eq_false he]; rfl
    rw [hr.out]
    clear hr he
    go_enter Try.func32, Try.ntmps32
    go_wp2
    go_ret
    exact ⟨rfl, hb.out⟩
set_option maxRecDepth 100000 in
set_option maxHeartbeats 8000000 in
theorem tell65_66 (g : Gg) (sv se : Value) (id : Int) (ls : List ByteArray) (q : Option Addr) (k d B1 B2 : Nat) (w : World) (hg : Gg.In w 0 g sv se) (h1 : w.cell? ⟨B1, 0, none⟩ = some (.int .i64 id)) (h2 : w.cell? ⟨B2, 0, none⟩ = some (.slice q k d)) (hs : Sq RB w 0 ls (.slice q k d)) :
    Calls Try.prog 31 #[g.agg sv se, .func (.func 32) #[] #[.pointer (some ⟨B1, 0, none⟩), .pointer (some ⟨B2, 0, none⟩)]] w fun e w' => ∃ v, e = .returned (.func (.func 67) #[] #[.pointer (some ⟨w.heap.size + 1, 0, none⟩)]) ∧ Boxed w' (w.heap.size + 1) 25 v ∧ GrR RL 46 w' (w.heap.size + 2) (w.heap.size + 2) (outL g id ls) v ∧ Below w.heap.size w w' := by
  obtain ⟨-, hV, hE⟩ := hg
  obtain ⟨pv, cv, rfl⟩ := hV.header
  obtain ⟨pe, ce, rfl, hec, hem, h64, hx⟩ := hE
  unfold maxLen at hem
  have hx := Lib.hid hx
  clear hV
  have hw : ∀ W, Below w.heap.size w W → ∀ (x : Lk) (p : Option Addr) (n c : Nat), Calls Try.prog 32 #[.agg #[.int .i64 x.id, .string x.lb, .int .i64 x.out, .int .i64 x.inn, .slice p n c], .pointer (some ⟨B1, 0, none⟩), .pointer (some ⟨B2, 0, none⟩)] W fun e w' => e = .returned (.bool (decide (x.out = id) && amg ls x.lb)) ∧ Below W.heap.size W w' := fun W hW x p n c => want32 x p n c id ls q k d B1 B2 W (some_on hW h1) (some_on hW h2) (hs.on hW)
  have c58 := clone66
  unfold Gg.agg
  obtain ⟨nv, hnv⟩ : ∃ n, g.vs.length = n := ⟨_, rfl⟩
  rw [hnv]
  obtain ⟨N, hN⟩ : ∃ n, g.es.length = n := ⟨_, rfl⟩
  rw [hN] at hec h64 ⊢
  have h64 : N * 64 ≤ 140737488351232 := h64
  have hlen := Lib.hid hN
  obtain ⟨f, hf⟩ : ∃ f : Lk → Bool, f = fun e => decide (e.out = id) && amg ls e.lb := ⟨_, rfl⟩
  have hres : Hid (outL g id ls = g.es.filter f) := by show _ = _; rw [hf]; rfl
  rw [hres.out]
  have hw : ∀ W, Below w.heap.size w W → ∀ (x : Lk) (p : Option Addr) (n c : Nat), Calls Try.prog 32 #[.agg #[.int .i64 x.id, .string x.lb, .int .i64 x.out, .int .i64 x.inn, .slice p n c], .pointer (some ⟨B1, 0, none⟩), .pointer (some ⟨B2, 0, none⟩)] W fun e w' => e = .returned (.bool (f x)) ∧ Below W.heap.size W w' := by rw [hf]; exact hw
  clear hres hf hN hnv h1 h2 hs
  have hb0 := Lib.hid (bel2 w (Obj.cells #[.slice pv nv cv, .slice pe N ce, .int .i64 g.last] 27) (Obj.cells #[.slice none 0 0] 25))
  have hP := Boxed.new (w.alloc (Obj.cells #[.slice pv nv cv, .slice pe N ce, .int .i64 g.last] 27)) 25 (.slice none 0 0)
  rw [World.size_alloc] at hP
  have hP := Lib.hid hP
  have hz := Lib.hid (show w.heap.size + 2 ≤ ((w.alloc (Obj.cells #[.slice pv nv cv, .slice pe N ce, .int .i64 g.last] 27)).alloc (Obj.cells #[.slice none 0 0] 25)).heap.size by simp)
  go_enter Try.func31, Try.ntmps31
  go_wp2
  go_loopg [11, 7] N (fun c s11 s7 wr => ∃ (i : Nat) (v : Value), i + c = N ∧ s11 = .int .i64 i ∧ Hid (Below w.heap.size w wr) ∧ Hid (Boxed wr (w.heap.size + 1) 25 v) ∧ Hid (GrR RL 46 wr (w.heap.size + 2) (w.heap.size + 2) ((g.es.take i).filter f) v) ∧ Hid (w.heap.size + 2 ≤ wr.heap.size))
  case atStart => exact ⟨0, _, by omega, rfl, hb0.out, hP.out, grR_nil _ _ _ _ _, hz.out⟩
  case round =>
    obtain ⟨i, v, hig, rfl, hB, hbx, hgr, hzr⟩ := hrel
    cases gk with
    | succ c =>
      have hi : i < g.es.length := by have := hlen.out; omega
      have hiz : (i : Int) < (N : Int) := by omega
      have hi0 : (0 : Int) ≤ (i : Int) := by omega
      obtain ⟨b, o, rfl, -, hx1⟩ := hx.out.resolve_left (by intro e; rw [e] at hi; simp at hi)
      obtain ⟨s1, hat, hv1⟩ := (hx1.on' hB.out).at i hi
      obtain ⟨p1, n1, c1, rfl⟩ := hdL hv1
      obtain ⟨a0, a1, a2, a3, a4⟩ := ats5 hat
      simp only [show RL.n = 5 from rfl] at a0 a1 a2 a3 a4
      have hyes := Lib.hid (take_filter_yes hi f)
      have hno := Lib.hid (take_filter_no hi f)
      have hfl : Hid (((g.es.take i).filter f).length ≤ i) := by
        show _ ≤ _
        exact Nat.le_trans (List.length_filter_le _ _) (by simp; omega)
      have hv1 := Lib.hid hv1
      clear hat hx1 hx
      generalize g.es[i] = x at *
      generalize (g.es.take i).filter f = L at *
      have hBW := Lib.hid (bel_then hB.out (bel1 wr (Obj.cells #[.int .i64 x.id, .string x.lb, .int .i64 x.out, .int .i64 x.inn, .slice p1 n1 c1] 46)))
      have hbl := Lib.hid (World.alloc_heap_new wr (Obj.cells #[.int .i64 x.id, .string x.lb, .int .i64 x.out, .int .i64 x.inn, .slice p1 n1 c1] 46))
      have hb1 := Lib.hid (bel1 wr (Obj.cells #[.int .i64 x.id, .string x.lb, .int .i64 x.out, .int .i64 x.inn, .slice p1 n1 c1] 46))
      have c66 := hw _ hBW.out x p1 n1 c1
      generalize hfx : f x = fx at *
      cases fx with
      | false =>
        go_wp2_with (go_at_call 32; refine c66.mono ?_; rintro e w2 ⟨rfl, hb2⟩; have HB2 := Lib.hid (bel_then hb1.out hb2); clear hb2 c66)
        go_roundg c
        case measure => omega
        case rel => exact ⟨i + 1, v, by omega, by first | rfl | simp, bel_then hB.out HB2.out, blk_on HB2.out hbx.out, by show GrR _ _ _ _ _ _ _; rw [hno.out (by first | trivial | rfl)]; exact hgr.out.on HB2.out, Nat.le_trans hzr.out HB2.out.size⟩
      | true =>
        go_wp2_with (first | (go_at_call 32; refine c66.mono ?_; rintro e w2 ⟨rfl, hb2⟩; have HB2 := Lib.hid (bel_then hb1.out hb2); have HL2 := Lib.hid (blk_on hb2 hbl.out); clear hb2 c66))
        obtain ⟨u0, u1, u2, u3, u4, uf⟩ := five_of HL2.out
        have k0 : w2.drew.cell? ⟨w.heap.size + 1, 0, none⟩ = some v := (show Boxed w2 _ _ _ from blk_on HB2.out hbx.out).cell
        have k0' := (show Boxed w2 _ _ _ from blk_on HB2.out hbx.out).cell
        have cl : Calls Try.prog 66 #[.agg #[.int .i64 x.id, .string x.lb, .int .i64 x.out, .int .i64 x.inn, .slice p1 n1 c1]] w2.drew fun e w' => ClE RL Lk.agg x w2.drew e w' := c58 x _ w2.drew (RL.on (bel_then HB2.out (Below.refl _ w2).drew) hv1.out)
        unfold ClE Lk.agg at cl
        have mixed : Try.prog.follows .mixedOrders = true := by kernel_rfl
        have hlL : Hid ((L.length + 1) * 64 ≤ 140737488355328) := by show _ ≤ _; have := hfl.out; omega
        have hG2 := Lib.hid (hgr.out.on (bel_then HB2.out (Below.refl _ w2).drew))
        have hz2 := Lib.hid (show w.heap.size + 2 ≤ w2.drew.heap.size from Nat.le_trans hzr.out HB2.out.size)
        have hP2 := Lib.hid (show Boxed w2.drew (w.heap.size + 1) 25 v from blk_on HB2.out hbx.out)
        clear c58 hw
        go_region_with (first
          | (go_at_call 66; refine cl.mono ?_
             rintro e w3 ⟨sl3, rfl, hin3, hb3, -⟩
             obtain ⟨p3, n3, c3, rfl⟩ := hdL hin3
             obtain ⟨g4, cap4, w4, hap, hG4, hgr4, hg4⟩ := pick_run w2.drew w3 (w.heap.size + 2) L v x p3 n3 c3 hG2.out hb3 hin3 hz2.out hlL.out 25
             have HF := Lib.hid (pick_fin hP2.out hG2.out hb3 hgr4 hG4 hz2.out)
             have k1 : w3.cell? ⟨w.heap.size + 1, 0, none⟩ = some v := (HF.out.1).cell
             have k2 : (w3.alloc (.cells #[.int .i64 x.id, .string x.lb, .int .i64 x.out, .int .i64 x.inn, .slice p3 n3 c3] 46)).cell? ⟨w.heap.size + 1, 0, none⟩ = some v := (HF.out.1.alloc _).cell
             have k3 := HF.out.2.1.cell
             have k4 := HF.out.2.1.frozen
             simp [go_sem] at hap
             clear hin3 hb3 hG4 hgr4 cl))
        all_goals
          clear hap
          go_wp2
          go_roundg c
          case measure => omega
          case rel => exact ⟨i + 1, _, by omega, by first | rfl | simp, (((bel_then hB.out HB2.out).trans ((Below.refl w.heap.size w2).drew)).trans (HF.out.2.2.2.2.1.mono (by omega))), HF.out.2.2.1, by show GrR _ _ _ _ _ _ _; rw [hyes.out (by first | trivial | rfl)]; exact HF.out.2.2.2.1, HF.out.2.2.2.2.2⟩
    | zero =>
      obtain rfl : i = N := by omega
      have hfin : Hid (GrR RL 46 wr (w.heap.size + 2) (w.heap.size + 2) (g.es.filter f) v) := by
        have := hgr.out
        rwa [← hlen.out, List.take_length] at this
      clear hgr hx
      go_wp2
      go_ret
      exact ⟨v, by first | rfl | simp, hbx.out, hfin.out, hB.out⟩
set_option maxHeartbeats 2000000 in
theorem out10 (g : Gg) (sv se : Value) (id : Int) (ls : List ByteArray) (sl : Value) (w : World) (hg : Gg.In w 0 g sv se) (hs : Sq RB w 0 ls sl) :
    Calls Try.prog 10 #[g.agg sv se, .int .i64 id, sl] w fun e w' => ∃ P v, e = .returned (.func (.func 67) #[] #[.pointer (some ⟨P, 0, none⟩)]) ∧ w.heap.size ≤ P ∧ Boxed w' P 25 v ∧ GrR RL 46 w' (P + 1) (P + 1) (outL g id ls) v ∧ Below w.heap.size w w' := by
  obtain ⟨q, d, rfl⟩ := hs.header
  obtain ⟨k, hk⟩ : ∃ k, ls.length = k := ⟨_, rfl⟩
  rw [hk] at hs ⊢
  have c65 := fun W B1 B2 hW h1 h2 => tell65_66 g sv se id ls q k d B1 B2 W (hg.on hW) h1 h2 (hs.on hW)
  obtain ⟨pv, cv, rfl⟩ := hg.2.1.header
  obtain ⟨pe, ce, rfl⟩ := hg.2.2.header
  unfold Gg.agg at c65 ⊢
  clear hk hs hg
  generalize outL g id ls = L at *
  have b1 := Boxed.new (w.alloc (Obj.cells #[.slice pv g.vs.length cv, .slice pe g.es.length ce, .int .i64 g.last] 27)) 2 (.int .i64 id)
  have b2 := Boxed.new ((w.alloc (Obj.cells #[.slice pv g.vs.length cv, .slice pe g.es.length ce, .int .i64 g.last] 27)).alloc (.cells #[.int .i64 id] 2)) 65 (.slice q k d)
  rw [World.size_alloc] at b1 b2
  rw [World.size_alloc] at b2
  have hb := Lib.hid (bel_then (bel2 w (Obj.cells #[.slice pv g.vs.length cv, .slice pe g.es.length ce, .int .i64 g.last] 27) (.cells #[.int .i64 id] 2)) (bel1 _ (.cells #[.slice q k d] 65)))
  have k1 := Lib.hid (b1.alloc (.cells #[.slice q k d] 65)).cell
  have k2 := Lib.hid b2.cell
  go_enter Try.func10, Try.ntmps10
  go_wp2_with (go_at_call 31; refine (c65 _ _ _ hb.out k1.out k2.out).mono ?_; rintro e w' ⟨v, rfl, h1, h2, h3⟩; have H := Lib.hid (And.intro h1 (And.intro h2 h3)); clear h1 h2 h3)
  go_ret
  have hz : (((w.alloc (Obj.cells #[.slice pv g.vs.length cv, .slice pe g.es.length ce, .int .i64 g.last] 27)).alloc (.cells #[.int .i64 id] 2)).alloc (.cells #[.slice q k d] 65)).heap.size = w.heap.size + 1 + 1 + 1 := by simp
  have H' := H.out
  rw [hz] at H'
  exact ⟨w.heap.size + 1 + 1 + 1 + 1, v, by simp, by omega, H'.1, H'.2.1, bel_then hb.out (by rw [hz]; exact H'.2.2)⟩
end Go.Proofs.Yteknbploiombiaa
namespace Go.Proofs.Yteknbploiombiaa
open Go.RowKit Go.Shelf
set_option linter.unusedVariables false      -- a walk need not use every condition


theorem want35 (x : Lk) (p : Option Addr) (n c : Nat) (id : Int) (ls : List ByteArray) (q : Option Addr) (k d B1 B2 : Nat) (w : World) (h1 : w.cell? ⟨B1, 0, none⟩ = some (.int .i64 id)) (h2 : w.cell? ⟨B2, 0, none⟩ = some (.slice q k d)) (hs : Sq RB w 0 ls (.slice q k d)) :
    Calls Try.prog 35 #[.agg #[.int .i64 x.id, .string x.lb, .int .i64 x.out, .int .i64 x.inn, .slice p n c], .pointer (some ⟨B1, 0, none⟩), .pointer (some ⟨B2, 0, none⟩)] w fun e w' => e = .returned (.bool (decide (x.inn = id) && amg ls x.lb)) ∧ Below w.heap.size w w' := by
  have c67 := fun W hW => among33 ls (.slice q k d) x.lb W (hs.on hW)
  have k1 := some_on (bel1 w (Obj.cells #[.int .i64 x.id, .string x.lb, .int .i64 x.out, .int .i64 x.inn, .slice p n c] 46)) h1
  have k2 := some_on (bel1 w (Obj.cells #[.int .i64 x.id, .string x.lb, .int .i64 x.out, .int .i64 x.inn, .slice p n c] 46)) h2
  have hb := Lib.hid (bel1 w (Obj.cells #[.int .i64 x.id, .string x.lb, .int .i64 x.out, .int .i64 x.inn, .slice p n c] 46))
  generalize amg ls x.lb = A at *
  clear hs
  by_cases he : x.inn = id
  · have heb : (x.inn == id) = true := by simpa using he
    have hr : Hid ((decide (x.inn = id) && A) = A) := by show _ = _; rw [decide_eq_true he]; rfl
    rw [hr.out]
    clear hr he
    go_enter Try.func35, Try.ntmps35
    go_wp2_with (go_at_call 33; refine (c67 _ hb.out).mono ?_; rintro e w' ⟨rfl, rfl⟩)
    go_ret
    exact ⟨rfl, hb.out⟩
  · have heb : (x.inn == id) = false := by simpa using he
    have hr : Hid ((decide (x.inn = id) && A) = false) := by show _ = _; rw [decide_eq_false he]; rfl
    rw [hr.out]
    clear hr he
    go_enter Try.func35, Try.ntmps35
    go_wp2
    go_ret
    exact ⟨rfl, hb.out⟩
set_option maxRecDepth 100000 in
set_option maxHeartbeats 8000000 in
theorem tell65_69 (g : Gg) (sv se : Value) (id : Int) (ls : List ByteArray) (q : Option Addr) (k d B1 B2 : Nat) (w : World) (hg : Gg.In w 0 g sv se) (h1 : w.cell? ⟨B1, 0, none⟩ = some (.int .i64 id)) (h2 : w.cell? ⟨B2, 0, none⟩ = some (.slice q k d)) (hs : Sq RB w 0 ls (.slice q k d)) :
    Calls Try.prog 31 #[g.agg sv se, .func (.func 35) #[] #[.pointer (some ⟨B1, 0, none⟩), .pointer (some ⟨B2, 0, none⟩)]] w fun e w' => ∃ v, e = .returned (.func (.func 67) #[] #[.pointer (some ⟨w.heap.size + 1, 0, none⟩)]) ∧ Boxed w' (w.heap.size + 1) 25 v ∧ GrR RL 46 w' (w.heap.size + 2) (w.heap.size + 2) (inL g id ls) v ∧ Below w.heap.size w w' := by
  obtain ⟨-, hV, hE⟩ := hg
  obtain ⟨pv, cv, rfl⟩ := hV.header
  obtain ⟨pe, ce, rfl, hec, hem, h64, hx⟩ := hE
  unfold maxLen at hem
  have hx := Lib.hid hx
  clear hV
  have hw : ∀ W, Below w.heap.size w W → ∀ (x : Lk) (p : Option Addr) (n c : Nat), Calls Try.prog 35 #[.agg #[.int .i64 x.id, .string x.lb, .int .i64 x.out, .int .i64 x.inn, .slice p n c], .pointer (some ⟨B1, 0, none⟩), .pointer (some ⟨B2, 0, none⟩)] W fun e w' => e = .returned (.bool (decide (x.inn = id) && amg ls x.lb)) ∧ Below W.heap.size W w' := fun W hW x p n c => want35 x p n c id ls q k d B1 B2 W (some_on hW h1) (some_on hW h2) (hs.on hW)
  have c58 := clone66
  unfold Gg.agg
  obtain ⟨nv, hnv⟩ : ∃ n, g.vs.length = n := ⟨_, rfl⟩
  rw [hnv]
  obtain ⟨N, hN⟩ : ∃ n, g.es.length = n := ⟨_, rfl⟩
  rw [hN] at hec h64 ⊢
  have h64 : N * 64 ≤ 140737488351232 := h64
  have hlen := Lib.hid hN
  obtain ⟨f, hf⟩ : ∃ f : Lk → Bool, f = fun e => decide (e.inn = id) && amg ls e.lb := ⟨_, rfl⟩
  have hres : Hid (inL g id ls = g.es.filter f) := by show _ = _; rw [hf]; rfl
  rw [hres.out]
  have hw : ∀ W, Below w.heap.size w W → ∀ (x : Lk) (p : Option Addr) (n c : Nat), Calls Try.prog 35 #[.agg #[.int .i64 x.id, .string x.lb, .int .i64 x.out, .int .i64 x.inn, .slice p n c], .pointer (some ⟨B1, 0, none⟩), .pointer (some ⟨B2, 0, none⟩)] W fun e w' => e = .returned (.bool (f x)) ∧ Below W.heap.size W w' := by rw [hf]; exact hw
  clear hres hf hN hnv h1 h2 hs
  have hb0 := Lib.hid (bel2 w (Obj.cells #[.slice pv nv cv, .slice pe N ce, .int .i64 g.last] 27) (Obj.cells #[.slice none 0 0] 25))
  have hP := Boxed.new (w.alloc (Obj.cells #[.slice pv nv cv, .slice pe N ce, .int .i64 g.last] 27)) 25 (.slice none 0 0)
  rw [World.size_alloc] at hP
  have hP := Lib.hid hP
  have hz := Lib.hid (show w.heap.size + 2 ≤ ((w.alloc (Obj.cells #[.slice pv nv cv, .slice pe N ce, .int .i64 g.last] 27)).alloc (Obj.cells #[.slice none 0 0] 25)).heap.size by simp)
  go_enter Try.func31, Try.ntmps31
  go_wp2
  go_loopg [11, 7] N (fun c s11 s7 wr => ∃ (i : Nat) (v : Value), i + c = N ∧ s11 = .int .i64 i ∧ Hid (Below w.heap.size w wr) ∧ Hid (Boxed wr (w.heap.size + 1) 25 v) ∧ Hid (GrR RL 46 wr (w.heap.size + 2) (w.heap.size + 2) ((g.es.take i).filter f) v) ∧ Hid (w.heap.size + 2 ≤ wr.heap.size))
  case atStart => exact ⟨0, _, by omega, rfl, hb0.out, hP.out, grR_nil _ _ _ _ _, hz.out⟩
  case round =>
    obtain ⟨i, v, hig, rfl, hB, hbx, hgr, hzr⟩ := hrel
    cases gk with
    | succ c =>
      have hi : i < g.es.length := by have := hlen.out; omega
      have hiz : (i : Int) < (N : Int) := by omega
      have hi0 : (0 : Int) ≤ (i : Int) := by omega
      obtain ⟨b, o, rfl, -, hx1⟩ := hx.out.resolve_left (by intro e; rw [e] at hi; simp at hi)
      obtain ⟨s1, hat, hv1⟩ := (hx1.on' hB.out).at i hi
      obtain ⟨p1, n1, c1, rfl⟩ := hdL hv1
      obtain ⟨a0, a1, a2, a3, a4⟩ := ats5 hat
      simp only [show RL.n = 5 from rfl] at a0 a1 a2 a3 a4
      have hyes := Lib.hid (take_filter_yes hi f)
      have hno := Lib.hid (take_filter_no hi f)
      have hfl : Hid (((g.es.take i).filter f).length ≤ i) := by
        show _ ≤ _
        exact Nat.le_trans (List.length_filter_le _ _) (by simp; omega)
      have hv1 := Lib.hid hv1
      clear hat hx1 hx
      generalize g.es[i] = x at *
      generalize (g.es.take i).filter f = L at *
      have hBW := Lib.hid (bel_then hB.out (bel1 wr (Obj.cells #[.int .i64 x.id, .string x.lb, .int .i64 x.out, .int .i64 x.inn, .slice p1 n1 c1] 46)))
      have hbl := Lib.hid (World.alloc_heap_new wr (Obj.cells #[.int .i64 x.id, .string x.lb, .int .i64 x.out, .int .i64 x.inn, .slice p1 n1 c1] 46))
      have hb1 := Lib.hid (bel1 wr (Obj.cells #[.int .i64 x.id, .string x.lb, .int .i64 x.out, .int .i64 x.inn, .slice p1 n1 c1] 46))
      have c66 := hw _ hBW.out x p1 n1 c1
      generalize hfx : f x = fx at *
      cases fx with
      | false =>
        go_wp2_with (go_at_call 35; refine c66.mono ?_; rintro e w2 ⟨rfl, hb2⟩; have HB2 := Lib.hid (bel_then hb1.out hb2); clear hb2 c66)
        go_roundg c
        case measure => omega
        case rel => exact ⟨i + 1, v, by omega, by first | rfl | simp, bel_then hB.out HB2.out, blk_on HB2.out hbx.out, by show GrR _ _ _ _ _ _ _; rw [hno.out (by first | trivial | rfl)]; exact hgr.out.on HB2.out, Nat.le_trans hzr.out HB2.out.size⟩
      | true =>
        go_wp2_with (first | (go_at_call 35; refine c66.mono ?_; rintro e w2 ⟨rfl, hb2⟩; have HB2 := Lib.hid (bel_then hb1.out hb2); have HL2 := Lib.hid (blk_on hb2 hbl.out); clear hb2 c66))
        obtain ⟨u0, u1, u2, u3, u4, uf⟩ := five_of HL2.out
        have k0 : w2.drew.cell? ⟨w.heap.size + 1, 0, none⟩ = some v := (show Boxed w2 _ _ _ from blk_on HB2.out hbx.out).cell
        have k0' := (show Boxed w2 _ _ _ from blk_on HB2.out hbx.out).cell
        have cl : Calls Try.prog 66 #[.agg #[.int .i64 x.id, .string x.lb, .int .i64 x.out, .int .i64 x.inn, .slice p1 n1 c1]] w2.drew fun e w' => ClE RL Lk.agg x w2.drew e w' := c58 x _ w2.drew (RL.on (bel_then HB2.out (Below.refl _ w2).drew) hv1.out)
        unfold ClE Lk.agg at cl
        have mixed : Try.prog.follows .mixedOrders = true := by kernel_rfl
        have hlL : Hid ((L.length + 1) * 64 ≤ 140737488355328) := by show _ ≤ _; have := hfl.out; omega
        have hG2 := Lib.hid (hgr.out.on (bel_then HB2.out (Below.refl _ w2).drew))
        have hz2 := Lib.hid (show w.heap.size + 2 ≤ w2.drew.heap.size from Nat.le_trans hzr.out HB2.out.size)
        have hP2 := Lib.hid (show Boxed w2.drew (w.heap.size + 1) 25 v from blk_on HB2.out hbx.out)
        clear c58 hw
        go_region_with (first
          | (go_at_call 66; refine cl.mono ?_
             rintro e w3 ⟨sl3, rfl, hin3, hb3, -⟩
             obtain ⟨p3, n3, c3, rfl⟩ := hdL hin3
             obtain ⟨g4, cap4, w4, hap, hG4, hgr4, hg4⟩ := pick_run w2.drew w3 (w.heap.size + 2) L v x p3 n3 c3 hG2.out hb3 hin3 hz2.out hlL.out 25
             have HF := Lib.hid (pick_fin hP2.out hG2.out hb3 hgr4 hG4 hz2.out)
             have k1 : w3.cell? ⟨w.heap.size + 1, 0, none⟩ = some v := (HF.out.1).cell
             have k2 : (w3.alloc (.cells #[.int .i64 x.id, .string x.lb, .int .i64 x.out, .int .i64 x.inn, .slice p3 n3 c3] 46)).cell? ⟨w.heap.size + 1, 0, none⟩ = some v := (HF.out.1.alloc _).cell
             have k3 := HF.out.2.1.cell
             have k4 := HF.out.2.1.frozen
             simp [go_sem] at hap
             clear hin3 hb3 hG4 hgr4 cl))
        all_goals
          clear hap
          go_wp2
          go_roundg c
          case measure => omega
          case rel => exact ⟨i + 1, _, by omega, by first | rfl | simp, (((bel_then hB.out HB2.out).trans ((Below.refl w.heap.size w2).drew)).trans (HF.out.2.2.2.2.1.mono (by omega))), HF.out.2.2.1, by show GrR _ _ _ _ _ _ _; rw [hyes.out (by first | trivial | rfl)]; exact HF.out.2.2.2.1, HF.out.2.2.2.2.2⟩
    | zero =>
      obtain rfl : i = N := by omega
      have hfin : Hid (GrR RL 46 wr (w.heap.size + 2) (w.heap.size + 2) (g.es.filter f) v) := by
        have := hgr.out
        rwa [← hlen.out, List.take_length] at this
      clear hgr hx
      go_wp2
      go_ret
      exact ⟨v, by first | rfl | simp, hbx.out, hfin.out, hB.out⟩
set_option maxHeartbeats 2000000 in
theorem in12 (g : Gg) (sv se : Value) (id : Int) (ls : List ByteArray) (sl : Value) (w : World) (hg : Gg.In w 0 g sv se) (hs : Sq RB w 0 ls sl) :
    Calls Try.prog 12 #[g.agg sv se, .int .i64 id, sl] w fun e w' => ∃ P v, e = .returned (.func (.func 67) #[] #[.pointer (some ⟨P, 0, none⟩)]) ∧ w.heap.size ≤ P ∧ Boxed w' P 25 v ∧ GrR RL 46 w' (P + 1) (P + 1) (inL g id ls) v ∧ Below w.heap.size w w' := by
  obtain ⟨q, d, rfl⟩ := hs.header
  obtain ⟨k, hk⟩ : ∃ k, ls.length = k := ⟨_, rfl⟩
  rw [hk] at hs ⊢
  have c65 := fun W B1 B2 hW h1 h2 => tell65_69 g sv se id ls q k d B1 B2 W (hg.on hW) h1 h2 (hs.on hW)
  obtain ⟨pv, cv, rfl⟩ := hg.2.1.header
  obtain ⟨pe, ce, rfl⟩ := hg.2.2.header
  unfold Gg.agg at c65 ⊢
  clear hk hs hg
  generalize inL g id ls = L at *
  have b1 := Boxed.new (w.alloc (Obj.cells #[.slice pv g.vs.length cv, .slice pe g.es.length ce, .int .i64 g.last] 27)) 2 (.int .i64 id)
  have b2 := Boxed.new ((w.alloc (Obj.cells #[.slice pv g.vs.length cv, .slice pe g.es.length ce, .int .i64 g.last] 27)).alloc (.cells #[.int .i64 id] 2)) 65 (.slice q k d)
  rw [World.size_alloc] at b1 b2
  rw [World.size_alloc] at b2
  have hb := Lib.hid (bel_then (bel2 w (Obj.cells #[.slice pv g.vs.length cv, .slice pe g.es.length ce, .int .i64 g.last] 27) (.cells #[.int .i64 id] 2)) (bel1 _ (.cells #[.slice q k d] 65)))
  have k1 := Lib.hid (b1.alloc (.cells #[.slice q k d] 65)).cell
  have k2 := Lib.hid b2.cell
  go_enter Try.func12, Try.ntmps12
  go_wp2_with (go_at_call 31; refine (c65 _ _ _ hb.out k1.out k2.out).mono ?_; rintro e w' ⟨v, rfl, h1, h2, h3⟩; have H := Lib.hid (And.intro h1 (And.intro h2 h3)); clear h1 h2 h3)
  go_ret
  have hz : (((w.alloc (Obj.cells #[.slice pv g.vs.length cv, .slice pe g.es.length ce, .int .i64 g.last] 27)).alloc (.cells #[.int .i64 id] 2)).alloc (.cells #[.slice q k d] 65)).heap.size = w.heap.size + 1 + 1 + 1 := by simp
  have H' := H.out
  rw [hz] at H'
  exact ⟨w.heap.size + 1 + 1 + 1 + 1, v, by simp, by omega, H'.1, H'.2.1, bel_then hb.out (by rw [hz]; exact H'.2.2)⟩
end Go.Proofs.Yteknbploiombiaa
