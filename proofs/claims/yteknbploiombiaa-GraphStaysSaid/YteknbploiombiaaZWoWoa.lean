/-
  What without and propsIn of package graph do, where a vertex is dropped.
  What without and propsIn of package graph do, where a vertex is dropped.
-/
import Derived.Test.YteknbploiombiaaZGroGrw
import Derived.BigQuiet
namespace Go.Proofs.Yteknbploiombiaa
open Go.RowKit
set_option linter.unusedVariables false      -- a walk need not use every condition

theorem take_fltr {α : Type} {l : List α} {i : Nat} (hi : i < l.length) (f : α → Bool) : (l.take (i + 1)).filter f = (l.take i).filter f ++ (if f l[i] = true then [l[i]] else []) := by
  rw [List.take_succ_eq_append_getElem hi, List.filter_append]
  congr 1
  cases h : f l[i] <;> simp [h]
theorem goes52 (x : Vx) (p : Option Addr) (n c : Nat) (id : Int) (B1 : Nat) (w : World) (h1 : w.cell? ⟨B1, 0, none⟩ = some (.int .i64 id)) :
    Calls Try.prog 52 #[.agg #[.int .i64 x.id, .string x.lb, .slice p n c], .pointer (some ⟨B1, 0, none⟩)] w fun e w' => e = .returned (.bool (decide (x.id = id))) ∧ Below w.heap.size w w' := by
  have k1 := some_on (bel1 w (Obj.cells #[.int .i64 x.id, .string x.lb, .slice p n c] 40)) h1
  have hb := Lib.hid (bel1 w (Obj.cells #[.int .i64 x.id, .string x.lb, .slice p n c] 40))
  have hd : (x.id == id) = decide (x.id = id) := by rw [Bool.eq_iff_iff]; simp
  generalize decide (x.id = id) = A at *
  go_enter Try.func52, Try.ntmps52
  go_wp2
  go_ret
  exact ⟨by first | rfl | simp [hd], hb.out⟩
theorem goes54 (x : Lk) (p : Option Addr) (n c : Nat) (id : Int) (B1 : Nat) (w : World) (h1 : w.cell? ⟨B1, 0, none⟩ = some (.int .i64 id)) :
    Calls Try.prog 54 #[.agg #[.int .i64 x.id, .string x.lb, .int .i64 x.out, .int .i64 x.inn, .slice p n c], .pointer (some ⟨B1, 0, none⟩)] w fun e w' => e = .returned (.bool (decide (x.out = id) || decide (x.inn = id))) ∧ Below w.heap.size w w' := by
  have k1 := some_on (bel1 w (Obj.cells #[.int .i64 x.id, .string x.lb, .int .i64 x.out, .int .i64 x.inn, .slice p n c] 46)) h1
  have hb := Lib.hid (bel1 w (Obj.cells #[.int .i64 x.id, .string x.lb, .int .i64 x.out, .int .i64 x.inn, .slice p n c] 46))
  have hd2 : (x.inn == id) = decide (x.inn = id) := by rw [Bool.eq_iff_iff]; simp
  by_cases h : x.out = id
  · have hr : Hid ((decide (x.out = id) || decide (x.inn = id)) = true) := by show _ = _; rw [decide_eq_true h]; rfl
    rw [hr.out]
    have hd1 : (x.out == id) = true := by simpa using h
    clear h hr hd2
    go_enter Try.func54, Try.ntmps54
    go_wp2
    go_ret
    exact ⟨rfl, hb.out⟩
  · have hr : Hid ((decide (x.out = id) || decide (x.inn = id)) = decide (x.inn = id)) := by show _ = _; rw [decide_eq_false h]; rfl
    rw [hr.out]
    have hd1 : (x.out == id) = false := by simpa using h
    clear h hr
    generalize decide (x.inn = id) = A at *
    go_enter Try.func54, Try.ntmps54
    go_wp2
    go_ret
    exact ⟨by first | rfl | simp [hd2], hb.out⟩
theorem four_cells {w : World} {g : Nat} {a b c d : Value} {t : TypeId} (e : w.heap[g]? = some (.cells #[a, b, c, d] t)) :
    w.cell? ⟨g, 0, none⟩ = some a ∧ w.cell? ⟨g, 1, none⟩ = some b ∧ w.cell? ⟨g, 2, none⟩ = some c ∧ w.cell? ⟨g, 3, none⟩ = some d := by
  refine ⟨?_, ?_, ?_, ?_⟩ <;> simp [World.cell?, e]

end Go.Proofs.Yteknbploiombiaa
namespace Go.Proofs.Yteknbploiombiaa
open Go.RowKit
set_option linter.unusedVariables false      -- a walk need not use every condition


set_option maxRecDepth 100000 in
set_option maxHeartbeats 8000000 in
theorem without86_87 (l : List Vx) (sl : Value) (id : Int) (B1 lo : Nat) (w : World) (hs : Sq RV w lo l sl) (h1 : w.cell? ⟨B1, 0, none⟩ = some (.int .i64 id)) (hlo : lo ≤ w.heap.size) :
    Calls Try.prog 51 #[sl, .func (.func 52) #[] #[.pointer (some ⟨B1, 0, none⟩)]] w fun e w' => ∃ v, e = .returned v ∧ GrR RV 40 w' lo w.heap.size (l.filter (fun x => !(decide (x.id = id)))) v ∧ Below w.heap.size w w' := by
  obtain ⟨p, cap, rfl, hc, hcm, hby, hx⟩ := hs
  unfold maxLen at hcm
  have hx := Lib.hid hx
  have cg := fun (W : World) (hW : Below w.heap.size w W) (x : Vx) p n c => goes52 x p n c id B1 W (some_on hW h1)
  obtain ⟨f, hf⟩ : ∃ f : Vx → Bool, f = fun x => decide (x.id = id) := ⟨_, rfl⟩
  have hff : (fun x : Vx => !(decide (x.id = id))) = fun x => !f x := by rw [hf]
  rw [hff]
  have cg : ∀ (W : World) (hW : Below w.heap.size w W) (x : Vx) p n c, Calls Try.prog 52 #[.agg #[.int .i64 x.id, .string x.lb, .slice p n c], .pointer (some ⟨B1, 0, none⟩)] W fun e w' => e = .returned (.bool (f x)) ∧ Below W.heap.size W w' := by rw [hf]; exact cg
  clear hff hf h1
  obtain ⟨N, hN⟩ : ∃ n, l.length = n := ⟨_, rfl⟩
  rw [hN] at hc hby ⊢
  have hby : N * 48 ≤ 140737488351232 := hby
  have hlen := Lib.hid hN
  clear hN
  obtain ⟨i0, hi, hz0, hz1, hz2⟩ := info_parts info41
  have hlo := Lib.hid hlo
  go_enter Try.func51, Try.ntmps51
  go_wp2
  go_loopg [10, 7, 5] N (fun c s10 s7 s5 wr => ∃ (i : Nat) (q : Option Addr) (m d : Nat), i + c = N ∧ s10 = .int .i64 i ∧ s5 = .slice q m d ∧ Hid (Below w.heap.size w wr) ∧ Hid (GrR RV 40 wr lo w.heap.size ((l.take i).filter (fun x => !f x)) (.slice q m d)))
  case atStart => exact ⟨0, none, 0, 0, by omega, rfl, rfl, Below.refl _ _, grR_nil _ _ _ _ _⟩
  case round =>
    obtain ⟨i, q, m, d, hig, rfl, rfl, hB, hgr⟩ := hrel
    cases gk with
    | succ c =>
      have hil : i < l.length := by have := hlen.out; omega
      have hiz : (i : Int) < (N : Int) := by omega
      have hiz0 : (0 : Int) ≤ (i : Int) := by omega
      obtain ⟨b, o, rfl, hlb, hx1⟩ := hx.out.resolve_left (by rintro rfl; simp at hil)
      obtain ⟨s1, hat, hv1⟩ := hx1.at i hil
      obtain ⟨p1, n1, c1, rfl⟩ := hdV hv1
      obtain ⟨a0, a1, a2⟩ := ats3 (hat.keep (keep_below hB.out) hlb)
      simp only [show RV.n = 3 from rfl] at a0 a1 a2
      have htf := Lib.hid (take_fltr hil (fun x => !f x))
      have hfl : Hid (((l.take i).filter (fun x => !f x)).length ≤ i) := by
        show _ ≤ _
        exact Nat.le_trans (List.length_filter_le _ _) (by simp; omega)
      have hm : Hid (m = ((l.take i).filter (fun x => !f x)).length) := by
        show _ = _
        obtain ⟨_, _, e, _⟩ := hgr.out.form
        injection e
      have hv1 := Lib.hid hv1
      clear hat hx1 hx
      generalize l[i] = x at *
      generalize (l.take i).filter (fun x => !f x) = L at *
      have hBW := Lib.hid (bel_then hB.out (bel1 wr (Obj.cells #[.int .i64 x.id, .string x.lb, .slice p1 n1 c1] 40)))
      have hbl := Lib.hid (World.alloc_heap_new wr (Obj.cells #[.int .i64 x.id, .string x.lb, .slice p1 n1 c1] 40))
      have hb1 := Lib.hid (bel1 wr (Obj.cells #[.int .i64 x.id, .string x.lb, .slice p1 n1 c1] 40))
      have c66 := cg _ hBW.out x p1 n1 c1
      generalize hfx : f x = fx at *
      cases fx with
      | true =>
        go_wp2_with (go_at_call 52; refine c66.mono ?_; rintro e w2 ⟨rfl, hb2⟩; have HB2 := Lib.hid (bel_then hb1.out hb2); clear hb2 c66)
        go_roundg c
        case measure => omega
        case rel => exact ⟨i + 1, q, m, d, by omega, by first | rfl | simp, rfl, bel_then hB.out HB2.out, by show GrR _ _ _ _ _ _ _; rw [htf.out]; simpa using hgr.out.on HB2.out⟩
      | false =>
        have hu := Lib.hid (fun (W : World) (hW : Below wr.heap.size wr W) => (show ∀ a c', w.cell? a = some c' → W.cell? a = some c' ∧ some a.block ≠ (Value.slice q m d).ownBlock from fun a c' hc' => ⟨some_on hW (some_on hB.out hc'), fun e => by have := (hgr.out.lt e.symm).1; have := cell_lt hc'; omega⟩))
        go_wp2_with (first
          | (go_at_call 52; refine c66.mono ?_; rintro e w2 ⟨rfl, hb2⟩; have HB2 := Lib.hid (bel_then hb1.out hb2); obtain ⟨u0, u1, u2, uf⟩ := three_of (blk_on hb2 hbl.out); clear hb2 c66)
          | (at_builtin; refine wpList_gro len_RV (by decide) 24 40 i0 zVx Try.underlying24 hi hz0 hz1 hz2 rfl _ rfl _ _ rfl lo w.heap.size _ L _ x (.slice p1 n1 c1) w rfl (by exact (hgr.out.on HB2.out).alloc _) rfl hv1.out (by exact hu.out _ (bel_then HB2.out (bel1 _ _))) (by exact new_ats' _ (RV.cs x (.slice p1 n1 c1)) 40 (by simp)) (by intro c hc; simp only [RV, List.mem_cons, List.not_mem_nil, or_false] at hc; rcases hc with rfl | rfl | rfl <;> rfl) (by have := hfl.out; unfold maxLen; omega) (by have := hfl.out; show (L.length + 1) * 48 ≤ _; omega) (by have := (bel_then hB.out HB2.out).size; simp; omega) ?_; intro g5 cap5 w5 hG5 hgr5 hg5; have HG := Lib.hid (And.intro hG5 (gro_below ((hgr.out.on HB2.out).alloc _) hgr5 (Nat.le_refl _) (by have := (bel_then hB.out HB2.out).size; simp; omega))); clear hG5 hgr5 hg5))
        go_roundg c
        case measure => omega
        case rel => exact ⟨i + 1, _, _, _, by omega, by first | rfl | simp, rfl, (bel_then hB.out (bel_then HB2.out (bel1 _ _))).trans HG.out.2, by show GrR _ _ _ _ _ _ _; rw [htf.out]; simpa using HG.out.1⟩
    | zero =>
      obtain rfl : i = N := by omega
      have hfin : Hid (GrR RV 40 wr lo w.heap.size (l.filter (fun x => !f x)) (.slice q m d)) := by
        have := hgr.out
        rwa [← hlen.out, List.take_length] at this
      clear hgr hx cg
      go_wp2
      go_ret
      exact ⟨_, rfl, hfin.out, hB.out⟩

set_option maxRecDepth 100000 in
set_option maxHeartbeats 8000000 in
theorem without88_89 (l : List Lk) (sl : Value) (id : Int) (B1 lo : Nat) (w : World) (hs : Sq RL w lo l sl) (h1 : w.cell? ⟨B1, 0, none⟩ = some (.int .i64 id)) (hlo : lo ≤ w.heap.size) :
    Calls Try.prog 53 #[sl, .func (.func 54) #[] #[.pointer (some ⟨B1, 0, none⟩)]] w fun e w' => ∃ v, e = .returned v ∧ GrR RL 46 w' lo w.heap.size (l.filter (fun x => !(decide (x.out = id) || decide (x.inn = id)))) v ∧ Below w.heap.size w w' := by
  obtain ⟨p, cap, rfl, hc, hcm, hby, hx⟩ := hs
  unfold maxLen at hcm
  have hx := Lib.hid hx
  have cg := fun (W : World) (hW : Below w.heap.size w W) (x : Lk) p n c => goes54 x p n c id B1 W (some_on hW h1)
  obtain ⟨f, hf⟩ : ∃ f : Lk → Bool, f = fun x => decide (x.out = id) || decide (x.inn = id) := ⟨_, rfl⟩
  have hff : (fun x : Lk => !(decide (x.out = id) || decide (x.inn = id))) = fun x => !f x := by rw [hf]
  rw [hff]
  have cg : ∀ (W : World) (hW : Below w.heap.size w W) (x : Lk) p n c, Calls Try.prog 54 #[.agg #[.int .i64 x.id, .string x.lb, .int .i64 x.out, .int .i64 x.inn, .slice p n c], .pointer (some ⟨B1, 0, none⟩)] W fun e w' => e = .returned (.bool (f x)) ∧ Below W.heap.size W w' := by rw [hf]; exact cg
  clear hff hf h1
  obtain ⟨N, hN⟩ : ∃ n, l.length = n := ⟨_, rfl⟩
  rw [hN] at hc hby ⊢
  have hby : N * 64 ≤ 140737488351232 := hby
  have hlen := Lib.hid hN
  clear hN
  obtain ⟨i0, hi, hz0, hz1, hz2⟩ := info_parts info46
  have hlo := Lib.hid hlo
  go_enter Try.func53, Try.ntmps53
  go_wp2
  go_loopg [10, 7, 5] N (fun c s10 s7 s5 wr => ∃ (i : Nat) (q : Option Addr) (m d : Nat), i + c = N ∧ s10 = .int .i64 i ∧ s5 = .slice q m d ∧ Hid (Below w.heap.size w wr) ∧ Hid (GrR RL 46 wr lo w.heap.size ((l.take i).filter (fun x => !f x)) (.slice q m d)))
  case atStart => exact ⟨0, none, 0, 0, by omega, rfl, rfl, Below.refl _ _, grR_nil _ _ _ _ _⟩
  case round =>
    obtain ⟨i, q, m, d, hig, rfl, rfl, hB, hgr⟩ := hrel
    cases gk with
    | succ c =>
      have hil : i < l.length := by have := hlen.out; omega
      have hiz : (i : Int) < (N : Int) := by omega
      have hiz0 : (0 : Int) ≤ (i : Int) := by omega
      obtain ⟨b, o, rfl, hlb, hx1⟩ := hx.out.resolve_left (by rintro rfl; simp at hil)
      obtain ⟨s1, hat, hv1⟩ := hx1.at i hil
      obtain ⟨p1, n1, c1, rfl⟩ := hdL hv1
      obtain ⟨a0, a1, a2, a3, a4⟩ := ats5 (hat.keep (keep_below hB.out) hlb)
      simp only [show RL.n = 5 from rfl] at a0 a1 a2 a3 a4
      have htf := Lib.hid (take_fltr hil (fun x => !f x))
      have hfl : Hid (((l.take i).filter (fun x => !f x)).length ≤ i) := by
        show _ ≤ _
        exact Nat.le_trans (List.length_filter_le _ _) (by simp; omega)
      have hm : Hid (m = ((l.take i).filter (fun x => !f x)).length) := by
        show _ = _
        obtain ⟨_, _, e, _⟩ := hgr.out.form
        injection e
      have hv1 := Lib.hid hv1
      clear hat hx1 hx
      generalize l[i] = x at *
      generalize (l.take i).filter (fun x => !f x) = L at *
      have hBW := Lib.hid (bel_then hB.out (bel1 wr (Obj.cells #[.int .i64 x.id, .string x.lb, .int .i64 x.out, .int .i64 x.inn, .slice p1 n1 c1] 46)))
      have hbl := Lib.hid (World.alloc_heap_new wr (Obj.cells #[.int .i64 x.id, .string x.lb, .int .i64 x.out, .int .i64 x.inn, .slice p1 n1 c1] 46))
      have hb1 := Lib.hid (bel1 wr (Obj.cells #[.int .i64 x.id, .string x.lb, .int .i64 x.out, .int .i64 x.inn, .slice p1 n1 c1] 46))
      have c66 := cg _ hBW.out x p1 n1 c1
      generalize hfx : f x = fx at *
      cases fx with
      | true =>
        go_wp2_with (go_at_call 54; refine c66.mono ?_; rintro e w2 ⟨rfl, hb2⟩; have HB2 := Lib.hid (bel_then hb1.out hb2); clear hb2 c66)
        go_roundg c
        case measure => omega
        case rel => exact ⟨i + 1, q, m, d, by omega, by first | rfl | simp, rfl, bel_then hB.out HB2.out, by show GrR _ _ _ _ _ _ _; rw [htf.out]; simpa using hgr.out.on HB2.out⟩
      | false =>
        have hu := Lib.hid (fun (W : World) (hW : Below wr.heap.size wr W) => (show ∀ a c', w.cell? a = some c' → W.cell? a = some c' ∧ some a.block ≠ (Value.slice q m d).ownBlock from fun a c' hc' => ⟨some_on hW (some_on hB.out hc'), fun e => by have := (hgr.out.lt e.symm).1; have := cell_lt hc'; omega⟩))
        go_wp2_with (first
          | (go_at_call 54; refine c66.mono ?_; rintro e w2 ⟨rfl, hb2⟩; have HB2 := Lib.hid (bel_then hb1.out hb2); obtain ⟨u0, u1, u2, u3, u4, uf⟩ := five_of (blk_on hb2 hbl.out); clear hb2 c66)
          | (at_builtin; refine wpList_gro len_RL (by decide) 25 46 i0 zLk Try.underlying25 hi hz0 hz1 hz2 rfl _ rfl _ _ rfl lo w.heap.size _ L _ x (.slice p1 n1 c1) w rfl (by exact (hgr.out.on HB2.out).alloc _) rfl hv1.out (by exact hu.out _ (bel_then HB2.out (bel1 _ _))) (by exact new_ats' _ (RL.cs x (.slice p1 n1 c1)) 46 (by simp)) (by intro c hc; simp only [RL, List.mem_cons, List.not_mem_nil, or_false] at hc; rcases hc with rfl | rfl | rfl | rfl | rfl <;> rfl) (by have := hfl.out; unfold maxLen; omega) (by have := hfl.out; show (L.length + 1) * 64 ≤ _; omega) (by have := (bel_then hB.out HB2.out).size; simp; omega) ?_; intro g5 cap5 w5 hG5 hgr5 hg5; have HG := Lib.hid (And.intro hG5 (gro_below ((hgr.out.on HB2.out).alloc _) hgr5 (Nat.le_refl _) (by have := (bel_then hB.out HB2.out).size; simp; omega))); clear hG5 hgr5 hg5))
        go_roundg c
        case measure => omega
        case rel => exact ⟨i + 1, _, _, _, by omega, by first | rfl | simp, rfl, (bel_then hB.out (bel_then HB2.out (bel1 _ _))).trans HG.out.2, by show GrR _ _ _ _ _ _ _; rw [htf.out]; simpa using HG.out.1⟩
    | zero =>
      obtain rfl : i = N := by omega
      have hfin : Hid (GrR RL 46 wr lo w.heap.size (l.filter (fun x => !f x)) (.slice q m d)) := by
        have := hgr.out
        rwa [← hlen.out, List.take_length] at this
      clear hgr hx cg
      go_wp2
      go_ret
      exact ⟨_, rfl, hfin.out, hB.out⟩
end Go.Proofs.Yteknbploiombiaa
