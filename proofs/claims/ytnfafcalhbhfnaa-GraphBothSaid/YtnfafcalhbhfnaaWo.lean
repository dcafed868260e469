/-
  What without and propsIn of package graph do, where a vertex is dropped.
-/
import Derived.Test.YtnfafcalhbhfnaaGrw
import Derived.BigQuiet
namespace Go.Proofs.Ytnfafcalhbhfnaa
open Go.RowKit
set_option linter.unusedVariables false      -- a walk need not use every condition

theorem take_fltr {α : Type} {l : List α} {i : Nat} (hi : i < l.length) (f : α → Bool) : (l.take (i + 1)).filter f = (l.take i).filter f ++ (if f l[i] = true then [l[i]] else []) := by
  rw [List.take_succ_eq_append_getElem hi, List.filter_append]
  congr 1
  cases h : f l[i] <;> simp [h]
theorem goes87 (x : Vx) (p : Option Addr) (n c : Nat) (id : Int) (B1 : Nat) (w : World) (h1 : w.cell? ⟨B1, 0, none⟩ = some (.int .i64 id)) :
    Calls Try.prog 87 #[.agg #[.int .i64 x.id, .string x.lb, .slice p n c], .pointer (some ⟨B1, 0, none⟩)] w fun e w' => e = .returned (.bool (decide (x.id = id))) ∧ Below w.heap.size w w' := by
  have k1 := some_on (bel1 w (Obj.cells #[.int .i64 x.id, .string x.lb, .slice p n c] 41)) h1
  have hb := Lib.hid (bel1 w (Obj.cells #[.int .i64 x.id, .string x.lb, .slice p n c] 41))
  have hd : (x.id == id) = decide (x.id = id) := by rw [Bool.eq_iff_iff]; simp
  generalize decide (x.id = id) = A at *
  go_enter Try.func87, Try.ntmps87
  go_wp2
  go_ret
  exact ⟨by first | rfl | simp [hd], hb.out⟩
theorem goes89 (x : Lk) (p : Option Addr) (n c : Nat) (id : Int) (B1 : Nat) (w : World) (h1 : w.cell? ⟨B1, 0, none⟩ = some (.int .i64 id)) :
    Calls Try.prog 89 #[.agg #[.int .i64 x.id, .string x.lb, .int .i64 x.out, .int .i64 x.inn, .slice p n c], .pointer (some ⟨B1, 0, none⟩)] w fun e w' => e = .returned (.bool (decide (x.out = id) || decide (x.inn = id))) ∧ Below w.heap.size w w' := by
  have k1 := some_on (bel1 w (Obj.cells #[.int .i64 x.id, .string x.lb, .int .i64 x.out, .int .i64 x.inn, .slice p n c] 46)) h1
  have hb := Lib.hid (bel1 w (Obj.cells #[.int .i64 x.id, .string x.lb, .int .i64 x.out, .int .i64 x.inn, .slice p n c] 46))
  have hd2 : (x.inn == id) = decide (x.inn = id) := by rw [Bool.eq_iff_iff]; simp
  by_cases h : x.out = id
  · have hr : Hid ((decide (x.out = id) || decide (x.inn = id)) = true) := by show _ = _; rw [decide_eq_true h]; rfl
    rw [hr.out]
    have hd1 : (x.out == id) = true := by simpa using h
    clear h hr hd2
    go_enter Try.func89, Try.ntmps89
    go_wp2
    go_ret
    exact ⟨rfl, hb.out⟩
  · have hr : Hid ((decide (x.out = id) || decide (x.inn = id)) = decide (x.inn = id)) := by show _ = _; rw [decide_eq_false h]; rfl
    rw [hr.out]
    have hd1 : (x.out == id) = false := by simpa using h
    clear h hr
    generalize decide (x.inn = id) = A at *
    go_enter Try.func89, Try.ntmps89
    go_wp2
    go_ret
    exact ⟨by first | rfl | simp [hd2], hb.out⟩
theorem four_cells {w : World} {g : Nat} {a b c d : Value} {t : TypeId} (e : w.heap[g]? = some (.cells #[a, b, c, d] t)) :
    w.cell? ⟨g, 0, none⟩ = some a ∧ w.cell? ⟨g, 1, none⟩ = some b ∧ w.cell? ⟨g, 2, none⟩ = some c ∧ w.cell? ⟨g, 3, none⟩ = some d := by
  refine ⟨?_, ?_, ?_, ?_⟩ <;> simp [World.cell?, e]

set_option maxRecDepth 100000 in
set_option maxHeartbeats 4000000 in
theorem props78v (vs : List Vx) (pv : Option Addr) (cv : Nat) (se : Value) (last : Int) (Bg : Nat) (id : Int) (s : ByteArray) (q : Option Addr) (m d : Nat) (w : World) (hb : w.heap[Bg]? = some (.cells #[.slice pv vs.length cv, se, .int .i64 last] 25)) (hs : Sq RV w 0 vs (.slice pv vs.length cv)) (hh : hasV vs id = true) :
    Calls Try.prog 78 #[.pointer (some ⟨Bg, 0, none⟩), .agg #[.int .i64 6, .int .i64 id, .string s, .slice q m d]] w fun e w' => ∃ a, e = .returned (.pointer (some a)) ∧ Below w.heap.size w w' := by
  obtain ⟨p', cap', e', hlc, hcap, -, hx⟩ := hs
  injection e' with e1 e2 e3
  subst e1 e3
  clear e2
  unfold maxLen at hcap
  have hx := Lib.hid hx
  have hh := Lib.hid hh
  obtain ⟨N, hN⟩ : ∃ n, vs.length = n := ⟨_, rfl⟩
  rw [hN] at hb hlc
  have hlen := Lib.hid hN
  clear hN
  have hb0 := Lib.hid (bel1 w (Obj.cells #[.int .i64 6, .int .i64 id, .string s, .slice q m d] 32))
  have e0 := blk_on hb0.out hb
  have e1 := World.alloc_heap_new w (Obj.cells #[.int .i64 6, .int .i64 id, .string s, .slice q m d] 32)
  have mixed : Try.prog.follows .mixedOrders = true := by kernel_rfl
  obtain ⟨g0, g1, g2, gf⟩ := three_of e0
  obtain ⟨v0, v1, v2, v3⟩ := four_cells e1
  have hx1 := Lib.hid (fun h : vs ≠ [] => (hx.out.resolve_left h))
  clear e0 e1 hb
  go_enter Try.func78, Try.ntmps78
  go_wp2
  generalize w.alloc (Obj.cells #[.int .i64 6, .int .i64 id, .string s, .slice q m d] 32) = W at *
  go_loopg [16, 5] N (fun c s16 s5 wr => ∃ (i : Nat), i + c = N ∧ s16 = .int .i64 i ∧ Hid (Below W.heap.size W wr) ∧ Hid (∀ t (ht : t < vs.length), t < i → vs[t].id ≠ id))
  case atStart => exact ⟨0, by omega, rfl, Below.refl _ _, fun t _ h => absurd h (Nat.not_lt_zero _)⟩
  case round =>
    obtain ⟨i, hig, rfl, hB, hall⟩ := hrel
    cases gk with
    | succ c =>
      have hi : i < vs.length := by have := hlen.out; omega
      have hiz : (i : Int) < (N : Int) := by omega
      have hi0 : (0 : Int) ≤ (i : Int) := by omega
      obtain ⟨b, o, rfl, -, hxx⟩ := hx1.out (by rintro rfl; simp at hi)
      obtain ⟨s1, hat, hv1⟩ := ((hxx.on' hb0.out).on' hB.out).at i hi
      obtain ⟨a0, a1, a2⟩ := ats3 hat
      simp only [show RV.n = 3 from rfl] at a0 a1 a2
      have hF : Hid (vs[i].id ≠ id → ∀ t (ht : t < vs.length), t < i + 1 → vs[t].id ≠ id) := fun h t ht hti => by
        by_cases e : t = i
        · subst e; exact h
        · exact hall.out t ht (by omega)
      have k0 := some_on hB.out g0
      have k1 := some_on hB.out v1
      clear hat hxx hx1 hx hv1
      generalize vs[i] = x at *
      by_cases he : x.id = id
      · have heb : (x.id == id) = true := by simpa using he
        go_wp2
        go_region
        all_goals go_wp2
        all_goals go_ret
        all_goals exact ⟨_, rfl, bel_then hb0.out (bel_then hB.out ((Below.refl _ _).drew))⟩
      · have heb : (x.id == id) = false := by simpa using he
        have hr := Lib.hid (hF.out he)
        go_wp2
        go_region
        all_goals go_wp2
        all_goals (go_roundg c)
        case measure => omega
        case rel => exact ⟨i + 1, by omega, by first | rfl | simp, bel_then hB.out ((Below.refl _ _).drew), hr.out⟩
    | zero =>
      exfalso
      have := hh.out
      rw [hasV_no (fun t ht => hall.out t ht (by have := hlen.out; omega))] at this
      cases this
end Go.Proofs.Ytnfafcalhbhfnaa
