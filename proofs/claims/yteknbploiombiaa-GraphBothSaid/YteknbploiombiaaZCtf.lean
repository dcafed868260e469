/-
  What slices.ContainsFunc does with the edges that are told and the closures of GraphBoth.
-/
import Derived.Test.YteknbploiombiaaZLnk
namespace Go.Proofs.Yteknbploiombiaa
open Go.RowKit
set_option linter.unusedVariables false      -- a walk need not use every condition

theorem hdS {w : World} {lo : Nat} {x : Lk} {sl : Value} (h : RS.In w lo x sl) : ∃ p n c, sl = .slice p n c := h

theorem eq13 (x : Lk) (p : Option Addr) (n c : Nat) (id : Int) (Be : Nat) (w : World) (h1 : w.cell? ⟨Be, 0, none⟩ = some (.int .i64 id)) :
    Calls Try.prog 13 #[.agg #[.int .i64 x.id, .string x.lb, .int .i64 x.out, .int .i64 x.inn, .slice p n c], .pointer (some ⟨Be, 0, none⟩)] w fun e w' => e = .returned (.bool (decide (x.id = id))) ∧ Below w.heap.size w w' := by
  have k1 := some_on (bel1 w (Obj.cells #[.int .i64 x.id, .string x.lb, .int .i64 x.out, .int .i64 x.inn, .slice p n c] 46)) h1
  have hb := Lib.hid (bel1 w (Obj.cells #[.int .i64 x.id, .string x.lb, .int .i64 x.out, .int .i64 x.inn, .slice p n c] 46))
  have hd : (x.id == id) = decide (x.id = id) := by rw [Bool.eq_iff_iff]; simp
  generalize decide (x.id = id) = A at *
  go_enter Try.func13, Try.ntmps13
  go_wp2
  go_ret
  exact ⟨by first | rfl | simp [hd], hb.out⟩
set_option maxRecDepth 100000 in
set_option maxHeartbeats 4000000 in
theorem index76_39 (L : List Lk) (sl : Value) (id : Int) (Be : Nat) (w : World) (hs : Sq RS w 0 L sl) (h1 : w.cell? ⟨Be, 0, none⟩ = some (.int .i64 id)) (hex : ∃ x ∈ L, x.id = id) :
    Calls Try.prog 34 #[sl, .func (.func 13) #[] #[.pointer (some ⟨Be, 0, none⟩)]] w fun e w' => ∃ k : Nat, e = .returned (.int .i64 k) ∧ k ≤ 9223372036854775807 ∧ Below w.heap.size w w' := by
  obtain ⟨p, cap, rfl, hc, hcm, -, hx⟩ := hs
  unfold maxLen at hcm
  have hx := Lib.hid hx
  have hex := Lib.hid hex
  have cg := fun (W : World) (hW : Below w.heap.size w W) (x : Lk) p n c => eq13 x p n c id Be W (some_on hW h1)
  obtain ⟨N, hN⟩ : ∃ n, L.length = n := ⟨_, rfl⟩
  rw [hN] at hc ⊢
  have hlen := Lib.hid hN
  clear hN h1
  go_enter Try.func34, Try.ntmps34
  go_wp2
  go_loopg [8, 5] N (fun c s8 s5 wr => ∃ (i : Nat), i + c = N ∧ s8 = .int .i64 i ∧ Hid (Below w.heap.size w wr) ∧ Hid (∀ t (ht : t < L.length), t < i → L[t].id ≠ id))
  case atStart => exact ⟨0, by omega, rfl, Below.refl _ _, fun t _ h => absurd h (Nat.not_lt_zero _)⟩
  case round =>
    obtain ⟨i, hig, rfl, hB, hall⟩ := hrel
    cases gk with
    | succ c =>
      have hi : i < L.length := by have := hlen.out; omega
      have hiz : (i : Int) < (N : Int) := by omega
      have hi0 : (0 : Int) ≤ (i : Int) := by omega
      obtain ⟨b, o, rfl, -, hx1⟩ := hx.out.resolve_left (by rintro rfl; simp at hi)
      obtain ⟨s1, hat, hv1⟩ := (hx1.on' hB.out).at i hi
      obtain ⟨p1, n1, c1, rfl⟩ := hdS hv1
      obtain ⟨a0, a1, a2, a3, a4⟩ := ats5 hat
      simp only [show RS.n = 5 from rfl] at a0 a1 a2 a3 a4
      have hF : Hid (L[i].id ≠ id → ∀ t (ht : t < L.length), t < i + 1 → L[t].id ≠ id) := fun h t ht hti => by
        by_cases e : t = i
        · subst e; exact h
        · exact hall.out t ht (by omega)
      have cx := cg wr hB.out L[i] p1 n1 c1
      clear hat hx1 hx hv1 cg
      generalize L[i] = x at *
      by_cases he : x.id = id
      · rw [decide_eq_true he] at cx
        clear he
        go_wp2_with (go_at_call 13; refine cx.mono ?_; rintro e w2 ⟨rfl, hb2⟩; have HB2 := Lib.hid (bel_then hB.out hb2); clear hb2)
        go_ret
        exact ⟨i, rfl, by omega, HB2.out⟩
      · rw [decide_eq_false he] at cx
        have hr := Lib.hid (hF.out he)
        clear he
        go_wp2_with (go_at_call 13; refine cx.mono ?_; rintro e w2 ⟨rfl, hb2⟩; have HB2 := Lib.hid (bel_then hB.out hb2); clear hb2)
        go_roundg c
        case measure => omega
        case rel => exact ⟨i + 1, by omega, by first | rfl | simp, HB2.out, hr.out⟩
    | zero =>
      exfalso
      obtain ⟨x, hx', he⟩ := hex.out
      obtain ⟨t, ht, rfl⟩ := List.getElem_of_mem hx'
      exact hall.out t ht (by have := hlen.out; omega) he
theorem contains38_39 (L : List Lk) (sl : Value) (id : Int) (Be : Nat) (w : World) (hs : Sq RS w 0 L sl) (h1 : w.cell? ⟨Be, 0, none⟩ = some (.int .i64 id)) (hex : ∃ x ∈ L, x.id = id) :
    Calls Try.prog 11 #[sl, .func (.func 13) #[] #[.pointer (some ⟨Be, 0, none⟩)]] w fun e w' => e = .returned (.bool true) ∧ Below w.heap.size w w' := by
  have c76 := index76_39 L sl id Be w hs h1 hex
  obtain ⟨p, cap, rfl⟩ := hs.header
  clear hs h1 hex
  go_enter Try.func11, Try.ntmps11
  go_wp2_with (go_at_call 34; refine c76.mono ?_; rintro e w1 ⟨k, rfl, hk, hb1⟩; have HB1 := Lib.hid hb1; have hkz : (0 : Int) ≤ (k : Int) := (by omega); clear hb1)
  go_ret
  exact ⟨by first | rfl | simp, HB1.out⟩

theorem eq14 (x : Lk) (p : Option Addr) (n c : Nat) (id : Int) (Be : Nat) (w : World) (h1 : w.cell? ⟨Be, 0, none⟩ = some (.int .i64 id)) :
    Calls Try.prog 14 #[.agg #[.int .i64 x.id, .string x.lb, .int .i64 x.out, .int .i64 x.inn, .slice p n c], .pointer (some ⟨Be, 0, none⟩)] w fun e w' => e = .returned (.bool (decide (x.id = id))) ∧ Below w.heap.size w w' := by
  have k1 := some_on (bel1 w (Obj.cells #[.int .i64 x.id, .string x.lb, .int .i64 x.out, .int .i64 x.inn, .slice p n c] 46)) h1
  have hb := Lib.hid (bel1 w (Obj.cells #[.int .i64 x.id, .string x.lb, .int .i64 x.out, .int .i64 x.inn, .slice p n c] 46))
  have hd : (x.id == id) = decide (x.id = id) := by rw [Bool.eq_iff_iff]; simp
  generalize decide (x.id = id) = A at *
  go_enter Try.func14, Try.ntmps14
  go_wp2
  go_ret
  exact ⟨by first | rfl | simp [hd], hb.out⟩
set_option maxRecDepth 100000 in
set_option maxHeartbeats 4000000 in
theorem index76_40 (L : List Lk) (sl : Value) (id : Int) (Be : Nat) (w : World) (hs : Sq RS w 0 L sl) (h1 : w.cell? ⟨Be, 0, none⟩ = some (.int .i64 id)) (hex : ∃ x ∈ L, x.id = id) :
    Calls Try.prog 34 #[sl, .func (.func 14) #[] #[.pointer (some ⟨Be, 0, none⟩)]] w fun e w' => ∃ k : Nat, e = .returned (.int .i64 k) ∧ k ≤ 9223372036854775807 ∧ Below w.heap.size w w' := by
  obtain ⟨p, cap, rfl, hc, hcm, -, hx⟩ := hs
  unfold maxLen at hcm
  have hx := Lib.hid hx
  have hex := Lib.hid hex
  have cg := fun (W : World) (hW : Below w.heap.size w W) (x : Lk) p n c => eq14 x p n c id Be W (some_on hW h1)
  obtain ⟨N, hN⟩ : ∃ n, L.length = n := ⟨_, rfl⟩
  rw [hN] at hc ⊢
  have hlen := Lib.hid hN
  clear hN h1
  go_enter Try.func34, Try.ntmps34
  go_wp2
  go_loopg [8, 5] N (fun c s8 s5 wr => ∃ (i : Nat), i + c = N ∧ s8 = .int .i64 i ∧ Hid (Below w.heap.size w wr) ∧ Hid (∀ t (ht : t < L.length), t < i → L[t].id ≠ id))
  case atStart => exact ⟨0, by omega, rfl, Below.refl _ _, fun t _ h => absurd h (Nat.not_lt_zero _)⟩
  case round =>
    obtain ⟨i, hig, rfl, hB, hall⟩ := hrel
    cases gk with
    | succ c =>
      have hi : i < L.length := by have := hlen.out; omega
      have hiz : (i : Int) < (N : Int) := by omega
      have hi0 : (0 : Int) ≤ (i : Int) := by omega
      obtain ⟨b, o, rfl, -, hx1⟩ := hx.out.resolve_left (by rintro rfl; simp at hi)
      obtain ⟨s1, hat, hv1⟩ := (hx1.on' hB.out).at i hi
      obtain ⟨p1, n1, c1, rfl⟩ := hdS hv1
      obtain ⟨a0, a1, a2, a3, a4⟩ := ats5 hat
      simp only [show RS.n = 5 from rfl] at a0 a1 a2 a3 a4
      have hF : Hid (L[i].id ≠ id → ∀ t (ht : t < L.length), t < i + 1 → L[t].id ≠ id) := fun h t ht hti => by
        by_cases e : t = i
        · subst e; exact h
        · exact hall.out t ht (by omega)
      have cx := cg wr hB.out L[i] p1 n1 c1
      clear hat hx1 hx hv1 cg
      generalize L[i] = x at *
      by_cases he : x.id = id
      · rw [decide_eq_true he] at cx
        clear he
        go_wp2_with (go_at_call 14; refine cx.mono ?_; rintro e w2 ⟨rfl, hb2⟩; have HB2 := Lib.hid (bel_then hB.out hb2); clear hb2)
        go_ret
        exact ⟨i, rfl, by omega, HB2.out⟩
      · rw [decide_eq_false he] at cx
        have hr := Lib.hid (hF.out he)
        clear he
        go_wp2_with (go_at_call 14; refine cx.mono ?_; rintro e w2 ⟨rfl, hb2⟩; have HB2 := Lib.hid (bel_then hB.out hb2); clear hb2)
        go_roundg c
        case measure => omega
        case rel => exact ⟨i + 1, by omega, by first | rfl | simp, HB2.out, hr.out⟩
    | zero =>
      exfalso
      obtain ⟨x, hx', he⟩ := hex.out
      obtain ⟨t, ht, rfl⟩ := List.getElem_of_mem hx'
      exact hall.out t ht (by have := hlen.out; omega) he
theorem contains38_40 (L : List Lk) (sl : Value) (id : Int) (Be : Nat) (w : World) (hs : Sq RS w 0 L sl) (h1 : w.cell? ⟨Be, 0, none⟩ = some (.int .i64 id)) (hex : ∃ x ∈ L, x.id = id) :
    Calls Try.prog 11 #[sl, .func (.func 14) #[] #[.pointer (some ⟨Be, 0, none⟩)]] w fun e w' => e = .returned (.bool true) ∧ Below w.heap.size w w' := by
  have c76 := index76_40 L sl id Be w hs h1 hex
  obtain ⟨p, cap, rfl⟩ := hs.header
  clear hs h1 hex
  go_enter Try.func11, Try.ntmps11
  go_wp2_with (go_at_call 34; refine c76.mono ?_; rintro e w1 ⟨k, rfl, hk, hb1⟩; have HB1 := Lib.hid hb1; have hkz : (0 : Int) ≤ (k : Int) := (by omega); clear hb1)
  go_ret
  exact ⟨by first | rfl | simp, HB1.out⟩
end Go.Proofs.Yteknbploiombiaa
