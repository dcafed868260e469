/-
  Where propsIn of package graph finds an element's properties.
-/
import Derived.Test.YtnfafcalhbhfnaaZWoWoa
import Derived.Test.YtnfafcalhbhfnaaZSepClsCgs
namespace Go.Proofs.Ytnfafcalhbhfnaa
open Go.RowKit
set_option linter.unusedVariables false      -- a walk need not use every condition

set_option maxRecDepth 100000 in
set_option maxHeartbeats 4000000 in
theorem pin_v (vs : List Vx) (pv : Option Addr) (cv : Nat) (se : Value) (last : Int) (Bg : Nat) (id : Int) (s : ByteArray) (q : Option Addr) (m d : Nat) (w : World) (hb : w.heap[Bg]? = some (.cells #[.slice pv vs.length cv, se, .int .i64 last] 25)) (hs : Sq RV w 0 vs (.slice pv vs.length cv)) :
    Calls Try.prog 78 #[.pointer (some ⟨Bg, 0, none⟩), .agg #[.int .i64 6, .int .i64 id, .string s, .slice q m d]] w fun e w' => Below w.heap.size w w' ∧
      ((∃ (i : Nat) (hi : i < vs.length), vs[i].id = id ∧ (∀ t (ht : t < vs.length), t < i → vs[t].id ≠ id) ∧ ∃ b o, pv = some ⟨b, o, none⟩ ∧ e = .returned (.pointer (some ⟨b, o + i * 3 + 2, none⟩))) ∨ ((∀ t (ht : t < vs.length), vs[t].id ≠ id) ∧ e = .returned (.pointer none))) := by
  obtain ⟨p', cap', e', hlc, hcap, -, hx⟩ := hs
  injection e' with e1 e2 e3
  subst e1 e3
  clear e2
  unfold maxLen at hcap
  have hx := Lib.hid hx
  obtain ⟨N, hN⟩ : ∃ n, vs.length = n := ⟨_, rfl⟩
  rw [hN] at hb hlc
  have hlen := Lib.hid hN
  clear hN
  have hb0 := Lib.hid (bel1 w (Obj.cells #[.int .i64 6, .int .i64 id, .string s, .slice q m d] 32))
  have e0 := blk_on hb0.out hb
  have e1 := World.alloc_heap_new w (Obj.cells #[.int .i64 6, .int .i64 id, .string s, .slice q m d] 32)
  have mixed : Try.prog.follows .mixedOrders = true := by kernel_rfl
  obtain ⟨g0, g1, g2, gf⟩ := three_of e0
  obtain ⟨v0, v1, v2, v3⟩ := four_cells e1
  have hx1 := Lib.hid (fun h : vs ≠ [] => (hx.out.resolve_left h))
  clear e0 e1 hb
  go_enter Try.func78, Try.ntmps78
  go_wp2
  generalize w.alloc (Obj.cells #[.int .i64 6, .int .i64 id, .string s, .slice q m d] 32) = W at *
  go_loopg [16, 5] N (fun c s16 s5 wr => ∃ (i : Nat), i + c = N ∧ s16 = .int .i64 i ∧ Hid (Below W.heap.size W wr) ∧ Hid (∀ t (ht : t < vs.length), t < i → vs[t].id ≠ id))
  case atStart => exact ⟨0, by omega, rfl, Below.refl _ _, fun t _ h => absurd h (Nat.not_lt_zero _)⟩
  case round =>
    obtain ⟨i, hig, rfl, hB, hall⟩ := hrel
    cases gk with
    | succ c =>
      have hi : i < vs.length := by have := hlen.out; omega
      have hiz : (i : Int) < (N : Int) := by omega
      have hi0 : (0 : Int) ≤ (i : Int) := by omega
      obtain ⟨b, o, rfl, -, hxx⟩ := hx1.out (by rintro rfl; simp at hi)
      obtain ⟨s1, hat, hv1⟩ := ((hxx.on' hb0.out).on' hB.out).at i hi
      obtain ⟨a0, a1, a2⟩ := ats3 hat
      simp only [show RV.n = 3 from rfl] at a0 a1 a2
      have hF : Hid (vs[i].id ≠ id → ∀ t (ht : t < vs.length), t < i + 1 → vs[t].id ≠ id) := fun h t ht hti => by
        by_cases e : t = i
        · subst e; exact h
        · exact hall.out t ht (by omega)
      have hY : Hid (∀ (x : Vx), vs[i] = x → x.id = id → ∃ (i' : Nat) (hi : i' < vs.length), vs[i'].id = id ∧ (∀ t (ht : t < vs.length), t < i' → vs[t].id ≠ id) ∧ i' = i) := fun x hx he => ⟨i, hi, by rw [hx]; exact he, hall.out, rfl⟩
      have k0 := some_on hB.out g0
      have k1 := some_on hB.out v1
      clear hat hxx hx1 hx hv1
      have hY := Lib.hid (hY.out _ rfl)
      generalize vs[i] = x at a0 a1 a2 hF hY
      by_cases he : x.id = id
      · have heb : (x.id == id) = true := by simpa using he
        have hY := Lib.hid (hY.out he)
        clear hF
        go_wp2
        go_region
        all_goals go_wp2
        all_goals go_ret
        all_goals refine ⟨bel_then hb0.out (bel_then hB.out ((Below.refl _ _).drew)), .inl ?_⟩
        all_goals (obtain ⟨i', h1, h2, h3, rfl⟩ := hY.out; exact ⟨i', h1, h2, h3, b, o, rfl, rfl⟩)
      · have heb : (x.id == id) = false := by simpa using he
        have hr := Lib.hid (hF.out he)
        clear hY
        go_wp2
        go_region
        all_goals go_wp2
        all_goals (go_roundg c)
        case measure => omega
        case rel => exact ⟨i + 1, by omega, by first | rfl | simp, bel_then hB.out ((Below.refl _ _).drew), hr.out⟩
    | zero =>
      obtain rfl : i = N := by omega
      have hA : Hid (∀ t (ht : t < vs.length), vs[t].id ≠ id) := fun t ht => hall.out t ht (by have := hlen.out; omega)
      clear hall hx hx1
      go_wp2
      go_ret
      exact ⟨bel_then hb0.out hB.out, .inr ⟨hA.out, rfl⟩⟩
set_option maxRecDepth 100000 in
set_option maxHeartbeats 4000000 in
theorem pin_e (es : List Lk) (pe : Option Addr) (ce : Nat) (sv : Value) (last : Int) (Bg : Nat) (id : Int) (s : ByteArray) (q : Option Addr) (m d : Nat) (w : World) (hb : w.heap[Bg]? = some (.cells #[sv, .slice pe es.length ce, .int .i64 last] 25)) (hs : Sq RL w 0 es (.slice pe es.length ce)) :
    Calls Try.prog 78 #[.pointer (some ⟨Bg, 0, none⟩), .agg #[.int .i64 7, .int .i64 id, .string s, .slice q m d]] w fun e w' => Below w.heap.size w w' ∧
      ((∃ (i : Nat) (hi : i < es.length), es[i].id = id ∧ (∀ t (ht : t < es.length), t < i → es[t].id ≠ id) ∧ ∃ b o, pe = some ⟨b, o, none⟩ ∧ e = .returned (.pointer (some ⟨b, o + i * 5 + 4, none⟩))) ∨ ((∀ t (ht : t < es.length), es[t].id ≠ id) ∧ e = .returned (.pointer none))) := by
  obtain ⟨p', cap', e', hlc, hcap, -, hx⟩ := hs
  injection e' with e1 e2 e3
  subst e1 e3
  clear e2
  unfold maxLen at hcap
  have hx := Lib.hid hx
  obtain ⟨N, hN⟩ : ∃ n, es.length = n := ⟨_, rfl⟩
  rw [hN] at hb hlc
  have hlen := Lib.hid hN
  clear hN
  have hb0 := Lib.hid (bel1 w (Obj.cells #[.int .i64 7, .int .i64 id, .string s, .slice q m d] 32))
  have e0 := blk_on hb0.out hb
  have e1 := World.alloc_heap_new w (Obj.cells #[.int .i64 7, .int .i64 id, .string s, .slice q m d] 32)
  have mixed : Try.prog.follows .mixedOrders = true := by kernel_rfl
  obtain ⟨g0, g1, g2, gf⟩ := three_of e0
  obtain ⟨v0, v1, v2, v3⟩ := four_cells e1
  have hx1 := Lib.hid (fun h : es ≠ [] => (hx.out.resolve_left h))
  clear e0 e1 hb
  go_enter Try.func78, Try.ntmps78
  go_wp2
  generalize w.alloc (Obj.cells #[.int .i64 7, .int .i64 id, .string s, .slice q m d] 32) = W at *
  go_loopg [45, 6] N (fun c s45 s6 wr => ∃ (i : Nat), i + c = N ∧ s45 = .int .i64 i ∧ Hid (Below W.heap.size W wr) ∧ Hid (∀ t (ht : t < es.length), t < i → es[t].id ≠ id))
  case atStart => exact ⟨0, by omega, rfl, Below.refl _ _, fun t _ h => absurd h (Nat.not_lt_zero _)⟩
  case round =>
    obtain ⟨i, hig, rfl, hB, hall⟩ := hrel
    cases gk with
    | succ c =>
      have hi : i < es.length := by have := hlen.out; omega
      have hiz : (i : Int) < (N : Int) := by omega
      have hi0 : (0 : Int) ≤ (i : Int) := by omega
      obtain ⟨b, o, rfl, -, hxx⟩ := hx1.out (by rintro rfl; simp at hi)
      obtain ⟨s1, hat, hv1⟩ := ((hxx.on' hb0.out).on' hB.out).at i hi
      obtain ⟨a0, a1, a2, a3, a4⟩ := ats5 hat
      simp only [show RL.n = 5 from rfl] at a0 a1 a2 a3 a4
      have hF : Hid (es[i].id ≠ id → ∀ t (ht : t < es.length), t < i + 1 → es[t].id ≠ id) := fun h t ht hti => by
        by_cases e : t = i
        · subst e; exact h
        · exact hall.out t ht (by omega)
      have hY : Hid (∀ (x : Lk), es[i] = x → x.id = id → ∃ (i' : Nat) (hi : i' < es.length), es[i'].id = id ∧ (∀ t (ht : t < es.length), t < i' → es[t].id ≠ id) ∧ i' = i) := fun x hx he => ⟨i, hi, by rw [hx]; exact he, hall.out, rfl⟩
      have k0 := some_on hB.out g1
      have k1 := some_on hB.out v1
      clear hat hxx hx1 hx hv1
      have hY := Lib.hid (hY.out _ rfl)
      generalize es[i] = x at a0 a1 a2 a3 a4 hF hY
      by_cases he : x.id = id
      · have heb : (x.id == id) = true := by simpa using he
        have hY := Lib.hid (hY.out he)
        clear hF
        go_wp2
        go_region
        all_goals go_wp2
        all_goals go_ret
        all_goals refine ⟨bel_then hb0.out (bel_then hB.out ((Below.refl _ _).drew)), .inl ?_⟩
        all_goals (obtain ⟨i', h1, h2, h3, rfl⟩ := hY.out; exact ⟨i', h1, h2, h3, b, o, rfl, rfl⟩)
      · have heb : (x.id == id) = false := by simpa using he
        have hr := Lib.hid (hF.out he)
        clear hY
        go_wp2
        go_region
        all_goals go_wp2
        all_goals (go_roundg c)
        case measure => omega
        case rel => exact ⟨i + 1, by omega, by first | rfl | simp, bel_then hB.out ((Below.refl _ _).drew), hr.out⟩
    | zero =>
      obtain rfl : i = N := by omega
      have hA : Hid (∀ t (ht : t < es.length), es[t].id ≠ id) := fun t ht => hall.out t ht (by have := hlen.out; omega)
      clear hall hx hx1
      go_wp2
      go_ret
      exact ⟨bel_then hb0.out hB.out, .inr ⟨hA.out, rfl⟩⟩
theorem pin_o (Bg : Nat) (k id : Int) (s : ByteArray) (q : Option Addr) (m d : Nat) (w : World) (h6 : k ≠ 6) (h7 : k ≠ 7) :
    Calls Try.prog 78 #[.pointer (some ⟨Bg, 0, none⟩), .agg #[.int .i64 k, .int .i64 id, .string s, .slice q m d]] w fun e w' => Below w.heap.size w w' ∧ e = .returned (.pointer none) := by
  have hb0 := Lib.hid (bel1 w (Obj.cells #[.int .i64 k, .int .i64 id, .string s, .slice q m d] 32))
  have h6' : (k == 6) = false := by simpa using h6
  have h7' : (k == 7) = false := by simpa using h7
  go_enter Try.func78, Try.ntmps78
  go_wp2
  go_ret
  exact ⟨hb0.out, rfl⟩
end Go.Proofs.Ytnfafcalhbhfnaa
