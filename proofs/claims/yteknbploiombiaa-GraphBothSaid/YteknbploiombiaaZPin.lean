/-
  Where propsIn of package graph finds an element's properties.
-/
import Derived.Test.YteknbploiombiaaZWoWoa
import Derived.Test.YteknbploiombiaaZSep
import Derived.Test.YteknbploiombiaaZTha
import Derived.Deep.RegionHeld3
namespace Go.Proofs.Yteknbploiombiaa
open Go.RowKit
set_option linter.unusedVariables false      -- a walk need not use every condition

theorem bel_drew {w W : World} (h : Below w.heap.size w W) : Below w.heap.size w W.drew := bel_then h (Below.refl _ W).drew
theorem six_on {u u' : World} (hb : Below u.heap.size u u') {A B C i j : Nat} {a b c d e f : Value} (h : (u.cell? ⟨A, 0, none⟩ = some a ∧ u.cell? ⟨A, 1, none⟩ = some b ∧ u.cell? ⟨A, 2, none⟩ = some c ∧ u.cell? ⟨A, 3, none⟩ = some d) ∧ u.cell? ⟨B, i, none⟩ = some e ∧ u.cell? ⟨C, j, none⟩ = some f) : (u'.cell? ⟨A, 0, none⟩ = some a ∧ u'.cell? ⟨A, 1, none⟩ = some b ∧ u'.cell? ⟨A, 2, none⟩ = some c ∧ u'.cell? ⟨A, 3, none⟩ = some d) ∧ u'.cell? ⟨B, i, none⟩ = some e ∧ u'.cell? ⟨C, j, none⟩ = some f :=
  ⟨⟨some_on hb h.1.1, some_on hb h.1.2.1, some_on hb h.1.2.2.1, some_on hb h.1.2.2.2⟩, some_on hb h.2.1, some_on hb h.2.2⟩
set_option maxRecDepth 100000 in
set_option maxHeartbeats 4000000 in
theorem pin_v (vs : List Vx) (pv : Option Addr) (cv : Nat) (se : Value) (last : Int) (Bg : Nat) (id : Int) (s : ByteArray) (l : List V) (q : Option Addr) (m d : Nat) (w : World) (hb : w.heap[Bg]? = some (.cells #[.slice pv vs.length cv, se, .int .i64 last] 27)) (hs : Sq RV w 0 vs (.slice pv vs.length cv)) (hel : (V.mk 6 id s l).In w 0 (.slice q m d)) :
    Calls Try.prog 40 #[.pointer (some ⟨Bg, 0, none⟩), .agg #[.int .i64 6, .int .i64 id, .string s, .slice q m d]] w fun e w' => Below w.heap.size w w' ∧
      ((∃ (i : Nat) (hi : i < vs.length), plain s l = true ∧ vs[i].id = id ∧ (∀ t (ht : t < vs.length), t < i → vs[t].id ≠ id) ∧ ∃ b o, pv = some ⟨b, o, none⟩ ∧ e = .returned (.pointer (some ⟨b, o + i * 3 + 2, none⟩))) ∨ ((∀ t (ht : t < vs.length), plain s l = true → vs[t].id ≠ id) ∧ e = .returned (.pointer none))) := by
  obtain ⟨p', cap', e', hlc, hcap, -, hx⟩ := hs
  injection e' with e1 e2 e3
  subst e1 e3
  clear e2
  unfold maxLen at hcap
  have hx := Lib.hid hx
  obtain ⟨N, hN⟩ : ∃ n, vs.length = n := ⟨_, rfl⟩
  rw [hN] at hb hlc
  have hlen := Lib.hid hN
  clear hN
  have hb0 := Lib.hid (bel1 w (Obj.cells #[.int .i64 6, .int .i64 id, .string s, .slice q m d] 30))
  have e0 := blk_on hb0.out hb
  have e1 := World.alloc_heap_new w (Obj.cells #[.int .i64 6, .int .i64 id, .string s, .slice q m d] 30)
  obtain ⟨g0, g1, g2, gf⟩ := three_of e0
  obtain ⟨v0, v1, v2, v3⟩ := four_cells e1
  have hx1 := Lib.hid (fun h : vs ≠ [] => (hx.out.resolve_left h))
  have HE := Lib.hid hel
  clear e0 e1 hb hel
  go_enter Try.func40, Try.ntmps40
  go_wp2
  generalize w.alloc (Obj.cells #[.int .i64 6, .int .i64 id, .string s, .slice q m d] 30) = W at *
  obtain ⟨A, hA⟩ : ∃ A, w.heap.size = A := ⟨_, rfl⟩
  have HA := Lib.hid hA
  rw [hA] at v0 v1 v2 v3 ⊢
  clear hA
  go_loopg [16, 5] N (fun c s16 s5 wr => ∃ (i : Nat), i + c = N ∧ s16 = .int .i64 i ∧ Hid (Below W.heap.size W wr) ∧ Hid (∀ t (ht : t < vs.length), t < i → plain s l = true → vs[t].id ≠ id))
  case atStart => exact ⟨0, by omega, rfl, Below.refl _ _, fun t _ h => absurd h (Nat.not_lt_zero _)⟩
  case round =>
    obtain ⟨i, hig, rfl, hB, hall⟩ := hrel
    cases gk with
    | succ c =>
      have hi : i < vs.length := by have := hlen.out; omega
      have hiz : (i : Int) < (N : Int) := by omega
      have hi0 : (0 : Int) ≤ (i : Int) := by omega
      obtain ⟨b, o, rfl, -, hxx⟩ := hx1.out (by rintro rfl; simp at hi)
      obtain ⟨sl1, hat, hv1⟩ := ((hxx.on' hb0.out).on' hB.out).at i hi
      obtain ⟨a0, a1, a2⟩ := ats3 hat
      simp only [show RV.n = 3 from rfl] at a0 a1 a2
      have hF : Hid (¬ (vs[i].id = id ∧ plain s l = true) → ∀ t (ht : t < vs.length), t < i + 1 → plain s l = true → vs[t].id ≠ id) := fun h t ht hti hp => by
        by_cases e : t = i
        · subst e; exact fun hh => h ⟨hh, hp⟩
        · exact hall.out t ht (by omega) hp
      have hY : Hid (∀ (x : Vx), vs[i] = x → x.id = id → plain s l = true → ∃ (i' : Nat) (hi : i' < vs.length), plain s l = true ∧ vs[i'].id = id ∧ (∀ t (ht : t < vs.length), t < i' → vs[t].id ≠ id) ∧ i' = i) := fun x hx he hp => ⟨i, hi, hp, by rw [hx]; exact he, fun t ht hti => hall.out t ht hti hp, rfl⟩
      have BW := Lib.hid (bel_drew (bel_then hb0.out hB.out))
      have c69 := isThat69 6 id s l q m d vs[i].id hv1.1 wr.drew (HE.out.on BW.out)
      have hY := Lib.hid (hY.out _ rfl)
      have k0 := some_on hB.out g0
      have u0 := some_on hB.out v0
      have u1 := some_on hB.out v1
      have u2 := some_on hB.out v2
      have u3 := some_on hB.out v3
      clear hat hxx hx1 hx hv1 HE g0 g1 g2 gf v0 v1 v2 v3
      generalize vs[i] = x at a0 a1 a2 hF hY c69
      have S0 : (wr.drew.cell? ⟨A, 0, none⟩ = some (.int .i64 6) ∧ wr.drew.cell? ⟨A, 1, none⟩ = some (.int .i64 id) ∧ wr.drew.cell? ⟨A, 2, none⟩ = some (.string s) ∧ wr.drew.cell? ⟨A, 3, none⟩ = some (.slice q m d)) ∧ wr.drew.cell? ⟨Bg, 0, none⟩ = some (.slice (some ⟨b, o, none⟩) N cv) ∧ wr.drew.cell? ⟨b, o + i * 3, none⟩ = some (.int .i64 x.id) := ⟨⟨u0, u1, u2, u3⟩, k0, a0⟩
      clear u0 u1 u2 u3 k0 a0 a1 a2
      obtain ⟨TB, hTB⟩ : ∃ t, (decide (x.id = id) && plain s l) = t := ⟨_, rfl⟩
      rw [hTB] at c69
      have HTB := Lib.hid hTB
      clear hTB
      go_wp2
      go_region_held3 (fun u => (u.cell? ⟨A, 0, none⟩ = some (.int .i64 6) ∧ u.cell? ⟨A, 1, none⟩ = some (.int .i64 id) ∧ u.cell? ⟨A, 2, none⟩ = some (.string s) ∧ u.cell? ⟨A, 3, none⟩ = some (.slice q m d)) ∧ u.cell? ⟨Bg, 0, none⟩ = some (.slice (some ⟨b, o, none⟩) N cv) ∧ u.cell? ⟨b, o + i * 3, none⟩ = some (.int .i64 x.id)) (first | with_reducible exact S0 | with_reducible exact S1)
        (first
          | (go_at_call 69; refine c69.mono ?_; rintro e w3 ⟨rfl, hb3⟩; have S1 := six_on hb3 S0; have B3 := Lib.hid (bel_then (bel_drew hB.out) hb3); have B4 := Lib.hid (bel_then BW.out hb3); clear hb3))
      obtain ⟨⟨-, -, -, -⟩, k1, -⟩ := S1
      clear c69 S0
      cases TB with
      | true =>
        have hT : x.id = id ∧ plain s l = true := by simpa using HTB.out
        have hY := Lib.hid (hY.out hT.1 hT.2)
        clear hF hT
        go_wp2
        go_ret
        refine ⟨B4.out, .inl ?_⟩
        obtain ⟨i', h1, h2, h3, h4, rfl⟩ := hY.out
        exact ⟨i', h1, h2, h3, h4, b, o, rfl, rfl⟩
      | false =>
        have hT : ¬ (x.id = id ∧ plain s l = true) := by simpa using HTB.out
        have hr := Lib.hid (hF.out hT)
        clear hY hT hF
        go_wp2
        go_roundg c
        case measure => omega
        case rel => exact ⟨i + 1, by omega, by first | rfl | simp, B3.out, hr.out⟩
    | zero =>
      obtain rfl : i = N := by omega
      have hA : Hid (∀ t (ht : t < vs.length), plain s l = true → vs[t].id ≠ id) := fun t ht => hall.out t ht (by have := hlen.out; omega)
      clear hall hx hx1
      go_wp2
      go_ret
      exact ⟨bel_then hb0.out hB.out, .inr ⟨hA.out, rfl⟩⟩
set_option maxRecDepth 100000 in
set_option maxHeartbeats 4000000 in
theorem pin_e (es : List Lk) (pe : Option Addr) (ce : Nat) (sv : Value) (last : Int) (Bg : Nat) (id : Int) (s : ByteArray) (l : List V) (q : Option Addr) (m d : Nat) (w : World) (hb : w.heap[Bg]? = some (.cells #[sv, .slice pe es.length ce, .int .i64 last] 27)) (hs : Sq RL w 0 es (.slice pe es.length ce)) (hel : (V.mk 7 id s l).In w 0 (.slice q m d)) :
    Calls Try.prog 40 #[.pointer (some ⟨Bg, 0, none⟩), .agg #[.int .i64 7, .int .i64 id, .string s, .slice q m d]] w fun e w' => Below w.heap.size w w' ∧
      ((∃ (i : Nat) (hi : i < es.length), plain s l = true ∧ es[i].id = id ∧ (∀ t (ht : t < es.length), t < i → es[t].id ≠ id) ∧ ∃ b o, pe = some ⟨b, o, none⟩ ∧ e = .returned (.pointer (some ⟨b, o + i * 5 + 4, none⟩))) ∨ ((∀ t (ht : t < es.length), plain s l = true → es[t].id ≠ id) ∧ e = .returned (.pointer none))) := by
  obtain ⟨p', cap', e', hlc, hcap, -, hx⟩ := hs
  injection e' with e1 e2 e3
  subst e1 e3
  clear e2
  unfold maxLen at hcap
  have hx := Lib.hid hx
  obtain ⟨N, hN⟩ : ∃ n, es.length = n := ⟨_, rfl⟩
  rw [hN] at hb hlc
  have hlen := Lib.hid hN
  clear hN
  have hb0 := Lib.hid (bel1 w (Obj.cells #[.int .i64 7, .int .i64 id, .string s, .slice q m d] 30))
  have e0 := blk_on hb0.out hb
  have e1 := World.alloc_heap_new w (Obj.cells #[.int .i64 7, .int .i64 id, .string s, .slice q m d] 30)
  obtain ⟨g0, g1, g2, gf⟩ := three_of e0
  obtain ⟨v0, v1, v2, v3⟩ := four_cells e1
  have hx1 := Lib.hid (fun h : es ≠ [] => (hx.out.resolve_left h))
  have HE := Lib.hid hel
  clear e0 e1 hb hel
  go_enter Try.func40, Try.ntmps40
  go_wp2
  generalize w.alloc (Obj.cells #[.int .i64 7, .int .i64 id, .string s, .slice q m d] 30) = W at *
  obtain ⟨A, hA⟩ : ∃ A, w.heap.size = A := ⟨_, rfl⟩
  have HA := Lib.hid hA
  rw [hA] at v0 v1 v2 v3 ⊢
  clear hA
  go_loopg [44, 6] N (fun c s44 s6 wr => ∃ (i : Nat), i + c = N ∧ s44 = .int .i64 i ∧ Hid (Below W.heap.size W wr) ∧ Hid (∀ t (ht : t < es.length), t < i → plain s l = true → es[t].id ≠ id))
  case atStart => exact ⟨0, by omega, rfl, Below.refl _ _, fun t _ h => absurd h (Nat.not_lt_zero _)⟩
  case round =>
    obtain ⟨i, hig, rfl, hB, hall⟩ := hrel
    cases gk with
    | succ c =>
      have hi : i < es.length := by have := hlen.out; omega
      have hiz : (i : Int) < (N : Int) := by omega
      have hi0 : (0 : Int) ≤ (i : Int) := by omega
      obtain ⟨b, o, rfl, -, hxx⟩ := hx1.out (by rintro rfl; simp at hi)
      obtain ⟨sl1, hat, hv1⟩ := ((hxx.on' hb0.out).on' hB.out).at i hi
      obtain ⟨a0, a1, a2, a3, a4⟩ := ats5 hat
      simp only [show RL.n = 5 from rfl] at a0 a1 a2 a3 a4
      have hF : Hid (¬ (es[i].id = id ∧ plain s l = true) → ∀ t (ht : t < es.length), t < i + 1 → plain s l = true → es[t].id ≠ id) := fun h t ht hti hp => by
        by_cases e : t = i
        · subst e; exact fun hh => h ⟨hh, hp⟩
        · exact hall.out t ht (by omega) hp
      have hY : Hid (∀ (x : Lk), es[i] = x → x.id = id → plain s l = true → ∃ (i' : Nat) (hi : i' < es.length), plain s l = true ∧ es[i'].id = id ∧ (∀ t (ht : t < es.length), t < i' → es[t].id ≠ id) ∧ i' = i) := fun x hx he hp => ⟨i, hi, hp, by rw [hx]; exact he, fun t ht hti => hall.out t ht hti hp, rfl⟩
      have BW := Lib.hid (bel_drew (bel_then hb0.out hB.out))
      have c69 := isThat69 7 id s l q m d es[i].id hv1.1 wr.drew (HE.out.on BW.out)
      have hY := Lib.hid (hY.out _ rfl)
      have k0 := some_on hB.out g1
      have u0 := some_on hB.out v0
      have u1 := some_on hB.out v1
      have u2 := some_on hB.out v2
      have u3 := some_on hB.out v3
      clear hat hxx hx1 hx hv1 HE g0 g1 g2 gf v0 v1 v2 v3
      generalize es[i] = x at a0 a1 a2 a3 a4 hF hY c69
      have S0 : (wr.drew.cell? ⟨A, 0, none⟩ = some (.int .i64 7) ∧ wr.drew.cell? ⟨A, 1, none⟩ = some (.int .i64 id) ∧ wr.drew.cell? ⟨A, 2, none⟩ = some (.string s) ∧ wr.drew.cell? ⟨A, 3, none⟩ = some (.slice q m d)) ∧ wr.drew.cell? ⟨Bg, 1, none⟩ = some (.slice (some ⟨b, o, none⟩) N ce) ∧ wr.drew.cell? ⟨b, o + i * 5, none⟩ = some (.int .i64 x.id) := ⟨⟨u0, u1, u2, u3⟩, k0, a0⟩
      clear u0 u1 u2 u3 k0 a0 a1 a2 a3 a4
      obtain ⟨TB, hTB⟩ : ∃ t, (decide (x.id = id) && plain s l) = t := ⟨_, rfl⟩
      rw [hTB] at c69
      have HTB := Lib.hid hTB
      clear hTB
      go_wp2
      go_region_held3 (fun u => (u.cell? ⟨A, 0, none⟩ = some (.int .i64 7) ∧ u.cell? ⟨A, 1, none⟩ = some (.int .i64 id) ∧ u.cell? ⟨A, 2, none⟩ = some (.string s) ∧ u.cell? ⟨A, 3, none⟩ = some (.slice q m d)) ∧ u.cell? ⟨Bg, 1, none⟩ = some (.slice (some ⟨b, o, none⟩) N ce) ∧ u.cell? ⟨b, o + i * 5, none⟩ = some (.int .i64 x.id)) (first | with_reducible exact S0 | with_reducible exact S1)
        (first
          | (go_at_call 69; refine c69.mono ?_; rintro e w3 ⟨rfl, hb3⟩; have S1 := six_on hb3 S0; have B3 := Lib.hid (bel_then (bel_drew hB.out) hb3); have B4 := Lib.hid (bel_then BW.out hb3); clear hb3))
      obtain ⟨⟨-, -, -, -⟩, k1, -⟩ := S1
      clear c69 S0
      cases TB with
      | true =>
        have hT : x.id = id ∧ plain s l = true := by simpa using HTB.out
        have hY := Lib.hid (hY.out hT.1 hT.2)
        clear hF hT
        go_wp2
        go_ret
        refine ⟨B4.out, .inl ?_⟩
        obtain ⟨i', h1, h2, h3, h4, rfl⟩ := hY.out
        exact ⟨i', h1, h2, h3, h4, b, o, rfl, rfl⟩
      | false =>
        have hT : ¬ (x.id = id ∧ plain s l = true) := by simpa using HTB.out
        have hr := Lib.hid (hF.out hT)
        clear hY hT hF
        go_wp2
        go_roundg c
        case measure => omega
        case rel => exact ⟨i + 1, by omega, by first | rfl | simp, B3.out, hr.out⟩
    | zero =>
      obtain rfl : i = N := by omega
      have hA : Hid (∀ t (ht : t < es.length), plain s l = true → es[t].id ≠ id) := fun t ht => hall.out t ht (by have := hlen.out; omega)
      clear hall hx hx1
      go_wp2
      go_ret
      exact ⟨bel_then hb0.out hB.out, .inr ⟨hA.out, rfl⟩⟩
theorem props40v (vs : List Vx) (pv : Option Addr) (cv : Nat) (se : Value) (last : Int) (Bg : Nat) (id : Int) (s : ByteArray) (l : List V) (q : Option Addr) (m d : Nat) (w : World) (hb : w.heap[Bg]? = some (.cells #[.slice pv vs.length cv, se, .int .i64 last] 27)) (hs : Sq RV w 0 vs (.slice pv vs.length cv)) (hel : (V.mk 6 id s l).In w 0 (.slice q m d)) (hp : plain s l = true) (hh : hasV vs id = true) :
    Calls Try.prog 40 #[.pointer (some ⟨Bg, 0, none⟩), .agg #[.int .i64 6, .int .i64 id, .string s, .slice q m d]] w fun e w' => ∃ a, e = .returned (.pointer (some a)) ∧ Below w.heap.size w w' :=
  (pin_v vs pv cv se last Bg id s l q m d w hb hs hel).mono fun e w' ⟨h1, h2⟩ => by
    rcases h2 with ⟨i, hi, -, -, -, b, o, -, he⟩ | ⟨h3, -⟩
    · exact ⟨_, he, h1⟩
    · exfalso
      rw [hasV_no (fun t ht => h3 t ht hp)] at hh
      cases hh
theorem pin_o (Bg : Nat) (k id : Int) (s : ByteArray) (q : Option Addr) (m d : Nat) (w : World) (h6 : k ≠ 6) (h7 : k ≠ 7) :
    Calls Try.prog 40 #[.pointer (some ⟨Bg, 0, none⟩), .agg #[.int .i64 k, .int .i64 id, .string s, .slice q m d]] w fun e w' => Below w.heap.size w w' ∧ e = .returned (.pointer none) := by
  have hb0 := Lib.hid (bel1 w (Obj.cells #[.int .i64 k, .int .i64 id, .string s, .slice q m d] 30))
  have h6' : (k == 6) = false := by simpa using h6
  have h7' : (k == 7) = false := by simpa using h7
  go_enter Try.func40, Try.ntmps40
  go_wp2
  go_ret
  exact ⟨hb0.out, rfl⟩
end Go.Proofs.Yteknbploiombiaa
