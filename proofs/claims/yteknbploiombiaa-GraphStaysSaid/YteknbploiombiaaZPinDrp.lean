/-
  Where propsIn of package graph finds an element's properties.
  What Drop of package graph does with a vertex that there is.
-/
import Derived.Test.YteknbploiombiaaZWoWoa
import Derived.Test.YteknbploiombiaaZSepClsCgs
import Derived.Test.YteknbploiombiaaZTha
import Derived.Deep.RegionHeld3
import Derived.Test.YteknbploiombiaaZAdv
namespace Go.Proofs.Yteknbploiombiaa
open Go.RowKit
set_option linter.unusedVariables false      -- a walk need not use every condition

theorem bel_drew {w W : World} (h : Below w.heap.size w W) : Below w.heap.size w W.drew := bel_then h (Below.refl _ W).drew
theorem six_on {u u' : World} (hb : Below u.heap.size u u') {A B C i j : Nat} {a b c d e f : Value} (h : (u.cell? ⟨A, 0, none⟩ = some a ∧ u.cell? ⟨A, 1, none⟩ = some b ∧ u.cell? ⟨A, 2, none⟩ = some c ∧ u.cell? ⟨A, 3, none⟩ = some d) ∧ u.cell? ⟨B, i, none⟩ = some e ∧ u.cell? ⟨C, j, none⟩ = some f) : (u'.cell? ⟨A, 0, none⟩ = some a ∧ u'.cell? ⟨A, 1, none⟩ = some b ∧ u'.cell? ⟨A, 2, none⟩ = some c ∧ u'.cell? ⟨A, 3, none⟩ = some d) ∧ u'.cell? ⟨B, i, none⟩ = some e ∧ u'.cell? ⟨C, j, none⟩ = some f :=
  ⟨⟨some_on hb h.1.1, some_on hb h.1.2.1, some_on hb h.1.2.2.1, some_on hb h.1.2.2.2⟩, some_on hb h.2.1, some_on hb h.2.2⟩
set_option maxRecDepth 100000 in
set_option maxHeartbeats 4000000 in
theorem pin_v (vs : List Vx) (pv : Option Addr) (cv : Nat) (se : Value) (last : Int) (Bg : Nat) (id : Int) (s : ByteArray) (l : List V) (q : Option Addr) (m d : Nat) (w : World) (hb : w.heap[Bg]? = some (.cells #[.slice pv vs.length cv, se, .int .i64 last] 27)) (hs : Sq RV w 0 vs (.slice pv vs.length cv)) (hel : (V.mk 6 id s l).In w 0 (.slice q m d)) :
    Calls Try.prog 40 #[.pointer (some ⟨Bg, 0, none⟩), .agg #[.int .i64 6, .int .i64 id, .string s, .slice q m d]] w fun e w' => Below w.heap.size w w' ∧
      ((∃ (i : Nat) (hi : i < vs.length), plain s l = true ∧ vs[i].id = id ∧ (∀ t (ht : t < vs.length), t < i → vs[t].id ≠ id) ∧ ∃ b o, pv = some ⟨b, o, none⟩ ∧ e = .returned (.pointer (some ⟨b, o + i * 3 + 2, none⟩))) ∨ ((∀ t (ht : t < vs.length), plain s l = true → vs[t].id ≠ id) ∧ e = .returned (.pointer none))) := by
  obtain ⟨p', cap', e', hlc, hcap, -, hx⟩ := hs
  injection e' with e1 e2 e3
  subst e1 e3
  clear e2
  unfold maxLen at hcap
  have hx := Lib.hid hx
  obtain ⟨N, hN⟩ : ∃ n, vs.length = n := ⟨_, rfl⟩
  rw [hN] at hb hlc
  have hlen := Lib.hid hN
  clear hN
  have hb0 := Lib.hid (bel1 w (Obj.cells #[.int .i64 6, .int .i64 id, .string s, .slice q m d] 30))
  have e0 := blk_on hb0.out hb
  have e1 := World.alloc_heap_new w (Obj.cells #[.int .i64 6, .int .i64 id, .string s, .slice q m d] 30)
  obtain ⟨g0, g1, g2, gf⟩ := three_of e0
  obtain ⟨v0, v1, v2, v3⟩ := four_cells e1
  have hx1 := Lib.hid (fun h : vs ≠ [] => (hx.out.resolve_left h))
  have HE := Lib.hid hel
  clear e0 e1 hb hel
  go_enter Try.func40, Try.ntmps40
  go_wp2
  generalize w.alloc (Obj.cells #[.int .i64 6, .int .i64 id, .string s, .slice q m d] 30) = W at *
  obtain ⟨A, hA⟩ : ∃ A, w.heap.size = A := ⟨_, rfl⟩
  have HA := Lib.hid hA
  rw [hA] at v0 v1 v2 v3 ⊢
  clear hA
  go_loopg [16, 5] N (fun c s16 s5 wr => ∃ (i : Nat), i + c = N ∧ s16 = .int .i64 i ∧ Hid (Below W.heap.size W wr) ∧ Hid (∀ t (ht : t < vs.length), t < i → plain s l = true → vs[t].id ≠ id))
  case atStart => exact ⟨0, by omega, rfl, Below.refl _ _, fun t _ h => absurd h (Nat.not_lt_zero _)⟩
  case round =>
    obtain ⟨i, hig, rfl, hB, hall⟩ := hrel
    cases gk with
    | succ c =>
      have hi : i < vs.length := by have := hlen.out; omega
      have hiz : (i : Int) < (N : Int) := by omega
      have hi0 : (0 : Int) ≤ (i : Int) := by omega
      obtain ⟨b, o, rfl, -, hxx⟩ := hx1.out (by rintro rfl; simp at hi)
      obtain ⟨sl1, hat, hv1⟩ := ((hxx.on' hb0.out).on' hB.out).at i hi
      obtain ⟨a0, a1, a2⟩ := ats3 hat
      simp only [show RV.n = 3 from rfl] at a0 a1 a2
      have hF : Hid (¬ (vs[i].id = id ∧ plain s l = true) → ∀ t (ht : t < vs.length), t < i + 1 → plain s l = true → vs[t].id ≠ id) := fun h t ht hti hp => by
        by_cases e : t = i
        · subst e; exact fun hh => h ⟨hh, hp⟩
        · exact hall.out t ht (by omega) hp
      have hY : Hid (∀ (x : Vx), vs[i] = x → x.id = id → plain s l = true → ∃ (i' : Nat) (hi : i' < vs.length), plain s l = true ∧ vs[i'].id = id ∧ (∀ t (ht : t < vs.length), t < i' → vs[t].id ≠ id) ∧ i' = i) := fun x hx he hp => ⟨i, hi, hp, by rw [hx]; exact he, fun t ht hti => hall.out t ht hti hp, rfl⟩
      have BW := Lib.hid (bel_drew (bel_then hb0.out hB.out))
      have c69 := isThat69 6 id s l q m d vs[i].id hv1.1 wr.drew (HE.out.on BW.out)
      have hY := Lib.hid (hY.out _ rfl)
      have k0 := some_on hB.out g0
      have u0 := some_on hB.out v0
      have u1 := some_on hB.out v1
      have u2 := some_on hB.out v2
      have u3 := some_on hB.out v3
      clear hat hxx hx1 hx hv1 HE g0 g1 g2 gf v0 v1 v2 v3
      generalize vs[i] = x at a0 a1 a2 hF hY c69
      have S0 : (wr.drew.cell? ⟨A, 0, none⟩ = some (.int .i64 6) ∧ wr.drew.cell? ⟨A, 1, none⟩ = some (.int .i64 id) ∧ wr.drew.cell? ⟨A, 2, none⟩ = some (.string s) ∧ wr.drew.cell? ⟨A, 3, none⟩ = some (.slice q m d)) ∧ wr.drew.cell? ⟨Bg, 0, none⟩ = some (.slice (some ⟨b, o, none⟩) N cv) ∧ wr.drew.cell? ⟨b, o + i * 3, none⟩ = some (.int .i64 x.id) := ⟨⟨u0, u1, u2, u3⟩, k0, a0⟩
      clear u0 u1 u2 u3 k0 a0 a1 a2
      obtain ⟨TB, hTB⟩ : ∃ t, (decide (x.id = id) && plain s l) = t := ⟨_, rfl⟩
      rw [hTB] at c69
      have HTB := Lib.hid hTB
      clear hTB
      go_wp2
      go_region_held3 (fun u => (u.cell? ⟨A, 0, none⟩ = some (.int .i64 6) ∧ u.cell? ⟨A, 1, none⟩ = some (.int .i64 id) ∧ u.cell? ⟨A, 2, none⟩ = some (.string s) ∧ u.cell? ⟨A, 3, none⟩ = some (.slice q m d)) ∧ u.cell? ⟨Bg, 0, none⟩ = some (.slice (some ⟨b, o, none⟩) N cv) ∧ u.cell? ⟨b, o + i * 3, none⟩ = some (.int .i64 x.id)) (first | with_reducible exact S0 | with_reducible exact S1)
        (first
          | (go_at_call 69; refine c69.mono ?_; rintro e w3 ⟨rfl, hb3⟩; have S1 := six_on hb3 S0; have B3 := Lib.hid (bel_then (bel_drew hB.out) hb3); have B4 := Lib.hid (bel_then BW.out hb3); clear hb3))
      obtain ⟨⟨-, -, -, -⟩, k1, -⟩ := S1
      clear c69 S0
      cases TB with
      | true =>
        have hT : x.id = id ∧ plain s l = true := by simpa using HTB.out
        have hY := Lib.hid (hY.out hT.1 hT.2)
        clear hF hT
        go_wp2
        go_ret
        refine ⟨B4.out, .inl ?_⟩
        obtain ⟨i', h1, h2, h3, h4, rfl⟩ := hY.out
        exact ⟨i', h1, h2, h3, h4, b, o, rfl, rfl⟩
      | false =>
        have hT : ¬ (x.id = id ∧ plain s l = true) := by simpa using HTB.out
        have hr := Lib.hid (hF.out hT)
        clear hY hT hF
        go_wp2
        go_roundg c
        case measure => omega
        case rel => exact ⟨i + 1, by omega, by first | rfl | simp, B3.out, hr.out⟩
    | zero =>
      obtain rfl : i = N := by omega
      have hA : Hid (∀ t (ht : t < vs.length), plain s l = true → vs[t].id ≠ id) := fun t ht => hall.out t ht (by have := hlen.out; omega)
      clear hall hx hx1
      go_wp2
      go_ret
      exact ⟨bel_then hb0.out hB.out, .inr ⟨hA.out, rfl⟩⟩
set_option maxRecDepth 100000 in
set_option maxHeartbeats 4000000 in
theorem pin_e (es : List Lk) (pe : Option Addr) (ce : Nat) (sv : Value) (last : Int) (Bg : Nat) (id : Int) (s : ByteArray) (l : List V) (q : Option Addr) (m d : Nat) (w : World) (hb : w.heap[Bg]? = some (.cells #[sv, .slice pe es.length ce, .int .i64 last] 27)) (hs : Sq RL w 0 es (.slice pe es.length ce)) (hel : (V.mk 7 id s l).In w 0 (.slice q m d)) :
    Calls Try.prog 40 #[.pointer (some ⟨Bg, 0, none⟩), .agg #[.int .i64 7, .int .i64 id, .string s, .slice q m d]] w fun e w' => Below w.heap.size w w' ∧
      ((∃ (i : Nat) (hi : i < es.length), plain s l = true ∧ es[i].id = id ∧ (∀ t (ht : t < es.length), t < i → es[t].id ≠ id) ∧ ∃ b o, pe = some ⟨b, o, none⟩ ∧ e = .returned (.pointer (some ⟨b, o + i * 5 + 4, none⟩))) ∨ ((∀ t (ht : t < es.length), plain s l = true → es[t].id ≠ id) ∧ e = .returned (.pointer none))) := by
  obtain ⟨p', cap', e', hlc, hcap, -, hx⟩ := hs
  injection e' with e1 e2 e3
  subst e1 e3
  clear e2
  unfold maxLen at hcap
  have hx := Lib.hid hx
  obtain ⟨N, hN⟩ : ∃ n, es.length = n := ⟨_, rfl⟩
  rw [hN] at hb hlc
  have hlen := Lib.hid hN
  clear hN
  have hb0 := Lib.hid (bel1 w (Obj.cells #[.int .i64 7, .int .i64 id, .string s, .slice q m d] 30))
  have e0 := blk_on hb0.out hb
  have e1 := World.alloc_heap_new w (Obj.cells #[.int .i64 7, .int .i64 id, .string s, .slice q m d] 30)
  obtain ⟨g0, g1, g2, gf⟩ := three_of e0
  obtain ⟨v0, v1, v2, v3⟩ := four_cells e1
  have hx1 := Lib.hid (fun h : es ≠ [] => (hx.out.resolve_left h))
  have HE := Lib.hid hel
  clear e0 e1 hb hel
  go_enter Try.func40, Try.ntmps40
  go_wp2
  generalize w.alloc (Obj.cells #[.int .i64 7, .int .i64 id, .string s, .slice q m d] 30) = W at *
  obtain ⟨A, hA⟩ : ∃ A, w.heap.size = A := ⟨_, rfl⟩
  have HA := Lib.hid hA
  rw [hA] at v0 v1 v2 v3 ⊢
  clear hA
  go_loopg [44, 6] N (fun c s44 s6 wr => ∃ (i : Nat), i + c = N ∧ s44 = .int .i64 i ∧ Hid (Below W.heap.size W wr) ∧ Hid (∀ t (ht : t < es.length), t < i → plain s l = true → es[t].id ≠ id))
  case atStart => exact ⟨0, by omega, rfl, Below.refl _ _, fun t _ h => absurd h (Nat.not_lt_zero _)⟩
  case round =>
    obtain ⟨i, hig, rfl, hB, hall⟩ := hrel
    cases gk with
    | succ c =>
      have hi : i < es.length := by have := hlen.out; omega
      have hiz : (i : Int) < (N : Int) := by omega
      have hi0 : (0 : Int) ≤ (i : Int) := by omega
      obtain ⟨b, o, rfl, -, hxx⟩ := hx1.out (by rintro rfl; simp at hi)
      obtain ⟨sl1, hat, hv1⟩ := ((hxx.on' hb0.out).on' hB.out).at i hi
      obtain ⟨a0, a1, a2, a3, a4⟩ := ats5 hat
      simp only [show RL.n = 5 from rfl] at a0 a1 a2 a3 a4
      have hF : Hid (¬ (es[i].id = id ∧ plain s l = true) → ∀ t (ht : t < es.length), t < i + 1 → plain s l = true → es[t].id ≠ id) := fun h t ht hti hp => by
        by_cases e : t = i
        · subst e; exact fun hh => h ⟨hh, hp⟩
        · exact hall.out t ht (by omega) hp
      have hY : Hid (∀ (x : Lk), es[i] = x → x.id = id → plain s l = true → ∃ (i' : Nat) (hi : i' < es.length), plain s l = true ∧ es[i'].id = id ∧ (∀ t (ht : t < es.length), t < i' → es[t].id ≠ id) ∧ i' = i) := fun x hx he hp => ⟨i, hi, hp, by rw [hx]; exact he, fun t ht hti => hall.out t ht hti hp, rfl⟩
      have BW := Lib.hid (bel_drew (bel_then hb0.out hB.out))
      have c69 := isThat69 7 id s l q m d es[i].id hv1.1 wr.drew (HE.out.on BW.out)
      have hY := Lib.hid (hY.out _ rfl)
      have k0 := some_on hB.out g1
      have u0 := some_on hB.out v0
      have u1 := some_on hB.out v1
      have u2 := some_on hB.out v2
      have u3 := some_on hB.out v3
      clear hat hxx hx1 hx hv1 HE g0 g1 g2 gf v0 v1 v2 v3
      generalize es[i] = x at a0 a1 a2 a3 a4 hF hY c69
      have S0 : (wr.drew.cell? ⟨A, 0, none⟩ = some (.int .i64 7) ∧ wr.drew.cell? ⟨A, 1, none⟩ = some (.int .i64 id) ∧ wr.drew.cell? ⟨A, 2, none⟩ = some (.string s) ∧ wr.drew.cell? ⟨A, 3, none⟩ = some (.slice q m d)) ∧ wr.drew.cell? ⟨Bg, 1, none⟩ = some (.slice (some ⟨b, o, none⟩) N ce) ∧ wr.drew.cell? ⟨b, o + i * 5, none⟩ = some (.int .i64 x.id) := ⟨⟨u0, u1, u2, u3⟩, k0, a0⟩
      clear u0 u1 u2 u3 k0 a0 a1 a2 a3 a4
      obtain ⟨TB, hTB⟩ : ∃ t, (decide (x.id = id) && plain s l) = t := ⟨_, rfl⟩
      rw [hTB] at c69
      have HTB := Lib.hid hTB
      clear hTB
      go_wp2
      go_region_held3 (fun u => (u.cell? ⟨A, 0, none⟩ = some (.int .i64 7) ∧ u.cell? ⟨A, 1, none⟩ = some (.int .i64 id) ∧ u.cell? ⟨A, 2, none⟩ = some (.string s) ∧ u.cell? ⟨A, 3, none⟩ = some (.slice q m d)) ∧ u.cell? ⟨Bg, 1, none⟩ = some (.slice (some ⟨b, o, none⟩) N ce) ∧ u.cell? ⟨b, o + i * 5, none⟩ = some (.int .i64 x.id)) (first | with_reducible exact S0 | with_reducible exact S1)
        (first
          | (go_at_call 69; refine c69.mono ?_; rintro e w3 ⟨rfl, hb3⟩; have S1 := six_on hb3 S0; have B3 := Lib.hid (bel_then (bel_drew hB.out) hb3); have B4 := Lib.hid (bel_then BW.out hb3); clear hb3))
      obtain ⟨⟨-, -, -, -⟩, k1, -⟩ := S1
      clear c69 S0
      cases TB with
      | true =>
        have hT : x.id = id ∧ plain s l = true := by simpa using HTB.out
        have hY := Lib.hid (hY.out hT.1 hT.2)
        clear hF hT
        go_wp2
        go_ret
        refine ⟨B4.out, .inl ?_⟩
        obtain ⟨i', h1, h2, h3, h4, rfl⟩ := hY.out
        exact ⟨i', h1, h2, h3, h4, b, o, rfl, rfl⟩
      | false =>
        have hT : ¬ (x.id = id ∧ plain s l = true) := by simpa using HTB.out
        have hr := Lib.hid (hF.out hT)
        clear hY hT hF
        go_wp2
        go_roundg c
        case measure => omega
        case rel => exact ⟨i + 1, by omega, by first | rfl | simp, B3.out, hr.out⟩
    | zero =>
      obtain rfl : i = N := by omega
      have hA : Hid (∀ t (ht : t < es.length), plain s l = true → es[t].id ≠ id) := fun t ht => hall.out t ht (by have := hlen.out; omega)
      clear hall hx hx1
      go_wp2
      go_ret
      exact ⟨bel_then hb0.out hB.out, .inr ⟨hA.out, rfl⟩⟩
theorem props40v (vs : List Vx) (pv : Option Addr) (cv : Nat) (se : Value) (last : Int) (Bg : Nat) (id : Int) (s : ByteArray) (l : List V) (q : Option Addr) (m d : Nat) (w : World) (hb : w.heap[Bg]? = some (.cells #[.slice pv vs.length cv, se, .int .i64 last] 27)) (hs : Sq RV w 0 vs (.slice pv vs.length cv)) (hel : (V.mk 6 id s l).In w 0 (.slice q m d)) (hp : plain s l = true) (hh : hasV vs id = true) :
    Calls Try.prog 40 #[.pointer (some ⟨Bg, 0, none⟩), .agg #[.int .i64 6, .int .i64 id, .string s, .slice q m d]] w fun e w' => ∃ a, e = .returned (.pointer (some a)) ∧ Below w.heap.size w w' :=
  (pin_v vs pv cv se last Bg id s l q m d w hb hs hel).mono fun e w' ⟨h1, h2⟩ => by
    rcases h2 with ⟨i, hi, -, -, -, b, o, -, he⟩ | ⟨h3, -⟩
    · exact ⟨_, he, h1⟩
    · exfalso
      rw [hasV_no (fun t ht => h3 t ht hp)] at hh
      cases hh
theorem pin_o (Bg : Nat) (k id : Int) (s : ByteArray) (q : Option Addr) (m d : Nat) (w : World) (h6 : k ≠ 6) (h7 : k ≠ 7) :
    Calls Try.prog 40 #[.pointer (some ⟨Bg, 0, none⟩), .agg #[.int .i64 k, .int .i64 id, .string s, .slice q m d]] w fun e w' => Below w.heap.size w w' ∧ e = .returned (.pointer none) := by
  have hb0 := Lib.hid (bel1 w (Obj.cells #[.int .i64 k, .int .i64 id, .string s, .slice q m d] 30))
  have h6' : (k == 6) = false := by simpa using h6
  have h7' : (k == 7) = false := by simpa using h7
  go_enter Try.func40, Try.ntmps40
  go_wp2
  go_ret
  exact ⟨hb0.out, rfl⟩
end Go.Proofs.Yteknbploiombiaa
namespace Go.Proofs.Yteknbploiombiaa
open Go.RowKit
set_option linter.unusedVariables false      -- a walk need not use every condition

def gDropV (g : Gg) (id : Int) : Gg := { vs := g.vs.filter (fun x => !(decide (x.id = id))), es := g.es.filter (fun x => !(decide (x.out = id) || decide (x.inn = id))), last := g.last }
/-- Where the clone lies behind its store, three boxes ahead of it. -/
def Fsd (g : Gg) (el : Array Value) (w W2 : World) (p q : Option Addr) (nv ne : Nat) : Prop := W2.heap[w.heap.size]? = some (.cells #[.slice p nv nv, .slice q ne ne, .int .i64 g.last] 27) ∧ W2.heap[w.heap.size + 1]? = some (.cells el 30) ∧ W2.heap[w.heap.size + 1 + 1]? = some (.cells #[.slice none 0 0, .slice none 0 0, .int .i64 0] 27) ∧
  OwGr g W2 (w.heap.size + 3) (.slice p nv nv) (.slice q ne ne) ∧ Below w.heap.size w W2 ∧ w.heap.size + 3 ≤ W2.heap.size
theorem Fsd.on {g : Gg} {el : Array Value} {w W2 W3 : World} {p q : Option Addr} {nv ne : Nat} (h : Fsd g el w W2 p q nv ne) (hb : Below W2.heap.size W2 W3) : Fsd g el w W3 p q nv ne :=
  ⟨blk_on hb h.1, blk_on hb h.2.1, blk_on hb h.2.2.1, h.2.2.2.1.on hb, h.2.2.2.2.1.trans (hb.mono h.2.2.2.2.1.size), Nat.le_trans h.2.2.2.2.2 hb.size⟩
theorem own_fin3 {g : Gg} {w w1 : World} {a b c : Value} {el : Array Value} {p q : Option Addr} {nv ne : Nat} (h1 : OwGr g w1 ((((w.alloc (.cells #[a, b, c] 27)).alloc (.cells el 30)).alloc (.cells #[.slice none 0 0, .slice none 0 0, .int .i64 0] 27)).heap.size) (.slice p nv nv) (.slice q ne ne))
    (hb : Below (((w.alloc (.cells #[a, b, c] 27)).alloc (.cells el 30)).alloc (.cells #[.slice none 0 0, .slice none 0 0, .int .i64 0] 27)).heap.size (((w.alloc (.cells #[a, b, c] 27)).alloc (.cells el 30)).alloc (.cells #[.slice none 0 0, .slice none 0 0, .int .i64 0] 27)) w1) :
    w1.heap[w.heap.size]? = some (.cells #[a, b, c] 27) ∧ w1.heap[w.heap.size + 1]? = some (.cells el 30) ∧
    Fsd g el w (((w1.setCell ⟨w.heap.size, 0, none⟩ (.slice p nv nv)).setCell ⟨w.heap.size, 1, none⟩ (.slice q ne ne)).setCell ⟨w.heap.size, 2, none⟩ (.int .i64 g.last)) p q nv ne := by
  have e0 := World.alloc_heap_new w (.cells #[a, b, c] 27)
  have e1 := World.alloc_heap_new (w.alloc (.cells #[a, b, c] 27)) (.cells el 30)
  have e2 := World.alloc_heap_new ((w.alloc (.cells #[a, b, c] 27)).alloc (.cells el 30)) (.cells #[.slice none 0 0, .slice none 0 0, .int .i64 0] 27)
  replace e0 := blk_on hb (blk_on (bel_then (bel1 _ (.cells el 30)) (bel1 _ (.cells #[.slice none 0 0, .slice none 0 0, .int .i64 0] 27))) e0)
  replace e1 := blk_on hb (blk_on (bel1 _ (.cells #[.slice none 0 0, .slice none 0 0, .int .i64 0] 27)) e1)
  replace e2 := blk_on hb e2
  rw [World.size_alloc] at e1 e2
  rw [World.size_alloc] at e2
  have hz : (((w.alloc (.cells #[a, b, c] 27)).alloc (.cells el 30)).alloc (.cells #[.slice none 0 0, .slice none 0 0, .int .i64 0] 27)).heap.size = w.heap.size + 3 := by simp
  rw [hz] at h1
  have k : KeepB (w.heap.size + 3) w1 (((w1.setCell ⟨w.heap.size, 0, none⟩ (.slice p nv nv)).setCell ⟨w.heap.size, 1, none⟩ (.slice q ne ne)).setCell ⟨w.heap.size, 2, none⟩ (.int .i64 g.last)) := ((keepB_set (by omega)).trans (keepB_set (by omega))).trans (keepB_set (by omega))
  have f2 : (((w1.setCell ⟨w.heap.size, 0, none⟩ (.slice p nv nv)).setCell ⟨w.heap.size, 1, none⟩ (.slice q ne ne)).setCell ⟨w.heap.size, 2, none⟩ (.int .i64 g.last)).heap[w.heap.size + 1 + 1]? = some (.cells #[.slice none 0 0, .slice none 0 0, .int .i64 0] 27) := blk_oth (blk_oth (blk_oth e2 (by omega)) (by omega)) (by omega)
  refine ⟨e0, e1, blk_put3 e0, blk_oth (blk_oth (blk_oth e1 (by omega)) (by omega)) (by omega), f2, h1.keep k (Nat.le_refl _), ?_, by have := (Array.getElem?_eq_some_iff.1 f2).1; omega⟩
  exact (((bel_then (bel_then (bel2 w _ _) (bel1 _ _)) hb).setCell (p := ⟨w.heap.size, 0, none⟩) (Nat.le_refl _) _).setCell (p := ⟨w.heap.size, 1, none⟩) (Nat.le_refl _) _).setCell (p := ⟨w.heap.size, 2, none⟩) (Nat.le_refl _) _
/-- What is left at the end. -/
theorem drop_end {g : Gg} {id : Int} {w W5 W7 : World} {v1 v2 : Value} {b5 b7 : Nat} (hl : I64 g.last) (hnv : g.vs.length ≤ 2048) (hne : g.es.length ≤ 2048) (hb : Below w.heap.size w W7)
    (hV : GrR RV 40 W7 (w.heap.size + 3) b5 (gDropV g id).vs v1) (h5 : w.heap.size + 3 ≤ b5) (hE : GrR RL 46 W7 (w.heap.size + 3) b7 (gDropV g id).es v2) (h7 : w.heap.size + 3 ≤ b7) :
    Gg.In ((((W7.setCell ⟨w.heap.size, 1, none⟩ v2).setCell ⟨w.heap.size + 1 + 1, 0, none⟩ v1).setCell ⟨w.heap.size + 1 + 1, 1, none⟩ v2).setCell ⟨w.heap.size + 1 + 1, 2, none⟩ (.int .i64 g.last)) w.heap.size (gDropV g id) v1 v2 ∧
    Below w.heap.size w ((((W7.setCell ⟨w.heap.size, 1, none⟩ v2).setCell ⟨w.heap.size + 1 + 1, 0, none⟩ v1).setCell ⟨w.heap.size + 1 + 1, 1, none⟩ v2).setCell ⟨w.heap.size + 1 + 1, 2, none⟩ (.int .i64 g.last)) := by
  have lv : (gDropV g id).vs.length ≤ 2048 := Nat.le_trans (List.length_filter_le _ _) hnv
  have le : (gDropV g id).es.length ≤ 2048 := Nat.le_trans (List.length_filter_le _ _) hne
  refine ⟨⟨hl, ?_, ?_⟩, ?_⟩
  · have := (((hV.put h5 (show w.heap.size < w.heap.size + 3 by omega) 1 v2).put h5 (show w.heap.size + 1 + 1 < w.heap.size + 3 by omega) 0 v1).put h5 (show w.heap.size + 1 + 1 < w.heap.size + 3 by omega) 1 v2).put h5 (show w.heap.size + 1 + 1 < w.heap.size + 3 by omega) 2 (.int .i64 g.last)
    exact (this.sq h5 (by show _ * 48 ≤ _; omega)).low (by omega)
  · have := (((hE.put h7 (show w.heap.size < w.heap.size + 3 by omega) 1 v2).put h7 (show w.heap.size + 1 + 1 < w.heap.size + 3 by omega) 0 v1).put h7 (show w.heap.size + 1 + 1 < w.heap.size + 3 by omega) 1 v2).put h7 (show w.heap.size + 1 + 1 < w.heap.size + 3 by omega) 2 (.int .i64 g.last)
    exact (this.sq h7 (by show _ * 64 ≤ _; omega)).low (by omega)
  · exact (((hb.setCell (p := ⟨w.heap.size, 1, none⟩) (Nat.le_refl _) _).setCell (p := ⟨w.heap.size + 1 + 1, 0, none⟩) (by show w.heap.size ≤ w.heap.size + 1 + 1; omega) _).setCell (p := ⟨w.heap.size + 1 + 1, 1, none⟩) (by show w.heap.size ≤ w.heap.size + 1 + 1; omega) _).setCell (p := ⟨w.heap.size + 1 + 1, 2, none⟩) (by show w.heap.size ≤ w.heap.size + 1 + 1; omega) _
theorem eqP (w : World) (a : Addr) : (Op.equal 76 (Value.pointer (some a)) (.pointer none)).run Try.prog w = .ok false w := by
  show (Op.equalIn (9999 + 1) 76 _ _).run Try.prog w = _
  rw [Op.equalIn]
  rw [Sem.run_bind, run_underlying Try.underlying76]
  rfl
theorem nilP (w : World) (a : Addr) : (binOp BinOp.eql 76 (Value.pointer (some a)) (.pointer none)).run Try.prog w = .ok (.bool false) w := by
  show (do pure (Value.bool (← Op.equal 76 (Value.pointer (some a)) (.pointer none)))).run Try.prog w = _
  rw [Sem.run_bind, eqP]
  rfl
set_option maxRecDepth 100000 in
set_option maxHeartbeats 8000000 in
theorem drop22v (g : Gg) (sv se : Value) (id : Int) (s : ByteArray) (lx : List V) (r : Option Addr) (m d : Nat) (w : World) (hg : Gg.In w 0 g sv se) (hm : gMay g = true) (hh : hasV g.vs id = true) (hem : (V.mk 6 id s lx).In w 0 (.slice r m d)) (hpl : plain s lx = true) :
    Calls Try.prog 22 #[g.agg sv se, .agg #[.int .i64 6, .int .i64 id, .string s, .slice r m d]] w fun e w' => ∃ s1 s2, e = .returned (.tuple #[(gDropV g id).agg s1 s2, .int .i64 0]) ∧ Gg.In w' w.heap.size (gDropV g id) s1 s2 ∧ Below w.heap.size w w' := by
  replace hem := Lib.hid hem
  obtain ⟨pv, cv, rfl⟩ := hg.2.1.header
  obtain ⟨pe, ce, rfl⟩ := hg.2.2.header
  have hmm := Lib.hid (gMay_last hm)
  have hl64 := Lib.hid hg.1
  obtain ⟨nv, hnv⟩ : ∃ n, g.vs.length = n := ⟨_, rfl⟩
  obtain ⟨ne, hne⟩ : ∃ n, g.es.length = n := ⟨_, rfl⟩
  rw [hnv, hne] at hg ⊢
  have c77 := fun W hW => own39' g pv pe nv ne cv ce hnv hne W (hg.on hW)
  rw [err_yes hm] at c77
  clear hg hm
  have hlast : (gDropV g id).last = g.last := rfl
  unfold Gg.agg
  rw [hlast]
  go_enter Try.func22, Try.ntmps22
  go_wp2_with (fail)
  refine (c77 _ (bel_then (bel2 w _ _) (bel1 _ _))).mono ?_
  rintro e w1 ⟨p, q, rfl, ho, hb1⟩
  obtain ⟨t0, t1, HF⟩ := own_fin3 ho hb1
  obtain ⟨x0, x1, x2, fx⟩ := three_of t0
  obtain ⟨y0, y1, y2, y3⟩ := four_cells t1
  clear ho hb1 c77 t0 t1
  have HF' := Lib.hid HF
  obtain ⟨y0', y1', y2', y3'⟩ := four_cells HF.2.1
  clear HF
  go_wp2_with (fail)
  have HF := HF'.out
  clear x0 x1 x2 fx y0 y1 y2 y3 y0' y1' y2' y3' HF'
  generalize (((w1.setCell ⟨w.heap.size, 0, none⟩ (.slice p nv nv)).setCell ⟨w.heap.size, 1, none⟩ (.slice q ne ne)).setCell ⟨w.heap.size, 2, none⟩ (.int .i64 g.last)) = W2 at *
  have c78 := props40v g.vs p nv (.slice q ne ne) g.last w.heap.size id s lx r m d W2 (by rw [hnv]; exact HF.1) (by rw [hnv]; exact (HF.2.2.2.1.v.sq).low (Nat.zero_le _)) (hem.out.on HF.2.2.2.2.1) hpl hh
  have HF := Lib.hid HF
  refine c78.mono ?_
  rintro e W3 ⟨a, rfl, hb3⟩
  have HF3 := Lib.hid (HF.out.on hb3)
  clear hb3 c78 HF
  have hnil := nilP W3 a
  obtain ⟨x0, x1, x2, fx⟩ := three_of HF3.out.1
  obtain ⟨y0, y1, y2, y3⟩ := four_cells HF3.out.2.1
  have hbT := Lib.hid (bel1 W3 (Obj.cells #[.int .i64 id] 2))
  have hT := Lib.hid (Boxed.new W3 2 (.int .i64 id))
  have HF4 := Lib.hid (HF3.out.on hbT.out)
  obtain ⟨x0', x1', x2', fx'⟩ := three_of HF4.out.1
  obtain ⟨y0', y1', y2', y3'⟩ := four_cells HF4.out.2.1
  go_wp2_with (fail)
  clear x0 x1 x2 fx y0 y1 y2 y3 x0' x1' x2' fx' y0' y1' y2' y3' hnil
  have hTs : W3.heap.size < (W3.alloc (Obj.cells #[.int .i64 id] 2)).heap.size := by simp
  have hT' := hT.out
  generalize W3.alloc (Obj.cells #[.int .i64 id] 2) = W4 at *
  have hz4 := HF4.out.2.2.2.2.2
  have c86 := without86_87 g.vs (.slice p nv nv) id W3.heap.size (w.heap.size + 3) W4 HF4.out.2.2.2.1.v.sq hT'.cell hz4
  refine c86.mono ?_
  rintro e W5 ⟨v1, rfl, hG5, hb5⟩
  obtain ⟨p5, cap5, rfl, -⟩ := hG5.form
  obtain ⟨n5, hn5⟩ : ∃ n, (g.vs.filter fun x => !(decide (x.id = id))).length = n := ⟨_, rfl⟩
  rw [hn5] at hG5
  have HF5 := Lib.hid (HF4.out.on hb5)
  have hT5 := Lib.hid (show Boxed W5 W3.heap.size 2 (.int .i64 id) from blk_on hb5 hT')
  have HG5 := Lib.hid hG5
  have hz45 := Lib.hid hz4
  obtain ⟨x0, x1, x2, fx⟩ := three_of HF5.out.1
  clear c86 hG5 hb5 hz4 hT' hT hbT HF4
  simp only [hn5]
  go_wp2_with (fail)
  clear x0 x1 x2 fx
  have hT3 : w.heap.size ≠ W3.heap.size := by have := HF3.out.2.2.2.2.2; omega
  have f0 := blk_set3a (a' := .slice p5 n5 cap5) HF5.out.1
  have f1 := blk_oth (i := 0) (c := .slice p5 n5 cap5) (B' := w.heap.size) HF5.out.2.1 (by omega)
  have f2 := blk_oth (i := 0) (c := .slice p5 n5 cap5) (B' := w.heap.size) HF5.out.2.2.1 (by omega)
  have f3 : Boxed (W5.setCell ⟨w.heap.size, 0, none⟩ (.slice p5 n5 cap5)) W3.heap.size 2 (.int .i64 id) := blk_oth hT5.out (Ne.symm hT3)
  have f4 := HG5.out.put hz45.out (show w.heap.size < w.heap.size + 3 by omega) 0 (.slice p5 n5 cap5)
  have f5 := HF5.out.2.2.2.1.keep (keepB_set (B := w.heap.size) (i := 0) (c := .slice p5 n5 cap5) (show w.heap.size < w.heap.size + 3 by omega)) (Nat.le_refl _)
  have f6 := HF5.out.2.2.2.2.1.setCell (p := ⟨w.heap.size, 0, none⟩) (Nat.le_refl _) (.slice p5 n5 cap5)
  have f7 := f3.lt
  generalize W5.setCell ⟨w.heap.size, 0, none⟩ (.slice p5 n5 cap5) = W6 at *
  have hz6 : w.heap.size + 3 ≤ W6.heap.size := by have := HF3.out.2.2.2.2.2; omega
  have c88 := without88_89 g.es (.slice q ne ne) id W3.heap.size (w.heap.size + 3) W6 f5.e.sq f3.cell hz6
  refine c88.mono ?_
  rintro e W7 ⟨v2, rfl, hG7, hb7⟩
  obtain ⟨p7, cap7, rfl, -⟩ := hG7.form
  obtain ⟨n7, hn7⟩ : ∃ n, (g.es.filter fun x => !(decide (x.out = id) || decide (x.inn = id))).length = n := ⟨_, rfl⟩
  rw [hn7] at hG7
  have e0 := blk_on hb7 f0
  have e2 := blk_on hb7 f2
  have fin := Lib.hid (drop_end (id := id) (W5 := W5) hl64.out hmm.out.2.2.1 hmm.out.2.2.2.1 (f6.trans (hb7.mono f6.size)) (show GrR RV 40 W7 (w.heap.size + 3) W4.heap.size (gDropV g id).vs (.slice p5 n5 cap5) from f4.on hb7) hz45.out (show GrR RL 46 W7 (w.heap.size + 3) W6.heap.size (gDropV g id).es (.slice p7 n7 cap7) from hG7) hz6)
  obtain ⟨x0, x1, x2, fx⟩ := three_of e0
  obtain ⟨y0, y1, y2, fy⟩ := three_of e2
  clear c88 hG7 hb7 f0 f1 f2 f3 f4 f5 f6 f7 hz6
  simp only [hn7]
  go_wp2
  simp [bodyPost, results, Try.results22, go_sem, y0, y1, y2]
  exact ⟨_, _, ⟨rfl, rfl⟩, fin.out⟩
end Go.Proofs.Yteknbploiombiaa
