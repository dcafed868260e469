/-
  What hasVertex of package graph does, with the search that it calls.
-/
import Derived.Test.YteknbploiombiaaZClnClr
namespace Go.Proofs.Yteknbploiombiaa
open Go.RowKit
set_option linter.unusedVariables false      -- a walk need not use every condition

theorem hv81 (x : Vx) (p : Option Addr) (n c : Nat) (id : Int) (w : World) :
    Calls Try.prog 81 #[.agg #[.int .i64 x.id, .string x.lb, .slice p n c], .int .i64 id] w fun e w' => e = .returned (.int .i64 (icmp x.id id)) ∧ Below w.heap.size w w' := by
  have c114 := cmp48 x.id id
  generalize icmp x.id id = r at *
  go_enter Try.func81, Try.ntmps81
  go_wp2_with (go_at_call 82; refine (c114 _).mono ?_; rintro e w' ⟨rfl, rfl⟩)
  go_ret
  exact ⟨rfl, bel1 w _⟩

/-- Is there a vertex of that id? -/
def hasV (vs : List Vx) (id : Int) : Bool := decide (id ∈ vs.map Vx.id)
theorem hasV_no {vs : List Vx} {id : Int} (h : ∀ t (ht : t < vs.length), vs[t].id ≠ id) : hasV vs id = false := by
  unfold hasV
  refine decide_eq_false fun hm => ?_
  obtain ⟨v, hv, e⟩ := List.mem_map.1 hm
  obtain ⟨t, ht, rfl⟩ := List.getElem_of_mem hv
  exact h t ht e
theorem hasV_yes {vs : List Vx} {id : Int} {t : Nat} (ht : t < vs.length) (h : vs[t].id = id) : hasV vs id = true := by
  unfold hasV
  exact decide_eq_true (List.mem_map.2 ⟨_, List.getElem_mem ht, h⟩)
/-- The ids rise. -/
def Up (vs : List Vx) : Prop := ∀ i j (hi : i < vs.length) (hj : j < vs.length), i < j → vs[i].id < vs[j].id
theorem Up.of {vs : List Vx} {a : Int} (h : up a (vs.map Vx.id) = true) : Up vs := fun i j hi hj hij => by
  have := up_sorted h i j (by simpa using hi) (by simpa using hj) hij
  simpa using this

set_option maxHeartbeats 4000000 in
theorem search80 (vs : List Vx) (sl : Value) (id : Int) (w : World) (hs : Sq RV w 0 vs sl) (hu : Up vs) :
    Calls Try.prog 80 #[sl, .int .i64 id, .func (.func 81) #[] #[]] w fun e w' => ∃ k : Int, e = .returned (.tuple #[.int .i64 k, .bool (hasV vs id)]) ∧ Below w.heap.size w w' := by
  obtain ⟨p, cap, rfl, hc, hcm, h48, hx⟩ := hs
  unfold maxLen at hcm
  have hx := Lib.hid hx
  have hu := Lib.hid hu
  obtain ⟨N, hN⟩ : ∃ N, vs.length = N := ⟨_, rfl⟩
  rw [hN]
  have hlen : Hid (vs.length = N) := hN
  rw [hN] at h48 hc
  have h62 : N ≤ 4611686018427387904 := by have : N * 48 ≤ 140737488351232 := h48; omega
  clear h48
  clear hN
  obtain ⟨Rs, hRs⟩ : ∃ r, hasV vs id = r := ⟨_, rfl⟩
  rw [hRs]
  have HR := Lib.hid hRs
  clear hRs
  go_enter Try.func80, Try.ntmps80
  go_wp2
  go_loopg [9, 10, 11] N (fun kx s9 s10 s11 wr => ∃ lo hi : Nat, s9 = .int .i64 lo ∧ s10 = .int .i64 hi ∧ lo ≤ hi ∧ hi ≤ N ∧ hi - lo ≤ kx ∧ Hid (Below w.heap.size w wr) ∧
    Hid ((∀ t (ht : t < vs.length), t < lo → vs[t].id < id) ∧ (∀ t (ht : t < vs.length), hi ≤ t → id ≤ vs[t].id)))
  case atStart => exact ⟨0, N, rfl, rfl, Nat.zero_le _, Nat.le_refl _, by omega, Below.refl _ _, fun t _ h => absurd h (Nat.not_lt_zero _), fun t ht h => by have := hlen.out; omega⟩
  case round =>
    obtain ⟨lo, hi, rfl, rfl, hlh, hin, hg, hB, hI⟩ := hrel
    by_cases hlt : lo < hi
    · obtain ⟨m, hm⟩ : ∃ m, (lo + hi) / 2 = m := ⟨_, rfl⟩
      have hmz : ((lo : Int) + (hi : Int)) / 2 = (m : Int) := by omega
      have hmN : m < vs.length := by have := hlen.out; omega
      have hm1 : lo ≤ m ∧ m < hi := by omega
      obtain ⟨b, o, rfl, -, hx1⟩ := hx.out.resolve_left (by rintro rfl; simp at hmN)
      obtain ⟨s1, hat, hv1⟩ := (hx1.on' hB.out).at m hmN
      obtain ⟨p1, n1, c1, rfl⟩ := hdV hv1
      obtain ⟨a0, a1, a2⟩ := ats3 hat
      simp only [show RV.n = 3 from rfl] at a0 a1 a2
      have hI1 : Hid (vs[m].id < id → ∀ t (ht : t < vs.length), t < m + 1 → vs[t].id < id) := fun h t ht htm => by
        by_cases e : t = m
        · subst e; exact h
        · have := hu.out t m ht hmN (by omega); omega
      have hI2 : Hid (¬ vs[m].id < id → ∀ t (ht : t < vs.length), m ≤ t → id ≤ vs[t].id) := fun h t ht htm => by
        by_cases e : t = m
        · subst e; omega
        · have := hu.out m t hmN ht (by omega); omega
      have hmN' : Hid (m < vs.length) := hmN
      have c113 := hv81 vs[m] p1 n1 c1 id wr
      have hic : icmp vs[m].id id < 0 ↔ vs[m].id < id := by unfold icmp; repeat' split <;> omega
      clear hat hv1 hx1
      generalize vs[m] = x at *
      obtain ⟨q, hq⟩ : ∃ q, icmp x.id id = q := ⟨_, rfl⟩
      rw [hq] at c113 hic
      clear hmN hq hx
      have hmz1 : (m : Int) < (N : Int) := by omega
      have hmz0 : (0 : Int) ≤ (m : Int) := by omega
      have hic := Lib.hid hic
      have hm : Hid ((lo + hi) / 2 = m) := hm
      by_cases hq0 : q < 0
      · go_wp2_with (go_at_call 81; refine c113.mono ?_; rintro e w1 ⟨rfl, hb1⟩; have HB := Lib.hid (bel_then hB.out hb1); clear hb1)
        go_roundg (hi - (m + 1))
        case measure => omega
        case rel =>
          exact ⟨m + 1, hi, by go_num, rfl, by omega, hin, Nat.le_refl _, HB.out, hI1.out (hic.out.1 hq0), hI.out.2⟩
      · go_wp2_with (go_at_call 81; refine c113.mono ?_; rintro e w1 ⟨rfl, hb1⟩; have HB := Lib.hid (bel_then hB.out hb1); clear hb1)
        go_roundg (m - lo)
        case measure => omega
        case rel =>
          exact ⟨lo, m, rfl, rfl, by omega, by omega, Nat.le_refl _, HB.out, hI.out.1, hI2.out (Int.not_lt.1 fun h => by have := hic.out.2 h; omega)⟩
    · obtain rfl : hi = lo := by omega
      by_cases hn : hi < N
      · have hmN : hi < vs.length := by have := hlen.out; omega
        obtain ⟨b, o, rfl, -, hx1⟩ := hx.out.resolve_left (by rintro rfl; simp at hmN)
        obtain ⟨s1, hat, hv1⟩ := (hx1.on' hB.out).at hi hmN
        obtain ⟨p1, n1, c1, rfl⟩ := hdV hv1
        obtain ⟨a0, a1, a2⟩ := ats3 hat
        simp only [show RV.n = 3 from rfl] at a0 a1 a2
        have c113 := hv81 vs[hi] p1 n1 c1 id wr
        have hR1 : Hid (vs[hi].id = id → Rs = true) := fun h => by rw [← HR.out]; exact hasV_yes hmN h
        have hR2 : Hid (vs[hi].id ≠ id → Rs = false) := fun h => by
          rw [← HR.out]
          refine hasV_no fun t ht => ?_
          by_cases h1 : t < hi
          · have := hI.out.1 t ht h1; omega
          · have h0 := hI.out.2 hi hmN (Nat.le_refl _)
            by_cases e : t = hi
            · subst e; exact h
            · have := hu.out hi t hmN ht (by omega); omega
        have hic : icmp vs[hi].id id = 0 ↔ vs[hi].id = id := by unfold icmp; repeat' split <;> omega
        clear hat hv1 hx1
        generalize vs[hi] = x at *
        obtain ⟨q, hq⟩ : ∃ q, icmp x.id id = q := ⟨_, rfl⟩
        rw [hq] at c113 hic
        have hic := Lib.hid hic
        clear hmN hq hx
        have hmz1 : (hi : Int) < (N : Int) := by omega
        have hmz0 : (0 : Int) ≤ (hi : Int) := by omega
        have hd : decide (hi < N) = true := decide_eq_true hn
        by_cases hq0 : q = 0
        · have hqb : (q == 0) = true := by simpa using hq0
          have hRs := Lib.hid (hR1.out (hic.out.1 hq0))
          clear hq0
          go_wp2_with (go_at_call 81; refine c113.mono ?_; rintro e w1 ⟨rfl, hb1⟩; have HB := Lib.hid (bel_then hB.out hb1); clear hb1)
          go_ret2
          exact ⟨hi, by rw [hRs.out]; rfl, HB.out⟩
        · have hqb : (q == 0) = false := by simpa using hq0
          have hRs := Lib.hid (hR2.out (fun h => hq0 (hic.out.2 h)))
          clear hq0
          go_wp2_with (go_at_call 81; refine c113.mono ?_; rintro e w1 ⟨rfl, hb1⟩; have HB := Lib.hid (bel_then hB.out hb1); clear hb1)
          go_ret2
          exact ⟨hi, by rw [hRs.out]; rfl, HB.out⟩
      · have hRs : Hid (Rs = false) := by
          show _ = _
          rw [← HR.out]
          exact hasV_no fun t ht => by have := hI.out.1 t ht (by have := hlen.out; omega); omega
        have hd : decide (hi < N) = false := decide_eq_false hn
        go_wp2
        go_ret2
        exact ⟨hi, by rw [hRs.out]; rfl, hB.out⟩
theorem has50 (g : Gg) (sv se : Value) (id : Int) (w : World) (hg : Gg.In w 0 g sv se) (hu : Up g.vs) :
    Calls Try.prog 50 #[g.agg sv se, .int .i64 id] w fun e w' => e = .returned (.bool (hasV g.vs id)) ∧ Below w.heap.size w w' := by
  have c112 := fun W hW => search80 g.vs sv id W (hg.2.1.on hW) hu
  obtain ⟨p, c, rfl⟩ := hg.2.1.header
  obtain ⟨p', c', rfl⟩ := hg.2.2.header
  unfold Gg.agg
  generalize hasV g.vs id = R at *
  clear hu hg
  go_enter Try.func50, Try.ntmps50
  go_wp2_with (go_at_call 80; refine (c112 _ (bel1 w _)).mono ?_; rintro e w1 ⟨k, rfl, hb1⟩; have HB := Lib.hid (bel_then (bel1 w _) hb1); clear hb1)
  go_ret
  exact ⟨rfl, HB.out⟩
end Go.Proofs.Yteknbploiombiaa
