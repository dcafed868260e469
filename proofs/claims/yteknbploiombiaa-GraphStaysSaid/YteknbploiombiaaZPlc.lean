/-
  What place of package graph does, with the search that it calls.
-/
import Derived.Test.YteknbploiombiaaZPsm
import Derived.Test.YteknbploiombiaaZHv
namespace Go.Proofs.Yteknbploiombiaa
open Go.RowKit
set_option linter.unusedVariables false      -- a walk need not use every condition

theorem pl75 (x : Pr) (p : Option Addr) (n c : Nat) (nm : ByteArray) (w : World) :
    Calls Try.prog 75 #[.agg #[.string x.nm, .int .i64 x.v.k, .int .i64 x.v.n, .string x.v.s, .slice p n c], .string nm] w fun e w' => e = .returned (.int .i64 (cb x.nm nm)) ∧ Below w.heap.size w w' := by
  have c111 := cmp49 x.nm nm
  rw [show Lib.compareBytes x.nm.data.toList nm.data.toList = cb x.nm nm from rfl] at c111
  generalize cb x.nm nm = r at *
  go_enter Try.func75, Try.ntmps75
  go_wp2_with (go_at_call 76; refine (c111 _).mono ?_; rintro e w' ⟨rfl, rfl⟩)
  go_ret
  exact ⟨rfl, bel1 w _⟩
theorem has_no_at {l : List Pr} {nm : ByteArray} {k : Nat} (hu : Nr l) (hp : PlaceOf nm l k) (h : ∀ hk : k < l.length, cb l[k].nm nm ≠ 0) : psHas nm l = false := by
  refine has_none fun p hm => ?_
  obtain ⟨t, ht, rfl⟩ := List.getElem_of_mem hm
  refine isN_no ?_
  rcases Nat.lt_trichotomy t k with h1 | h1 | h1
  · have := hp.2.1 t ht h1; omega
  · subst h1; exact h ht
  · have hk : k < l.length := by omega
    have h2 := hu k t hk ht h1
    have h3 := hp.2.2 k hk (Nat.le_refl _)
    have h4 := h hk
    have h5 := cb_anti l[k].nm nm
    have h6 := cb_trans (a := nm) (b := l[k].nm) (c := l[t].nm) (by omega) h2
    have h7 := cb_anti l[t].nm nm
    omega

set_option maxHeartbeats 4000000 in
theorem search74 (l : List Pr) (sl : Value) (nm : ByteArray) (w : World) (hs : Sq RP w 0 l sl) (hu : Nr l) :
    Calls Try.prog 74 #[sl, .string nm, .func (.func 75) #[] #[]] w fun e w' => ∃ k : Nat, e = .returned (.tuple #[.int .i64 k, .bool (psHas nm l)]) ∧ PlaceOf nm l k ∧ Below w.heap.size w w' := by
  obtain ⟨p, cap, rfl, hc, hcm, h48, hx⟩ := hs
  unfold maxLen at hcm
  have hx := Lib.hid hx
  have hu := Lib.hid hu
  obtain ⟨N, hN⟩ : ∃ N, l.length = N := ⟨_, rfl⟩
  rw [hN]
  have hlen : Hid (l.length = N) := hN
  rw [hN] at h48 hc
  have h62 : N ≤ 4611686018427387904 := by have : N * 72 ≤ 140737488351232 := h48; omega
  clear h48
  clear hN
  obtain ⟨Rs, hRs⟩ : ∃ r, psHas nm l = r := ⟨_, rfl⟩
  rw [hRs]
  have HR := Lib.hid hRs
  clear hRs
  go_enter Try.func74, Try.ntmps74
  go_wp2
  go_loopg [9, 10, 11] N (fun kx s9 s10 s11 wr => ∃ lo hi : Nat, s9 = .int .i64 lo ∧ s10 = .int .i64 hi ∧ lo ≤ hi ∧ hi ≤ N ∧ hi - lo ≤ kx ∧ Hid (Below w.heap.size w wr) ∧
    Hid ((∀ t (ht : t < l.length), t < lo → cb l[t].nm nm < 0) ∧ (∀ t (ht : t < l.length), hi ≤ t → 0 ≤ cb l[t].nm nm)))
  case atStart => exact ⟨0, N, rfl, rfl, Nat.zero_le _, Nat.le_refl _, by omega, Below.refl _ _, fun t _ h => absurd h (Nat.not_lt_zero _), fun t ht h => by have := hlen.out; omega⟩
  case round =>
    obtain ⟨lo, hi, rfl, rfl, hlh, hin, hg, hB, hI⟩ := hrel
    by_cases hlt : lo < hi
    · obtain ⟨m, hm⟩ : ∃ m, (lo + hi) / 2 = m := ⟨_, rfl⟩
      have hmz : ((lo : Int) + (hi : Int)) / 2 = (m : Int) := by omega
      have hmN : m < l.length := by have := hlen.out; omega
      have hm1 : lo ≤ m ∧ m < hi := by omega
      obtain ⟨b, o, rfl, -, hx1⟩ := hx.out.resolve_left (by rintro rfl; simp at hmN)
      obtain ⟨s1, hat, hv1⟩ := (hx1.on' hB.out).at m hmN
      obtain ⟨p1, n1, c1, rfl⟩ := hdP hv1
      obtain ⟨a0, a1, a2, a3, a4⟩ := ats5 hat
      simp only [show RP.n = 5 from rfl] at a0 a1 a2 a3 a4
      have hI1 : Hid (cb l[m].nm nm < 0 → ∀ t (ht : t < l.length), t < m + 1 → cb l[t].nm nm < 0) := fun h t ht htm => by
        by_cases e : t = m
        · subst e; exact h
        · exact cb_trans (hu.out t m ht hmN (by omega)) h
      have hI2 : Hid (¬ cb l[m].nm nm < 0 → ∀ t (ht : t < l.length), m ≤ t → 0 ≤ cb l[t].nm nm) := fun h t ht htm => by
        by_cases e : t = m
        · subst e; omega
        · have h1 := hu.out m t hmN ht (by omega)
          refine Int.not_lt.1 fun h2 => h (cb_trans h1 h2)
      have hmN' : Hid (m < l.length) := hmN
      have c110 := pl75 l[m] p1 n1 c1 nm wr
      clear hat hv1 hx1
      generalize l[m] = x at *
      obtain ⟨q, hq⟩ : ∃ q, cb x.nm nm = q := ⟨_, rfl⟩
      rw [hq] at c110 hI1 hI2
      clear hmN hq hx
      have hmz1 : (m : Int) < (N : Int) := by omega
      have hmz0 : (0 : Int) ≤ (m : Int) := by omega
      have hm : Hid ((lo + hi) / 2 = m) := hm
      by_cases hq0 : q < 0
      · go_wp2_with (go_at_call 75; refine c110.mono ?_; rintro e w1 ⟨rfl, hb1⟩; have HB := Lib.hid (bel_then hB.out hb1); clear hb1)
        go_roundg (hi - (m + 1))
        case measure => omega
        case rel =>
          exact ⟨m + 1, hi, by go_num, rfl, by omega, hin, Nat.le_refl _, HB.out, hI1.out hq0, hI.out.2⟩
      · go_wp2_with (go_at_call 75; refine c110.mono ?_; rintro e w1 ⟨rfl, hb1⟩; have HB := Lib.hid (bel_then hB.out hb1); clear hb1)
        go_roundg (m - lo)
        case measure => omega
        case rel =>
          exact ⟨lo, m, rfl, rfl, by omega, by omega, Nat.le_refl _, HB.out, hI.out.1, hI2.out hq0⟩
    · obtain rfl : hi = lo := by omega
      have hP : Hid (PlaceOf nm l hi) := ⟨by have := hlen.out; omega, hI.out.1, hI.out.2⟩
      by_cases hn : hi < N
      · have hmN : hi < l.length := by have := hlen.out; omega
        obtain ⟨b, o, rfl, -, hx1⟩ := hx.out.resolve_left (by rintro rfl; simp at hmN)
        obtain ⟨s1, hat, hv1⟩ := (hx1.on' hB.out).at hi hmN
        obtain ⟨p1, n1, c1, rfl⟩ := hdP hv1
        obtain ⟨a0, a1, a2, a3, a4⟩ := ats5 hat
        simp only [show RP.n = 5 from rfl] at a0 a1 a2 a3 a4
        have c110 := pl75 l[hi] p1 n1 c1 nm wr
        have hR1 : Hid (cb l[hi].nm nm = 0 → Rs = true) := fun h => by rw [← HR.out]; exact has_of hmN (cb_eq h)
        have hR2 : Hid (cb l[hi].nm nm ≠ 0 → Rs = false) := fun h => by rw [← HR.out]; exact has_no_at hu.out hP.out fun _ => h
        clear hat hv1 hx1
        generalize l[hi] = x at *
        obtain ⟨q, hq⟩ : ∃ q, cb x.nm nm = q := ⟨_, rfl⟩
        rw [hq] at c110 hR1 hR2
        clear hmN hq hx
        have hmz1 : (hi : Int) < (N : Int) := by omega
        have hmz0 : (0 : Int) ≤ (hi : Int) := by omega
        have hd : decide (hi < N) = true := decide_eq_true hn
        by_cases hq0 : q = 0
        · have hqb : (q == 0) = true := by simpa using hq0
          have hRs := Lib.hid (hR1.out hq0)
          clear hq0
          go_wp2_with (go_at_call 75; refine c110.mono ?_; rintro e w1 ⟨rfl, hb1⟩; have HB := Lib.hid (bel_then hB.out hb1); clear hb1)
          go_ret2
          exact ⟨hi, by rw [hRs.out]; rfl, hP.out, HB.out⟩
        · have hqb : (q == 0) = false := by simpa using hq0
          have hRs := Lib.hid (hR2.out hq0)
          clear hq0
          go_wp2_with (go_at_call 75; refine c110.mono ?_; rintro e w1 ⟨rfl, hb1⟩; have HB := Lib.hid (bel_then hB.out hb1); clear hb1)
          go_ret2
          exact ⟨hi, by rw [hRs.out]; rfl, hP.out, HB.out⟩
      · have hRs : Hid (Rs = false) := by
          show _ = _
          rw [← HR.out]
          exact has_no_at hu.out hP.out fun hk => by have := hlen.out; omega
        have hd : decide (hi < N) = false := decide_eq_false hn
        go_wp2
        go_ret2
        exact ⟨hi, by rw [hRs.out]; rfl, hP.out, hB.out⟩
theorem place43 (l : List Pr) (sl : Value) (nm : ByteArray) (w : World) (hs : Sq RP w 0 l sl) (hu : Nr l) :
    Calls Try.prog 43 #[sl, .string nm] w fun e w' => ∃ k : Nat, e = .returned (.tuple #[.int .i64 k, .bool (psHas nm l)]) ∧ PlaceOf nm l k ∧ Below w.heap.size w w' := by
  have c109 := search74 l sl nm w hs hu
  obtain ⟨p, c, rfl⟩ := hs.header
  generalize psHas nm l = R at *
  clear hu hs
  go_enter Try.func43, Try.ntmps43
  go_wp2_with (go_at_call 74; refine c109.mono ?_; rintro e w1 ⟨k, rfl, hp, hb1⟩; have HB := Lib.hid hb1; have hp := Lib.hid hp; clear hb1)
  go_ret2
  exact ⟨k, rfl, hp.out, HB.out⟩
end Go.Proofs.Yteknbploiombiaa
