/-
  The walk of ValueMaps.
-/
import Derived.Test.YtbicodlclmdgaabGreatDoorScl
import Derived.Test.YtbicodlclmdgaabGreatDoorBegun
import Derived.BigQuiet
import Derived.BigRegion
namespace Go.Proofs.YtbicodlclmdgaabGreatDoor
open Go.RowKit

/-- What Map of any values comes to. -/
def MapR (l : List V) (w : World) (e : Ending) (w' : World) : Prop := Below w.heap.size w w' ∧
  ((∃ c : Int, c ≠ 0 ∧ e = .returned (.tuple #[.agg #[.int .i64 0, .int .i64 0, .string ⟨#[]⟩, .slice none 0 0], .int .i64 c])) ∨
   ∃ (m : Nat) (L : List (V × V)) (q : Option Addr) (n c : Nat), Hid (l.length = 2 * m) ∧ (l.length : Int) / 2 = (m : Int) ∧ L.Perm (pairsOf l) ∧ L.Pairwise (fun x y => 0 ≤ V.cmp y.1 x.1) ∧ Hid (twiceP L = false) ∧ Hid ((V.mk 5 0 ⟨#[]⟩ (flatP L)).may 1 = true) ∧
     e = .returned (.tuple #[.agg #[.int .i64 5, .int .i64 0, .string ⟨#[]⟩, .slice q n c], .int .i64 0]) ∧ (V.mk 5 0 ⟨#[]⟩ (flatP L)).In w' w.heap.size (.slice q n c))
theorem map4 (l : List V) (sl : Value) (w : World) (hS : Sl w 0 l sl) : Calls Tryz.prog 4 #[sl] w fun e w' => MapR l w e w' := by
  rcases Nat.mod_two_eq_zero_or_one l.length with h | h
  · refine (map_any l sl (l.length / 2) w hS (by omega)).mono ?_
    rintro e w' ⟨L, hp, hs, hb, h1, h2⟩
    refine ⟨hb, ?_⟩
    cases ht : twiceP L
    · obtain ⟨h3, h4⟩ := h2 ht
      cases hm : (V.mk 5 0 ⟨#[]⟩ (flatP L)).may 1
      · exact .inl ⟨20, by decide, h4 hm⟩
      · obtain ⟨s, he, hi⟩ := h3 hm
        obtain ⟨q, n, c, rfl⟩ := hi.header
        exact .inr ⟨l.length / 2, L, q, n, c, (by omega : l.length = 2 * (l.length / 2)), by omega, hp, hs, ht, hm, he, hi⟩
    · exact .inl ⟨5, by decide, h1 ht⟩
  · refine (map_odd l sl (l.length / 2) w hS (by omega)).mono ?_
    rintro e w' ⟨rfl, hb⟩
    exact ⟨hb, .inl ⟨1, by decide, rfl⟩⟩
/-- Map of the same pairs in another order. -/
theorem map_again (l : List V) (L : List (V × V)) (hp : L.Perm (pairsOf l)) (hs : L.Pairwise (fun x y => 0 ≤ V.cmp y.1 x.1)) (ht : twiceP L = false) (hm : (V.mk 5 0 ⟨#[]⟩ (flatP L)).may 1 = true)
    (x : List V) (m : Nat) (hx : x.length = 2 * m) (hpx : (pairsOf x).Perm (pairsOf l)) (sl : Value) (w : World) (hS : Sl w 0 x sl) :
    Calls Tryz.prog 4 #[sl] w fun e w' => ∃ (q : Option Addr) (n c : Nat), e = .returned (.tuple #[.agg #[.int .i64 5, .int .i64 0, .string ⟨#[]⟩, .slice q n c], .int .i64 0]) ∧ (V.mk 5 0 ⟨#[]⟩ (flatP L)).In w' w.heap.size (.slice q n c) ∧ Below w.heap.size w w' := by
  refine (map_any x sl m w hS hx).mono ?_
  rintro e w' ⟨L', hp', hs', hb, -, h2⟩
  obtain rfl : L' = L := one_list ((hp'.trans hpx).trans hp.symm) hs hs' ht
  obtain ⟨s, he, hi⟩ := (h2 ht).1 hm
  obtain ⟨q, n, c, rfl⟩ := hi.header
  exact ⟨q, n, c, he, hi, hb⟩

/-- Behind some turns: the pairs are the same. -/
def Turned (l : List V) (m : Nat) (w : World) (P : Option Addr) (cap : Nat) (W : World) : Prop := Below w.heap.size w W ∧
  (l ≠ [] → ∃ g E, P = some ⟨g, 0, none⟩ ∧ w.heap.size ≤ g ∧ Row W g cap ∧ RowE W g l.length E ∧ (∀ i, i < l.length → (E i).1.In w 0 (E i).2) ∧ (prs E m).Perm (pairsOf l))
theorem sw_in {w : World} {N : Nat} {E : El} (h : ∀ i, i < N → (E i).1.In w 0 (E i).2) {a b : Nat} (ha : a < N) (hb : b < N) : ∀ i, i < N → (sw E a b i).1.In w 0 (sw E a b i).2 := fun i hi => by
  unfold sw upd
  split
  · exact h a ha
  · split
    · exact h b hb
    · exact h i hi
theorem start_perm (l : List V) (m : Nat) (hm : l.length = 2 * m) (E : El) (h : ∀ i (hi : i < l.length), (E i).1 = l[i]) : (prs E m).Perm (pairsOf l) := by
  refine List.Perm.of_eq (List.ext_getElem? fun i => ?_)
  by_cases hi : i < m
  · rw [pairsOf_get l i (by omega)]
    simp only [prs, List.getElem?_map, List.getElem?_range hi, Option.map_some, prE]
    rw [h (2 * i) (by omega), h (2 * i + 1) (by omega)]
  · rw [List.getElem?_eq_none (by simp [prs]; omega), List.getElem?_eq_none (by rw [pairsOf_len]; omega)]
theorem Turned.sl {l : List V} {m : Nat} {w : World} {P : Option Addr} {cap : Nat} {W : World} (h : Turned l m w P cap W) (hm : l.length = 2 * m) (hc : l.length ≤ cap) (hcm : cap ≤ maxLen) (h56 : l.length * 56 ≤ 140737488351232) :
    ∃ x : List V, x.length = 2 * m ∧ (pairsOf x).Perm (pairsOf l) ∧ Sl W 0 x (.slice P l.length cap) := by
  obtain ⟨hb, h⟩ := h
  by_cases h0 : l = []
  · subst h0
    exact ⟨[], hm, List.Perm.refl _, P, cap, rfl, hc, hcm, h56, .inl rfl⟩
  · obtain ⟨g, E, rfl, hg, -, hE, hin, hp⟩ := h h0
    have hl : ((List.range' 0 (2 * m)).map fun i => (E i).1).length = 2 * m := by simp
    refine ⟨(List.range' 0 (2 * m)).map fun i => (E i).1, hl, ?_, some ⟨g, 0, none⟩, cap, by rw [hl, hm], by rw [hl]; omega, hcm, by rw [hl]; omega, .inr ⟨g, 0, rfl, Nat.zero_le _, ?_⟩⟩
    · have := pairsOf_prs E m 0
      rw [show 2 * 0 = 0 by omega] at this
      rw [this, ← List.range_eq_range']
      exact hp
    · have := rowE_ls hb (2 * m) 0 (by rw [Nat.zero_add, ← hm]; exact hE) (by rw [Nat.zero_add, ← hm]; exact hin)
      rw [show 0 * 4 = 0 by omega] at this
      exact this

set_option maxRecDepth 20000 in
set_option maxHeartbeats 8000000 in
theorem maps3 (l : List V) (sl : Value) (p : Option Addr) (n cap : Nat) (w : World) (hS : Sl w 0 l sl) (hn : n ≤ 9223372036854775807)
    (hT : n = 0 ∨ ∃ b o, p = some ⟨b, o, none⟩ ∧ ∀ i, i < n → ∃ t : Nat, t < 256 ∧ w.cell? ⟨b, o + i, none⟩ = some (.int .u8 t)) :
    Calls Tryz.prog 3 #[sl, .slice p n cap] w fun e w' => e = .returned (.bool true) ∧ Below w.heap.size w w' := by
  have c4 := fun w hS => map4 l sl w hS
  have c6 := fun w hS => clone6 l sl w hS
  have tok1 : Hid True := trivial
  have tok2 : Hid True := trivial
  have hS0 := hS
  obtain ⟨p0, cap0, rfl, hc0, hcm0, h56, -⟩ := hS0
  unfold MapR at c4
  go_enter Tryz.func3, Tryz.ntmps3
  go_wp2_with (first
    | (go_at_call 4; clear tok1; refine (c4 w hS).mono ?_; clear c4; rintro e w1 ⟨hb1, ⟨c, hc, rfl⟩ | ⟨m, L, p1, n1, q1, hlm, hlm2, hp, hs, ht, hm, rfl, hi1⟩⟩)
    | (go_at_call 5; clear tok2; refine (begun12 _).mono ?_; rintro e w2 ⟨rfl, hb2⟩)
    | (go_at_call 5; refine (begun12 _).mono ?_; rintro e w3 ⟨rfl, hb3⟩)
    | (go_at_call 6; refine (c6 w2 (((hS.on hb1).on (bel1 w1 _)).on hb2)).mono ?_; rintro e w3 ⟨hb3, P, cap3, rfl, hc3, hcm3, hE⟩))
  · have hfin := bel_then (bel_then (bel_then hb1 (bel1 w1 _)) hb2) hb3
    go_ret
    exact ⟨rfl, hfin⟩
  have kA := blk_on hb2 (blk_new w1 (.cells #[.int .i64 5, .int .i64 0, .string ⟨#[]⟩, .slice p1 n1 q1] 25))
  have hbw2 : Below w.heap.size w w2 := bel_then (bel_then hb1 (bel1 w1 _)) hb2
  have hi2 := ((hi1.low (Nat.zero_le _)).on (bel1 w1 (.cells #[.int .i64 5, .int .i64 0, .string ⟨#[]⟩, .slice p1 n1 q1] 25))).on hb2
  have hIv : Turned l m w2 P cap3 w3 := by
    refine ⟨hb3, fun h => ?_⟩
    obtain ⟨g, E, h1, h2, h3, h4, h5⟩ := hE h
    exact ⟨g, E, h1, h2, h3, h4, fun i hi => by rw [(h5 i hi).1]; exact (h5 i hi).2, start_perm l m hlm.out E (fun i hi => (h5 i hi).1)⟩
  clear hE hb1 hb2 hb3 hi1 c6
  have hI : Hid (Turned l m w2 P cap3 w3) := hIv
  clear hIv
  go_loopg [34] n (fun c i wr => ∃ j : Nat, c + j = n ∧ i = .int .i64 j ∧ Hid (Turned l m w2 P cap3 wr))
  case atStart => exact ⟨0, rfl, rfl, hI⟩
  case round =>
    obtain ⟨j, hj, rfl, hI⟩ := hrel
    by_cases hsw : j < n ∧ m ≠ 0
    · obtain ⟨hjn, hm0⟩ := hsw
      obtain ⟨b, o, rfl, hT1⟩ := hT.resolve_left (by omega)
      obtain ⟨t, ht256, hct0⟩ := hT1 j hjn
      obtain ⟨hbr, hI1⟩ := hI.out
      obtain ⟨g, E, rfl, hg, hrow, hrE, hEin, hEp⟩ := hI1 (by rintro rfl; have := hlm.out; simp at this; omega)
      have hct := (((hbw2.trans (hbr.mono hbw2.size)).cell (p := ⟨b, o + j, none⟩) (cell_lt hct0))).trans hct0
      obtain ⟨i1, hi1⟩ : ∃ i1, i1 = j % m := ⟨_, rfl⟩
      obtain ⟨i2, hi2'⟩ : ∃ i2, i2 = t % m := ⟨_, rfl⟩
      have l1 : i1 < m := by rw [hi1]; exact Nat.mod_lt _ (by omega)
      have l2 : i2 < m := by rw [hi2']; exact Nat.mod_lt _ (by omega)
      have r1 : (j : Int).tmod (m : Int) = (i1 : Int) := by rw [hi1]; exact (Int.ofNat_tmod j m).symm
      have r2 : (t : Int).tmod (m : Int) = (i2 : Int) := by rw [hi2']; exact (Int.ofNat_tmod t m).symm
      have hi1' : Hid (i1 = j % m) := hi1
      clear hT hT1 hct0 hI hI1 hi1 hi2'
      have hz : (m : Int) ≠ 0 := by omega
      have q1 : IntKind.i64.wrap (2 * (i1 : Int)) = ((2 * i1 : Nat) : Int) := by rw [IntKind.wrap_i64]; omega
      have q2 : IntKind.i64.wrap (2 * (i2 : Int)) = ((2 * i2 : Nat) : Int) := by rw [IntKind.wrap_i64]; omega
      go_wp2
      go_region
      obtain ⟨A, hA⟩ : ∃ A, A = 2 * i1 := ⟨_, rfl⟩
      obtain ⟨B, hB⟩ : ∃ B, B = 2 * i2 := ⟨_, rfl⟩
      have eA : 2 * (i1 : Int) = (A : Int) := by omega
      have eB : 2 * (i2 : Int) = (B : Int) := by omega
      simp only [eA, eB]
      have hA' : Hid (A = 2 * i1) := hA
      have hB' : Hid (B = 2 * i2) := hB
      have hN := hlm.out
      have lA : (A : Int) < (l.length : Int) := by omega
      have lB : (B : Int) < (l.length : Int) := by omega
      have lAn : A < l.length := by omega
      have lBn : B < l.length := by omega
      have lA1 : A + 1 < l.length := by omega
      have lB1 : B + 1 < l.length := by omega
      clear hA hB eA eB hN q1 q2 r1 r2 hz
      obtain ⟨W, hW⟩ : ∃ W, W = wr.drew := ⟨_, rfl⟩
      have hrW : Row W g cap3 := by rw [hW]; exact hrow.drew
      have hEW : RowE W g l.length E := by rw [hW]; exact hrE.drew
      have hbW : Below w2.heap.size w2 W := by rw [hW]; exact hbr.drew
      rw [← hW]
      clear hW hrow hrE hbr hct
      obtain ⟨a0, a1, a2, a3⟩ := hEW A lAn
      obtain ⟨b0, b1, b2, b3⟩ := hEW B lBn
      obtain ⟨pa, na, ca, ea⟩ := (hEin A lAn).header
      obtain ⟨pb, nb, cb, eb⟩ := (hEin B lBn).header
      rw [ea] at a3
      rw [eb] at b3
      have hf := fun i => hrW.frozen i
      have k1 := hrW.set (A * 4) (.int .i64 (E B).1.k)
      have k2 := k1.set (A * 4 + 1) (.int .i64 (E B).1.n)
      have k3 := k2.set (A * 4 + 2) (.string (E B).1.s)
      have k4 := k3.set (A * 4 + 3) (.slice pb nb cb)
      obtain ⟨z0, hz0⟩ := k1.cell (B * 4) (by omega)
      obtain ⟨z1, hz1⟩ := k2.cell (B * 4 + 1) (by omega)
      obtain ⟨z2, hz2⟩ := k3.cell (B * 4 + 2) (by omega)
      obtain ⟨z3, hz3⟩ := k4.cell (B * 4 + 3) (by omega)
      clear k1 k2 k3 k4
      go_wp2
      go_region
      obtain ⟨W1, hW1⟩ : ∃ W1, W1 = (swW W g E A B).drew := ⟨_, rfl⟩
      obtain ⟨E1, hE1⟩ : ∃ E1, E1 = sw E A B := ⟨_, rfl⟩
      have s1 := rowE_sw hEW hrW hc3 lAn lBn
      have hrW1 : Row W1 g cap3 := by rw [hW1]; exact s1.2.drew
      have hEW1 : RowE W1 g l.length E1 := by rw [hW1, hE1]; exact s1.1.drew
      have hbW1 : Below w2.heap.size w2 W1 := by rw [hW1]; exact (hbW.trans (below_sw hg E A B)).drew
      have hEin1 : ∀ i, i < l.length → (E1 i).1.In w2 0 (E1 i).2 := by rw [hE1]; exact sw_in hEin lAn lBn
      have hE1' : Hid (E1 = sw E A B) := hE1
      unfold swW put4 at hW1
      rw [ea, eb] at hW1
      rw [← hW1]
      clear hW1 hE1 s1 hrW hEW hbW hEin a0 a1 a2 a3 b0 b1 b2 b3 ea eb hf hz0 hz1 hz2 hz3
      obtain ⟨A1, hA1⟩ : ∃ A1, A1 = A + 1 := ⟨_, rfl⟩
      obtain ⟨B1, hB1⟩ : ∃ B1, B1 = B + 1 := ⟨_, rfl⟩
      have eA : (A : Int) + 1 = (A1 : Int) := by omega
      have eB : (B : Int) + 1 = (B1 : Int) := by omega
      have hA1' : Hid (A1 = A + 1) := hA1
      have hB1' : Hid (B1 = B + 1) := hB1
      have mA : (A1 : Int) < (l.length : Int) := by omega
      have mB : (B1 : Int) < (l.length : Int) := by omega
      have mAn : A1 < l.length := by omega
      have mBn : B1 < l.length := by omega
      clear hA1 hB1
      obtain ⟨a0, a1, a2, a3⟩ := hEW1 A1 mAn
      obtain ⟨b0, b1, b2, b3⟩ := hEW1 B1 mBn
      obtain ⟨pc, nc, cc, ec⟩ := (hEin1 A1 mAn).header
      obtain ⟨pd, nd, cd, ed⟩ := (hEin1 B1 mBn).header
      rw [ec] at a3
      rw [ed] at b3
      have hf := fun i => hrW1.frozen i
      have k1 := hrW1.set (A1 * 4) (.int .i64 (E1 B1).1.k)
      have k2 := k1.set (A1 * 4 + 1) (.int .i64 (E1 B1).1.n)
      have k3 := k2.set (A1 * 4 + 2) (.string (E1 B1).1.s)
      have k4 := k3.set (A1 * 4 + 3) (.slice pd nd cd)
      obtain ⟨z0, hz0⟩ := k1.cell (B1 * 4) (by omega)
      obtain ⟨z1, hz1⟩ := k2.cell (B1 * 4 + 1) (by omega)
      obtain ⟨z2, hz2⟩ := k3.cell (B1 * 4 + 2) (by omega)
      obtain ⟨z3, hz3⟩ := k4.cell (B1 * 4 + 3) (by omega)
      clear k1 k2 k3 k4
      go_wp2
      go_region
      obtain ⟨W2, hW2⟩ : ∃ W2, W2 = (swW W1 g E1 A1 B1).drew := ⟨_, rfl⟩
      have s2 := rowE_sw hEW1 hrW1 hc3 mAn mBn
      have hrW2 : Row W2 g cap3 := by rw [hW2]; exact s2.2.drew
      have hEW2 : RowE W2 g l.length (sw E1 A1 B1) := by rw [hW2]; exact s2.1.drew
      have hbW2 : Below w2.heap.size w2 W2 := by rw [hW2]; exact (hbW1.trans (below_sw hg E1 A1 B1)).drew
      have hEin2 : ∀ i, i < l.length → (sw E1 A1 B1 i).1.In w2 0 (sw E1 A1 B1 i).2 := sw_in hEin1 mAn mBn
      unfold swW put4 at hW2
      rw [ec, ed] at hW2
      rw [← hW2]
      have hfin : Hid (Turned l m w2 (some ⟨g, 0, none⟩) cap3 W2) := by
        refine ⟨hbW2, fun _ => ⟨g, _, rfl, hg, hrW2, hEW2, hEin2, ?_⟩⟩
        rw [hA1'.out, hB1'.out, hE1'.out, hA'.out, hB'.out]
        exact (prs_sw E m i1 i2 l1 l2).trans hEp
      clear hW2 s2 hrW2 hEW2 hbW2 hEin2 hrW1 hEW1 hbW1 hEin1 a0 a1 a2 a3 b0 b1 b2 b3 ec ed hf hz0 hz1 hz2 hz3 eA eB
      go_wp2
      go_roundg (gk - 1)
      case rel => exact ⟨j + 1, by omega, by go_num, hfin⟩
      case measure => omega
    · obtain ⟨x, hxl, hxp, hxS⟩ := hI.out.sl hlm.out hc3 hcm3 h56
      have c4 := map_again l L hp hs ht.out hm.out x m hxl hxp (.slice P l.length cap3) wr hxS
      have hbr := hI.out.1
      have kB := blk_on hbr kA
      have hi3 := hi2.on hbr
      have hmay := hm.out
      clear hxl hxp hxS hp hs ht hm hI kA hi2
      generalize hX : V.mk 5 0 ⟨#[]⟩ (flatP L) = X at *
      have eX : X.k = 5 ∧ X.n = 0 ∧ X.s = ⟨#[]⟩ := by rw [← hX]; exact ⟨rfl, rfl, rfl⟩
      have c7 := fun s1 s2 w hx hy => refSame_any X X s1 s2 w hx hy
      have c8 := fun s w hx => check_any X s w hx
      unfold V.err at c8
      rw [hmay] at c8
      rw [cmp_self] at c7
      unfold V.agg at c7 c8
      simp only [eX.1, eX.2.1, eX.2.2] at c7 c8
      clear hX eX hmay
      have hwl : w1.heap.size < wr.heap.size := (Array.getElem?_eq_some_iff.1 kB).1
      have hTr : j < n → ∃ b o t, p = some ⟨b, o, none⟩ ∧ t < 256 ∧ wr.cell? ⟨b, o + j, none⟩ = some (.int .u8 ((t : Nat) : Int)) := fun hjn => by
        obtain ⟨b, o, rfl, hT1⟩ := hT.resolve_left (by omega)
        obtain ⟨t, ht256, hct⟩ := hT1 j hjn
        exact ⟨b, o, t, rfl, ht256, (((hbw2.trans (hbr.mono hbw2.size)).cell (p := ⟨b, o + j, none⟩) (cell_lt hct))).trans hct⟩
      clear hT
      by_cases hjn : j < n
      · obtain rfl : m = 0 := by omega
        obtain ⟨b, o, t, rfl, ht256, hct⟩ := hTr hjn
        clear hTr
        go_wp2_with (first
          | (go_at_call 4; refine c4.mono ?_; rintro e w4 ⟨p4, n4, q4, rfl, hi4, hb4⟩; obtain ⟨x0, x1, x2, x3, -⟩ := four_of (blk_on hb4 kB); have hlA : w1.heap.size < w4.heap.size := (by have := hb4.size; omega))
          | (go_at_call 7; refine (c7 _ _ _ ((hi3.on hb4).on (bel1 w4 _)) ((hi4.low (Nat.zero_le _)).on (bel1 w4 _))).mono ?_; rintro e w5 ⟨rfl, hb5⟩; obtain ⟨y0, y1, y2, y3, -⟩ := four_of (blk_on hb5 (blk_old (blk_on hb4 kB))))
          | (go_at_call 8; refine (c8 _ w5 (((hi3.on hb4).on (bel1 w4 _)).on hb5)).mono ?_; rintro e w6 ⟨rfl, hb6⟩))
        have hfin : Below w.heap.size w w6 := bel_then (bel_then (bel_then (bel_then (bel_then hbw2 hbr) hb4) (bel1 w4 _)) hb5) hb6
        go_ret
        exact ⟨rfl, hfin⟩
      · clear hTr
        go_wp2_with (first
          | (go_at_call 4; refine c4.mono ?_; rintro e w4 ⟨p4, n4, q4, rfl, hi4, hb4⟩; obtain ⟨x0, x1, x2, x3, -⟩ := four_of (blk_on hb4 kB); have hlA : w1.heap.size < w4.heap.size := (by have := hb4.size; omega))
          | (go_at_call 7; refine (c7 _ _ _ ((hi3.on hb4).on (bel1 w4 _)) ((hi4.low (Nat.zero_le _)).on (bel1 w4 _))).mono ?_; rintro e w5 ⟨rfl, hb5⟩; obtain ⟨y0, y1, y2, y3, -⟩ := four_of (blk_on hb5 (blk_old (blk_on hb4 kB))))
          | (go_at_call 8; refine (c8 _ w5 (((hi3.on hb4).on (bel1 w4 _)).on hb5)).mono ?_; rintro e w6 ⟨rfl, hb6⟩))
        have hfin : Below w.heap.size w w6 := bel_then (bel_then (bel_then (bel_then (bel_then hbw2 hbr) hb4) (bel1 w4 _)) hb5) hb6
        go_ret
        exact ⟨rfl, hfin⟩
end Go.Proofs.YtbicodlclmdgaabGreatDoor
