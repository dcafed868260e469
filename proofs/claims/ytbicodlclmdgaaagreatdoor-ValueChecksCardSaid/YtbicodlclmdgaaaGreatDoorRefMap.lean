/-
  What the document's Map does: pairs put one by one where their keys belong.
-/
import Derived.Test.YtbicodlclmdgaaaGreatDoorCons
import Derived.Deep.RegionLawGrows
import Derived.Deep.RegionHeld3
import Derived.Deep.LoopGhost
import Derived.BigRegion
namespace Go.Proofs.YtbicodlclmdgaaaGreatDoor
open Go.RowKit

/-- What the document's Map of an even number of values comes to. -/
def RefMapped (l : List V) (w : World) (e : Ending) (w' : World) : Prop := Below w.heap.size w w' ∧
  ((∃ Op : List (V × V), Rising Op ∧ Op.Perm (pairsOf l) ∧ ((V.mk 5 0 ⟨#[]⟩ (flatP Op)).may 1 = true → ∃ sl, e = .returned (.tuple #[(V.mk 5 0 ⟨#[]⟩ (flatP Op)).agg sl, .int .i64 0]) ∧ (V.mk 5 0 ⟨#[]⟩ (flatP Op)).In w' 0 sl) ∧
      ((V.mk 5 0 ⟨#[]⟩ (flatP Op)).may 1 = false → e = .returned (.tuple #[zeroAgg, .int .i64 20]))) ∨
   (¬ Apart (pairsOf l) ∧ e = .returned (.tuple #[zeroAgg, .int .i64 5])))

theorem refMap_odd (l : List V) (sl : Value) (m : Nat) (w : World) (hS : Sl w 0 l sl) (hlen : l.length = 2 * m + 1) :
    Calls Tryz.prog 11 #[sl] w fun e w' => e = .returned (.tuple #[zeroAgg, .int .i64 1]) ∧ Below w.heap.size w w' := by
  obtain ⟨p, cap, rfl, hc, hcm, h56, -⟩ := hS
  rw [hlen] at *
  go_enter Tryz.func11, Tryz.ntmps11
  go_wp2
  obtain ⟨y0, y1, y2, y3, -⟩ := four_of (blk_new w (.cells #[.int .i64 0, .int .i64 0, .string ⟨#[]⟩, .slice none 0 0] 24))
  simp [bodyPost, results, Tryz.results11, go_sem, y0, y1, y2, y3]
  exact ⟨rfl, bel1 w _⟩

/-- Behind q pairs: what was put so far. -/
def Put (l : List V) (w w1 : World) (q : Nat) (v : Value) (wr : World) : Prop := Below w1.heap.size w1 wr ∧
  ∃ (X : List (V × Value)) (Op : List (V × V)), X.map Prod.fst = flatP Op ∧ X.length = 2 * q ∧ Op.length = q ∧ Rising Op ∧ Op.Perm ((pairsOf l).take q) ∧ AllIn w 0 X ∧ wr.ownsRow w1.heap.size 24 4 v (2 * q) (encL X)
theorem row_form {w : World} {base n : Nat} {v : Value} {X : List (V × Value)} (h : w.ownsRow base 24 4 v n (encL X)) (hn : X.length = n) :
    ∃ P cap, v = .slice P n cap ∧ n ≤ cap ∧ cap ≤ maxLen ∧ (P = none → n = 0 ∧ cap = 0) ∧ (∀ g, P = some g → ∃ b, g = ⟨b, 0, none⟩ ∧ base ≤ b ∧ At w b 0 X) := by
  have h0 := h
  obtain ⟨-, ⟨rfl, h1⟩ | ⟨g, cap, cur, rfl, a1, a2, a3, a4, a5, a6⟩⟩ := h
  · exact ⟨none, 0, by rw [h1], by omega, Nat.zero_le _, fun _ => ⟨h1, rfl⟩, fun g e => by cases e⟩
  · exact ⟨some ⟨g, 0, none⟩, cap, rfl, a3, a4, (fun e => by cases e), fun g2 e => ⟨g, (Option.some.inj e).symm, a1, row_at h0 hn⟩⟩

theorem row_low {w : World} {base base' e size n : Nat} {v : Value} {xs : List Value} (h : w.ownsRow base e size v n xs) (hb : base' ≤ base) : w.ownsRow base' e size v n xs := by
  obtain ⟨h1, h2⟩ := h
  refine ⟨h1, ?_⟩
  rcases h2 with h2 | ⟨g, cap, cur, a1, a2, a3⟩
  · exact .inl h2
  · exact .inr ⟨g, cap, cur, a1, by omega, a3⟩
theorem row_cap {w : World} {base e size n m cap : Nat} {p : Option Addr} {xs : List Value} (h : w.ownsRow base e size (.slice p m cap) n xs) : n ≤ cap := by
  obtain ⟨-, ⟨h1, h2⟩ | ⟨g, cap2, cur, h1, -, -, h2, -⟩⟩ := h
  · omega
  · cases h1; exact h2
/-- A key that was there. -/
theorem put_twice {l : List V} {q : Nat} {Op : List (V × V)} {x : V × V} (hPe : Op.Perm ((pairsOf l).take q)) (hpq : (pairsOf l)[q]? = some x) (j : Nat) (hj : j < Op.length) (h : V.cmp Op[j].1 x.1 = 0) : ¬ Apart (pairsOf l) := fun ha => by
  obtain ⟨hlt, hget⟩ := List.getElem?_eq_some_iff.1 hpq
  have hm : Op[j] ∈ (pairsOf l).take q := hPe.subset (List.getElem_mem hj)
  obtain ⟨i, hi, he⟩ := List.getElem_of_mem hm
  rw [List.getElem_take] at he
  have hi' : i < q := by simp at hi; omega
  have := (List.pairwise_iff_getElem.1 ha) i q (by omega) hlt hi'
  rw [he, hget] at this
  exact this h
/-- One pair more. -/
theorem put_next {l : List V} {w w1 wr : World} {q j J N : Nat} {X : List (V × Value)} {Op : List (V × V)} {Kv K2v : V} {Kh K2h v : Value} (hb : Below w1.heap.size w1 wr) (hXO : X.map Prod.fst = flatP Op) (hN : N = 2 * q) (hXl : X.length = N) (hOl : Op.length = q) (hRi : Rising Op) (hPe : Op.Perm ((pairsOf l).take q)) (hXin : AllIn w 0 X)
    (hpq : (pairsOf l)[q]? = some (Kv, K2v)) (hK : Kv.In w 0 Kh) (hK2 : K2v.In w 0 K2h) (hJ : J = 2 * j) (hj : j ≤ q) (hlo : ∀ i (hi : i < Op.length), i < j → V.cmp Op[i].1 Kv < 0) (hhi : ∀ (hj : j < Op.length), 0 < V.cmp Op[j].1 Kv)
    {n base : Nat} (hn : n = 2 * (q + 1)) (hbase : w1.heap.size ≤ base) (hrow : wr.ownsRow base 24 4 v n (encL (X.take J) ++ (enc4 (Kv, Kh) ++ enc4 (K2v, K2h)) ++ encL (X.drop J))) : Put l w w1 (q + 1) v wr := by
  have hX' : encL (X.take J ++ ((Kv, Kh) :: (K2v, K2h) :: X.drop J)) = encL (X.take J) ++ (enc4 (Kv, Kh) ++ enc4 (K2v, K2h)) ++ encL (X.drop J) := by
    rw [encL_app]
    have : encL ((Kv, Kh) :: (K2v, K2h) :: X.drop J) = enc4 (Kv, Kh) ++ (enc4 (K2v, K2h) ++ encL (X.drop J)) := rfl
    rw [this]
    simp only [List.append_assoc]
  refine ⟨hb, X.take J ++ ((Kv, Kh) :: (K2v, K2h) :: X.drop J), Op.take j ++ (Kv, K2v) :: Op.drop j, ?_, ?_, ?_, ins_rising hRi j (Kv, K2v) hlo hhi, ?_, ?_, ?_⟩
  · rw [List.map_append, List.map_cons, List.map_cons, List.map_take, List.map_drop, hXO, hJ, flatP_tk, flatP_drop, flatP_app]
    rfl
  · simp only [List.length_append, List.length_take, List.length_cons, List.length_drop]; omega
  · simp only [List.length_append, List.length_take, List.length_cons, List.length_drop]; omega
  · have h := ins_perm j (Kv, K2v) hPe
    obtain ⟨hlt, hget⟩ := List.getElem?_eq_some_iff.1 hpq
    rw [List.take_succ_eq_append_getElem hlt, hget]
    exact h
  · intro x hx
    rcases List.mem_append.1 hx with h | h
    · exact hXin x (List.mem_of_mem_take h)
    · rcases List.mem_cons.1 h with rfl | h
      · exact hK
      · rcases List.mem_cons.1 h with rfl | h
        · exact hK2
        · exact hXin x (List.mem_of_mem_drop h)
  · rw [hX', ← hn]
    exact row_low hrow hbase

set_option maxRecDepth 20000 in
set_option maxHeartbeats 8000000 in
theorem refMap11 (l : List V) (sl : Value) (m : Nat) (w : World) (hS : Sl w 0 l sl) (hlen : l.length = 2 * m) : Calls Tryz.prog 11 #[sl] w fun e w' => RefMapped l w e w' := by
  obtain ⟨i0, hi, hz0, hz1, hz2⟩ := info_parts info24
  obtain ⟨p, cap, rfl, hc, hcm, h56, hx⟩ := hS
  obtain ⟨w1, hw1⟩ : ∃ w1, w1 = w.alloc (.cells #[.int .i64 0, .int .i64 0, .string ⟨#[]⟩, .slice none 0 0] 24) := ⟨_, rfl⟩
  have hq : w1.heap[w.heap.size]? = some (.cells #[.int .i64 0, .int .i64 0, .string ⟨#[]⟩, .slice none 0 0] 24) := by rw [hw1]; exact blk_new w _
  have hb0 : Below w.heap.size w w1 := by rw [hw1]; exact bel1 w _
  have hsz1 : w1.heap.size = w.heap.size + 1 := by rw [hw1]; simp
  rw [hlen] at hc h56 ⊢
  have hX : ∃ X : List (V × Value), X.map Prod.fst = l ∧ AllIn w 0 X ∧ (m = 0 ∨ ∃ b o, p = some ⟨b, o, none⟩ ∧ At w b o X) := by
    rcases hx with rfl | ⟨b, o, rfl, -, hx1⟩
    · exact ⟨[], rfl, fun x hx => by simp at hx, .inl (by simp at hlen; omega)⟩
    · obtain ⟨X, h1, h2, h3⟩ := ls_entries l o hx1
      exact ⟨X, h1, h2, .inr ⟨b, o, rfl, h3⟩⟩
  obtain ⟨LX, hLX, hLin, hLat⟩ := hX
  have hLl : Hid (LX.length = 2 * m) := by show _ = _; rw [← hLX] at hlen; simpa using hlen
  have hM : Hid (l.length = 2 * m) := hlen
  have hLX' : Hid (LX.map Prod.fst = l) := hLX
  clear hlen hx hLX
  have hI0 : Hid (Put l w w1 0 (.slice none 0 0) w1) := ⟨Below.refl _ _, [], [], rfl, rfl, rfl, List.Pairwise.nil, by simp, (fun x hx => by simp at hx), World.ownsRow_nil _ _ _ _⟩
  go_enter Tryz.func11, Tryz.ntmps11
  go_wp2
  rw [← hw1]
  clear hw1
  go_loopg [4, 5] m (fun c v i wr => ∃ q I : Nat, c + q = m ∧ Hid (I = 2 * q) ∧ i = .int .i64 I ∧ Hid (Put l w w1 q v wr))
  case atStart => exact ⟨0, 0, by omega, rfl, rfl, hI0⟩
  case round =>
    obtain ⟨q, I, hgq, hIq, rfl, hP⟩ := hrel
    obtain ⟨hbr, X, Op, hXO, hXl, hOl, hRi, hPe, hXin, hrow⟩ := hP.out
    obtain ⟨P, capo, rfl, hco, hcmo, hPn, hPs⟩ := row_form hrow hXl
    clear hP hI0
    by_cases hqm : q < m
    · obtain ⟨b, o, rfl, hLat1⟩ := hLat.resolve_left (by omega)
      have hbw : Below w.heap.size w wr := hb0.trans (hbr.mono (by omega))
      have hIl : I < LX.length := by have := hIq.out; have := hLl.out; omega
      have hIl1 : I + 1 < LX.length := by have := hIq.out; have := hLl.out; omega
      obtain ⟨K, hK⟩ : ∃ K, LX[I] = K := ⟨_, rfl⟩
      obtain ⟨K2, hK2⟩ : ∃ K2, LX[I + 1] = K2 := ⟨_, rfl⟩
      have hKin : K.1.In w 0 K.2 := by rw [← hK]; exact hLin _ (List.getElem_mem hIl)
      have hKin2 : K2.1.In w 0 K2.2 := by rw [← hK2]; exact hLin _ (List.getElem_mem hIl1)
      have hpq : Hid ((pairsOf l)[q]? = some (K.1, K2.1)) := by
        show _ = _
        have h1 := hIq.out
        rw [pairsOf_get l q (by rw [hM.out]; omega)]
        subst h1
        have e := hLX'.out
        subst e
        simp only [List.getElem_map, hK, hK2]
      have hat4 := (hLat1.on hbw).four I hIl
      have hat5 := (hLat1.on hbw).four (I + 1) hIl1
      rw [hK] at hat4
      rw [hK2] at hat5
      obtain ⟨pk, nk, ck, ek⟩ := hKin.header
      obtain ⟨pv, nv, cv, ev⟩ := hKin2.header
      obtain ⟨Kv, Kh⟩ := K
      obtain ⟨K2v, K2h⟩ := K2
      simp only at ek ev hKin hKin2 hat4 hat5 hpq
      subst ek ev
      have hlt : (I : Int) < 2 * (m : Int) := by have := hIq.out; omega
      obtain ⟨I1, hI1⟩ : ∃ I1, I1 = I + 1 := ⟨_, rfl⟩
      rw [← hI1] at hat5
      have hlt1 : (I1 : Int) < 2 * (m : Int) := by have := hIq.out; omega
      have wI : IntKind.i64.wrap ((I : Int) + 1) = (I1 : Int) := by rw [IntKind.wrap_i64]; have := hIq.out; omega
      clear hI1
      obtain ⟨N, hN⟩ : ∃ N, N = 2 * q := ⟨_, rfl⟩
      have hN' : Hid (N = 2 * q) := hN
      rw [← hN] at hrow hXl hco hPn
      have hXO' : Hid (X.map Prod.fst = flatP Op) := hXO
      have hXl' : Hid (X.length = N) := hXl
      have hOl' : Hid (Op.length = q) := hOl
      have hgq' : Hid (gk + q = m) := hgq
      have hrow' : Hid (wr.ownsRow w1.heap.size 24 4 (.slice P N capo) N (encL X)) := hrow
      rw [show Value.slice P (2 * q) capo = Value.slice P N capo by rw [hN]]
      clear hN hK hK2 hXO hXl hOl hgq hrow hLat1 hLat
      obtain ⟨wo, hwo⟩ : ∃ wo, wo = wr := ⟨_, rfl⟩
      subst hwo
      obtain ⟨go, hgo⟩ : ∃ go, go = gk := ⟨_, rfl⟩
      subst hgo
      go_wp2
      go_loopg [6] q (fun c k wq => ∃ j J : Nat, c + j = q ∧ Hid (J = 2 * j) ∧ k = .int .i64 J ∧ Hid (∀ i (hi : i < Op.length), i < j → V.cmp Op[i].1 Kv < 0) ∧ Below wo.heap.size wo wq)
      case atStart => exact ⟨0, 0, by omega, rfl, rfl, (fun i hi h => absurd h (Nat.not_lt_zero _)), Below.refl _ _⟩
      case round =>
        obtain ⟨j, J, hgj, hJj, rfl, hlo, hB⟩ := hrel
        obtain ⟨b0, b1, b2, b3⟩ := hat4
        have b0' := b0
        have b1' := b1
        have b2' := b2
        have b3' := b3
        have hKr := (hKin.on hbw).on hB
        by_cases hjq : j < q
        · have hjO : j < Op.length := by rw [hOl'.out]; exact hjq
          have hJX : J < X.length := by have := hJj.out; have := hXl'.out; have := hN'.out; omega
          obtain ⟨g, rfl⟩ : ∃ g, P = some ⟨g, 0, none⟩ := by
            cases P with
            | none => have := hPn rfl; have := hN'.out; omega
            | some a => obtain ⟨g, rfl, -, -⟩ := hPs a rfl; exact ⟨g, rfl⟩
          obtain ⟨hgb, hAto⟩ : w1.heap.size ≤ g ∧ At wo g 0 X := by
            obtain ⟨g2, e, h1, h2⟩ := hPs _ rfl
            cases e
            exact ⟨h1, h2⟩
          have hXJ : X[J].1 = Op[j].1 := by
            have h1 := flatP_get Op j hjO
            rw [← hXO'.out, ← hJj.out, List.getElem?_map, List.getElem?_eq_getElem hJX] at h1
            exact Option.some.inj h1
          obtain ⟨a0, a1, a2, a3⟩ := hAto.four J hJX
          have hYin : X[J].1.In w 0 X[J].2 := hXin _ (List.getElem_mem hJX)
          obtain ⟨py, ny, cy, ey⟩ := hYin.header
          rw [ey] at a3 hYin
          simp only [Nat.zero_add] at a0 a1 a2 a3
          obtain ⟨Y, hY⟩ : ∃ Y, X[J].1 = Y := ⟨_, rfl⟩
          rw [hY] at a0 a1 a2 hYin hXJ
          have c29 := fun w hx hy => refCmp_any Y Kv (.slice py ny cy) (.slice pk nk ck) w hx hy
          have hYr := (hYin.on hbw).on hB
          have hcJ : Hid (V.cmp Op[j].1 Kv = V.cmp Y Kv) := by show _ = _; rw [hXJ]
          unfold V.agg at c29
          clear hY
          generalize V.cmp Y Kv = c at *
          have hJbd : J ≤ 140737488351232 := by have := hJj.out; omega
          have hJN : (J : Int) < (N : Int) := by have := hJj.out; have := hN'.out; omega
          clear ey hXJ hPs hPn
          have A0 := some_on hB a0
          have A1 := some_on hB a1
          have A2 := some_on hB a2
          have A3 := some_on hB a3
          have B0 := some_on hB b0
          have B1 := some_on hB b1
          have B2 := some_on hB b2
          have B3 := some_on hB b3
          go_wp2
          go_region_held3 (fun u => u.cell? ⟨g, J * 4, none⟩ = some (.int .i64 Y.k) ∧ u.cell? ⟨g, J * 4 + 1, none⟩ = some (.int .i64 Y.n) ∧ u.cell? ⟨g, J * 4 + 2, none⟩ = some (.string Y.s) ∧ u.cell? ⟨g, J * 4 + 3, none⟩ = some (.slice py ny cy) ∧
              u.cell? ⟨b, o + I * 4, none⟩ = some (.int .i64 Kv.k) ∧ u.cell? ⟨b, o + I * 4 + 1, none⟩ = some (.int .i64 Kv.n) ∧ u.cell? ⟨b, o + I * 4 + 2, none⟩ = some (.string Kv.s) ∧ u.cell? ⟨b, o + I * 4 + 3, none⟩ = some (.slice pk nk ck))
            (first | exact ⟨A0, A1, A2, A3, B0, B1, B2, B3⟩ | exact ⟨some_on hb3 A0, some_on hb3 A1, some_on hb3 A2, some_on hb3 A3, some_on hb3 B0, some_on hb3 B1, some_on hb3 B2, some_on hb3 B3⟩)
            (first | (go_at_call 29; refine (c29 _ (hYr.on (Below.refl _ _).drew) (hKr.on (Below.refl _ _).drew)).mono ?_; rintro e w3 ⟨rfl, hb3⟩))
          have hb3' := bel_then (Below.refl _ wr).drew hb3
          have hB3 : Below wo.heap.size wo w3 := bel_then hB hb3'
          rename_i hHeld
          by_cases hc0 : c < 0
          · clear hHeld A0 A1 A2 A3 B0 B1 B2 B3 a0 a1 a2 a3 b0 b1 b2 b3 c29
            go_wp2
            go_roundg (gk - 1)
            case rel =>
              refine ⟨j + 1, J + 2, by omega, ?_, by go_num, ?_, hB3⟩
              · show J + 2 = 2 * (j + 1)
                have := hJj.out
                omega
              · intro i hi hij
                by_cases e : i = j
                · subst e; rw [hcJ.out]; exact hc0
                · exact hlo.out i hi (by omega)
            case measure => omega
          · have hc1 : decide (c < 0) = false := decide_eq_false hc0
            have hYr3 := hYr.on hb3'
            have hKr3 := hKr.on hb3'
            clear hYr hKr
            obtain ⟨D0, D1, D2, D3, F0, F1, F2, F3⟩ := hHeld
            clear A0 A1 A2 A3 B0 B1 B2 B3 a0 a1 a2 a3 b0 b1 b2 b3
            go_wp2
            go_region_held3 (fun u => u.cell? ⟨g, J * 4, none⟩ = some (.int .i64 Y.k) ∧ u.cell? ⟨g, J * 4 + 1, none⟩ = some (.int .i64 Y.n) ∧ u.cell? ⟨g, J * 4 + 2, none⟩ = some (.string Y.s) ∧ u.cell? ⟨g, J * 4 + 3, none⟩ = some (.slice py ny cy) ∧
                u.cell? ⟨b, o + I * 4, none⟩ = some (.int .i64 Kv.k) ∧ u.cell? ⟨b, o + I * 4 + 1, none⟩ = some (.int .i64 Kv.n) ∧ u.cell? ⟨b, o + I * 4 + 2, none⟩ = some (.string Kv.s) ∧ u.cell? ⟨b, o + I * 4 + 3, none⟩ = some (.slice pk nk ck))
              (first | exact ⟨D0, D1, D2, D3, F0, F1, F2, F3⟩ | exact ⟨some_on hb4 D0, some_on hb4 D1, some_on hb4 D2, some_on hb4 D3, some_on hb4 F0, some_on hb4 F1, some_on hb4 F2, some_on hb4 F3⟩)
              (first | (go_at_call 29; refine (c29 _ (hYr3.on (Below.refl _ _).drew) (hKr3.on (Below.refl _ _).drew)).mono ?_; rintro e w4 ⟨rfl, hb4⟩))
            have hb4' := bel_then (Below.refl _ w3).drew hb4
            have hB4 : Below wo.heap.size wo w4 := bel_then hB3 hb4'
            rename_i hHeld4
            by_cases hc2 : c = 0
            · have hdup : ¬ Apart (pairsOf l) := put_twice hPe hpq.out j hjO (by rw [hcJ.out]; exact hc2)
              have hbw4 : Below w.heap.size w w4 := bel_then hbw hB4
              obtain ⟨y0, y1, y2, y3, yf⟩ := four_of (blk_on hB4 (blk_on hbr hq))
              clear hHeld4 D0 D1 D2 D3 F0 F1 F2 F3 c29 hcJ
              subst hc2
              go_wp2
              have hfin : Below w.heap.size w (put4 w4 w.heap.size 0 (.int .i64 0) (.int .i64 0) (.string ⟨#[]⟩) (.slice none 0 0)) := hbw4.trans (below_put4 (Nat.le_refl _) _ _ _ _)
              unfold put4 at hfin
              simp [bodyPost, results, Tryz.results11, go_sem, y0, y1, y2, y3]
              exact ⟨hfin, .inr ⟨hdup, rfl⟩⟩
            · have hc3 : (c == 0) = false := by simpa using hc2
              have hhi : Hid (∀ (hj : j < Op.length), 0 < V.cmp Op[j].1 Kv) := fun _ => by rw [hcJ.out]; omega
              have hAt4 : At w4 g 0 X := hAto.on hB4
              have hnR := (hAt4.drop J).news
              simp only [Nat.zero_add] at hnR
              have hoR := AllIn.one (X := X.drop J) (w := w) (lo := 0) (fun x hx => hXin x (List.mem_of_mem_drop hx))
              have hlR : (encL (X.drop J)).length = (N - J) * 4 := by rw [encL_len, List.length_drop, hXl'.out]
              have hposR : 0 < N - J := by omega
              have hJc : J ≤ capo := by omega
              have hNb : N + 2 ≤ 2513169434843 := by have := hN'.out; omega
              have hw4 := hB4.size
              clear hHeld4 D0 D1 D2 D3 F0 F1 F2 F3 c29 hcJ hYr3 hKr3 hb3 hb3' hb4 hb4' hYin
              go_wp2_with (at_builtin; refine wpList_append_lies _ rfl _ _ 22 rfl w4.heap.size 24 i0 zVal 4 56 Tryz.underlying22 hi hz0 hz1 hz2 rfl (by decide) _ _ _ rfl (World.ownsRow_nil _ _ _ _) ⟨g, J * 4, none⟩ (N - J) (capo - J) (encL (X.drop J)) rfl hlR hnR hoR hposR (by unfold maxLen; omega) (by omega) (Nat.le_refl _) _ rfl ?_; intro g5 cap5 w5 hown5 hgrow5 hg5 hlt5; rw [Nat.zero_add, List.nil_append] at hown5)
              have hb5 : Below w4.heap.size w4 w5 := (Below.refl _ _).grown hgrow5 (Nat.le_refl _) (fun k e => by cases e)
              have hB5 : Below wo.heap.size wo w5 := bel_then hB4 hb5
              obtain ⟨c0, c1, c2, c3⟩ := hat5
              have E0 := some_on hB5 b0'
              have E1 := some_on hB5 b1'
              have E2 := some_on hB5 b2'
              have E3 := some_on hB5 b3'
              have G0 := some_on hB5 c0
              have G1 := some_on hB5 c1
              have G2 := some_on hB5 c2
              have G3 := some_on hB5 c3
              have hb6 : Below w5.heap.size w5 (w5.drew.alloc (.cells #[.int .i64 Kv.k, .int .i64 Kv.n, .string Kv.s, .slice pk nk ck, .int .i64 K2v.k, .int .i64 K2v.n, .string K2v.s, .slice pv nv cv] 24)) := bel_then (Below.refl _ w5).drew (bel1 w5.drew _)
              have hAtT := (((hAt4.on hb5).on hb6).take J).news
              have hT : ∀ b', some (⟨g, 0, none⟩ : Addr) = some b' → ∀ j u, (encL (X.take J))[j]? = some u → (w5.drew.alloc (.cells #[.int .i64 Kv.k, .int .i64 Kv.n, .string Kv.s, .slice pk nk ck, .int .i64 K2v.k, .int .i64 K2v.n, .string K2v.s, .slice pv nv cv] 24)).cell? (b'.add j) = some u := fun b' e => by cases e; exact hAtT
              have hlT : (encL (X.take J)).length = J * 4 := by rw [encL_len, List.length_take, hXl'.out]; omega
              have hAtR := (row_at hown5 (by rw [List.length_drop, hXl'.out])).on hb6
              clear hgrow5 hg5 c0 c1 c2 c3 hAt4 hAtT hAto hnR
              go_region_law (first
                | (refine step_append_grows rfl _ _ 22 rfl 24 i0 zVal 4 56 Tryz.underlying22 hi hz0 hz1 hz2 rfl (by decide) (some ⟨g, 0, none⟩) J J (encL (X.take J)) rfl (fun e => by cases e) hlT hT ⟨w5.heap.size, 0, none⟩ 2 2 [.int .i64 Kv.k, .int .i64 Kv.n, .string Kv.s, .slice pk nk ck, .int .i64 K2v.k, .int .i64 K2v.n, .string K2v.s, .slice pv nv cv] rfl rfl (cells_new _ _ _) (by simp [Value.oneCell']) (by omega) (by unfold maxLen; omega) (by omega) ?_; intro v7 w7 hown7 hgrow7; obtain ⟨g7, cap7, rfl⟩ := ownsRow_succ hown7; have hb7 : Below (w5.drew.alloc (.cells #[.int .i64 Kv.k, .int .i64 Kv.n, .string Kv.s, .slice pk nk ck, .int .i64 K2v.k, .int .i64 K2v.n, .string K2v.s, .slice pv nv cv] 24)).heap.size (w5.drew.alloc (.cells #[.int .i64 Kv.k, .int .i64 Kv.n, .string Kv.s, .slice pk nk ck, .int .i64 K2v.k, .int .i64 K2v.n, .string K2v.s, .slice pv nv cv] 24)) w7 := (Below.refl _ _).grown hgrow7 (Nat.le_refl _) (fun k e => by cases e))
                | (refine step_append_lies _ rfl _ _ 22 rfl (w5.drew.alloc (.cells #[.int .i64 Kv.k, .int .i64 Kv.n, .string Kv.s, .slice pk nk ck, .int .i64 K2v.k, .int .i64 K2v.n, .string K2v.s, .slice pv nv cv] 24)).heap.size 24 i0 zVal 4 56 Tryz.underlying22 hi hz0 hz1 hz2 rfl (by decide) (.slice (some ⟨g7, 0, none⟩) (J + 2) cap7) (J + 2) _ rfl hown7 ⟨g5, 0, none⟩ (N - J) cap5 (encL (X.drop J)) rfl hlR ((hAtR.on hb7).news) hoR hposR (by unfold maxLen; omega) (by omega) hb7.size _ rfl ?_; intro g8 cap8 w8 hown8 hgrow8 hg8 hlt8; rw [show J + 2 + (N - J) = N + 2 by omega] at hown8 ⊢))
              all_goals
                have hbw6 := bel_then (bel_then hbr hB5) hb6
                have hbw7 := bel_then hbw6 hb7
                have hg7 : w1.heap.size ≤ g7 := Nat.le_trans hbw6.size (hown7.lt g7 rfl).1
                have hbw8 := hbw7.grown hgrow8 hbw7.size (fun k e => by have e2 : g7 = k := Option.some.inj e; omega)
                have hput : Hid (Put l w w1 (q + 1) (.slice (some ⟨g8, 0, none⟩) (N + 2) cap8) w8) := put_next hbw8 hXO'.out hN'.out hXl'.out hOl'.out hRi hPe hXin hpq.out hKin hKin2 hJj.out (by omega) hlo.out hhi.out (by have := hN'.out; omega) hbw6.size hown8
                clear hown8 hgrow8 hg8 hlt8 hbw6 hbw7 hbw8 hb6 hb7 hown7 hgrow7 hT hlT hAtR E0 E1 E2 E3 G0 G1 G2 G3 b0' b1' b2' b3' hoR hlR hown5 hlo hhi hRi hPe hXin
                have hIb : I ≤ 140737488351232 := by have := hIq.out; omega
                go_wp2
                go_roundg (go - 1)
                case rel =>
                  refine ⟨q + 1, I + 2, by have := hgq'.out; omega, ?_, by go_num, hput⟩
                  show I + 2 = 2 * (q + 1)
                  have := hIq.out
                  omega
                case measure => have := hgq'.out; omega
        · have hjq' : j = q := by omega
          have hJN : J = N := by have := hJj.out; have := hN'.out; omega
          have hhi : Hid (∀ (hj : j < Op.length), 0 < V.cmp Op[j].1 Kv) := fun h => by have := hOl'.out; omega
          have hNb : N + 2 ≤ 2513169434843 := by have := hN'.out; omega
          have hJj' : Hid (N = 2 * j) := by rw [← hJN]; exact hJj
          subst hJN
          clear hJj
          obtain ⟨c0, c1, c2, c3⟩ := hat5
          have E0 := some_on hB b0
          have E1 := some_on hB b1
          have E2 := some_on hB b2
          have E3 := some_on hB b3
          have G0 := some_on hB c0
          have G1 := some_on hB c1
          have G2 := some_on hB c2
          have G3 := some_on hB c3
          clear b0 b1 b2 b3 b0' b1' b2' b3' c0 c1 c2 c3
          have hb6 : Below wr.heap.size wr (wr.drew.drew.drew.alloc (.cells #[.int .i64 Kv.k, .int .i64 Kv.n, .string Kv.s, .slice pk nk ck, .int .i64 K2v.k, .int .i64 K2v.n, .string K2v.s, .slice pv nv cv] 24)) := bel_then (bel_then (bel_then (Below.refl _ wr).drew (Below.refl _ wr.drew).drew) (Below.refl _ wr.drew.drew).drew) (bel1 wr.drew.drew.drew _)
          have hPc : (P = none ∧ J = 0 ∧ capo = 0) ∨ ∃ g, P = some ⟨g, 0, none⟩ ∧ At wo g 0 X := by
            cases P with
            | none => exact .inl ⟨rfl, hPn rfl⟩
            | some a => obtain ⟨g, rfl, -, h⟩ := hPs a rfl; exact .inr ⟨g, rfl, h⟩
          clear hPn hPs hrow' hKr
          rcases hPc with ⟨rfl, rfl, rfl⟩ | ⟨g, rfl, hAto⟩
          · have hT : ∀ b', (none : Option Addr) = some b' → ∀ j u, ([] : List Value)[j]? = some u → (wr.drew.drew.drew.alloc (.cells #[.int .i64 Kv.k, .int .i64 Kv.n, .string Kv.s, .slice pk nk ck, .int .i64 K2v.k, .int .i64 K2v.n, .string K2v.s, .slice pv nv cv] 24)).cell? (b'.add j) = some u := fun b' e => by cases e
            have hlT : ([] : List Value).length = 0 * 4 := rfl
            go_wp2
            go_region
            go_wp2
            go_region
            go_wp2_with (at_builtin; refine wpList_append_zero rfl _ _ 22 rfl 24 i0 Tryz.underlying22 hi none _ 0 0 _ (Nat.le_refl _) rfl rfl ?_)
            all_goals
              go_region_law (first
                | (refine step_append_grows rfl _ _ 22 rfl 24 i0 zVal 4 56 Tryz.underlying22 hi hz0 hz1 hz2 rfl (by decide) none 0 0 [] rfl (fun _ => ⟨rfl, rfl⟩) hlT hT ⟨wr.heap.size, 0, none⟩ 2 2 [.int .i64 Kv.k, .int .i64 Kv.n, .string Kv.s, .slice pk nk ck, .int .i64 K2v.k, .int .i64 K2v.n, .string K2v.s, .slice pv nv cv] rfl rfl (cells_new _ _ _) (by simp [Value.oneCell']) (by omega) (by unfold maxLen; omega) (by omega) ?_; intro v7 w7 hown7 hgrow7; obtain ⟨g7, cap7, rfl⟩ := ownsRow_succ hown7; have hcap7 : 0 + 2 ≤ cap7 := row_cap hown7; have hb7 : Below (wr.drew.drew.drew.alloc (.cells #[.int .i64 Kv.k, .int .i64 Kv.n, .string Kv.s, .slice pk nk ck, .int .i64 K2v.k, .int .i64 K2v.n, .string K2v.s, .slice pv nv cv] 24)).heap.size (wr.drew.drew.drew.alloc (.cells #[.int .i64 Kv.k, .int .i64 Kv.n, .string Kv.s, .slice pk nk ck, .int .i64 K2v.k, .int .i64 K2v.n, .string K2v.s, .slice pv nv cv] 24)) w7 := (Below.refl _ _).grown hgrow7 (Nat.le_refl _) (fun k e => by cases e))
                | (refine step_append_zero rfl _ _ 22 rfl 24 i0 Tryz.underlying22 hi (some ⟨g7, 0, none⟩) none (0 + 2) cap7 0 hcap7 rfl rfl ?_))
            all_goals
              have hbw6 := bel_then (bel_then hbr hB) hb6
              have hbw7 := bel_then hbw6 hb7
              have hput : Hid (Put l w w1 (q + 1) (.slice (some ⟨g7, 0, none⟩) (0 + 2) cap7) w7) := put_next (J := 0) (n := 0 + 2) hbw7 hXO'.out hN'.out hXl'.out hOl'.out hRi hPe hXin hpq.out hKin hKin2 hJj'.out (by omega) hlo.out hhi.out (by have := hN'.out; omega) hbw6.size (by rw [List.drop_of_length_le (by rw [hXl'.out]; exact Nat.le_refl _), show encL [] = [] from rfl, List.append_nil]; exact hown7)
              clear hbw6 hbw7 hb6 hb7 hown7 hgrow7 hT hlT E0 E1 E2 E3 G0 G1 G2 G3 hlo hhi hRi hPe hXin
              have hIb : I ≤ 140737488351232 := by have := hIq.out; omega
              go_wp2
              go_roundg (go - 1)
              case rel =>
                refine ⟨q + 1, I + 2, by have := hgq'.out; omega, ?_, by go_num, hput⟩
                show I + 2 = 2 * (q + 1)
                have := hIq.out
                omega
              case measure => have := hgq'.out; omega
          · have hAtT := (((hAto.on hB).on hb6).take J).news
            have hT : ∀ b', some (⟨g, 0, none⟩ : Addr) = some b' → ∀ j u, (encL (X.take J))[j]? = some u → (wr.drew.drew.drew.alloc (.cells #[.int .i64 Kv.k, .int .i64 Kv.n, .string Kv.s, .slice pk nk ck, .int .i64 K2v.k, .int .i64 K2v.n, .string K2v.s, .slice pv nv cv] 24)).cell? (b'.add j) = some u := fun b' e => by cases e; exact hAtT
            have hlT : (encL (X.take J)).length = J * 4 := by rw [encL_len, List.length_take, hXl'.out]; omega
            clear hAtT hAto
            go_wp2
            go_region
            go_wp2
            go_region
            go_wp2_with (at_builtin; refine wpList_append_zero rfl _ _ 22 rfl 24 i0 Tryz.underlying22 hi none _ 0 0 _ (Nat.le_refl _) rfl rfl ?_)
            all_goals
              go_region_law (first
                | (refine step_append_grows rfl _ _ 22 rfl 24 i0 zVal 4 56 Tryz.underlying22 hi hz0 hz1 hz2 rfl (by decide) (some ⟨g, 0, none⟩) J J (encL (X.take J)) rfl (fun e => by cases e) hlT hT ⟨wr.heap.size, 0, none⟩ 2 2 [.int .i64 Kv.k, .int .i64 Kv.n, .string Kv.s, .slice pk nk ck, .int .i64 K2v.k, .int .i64 K2v.n, .string K2v.s, .slice pv nv cv] rfl rfl (cells_new _ _ _) (by simp [Value.oneCell']) (by omega) (by unfold maxLen; omega) (by omega) ?_; intro v7 w7 hown7 hgrow7; obtain ⟨g7, cap7, rfl⟩ := ownsRow_succ hown7; have hcap7 : J + 2 ≤ cap7 := row_cap hown7; have hb7 : Below (wr.drew.drew.drew.alloc (.cells #[.int .i64 Kv.k, .int .i64 Kv.n, .string Kv.s, .slice pk nk ck, .int .i64 K2v.k, .int .i64 K2v.n, .string K2v.s, .slice pv nv cv] 24)).heap.size (wr.drew.drew.drew.alloc (.cells #[.int .i64 Kv.k, .int .i64 Kv.n, .string Kv.s, .slice pk nk ck, .int .i64 K2v.k, .int .i64 K2v.n, .string K2v.s, .slice pv nv cv] 24)) w7 := (Below.refl _ _).grown hgrow7 (Nat.le_refl _) (fun k e => by cases e))
                | (refine step_append_zero rfl _ _ 22 rfl 24 i0 Tryz.underlying22 hi (some ⟨g7, 0, none⟩) none (J + 2) cap7 0 hcap7 rfl rfl ?_))
            all_goals
              have hbw6 := bel_then (bel_then hbr hB) hb6
              have hbw7 := bel_then hbw6 hb7
              have hput : Hid (Put l w w1 (q + 1) (.slice (some ⟨g7, 0, none⟩) (J + 2) cap7) w7) := put_next (J := J) (n := J + 2) hbw7 hXO'.out hN'.out hXl'.out hOl'.out hRi hPe hXin hpq.out hKin hKin2 hJj'.out (by omega) hlo.out hhi.out (by have := hN'.out; omega) hbw6.size (by rw [List.drop_of_length_le (by rw [hXl'.out]; exact Nat.le_refl _), show encL [] = [] from rfl, List.append_nil]; exact hown7)
              clear hbw6 hbw7 hb6 hb7 hown7 hgrow7 hT hlT E0 E1 E2 E3 G0 G1 G2 G3 hlo hhi hRi hPe hXin
              have hIb : I ≤ 140737488351232 := by have := hIq.out; omega
              go_wp2
              go_roundg (go - 1)
              case rel =>
                refine ⟨q + 1, I + 2, by have := hgq'.out; omega, ?_, by go_num, hput⟩
                show I + 2 = 2 * (q + 1)
                have := hIq.out
                omega
              case measure => have := hgq'.out; omega
    · obtain rfl : q = m := by omega
      have hPe' : Op.Perm (pairsOf l) := by
        rw [List.take_of_length_le (by rw [pairsOf_len, hM.out]; omega)] at hPe
        exact hPe
      have hbw : Below w.heap.size w wr := hb0.trans (hbr.mono (by omega))
      have hSl : ∀ (W : World), Below w.heap.size w W → W.ownsRow w1.heap.size 24 4 (.slice P (2 * q) capo) (2 * q) (encL X) → Sl W 0 (flatP Op) (.slice P (2 * q) capo) := fun W hb hr => by
        have := row_sl hr hXl (hXin.on hb) h56
        rw [hXO] at this; exact this
      have key : ∀ (e : Ending) (w' : World) (mb : Bool), mb = V.may (V.mk 5 0 ⟨#[]⟩ (flatP Op)) 1 → Below w.heap.size w w' → (mb = true → ∃ sl, e = .returned (.tuple #[.agg #[.int .i64 5, .int .i64 0, .string ⟨#[]⟩, sl], .int .i64 0]) ∧ Sl w' 0 (flatP Op) sl) → (mb = false → e = .returned (.tuple #[.agg #[.int .i64 0, .int .i64 0, .string ⟨#[]⟩, .slice none 0 0], .int .i64 20])) → RefMapped l w e w' := fun e w' mb hm h1 h2 h3 => by
        subst hm
        exact ⟨h1, .inl ⟨Op, hRi, hPe', fun h => let ⟨sl, h4, h5⟩ := h2 h; ⟨sl, h4, mapV_in h5⟩, h3⟩⟩
      have c43 := made43 (V.mk 5 0 ⟨#[]⟩ (flatP Op)) (.slice P (2 * q) capo) wr (mapV_in (hSl wr hbw hrow))
      obtain ⟨mb, hmb⟩ : ∃ mb, V.may (V.mk 5 0 ⟨#[]⟩ (flatP Op)) 1 = mb := ⟨_, rfl⟩
      have hm : Hid (mb = V.may (V.mk 5 0 ⟨#[]⟩ (flatP Op)) 1) := hmb.symm
      unfold MadeR V.agg zeroAgg at c43
      rw [hmb] at c43
      simp only [V.k, V.n, V.s] at c43
      have hIq' := hIq.out
      have hni : ¬ ((I : Int) < 2 * (q : Int)) := by omega
      have hq4 := blk_on hbr hq
      clear hmb hIq' hPe hPe' hXO hXl hOl hRi hXin hLat hPn hPs
      rw [hsz1] at hrow
      cases mb
      · go_wp2_with (go_at_call 43; refine c43.mono ?_; rintro e w5 ⟨hb5, -, hF5⟩; obtain rfl := hF5 rfl; obtain ⟨y0, y1, y2, y3, yf⟩ := four_of (blk_on hb5 hq4))
        have hfin : Below w.heap.size w (put4 w5 w.heap.size 0 (.int .i64 0) (.int .i64 0) (.string ⟨#[]⟩) (.slice none 0 0)) := (bel_then hbw hb5).trans (below_put4 (Nat.le_refl _) _ _ _ _)
        unfold put4 at hfin
        simp [bodyPost, results, Tryz.results11, go_sem, y0, y1, y2, y3]
        exact key _ _ _ hm.out hfin (fun h => by cases h) (fun _ => rfl)
      · go_wp2_with (go_at_call 43; refine c43.mono ?_; rintro e w5 ⟨hb5, hT5, -⟩; obtain rfl := hT5 rfl; obtain ⟨y0, y1, y2, y3, yf⟩ := four_of (blk_on hb5 hq4))
        have hfin : Below w.heap.size w (put4 w5 w.heap.size 0 (.int .i64 5) (.int .i64 0) (.string ⟨#[]⟩) (.slice P (2 * q) capo)) := (bel_then hbw hb5).trans (below_put4 (Nat.le_refl _) _ _ _ _)
        have hrow9 := hSl _ hfin (by rw [hsz1]; exact row_put4 (row_on hrow hb5) 0 _ _ _ _)
        unfold put4 at hfin hrow9
        simp [bodyPost, results, Tryz.results11, go_sem, y0, y1, y2, y3]
        exact key _ _ _ hm.out hfin (fun _ => ⟨_, rfl, hrow9⟩) (fun h => by cases h)
end Go.Proofs.YtbicodlclmdgaaaGreatDoor
