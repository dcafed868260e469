/-
  The reader of package value, open or not, and whatever is wrong: maps.
-/
import Derived.Test.YtbicodlclmdgaaaGreatDoorRoJ
import Derived.Deep.RegionHeld2
namespace Go.Proofs.YtbicodlclmdgaaaGreatDoor
open Go.RowKit
set_option linter.unusedVariables false      -- a walk need not use every condition

theorem pair_spec {pe : List UInt8 → Option (V × List UInt8)} {s : List UInt8} : pPair pe s = (pe s).bind fun x => (strip [58, 32] x.2).bind fun s2 => (pe s2).map fun y => ((x.1, y.1), y.2) := by
  unfold pPair
  cases pe s with
  | none => rfl
  | some x =>
    obtain ⟨a, s1⟩ := x
    simp only [Option.bind_some]
    cases strip [58, 32] s1 with
    | none => rfl
    | some s2 =>
      simp only [Option.bind_some]
      cases pe s2 <;> rfl
def pairsAfter (pe : List UInt8 → Option (V × List UInt8)) (f : Nat) (s : List UInt8) : Option (List V × List UInt8) := (pPair pe s).bind fun x => (pPairs pe f true x.2).map fun y => (x.1.1 :: x.1.2 :: y.1, y.2)
theorem pairs_next (pe : List UInt8 → Option (V × List UInt8)) (f : Nat) (more : Bool) (s : List UInt8) : pPairs pe (f + 1) more s = (pNext 125 more s).bind fun x => if x.1 then some ([], x.2) else pairsAfter pe f x.2 := by
  simp only [pPairs, pairsAfter]
  cases pNext 125 more s with
  | none => rfl
  | some x =>
    obtain ⟨b, s1⟩ := x
    cases b with
    | true => rfl
    | false =>
      simp only [Option.bind_some, Bool.false_eq_true, if_false]
      cases pPair pe s1 with
      | none => rfl
      | some y =>
        obtain ⟨⟨v, u⟩, s2⟩ := y
        simp only [Option.bind_some]
        cases pPairs pe f true s2 <;> rfl
/-- What is read behind what has been. -/
def pGo (pe : List UInt8 → Option (V × List UInt8)) (T : ByteArray) (o : Bool) (S : Option (List V × List UInt8)) (how q f : Nat) (acc : List V) : Prop :=
  o = false → (rest T q).length ≤ f ∧ S = (if how = 1 then some ([], rest T q) else pairsAfter pe f (rest T q)).map fun z => (acc ++ z.1, z.2)
theorem pGo.start {pe : List UInt8 → Option (V × List UInt8)} {T : ByteArray} {o : Bool} {p p1 how q : Nat} (h1 : o = false → rest T (p + 1) = rest T p1) (h2 : o = false → pNext 125 false (rest T p1) = some (decide (how = 1), rest T q)) (hq : p < q) :
    pGo pe T o (pPairs pe ((rest T (p + 1)).length + 1) false (rest T (p + 1))) how q (rest T (p + 1)).length [] := fun ho => by
  refine ⟨by rw [rest_len, rest_len]; omega, ?_⟩
  rw [pairs_next, h1 ho, h2 ho]
  simp only [Option.bind_some]
  by_cases h : how = 1
  · simp [h]
  · simp only [h, decide_false, Bool.false_eq_true, if_false, ← h1 ho]
    cases pairsAfter pe (rest T (p + 1)).length (rest T q) <;> simp
theorem pGo.step {pe : List UInt8 → Option (V × List UInt8)} {T : ByteArray} {o : Bool} {S : Option (List V × List UInt8)} {q q1 q2 f how' : Nat} {acc : List V} {x y : V} (h : pGo pe T o S 0 q f acc) (h1 : o = false → pPair pe (rest T q) = some ((x, y), rest T q1))
    (h2 : o = false → pNext 125 true (rest T q1) = some (decide (how' = 1), rest T q2)) (hlt : o = false → q < T.size) (hq1 : q < T.size → q < q1) (hq2 : q1 ≤ q2) : pGo pe T o S how' q2 (f - 1) (acc ++ [x, y]) := fun ho => by
  obtain ⟨hf, hS⟩ := h ho
  have := hlt ho
  have := hq1 this
  rw [rest_len] at hf
  obtain ⟨f', rfl⟩ : ∃ f', f = f' + 1 := ⟨f - 1, by omega⟩
  refine ⟨by rw [rest_len]; omega, ?_⟩
  rw [hS, if_neg (by decide)]
  unfold pairsAfter
  rw [h1 ho]
  simp only [Option.bind_some]
  rw [pairs_next, h2 ho]
  simp only [Option.bind_some, Nat.add_sub_cancel]
  by_cases h : how' = 1
  · simp [h]
  · simp only [h, decide_false, Bool.false_eq_true, if_false]
    unfold pairsAfter
    cases (pPair pe (rest T q2)).bind fun x => (pPairs pe f' true x.2).map fun y => (x.1.1 :: x.1.2 :: y.1, y.2) <;> simp
theorem pGo.none1 {pe : List UInt8 → Option (V × List UInt8)} {T : ByteArray} {o : Bool} {S : Option (List V × List UInt8)} {q f : Nat} {acc : List V} (h : pGo pe T o S 0 q f acc) (h1 : o = false → pPair pe (rest T q) = none) : o = false → S = none := fun ho => by
  rw [(h ho).2, if_neg (by decide)]
  unfold pairsAfter
  rw [h1 ho]; rfl
theorem pGo.none2 {pe : List UInt8 → Option (V × List UInt8)} {T : ByteArray} {o : Bool} {S : Option (List V × List UInt8)} {q q1 f : Nat} {acc : List V} {x y : V} (h : pGo pe T o S 0 q f acc) (h1 : o = false → pPair pe (rest T q) = some ((x, y), rest T q1))
    (h2 : o = false → pNext 125 true (rest T q1) = none) (hlt : o = false → q < T.size) : o = false → S = none := fun ho => by
  obtain ⟨hf, hS⟩ := h ho
  have := hlt ho
  rw [rest_len] at hf
  obtain ⟨f', rfl⟩ : ∃ f', f = f' + 1 := ⟨f - 1, by omega⟩
  rw [hS, if_neg (by decide)]
  unfold pairsAfter
  rw [h1 ho]
  simp only [Option.bind_some]
  rw [pairs_next, h2 ho]; rfl
theorem pGo.done {pe : List UInt8 → Option (V × List UInt8)} {T : ByteArray} {o : Bool} {S : Option (List V × List UInt8)} {q f : Nat} {acc : List V} (h : pGo pe T o S 1 q f acc) : o = false → S = some (acc, rest T q) := fun ho => by
  rw [(h ho).2, if_pos rfl]; simp
theorem enc_two {w : World} {P : Nat → Prop} {v u : V} {sl sm : Value} (h : v.InP w P sl) (h' : u.InP w P sm) : EncP w P [v, u] [.int .i64 v.k, .int .i64 v.n, .string v.s, sl, .int .i64 u.k, .int .i64 u.n, .string u.s, sm] := ⟨rfl, rfl, rfl, h, rfl, rfl, rfl, h', trivial⟩

set_option maxHeartbeats 4000000 in
set_option maxRecDepth 20000 in
theorem pairs101o (T : ByteArray) (n d : Nat) (hd : d + n = 8) (hv : RV T n (d + 1)) (hT : T.size ≤ 1073741824) (w : World) (r p : Nat) (o : Bool) (k : Nat) (h : Ro w r T p o k) (hlt : p < T.size) (hq : T[p] = 123) (hk : k + n ≤ 99) :
    Calls Tryz.prog 101 #[.pointer (some ⟨r, 0, none⟩), .int .i64 d] w
      (Comes r T o w ((pPairs (pVal n) ((rest T (p + 1)).length + 1) false (rest T (p + 1))).map fun x => (V.mk 5 0 ⟨#[]⟩ x.1, x.2)) (Vl r T p o k w)) := by
  have hT' : T.size ≤ 140737488000000 := by omega
  have hTm : T.size ≤ maxLen := by unfold maxLen; omega
  have hrl := h.lt
  obtain ⟨w1, hw1⟩ : ∃ w1, w1 = w.alloc (.cells #[.int .i64 0, .int .i64 0, .string ⟨#[]⟩, .slice none 0 0] 24) := ⟨_, rfl⟩
  have hblk : w1.heap[w.heap.size]? = some (.cells #[.int .i64 0, .int .i64 0, .string ⟨#[]⟩, .slice none 0 0] 24) := by rw [hw1]; exact blk_new w _
  have hsz1 : w1.heap.size = w.heap.size + 1 := by rw [hw1]; simp
  have hR1 : Ro w1 r T p o k := by rw [hw1]; exact h.alloc _
  have hgw : w.grownBy w1 (some r) := by rw [hw1]; exact World.grownBy_alloc w _ (some r)
  have c99 := word99o w1 r T ⟨#[123]⟩ p o k hR1 (by omega) hTm
  have hst : strip [123] (rest T p) = some (rest T (p + 1)) := by rw [rest_cons hlt, hq]; rfl
  rw [hst] at c99
  obtain ⟨S, hS⟩ : ∃ S, Hid (S = pPairs (pVal n) ((rest T (p + 1)).length + 1) false (rest T (p + 1))) := ⟨_, rfl⟩
  rw [← hS.out]
  have c117 := fun w q h hq => next117o w r T q o k h hq 125 false hT'
  clear hq hst
  go_enter Tryz.func101, Tryz.ntmps101
  go_wp2_with (first
    | (go_at_call 99; rw [← hw1]; refine c99.mono ?_; rintro e w2 (⟨u2, p2, hp2, ⟨rfl, hle2, hlt2, h2⟩, hs2⟩ | ⟨⟨q2, hq2, rfl, hg⟩, hs2⟩))
    | (go_at_call 117; refine (c117 _ p2 h2.2 hp2).mono ?_; rintro e w3 (⟨how3, p3, hle3, hp3, rfl, h3, hs3⟩ | ⟨⟨q2, hq2, rfl, hg⟩, hs3⟩)))
  rotate_left
  · refine ⟨rfl, .inr ⟨⟨q2, hq2, rfl, hgw.trans (h2.1.trans hg)⟩, fun ho => ?_⟩⟩
    have e := hs2.out ho
    simp only [Option.map_some, Option.some.injEq, Prod.mk.injEq, true_and] at e
    rw [hS.out, pairs_next, e, hs3.out ho]; rfl
  · exact ⟨rfl, .inr ⟨⟨q2, hq2, rfl, hgw.trans hg⟩, fun ho => by cases hs2.out ho⟩⟩
  have hpp2 : p < p2 := hlt2 (by decide) hlt
  have hgo : Hid (pGo (pVal n) T o S how3 p3 (rest T (p + 1)).length []) := by
    show pGo _ _ _ _ _ _ _ _
    rw [hS.out]
    exact pGo.start (fun ho => by have e := hs2.out ho; simpa using e) (fun ho => hs3.out.2.2.2 ho) (by omega)
  have hR3 := h2.trans h3
  have hpp3 : p < p3 := by omega
  have hs3' : Hid ((how3 = 0 ∨ how3 = 1 ∨ how3 = 2) ∧ (how3 = 2 → o = true)) := ⟨hs3.out.1, hs3.out.2.1⟩
  obtain ⟨i0, hi, hz0, hz1, hz2⟩ := info_parts info24
  clear c99 hs2 hlt2 c117 hs3
  have c117 := fun w q h hq => next117o w r T q o k h hq 125 true hT'
  have c99 := fun w q h hq => word99o w r T ⟨#[58, 32]⟩ q o k h hq hTm
  have c118 := fun w q h hq => key118o T n (d + 1) hv w r q o k h hq hk
  have c79 := fun w q h hq => hv w r q o k h hq (by omega)
  have hdd : IntKind.i64.wrap ((d : Int) + 1) = ((d + 1 : Nat) : Int) := by rw [IntKind.wrap_i64]; omega
  go_loopg [5, 6] (left T p3 how3) (fun c v how wr => ∃ (hw q f : Nat) (acc : List V), how = .int .i64 hw ∧ Hid (c = left T q hw) ∧ Hid (q ≤ T.size ∧ p < q ∧ acc.length ≤ 2 * q + 2 ∧ (hw ≠ 2 → acc.length ≤ 2 * q) ∧ (hw = 0 ∨ hw = 1 ∨ hw = 2) ∧ (hw = 2 → o = true) ∧ acc.length % 2 = 0) ∧ Hid (RowV wr w1.heap.size v acc) ∧ Hid (Rq r T q o k w1 wr) ∧ Hid (pGo (pVal n) T o S hw q f acc))
  case atStart => exact ⟨how3, p3, _, [], rfl, rfl, ⟨hp3, hpp3, Nat.zero_le _, fun _ => Nat.zero_le _, hs3'.out.1, hs3'.out.2, rfl⟩, rowV_nil _ _, hR3, hgo⟩
  case round =>
    clear hgo hs3' hpp3 hR3
    obtain ⟨hw, q, f, acc, rfl, hc, hb3, hB, hR, hG⟩ := hrel
    have hr1 : r < w1.heap.size := by omega
    by_cases h0 : hw = 0
    · subst h0
      have hql := hb3.out
      obtain ⟨xs, hO, hE⟩ := hB.out
      have hal : acc.length ≤ 2147483650 := by omega
      have hsR := hR.out.1.size
      have c118' := c118 wr q hR.out.2 hql.1
      unfold Vl V.agg at c118'
      unfold Vl V.agg at c79
      clear hB
      go_wp2_with (first
        | (go_at_call 118; refine c118'.mono ?_; rintro e w4 (⟨x4, p4, hp4, ⟨s4, rfl, hin4, hle4, hlt4, h4⟩, hs4⟩ | ⟨⟨q2, hq2, rfl, hg⟩, hs4⟩); (try (obtain ⟨pp4, n4, q4, rfl⟩ := hin4.header; have hrl4 := h4.2.lt; have hs4' := h4.1.size)))
        | (go_at_call 99; refine (c99 _ p4 (h4.2.alloc _) hp4).mono ?_; rintro e w5 (⟨u5', p5, hp5, ⟨rfl, hle5, hlt5, h5⟩, hs5⟩ | ⟨⟨q2, hq2, rfl, hg⟩, hs5⟩)))
      rotate_left
      · refine ⟨rfl, .inr ⟨⟨q2, hq2, rfl, hgw.trans (((hR.out.trans h4).1.trans (World.grownBy_alloc w4 _ (some r))).trans hg)⟩, fun ho => ?_⟩⟩
        rw [hG.out.none1 (fun ho => by rw [pair_spec, hs4.out ho]; simp only [Option.bind_some]; rw [map_none (hs5.out ho)]; rfl) ho]; rfl
      · refine ⟨rfl, .inr ⟨⟨q2, hq2, rfl, hgw.trans (hR.out.1.trans hg)⟩, fun ho => ?_⟩⟩
        rw [hG.out.none1 (fun ho => by rw [pair_spec, hs4.out ho]; rfl) ho]; rfl
      have hq5 := (h5.1.block w4.heap.size (by simp) (by intro e; injection e with e; omega)).trans (blk_new w4 _)
      obtain ⟨x0, x1, x2, x3, -⟩ := four_of hq5
      have hs5' := h5.1.size
      rw [World.size_alloc] at hs5'
      have hne : some w4.heap.size ≠ u5.ownBlock := fun e => by have := (World.ownsRow.lt hO _ e.symm).2; omega
      have c79' := c79 _ p5 h5.dr.2 hp5
      clear c118' c99
      go_region_held2 (fun w' => w'.cell? ⟨w4.heap.size, 0, none⟩ = some (.int .i64 x4.k) ∧ w'.cell? ⟨w4.heap.size, 1, none⟩ = some (.int .i64 x4.n) ∧ w'.cell? ⟨w4.heap.size, 2, none⟩ = some (.string x4.s) ∧ w'.cell? ⟨w4.heap.size, 3, none⟩ = some (.slice pp4 n4 q4))
        (first | exact ⟨x0, x1, x2, x3⟩ | exact ⟨z0, z1, z2, z3⟩ | exact ⟨some_on (bel1 _ _) z0, some_on (bel1 _ _) z1, some_on (bel1 _ _) z2, some_on (bel1 _ _) z3⟩ | exact ⟨hgrow.cell (some_on (bel1 _ _) z0) hne, hgrow.cell (some_on (bel1 _ _) z1) hne, hgrow.cell (some_on (bel1 _ _) z2) hne, hgrow.cell (some_on (bel1 _ _) z3) hne⟩)
        (first
          | (go_at_call 79; refine c79'.mono ?_; rintro e w6 (⟨x6, p6, hp6, ⟨s6, rfl, hin6, hle6, hlt6, h6⟩, hs6⟩ | ⟨⟨q2, hq2, rfl, hg⟩, hs6⟩); rotate_left; (focus (go_wp2; exact ⟨rfl, .inr ⟨⟨q2, hq2, rfl, hgw.trans (((((hR.out.trans h4).1.trans (World.grownBy_alloc w4 _ (some r))).trans h5.dr.1)).trans hg)⟩, fun ho => by rw [hG.out.none1 (fun ho => by rw [pair_spec, hs4.out ho]; simp only [Option.bind_some]; rw [map_some (hs5.out ho)]; simp only [Option.bind_some]; rw [hs6.out ho]; rfl) ho]; rfl⟩⟩)); go_must (obtain ⟨pp6, n6, q6, rfl⟩ := hin6.header); go_must (have hq6 := (h6.1.block w4.heap.size (by show w4.heap.size < w5.heap.size; omega) (by intro e; injection e with e; omega)).trans hq5); go_must (obtain ⟨z0, z1, z2, z3, -⟩ := four_of hq6); go_must (have hs6' := h6.1.size); go_must (have hGr : wr.grownBy w6 (some r) := (((h4.1.trans (World.grownBy_alloc w4 _ (some r))).trans h5.dr.1).trans h6.1)); go_must (have hO6 := own_kept hO hGr (by omega)))
          | (refine step_append_lies _ rfl _ _ 22 rfl w1.heap.size 24 i0 zVal 4 56 Tryz.underlying22 hi hz0 hz1 hz2 rfl (by decide) u5 acc.length xs rfl (hO6.alloc _) ⟨w6.heap.size, 0, none⟩ 2 2 [.int .i64 x4.k, .int .i64 x4.n, .string x4.s, .slice pp4 n4 q4, .int .i64 x6.k, .int .i64 x6.n, .string x6.s, .slice pp6 n6 q6] rfl rfl (cells_new _ _ _) (by simp [Value.oneCell']) (by decide) (by unfold maxLen; omega) (by omega) (by have := hGr.size; simp; omega) _ rfl ?_; intro g cap w7 hown hgrow hat hlt7))
      have hG46 : w4.grownBy w6 (some r) := ((World.grownBy_alloc w4 _ (some r)).trans h5.dr.1).trans h6.1
      have hE6 : EncP w6 (Off w1.heap.size u5) acc xs := hE.keep (fun a u ha hc => hGr.cell hc (by intro e; injection e with e; have := ha.1; omega)) (fun b hb _ => hb)
      have hx4 : x4.InP w6 (Off w1.heap.size u5) (.slice pp4 n4 q4) := V.InP.keep (fun a u ha hc => hG46.cell hc (by intro e; injection e with e; have := ha.1; omega)) (fun b hb _ => hb) _ _ (in_off hO (Nat.le_refl _) hsR hin4)
      have hx6 : x6.InP w6 (Off w1.heap.size u5) (.slice pp6 n6 q6) := in_off hO (by show wr.heap.size ≤ w5.heap.size; omega) hsR hin6
      have hE7 := hE6.keep (w' := w6.alloc (.cells #[.int .i64 x4.k, .int .i64 x4.n, .string x4.s, .slice pp4 n4 q4, .int .i64 x6.k, .int .i64 x6.n, .string x6.s, .slice pp6 n6 q6] 24)) (Q := Off w1.heap.size u5) (fun a u _ hc => some_on (bel1 w6 _) hc) (fun b hb _ => hb)
      have hx7 := (enc_two hx4 hx6).keep (w' := w6.alloc (.cells #[.int .i64 x4.k, .int .i64 x4.n, .string x4.s, .slice pp4 n4 q4, .int .i64 x6.k, .int .i64 x6.n, .string x6.s, .slice pp6 n6 q6] 24)) (Q := Off w1.heap.size u5) (fun a u _ hc => some_on (bel1 w6 _) hc) (fun b hb _ => hb)
      have hRow7 : RowV w7 w1.heap.size (.slice (some ⟨g, 0, none⟩) (acc.length + 2) cap) (acc ++ [x4, x6]) := RowV.push (v := u5) hE7 hx7 hown (by simp) hgrow hat
      have hR7 : Rq r T p6 o k w1 w7 := ((hR.out.trans ⟨hGr, h6.2⟩).far (World.grownBy_alloc w6 _ none) (by omega) (fun _ e => by cases e)).far hgrow (by omega) fun i e => (World.ownsRow.lt hO i e).1
      have hpr : Hid (o = false → pPair (pVal n) (rest T q) = some ((x4, x6), rest T p6)) := fun ho => by
        rw [pair_spec, hs4.out ho]; simp only [Option.bind_some]; rw [map_some (hs5.out ho)]; simp only [Option.bind_some]; rw [hs6.out ho]; rfl
      have hqp6 : q < T.size → q < p6 := fun h => by have := hlt4 h; omega
      have hqp6' : q ≤ p6 := by omega
      have hlq : Hid (o = false → q < T.size) := fun ho => val_lt (hs4.out ho)
      have c117' := c117 _ p6 hR7.2 hp6
      clear hgrow hown hat hE hE6 hE7 hx4 hx6 hx7 hO hO6 c79 c79' hs4 hs5 hs6 hG46 hGr z0 z1 z2 z3 hq5 hq6 x0 x1 x2 x3 hin4 hin6
      go_wp2_with (go_at_call 117; refine c117'.mono ?_; rintro e w8 (⟨how8, p8, hle8, hp8, rfl, h8, hs8⟩ | ⟨⟨q2, hq2, rfl, hg⟩, hs8⟩))
      case inr =>
        refine ⟨rfl, .inr ⟨⟨q2, hq2, rfl, hgw.trans (hR7.1.trans hg)⟩, fun ho => ?_⟩⟩
        rw [hG.out.none2 hpr.out hs8.out hlq.out ho]; rfl
      go_roundg (left T p8 how8)
      case rel =>
        refine ⟨how8, p8, f - 1, acc ++ [x4, x6], rfl, rfl, ⟨hp8, by omega, ?_, ?_, hs8.out.1, hs8.out.2.1, by have := hql.2.2.2.2.2.2; simp; omega⟩, hRow7.kept h8.1 (by omega), hR7.trans h8, hG.out.step hpr.out hs8.out.2.2.2 hlq.out hqp6 hle8⟩
        · have h1 := hql.2.2.2.1 (by decide)
          simp; omega
        · intro h2
          have h1 := hql.2.2.2.1 (by decide)
          have h3 : p6 < T.size := by
            rcases Nat.lt_or_ge p6 T.size with h | h
            · exact h
            · exact absurd (hs8.out.2.2.1 (by omega)) h2
          have h4 := hqp6 (by omega)
          simp; omega
      case measure =>
        have := left_lt hqp6 hqp6' hle8 hp6 hs8.out.2.2.1
        have h9 : gk = left T q 0 := hc.out
        omega
    · have hql := hb3.out
      have hw0 : ((hw : Int) == 0) = false := by simp; omega
      have hspec : Hid (o = false → S = some (acc, rest T q)) := by
        intro ho
        have h1 : hw = 1 := by
          rcases hql.2.2.2.2.1 with h | h | h
          · exact absurd h h0
          · exact h
          · have := hql.2.2.2.2.2.1 h
            rw [this] at ho; cases ho
        have hG' := hG.out
        rw [h1] at hG'
        exact hG'.done ho
      have hfill : Hid (hw = 2 → o = true) := hql.2.2.2.2.2.1
      have hal : acc.length ≤ 2147483650 := by omega
      have hpq : p < q := hql.2.1
      have hqT : q ≤ T.size := hql.1
      have hev : acc.length % 2 = 0 := hql.2.2.2.2.2.2
      obtain ⟨pv, cv, rfl, hcv1, hcv2⟩ := hB.out.len
      clear hG hc hb3 hql h0 c79 c117 c118 c99 hdd
      rcases (show hw ≠ 2 ∨ (hw = 2 ∧ ¬ d < 8) ∨ (hw = 2 ∧ d < 8) by omega) with g1 | ⟨g1, g2⟩ | ⟨g1, g2⟩
      · have i1 : ((hw : Int) == 2) = false := by simp; omega
        clear g1
        have hIn := hB.out.val 5 (by unfold I64; omega) (by omega)
        obtain ⟨y0, y1, y2, y3, yf⟩ := four_of ((hR.out.1.block w.heap.size (by omega) (by intro e; injection e with e; omega)).trans hblk)
        have hsR := hR.out.1.size
        have hR4 := hR.out
        rw [hw1] at hR4
        have hfin := hR4.low.put hrl (Nat.le_refl _) 0 (.int .i64 5) (.int .i64 0) (.string ⟨#[]⟩) (.slice pv acc.length cv)
        have hin9 : (V.mk 5 0 ⟨#[]⟩ acc).In (put4 wr w.heap.size 0 (.int .i64 5) (.int .i64 0) (.string ⟨#[]⟩) (.slice pv acc.length cv)) w.heap.size (.slice pv acc.length cv) :=
          V.In.keep (lo := w1.heap.size) (fun a v ha hc => set_other (set_other (set_other (set_other hc (.inl (by omega))) (.inl (by omega))) (.inl (by omega))) (.inl (by omega))) (by omega) _ _ hIn
        unfold put4 at hfin hin9
        clear hIn hB
        go_wp2
        simp [bodyPost, results, Tryz.results101, go_sem, y0, y1, y2, y3]
        exact .inl ⟨V.mk 5 0 ⟨#[]⟩ acc, q, hqT, ⟨_, rfl, hin9, by omega, fun _ => hpq, hfin⟩, fun ho => by rw [hspec.out ho]; rfl⟩
      · have i1 : ((hw : Int) == 2) = true := by simp; omega
        have i2 : ¬ (d : Int) < 8 := by omega
        clear g1 g2
        have hIn := hB.out.val 5 (by unfold I64; omega) (by omega)
        obtain ⟨y0, y1, y2, y3, yf⟩ := four_of ((hR.out.1.block w.heap.size (by omega) (by intro e; injection e with e; omega)).trans hblk)
        have hsR := hR.out.1.size
        have hR4 := hR.out
        rw [hw1] at hR4
        have hfin := hR4.low.put hrl (Nat.le_refl _) 0 (.int .i64 5) (.int .i64 0) (.string ⟨#[]⟩) (.slice pv acc.length cv)
        have hin9 : (V.mk 5 0 ⟨#[]⟩ acc).In (put4 wr w.heap.size 0 (.int .i64 5) (.int .i64 0) (.string ⟨#[]⟩) (.slice pv acc.length cv)) w.heap.size (.slice pv acc.length cv) :=
          V.In.keep (lo := w1.heap.size) (fun a v ha hc => set_other (set_other (set_other (set_other hc (.inl (by omega))) (.inl (by omega))) (.inl (by omega))) (.inl (by omega))) (by omega) _ _ hIn
        unfold put4 at hfin hin9
        clear hIn hB
        go_wp2
        simp [bodyPost, results, Tryz.results101, go_sem, y0, y1, y2, y3]
        exact .inl ⟨V.mk 5 0 ⟨#[]⟩ acc, q, hqT, ⟨_, rfl, hin9, by omega, fun _ => hpq, hfin⟩, fun ho => by rw [hspec.out ho]; rfl⟩
      · have i1 : ((hw : Int) == 2) = true := by simp; omega
        have i2 : (d : Int) < 8 := by omega
        have ho := hfill.out g1
        have hS0 : Sl wr 0 acc (.slice pv acc.length cv) := by
          have := hB.out.val 5 (by unfold I64; omega) (by omega)
          exact (((V.in_iff _ _ _ _).1 this).2.2.2).keep (lo := w1.heap.size) (fun _ _ _ hc => hc) (Nat.zero_le _)
        have c119 := room119 acc pv cv wr hS0 hev
        clear hspec g1 g2 hfill hS0
        have hk0 := (hR.out.1.block w.heap.size (by omega) (by intro e; injection e with e; omega)).trans hblk
        have hsR := hR.out.1.size
        obtain ⟨xs, hO, hE⟩ := hB.out
        have hne : some w.heap.size ≠ (Value.slice pv acc.length cv).ownBlock := fun e => by have := (World.ownsRow.lt hO _ e.symm).1; omega
        have tk : True := trivial
        go_wp2_with (first
          | (go_at_call 119; refine c119.mono ?_; rintro e w4 ⟨b, rfl, hb4⟩; have k4 := (hb4.block w.heap.size (by omega)).trans hk0; obtain ⟨y0, y1, y2, y3, yf⟩ := four_of k4; cases b)
          | (go_at_call 97; clear tk; refine (greatest97 _).mono ?_; rintro e w5 ⟨rfl, hb5⟩)
          | (go_at_call 97; refine (greatest97 _).mono ?_; rintro e w6 ⟨rfl, hb6⟩; have hb46 := (hb4.trans (hb5.mono hb4.size)).trans (hb6.mono (by have := hb4.size; have := hb5.size; omega)))
          | (at_builtin; refine wpList_append_lies _ rfl _ _ 22 rfl w1.heap.size 24 i0 zVal 4 56 Tryz.underlying22 hi hz0 hz1 hz2 rfl (by decide) _ acc.length xs rfl ((own_bel hO hb46).alloc _) ⟨w6.heap.size, 0, none⟩ 2 2 [.int .i64 7, .int .i64 281474976710656, .string ⟨#[]⟩, .slice none 0 0, .int .i64 7, .int .i64 281474976710656, .string ⟨#[]⟩, .slice none 0 0] rfl rfl (cells_new _ _ _) (by simp [Value.oneCell']) (by decide) (by unfold maxLen; omega) (by omega) (by have := hb46.size; simp; omega) _ rfl ?_; intro g cap w7 hown hgrow hat hlt7; obtain ⟨z0, z1, z2, z3, zf⟩ := four_of ((hgrow.block w.heap.size (by have := hb46.size; simp; omega) hne).trans (blk_old (blk_on hb46 hk0)))))
        · have hR4 := hR.out.bel hb4
          have hIn := V.In.on hb4 (hB.out.val 5 (by unfold I64; omega) (by omega))
          rw [hw1] at hR4
          have hfin := hR4.low.put hrl (Nat.le_refl _) 0 (.int .i64 5) (.int .i64 0) (.string ⟨#[]⟩) (.slice pv acc.length cv)
          have hin9 : (V.mk 5 0 ⟨#[]⟩ acc).In (put4 w4 w.heap.size 0 (.int .i64 5) (.int .i64 0) (.string ⟨#[]⟩) (.slice pv acc.length cv)) w.heap.size (.slice pv acc.length cv) :=
            V.In.keep (lo := w1.heap.size) (fun a v ha hc => set_other (set_other (set_other (set_other hc (.inl (by omega))) (.inl (by omega))) (.inl (by omega))) (.inl (by omega))) (by omega) _ _ hIn
          unfold put4 at hfin hin9
          clear hIn hB
          simp [bodyPost, results, Tryz.results101, go_sem, y0, y1, y2, y3]
          exact .inl ⟨V.mk 5 0 ⟨#[]⟩ acc, q, hqT, ⟨_, rfl, hin9, by omega, fun _ => hpq, hfin⟩, fun h => by rw [ho] at h; cases h⟩
        · have hE6 : EncP w6 (Off w1.heap.size (.slice pv acc.length cv)) acc xs := hE.keep (fun a u _ hc => some_on hb46 hc) (fun b hb _ => hb)
          have hE7 := hE6.keep (w' := w6.alloc (.cells #[.int .i64 7, .int .i64 281474976710656, .string ⟨#[]⟩, .slice none 0 0, .int .i64 7, .int .i64 281474976710656, .string ⟨#[]⟩, .slice none 0 0] 24)) (Q := Off w1.heap.size (.slice pv acc.length cv)) (fun a u _ hc => some_on (bel1 w6 _) hc) (fun b hb _ => hb)
          have hRow7 : RowV w7 w1.heap.size (.slice (some ⟨g, 0, none⟩) (acc.length + 2) cap) (acc ++ [vGreat, vGreat]) := RowV.push (v := .slice pv acc.length cv) hE7 (EncP.app (enc_great _ _) (enc_great _ _)) hown (by simp) hgrow hat
          have hR7 : Rq r T q o k w1 w7 := ((hR.out.bel hb46).far (World.grownBy_alloc w6 _ none) (by omega) (fun _ e => by cases e)).far hgrow (by omega) fun i e => (World.ownsRow.lt hO i e).1
          have hIn := hRow7.val 5 (by unfold I64; omega) (by simp; omega)
          rw [hw1] at hR7
          have hfin := hR7.low.put hrl (Nat.le_refl _) 0 (.int .i64 5) (.int .i64 0) (.string ⟨#[]⟩) (.slice (some ⟨g, 0, none⟩) (acc.length + 2) cap)
          have hin9 : (V.mk 5 0 ⟨#[]⟩ (acc ++ [vGreat, vGreat])).In (put4 w7 w.heap.size 0 (.int .i64 5) (.int .i64 0) (.string ⟨#[]⟩) (.slice (some ⟨g, 0, none⟩) (acc.length + 2) cap)) w.heap.size (.slice (some ⟨g, 0, none⟩) (acc.length + 2) cap) :=
            V.In.keep (lo := w1.heap.size) (fun a v ha hc => set_other (set_other (set_other (set_other hc (.inl (by omega))) (.inl (by omega))) (.inl (by omega))) (.inl (by omega))) (by omega) _ _ hIn
          unfold put4 at hfin hin9
          clear hIn hB hgrow hown hat hE hE6 hE7 hRow7
          simp [bodyPost, results, Tryz.results101, go_sem, z0, z1, z2, z3]
          exact .inl ⟨V.mk 5 0 ⟨#[]⟩ (acc ++ [vGreat, vGreat]), q, hqT, ⟨_, rfl, hin9, by omega, fun _ => hpq, hfin⟩, fun h => by rw [ho] at h; cases h⟩
end Go.Proofs.YtbicodlclmdgaaaGreatDoor
