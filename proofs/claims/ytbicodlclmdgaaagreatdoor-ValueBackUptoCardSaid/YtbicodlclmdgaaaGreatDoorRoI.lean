/-
  The reader of package value, open or not, and whatever is wrong: lists.
-/
import Derived.Test.YtbicodlclmdgaaaGreatDoorRoH
namespace Go.Proofs.YtbicodlclmdgaaaGreatDoor
open Go.RowKit
set_option linter.unusedVariables false      -- a walk need not use every condition

/-- A value was read, to p'. -/
def Vl (r : Nat) (T : ByteArray) (p : Nat) (o : Bool) (k : Nat) (w : World) (v : V) (p' : Nat) (e : Ending) (w' : World) : Prop :=
  ∃ sl, e = .returned (v.agg sl) ∧ v.In w' w.heap.size sl ∧ p ≤ p' ∧ (p < T.size → p < p') ∧ Rq r T p' o k w w'
/-- What value does, so deep. -/
def RV (T : ByteArray) (n d : Nat) : Prop := ∀ (w : World) (r p : Nat) (o : Bool) (k : Nat), Ro w r T p o k → p ≤ T.size → k + n ≤ 100 →
  Calls Tryz.prog 79 #[.pointer (some ⟨r, 0, none⟩), .int .i64 d] w (Comes r T o w (pVal n (rest T p)) (Vl r T p o k w))

def itemsAfter (pe : List UInt8 → Option (V × List UInt8)) (f : Nat) (s : List UInt8) : Option (List V × List UInt8) := (pe s).bind fun x => (pItems pe f true x.2).map fun y => (x.1 :: y.1, y.2)
theorem items_next (pe : List UInt8 → Option (V × List UInt8)) (f : Nat) (more : Bool) (s : List UInt8) : pItems pe (f + 1) more s = (pNext 93 more s).bind fun x => if x.1 then some ([], x.2) else itemsAfter pe f x.2 := by
  simp only [pItems, itemsAfter]
  cases pNext 93 more s with
  | none => rfl
  | some x =>
    obtain ⟨b, s1⟩ := x
    cases b with
    | true => rfl
    | false =>
      simp only [Option.bind_some, Bool.false_eq_true, if_false]
      cases pe s1 with
      | none => rfl
      | some y =>
        obtain ⟨v, s2⟩ := y
        simp only [Option.bind_some]
        cases pItems pe f true s2 <;> rfl
/-- What is read behind what has been. -/
def iGo (pe : List UInt8 → Option (V × List UInt8)) (T : ByteArray) (o : Bool) (S : Option (List V × List UInt8)) (how q f : Nat) (acc : List V) : Prop :=
  o = false → (rest T q).length ≤ f ∧ S = (if how = 1 then some ([], rest T q) else itemsAfter pe f (rest T q)).map fun z => (acc ++ z.1, z.2)
theorem rest_len (T : ByteArray) (q : Nat) : (rest T q).length = T.size - q := by
  unfold rest; simp only [List.length_drop]
  have e : T.data.toList.length = T.size := Array.length_toList
  omega
theorem iGo.start {pe : List UInt8 → Option (V × List UInt8)} {T : ByteArray} {o : Bool} {p p1 how q : Nat} (h1 : o = false → rest T (p + 1) = rest T p1) (h2 : o = false → pNext 93 false (rest T p1) = some (decide (how = 1), rest T q)) (hq : p < q) :
    iGo pe T o (pItems pe ((rest T (p + 1)).length + 1) false (rest T (p + 1))) how q (rest T (p + 1)).length [] := fun ho => by
  refine ⟨by rw [rest_len, rest_len]; omega, ?_⟩
  rw [items_next, h1 ho, h2 ho]
  simp only [Option.bind_some]
  by_cases h : how = 1
  · simp [h]
  · simp only [h, decide_false, Bool.false_eq_true, if_false, ← h1 ho]
    cases itemsAfter pe (rest T (p + 1)).length (rest T q) <;> simp
theorem iGo.step {pe : List UInt8 → Option (V × List UInt8)} {T : ByteArray} {o : Bool} {S : Option (List V × List UInt8)} {q q1 q2 f how' : Nat} {acc : List V} {x : V} (h : iGo pe T o S 0 q f acc) (h1 : o = false → pe (rest T q) = some (x, rest T q1))
    (h2 : o = false → pNext 93 true (rest T q1) = some (decide (how' = 1), rest T q2)) (hlt : o = false → q < T.size) (hq1 : q < T.size → q < q1) (hq2 : q1 ≤ q2) : iGo pe T o S how' q2 (f - 1) (acc ++ [x]) := fun ho => by
  obtain ⟨hf, hS⟩ := h ho
  have := hlt ho
  have := hq1 this
  rw [rest_len] at hf
  obtain ⟨f', rfl⟩ : ∃ f', f = f' + 1 := ⟨f - 1, by omega⟩
  refine ⟨by rw [rest_len]; omega, ?_⟩
  rw [hS, if_neg (by decide)]
  unfold itemsAfter
  rw [h1 ho]
  simp only [Option.bind_some]
  rw [items_next, h2 ho]
  simp only [Option.bind_some, Nat.add_sub_cancel]
  by_cases h : how' = 1
  · simp [h]
  · simp only [h, decide_false, Bool.false_eq_true, if_false]
    unfold itemsAfter
    cases (pe (rest T q2)).bind fun x => (pItems pe f' true x.2).map fun y => (x.1 :: y.1, y.2) <;> simp
theorem iGo.none1 {pe : List UInt8 → Option (V × List UInt8)} {T : ByteArray} {o : Bool} {S : Option (List V × List UInt8)} {q f : Nat} {acc : List V} (h : iGo pe T o S 0 q f acc) (h1 : o = false → pe (rest T q) = none) : o = false → S = none := fun ho => by
  rw [(h ho).2, if_neg (by decide)]
  unfold itemsAfter
  rw [h1 ho]; rfl
theorem iGo.none2 {pe : List UInt8 → Option (V × List UInt8)} {T : ByteArray} {o : Bool} {S : Option (List V × List UInt8)} {q q1 f : Nat} {acc : List V} {x : V} (h : iGo pe T o S 0 q f acc) (h1 : o = false → pe (rest T q) = some (x, rest T q1))
    (h2 : o = false → pNext 93 true (rest T q1) = none) (hlt : o = false → q < T.size) : o = false → S = none := fun ho => by
  obtain ⟨hf, hS⟩ := h ho
  have := hlt ho
  rw [rest_len] at hf
  obtain ⟨f', rfl⟩ : ∃ f', f = f' + 1 := ⟨f - 1, by omega⟩
  rw [hS, if_neg (by decide)]
  unfold itemsAfter
  rw [h1 ho]
  simp only [Option.bind_some]
  rw [items_next, h2 ho]; rfl
theorem iGo.done {pe : List UInt8 → Option (V × List UInt8)} {T : ByteArray} {o : Bool} {S : Option (List V × List UInt8)} {q f : Nat} {acc : List V} (h : iGo pe T o S 1 q f acc) : o = false → S = some (acc, rest T q) := fun ho => by
  rw [(h ho).2, if_pos rfl]; simp

/-- The value above which none stands. -/
def vGreat : V := .mk 7 281474976710656 ⟨#[]⟩ []
theorem enc_great (w : World) (P : Nat → Prop) : EncP w P [vGreat] [.int .i64 7, .int .i64 281474976710656, .string ⟨#[]⟩, .slice none 0 0] := by
  refine enc_one (v := vGreat) ?_
  simp only [vGreat, V.InP]
  exact ⟨by unfold I64; omega, by unfold I64; omega, by show (0 : Nat) ≤ _; omega, none, 0, rfl, Nat.le_refl _, by unfold maxLen; omega, by simp, .inl trivial⟩
theorem own_bel {w w' : World} {base : Nat} {e : TypeId} {size : Nat} {v : Value} {n : Nat} {xs : List Value} (h : w.ownsRow base e size v n xs) (hb : Below w.heap.size w w') : w'.ownsRow base e size v n xs := by
  refine World.ownsRow.kept h (gr_bel hb none) ?_
  cases hv : v.ownBlock with
  | none => exact .inl rfl
  | some g => exact .inr (by simp)
theorem val_nil (n : Nat) : pVal n [] = none := by cases n <;> rfl
theorem val_lt {T : ByteArray} {n q : Nat} {x : V} {s : List UInt8} (h : pVal n (rest T q) = some (x, s)) : q < T.size := by
  rcases Nat.lt_or_ge q T.size with h1 | h1
  · exact h1
  · rw [show rest T q = [] by apply List.eq_nil_of_length_eq_zero; rw [rest_len]; omega, val_nil] at h
    cases h
/-- How much is left, in a loop over what comes next. -/
def left (T : ByteArray) (q hw : Nat) : Nat := T.size - q + if hw = 0 then 1 else 0
theorem left_lt {T : ByteArray} {q p4 p8 how8 : Nat} (h1 : q < T.size → q < p4) (h2 : q ≤ p4) (h3 : p4 ≤ p8) (h4 : p4 ≤ T.size) (h5 : p4 = T.size → how8 = 2) : left T p8 how8 < left T q 0 := by
  unfold left
  rcases Nat.lt_or_ge q T.size with h | h
  · have := h1 h
    split <;> simp <;> omega
  · have := h5 (by omega)
    subst this
    simp; omega

set_option maxHeartbeats 2000000 in
set_option maxRecDepth 20000 in
theorem list100 (T : ByteArray) (n d : Nat) (hd : d + n = 8) (hv : RV T n (d + 1)) (hT : T.size ≤ 1073741824) (w : World) (r p : Nat) (o : Bool) (k : Nat) (h : Ro w r T p o k) (hlt : p < T.size) (hq : T[p] = 91) (hk : k + n ≤ 99) :
    Calls Tryz.prog 100 #[.pointer (some ⟨r, 0, none⟩), .int .i64 d] w
      (Comes r T o w ((pItems (pVal n) ((rest T (p + 1)).length + 1) false (rest T (p + 1))).map fun x => (V.mk 4 0 ⟨#[]⟩ x.1, x.2)) (Vl r T p o k w)) := by
  have hT' : T.size ≤ 140737488000000 := by omega
  have hTm : T.size ≤ maxLen := by unfold maxLen; omega
  have hrl := h.lt
  obtain ⟨w1, hw1⟩ : ∃ w1, w1 = w.alloc (.cells #[.int .i64 0, .int .i64 0, .string ⟨#[]⟩, .slice none 0 0] 24) := ⟨_, rfl⟩
  have hblk : w1.heap[w.heap.size]? = some (.cells #[.int .i64 0, .int .i64 0, .string ⟨#[]⟩, .slice none 0 0] 24) := by rw [hw1]; exact blk_new w _
  have hsz1 : w1.heap.size = w.heap.size + 1 := by rw [hw1]; simp
  have hR1 : Ro w1 r T p o k := by rw [hw1]; exact h.alloc _
  have hgw : w.grownBy w1 (some r) := by rw [hw1]; exact World.grownBy_alloc w _ (some r)
  have c99 := word99o w1 r T ⟨#[91]⟩ p o k hR1 (by omega) hTm
  have hst : strip [91] (rest T p) = some (rest T (p + 1)) := by rw [rest_cons hlt, hq]; rfl
  rw [hst] at c99
  obtain ⟨S, hS⟩ : ∃ S, Hid (S = pItems (pVal n) ((rest T (p + 1)).length + 1) false (rest T (p + 1))) := ⟨_, rfl⟩
  rw [← hS.out]
  have c117 := fun w q h hq => next117o w r T q o k h hq 93 false hT'
  clear hq hst
  go_enter Tryz.func100, Tryz.ntmps100
  go_wp2_with (first
    | (go_at_call 99; rw [← hw1]; refine c99.mono ?_; rintro e w2 (⟨u2, p2, hp2, ⟨rfl, hle2, hlt2, h2⟩, hs2⟩ | ⟨⟨q2, hq2, rfl, hg⟩, hs2⟩))
    | (go_at_call 117; refine (c117 _ p2 h2.2 hp2).mono ?_; rintro e w3 (⟨how3, p3, hle3, hp3, rfl, h3, hs3⟩ | ⟨⟨q2, hq2, rfl, hg⟩, hs3⟩)))
  rotate_left
  · refine ⟨rfl, .inr ⟨⟨q2, hq2, rfl, hgw.trans (h2.1.trans hg)⟩, fun ho => ?_⟩⟩
    have e := hs2.out ho
    simp only [Option.map_some, Option.some.injEq, Prod.mk.injEq, true_and] at e
    rw [hS.out, items_next, e, hs3.out ho]; rfl
  · exact ⟨rfl, .inr ⟨⟨q2, hq2, rfl, hgw.trans hg⟩, fun ho => by cases hs2.out ho⟩⟩
  have hpp2 : p < p2 := hlt2 (by decide) hlt
  have hgo : Hid (iGo (pVal n) T o S how3 p3 (rest T (p + 1)).length []) := by
    show iGo _ _ _ _ _ _ _ _
    rw [hS.out]
    exact iGo.start (fun ho => by have e := hs2.out ho; simpa using e) (fun ho => hs3.out.2.2.2 ho) (by omega)
  have hR3 := h2.trans h3
  have hpp3 : p < p3 := by omega
  have hs3' : Hid ((how3 = 0 ∨ how3 = 1 ∨ how3 = 2) ∧ (how3 = 2 → o = true)) := ⟨hs3.out.1, hs3.out.2.1⟩
  obtain ⟨i0, hi, hz0, hz1, hz2⟩ := info_parts info24
  clear c99 hs2 hlt2 c117 hs3
  have c117 := fun w q h hq => next117o w r T q o k h hq 93 true hT'
  have c79 := fun w q h hq => hv w r q o k h hq (by omega)
  have hdd : IntKind.i64.wrap ((d : Int) + 1) = ((d + 1 : Nat) : Int) := by rw [IntKind.wrap_i64]; omega
  go_loopg [5, 6] (left T p3 how3) (fun c v how wr => ∃ (hw q f : Nat) (acc : List V), how = .int .i64 hw ∧ Hid (c = left T q hw) ∧ Hid (q ≤ T.size ∧ p < q ∧ acc.length ≤ q + 1 ∧ (hw ≠ 2 → acc.length ≤ q) ∧ (hw = 0 ∨ hw = 1 ∨ hw = 2) ∧ (hw = 2 → o = true)) ∧ Hid (RowV wr w1.heap.size v acc) ∧ Hid (Rq r T q o k w1 wr) ∧ Hid (iGo (pVal n) T o S hw q f acc))
  case atStart => exact ⟨how3, p3, _, [], rfl, rfl, ⟨hp3, hpp3, Nat.zero_le _, fun _ => Nat.zero_le _, hs3'.out.1, hs3'.out.2⟩, rowV_nil _ _, hR3, hgo⟩
  case round =>
    clear hgo hs3' hpp3 hR3
    obtain ⟨hw, q, f, acc, rfl, hc, hb3, hB, hR, hG⟩ := hrel
    have hr1 : r < w1.heap.size := by omega
    by_cases h0 : hw = 0
    · subst h0
      have hql := hb3.out
      obtain ⟨xs, hO, hE⟩ := hB.out
      have hal : acc.length ≤ 1073741825 := by omega
      have hsR := hR.out.1.size
      have c79' := c79 wr q hR.out.2 hql.1
      unfold Vl V.agg at c79'
      clear hB
      go_wp2_with (first
        | (go_at_call 79; refine c79'.mono ?_; rintro e w4 (⟨x4, p4, hp4, ⟨s4, rfl, hin4, hle4, hlt4, h4⟩, hs4⟩ | ⟨⟨q2, hq2, rfl, hg⟩, hs4⟩); (try obtain ⟨pp4, n4, q4, rfl⟩ := hin4.header))
        | (at_builtin; refine wpList_append_lies _ rfl _ _ 22 rfl w1.heap.size 24 i0 zVal 4 56 Tryz.underlying22 hi hz0 hz1 hz2 rfl (by decide) _ acc.length xs rfl ((own_kept hO h4.1 (by omega)).alloc _) ⟨w4.heap.size, 0, none⟩ 1 1 [.int .i64 x4.k, .int .i64 x4.n, .string x4.s, .slice pp4 n4 q4] rfl rfl (cells_new _ _ _) (by simp [Value.oneCell']) (by decide) (by unfold maxLen; omega) (by omega) (by have := h4.1.size; simp; omega) _ rfl ?_; intro g cap w7 hown hgrow hat hlt7))
      rotate_left
      · refine ⟨rfl, .inr ⟨⟨q2, hq2, rfl, hgw.trans (hR.out.1.trans hg)⟩, fun ho => ?_⟩⟩
        rw [hG.out.none1 hs4.out ho]; rfl
      have hE4 : EncP w4 (Off w1.heap.size u5) acc xs := hE.keep (fun a u ha hc => h4.1.cell hc (by intro e; injection e with e; have := ha.1; omega)) (fun b hb _ => hb)
      have hE5 : EncP (w4.alloc (.cells #[.int .i64 x4.k, .int .i64 x4.n, .string x4.s, .slice pp4 n4 q4] 24)) (Off w1.heap.size u5) acc xs := hE4.keep (fun a u _ hc => some_on (bel1 w4 _) hc) (fun b hb _ => hb)
      have hx4 : x4.InP (w4.alloc (.cells #[.int .i64 x4.k, .int .i64 x4.n, .string x4.s, .slice pp4 n4 q4] 24)) (Off w1.heap.size u5) (.slice pp4 n4 q4) := V.InP.keep (fun a u _ hc => some_on (bel1 w4 _) hc) (fun b hb _ => hb) _ _ (in_off hO (Nat.le_refl _) hsR hin4)
      have hRow7 : RowV w7 w1.heap.size (.slice (some ⟨g, 0, none⟩) (acc.length + 1) cap) (acc ++ [x4]) := RowV.push (v := u5) hE5 (enc_one hx4) hown (by simp) hgrow hat
      have hR7 : Rq r T p4 o k w1 w7 := ((hR.out.trans h4).far (World.grownBy_alloc w4 _ none) (by omega) (fun _ e => by cases e)).far hgrow (by omega) fun i e => (World.ownsRow.lt hO i e).1
      have c117' := c117 _ p4 hR7.2 hp4
      clear hgrow hown hat hE hE4 hE5 hx4 hO c79'
      go_wp2_with (go_at_call 117; refine c117'.mono ?_; rintro e w8 (⟨how8, p8, hle8, hp8, rfl, h8, hs8⟩ | ⟨⟨q2, hq2, rfl, hg⟩, hs8⟩))
      case inr =>
        refine ⟨rfl, .inr ⟨⟨q2, hq2, rfl, hgw.trans (hR7.1.trans hg)⟩, fun ho => ?_⟩⟩
        rw [hG.out.none2 hs4.out hs8.out (fun ho => val_lt (hs4.out ho)) ho]; rfl
      go_roundg (left T p8 how8)
      case rel =>
        refine ⟨how8, p8, f - 1, acc ++ [x4], rfl, rfl, ⟨hp8, by omega, ?_, ?_, hs8.out.1, hs8.out.2.1⟩, hRow7.kept h8.1 (by omega), hR7.trans h8, hG.out.step hs4.out hs8.out.2.2.2 (fun ho => val_lt (hs4.out ho)) hlt4 hle8⟩
        · have h1 := hql.2.2.2.1 (by decide)
          simp; omega
        · intro h2
          have h1 := hql.2.2.2.1 (by decide)
          have h3 : p4 < T.size := by
            rcases Nat.lt_or_ge p4 T.size with h | h
            · exact h
            · exact absurd (hs8.out.2.2.1 (by omega)) h2
          have h4 := hlt4 (by omega)
          simp; omega
      case measure =>
        have := left_lt hlt4 hle4 hle8 hp4 hs8.out.2.2.1
        have h9 : gk = left T q 0 := hc.out
        omega
    · have hql := hb3.out
      have hw0 : ((hw : Int) == 0) = false := by simp; omega
      have hspec : Hid (o = false → S = some (acc, rest T q)) := by
        intro ho
        have h1 : hw = 1 := by
          rcases hql.2.2.2.2.1 with h | h | h
          · exact absurd h h0
          · exact h
          · have := hql.2.2.2.2.2 h
            rw [this] at ho; cases ho
        have hG' := hG.out
        rw [h1] at hG'
        exact hG'.done ho
      have hfill : Hid (hw = 2 → o = true) := hql.2.2.2.2.2
      have hal : acc.length ≤ 1073741825 := by omega
      have hpq : p < q := hql.2.1
      have hqT : q ≤ T.size := hql.1
      clear hG hc hb3 hql h0 c79 c117 hdd
      go_wp2
      go_loopg [5] (256 - acc.length) (fun c v wr => ∃ (acc : List V), c = 256 - acc.length ∧ Hid (acc.length ≤ 1073742100) ∧ Hid (RowV wr w1.heap.size v acc) ∧ Hid (Rq r T q o k w1 wr) ∧ Hid (o = false → S = some (acc, rest T q)))
      case atStart => exact ⟨acc, rfl, by show _ ≤ _; omega, hB, hR, hspec⟩
      case round =>
        clear hspec hB hR
        obtain ⟨acc, rfl, hal, hB, hR, hspec⟩ := hrel
        obtain ⟨pv, cv, rfl, -, -⟩ := hB.out.len
        by_cases hgo : hw = 2 ∧ 0 < k ∧ d < 8 ∧ acc.length < 256
        · obtain ⟨g1, g2, g3, g4⟩ := hgo
          have ho := hfill.out g1
          have i1 : ((hw : Int) == 2) = true := by simp; omega
          have i2 : (0 : Int) < (k : Int) := by omega
          have i3 : (d : Int) < 8 := by omega
          have i4 : (acc.length : Int) < 256 := by omega
          obtain ⟨xs, hO, hE⟩ := hB.out
          obtain ⟨c0, c1, c2, c3, cf⟩ := hR.out.2.cells
          have hsR := hR.out.1.size
          clear hB hspec g1
          go_wp2_with (first
            | (go_at_call 97; refine (greatest97 _).mono ?_; rintro e w4 ⟨rfl, hb4⟩)
            | (at_builtin; refine wpList_append_lies _ rfl _ _ 22 rfl w1.heap.size 24 i0 zVal 4 56 Tryz.underlying22 hi hz0 hz1 hz2 rfl (by decide) _ acc.length xs rfl ((own_bel hO hb4).alloc _) ⟨w4.heap.size, 0, none⟩ 1 1 [.int .i64 7, .int .i64 281474976710656, .string ⟨#[]⟩, .slice none 0 0] rfl rfl (cells_new _ _ _) (by simp [Value.oneCell']) (by decide) (by unfold maxLen; omega) (by omega) (by have := hb4.size; simp; omega) _ rfl ?_; intro g cap w7 hown hgrow hat hlt7))
          have hE4 : EncP w4 (Off w1.heap.size (.slice pv acc.length cv)) acc xs := hE.keep (fun a u _ hc => some_on hb4 hc) (fun b hb _ => hb)
          have hE5 : EncP (w4.alloc (.cells #[.int .i64 7, .int .i64 281474976710656, .string ⟨#[]⟩, .slice none 0 0] 24)) (Off w1.heap.size (.slice pv acc.length cv)) acc xs := hE4.keep (fun a u _ hc => some_on (bel1 w4 _) hc) (fun b hb _ => hb)
          have hx4 : EncP (w4.alloc (.cells #[.int .i64 7, .int .i64 281474976710656, .string ⟨#[]⟩, .slice none 0 0] 24)) (Off w1.heap.size (.slice pv acc.length cv)) [vGreat] [.int .i64 7, .int .i64 281474976710656, .string ⟨#[]⟩, .slice none 0 0] := enc_great _ _
          have hRow7 : RowV w7 w1.heap.size (.slice (some ⟨g, 0, none⟩) (acc.length + 1) cap) (acc ++ [vGreat]) := RowV.push (v := .slice pv acc.length cv) hE5 hx4 hown (by simp) hgrow hat
          have hR7 : Rq r T q o k w1 w7 := ((hR.out.bel hb4).far (World.grownBy_alloc w4 _ none) (by omega) (fun _ e => by cases e)).far hgrow (by omega) fun i e => (World.ownsRow.lt hO i e).1
          clear hgrow hown hat hE hE4 hE5 hx4 hO
          go_roundg (256 - (acc.length + 1))
          case rel => exact ⟨acc ++ [vGreat], by simp, by show _ ≤ _; simp; omega, hRow7, hR7, fun h => by rw [ho] at h; cases h⟩
          case measure => omega
        · obtain ⟨c0, c1, c2, c3, cf⟩ := hR.out.2.cells
          rcases (show hw ≠ 2 ∨ (hw = 2 ∧ ¬ 0 < k) ∨ (hw = 2 ∧ 0 < k ∧ ¬ d < 8) ∨ (hw = 2 ∧ 0 < k ∧ d < 8 ∧ ¬ acc.length < 256) by omega) with g1 | ⟨g1, g2⟩ | ⟨g1, g2, g3⟩ | ⟨g1, g2, g3, g4⟩
          · have i1 : ((hw : Int) == 2) = false := by simp; omega
            clear g1 hgo
            have hIn := hB.out.val 4 (by unfold I64; omega) (by have := hal.out; omega)
            obtain ⟨y0, y1, y2, y3, yf⟩ := four_of ((hR.out.1.block w.heap.size (by omega) (by intro e; injection e with e; omega)).trans hblk)
            have hsR := hR.out.1.size
            have hR4 := hR.out
            rw [hw1] at hR4
            have hfin := hR4.low.put hrl (Nat.le_refl _) 0 (.int .i64 4) (.int .i64 0) (.string ⟨#[]⟩) (.slice pv acc.length cv)
            have hin9 : (V.mk 4 0 ⟨#[]⟩ acc).In (put4 wr w.heap.size 0 (.int .i64 4) (.int .i64 0) (.string ⟨#[]⟩) (.slice pv acc.length cv)) w.heap.size (.slice pv acc.length cv) :=
              V.In.keep (lo := w1.heap.size) (fun a v ha hc => set_other (set_other (set_other (set_other hc (.inl (by omega))) (.inl (by omega))) (.inl (by omega))) (.inl (by omega))) (by omega) _ _ hIn
            unfold put4 at hfin hin9
            clear hIn hB
            go_wp2
            simp [bodyPost, results, Tryz.results100, go_sem, y0, y1, y2, y3]
            exact .inl ⟨V.mk 4 0 ⟨#[]⟩ acc, q, hqT, ⟨_, rfl, hin9, by omega, fun _ => hpq, hfin⟩, fun ho => by rw [hspec.out ho]; rfl⟩
          · have i1 : ((hw : Int) == 2) = true := by simp; omega
            have i2 : ¬ (0 : Int) < (k : Int) := by omega
            clear g1 g2 hgo
            have hIn := hB.out.val 4 (by unfold I64; omega) (by have := hal.out; omega)
            obtain ⟨y0, y1, y2, y3, yf⟩ := four_of ((hR.out.1.block w.heap.size (by omega) (by intro e; injection e with e; omega)).trans hblk)
            have hsR := hR.out.1.size
            have hR4 := hR.out
            rw [hw1] at hR4
            have hfin := hR4.low.put hrl (Nat.le_refl _) 0 (.int .i64 4) (.int .i64 0) (.string ⟨#[]⟩) (.slice pv acc.length cv)
            have hin9 : (V.mk 4 0 ⟨#[]⟩ acc).In (put4 wr w.heap.size 0 (.int .i64 4) (.int .i64 0) (.string ⟨#[]⟩) (.slice pv acc.length cv)) w.heap.size (.slice pv acc.length cv) :=
              V.In.keep (lo := w1.heap.size) (fun a v ha hc => set_other (set_other (set_other (set_other hc (.inl (by omega))) (.inl (by omega))) (.inl (by omega))) (.inl (by omega))) (by omega) _ _ hIn
            unfold put4 at hfin hin9
            clear hIn hB
            go_wp2
            simp [bodyPost, results, Tryz.results100, go_sem, y0, y1, y2, y3]
            exact .inl ⟨V.mk 4 0 ⟨#[]⟩ acc, q, hqT, ⟨_, rfl, hin9, by omega, fun _ => hpq, hfin⟩, fun ho => by rw [hspec.out ho]; rfl⟩
          · have i1 : ((hw : Int) == 2) = true := by simp; omega
            have i2 : (0 : Int) < (k : Int) := by omega
            have i3 : ¬ (d : Int) < 8 := by omega
            clear g1 g2 g3 hgo
            have hIn := hB.out.val 4 (by unfold I64; omega) (by have := hal.out; omega)
            obtain ⟨y0, y1, y2, y3, yf⟩ := four_of ((hR.out.1.block w.heap.size (by omega) (by intro e; injection e with e; omega)).trans hblk)
            have hsR := hR.out.1.size
            have hR4 := hR.out
            rw [hw1] at hR4
            have hfin := hR4.low.put hrl (Nat.le_refl _) 0 (.int .i64 4) (.int .i64 0) (.string ⟨#[]⟩) (.slice pv acc.length cv)
            have hin9 : (V.mk 4 0 ⟨#[]⟩ acc).In (put4 wr w.heap.size 0 (.int .i64 4) (.int .i64 0) (.string ⟨#[]⟩) (.slice pv acc.length cv)) w.heap.size (.slice pv acc.length cv) :=
              V.In.keep (lo := w1.heap.size) (fun a v ha hc => set_other (set_other (set_other (set_other hc (.inl (by omega))) (.inl (by omega))) (.inl (by omega))) (.inl (by omega))) (by omega) _ _ hIn
            unfold put4 at hfin hin9
            clear hIn hB
            go_wp2
            simp [bodyPost, results, Tryz.results100, go_sem, y0, y1, y2, y3]
            exact .inl ⟨V.mk 4 0 ⟨#[]⟩ acc, q, hqT, ⟨_, rfl, hin9, by omega, fun _ => hpq, hfin⟩, fun ho => by rw [hspec.out ho]; rfl⟩
          · have i1 : ((hw : Int) == 2) = true := by simp; omega
            have i2 : (0 : Int) < (k : Int) := by omega
            have i3 : (d : Int) < 8 := by omega
            have i4 : ¬ (acc.length : Int) < 256 := by omega
            clear g1 g2 g3 g4 hgo
            have hIn := hB.out.val 4 (by unfold I64; omega) (by have := hal.out; omega)
            obtain ⟨y0, y1, y2, y3, yf⟩ := four_of ((hR.out.1.block w.heap.size (by omega) (by intro e; injection e with e; omega)).trans hblk)
            have hsR := hR.out.1.size
            have hR4 := hR.out
            rw [hw1] at hR4
            have hfin := hR4.low.put hrl (Nat.le_refl _) 0 (.int .i64 4) (.int .i64 0) (.string ⟨#[]⟩) (.slice pv acc.length cv)
            have hin9 : (V.mk 4 0 ⟨#[]⟩ acc).In (put4 wr w.heap.size 0 (.int .i64 4) (.int .i64 0) (.string ⟨#[]⟩) (.slice pv acc.length cv)) w.heap.size (.slice pv acc.length cv) :=
              V.In.keep (lo := w1.heap.size) (fun a v ha hc => set_other (set_other (set_other (set_other hc (.inl (by omega))) (.inl (by omega))) (.inl (by omega))) (.inl (by omega))) (by omega) _ _ hIn
            unfold put4 at hfin hin9
            clear hIn hB
            go_wp2
            simp [bodyPost, results, Tryz.results100, go_sem, y0, y1, y2, y3]
            exact .inl ⟨V.mk 4 0 ⟨#[]⟩ acc, q, hqT, ⟨_, rfl, hin9, by omega, fun _ => hpq, hfin⟩, fun ho => by rw [hspec.out ho]; rfl⟩
end Go.Proofs.YtbicodlclmdgaaaGreatDoor
