/-
  The reader of package value, open or not, and whatever is wrong: strings.
-/
import Derived.Test.YtbicodlclmdgaaaGreatDoorRoD
import Derived.Test.YtbicodlclmdgaaaGreatDoorRdrB
namespace Go.Proofs.YtbicodlclmdgaaaGreatDoor
open Go.RowKit
set_option linter.unusedVariables false      -- a walk need not use every condition

theorem Rq.put {w w' : World} {r : Nat} {T : ByteArray} {p : Nat} {o : Bool} {k : Nat} (h : Rq r T p o k w w') (hr : r < w.heap.size) {g : Nat} (hg : w.heap.size ≤ g) (i : Nat) (a b c d : Value) : Rq r T p o k w (put4 w' g i a b c d) :=
  h.far (gr_put4 w' g i a b c d) hr fun j e => by injection e with e; omega

theorem str_close {f : Nat} {c : UInt8} {s : List UInt8} (hf : 0 < f) (hc : c.toNat = 39) : pStr f (c :: s) = some ([], s) := by
  cases f with
  | zero => omega
  | succ f => simp only [pStr]; rw [if_pos hc]
theorem str_more {f : Nat} {c : UInt8} {s : List UInt8} (hc : c.toNat ≠ 39) : pStr (f + 1) (c :: s) = (pChr (c :: s)).bind fun x => (pStr f x.2).map fun y => (x.1 :: y.1, y.2) := by
  simp only [pStr]
  rw [if_neg hc]
  cases pChr (c :: s) with
  | none => rfl
  | some x => 
    obtain ⟨b, s1⟩ := x
    simp only [Option.bind_some]
    cases pStr f s1 with
    | none => rfl
    | some y => rfl
theorem str_nil (f : Nat) : pStr f [] = none := by cases f <;> rfl
/-- What is read behind what has been. -/
def strGo (T : ByteArray) (o : Bool) (S : Option (List UInt8 × List UInt8)) (q f : Nat) (acc : List UInt8) : Prop := o = false → S = (pStr f (rest T q)).map fun x => (acc ++ x.1, x.2)

theorem bts_shape {w : World} {base : Nat} {b : Value} {t : List UInt8} (h : Bts w base b t) : ∃ p cap, b = .slice p t.length cap := by
  rcases h.2 with ⟨rfl, h0⟩ | ⟨g, cap, cur, rfl, hbg, hg, hnc, hcm, hcs, htake⟩
  · exact ⟨none, 0, by rw [h0]⟩
  · exact ⟨_, _, rfl⟩

set_option maxHeartbeats 1000000 in
set_option maxRecDepth 20000 in
theorem str98o (w : World) (r : Nat) (T : ByteArray) (p : Nat) (o : Bool) (k : Nat) (h : Ro w r T p o k) (hlt : p < T.size) (hq : T[p] = 39) (hT : T.size ≤ 140737488000000) (hk : k ≤ 1000) :
    Calls Tryz.prog 98 #[.pointer (some ⟨r, 0, none⟩)] w
      (Comes r T o w (pStr ((rest T (p + 1)).length + 1) (rest T (p + 1))) fun X p' e w' => e = .returned (.agg #[.int .i64 2, .int .i64 0, .string ⟨X.toArray⟩, .slice none 0 0]) ∧ p < p' ∧ X.length ≤ T.size + 128 ∧ Rq r T p' o k w w') := by
  have hTm : T.size ≤ maxLen := by unfold maxLen; omega
  have hrl := h.lt
  obtain ⟨w1, hw1⟩ : ∃ w1, w1 = w.alloc (.cells #[.int .i64 0, .int .i64 0, .string ⟨#[]⟩, .slice none 0 0] 24) := ⟨_, rfl⟩
  have hblk : w1.heap[w.heap.size]? = some (.cells #[.int .i64 0, .int .i64 0, .string ⟨#[]⟩, .slice none 0 0] 24) := by rw [hw1]; exact blk_new w _
  have hsz1 : w1.heap.size = w.heap.size + 1 := by rw [hw1]; simp
  have hR1 : Ro w1 r T p o k := by rw [hw1]; exact h.alloc _
  have hgw : w.grownBy w1 (some r) := by rw [hw1]; exact World.grownBy_alloc w _ (some r)
  have c99 := word99o w1 r T ⟨#[39]⟩ p o k hR1 (by omega) hTm
  obtain ⟨S, hS⟩ : ∃ S, Hid (S = pStr ((rest T (p + 1)).length + 1) (rest T (p + 1))) := ⟨_, rfl⟩
  have hst : strip [39] (rest T p) = some (rest T (p + 1)) := by rw [rest_cons hlt, hq]; rfl
  rw [hst] at c99
  rw [← hS.out]
  clear hq hst
  go_enter Tryz.func98, Tryz.ntmps98
  go_wp2_with (go_at_call 99; rw [← hw1]; refine c99.mono ?_; rintro e w2 (⟨u2, p2, hp2, ⟨rfl, hle2, hlt2, h2⟩, hs2⟩ | ⟨⟨q2, hq2, rfl, hg⟩, hs2⟩))
  case inr => exact ⟨rfl, .inr ⟨⟨q2, hq2, rfl, hgw.trans hg⟩, fun ho => by cases hs2.out ho⟩⟩
  have hgo : Hid (strGo T o S p2 ((rest T (p + 1)).length + 1) []) := fun ho => by
    have e := hs2.out ho
    simp only [Option.map_some, Option.some.injEq, Prod.mk.injEq, true_and] at e
    rw [hS.out, ← e]
    cases pStr ((rest T (p + 1)).length + 1) (rest T (p + 1)) <;> simp
  have hfl : Hid ((rest T p2).length < (rest T (p + 1)).length + 1) := by
    show _ < _
    have : p < p2 := hlt2 (by decide) hlt
    unfold rest
    simp only [List.length_drop]
    omega
  have hpp2 : p < p2 := hlt2 (by decide) hlt
  clear c99 hs2 hlt2
  go_loopg [3] (T.size + 1 - p2) (fun c v wr => ∃ (q f : Nat) (acc : List UInt8), c + q = T.size + 1 ∧ Hid (q ≤ T.size ∧ p < q ∧ acc.length ≤ q) ∧ Hid (Bts wr w1.heap.size v acc) ∧ Hid (Rq r T q o k w1 wr) ∧ Hid ((rest T q).length < f) ∧ Hid (strGo T o S q f acc))
  case atStart => exact ⟨p2, _, [], by omega, ⟨hp2, hpp2, Nat.zero_le _⟩, World.ownsRow_nil _ _ _ _, h2, hfl, hgo⟩
  case round =>
    obtain ⟨q, f, acc, hj, hb3, hB, hR, hf, hG⟩ := hrel
    have hr1 : r < w1.heap.size := by omega
    by_cases hlq : q < T.size
    · by_cases h39 : T[q].toNat = 39
      · have heq : ((T[q].toNat : Int) == 39) = true := by simp; omega
        have hX : Hid (o = false → S = some (acc, rest T (q + 1))) := fun ho => by
          rw [hG.out ho, rest_cons hlq, str_close (by have := hf.out; omega) h39]; simp
        clear h39
        go_wp2_with (go_at_call 96; refine (cut96_no _ r T q o k hR.out.2 hlq).mono ?_; rintro e w3 ⟨rfl, h3⟩; obtain ⟨c0, c1, c2, c3, cf⟩ := h3.2.cells)
        go_region
        have hW := h3.step.dr
        have hRW := hR.out.trans hW
        have hcv := bts_str (hB.out.kept hW.1 (by omega))
        go_wp2_with (go_at_call 18; refine (str18 _ _).mono ?_; rintro e w4 ⟨rfl, hb4⟩; have hR4 := hRW.bel hb4; obtain ⟨y0, y1, y2, y3, yf⟩ := four_of ((hR4.1.block w.heap.size (by omega) (by intro e; injection e with e; omega)).trans hblk))
        rw [hw1] at hR4
        have hfin := hR4.low.put hrl (Nat.le_refl _) 0 (.int .i64 2) (.int .i64 0) (.string ⟨acc.toArray⟩) (.slice none 0 0)
        unfold put4 at hfin
        simp [bodyPost, results, Tryz.results98, go_sem, y0, y1, y2, y3]
        have := hb3.out
        exact .inl ⟨acc, q + 1, by omega, ⟨rfl, by omega, by omega, hfin⟩, hX⟩
      · have hne : ((T[q].toNat : Int) == 39) = false := by simp; omega
        obtain ⟨f', rfl⟩ : ∃ f', f = f' + 1 := ⟨f - 1, by have := hf.out; omega⟩
        have hGm : Hid (o = false → S = ((pChr (rest T q)).bind fun x => (pStr f' x.2).map fun y => (x.1 :: y.1, y.2)).map fun x => (acc ++ x.1, x.2)) := fun ho => by
          rw [hG.out ho, rest_cons hlq, str_more h39]
        clear h39 hG
        go_wp2_with (go_at_call 96; refine (cut96_no _ r T q o k hR.out.2 hlq).mono ?_; rintro e w3 ⟨rfl, h3⟩; obtain ⟨c0, c1, c2, c3, cf⟩ := h3.2.cells)
        go_region
        have c116 := char116 _ r T q o k h3.dr.2 hlq hTm
        go_wp2_with (first
          | (go_at_call 116; refine c116.mono ?_; rintro e w4 (⟨c5, p5, hp5, ⟨rfl, hlt5, h4⟩, hs5⟩ | ⟨⟨q2, hq2, rfl, hg⟩, hs5⟩))
          | (at_builtin; refine wpList_app_byts _ rfl _ _ rfl w1.heap.size _ _ rfl (World.ownsRow.alloc (hB.out.kept (h3.dr.trans h4).1 (by omega)) _) ⟨w4.heap.size, 0, none⟩ 1 [c5] rfl (cells_new _ [.int .u8 c5.toNat] _) (by have := hb3.out; simp; omega) (by have := h4.1.size; have := h3.1.size; have := hR.out.1.size; simp [go_sem] at *; omega) ?_; intro v' w5 hB5 hg5))
        case inr =>
          refine ⟨rfl, .inr ⟨⟨q2, hq2, rfl, hgw.trans ((hR.out.trans h3).dr.1.trans hg)⟩, fun ho => ?_⟩⟩
          rw [hGm.out ho, hs5.out ho]; rfl
        have hR5 : Rq r T p5 o k w1 w5 := (((hR.out.trans h3).dr.trans h4).far (World.grownBy_alloc w4 _ none) (by omega) (fun _ e => by cases e)).far hg5 (by omega) fun i e => (World.ownsRow.lt hB.out i e).1
        clear hg5
        go_roundg (T.size + 1 - p5)
        case rel =>
          have h0 := hb3.out
          refine ⟨p5, f', acc ++ [c5], by omega, ⟨hp5, by omega, by simp; omega⟩, hB5, hR5, ?_, fun ho => ?_⟩
          · show _ < _
            have := hf.out
            unfold rest at this ⊢
            simp only [List.length_drop] at this ⊢
            have e : T.data.toList.length = T.size := Array.length_toList
            omega
          · rw [hGm.out ho, hs5.out ho]
            simp only [Option.bind_some]
            cases pStr f' (rest T p5) <;> simp
        case measure => omega
    · have hqe : q = T.size := by have := hb3.out; omega
      have hX : Hid (o = false → S = none) := fun ho => by rw [hG.out ho, rest_nil hqe, str_nil]; rfl
      have hal : acc.length ≤ T.size := by have := hb3.out; omega
      have hpq : p < q := hb3.out.2.1
      clear hG hj hb3
      go_wp2_with (go_at_call 96; refine (cut96_end _ r T q o k hR.out.2 hqe).mono ?_; rintro e w3 (⟨ho, rfl, h3⟩ | ⟨ho, q2, hq2, rfl, hg⟩))
      case inr => exact ⟨rfl, .inr ⟨⟨q2, hq2, rfl, hgw.trans (hR.out.1.trans hg)⟩, hX⟩⟩
      have hRx := hR.out.trans h3
      have hBx := hB.out.kept h3.1 (by omega)
      clear hX hB hR
      go_loopg [3] (128 - acc.length) (fun c v wr => ∃ (acc : List UInt8), c + acc.length = max 128 acc.length ∧ Hid (acc.length ≤ T.size + 128) ∧ Hid (Bts wr w1.heap.size v acc) ∧ Hid (Rq r T q o k w1 wr))
      case atStart => exact ⟨acc, by omega, by show _ ≤ _; omega, hBx, hRx⟩
      case round =>
        obtain ⟨acc, hj, hal, hB, hR⟩ := hrel
        obtain ⟨c0, c1, c2, c3, cf⟩ := hR.out.2.cells
        obtain ⟨pv, cv, rfl⟩ := bts_shape hB.out
        by_cases hgo : 0 < k ∧ acc.length < 128
        · have i1 : (0 : Int) < (k : Int) := by omega
          have i2 : (acc.length : Int) < 128 := by omega
          go_wp2_with (at_builtin; refine wpList_app_byts _ rfl _ _ rfl w1.heap.size _ _ rfl (World.ownsRow.alloc hB.out _) ⟨wr.heap.size, 0, none⟩ 1 [255] rfl (cells_new _ [.int .u8 255] _) (by simp; omega) (by have := hR.out.1.size; simp; omega) ?_; intro v' w5 hB5 hg5)
          have hR5 : Rq r T q o k w1 w5 := (hR.out.far (World.grownBy_alloc wr _ none) (by omega) (fun _ e => by cases e)).far hg5 (by omega) fun i e => (World.ownsRow.lt hB.out i e).1
          clear hg5
          go_roundg (gk - 1)
          case rel =>
            refine ⟨acc ++ [255], by simp; omega, ?_, hB5, hR5⟩
            show _ ≤ _
            have := hal.out
            simp; omega
          case measure => omega
        · have hcv := bts_str hB.out
          by_cases i1 : (0 : Int) < (k : Int)
          · have i2 : ¬ (acc.length : Int) < 128 := by omega
            go_wp2_with (go_at_call 18; refine (str18 _ _).mono ?_; rintro e w4 ⟨rfl, hb4⟩; have hR4 := hR.out.bel hb4; obtain ⟨y0, y1, y2, y3, yf⟩ := four_of ((hR4.1.block w.heap.size (by omega) (by intro e; injection e with e; omega)).trans hblk))
            rw [hw1] at hR4
            have hfin := hR4.low.put hrl (Nat.le_refl _) 0 (.int .i64 2) (.int .i64 0) (.string ⟨acc.toArray⟩) (.slice none 0 0)
            unfold put4 at hfin
            simp [bodyPost, results, Tryz.results98, go_sem, y0, y1, y2, y3]
            exact .inl ⟨acc, q, by omega, ⟨rfl, by omega, hal.out, hfin⟩, fun h => by rw [ho] at h; cases h⟩
          · go_wp2_with (go_at_call 18; refine (str18 _ _).mono ?_; rintro e w4 ⟨rfl, hb4⟩; have hR4 := hR.out.bel hb4; obtain ⟨y0, y1, y2, y3, yf⟩ := four_of ((hR4.1.block w.heap.size (by omega) (by intro e; injection e with e; omega)).trans hblk))
            rw [hw1] at hR4
            have hfin := hR4.low.put hrl (Nat.le_refl _) 0 (.int .i64 2) (.int .i64 0) (.string ⟨acc.toArray⟩) (.slice none 0 0)
            unfold put4 at hfin
            simp [bodyPost, results, Tryz.results98, go_sem, y0, y1, y2, y3]
            exact .inl ⟨acc, q, by omega, ⟨rfl, by omega, hal.out, hfin⟩, fun h => by rw [ho] at h; cases h⟩
end Go.Proofs.YtbicodlclmdgaaaGreatDoor
