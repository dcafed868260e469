/-
  What the document's Cut does.
-/
import Derived.Test.YtafnelpcnfmhfaaDoorCtm
namespace Go.Proofs.YtafnelpcnfmhfaaDoor
open Go.RowKit
set_option linter.unusedVariables false      -- a walk need not use every condition
attribute [local go_sem ↓] Go.wp_at_zero Go.wp_at_succ

theorem range_take {w : World} {g o : Nat} {t : List UInt8} (h : w.rangeAt g o (enc t)) (n : Nat) : w.rangeAt g o (enc (t.take n)) := fun j v hv => by
  refine h j v ?_
  unfold enc at *
  rw [List.map_take, List.getElem?_take] at hv
  split at hv
  · exact hv
  · cases hv
theorem range_drop {w : World} {g o : Nat} {t : List UInt8} (h : w.rangeAt g o (enc t)) (n : Nat) : w.rangeAt g (o + n) (enc (t.drop n)) := fun j v hv => by
  unfold enc at *
  rw [List.map_drop, List.getElem?_drop] at hv
  have := h (n + j) v hv
  rwa [← Nat.add_assoc] at this
/-- A piece that is sliced off, of whatever room. -/
theorem bs_take {w : World} {g o cap n c : Nat} {t : List UInt8} (h : Bs w (.slice (some ⟨g, o, none⟩) t.length cap) t) (hn : n ≤ t.length) (hc : n ≤ c) (hc2 : c ≤ cap) : Bs w (.slice (some ⟨g, o, none⟩) n c) (t.take n) := by
  obtain ⟨p, cap', e, h1, h2, h3, h4⟩ := h
  injection e with e1 e2 e3
  subst e1 e3
  refine ⟨_, c, by rw [List.length_take, Nat.min_eq_left hn], by rw [List.length_take]; omega, by omega, fun e => (by cases e), ?_⟩
  rcases h4 with rfl | ⟨g', o', e, hr⟩
  · exact .inl (by simp)
  · injection e with e
    injection e with e1 e2
    subst e1 e2
    exact .inr ⟨_, _, rfl, range_take hr n⟩
theorem bs_drop {w : World} {g o cap n : Nat} {t : List UInt8} (h : Bs w (.slice (some ⟨g, o, none⟩) t.length cap) t) (hn : n ≤ t.length) : Bs w (.slice (some ⟨g, o + n, none⟩) (t.length - n) (cap - n)) (t.drop n) := by
  obtain ⟨p, cap', e, h1, h2, h3, h4⟩ := h
  injection e with e1 e2 e3
  subst e1 e3
  refine ⟨_, cap - n, by rw [List.length_drop], by rw [List.length_drop]; omega, by omega, fun e => (by cases e), ?_⟩
  rcases h4 with rfl | ⟨g', o', e, hr⟩
  · exact .inl (by simp)
  · injection e with e
    injection e with e1 e2
    subst e1 e2
    exact .inr ⟨_, _, rfl, range_drop hr n⟩
/-- Bytes, one of them at least, lie at an address. -/
theorem bs_some {w : World} {v : Value} {t : List UInt8} (h : Bs w v t) (h0 : 0 < t.length) : ∃ g o cap, v = .slice (some ⟨g, o, none⟩) t.length cap ∧ t.length ≤ cap ∧ cap ≤ maxLen := by
  obtain ⟨p, cap, rfl, h1, h2, h3, h4⟩ := h
  obtain ⟨g, o, rfl, -⟩ := h4.resolve_left (fun e => by rw [e] at h0; simp at h0)
  exact ⟨g, o, cap, rfl, h1, h2⟩
theorem cell_new (w : World) (y : Value) (t : TypeId) : (w.alloc (.cells #[y] t)).cell? ⟨w.heap.size, 0, none⟩ = some y := (Boxed.new w t y).cell
theorem RowB.bel {w1 w2 : World} {base : Nat} {v : Value} {L : List (List UInt8)} {o : Obj} (h : RowB w1 base v L) (hg : (w1.alloc o).grownBy w2 v.ownBlock) (hbase : base ≤ w1.heap.size) : Below base w1 w2 := by
  obtain ⟨vs, ho, -⟩ := h
  exact ((Below.refl base w1).alloc hbase o).grown hg (by simp; omega) (fun j e => (World.ownsRow.lt ho j e).1)
set_option maxHeartbeats 2000000 in
set_option maxRecDepth 100000 in
theorem rcut28 (w : World) (v : Value) (t : List UInt8) (hv : Bs w v t) (hlen : t.length ≤ 4398046511104) :
    Calls Tryd.prog 28 #[v] w fun e w' => ∃ v', e = .returned v' ∧ RowB w' w.heap.size v' (cutL t) ∧ Below w.heap.size w w' := by
  have HV := Lib.hid hv
  obtain ⟨p, cap, rfl, -⟩ := hv
  go_enter Tryd.func28, Tryd.ntmps28
  go_wp2
  go_loopg [0, 3] (pn t) (fun g s0 s3 wr => ∃ k : Nat, k + g = pn t ∧ Bs w s0 (t.drop (112 * k)) ∧ RowB wr w.heap.size s3 ((List.range k).map (pc t)) ∧ Below w.heap.size w wr)
  case atStart => exact ⟨0, by omega, HV.out, rowB_nil _ _, Below.refl _ _⟩
  case round =>
    obtain ⟨k, hig, hB, hR, hb⟩ := hrel
    have HR := Lib.hid hR
    have Hb := Lib.hid hb
    have hbz := hb.size
    clear hR hb
    have hdl : (t.drop (112 * k)).length = t.length - 112 * k := by simp
    have hpn : pn t = (t.length + 111) / 112 := rfl
    cases gk with
    | zero =>
      obtain rfl : k = pn t := by omega
      have h0 : t.drop (112 * pn t) = [] := List.eq_nil_of_length_eq_zero (by omega)
      rw [h0] at hB
      obtain ⟨p0, cap0, rfl, -⟩ := hB
      go_wp2
      go_ret
      exact ⟨_, rfl, HR.out, Hb.out⟩
    | succ g =>
      have hpos : 0 < (t.drop (112 * k)).length := by omega
      have hpc : pc t k = (t.drop (112 * k)).take 112 := rfl
      have hnx : t.drop (112 * (k + 1)) = (t.drop (112 * k)).drop 112 := by rw [List.drop_drop]; congr 1
      have hrg : (List.range (k + 1)).map (pc t) = (List.range k).map (pc t) ++ [pc t k] := by rw [List.range_succ, List.map_append]; rfl
      have hkl : ((List.range k).map (pc t)).length = k := by simp
      have hUl : (t.drop (112 * k)).length ≤ 4398046511104 := by omega
      obtain ⟨b, o, cap1, rfl, hc1, hc2⟩ := bs_some hB hpos
      have HB := Lib.hid hB
      have HN := Lib.hid (And.intro hpc (And.intro hnx (And.intro hrg hkl)))
      clear hpc hnx hrg hkl hB
      generalize t.drop (112 * k) = U at *
      unfold maxLen at hc2
      have hUz : (0 : Int) < (U.length : Int) := by omega
      have hcz : (U.length : Int) ≤ (cap1 : Int) := by omega
      have hk2 : k + 1 ≤ 4398046511104 := by omega
      have HD := Lib.hid hdl
      have HP := Lib.hid hpn
      have HI := Lib.hid hig
      clear hdl hpn hig
      by_cases h112 : U.length ≤ 112
      · have hmz : (U.length : Int) ≤ 112 := by omega
        go_wp2_with (first
          | (at_builtin; refine wpList_app rfl _ _ rfl w.heap.size _ _ [] U rfl rfl (World.ownsRow_nil _ _ _ _) (HB.out.on Hb.out) (by simp; omega) hbz ?_
             intro y w1 hbt hgr
             rw [List.nil_append] at hbt
             have hb1 : Below wr.heap.size wr w1 := ⟨hgr.os, hgr.tape, hgr.output, hgr.size, fun j hj => hgr.block j hj (fun e => by cases e)⟩
             obtain ⟨v2, w2, hap, hR2, hg2, g2, c2, rfl⟩ := row_app (w1.alloc (.cells #[y] 22)) w.heap.size w1.heap.size _ y _ U ((HR.out.on hb1).on (bel1 _ _)) (Bts.on hbt (bel1 _ _)) (cell_new _ _ _) (by have := hb1.size; simp; omega) (by rw [HN.out.2.2.2]; omega) 55
             have HR2 := Lib.hid hR2
             have Hg2 := Lib.hid hg2
             have Hb1 := Lib.hid hb1
             have Hbt := Lib.hid hbt
             obtain ⟨yp, yc, rfl, -⟩ := hbt.bs
             clear hR2 hg2 hb1 hgr hbt)
          | (at_builtin; refine Lib.wpList_append_run _ rfl _ _ _ _ rfl _ _ rfl rfl _ _ hap ?_))
        all_goals (
          go_roundg g
          case measure => have := HI.out; omega
          case rel =>
            have hz1 := Hb1.out.size
            refine ⟨k + 1, by have := HI.out; omega, ?_, ?_, Hb.out.trans ((Hb1.out.mono hbz).trans ((HR.out.on Hb1.out).bel Hg2.out (by omega)))⟩
            · rw [HN.out.2.1, List.drop_eq_nil_of_le h112]; exact ⟨_, _, rfl, Nat.zero_le _, (by unfold maxLen; omega), fun e => (by cases e), .inl rfl⟩
            · have h := HR2.out
              rw [HN.out.2.2.2] at h
              rw [HN.out.2.2.1, HN.out.1]
              rw [List.take_of_length_le h112]; exact h)
      · have hmz : ¬ (U.length : Int) ≤ 112 := by omega
        have hmz1 : (112 : Int) ≤ (U.length : Int) := by omega
        have hmz2 : (112 : Int) ≤ (cap1 : Int) := by omega
        have hYB := bs_take (HB.out.on Hb.out) (n := 112) (c := cap1) (by omega) (by omega) (Nat.le_refl _)
        have hYl : (U.take 112).length = 112 := by rw [List.length_take]; omega
        obtain ⟨Y, hY⟩ : ∃ Y, U.take 112 = Y := ⟨_, rfl⟩
        rw [hY] at hYB hYl
        have HYB := Lib.hid hYB
        have HYl := Lib.hid hYl
        have HY := Lib.hid hY
        clear hY hYB hYl
        go_wp2_with (first
          | (at_builtin; refine wpList_app rfl _ _ rfl w.heap.size _ _ [] Y rfl rfl (World.ownsRow_nil _ _ _ _) HYB.out (by rw [HYl.out]; simp) hbz ?_
             intro y w1 hbt hgr
             rw [List.nil_append] at hbt
             have hb1 : Below wr.heap.size wr w1 := ⟨hgr.os, hgr.tape, hgr.output, hgr.size, fun j hj => hgr.block j hj (fun e => by cases e)⟩
             obtain ⟨v2, w2, hap, hR2, hg2, g2, c2, rfl⟩ := row_app (w1.alloc (.cells #[y] 22)) w.heap.size w1.heap.size _ y _ Y ((HR.out.on hb1).on (bel1 _ _)) (Bts.on hbt (bel1 _ _)) (cell_new _ _ _) (by have := hb1.size; simp; omega) (by rw [HN.out.2.2.2]; omega) 55
             have HR2 := Lib.hid hR2
             have Hg2 := Lib.hid hg2
             have Hb1 := Lib.hid hb1
             have Hbt := Lib.hid hbt
             obtain ⟨yp, yc, rfl, -⟩ := hbt.bs
             clear hR2 hg2 hb1 hgr hbt)
          | (at_builtin; refine Lib.wpList_append_run _ rfl _ _ _ _ rfl _ _ rfl rfl _ _ hap ?_))
        all_goals (
          go_roundg g
          case measure => have := HI.out; omega
          case rel =>
            have hz1 := Hb1.out.size
            refine ⟨k + 1, by have := HI.out; omega, ?_, ?_, Hb.out.trans ((Hb1.out.mono hbz).trans ((HR.out.on Hb1.out).bel Hg2.out (by omega)))⟩
            · rw [HN.out.2.1]; exact bs_drop HB.out (n := 112) (by omega)
            · have h := HR2.out
              rw [HN.out.2.2.2] at h
              rw [HN.out.2.2.1, HN.out.1]
              rw [HY.out]; exact h)
end Go.Proofs.YtafnelpcnfmhfaaDoor
