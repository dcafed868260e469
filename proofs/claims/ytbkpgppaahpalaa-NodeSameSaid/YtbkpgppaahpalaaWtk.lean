/-
  with of package node, of keys and of kids.
-/
import Derived.Test.YtbkpgppaahpalaaWth
import Derived.Test.YtbkpgppaahpalaaRcm
namespace Go.Proofs.Ytbkpgppaahpalaa
open Go.RowKit
set_option linter.unusedVariables false      -- a walk need not use every condition

theorem part_first {α : Type} {E : World → α → List Value → Prop} {w w0 : World} {p : Option Addr} {cap k : Nat} {L : List α} {vs : List Value} (h : Fl w (.slice p L.length cap) 1 L.length vs) (he : Enc E 1 w0 L vs) (hk : k ≤ L.length) : Fl w (.slice p k k) 1 k (vs.take (k * 1)) ∧ Enc E 1 w0 (L.take k) (vs.take (k * 1)) := by
  obtain ⟨p', c', e, h1, h2, h3, h4, h5⟩ := h
  injection e with e1 e2 e3
  subst e1 e3
  have ht := he.take k
  refine ⟨⟨p, k, rfl, Nat.le_refl _, by omega, fun e => by have := h3 e; omega, by rw [ht.1, List.length_take, Nat.min_eq_left hk], ?_⟩, ht⟩
  rcases h5 with h5 | ⟨g, o, rfl, hr⟩
  · exact .inl (by omega)
  · exact .inr ⟨g, o, rfl, fun j u hu => hr j u (by rw [List.getElem?_take] at hu; split at hu; exact hu; cases hu)⟩
theorem part_last {α : Type} {E : World → α → List Value → Prop} {w w0 : World} {p : Option Addr} {cap k : Nat} {L : List α} {vs : List Value} (h : Fl w (.slice p L.length cap) 1 L.length vs) (he : Enc E 1 w0 L vs) (hk : k ≤ L.length) : Fl w (.slice (if cap = k then p else p.map (·.add k)) (L.length - k) (cap - k)) 1 (L.length - k) (vs.drop (k * 1)) ∧ Enc E 1 w0 (L.drop k) (vs.drop (k * 1)) := by
  obtain ⟨p', c', e, h1, h2, h3, h4, h5⟩ := h
  injection e with e1 e2 e3
  subst e1 e3
  have ht := he.drop k
  refine ⟨⟨_, cap - k, rfl, by omega, by omega, fun e => ?_, by rw [ht.1, List.length_drop], ?_⟩, ht⟩
  · by_cases hc : cap = k
    · omega
    · rw [if_neg hc] at e
      cases p with
      | none => have := h3 rfl; omega
      | some a => cases e
  · by_cases h0 : L.length - k = 0
    · exact .inl h0
    · refine .inr ?_
      obtain ⟨g, o, rfl, hr⟩ := h5.resolve_left (by omega)
      refine ⟨g, o + k, ?_, ?_⟩
      · rw [if_neg (by omega)]
        simp only [Option.map_some]
        rw [Go.WideShapes.add_plain]
      · have := range_sub hr (k * 1) vs.length
        rw [List.take_of_length_le (by rw [List.length_drop]; omega)] at this
        rwa [Nat.mul_one] at this ⊢
set_option maxHeartbeats 4000000 in
set_option maxRecDepth 100000 in
theorem with66 (w w0 : World) (v x : Value) (L : List (List UInt8)) (xs : List Value) (c : List UInt8) (k : Nat) (h : Fl w v 1 L.length xs) (he : Enc keyV 1 w0 L xs) (hx : Bs w0 x c) (hk : k ≤ L.length) (hb : (L.length + 1) * 24 ≤ 140737488355328) :
    Calls Try.prog 66 #[v, .int .i64 k, x] w fun e w' => ∃ v' ys, e = .returned v' ∧ w'.ownsRow w.heap.size 27 1 v' (L.length + 1) ys ∧ Enc keyV 1 w0 (L.take k ++ c :: L.drop k) ys ∧ Below w.heap.size w w' := by
  have h0 := h
  obtain ⟨p, cap, rfl, hlc, -⟩ := h0
  have hcv : keyV w0 c [x] := ⟨x, rfl, hx⟩
  obtain ⟨xp, xc, rfl, -, -⟩ := hx.slice
  obtain ⟨W1, hW1⟩ : ∃ W, W = w.drew.alloc (Obj.cells #[.slice xp c.length xc] 27) := ⟨_, rfl⟩
  have hB1 : Below w.heap.size w W1 := by rw [hW1]; exact bel_then (Below.refl _ _).drew (bel1 _ _)
  have hs1 : W1.heap.size = w.heap.size + 1 := by rw [hW1]; simp
  have hrg : W1.rangeAt w.heap.size 0 [.slice xp c.length xc] := by
    rw [hW1]
    exact range_lit w.drew [.slice xp c.length xc] 27 (0, 0)
  have hd := h.on hB1
  obtain ⟨f1, e1⟩ := part_first hd he hk
  obtain ⟨f2', e2⟩ := part_last hd he hk
  generalize xs.take (k * 1) = vs at *
  generalize xs.drop (k * 1) = us at *
  obtain ⟨i0, hi, hz0, hz1, hz2⟩ := info_parts infoE27
  have fx : Fl W1 (.slice (some ⟨w.heap.size, 0, none⟩) 1 1) 1 1 [.slice xp c.length xc] := ⟨_, 1, rfl, Nat.le_refl _, by unfold maxLen; omega, fun e => (by cases e), rfl, .inr ⟨_, _, rfl, hrg⟩⟩
  obtain ⟨v1, w1, hap1, -, hB2, hO1, -⟩ := app_fl 23 27 1 24 i0 _ Try.underlying23 hi hz0 hz1 hz2 rfl (by decide) W1 p k 1 _ vs _ 23 f1 fx (hcv.ones) (by omega) (by unfold maxLen; omega)
  have ho1 := hO1 (by decide)
  have f2 := f2'.on hB2
  obtain ⟨v2, w2, hap2, ho2, hB3⟩ := app_ow 23 27 1 24 i0 _ Try.underlying23 hi hz0 hz1 hz2 rfl (by decide) w1 W1.heap.size (k + 1) (L.length - k) v1 _ _ us 23 ho1 f2 (enc_ones (by decide) e2 (fun a x h => h.ones)) (by omega) (by unfold maxLen; omega) hB2.size
  have hB12 : Below W1.heap.size W1 w2 := hB2.trans hB3
  have hR : Hid (w2.ownsRow w.heap.size 27 1 v2 (L.length + 1) ((vs ++ [.slice xp c.length xc]) ++ us) ∧ Enc keyV 1 w0 (L.take k ++ c :: L.drop k) ((vs ++ [.slice xp c.length xc]) ++ us)) := by
    refine ⟨?_, ?_⟩
    · rw [show L.length + 1 = k + 1 + (L.length - k) by omega]
      exact ho2.mono (by omega)
    · have e : L.take k ++ c :: L.drop k = (L.take k ++ [c]) ++ L.drop k := by simp
      rw [e]
      exact (e1.app (enc_one hcv rfl)).app e2
  have HB := Lib.hid (bel_then hB1 hB12)
  have HAP := Lib.hid (And.intro hap1 hap2)
  clear hap1 hap2 hd f1 e1 fx hO1 ho1 f2 f2' e2 ho2 hB3 hB2 hB12 hB1 hrg hcv hi hz0 hz1 hz2 h he hs1
  generalize L.length = N at *
  have hkz : (k : Int) ≤ (N : Int) := by omega
  have hk0 : (0 : Int) ≤ (k : Int) := by omega
  have hkc : (k : Int) ≤ (cap : Int) := by omega
  have hNc : (N : Int) ≤ (cap : Int) := by omega
  subst hW1
  by_cases hc : cap = k
  · have hap2 := HAP.out.2
    rw [if_pos hc] at hap2
    obtain rfl : N = cap := by omega
    subst hc
    rw [Nat.sub_self] at hap2
    have HP1 := Lib.hid HAP.out.1
    have HP2 := Lib.hid hap2
    clear hap2 HAP
    have tk : True := trivial
    go_enter Try.func66, Try.ntmps66
    go_wp2
    go_region_held3 (fun _ => True) (exact trivial)
      (first
        | (clear tk; refine step_run (by rfl) _ _ 23 (by rfl) _ _ _ _ (by rfl) (by rfl) HP1.out ?_)
        | (refine step_run (by rfl) _ _ 23 (by rfl) _ _ _ _ (by rfl) (by rfl) HP2.out ?_))
    go_wp2
    go_ret
    exact ⟨_, _, rfl, hR.out.1, hR.out.2, HB.out⟩
  · have hap2 := HAP.out.2
    rw [if_neg hc] at hap2
    have HP1 := Lib.hid HAP.out.1
    have HP2 := Lib.hid hap2
    clear hap2 HAP
    have tk : True := trivial
    go_enter Try.func66, Try.ntmps66
    go_wp2
    go_region_held3 (fun _ => True) (exact trivial)
      (first
        | (clear tk; refine step_run (by rfl) _ _ 23 (by rfl) _ _ _ _ (by rfl) (by rfl) HP1.out ?_)
        | (refine step_run (by rfl) _ _ 23 (by rfl) _ _ _ _ (by rfl) (by rfl) HP2.out ?_))
    go_wp2
    go_ret
    exact ⟨_, _, rfl, hR.out.1, hR.out.2, HB.out⟩
set_option maxHeartbeats 4000000 in
set_option maxRecDepth 100000 in
theorem with67 (w w0 : World) (v : Value) (L : List (Int)) (xs : List Value) (c : Int) (k : Nat) (h : Fl w v 1 L.length xs) (he : Enc kidV 1 w0 L xs) (hx : I64 c) (hk : k ≤ L.length) (hb : (L.length + 1) * 8 ≤ 140737488355328) :
    Calls Try.prog 67 #[v, .int .i64 k, .int .i64 c] w fun e w' => ∃ v' ys, e = .returned v' ∧ w'.ownsRow w.heap.size 3 1 v' (L.length + 1) ys ∧ Enc kidV 1 w0 (L.take k ++ c :: L.drop k) ys ∧ Below w.heap.size w w' := by
  have h0 := h
  obtain ⟨p, cap, rfl, hlc, -⟩ := h0
  have hcv : kidV w0 c [.int .i64 c] := ⟨rfl, hx⟩
  obtain ⟨W1, hW1⟩ : ∃ W, W = w.drew.alloc (Obj.cells #[.int .i64 c] 3) := ⟨_, rfl⟩
  have hB1 : Below w.heap.size w W1 := by rw [hW1]; exact bel_then (Below.refl _ _).drew (bel1 _ _)
  have hs1 : W1.heap.size = w.heap.size + 1 := by rw [hW1]; simp
  have hrg : W1.rangeAt w.heap.size 0 [.int .i64 c] := by
    rw [hW1]
    exact range_lit w.drew [.int .i64 c] 3 (0, 0)
  have hd := h.on hB1
  obtain ⟨f1, e1⟩ := part_first hd he hk
  obtain ⟨f2', e2⟩ := part_last hd he hk
  generalize xs.take (k * 1) = vs at *
  generalize xs.drop (k * 1) = us at *
  obtain ⟨i0, hi, hz0, hz1, hz2⟩ := info_parts infoE3
  have fx : Fl W1 (.slice (some ⟨w.heap.size, 0, none⟩) 1 1) 1 1 [.int .i64 c] := ⟨_, 1, rfl, Nat.le_refl _, by unfold maxLen; omega, fun e => (by cases e), rfl, .inr ⟨_, _, rfl, hrg⟩⟩
  obtain ⟨v1, w1, hap1, -, hB2, hO1, -⟩ := app_fl 24 3 1 8 i0 _ Try.underlying24 hi hz0 hz1 hz2 rfl (by decide) W1 p k 1 _ vs _ 24 f1 fx (hcv.ones) (by omega) (by unfold maxLen; omega)
  have ho1 := hO1 (by decide)
  have f2 := f2'.on hB2
  obtain ⟨v2, w2, hap2, ho2, hB3⟩ := app_ow 24 3 1 8 i0 _ Try.underlying24 hi hz0 hz1 hz2 rfl (by decide) w1 W1.heap.size (k + 1) (L.length - k) v1 _ _ us 24 ho1 f2 (enc_ones (by decide) e2 (fun a x h => h.ones)) (by omega) (by unfold maxLen; omega) hB2.size
  have hB12 : Below W1.heap.size W1 w2 := hB2.trans hB3
  have hR : Hid (w2.ownsRow w.heap.size 3 1 v2 (L.length + 1) ((vs ++ [.int .i64 c]) ++ us) ∧ Enc kidV 1 w0 (L.take k ++ c :: L.drop k) ((vs ++ [.int .i64 c]) ++ us)) := by
    refine ⟨?_, ?_⟩
    · rw [show L.length + 1 = k + 1 + (L.length - k) by omega]
      exact ho2.mono (by omega)
    · have e : L.take k ++ c :: L.drop k = (L.take k ++ [c]) ++ L.drop k := by simp
      rw [e]
      exact (e1.app (enc_one hcv rfl)).app e2
  have HB := Lib.hid (bel_then hB1 hB12)
  have HAP := Lib.hid (And.intro hap1 hap2)
  clear hap1 hap2 hd f1 e1 fx hO1 ho1 f2 f2' e2 ho2 hB3 hB2 hB12 hB1 hrg hcv hi hz0 hz1 hz2 h he hs1
  generalize L.length = N at *
  have hkz : (k : Int) ≤ (N : Int) := by omega
  have hk0 : (0 : Int) ≤ (k : Int) := by omega
  have hkc : (k : Int) ≤ (cap : Int) := by omega
  have hNc : (N : Int) ≤ (cap : Int) := by omega
  subst hW1
  by_cases hc : cap = k
  · have hap2 := HAP.out.2
    rw [if_pos hc] at hap2
    obtain rfl : N = cap := by omega
    subst hc
    rw [Nat.sub_self] at hap2
    have HP1 := Lib.hid HAP.out.1
    have HP2 := Lib.hid hap2
    clear hap2 HAP
    have tk : True := trivial
    go_enter Try.func67, Try.ntmps67
    go_wp2
    go_region_held3 (fun _ => True) (exact trivial)
      (first
        | (clear tk; refine step_run (by rfl) _ _ 24 (by rfl) _ _ _ _ (by rfl) (by rfl) HP1.out ?_)
        | (refine step_run (by rfl) _ _ 24 (by rfl) _ _ _ _ (by rfl) (by rfl) HP2.out ?_))
    go_wp2
    go_ret
    exact ⟨_, _, rfl, hR.out.1, hR.out.2, HB.out⟩
  · have hap2 := HAP.out.2
    rw [if_neg hc] at hap2
    have HP1 := Lib.hid HAP.out.1
    have HP2 := Lib.hid hap2
    clear hap2 HAP
    have tk : True := trivial
    go_enter Try.func67, Try.ntmps67
    go_wp2
    go_region_held3 (fun _ => True) (exact trivial)
      (first
        | (clear tk; refine step_run (by rfl) _ _ 24 (by rfl) _ _ _ _ (by rfl) (by rfl) HP1.out ?_)
        | (refine step_run (by rfl) _ _ 24 (by rfl) _ _ _ _ (by rfl) (by rfl) HP2.out ?_))
    go_wp2
    go_ret
    exact ⟨_, _, rfl, hR.out.1, hR.out.2, HB.out⟩
end Go.Proofs.Ytbkpgppaahpalaa
