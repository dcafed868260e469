/-
  The reader of package value, open or not, and whatever is wrong: a byte of a string.
-/
import Derived.Test.YtbicodlclmdgaaaGreatDoorRoC
namespace Go.Proofs.YtbicodlclmdgaaaGreatDoor
open Go.RowKit
set_option linter.unusedVariables false      -- a walk need not use every condition

theorem esc_x {c : UInt8} {s : List UInt8} (h1 : c.toNat ≠ 39) (h2 : c.toNat ≠ 92) : pEsc (c :: s) = (strip [120] (c :: s)).bind pHid := by
  simp only [pEsc, strip]
  rw [if_neg (by omega)]
  by_cases h : c.toNat = 120
  · have : c = 120 := UInt8.toNat_inj.1 h
    subst this
    rw [if_pos h, if_pos rfl]; rfl
  · rw [if_neg h, if_neg (fun e => h (by rw [← e]; rfl))]; rfl
theorem map_none {α : Type} {x : Option α} (h : (x.map fun y => ((), y)) = none) : x = none := by cases x with | none => rfl | some y => cases h
theorem map_some {α : Type} {x : Option α} {y : α} (h : (x.map fun y => ((), y)) = some ((), y)) : x = some y := by
  cases x with
  | none => cases h
  | some z => simpa using h

set_option maxHeartbeats 400000 in
set_option maxRecDepth 20000 in
theorem chr_a (w : World) (r : Nat) (T : ByteArray) (p : Nat) (o : Bool) (k : Nat) (h : Ro w r T p o k) (hlt : p < T.size) (hT : T.size ≤ maxLen) (n1 : (decide ((T[p].toNat : Int) < 32) || decide (126 < (T[p].toNat : Int))) = true) :
    Calls Tryz.prog 116 #[.pointer (some ⟨r, 0, none⟩)] w fun e w' => Fails r T w e w' := by
  unfold maxLen at hT
  have hr := Rq.drew h
  obtain ⟨c0, c1, c2, c3, cf⟩ := h.cells
  have c105 := fun w => noSign_is _ _ n1 w
  clear n1
  go_enter Tryz.func116, Tryz.ntmps116
  go_wp2
  go_region
  go_wp2_with (first
    | (go_at_call 105; refine (c105 _).mono ?_; rintro e w1 ⟨rfl, rfl⟩)
    | (go_at_call 81; refine (giveUp81 _ r T p o k hr.2 (by omega)).mono ?_; rintro e w4 ⟨q2, hq2, rfl, hg⟩))
  exact ⟨rfl, q2, hq2, rfl, hr.1.trans hg⟩
set_option maxHeartbeats 400000 in
set_option maxRecDepth 20000 in
theorem chr_b (w : World) (r : Nat) (T : ByteArray) (p : Nat) (o : Bool) (k : Nat) (h : Ro w r T p o k) (hlt : p < T.size) (hT : T.size ≤ maxLen) (n1 : (decide ((T[p].toNat : Int) < 32) || decide (126 < (T[p].toNat : Int))) = false) (h92 : T[p].toNat ≠ 92) :
    Calls Tryz.prog 116 #[.pointer (some ⟨r, 0, none⟩)] w fun e w' => e = .returned (.int .u8 T[p].toNat) ∧ Rq r T (p + 1) o k w w' := by
  unfold maxLen at hT
  have hr := (Rq.drew h).step
  obtain ⟨c0, c1, c2, c3, cf⟩ := h.cells
  have c105 := fun w => noSign_is _ _ n1 w
  have hw : IntKind.i64.wrap ((p : Int) + 1) = (p : Int) + 1 := by rw [IntKind.wrap_i64]; omega
  have hne : ((T[p].toNat : Int) != 92) = true := by simp; omega
  clear n1 h92
  go_enter Tryz.func116, Tryz.ntmps116
  go_wp2
  go_region
  go_wp2_with (first
    | (go_at_call 105; refine (c105 _).mono ?_; rintro e w1 ⟨rfl, rfl⟩))
  go_ret
  exact ⟨rfl, hr⟩
set_option maxHeartbeats 400000 in
set_option maxRecDepth 20000 in
theorem chr_c (w : World) (r : Nat) (T : ByteArray) (p : Nat) (o : Bool) (k : Nat) (h : Ro w r T p o k) (hlt : p < T.size) (hT : T.size ≤ maxLen) (n1 : (decide ((T[p].toNat : Int) < 32) || decide (126 < (T[p].toNat : Int))) = false) (h92 : T[p].toNat = 92) (hend : p + 1 = T.size) :
    Calls Tryz.prog 116 #[.pointer (some ⟨r, 0, none⟩)] w fun e w' => (o = true ∧ e = .returned (.int .u8 255) ∧ Rq r T (p + 1) o k w w') ∨ (o = false ∧ Fails r T w e w') := by
  unfold maxLen at hT
  have hr := (Rq.drew h).step
  obtain ⟨c0, c1, c2, c3, cf⟩ := h.cells
  have c105 := fun w => noSign_is _ _ n1 w
  have hw : IntKind.i64.wrap ((p : Int) + 1) = (p : Int) + 1 := by rw [IntKind.wrap_i64]; omega
  have hne : ((T[p].toNat : Int) != 92) = false := by simp; omega
  have c96 := cut96_end _ r T (p + 1) o k hr.2 hend
  clear n1 h92
  go_enter Tryz.func116, Tryz.ntmps116
  go_wp2
  go_region
  go_wp2_with (first
    | (go_at_call 105; refine (c105 _).mono ?_; rintro e w1 ⟨rfl, rfl⟩)
    | (go_at_call 96; refine c96.mono ?_; rintro e w2 (⟨ho, rfl, h2⟩ | ⟨ho, q2, hq2, rfl, hg⟩)))
  · go_ret
    exact .inl ⟨ho, rfl, hr.trans h2⟩
  · exact ⟨rfl, .inr ⟨ho, q2, hq2, rfl, hr.1.trans hg⟩⟩
set_option maxHeartbeats 400000 in
set_option maxRecDepth 20000 in
theorem chr_d (w : World) (r : Nat) (T : ByteArray) (p : Nat) (o : Bool) (k : Nat) (h : Ro w r T p o k) (hlt : p < T.size) (hT : T.size ≤ maxLen) (n1 : (decide ((T[p].toNat : Int) < 32) || decide (126 < (T[p].toNat : Int))) = false) (h92 : T[p].toNat = 92) (q : Nat) (hq0 : q = p + 1) (hlt1 : q < T.size) (hq : T[q].toNat = 39) :
    Calls Tryz.prog 116 #[.pointer (some ⟨r, 0, none⟩)] w fun e w' => e = .returned (.int .u8 T[q].toNat) ∧ Rq r T (q + 1) o k w w' := by
  have hTm := hT
  unfold maxLen at hT
  have hr := (Rq.drew h).step
  rw [← hq0] at hr
  obtain ⟨c0, c1, c2, c3, cf⟩ := h.cells
  have c105 := fun w => noSign_is _ _ n1 w
  have hw : IntKind.i64.wrap ((p : Int) + 1) = (p : Int) + 1 := by rw [IntKind.wrap_i64]; omega
  have hww : IntKind.i64.wrap ((q : Int) + 1) = (q : Int) + 1 := by rw [IntKind.wrap_i64]; omega
  have hpq : Hid (p < q) := by show _ < _; omega
  have hne : ((T[p].toNat : Int) != 92) = false := by simp; omega
  have c96 := cut96_no _ r T q o k hr.2 hlt1
  clear n1 h92 hq0
  have hq1 : ((T[q].toNat : Int) == 39) = true := by simp; omega
  clear hq
  go_enter Tryz.func116, Tryz.ntmps116
  go_wp2
  go_region
  go_wp2_with (first
    | (go_at_call 105; refine (c105 _).mono ?_; rintro e w1 ⟨rfl, rfl⟩)
    | (go_at_call 96; refine c96.mono ?_; rintro e w2 ⟨rfl, h2⟩; obtain ⟨d0, d1, d2, d3, df⟩ := h2.2.cells; clear c96 c0 c1 c2 c3 cf))
  go_region
  go_wp2
  go_ret
  exact ⟨rfl, (hr.trans h2).dr.step⟩
set_option maxHeartbeats 400000 in
set_option maxRecDepth 20000 in
theorem chr_e (w : World) (r : Nat) (T : ByteArray) (p : Nat) (o : Bool) (k : Nat) (h : Ro w r T p o k) (hlt : p < T.size) (hT : T.size ≤ maxLen) (n1 : (decide ((T[p].toNat : Int) < 32) || decide (126 < (T[p].toNat : Int))) = false) (h92 : T[p].toNat = 92) (q : Nat) (hq0 : q = p + 1) (hlt1 : q < T.size) (hq : T[q].toNat = 92) :
    Calls Tryz.prog 116 #[.pointer (some ⟨r, 0, none⟩)] w fun e w' => e = .returned (.int .u8 T[q].toNat) ∧ Rq r T (q + 1) o k w w' := by
  have hTm := hT
  unfold maxLen at hT
  have hr := (Rq.drew h).step
  rw [← hq0] at hr
  obtain ⟨c0, c1, c2, c3, cf⟩ := h.cells
  have c105 := fun w => noSign_is _ _ n1 w
  have hw : IntKind.i64.wrap ((p : Int) + 1) = (p : Int) + 1 := by rw [IntKind.wrap_i64]; omega
  have hww : IntKind.i64.wrap ((q : Int) + 1) = (q : Int) + 1 := by rw [IntKind.wrap_i64]; omega
  have hpq : Hid (p < q) := by show _ < _; omega
  have hne : ((T[p].toNat : Int) != 92) = false := by simp; omega
  have c96 := cut96_no _ r T q o k hr.2 hlt1
  clear n1 h92 hq0
  have hq1 : ((T[q].toNat : Int) == 39) = false := by simp; omega
  have hq2 : ((T[q].toNat : Int) == 92) = true := by simp; omega
  clear hq
  go_enter Tryz.func116, Tryz.ntmps116
  go_wp2
  go_region
  go_wp2_with (first
    | (go_at_call 105; refine (c105 _).mono ?_; rintro e w1 ⟨rfl, rfl⟩)
    | (go_at_call 96; refine c96.mono ?_; rintro e w2 ⟨rfl, h2⟩; obtain ⟨d0, d1, d2, d3, df⟩ := h2.2.cells; clear c96 c0 c1 c2 c3 cf))
  go_region
  go_wp2
  go_ret
  exact ⟨rfl, (hr.trans h2).dr.step⟩
set_option maxHeartbeats 400000 in
set_option maxRecDepth 20000 in
theorem chr_f (w : World) (r : Nat) (T : ByteArray) (p : Nat) (o : Bool) (k : Nat) (h : Ro w r T p o k) (hlt : p < T.size) (hT : T.size ≤ maxLen) (n1 : (decide ((T[p].toNat : Int) < 32) || decide (126 < (T[p].toNat : Int))) = false) (h92 : T[p].toNat = 92) (q : Nat) (hq0 : q = p + 1) (hlt1 : q < T.size) (hq : ¬ (T[q].toNat = 39 ∨ T[q].toNat = 92)) :
    Calls Tryz.prog 116 #[.pointer (some ⟨r, 0, none⟩)] w
      (Comes r T o w ((strip [120] (rest T q)).bind pHid) fun c p' e w' => e = .returned (.int .u8 c.toNat) ∧ p < p' ∧ Rq r T p' o k w w') := by
  have hTm := hT
  unfold maxLen at hT
  have hr := (Rq.drew h).step
  rw [← hq0] at hr
  obtain ⟨c0, c1, c2, c3, cf⟩ := h.cells
  have c105 := fun w => noSign_is _ _ n1 w
  have hw : IntKind.i64.wrap ((p : Int) + 1) = (p : Int) + 1 := by rw [IntKind.wrap_i64]; omega
  have hww : IntKind.i64.wrap ((q : Int) + 1) = (q : Int) + 1 := by rw [IntKind.wrap_i64]; omega
  have hpq : Hid (p < q) := by show _ < _; omega
  have hne : ((T[p].toNat : Int) != 92) = false := by simp; omega
  have c96 := cut96_no _ r T q o k hr.2 hlt1
  clear n1 h92 hq0
  have hq1 : ((T[q].toNat : Int) == 39) = false := by simp; omega
  have hq2 : ((T[q].toNat : Int) == 92) = false := by simp; omega
  clear hq
  go_enter Tryz.func116, Tryz.ntmps116
  go_wp2
  go_region
  go_wp2_with (first
    | (go_at_call 105; refine (c105 _).mono ?_; rintro e w1 ⟨rfl, rfl⟩)
    | (go_at_call 96; refine c96.mono ?_; rintro e w2 ⟨rfl, h2⟩; obtain ⟨d0, d1, d2, d3, df⟩ := h2.2.cells; clear c96 c0 c1 c2 c3 cf))
  go_region
  have c99 := word99o _ r T ⟨#[120]⟩ q o k (hr.trans h2).dr.2 (by omega) hTm
  have c128 := fun w q h hq => hidden128 w r T q o k h hq hTm
  go_wp2_with (first
    | (go_at_call 99; refine c99.mono ?_; rintro e w5 (⟨u5, p5, hp5, ⟨rfl, hle5, -, h5⟩, hs5⟩ | ⟨⟨q2, hq2, rfl, hg⟩, hs5⟩))
    | (go_at_call 128; refine (c128 _ p5 h5.2 hp5).mono ?_; rintro e w6 (⟨c6, p6, hp6, ⟨rfl, hle6, h6⟩, hs6⟩ | ⟨⟨q2, hq2, rfl, hg⟩, hs6⟩)))
  · go_ret
    have hpp := hpq.out
    refine .inl ⟨c6, p6, hp6, ⟨rfl, by omega, (((hr.trans h2).dr.trans h5).trans h6)⟩, fun ho => ?_⟩
    rw [map_some (hs5.out ho)]; exact hs6.out ho
  · refine ⟨rfl, .inr ⟨⟨q2, hq2, rfl, (((hr.trans h2).dr.trans h5)).1.trans hg⟩, fun ho => ?_⟩⟩
    rw [map_some (hs5.out ho)]; exact hs6.out ho
  · refine ⟨rfl, .inr ⟨⟨q2, hq2, rfl, (hr.trans h2).dr.1.trans hg⟩, fun ho => ?_⟩⟩
    rw [map_none (hs5.out ho)]; rfl
theorem char116 (w : World) (r : Nat) (T : ByteArray) (p : Nat) (o : Bool) (k : Nat) (h : Ro w r T p o k) (hlt : p < T.size) (hT : T.size ≤ maxLen) :
    Calls Tryz.prog 116 #[.pointer (some ⟨r, 0, none⟩)] w
      (Comes r T o w (pChr (rest T p)) fun c p' e w' => e = .returned (.int .u8 c.toNat) ∧ p < p' ∧ Rq r T p' o k w w') := by
  cases hn : noSg T[p] with
  | true =>
    have n1 : (decide ((T[p].toNat : Int) < 32) || decide (126 < (T[p].toNat : Int))) = true := by unfold noSg at hn; simp at hn ⊢; omega
    refine (chr_a w r T p o k h hlt hT n1).mono fun e w' hf => .inr ⟨hf, fun _ => ?_⟩
    rw [rest_cons hlt]; simp only [pChr, hn, if_true]
  | false =>
    have n1 : (decide ((T[p].toNat : Int) < 32) || decide (126 < (T[p].toNat : Int))) = false := by unfold noSg at hn; simp at hn ⊢; omega
    by_cases h92 : T[p].toNat = 92
    · have hsp : pChr (rest T p) = pEsc (rest T (p + 1)) := by rw [rest_cons hlt]; simp only [pChr, hn, Bool.false_eq_true, if_false]; rw [if_neg (by omega)]
      by_cases hlt1 : p + 1 < T.size
      · by_cases hq : T[p + 1].toNat = 39 ∨ T[p + 1].toNat = 92
        · have hsp' : pChr (rest T p) = some (T[p + 1], rest T (p + 1 + 1)) := by rw [hsp, rest_cons hlt1]; simp only [pEsc]; rw [if_pos hq]
          rcases hq with hq | hq
          · refine (chr_d w r T p o k h hlt hT n1 h92 _ rfl hlt1 hq).mono ?_
            rintro e w' ⟨rfl, hR⟩
            exact .inl ⟨_, _, by omega, ⟨rfl, by omega, hR⟩, fun _ => hsp'⟩
          · refine (chr_e w r T p o k h hlt hT n1 h92 _ rfl hlt1 hq).mono ?_
            rintro e w' ⟨rfl, hR⟩
            exact .inl ⟨_, _, by omega, ⟨rfl, by omega, hR⟩, fun _ => hsp'⟩
        · have hsp' : pChr (rest T p) = (strip [120] (rest T (p + 1))).bind pHid := by
            rw [hsp, rest_cons hlt1]
            exact esc_x (by omega) (by omega)
          rw [hsp']
          exact chr_f w r T p o k h hlt hT n1 h92 _ rfl hlt1 hq
      · have hend : p + 1 = T.size := by omega
        refine (chr_c w r T p o k h hlt hT n1 h92 hend).mono ?_
        rintro e w' (⟨ho, rfl, hR⟩ | ⟨ho, hf⟩)
        · exact .inl ⟨255, p + 1, by omega, ⟨rfl, by omega, hR⟩, fun h => by rw [ho] at h; cases h⟩
        · exact .inr ⟨hf, fun _ => by rw [hsp, rest_nil hend]; rfl⟩
    · refine (chr_b w r T p o k h hlt hT n1 h92).mono ?_
      rintro e w' ⟨rfl, hR⟩
      refine .inl ⟨_, _, by omega, ⟨rfl, by omega, hR⟩, fun _ => ?_⟩
      rw [rest_cons hlt]; simp only [pChr, hn, Bool.false_eq_true, if_false]; rw [if_pos h92]
end Go.Proofs.YtbicodlclmdgaaaGreatDoor
