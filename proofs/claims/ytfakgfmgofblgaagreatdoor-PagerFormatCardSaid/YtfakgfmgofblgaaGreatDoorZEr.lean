/-
  What eraseLater does where there is no later frame.
-/
import Derived.Test.YtfakgfmgofblgaaGreatDoorZLt
namespace Go.Proofs.YtfakgfmgofblgaaGreatDoor
open Go.RowKit Go.Maps
set_option linter.unusedVariables false      -- a walk need not use every condition
attribute [local go_sem ↓] Go.wp_at_zero Go.wp_at_succ

theorem tdiv_lt {n e : Int} (he : 1 ≤ e) (h : n < e * 65536) : ¬ (e < n.tdiv 65536) := by
  have h1 : n.tdiv 65536 = n / 65536 + if 0 ≤ n ∨ 65536 ∣ n then 0 else Int.sign 65536 := Int.tdiv_eq_ediv
  have h2 : Int.sign 65536 = 1 := rfl
  split at h1 <;> omega
theorem tdiv_same {e : Int} {i : Nat} (he : 1 ≤ e) (h : i < 65536) : ¬ (e < (e * 65536 + i).tdiv 65536) := by
  have h1 : (e * 65536 + i).tdiv 65536 = (e * 65536 + i) / 65536 + if 0 ≤ (e * 65536 + i) ∨ 65536 ∣ (e * 65536 + i) then 0 else Int.sign 65536 := Int.tdiv_eq_ediv
  rw [if_pos (.inl (by omega))] at h1
  omega
theorem Wl.later {s : Dsk} {L : Lg} {had : Cs} (h : Wl s L had) {i : Nat} (hi : i < L.slots) : s.later i L.e = false := by
  have hg := h.gd
  unfold Dsk.later latB
  split
  · rename_i hc
    rw [decide_eq_false_iff_not]
    rcases read_con (s := s) (i := 2 + i) h.cl.down (by have := hg.sN; omega) with ⟨b, h1, h2⟩ | ⟨h1, h2⟩
    · rw [h2] at hc ⊢
      have hf : frC s.con i = some (oK b, oN b, oP b) := by unfold frC; rw [h1]; exact frO_yes hc.2
      by_cases hu : i < L.used
      · obtain ⟨K, PP, hK⟩ := laid_at had 0 hg.lay i (Nat.zero_le _) hu
        rw [hf] at hK
        injection hK with hK
        injection hK with h3 h4
        injection h4 with h4 h5
        show ¬ (L.e < (oN b).tdiv 65536)
        rw [h4]
        exact tdiv_same hg.e1 (by have := hg.s2; omega)
      · exact tdiv_lt hg.e1 (hg.old i (by omega) hi _ _ _ hf)
    · rw [h2] at hc
      cases hc.1
  · rfl
set_option maxHeartbeats 2000000 in
theorem eraseNo50 (w : World) (d pb mb l p ms mk ml base : Nat) (tv : Value) (s : Dsk) (L : Lg) (P : Pgr) (h : At w d pb mb s) (hL : LAt w d pb mb l L) (hT : TabOk w) (hP : PAt w d l p ms mk ml base tv P) (hno : ∀ i, i < P.slots → s.later i L.e = false) :
    Calls Tryz.prog 50 #[.pointer (some ⟨p, 0, none⟩)] w fun e w' => e = .returned (.int .i64 0) ∧ Below w.heap.size w w' := by
  have hsl := hP.sl
  have p2 := hP.h2
  have c107 := fun (W : World) (hb : Below w.heap.size w W) (i : Nat) (hi : i < 4096) => isLater107 W d pb mb l p ms mk ml base tv s L P (h.on hb) (hL.on hb) (tab_on hT hb) (hP.on hb) i hi
  have HNO := Lib.hid hno
  clear h hL hP hT hno
  go_enter Tryz.func50, Tryz.ntmps50
  go_wp2
  go_loopg [3, 11] P.slots (fun gk s3 s11 wr => ∃ i : Nat, i + gk = P.slots ∧ s3 = .bool false ∧ s11 = .int .i64 i ∧ Hid (Below w.heap.size w wr))
  case atStart => exact ⟨0, by omega, rfl, rfl, Below.refl _ _⟩
  case round =>
    obtain ⟨i, hig, rfl, rfl, hB⟩ := hrel
    cases gk with
    | zero =>
      obtain rfl : i = P.slots := by omega
      go_wp2
      go_ret
      exact ⟨rfl, hB.out⟩
    | succ g =>
      have hlt : (i : Int) < (P.slots : Int) := by omega
      have c := c107 wr hB.out i (by omega)
      rw [HNO.out i (by omega)] at c
      go_wp2_with (first | (go_at_call 107; refine c.mono ?_; rintro e w1 ⟨rfl, hb1⟩; have HB1 := Lib.hid (bel_then hB.out hb1); clear hb1))
      go_roundg g
      case rel => exact ⟨i + 1, by omega, rfl, by first | rfl | simp, HB1⟩
      case measure => omega
end Go.Proofs.YtfakgfmgofblgaaGreatDoor
