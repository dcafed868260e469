/-
  What the document's Parse does at a text with a - ahead, and at any.
-/
import Derived.Test.YtphkleiamlllgaaDoorRefParse
import Derived.Lib.IndexBytes
namespace Go.Proofs.YtphkleiamlllgaaDoor
open Go.RowKit


theorem extract_data (s : ByteArray) : (s.extract 1 s.size).data.toList = s.data.toList.drop 1 := by
  rw [Go.Lib.extract_data]
  exact List.take_of_length_le (by rw [List.length_drop, ← size_len]; exact Nat.le_refl _)

set_option maxHeartbeats 2000000 in
/-- A text with a - ahead. -/
theorem refParse_neg (s : ByteArray) (w : World) (hs : s.size ≤ 140737488351232) (hne : 0 < s.size) (hn : negl s.data.toList = true) :
    Calls Tryd.prog 6 #[.string s] w fun e w' => e = .returned (.tuple #[.int .i64 (pv s.data.toList), .int .i64 (pe s.data.toList)]) ∧ w' = w := by
  obtain ⟨t, hext⟩ : ∃ t : ByteArray, s.extract 1 s.size = t := ⟨_, rfl⟩
  have hb : body s.data.toList = s.data.toList.drop 1 := by unfold body; rw [hn]; rfl
  have hl : t.data.toList = body s.data.toList := by rw [hb, ← hext]; exact extract_data s
  have hts : t.size ≤ 140737488351232 := by
    have h1 := body_le s.data.toList
    rw [← hl, ← size_len, ← size_len] at h1
    omega
  have h45 : (s[0].toNat : Int) = 45 := by
    obtain ⟨⟨l⟩⟩ := s
    cases l with
    | nil => exact absurd hne (by decide)
    | cons c r =>
      have : c.toNat = 45 := by simpa [negl] using hn
      show (c.toNat : Int) = 45
      omega
  have hsv : sval s.data.toList = -(mag 0 t.data.toList : Int) := by unfold sval; rw [hn, hl]; rfl
  have h1s : (1 : Int) ≤ (s.size : Int) := by omega
  by_cases ht0 : t.size = 0
  · have HF : Hid (pv s.data.toList = 0 ∧ pe s.data.toList = 10) := by
      refine ends_number (form_empty ?_)
      rw [← hl]
      exact List.eq_nil_of_length_eq_zero ((size_len t).symm.trans ht0)
    have em : t.toList.isEmpty = true ∧ t.toList = [] := by
      have h : t.toList = [] := by rw [Go.Lib.toList_data]; exact List.eq_nil_of_length_eq_zero ((size_len t).symm.trans ht0)
      exact ⟨by rw [h]; rfl, h⟩
    obtain ⟨em1, em2⟩ := em
    clear hsv hl hb hn ht0
    go_enter Tryd.func6, Tryd.ntmps6
    go_wp2
    go_ret2
    exact ⟨ret_two HF.out.1.symm HF.out.2.symm, rfl⟩
  have htp : 0 < t.size := by omega
  have hd0 : dig0 t.data.toList = decide (t[0].toNat = 48) := by
    obtain ⟨⟨l⟩⟩ := t
    cases l with
    | nil => exact absurd htp (by decide)
    | cons c r => rfl
  obtain ⟨em1, em2⟩ := toList_ne htp
  by_cases hz : t[0].toNat = 48
  · have HF : Hid (pv s.data.toList = 0 ∧ pe s.data.toList = 10) := by
      refine ends_number ?_
      unfold form
      rw [← hl, hd0, hn, decide_eq_true hz]
      simp
    have z1 : (t[0].toNat : Int) = 48 := by omega
    clear hsv hl hb hn hz hd0 ht0
    go_enter Tryd.func6, Tryd.ntmps6
    go_wp2
    all_goals
      go_ret2
      exact ⟨ret_two HF.out.1.symm HF.out.2.symm, rfl⟩
  · have Hform : Hid (t.data.toList.all isDig = true → form s.data.toList = true) := fun ha => by
      have hem : t.data.toList.isEmpty = false := by rw [← Go.Lib.toList_data]; exact em1
      unfold form
      rw [← hl, ha, hem, hd0, decide_eq_false hz]
      rfl
    have z1 : ¬ (t[0].toNat : Int) = 48 := by omega
    have Hl : Hid (t.data.toList = body s.data.toList) := hl
    have Hsv : Hid (sval s.data.toList = -(mag 0 t.data.toList : Int)) := hsv
    clear hz hl hsv hb hn hd0 ht0
    go_enter Tryd.func6, Tryd.ntmps6
    go_wp2
    go_loop [6] (fun i => ∃ k : Nat, k ≤ t.size ∧ i = .int .i64 k ∧ (t.data.toList.take k).all isDig = true) (fun i => t.size - (intOf i).toNat)
    case atStart => exact ⟨0, Nat.zero_le _, rfl, rfl⟩
    case round =>
      obtain ⟨k, hk, rfl, hall⟩ := hrel
      by_cases hlt : k < t.size
      · rcases Bool.eq_false_or_eq_true (isDig t[k]) with hd | hd
        · obtain ⟨d1, d2⟩ := isDig_yes hd
          have HA : Hid ((t.data.toList.take (k + 1)).all isDig = true) := by
            show _ = true
            rw [take_snoc t k hlt, List.all_append, hall]; simp [hd]
          clear hall hd
          go_wp2
          go_round
          case rel => exact ⟨k + 1, by omega, by go_num, HA.out⟩
          case measure => simp [intOf]; omega
        · have HF : Hid (pv s.data.toList = 0 ∧ pe s.data.toList = 10) := by
            refine ends_number (form_not_digits ?_)
            rw [← Hl.out, List.all_eq_false]; exact ⟨t[k], mem_at t k hlt, by simp [hd]⟩
          rcases isDig_no hd with d | ⟨d1, d2⟩
          all_goals
            clear hall hd
            go_wp2
            go_ret2
            exact ⟨ret_two HF.out.1.symm HF.out.2.symm, rfl⟩
      · have HA : Hid (t.data.toList.all isDig = true) := by
          show _ = true
          rw [List.take_of_length_le (by rw [← size_len]; omega)] at hall; exact hall
        clear hall
        go_wp2
        go_loop [8, 9] (fun u i => ∃ j : Nat, j ≤ t.size ∧ i = .int .i64 j ∧ u = .int .u64 (mag 0 (t.data.toList.take j)) ∧ mag 0 (t.data.toList.take j) ≤ 9223372036854775808) (fun _ i => t.size - (intOf i).toNat)
        case atStart => exact ⟨0, Nat.zero_le _, rfl, rfl, by show mag 0 [] ≤ _; rw [mag_nil]; omega⟩
        case round =>
          clear hlt hk
          obtain ⟨q, hq, rfl, rfl, hm⟩ := hrel
          obtain ⟨m, hmm⟩ : ∃ m, mag 0 (t.data.toList.take q) = m := ⟨_, rfl⟩
          rw [hmm] at hm
          by_cases hlt2 : q < t.size
          · have hd : isDig t[q] = true := List.all_eq_true.1 HA.out _ (mem_at t q hlt2)
            obtain ⟨d1, d2⟩ := isDig_yes hd
            have HM : Hid (mag 0 (t.data.toList.take (q + 1)) = m * 10 + dv t[q]) := by rw [← hmm]; exact mag_take t q hlt2
            have HL := mag_take_le t (q + 1)
            have hdv : (dv t[q] : Int) = (t[q].toNat : Int) - 48 := by unfold dv; omega
            obtain ⟨c, hcc⟩ : ∃ c : Int, (t[q].toNat : Int) - 48 = c := ⟨_, rfl⟩
            have c0 : 0 ≤ c := by omega
            have c9 : c ≤ 9 := by omega
            by_cases ht : (9223372036854775808 - c) / 10 < (m : Int)
            · have HF : Hid (pv s.data.toList = 0 ∧ pe s.data.toList = 7) := by
                refine ends_over (Hform.out HA.out) ?_
                rw [Hsv.out, fits_not]
                have := HM.out
                omega
              clear HM HL hdv hd
              go_wp2
              go_ret2
              exact ⟨ret_two HF.out.1.symm HF.out.2.symm, rfl⟩
            · have HB : Hid (m * 10 + dv t[q] ≤ 9223372036854775808 ∧ ((m * 10 + dv t[q] : Nat) : Int) = (m : Int) * 10 + c) := ⟨by omega, by omega⟩
              clear HL hdv hd
              go_wp2
              go_round
              case rel => exact ⟨q + 1, by omega, by go_num, by rw [HM.out, HB.out.2], by rw [HM.out]; exact HB.out.1⟩
              case measure => simp [intOf]; omega
          · have hfull : t.data.toList.take q = t.data.toList := List.take_of_length_le (by rw [← size_len]; omega)
            have hm2 := hmm
            rw [hfull] at hm2
            have HF : Hid (pv s.data.toList = -(m : Int) ∧ pe s.data.toList = 0) := by
              have h1 : sval s.data.toList = -(m : Int) := by rw [Hsv.out, hm2]
              have h2 := ends_ok (Hform.out HA.out) (by rw [h1, fits_iff]; omega)
              rw [h1] at h2; exact h2
            have cs := signed_neg (m : Int) (by omega) (by omega)
            clear hm2 hfull
            go_wp2_with (go_at_call 19; refine (cs _).mono ?_; rintro e w' ⟨rfl, rfl⟩)
            go_ret2
            exact ⟨ret_two HF.out.1.symm HF.out.2.symm, rfl⟩


set_option maxHeartbeats 400000 in
theorem refParse_empty (s : ByteArray) (w : World) (h0 : s.size = 0) :
    Calls Tryd.prog 6 #[.string s] w fun e w' => e = .returned (.tuple #[.int .i64 (pv s.data.toList), .int .i64 (pe s.data.toList)]) ∧ w' = w := by
  have hnil : s.data.toList = [] := List.eq_nil_of_length_eq_zero ((size_len s).symm.trans h0)
  have HF : Hid (pv s.data.toList = 0 ∧ pe s.data.toList = 10) := by
    refine ends_number (form_empty ?_)
    rw [hnil]; rfl
  have em2 : s.toList = [] := by rw [Go.Lib.toList_data]; exact hnil
  have em1 : s.toList.isEmpty = true := by rw [em2]; rfl
  have h0' : (s.size : Int) = 0 := by omega
  clear hnil
  go_enter Tryd.func6, Tryd.ntmps6
  go_wp2
  go_ret2
  exact ⟨ret_two HF.out.1.symm HF.out.2.symm, rfl⟩

theorem refParse_any (s : ByteArray) (w : World) (hs : s.size ≤ 140737488351232) :
    Calls Tryd.prog 6 #[.string s] w fun e w' => e = .returned (.tuple #[.int .i64 (pv s.data.toList), .int .i64 (pe s.data.toList)]) ∧ w' = w := by
  rcases Nat.eq_zero_or_pos s.size with h | h
  · exact refParse_empty s w h
  · rcases Bool.eq_false_or_eq_true (negl s.data.toList) with hn | hn
    · exact refParse_neg s w hs h hn
    · exact refParse_not s w hs h hn
end Go.Proofs.YtphkleiamlllgaaDoor
