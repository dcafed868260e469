/-
  What the document's Parse does.
-/
import Derived.Test.YtphkleiamlllgaaDoorParse
namespace Go.Proofs.YtphkleiamlllgaaDoor
open Go.RowKit

theorem ret_int {k : IntKind} {a b : Int} (h : a = b) : Ending.returned (.int k a) = .returned (.int k b) := by rw [h]
theorem ret_two {k k' : IntKind} {a b c d : Int} (h : a = b) (h' : c = d) : Ending.returned (.tuple #[.int k a, .int k' c]) = .returned (.tuple #[.int k b, .int k' d]) := by rw [h, h']

set_option maxHeartbeats 400000 in
theorem signed_neg (u : Int) (h0 : 0 ≤ u) (h1 : u ≤ 9223372036854775808) (w : World) :
    Calls Tryd.prog 19 #[.bool true, .int .u64 u] w fun e w' => e = .returned (.int .i64 (-u)) ∧ w' = w := by
  go_enter Tryd.func19, Tryd.ntmps19
  go_wp2
  go_ret
  exact ⟨ret_int (by simp only [IntKind.wrap_u64]; unfold wrap64; omega), rfl⟩

set_option maxHeartbeats 400000 in
theorem signed_not (u : Int) (h0 : 0 ≤ u) (h1 : u ≤ 9223372036854775807) (w : World) :
    Calls Tryd.prog 19 #[.bool false, .int .u64 u] w fun e w' => e = .returned (.int .i64 u) ∧ w' = w := by
  go_enter Tryd.func19, Tryd.ntmps19
  go_wp2
  go_ret
  exact ⟨ret_int (by first | rfl | (simp only [IntKind.wrap_i64]; omega)), rfl⟩

theorem mag_take (t : ByteArray) (k : Nat) (h : k < t.size) : mag 0 (t.data.toList.take (k + 1)) = mag 0 (t.data.toList.take k) * 10 + dv t[k] := by
  rw [take_snoc t k h, mag_append, mag_cons, mag_nil]
theorem mag_take_le (t : ByteArray) (k : Nat) : mag 0 (t.data.toList.take k) ≤ mag 0 t.data.toList := by
  have := mag_ge (t.data.toList.drop k) (mag 0 (t.data.toList.take k))
  rwa [← mag_append, List.take_append_drop] at this

theorem toList_ne {s : ByteArray} (h : 0 < s.size) : s.toList.isEmpty = false ∧ ¬ s.toList = [] := by
  rw [Go.Lib.toList_data]
  rw [size_len] at h
  cases e : s.data.toList with
  | nil => rw [e] at h; exact absurd h (by decide)
  | cons a b => exact ⟨rfl, by simp⟩

/-- No form: an empty text, or one with a 0 ahead. -/
theorem form_not_digits {l : List UInt8} (h : (body l).all isDig = false) : form l = false := by unfold form; rw [h]; rfl
theorem form_empty {l : List UInt8} (h : body l = []) : form l = false := by unfold form; rw [h]; rfl
theorem ends_number {l : List UInt8} (h : form l = false) : pv l = 0 ∧ pe l = 10 := by unfold pv pe; rw [h]; exact ⟨rfl, rfl⟩
theorem ends_over {l : List UInt8} (h : form l = true) (hx : fits (sval l) = false) : pv l = 0 ∧ pe l = 7 := by unfold pv pe; rw [h, hx]; exact ⟨rfl, rfl⟩
theorem ends_ok {l : List UInt8} (h : form l = true) (hx : fits (sval l) = true) : pv l = sval l ∧ pe l = 0 := by unfold pv pe; rw [h, hx]; exact ⟨rfl, rfl⟩

set_option maxHeartbeats 2000000 in
/-- A text with no - ahead. -/
theorem refParse_not (s : ByteArray) (w : World) (hs : s.size ≤ 140737488351232) (hne : 0 < s.size) (hn : negl s.data.toList = false) :
    Calls Tryd.prog 6 #[.string s] w fun e w' => e = .returned (.tuple #[.int .i64 (pv s.data.toList), .int .i64 (pe s.data.toList)]) ∧ w' = w := by
  obtain ⟨t, ht⟩ : ∃ t : ByteArray, t = s := ⟨_, rfl⟩
  have hb : body s.data.toList = s.data.toList := by unfold body; rw [hn]; rfl
  have hl : t.data.toList = body s.data.toList := by rw [hb, ht]
  have hd0 : dig0 s.data.toList = decide (s[0].toNat = 48) := by
    obtain ⟨⟨l⟩⟩ := s
    cases l with
    | nil => exact absurd hne (by decide)
    | cons c r => rfl
  have h45 : ¬ (s[0].toNat : Int) = 45 := by
    intro h
    obtain ⟨⟨l⟩⟩ := s
    cases l with
    | nil => exact absurd hne (by decide)
    | cons c r =>
      have : c.toNat = 45 := by have h' : (c.toNat : Int) = 45 := h; omega
      rw [show (⟨⟨c :: r⟩⟩ : ByteArray).data.toList = c :: r from rfl] at hn
      simp [negl, this] at hn
  have hsv : sval s.data.toList = (mag 0 t.data.toList : Int) := by unfold sval; rw [hn, hl]; rfl
  by_cases hz : s[0].toNat = 48 ∧ 1 < s.size
  · have HF : Hid (pv s.data.toList = 0 ∧ pe s.data.toList = 10) := by
      refine ends_number ?_
      unfold form
      rw [hb, hd0, hn, decide_eq_true hz.1, ← size_len, decide_eq_false (by omega)]
      simp
    have z1 : (s[0].toNat : Int) = 48 := by omega
    have z2 : (1 : Int) < (s.size : Int) := by omega
    obtain ⟨em1, em2⟩ := toList_ne hne
    obtain ⟨em1, em2⟩ := toList_ne hne
    clear hsv hl ht hd0 hb hn hz
    go_enter Tryd.func6, Tryd.ntmps6
    go_wp2
    go_ret2
    exact ⟨ret_two HF.out.1.symm HF.out.2.symm, rfl⟩
  · have hform : t.data.toList.all isDig = true → form s.data.toList = true := fun ha => by
      have hem : s.data.toList.isEmpty = false := by
        rw [size_len] at hne
        cases h : s.data.toList with
        | nil => rw [h] at hne; exact absurd hne (by decide)
        | cons a b => rfl
      unfold form
      rw [← hl, ha, ht, hd0, hn, hem, ← size_len]
      by_cases h1 : s[0].toNat = 48
      · rw [decide_eq_true (show s.size = 1 by omega)]; simp
      · rw [decide_eq_false h1]; rfl
    subst ht
    clear hd0 hb hn
    rcases (show (t[0].toNat : Int) = 48 ∧ (t.size : Int) = 1 ∨ ¬ (t[0].toNat : Int) = 48 by omega) with ⟨z1, z2⟩ | z1
    all_goals
      obtain ⟨em1, em2⟩ := toList_ne hne
      have Hl : Hid (t.data.toList = body t.data.toList) := hl
      have Hform : Hid (t.data.toList.all isDig = true → form t.data.toList = true) := hform
      have Hsv : Hid (sval t.data.toList = (mag 0 t.data.toList : Int)) := hsv
      clear hz hl hform hsv
      go_enter Tryd.func6, Tryd.ntmps6
      go_wp2
      go_loop [6] (fun i => ∃ k : Nat, k ≤ t.size ∧ i = .int .i64 k ∧ (t.data.toList.take k).all isDig = true) (fun i => t.size - (intOf i).toNat)
      case atStart => exact ⟨0, Nat.zero_le _, rfl, rfl⟩
      case round =>
        obtain ⟨k, hk, rfl, hall⟩ := hrel
        by_cases hlt : k < t.size
        · rcases Bool.eq_false_or_eq_true (isDig t[k]) with hd | hd
          · obtain ⟨d1, d2⟩ := isDig_yes hd
            have HA : Hid ((t.data.toList.take (k + 1)).all isDig = true) := by
              show _ = true
              rw [take_snoc t k hlt, List.all_append, hall]; simp [hd]
            clear hall hd
            go_wp2
            go_round
            case rel => exact ⟨k + 1, by omega, by go_num, HA.out⟩
            case measure => simp [intOf]; omega
          · have HF : Hid (pv t.data.toList = 0 ∧ pe t.data.toList = 10) := by
              refine ends_number (form_not_digits ?_)
              rw [← Hl.out, List.all_eq_false]; exact ⟨t[k], mem_at t k hlt, by simp [hd]⟩
            rcases isDig_no hd with d | ⟨d1, d2⟩
            all_goals
              clear hall hd
              go_wp2
              go_ret2
              exact ⟨ret_two HF.out.1.symm HF.out.2.symm, rfl⟩
        · have HA : Hid (t.data.toList.all isDig = true) := by
            show _ = true
            rw [List.take_of_length_le (by rw [← size_len]; omega)] at hall; exact hall
          clear hall
          go_wp2
          go_loop [8, 9] (fun u i => ∃ j : Nat, j ≤ t.size ∧ i = .int .i64 j ∧ u = .int .u64 (mag 0 (t.data.toList.take j)) ∧ mag 0 (t.data.toList.take j) ≤ 9223372036854775807) (fun _ i => t.size - (intOf i).toNat)
          case atStart => exact ⟨0, Nat.zero_le _, rfl, rfl, by show mag 0 [] ≤ _; rw [mag_nil]; omega⟩
          case round =>
            clear hlt hk
            obtain ⟨q, hq, rfl, rfl, hm⟩ := hrel
            obtain ⟨m, hmm⟩ : ∃ m, mag 0 (t.data.toList.take q) = m := ⟨_, rfl⟩
            rw [hmm] at hm
            by_cases hlt2 : q < t.size
            · have hd : isDig t[q] = true := List.all_eq_true.1 HA.out _ (mem_at t q hlt2)
              obtain ⟨d1, d2⟩ := isDig_yes hd
              have HM : Hid (mag 0 (t.data.toList.take (q + 1)) = m * 10 + dv t[q]) := by rw [← hmm]; exact mag_take t q hlt2
              have HL := mag_take_le t (q + 1)
              have hdv : (dv t[q] : Int) = (t[q].toNat : Int) - 48 := by unfold dv; omega
              obtain ⟨c, hcc⟩ : ∃ c : Int, (t[q].toNat : Int) - 48 = c := ⟨_, rfl⟩
              have c0 : 0 ≤ c := by omega
              have c9 : c ≤ 9 := by omega
              by_cases ht : (9223372036854775807 - c) / 10 < (m : Int)
              · have HF : Hid (pv t.data.toList = 0 ∧ pe t.data.toList = 7) := by
                  refine ends_over (Hform.out HA.out) ?_
                  rw [Hsv.out, fits_not]
                  have := HM.out
                  omega
                clear HM HL hdv hd
                go_wp2
                go_ret2
                exact ⟨ret_two HF.out.1.symm HF.out.2.symm, rfl⟩
              · have HB : Hid (m * 10 + dv t[q] ≤ 9223372036854775807 ∧ ((m * 10 + dv t[q] : Nat) : Int) = (m : Int) * 10 + c) := ⟨by omega, by omega⟩
                clear HL hdv hd
                go_wp2
                go_round
                case rel => exact ⟨q + 1, by omega, by go_num, by rw [HM.out, HB.out.2], by rw [HM.out]; exact HB.out.1⟩
                case measure => simp [intOf]; omega
            · have hfull : t.data.toList.take q = t.data.toList := List.take_of_length_le (by rw [← size_len]; omega)
              have hm2 := hmm
              rw [hfull] at hm2
              have HF : Hid (pv t.data.toList = (m : Int) ∧ pe t.data.toList = 0) := by
                have h1 : sval t.data.toList = (m : Int) := by rw [Hsv.out, hm2]
                have h2 := ends_ok (Hform.out HA.out) (by rw [h1, fits_iff]; omega)
                rw [h1] at h2; exact h2
              have cs := signed_not (m : Int) (by omega) (by omega)
              clear hm2 hfull
              go_wp2_with (go_at_call 19; refine (cs _).mono ?_; rintro e w' ⟨rfl, rfl⟩)
              go_ret2
              exact ⟨ret_two HF.out.1.symm HF.out.2.symm, rfl⟩

end Go.Proofs.YtphkleiamlllgaaDoor
