/-
  What Parse of package num does, and its inner functions isNumber and allDigits.
-/
import Derived.Test.YtbicodlclmdgaaaGreatDoorShelf
import Derived.Test.YtbicodlclmdgaaaGreatDoorMath
import Derived.Lib.AppendIntMem
import Derived.WalkKit
import Derived.WalkSpells
import Derived.WalkLawsBesides
namespace Go.Proofs.YtbicodlclmdgaaaGreatDoor
open Go.RowKit

theorem formatInt (n : Int) (h0 : -9223372036854775808 ≤ n) (h1 : n ≤ 9223372036854775807) (w : World) (htab : Lib.TabIs Tryz.prog w "internal/strconv.uint64pow10" .u64 Lib.pow10Tab) :
    Calls Tryz.prog 104 #[.int .i64 n, .int .i64 10] w fun e w' => e = .returned (.string ⟨(Lib.itoa n).toArray⟩) ∧ ∃ k os, w' = Go.Sort.grow (w.drewN k) os := Any.strconv_FormatInt_10 laysM173 n h0 h1 w htab
theorem parseInt_ok (s : ByteArray) (hmax : s.size ≤ 9223372036854775806) (v : Int) (h : Lib.parseIntB 64 s.data.toList = .ok v) (w : World) :
    Calls Tryz.prog 137 #[.string s, .int .i64 10, .int .i64 64] w fun e w' => e = .returned (.tuple #[.int .i64 v, .nilIface]) ∧ (w' = w ∨ ∃ t, w' = Lib.bytesWorld w 5 t) := Any.strconv_ParseInt_10_at64_ok laysC174 s hmax v h w
theorem parseInt_range (s : ByteArray) (hlim : s.size ≤ 281474976710656) (h : Lib.parseIntB 64 s.data.toList = .range) (tp : TypeId) (p : Value) (w : World) (hvar : w.var? Tryz.prog "strconv.ErrRange" = some #[.iface tp p]) :
    Calls Tryz.prog 137 #[.string s, .int .i64 10, .int .i64 64] w fun e w' => ∃ N, e = .returned (.tuple #[.int .i64 (Lib.intSat 64 s.data.toList), .iface 151 (.pointer (some ⟨N, 0, none⟩))]) ∧ Below w.heap.size w w' :=
  (Any.strconv_ParseInt_10_at64_range_var laysC174 s hlim h tp p w hvar).mono fun _ _ ⟨N, he, _, _, hb⟩ => ⟨N, he, hb⟩
theorem trimPrefix_any (s p : ByteArray) (w : World) :
    Calls Tryz.prog 143 #[.string s, .string p] w fun e w' => e = .returned (.string ⟨(Lib.trimPrefix s.data.toList p.data.toList).toArray⟩) ∧ w' = w := Any.strings_TrimPrefix lays101 s p w

theorem take_snoc (s : ByteArray) (k : Nat) (h : k < s.size) : s.data.toList.take (k + 1) = s.data.toList.take k ++ [s[k]] := by
  rw [List.take_succ_eq_append_getElem (by simpa using h)]; rfl
theorem mem_at (s : ByteArray) (k : Nat) (h : k < s.size) : s[k] ∈ s.data.toList := by
  have : s[k] = s.data.toList[k]'(by simpa using h) := rfl
  rw [this]; exact List.getElem_mem _
theorem isDig_yes {c : UInt8} (h : isDig c = true) : (48 : Int) ≤ (c.toNat : Int) ∧ (c.toNat : Int) ≤ 57 := by
  simp only [isDig, Bool.and_eq_true, decide_eq_true_eq] at h; omega
theorem isDig_no {c : UInt8} (h : isDig c = false) : (c.toNat : Int) < 48 ∨ ((48 : Int) ≤ (c.toNat : Int) ∧ (57 : Int) < (c.toNat : Int)) := by
  by_cases h1 : 48 ≤ c.toNat <;> by_cases h2 : c.toNat ≤ 57 <;> simp [isDig, h1, h2] at h <;> omega

/-- Digits alone, one at least. -/
def allB (l : List UInt8) : Bool := l.all isDig && !l.isEmpty
theorem ret_bool {a b : Bool} (h : a = b) : Ending.returned (.bool a) = .returned (.bool b) := by rw [h]

set_option maxHeartbeats 1000000 in
theorem allDigits_any (s : ByteArray) (w : World) (hs : s.size ≤ maxLen) :
    Calls Tryz.prog 144 #[.string s] w fun e w' => e = .returned (.bool (allB s.data.toList)) ∧ w' = w := by
  unfold maxLen at hs
  go_enter Tryz.func144, Tryz.ntmps144
  go_wp2
  go_loop [6] (fun i => ∃ k : Nat, k ≤ s.size ∧ i = .int .i64 k ∧ (s.data.toList.take k).all isDig = true) (fun i => s.size - (intOf i).toNat)
  case atStart => exact ⟨0, Nat.zero_le _, rfl, rfl⟩
  case round =>
    obtain ⟨k, hk, rfl, hall⟩ := hrel
    by_cases hlt : k < s.size
    · rcases Bool.eq_false_or_eq_true (isDig s[k]) with hd | hd
      · obtain ⟨d1, d2⟩ := isDig_yes hd
        have HA : Hid ((s.data.toList.take (k + 1)).all isDig = true) := by
          show _ = true
          rw [take_snoc s k hlt, List.all_append, hall]; simp [hd]
        clear hall hd
        go_wp2
        go_round
        case rel => exact ⟨k + 1, by omega, by go_num, HA.out⟩
        case measure => simp [intOf]; omega
      · have HF : Hid (allB s.data.toList = false) := by
          show allB _ = false
          unfold allB
          have : s.data.toList.all isDig = false := by
            rw [List.all_eq_false]; exact ⟨s[k], mem_at s k hlt, by simp [hd]⟩
          rw [this]; rfl
        rcases isDig_no hd with d | ⟨d1, d2⟩
        all_goals
          clear hall hd
          go_wp2
          go_ret
          exact ⟨ret_bool HF.out.symm, rfl⟩
    · have HA : Hid (allB s.data.toList = !s.data.toList.isEmpty) := by
        show allB _ = _
        rw [List.take_of_length_le (by simp; omega)] at hall
        unfold allB; rw [hall]; rfl
      clear hall
      go_wp2
      go_ret
      exact ⟨ret_bool (by rw [HA.out, Go.Lib.toList_data]), rfl⟩

theorem trim45 (s : ByteArray) (w : World) :
    Calls Tryz.prog 143 #[.string s, .string ⟨#[45]⟩] w fun e w' => e = .returned (.string ⟨(body s.data.toList).toArray⟩) ∧ w' = w := by
  have h := trimPrefix_any s ⟨#[45]⟩ w
  rw [show (⟨#[45]⟩ : ByteArray).data.toList = [45] from rfl, trim_body] at h
  exact h

theorem size_len (s : ByteArray) : s.size = s.data.toList.length := Array.length_toList.symm
theorem zero_form (l : List UInt8) (h : dig0 (body l) = true) : (decide (l.length = 1) && !negl l) = (l == [48]) := by
  cases l with
  | nil => simp [body, negl, dig0] at h
  | cons c r =>
    rcases Bool.eq_false_or_eq_true (negl (c :: r)) with hn | hn
    · have hc : c.toNat = 45 := by simpa [negl] using hn
      rw [hn]
      have : c ≠ 48 := by intro e; rw [e] at hc; exact absurd hc (by decide)
      simp [this]
    · have hb : body (c :: r) = c :: r := by unfold body; rw [hn]; rfl
      rw [hb] at h
      have hc : c = 48 := UInt8.toNat_inj.1 (by simpa [dig0] using h)
      rw [hn, hc]
      cases r <;> simp

theorem body_le (l : List UInt8) : (body l).length ≤ l.length := by unfold body; split <;> simp

set_option maxHeartbeats 1000000 in
theorem isNumber_any (s : ByteArray) (w : World) (hs : s.size ≤ maxLen) :
    Calls Tryz.prog 136 #[.string s] w fun e w' => e = .returned (.bool (form s.data.toList)) ∧ w' = w := by
  have c1 := trim45 s
  obtain ⟨t, ht⟩ : ∃ t : ByteArray, t = ⟨(body s.data.toList).toArray⟩ := ⟨_, rfl⟩
  have hl : t.data.toList = body s.data.toList := by rw [ht]
  have hts : t.size ≤ maxLen := by
    have h1 := body_le s.data.toList
    rw [← hl, ← size_len, ← size_len] at h1
    omega
  rw [← ht] at c1
  clear ht
  have c2 := allDigits_any t
  rcases Bool.eq_false_or_eq_true (allB t.data.toList) with ha | ha
  · have hne : 0 < t.size := by
      rcases Nat.eq_zero_or_pos t.size with h | h
      · have : t.data.toList = [] := List.eq_nil_of_length_eq_zero ((size_len t).symm.trans h)
        rw [this] at ha; simp [allB] at ha
      · exact h
    have hd0 : dig0 t.data.toList = decide (t[0].toNat = 48) := by
      obtain ⟨⟨l⟩⟩ := t
      cases l with
      | nil => exact absurd hne (by decide)
      | cons c r => rfl
    have hf0 : form s.data.toList = (!dig0 t.data.toList || (decide (s.data.toList.length = 1) && !negl s.data.toList)) := by
      unfold form
      rw [← hl]
      unfold allB at ha
      rw [ha]; rfl
    have hc2 := c2 w hts
    rw [ha] at hc2
    by_cases h48 : (t[0].toNat : Int) = 48
    · have hF : Hid (form s.data.toList = (s.toList == [48])) := by
        show form _ = _
        have h1 : dig0 t.data.toList = true := by rw [hd0]; simp; omega
        rw [hf0, h1, Go.Lib.toList_data, ← zero_form _ (by rw [← hl]; exact h1)]; rfl
      clear hd0 ha hl c2 hts hf0
      go_enter Tryz.func136, Tryz.ntmps136
      go_wp2_with (first
        | (go_at_call 143; refine (c1 _).mono ?_; rintro e w' ⟨rfl, rfl⟩; clear c1)
        | (go_at_call 144; refine hc2.mono ?_; rintro e w' ⟨rfl, rfl⟩))
      go_ret
      exact ⟨ret_bool hF.out.symm, rfl⟩
    · have hF : Hid (form s.data.toList = true) := by
        show form _ = _
        have h1 : dig0 t.data.toList = false := by rw [hd0]; simp; omega
        rw [hf0, h1]; rfl
      clear hd0 ha hl c2 hts hf0
      go_enter Tryz.func136, Tryz.ntmps136
      go_wp2_with (first
        | (go_at_call 143; refine (c1 _).mono ?_; rintro e w' ⟨rfl, rfl⟩; clear c1)
        | (go_at_call 144; refine hc2.mono ?_; rintro e w' ⟨rfl, rfl⟩))
      go_ret
      exact ⟨ret_bool hF.out.symm, rfl⟩
  · have hF : Hid (form s.data.toList = false) := by
      show form _ = _
      unfold form; rw [← hl]
      unfold allB at ha
      rw [ha]; rfl
    have hc2 := c2 w hts
    rw [ha] at hc2
    clear ha hl c2 hts
    go_enter Tryz.func136, Tryz.ntmps136
    go_wp2_with (first
      | (go_at_call 143; refine (c1 _).mono ?_; rintro e w' ⟨rfl, rfl⟩; clear c1)
      | (go_at_call 144; refine hc2.mono ?_; rintro e w' ⟨rfl, rfl⟩))
    go_ret
    exact ⟨ret_bool hF.out.symm, rfl⟩
theorem bel_bytes {w w' : World} (h : w' = w ∨ ∃ t, w' = Lib.bytesWorld w 5 t) : Below w.heap.size w w' := by
  rcases h with rfl | ⟨t, rfl⟩
  · exact Below.refl _ _
  · exact Lib.bytesWorld_below _ _ _

set_option maxHeartbeats 1000000 in
theorem numParse_any (s : ByteArray) (w : World) (hs : s.size ≤ 140737488351232) (tp : TypeId) (p : Value) (hvar : w.var? Tryz.prog "strconv.ErrRange" = some #[.iface tp p]) :
    Calls Tryz.prog 129 #[.string s] w fun e w' => e = .returned (.tuple #[.int .i64 (pv s.data.toList), .int .i64 (pe s.data.toList)]) ∧ Below w.heap.size w w' := by
  have c1 := isNumber_any s w (by unfold maxLen; omega)
  rcases Bool.eq_false_or_eq_true (form s.data.toList) with hf | hf
  · rw [hf] at c1
    have hi := int_form _ hf
    rcases Bool.eq_false_or_eq_true (fits (sval s.data.toList)) with hx | hx
    · have e1 : pv s.data.toList = sval s.data.toList := by unfold pv; rw [hf, hx]; rfl
      have e2 : pe s.data.toList = 0 := by unfold pe; rw [hf, hx]; rfl
      rw [hx] at hi
      have c2 := fun w => parseInt_ok s (by omega) _ hi w
      rw [e1, e2]
      clear hi hvar hf hx e1 e2 hs
      go_enter Tryz.func129, Tryz.ntmps129
      go_wp2_with (first
        | (go_at_call 136; refine c1.mono ?_; rintro e w' ⟨rfl, rfl⟩)
        | (go_at_call 137; refine (c2 _).mono ?_; rintro e w1 ⟨rfl, hw1⟩; have hb1 := bel_bytes hw1; clear hw1))
      go_ret2
      exact ⟨rfl, hb1⟩
    · have e1 : pv s.data.toList = 0 := by unfold pv; rw [hf, hx]; rfl
      have e2 : pe s.data.toList = 7 := by unfold pe; rw [hf, hx]; rfl
      rw [hx] at hi
      have c2 := parseInt_range s (by omega) hi tp p w hvar
      rw [e1, e2]
      clear hi hvar hf hx e1 e2 hs
      go_enter Tryz.func129, Tryz.ntmps129
      go_wp2_with (first
        | (go_at_call 136; refine c1.mono ?_; rintro e w' ⟨rfl, rfl⟩)
        | (go_at_call 137; refine c2.mono ?_; rintro e w1 ⟨N, rfl, hb1⟩))
      go_ret2
      exact ⟨rfl, hb1⟩
  · rw [hf] at c1
    have e1 : pv s.data.toList = 0 := by unfold pv; rw [hf]; rfl
    have e2 : pe s.data.toList = 10 := by unfold pe; rw [hf]; rfl
    rw [e1, e2]
    clear hvar hf e1 e2
    go_enter Tryz.func129, Tryz.ntmps129
    go_wp2_with (go_at_call 136; refine c1.mono ?_; rintro e w' ⟨rfl, rfl⟩)
    go_ret2
    exact ⟨rfl, Below.refl _ _⟩

set_option maxHeartbeats 1000000 in
theorem numParse_ok (s : ByteArray) (w : World) (hs : s.size ≤ 140737488351232) (hf : form s.data.toList = true) (hx : fits (sval s.data.toList) = true) :
    Calls Tryz.prog 129 #[.string s] w fun e w' => e = .returned (.tuple #[.int .i64 (sval s.data.toList), .int .i64 0]) ∧ Below w.heap.size w w' := by
  have c1 := isNumber_any s w (by unfold maxLen; omega)
  rw [hf] at c1
  have hi := int_form _ hf
  rw [hx] at hi
  have c2 := fun w => parseInt_ok s (by omega) _ hi w
  clear hi hf hx hs
  go_enter Tryz.func129, Tryz.ntmps129
  go_wp2_with (first
    | (go_at_call 136; refine c1.mono ?_; rintro e w' ⟨rfl, rfl⟩)
    | (go_at_call 137; refine (c2 _).mono ?_; rintro e w1 ⟨rfl, hw1⟩; have hb1 := bel_bytes hw1; clear hw1))
  go_ret2
  exact ⟨rfl, hb1⟩

def TabOk (w : World) : Prop := Lib.TabIs Tryz.prog w "internal/strconv.uint64pow10" .u64 Lib.pow10Tab

set_option maxHeartbeats 400000 in
theorem numText_any (n : Int) (hn : fits n = true) (w : World) (ht : TabOk w) :
    Calls Tryz.prog 85 #[.int .i64 n] w fun e w' => e = .returned (.string ⟨(Lib.itoa n).toArray⟩) ∧ Below w.heap.size w w' := by
  obtain ⟨h0, h1⟩ := (fits_iff n).1 hn
  have c : Calls Tryz.prog 104 #[.int .i64 n, .int .i64 10] w fun e w' => e = .returned (.string ⟨(Lib.itoa n).toArray⟩) ∧ Below w.heap.size w w' :=
    (formatInt n h0 h1 w ht).mono fun e w' ⟨he, k, os, hw⟩ => ⟨he, by subst hw; exact Lib.below_grow _ w (Nat.le_refl _) k os⟩
  clear ht hn
  go_enter Tryz.func85, Tryz.ntmps85
  go_wp2_with (go_at_call 104; refine c.mono ?_; rintro e w1 ⟨rfl, hb1⟩)
  go_ret
  exact ⟨rfl, hb1⟩

end Go.Proofs.YtbicodlclmdgaaaGreatDoor
