/-
  What Name of package value, and the document's Name, do.
-/
import Derived.Test.YteknbploiombiaaZCheck
namespace Go.Proofs.Yteknbploiombiaa
open Go.RowKit

def isLet (c : UInt8) : Bool := decide (97 ≤ c.toNat ∧ c.toNat ≤ 122) || decide (65 ≤ c.toNat ∧ c.toNat ≤ 90)
def isDg (c : UInt8) : Bool := decide (48 ≤ c.toNat ∧ c.toNat ≤ 57)
def okc (c : UInt8) : Bool := isLet c || isDg c || decide (c.toNat = 95)
/-- Which texts are names. -/
def nm : List UInt8 → Bool
  | [] => false
  | c :: r => decide (r.length + 1 ≤ 24) && !isDg c && (c :: r).all okc
theorem isLet_yes {c : UInt8} (h : isLet c = true) : (97 ≤ c.toNat ∧ c.toNat ≤ 122) ∨ (65 ≤ c.toNat ∧ c.toNat ≤ 90) := by
  simpa [isLet] using h
theorem isLet_no {c : UInt8} (h : isLet c = false) : ¬ ((97 ≤ c.toNat ∧ c.toNat ≤ 122) ∨ (65 ≤ c.toNat ∧ c.toNat ≤ 90)) := by
  intro h'
  have : isLet c = true := by unfold isLet; rcases h' with h' | h' <;> simp [h']
  rw [h] at this; cases this
theorem take_snoc (s : ByteArray) (k : Nat) (h : k < s.size) : s.data.toList.take (k + 1) = s.data.toList.take k ++ [s[k]] := by
  rw [List.take_succ_eq_append_getElem (by simpa using h)]; rfl
theorem mem_at (s : ByteArray) (k : Nat) (h : k < s.size) : s[k] ∈ s.data.toList := by
  have : s[k] = s.data.toList[k]'(by simpa using h) := rfl
  rw [this]; exact List.getElem_mem _
theorem digit_yes (c : UInt8) (w : World) (h1 : 48 ≤ c.toNat) (h2 : c.toNat ≤ 57) : Calls Try.prog 71 #[.int .u8 c.toNat] w fun e w' => e = .returned (.bool true) ∧ w' = w := by
  have i1 : (48 : Int) ≤ c.toNat := by omega
  have i2 : (c.toNat : Int) ≤ 57 := by omega
  go_enter Try.func71, Try.ntmps71
  go_wp2
  go_ret
  exact ⟨rfl, rfl⟩
theorem digit_no (c : UInt8) (w : World) (h1 : ¬ (48 ≤ c.toNat ∧ c.toNat ≤ 57)) : Calls Try.prog 71 #[.int .u8 c.toNat] w fun e w' => e = .returned (.bool false) ∧ w' = w := by
  by_cases i1 : (48 : Int) ≤ c.toNat
  · have i2 : ¬ (c.toNat : Int) ≤ 57 := by omega
    go_enter Try.func71, Try.ntmps71
    go_wp2
    go_ret
    exact ⟨rfl, rfl⟩
  · go_enter Try.func71, Try.ntmps71
    go_wp2
    go_ret
    exact ⟨rfl, rfl⟩

set_option maxHeartbeats 1000000 in
theorem digit57 (c : UInt8) (w : World) : Calls Try.prog 71 #[.int .u8 c.toNat] w fun e w' => e = .returned (.bool (isDg c)) ∧ w' = w := by
  by_cases h : 48 ≤ c.toNat ∧ c.toNat ≤ 57
  · rw [show isDg c = true by simp [isDg, h]]; exact digit_yes c w h.1 h.2
  · rw [show isDg c = false by unfold isDg; rw [decide_eq_false h]]; exact digit_no c w h
theorem letter58 (c : UInt8) (w : World) : Calls Try.prog 72 #[.int .u8 c.toNat] w fun e w' => e = .returned (.bool (isLet c)) ∧ w' = w := by
  have hc : c.toNat < 65 ∨ (65 ≤ c.toNat ∧ c.toNat ≤ 90) ∨ (90 < c.toNat ∧ c.toNat < 97) ∨ (97 ≤ c.toNat ∧ c.toNat ≤ 122) ∨ 122 < c.toNat := by omega
  rcases hc with h | h | h | h | h
  · have k1 : ¬ (97 : Int) ≤ c.toNat := by omega
    have k2 : ¬ (65 : Int) ≤ c.toNat := by omega
    rw [show isLet c = false by unfold isLet; rw [decide_eq_false (by omega), decide_eq_false (by omega)]; rfl]
    go_enter Try.func72, Try.ntmps72
    go_wp2
    go_ret
    exact ⟨rfl, rfl⟩
  · have k1 : ¬ (97 : Int) ≤ c.toNat := by omega
    have k2 : (65 : Int) ≤ c.toNat := by omega
    have k3 : (c.toNat : Int) ≤ 90 := by omega
    rw [show isLet c = true by unfold isLet; rw [decide_eq_true (p := 65 ≤ c.toNat ∧ c.toNat ≤ 90) h]; simp]
    go_enter Try.func72, Try.ntmps72
    go_wp2
    go_ret
    exact ⟨rfl, rfl⟩
  · have k1 : ¬ (97 : Int) ≤ c.toNat := by omega
    have k2 : (65 : Int) ≤ c.toNat := by omega
    have k3 : ¬ (c.toNat : Int) ≤ 90 := by omega
    rw [show isLet c = false by unfold isLet; rw [decide_eq_false (by omega), decide_eq_false (by omega)]; rfl]
    go_enter Try.func72, Try.ntmps72
    go_wp2
    go_ret
    exact ⟨rfl, rfl⟩
  · have k1 : (97 : Int) ≤ c.toNat := by omega
    have k3 : (c.toNat : Int) ≤ 122 := by omega
    rw [show isLet c = true by unfold isLet; rw [decide_eq_true (p := 97 ≤ c.toNat ∧ c.toNat ≤ 122) h]; simp]
    go_enter Try.func72, Try.ntmps72
    go_wp2
    go_ret
    exact ⟨rfl, rfl⟩
  · have k1 : (97 : Int) ≤ c.toNat := by omega
    have k2 : (65 : Int) ≤ c.toNat := by omega
    have k3 : ¬ (c.toNat : Int) ≤ 122 := by omega
    have k4 : ¬ (c.toNat : Int) ≤ 90 := by omega
    rw [show isLet c = false by unfold isLet; rw [decide_eq_false (by omega), decide_eq_false (by omega)]; rfl]
    go_enter Try.func72, Try.ntmps72
    go_wp2
    go_ret
    exact ⟨rfl, rfl⟩
/-- The document's letter: an underline, too. -/
def isLetU (c : UInt8) : Bool := isLet c || decide (c.toNat = 95)
theorem letter59 (c : UInt8) (w : World) : Calls Try.prog 85 #[.int .u8 c.toNat] w fun e w' => e = .returned (.bool (isLetU c)) ∧ w' = w := by
  by_cases h95 : c.toNat = 95
  · have k0 : (c.toNat : Int) = 95 := by omega
    rw [show isLetU c = true by unfold isLetU; rw [decide_eq_true h95]; simp]
    go_enter Try.func85, Try.ntmps85
    go_wp2
    go_ret
    exact ⟨rfl, rfl⟩
  · have k0 : ((c.toNat : Int) == 95) = false := by simp; omega
    rw [show isLetU c = isLet c by unfold isLetU; rw [decide_eq_false h95]; simp]
    clear h95
    have hc : c.toNat < 65 ∨ (65 ≤ c.toNat ∧ c.toNat ≤ 90) ∨ (90 < c.toNat ∧ c.toNat < 97) ∨ (97 ≤ c.toNat ∧ c.toNat ≤ 122) ∨ 122 < c.toNat := by omega
    rcases hc with h | h | h | h | h
    · have k1 : ¬ (97 : Int) ≤ c.toNat := by omega
      have k2 : ¬ (65 : Int) ≤ c.toNat := by omega
      rw [show isLet c = false by unfold isLet; rw [decide_eq_false (by omega), decide_eq_false (by omega)]; rfl]
      go_enter Try.func85, Try.ntmps85
      go_wp2
      go_ret
      exact ⟨rfl, rfl⟩
    · have k1 : ¬ (97 : Int) ≤ c.toNat := by omega
      have k2 : (65 : Int) ≤ c.toNat := by omega
      have k3 : (c.toNat : Int) ≤ 90 := by omega
      rw [show isLet c = true by unfold isLet; rw [decide_eq_true (p := 65 ≤ c.toNat ∧ c.toNat ≤ 90) h]; simp]
      go_enter Try.func85, Try.ntmps85
      go_wp2
      go_ret
      exact ⟨rfl, rfl⟩
    · have k1 : ¬ (97 : Int) ≤ c.toNat := by omega
      have k2 : (65 : Int) ≤ c.toNat := by omega
      have k3 : ¬ (c.toNat : Int) ≤ 90 := by omega
      rw [show isLet c = false by unfold isLet; rw [decide_eq_false (by omega), decide_eq_false (by omega)]; rfl]
      go_enter Try.func85, Try.ntmps85
      go_wp2
      go_ret
      exact ⟨rfl, rfl⟩
    · have k1 : (97 : Int) ≤ c.toNat := by omega
      have k3 : (c.toNat : Int) ≤ 122 := by omega
      rw [show isLet c = true by unfold isLet; rw [decide_eq_true (p := 97 ≤ c.toNat ∧ c.toNat ≤ 122) h]; simp]
      go_enter Try.func85, Try.ntmps85
      go_wp2
      go_ret
      exact ⟨rfl, rfl⟩
    · have k1 : (97 : Int) ≤ c.toNat := by omega
      have k2 : (65 : Int) ≤ c.toNat := by omega
      have k3 : ¬ (c.toNat : Int) ≤ 122 := by omega
      have k4 : ¬ (c.toNat : Int) ≤ 90 := by omega
      rw [show isLet c = false by unfold isLet; rw [decide_eq_false (by omega), decide_eq_false (by omega)]; rfl]
      go_enter Try.func85, Try.ntmps85
      go_wp2
      go_ret
      exact ⟨rfl, rfl⟩

theorem nm_eq (s : ByteArray) (h : 0 < s.size) : nm s.data.toList = (decide (s.size ≤ 24) && !isDg s[0] && s.data.toList.all okc) := by
  obtain ⟨⟨l⟩⟩ := s
  cases l with
  | nil => exact absurd h (by decide)
  | cons c r => rfl

set_option maxHeartbeats 2000000 in
theorem name38 (s : ByteArray) (w : World) : Calls Try.prog 41 #[.string s] w fun e w' => e = .returned (.bool (nm s.data.toList)) ∧ w' = w := by
  by_cases h0 : s.size = 0
  · have hz : ((s.size : Int) == 0) = true := by simp [h0]
    have hn : s.data.toList = [] := List.eq_nil_of_length_eq_zero (by simpa using h0)
    rw [hn, show nm [] = false from rfl]
    go_enter Try.func41, Try.ntmps41
    go_wp2
    go_ret
    exact ⟨rfl, rfl⟩
  · have hz : ((s.size : Int) == 0) = false := by rw [beq_eq_false_iff_ne]; omega
    have hpos : 0 < s.size := by omega
    rw [nm_eq s hpos]
    obtain ⟨A, hA⟩ : ∃ A, Hid (s.data.toList.all okc = A) := ⟨_, rfl⟩
    rw [hA.out]
    by_cases h24 : s.size ≤ 24
    · have k1 : ¬ (24 : Int) < (s.size : Int) := by omega
      rw [decide_eq_true h24]
      have c57 := digit57 s[0] w
      cases hd : isDg s[0]
      · rw [hd] at c57
        simp only [Bool.not_false, Bool.true_and]
        go_enter Try.func41, Try.ntmps41
        go_wp2_with (go_at_call 71; refine c57.mono ?_; rintro e w' ⟨rfl, rfl⟩)
        go_loop [19] (fun i => ∃ k : Nat, k ≤ s.size ∧ i = .int .i64 k ∧ (s.data.toList.take k).all okc = true) (fun i => s.size - (intOf i).toNat)
        case atStart => exact ⟨0, Nat.zero_le _, rfl, rfl⟩
        case round =>
          obtain ⟨k, hk, rfl, hall⟩ := hrel
          by_cases hlt : k < s.size
          · have hstep : ∀ b, okc s[k] = b → Hid ((s.data.toList.take (k + 1)).all okc = b) := fun b hb => by
              show _ = b
              rw [take_snoc s k hlt, List.all_append, hall]; simp [hb]
            have hfalse : okc s[k] = false → Hid (s.data.toList.all okc = false) := fun hb => by
              show _ = false
              rw [List.all_eq_false]; exact ⟨s[k], mem_at s k hlt, by simp [hb]⟩
            have c58 := fun w => letter58 s[k] w
            have c57' := fun w => digit57 s[k] w
            cases hL : isLet s[k]
            · cases hD : isDg s[k]
              · by_cases hU : s[k].toNat = 95
                · have HA := hstep true (by unfold okc; rw [hL, hD, decide_eq_true hU]; rfl)
                  have k0 : ((s[k].toNat : Int) != 95) = false := by rw [bne_eq_false_iff_eq]; omega
                  rw [hL] at c58; rw [hD] at c57'
                  clear hall hL hD hstep hfalse hU
                  go_wp2_with (first | (go_at_call 72; refine (c58 _).mono ?_; rintro e w' ⟨rfl, rfl⟩) | (go_at_call 71; refine (c57' _).mono ?_; rintro e w' ⟨rfl, rfl⟩))
                  go_round
                  case rel => exact ⟨k + 1, by omega, by go_num, HA.out⟩
                  case measure => simp [intOf]; omega
                · have HF := hfalse (by unfold okc; rw [hL, hD, decide_eq_false hU]; rfl)
                  have k0 : ((s[k].toNat : Int) != 95) = true := by rw [bne_iff_ne]; omega
                  rw [hL] at c58; rw [hD] at c57'
                  clear hall hL hD hstep hfalse hU
                  go_wp2_with (first | (go_at_call 72; refine (c58 _).mono ?_; rintro e w' ⟨rfl, rfl⟩) | (go_at_call 71; refine (c57' _).mono ?_; rintro e w' ⟨rfl, rfl⟩))
                  go_ret
                  exact ⟨ret_bool (HF.out.symm.trans hA.out), rfl⟩
              · have HA := hstep true (by unfold okc; rw [hL, hD]; rfl)
                rw [hL] at c58; rw [hD] at c57'
                clear hall hL hD hstep hfalse
                go_wp2_with (first | (go_at_call 72; refine (c58 _).mono ?_; rintro e w' ⟨rfl, rfl⟩) | (go_at_call 71; refine (c57' _).mono ?_; rintro e w' ⟨rfl, rfl⟩))
                go_round
                case rel => exact ⟨k + 1, by omega, by go_num, HA.out⟩
                case measure => simp [intOf]; omega
            · have HA := hstep true (by unfold okc; rw [hL]; rfl)
              rw [hL] at c58
              clear hall hL hstep hfalse c57'
              go_wp2_with (go_at_call 72; refine (c58 _).mono ?_; rintro e w' ⟨rfl, rfl⟩)
              go_round
              case rel => exact ⟨k + 1, by omega, by go_num, HA.out⟩
              case measure => simp [intOf]; omega
          · have HA : Hid (s.data.toList.all okc = true) := by
              show _ = _
              rw [List.take_of_length_le (by simp; omega)] at hall
              exact hall
            clear hall
            go_wp2
            go_ret
            exact ⟨ret_bool (HA.out.symm.trans hA.out), rfl⟩
      · rw [hd] at c57
        simp only [Bool.not_true, Bool.and_false, Bool.false_and]
        go_enter Try.func41, Try.ntmps41
        go_wp2_with (go_at_call 71; refine c57.mono ?_; rintro e w' ⟨rfl, rfl⟩)
        go_ret
        exact ⟨rfl, rfl⟩
    · have k1 : (24 : Int) < (s.size : Int) := by omega
      rw [decide_eq_false h24]
      simp only [Bool.false_and]
      go_enter Try.func41, Try.ntmps41
      go_wp2
      go_ret
      exact ⟨rfl, rfl⟩

theorem nm_eq' (s : ByteArray) (h : 0 < s.size) : nm s.data.toList = (decide (s.size ≤ 24) && isLetU s[0] && s.data.toList.all okc) := by
  rw [nm_eq s h]
  cases ha : s.data.toList.all okc
  · simp
  · have h0 : okc s[0] = true := List.all_eq_true.1 ha s[0] (mem_at s 0 h)
    have : isLetU s[0] = !isDg s[0] := by
      unfold okc at h0
      unfold isLetU
      cases hd : isDg s[0]
      · rw [hd] at h0; simpa using h0
      · have hd' : 48 ≤ s[0].toNat ∧ s[0].toNat ≤ 57 := by simpa [isDg] using hd
        have hl : isLet s[0] = false := by unfold isLet; rw [decide_eq_false (by omega), decide_eq_false (by omega)]; rfl
        rw [hl, decide_eq_false (by omega)]; rfl
    rw [this]

set_option maxHeartbeats 2000000 in
theorem name39 (s : ByteArray) (w : World) : Calls Try.prog 58 #[.string s] w fun e w' => e = .returned (.bool (nm s.data.toList)) ∧ w' = w := by
  by_cases h0 : s.size = 0
  · have hz : (s.toList == []) = true := by rw [Go.Lib.toList_data]; have : s.data.toList = [] := List.eq_nil_of_length_eq_zero (by simpa using h0); rw [this]; rfl
    have hE : s.toList.isEmpty = true := by rw [Go.Lib.toList_data, List.isEmpty_iff]; exact List.eq_nil_of_length_eq_zero (by simpa using h0)
    have hn : s.data.toList = [] := List.eq_nil_of_length_eq_zero (by simpa using h0)
    rw [hn, show nm [] = false from rfl]
    go_enter Try.func58, Try.ntmps58
    go_wp2
    go_ret
    exact ⟨rfl, rfl⟩
  · have hpos : 0 < s.size := by omega
    rw [nm_eq' s hpos]
    obtain ⟨A, hA⟩ : ∃ A, Hid (s.data.toList.all okc = A) := ⟨_, rfl⟩
    rw [hA.out]
    have hne : s.data.toList ≠ [] := fun e => by
      have h1 : s.data.toList.length = 0 := by rw [e]; rfl
      rw [Array.length_toList] at h1
      exact h0 h1
    have hE : s.toList.isEmpty = false := by rw [Go.Lib.toList_data, List.isEmpty_eq_false_iff]; exact hne
    have hE' : ¬ s.toList = [] := by rw [Go.Lib.toList_data]; exact hne
    clear hne
    by_cases h24 : s.size ≤ 24
    · have k1 : ¬ (24 : Int) < (s.size : Int) := by omega
      rw [decide_eq_true h24]
      have c59' := letter59 s[0] w
      cases hd : isLetU s[0]
      · rw [hd] at c59'
        simp only [Bool.and_false, Bool.false_and]
        go_enter Try.func58, Try.ntmps58
        go_wp2_with (go_at_call 85; refine c59'.mono ?_; rintro e w' ⟨rfl, rfl⟩)
        go_ret
        exact ⟨rfl, rfl⟩
      · rw [hd] at c59'
        simp only [Bool.true_and]
        go_enter Try.func58, Try.ntmps58
        go_wp2_with (go_at_call 85; refine c59'.mono ?_; rintro e w' ⟨rfl, rfl⟩)
        go_loop [3] (fun i => ∃ k : Nat, k ≤ s.size ∧ i = .int .i64 k ∧ (s.data.toList.take k).all okc = true) (fun i => s.size - (intOf i).toNat)
        case atStart => exact ⟨0, Nat.zero_le _, rfl, rfl⟩
        case round =>
          obtain ⟨k, hk, rfl, hall⟩ := hrel
          by_cases hlt : k < s.size
          · have hstep : ∀ b, okc s[k] = b → Hid ((s.data.toList.take (k + 1)).all okc = b) := fun b hb => by
              show _ = b
              rw [take_snoc s k hlt, List.all_append, hall]; simp [hb]
            have hfalse : okc s[k] = false → Hid (s.data.toList.all okc = false) := fun hb => by
              show _ = false
              rw [List.all_eq_false]; exact ⟨s[k], mem_at s k hlt, by simp [hb]⟩
            have c59 := fun w => letter59 s[k] w
            cases hL : isLetU s[k]
            · have hL' : isLet s[k] = false ∧ ¬ s[k].toNat = 95 := by unfold isLetU at hL; simpa using hL
              by_cases hD : 48 ≤ s[k].toNat ∧ s[k].toNat ≤ 57
              · have HA := hstep true (by unfold okc; rw [hL'.1, show isDg s[k] = true by simp [isDg, hD]]; rfl)
                have k1 : ¬ (s[k].toNat : Int) < 48 := by omega
                have k2 : ¬ (57 : Int) < (s[k].toNat : Int) := by omega
                rw [hL] at c59
                clear hall hL hD hstep hfalse hL'
                go_wp2_with (go_at_call 85; refine (c59 _).mono ?_; rintro e w' ⟨rfl, rfl⟩)
                go_round
                case rel => exact ⟨k + 1, by omega, by go_num, HA.out⟩
                case measure => simp [intOf]; omega
              · have HF := hfalse (by unfold okc; rw [hL'.1, show isDg s[k] = false by unfold isDg; rw [decide_eq_false hD], decide_eq_false hL'.2]; rfl)
                rw [hL] at c59
                clear hall hL hstep hfalse hL'
                by_cases k1 : (s[k].toNat : Int) < 48
                · clear hD
                  go_wp2_with (go_at_call 85; refine (c59 _).mono ?_; rintro e w' ⟨rfl, rfl⟩)
                  go_ret
                  exact ⟨ret_bool (HF.out.symm.trans hA.out), rfl⟩
                · have k2 : (57 : Int) < (s[k].toNat : Int) := by omega
                  clear hD
                  go_wp2_with (go_at_call 85; refine (c59 _).mono ?_; rintro e w' ⟨rfl, rfl⟩)
                  go_ret
                  exact ⟨ret_bool (HF.out.symm.trans hA.out), rfl⟩
            · have HA := hstep true (by
                unfold isLetU at hL
                unfold okc
                rcases Bool.or_eq_true_iff.1 hL with h | h
                · rw [h]; rfl
                · rw [h]; simp)
              rw [hL] at c59
              clear hall hL hstep hfalse
              go_wp2_with (go_at_call 85; refine (c59 _).mono ?_; rintro e w' ⟨rfl, rfl⟩)
              go_round
              case rel => exact ⟨k + 1, by omega, by go_num, HA.out⟩
              case measure => simp [intOf]; omega
          · have HA : Hid (s.data.toList.all okc = true) := by
              show _ = _
              rw [List.take_of_length_le (by simp; omega)] at hall
              exact hall
            clear hall
            go_wp2
            go_ret
            exact ⟨ret_bool (HA.out.symm.trans hA.out), rfl⟩
    · have k1 : (24 : Int) < (s.size : Int) := by omega
      rw [decide_eq_false h24]
      simp only [Bool.false_and]
      go_enter Try.func58, Try.ntmps58
      go_wp2
      go_ret
      exact ⟨rfl, rfl⟩
end Go.Proofs.Yteknbploiombiaa
