/-
  Take itself.
-/
import Derived.Test.YtphkleiamlllgaaDoorTake
namespace Go.Proofs.YtphkleiamlllgaaDoor
open Go.RowKit

theorem ret_three {k k' k'' : IntKind} {a b c d x y : Int} (h : a = b) (h' : Value.int k' c = Value.int k' d) (h'' : x = y) : Ending.returned (.tuple #[.int k a, .int k' c, .int k'' x]) = .returned (.tuple #[.int k b, .int k' d, .int k'' y]) := by rw [h, h', h'']

/-- A group more: the bits of the two lie apart, so that 'or' is the sum. -/
theorem or_step (u k : Nat) (hu : u < 18446744073709551616) :
    bits .or .u64 ((u : Int) % 128 ^ k) (IntKind.u64.wrap ((u : Int) / 128 ^ k % 128 * 2 ^ (7 * k))) = ((u % 128 ^ (k + 1) : Nat) : Int) := by
  have ep : (2 : Nat) ^ (7 * k) = 128 ^ k := by rw [Nat.pow_mul]
  obtain ⟨q, hq⟩ : ∃ q, u / 128 ^ k = q := ⟨_, rfl⟩
  obtain ⟨a, ha⟩ : ∃ a, u % 128 ^ k = a := ⟨_, rfl⟩
  have hdm : 128 ^ k * q + a = u := by rw [← hq, ← ha]; exact Nat.div_add_mod u (128 ^ k)
  have hal : a < 128 ^ k := by rw [← ha]; exact Nat.mod_lt _ (Nat.pow_pos (by omega))
  have hx : 128 ^ k * (q % 128) ≤ 128 ^ k * q := Nat.mul_le_mul_left _ (Nat.mod_le _ _)
  have e1 : (u : Int) % 128 ^ k = (a : Int) := by rw [← ha]; simp
  have e2 : (u : Int) / 128 ^ k % 128 * 2 ^ (7 * k) = ((128 ^ k * (q % 128) : Nat) : Int) := by
    have ei : (2 : Int) ^ (7 * k) = ((128 ^ k : Nat) : Int) := by rw [← ep]; simp
    rw [ei, ← hq, Int.natCast_mul, Int.mul_comm]
    simp
  rw [e1, e2]
  have ew : IntKind.u64.wrap ((128 ^ k * (q % 128) : Nat) : Int) = ((128 ^ k * (q % 128) : Nat) : Int) := by rw [IntKind.wrap_u64]; omega
  rw [ew, bits_or_u64_nat a _ (by omega) (by omega), enc_step, ha, hq]
  congr 1
  have := Nat.two_pow_add_eq_or_of_lt (i := 7 * k) (b := a) (by rw [ep]; exact hal) (q % 128)
  rw [ep] at this
  rw [Nat.or_comm, ← this, Nat.add_comm]

set_option maxHeartbeats 1000000 in
theorem take_any (g n cap L u : Nat) (xs : List Int) (w : World) (h : Lies w g xs L) (hLn : L ≤ n) (hn : n ≤ 281474976710656) (hcap : n ≤ cap) (hu : u < 18446744073709551616) (hgrp : ∀ k, k < L → xs.getD k 0 % 128 = ((u / 128 ^ k % 128 : Nat) : Int)) (hfull : u < 128 ^ L) :
    Calls Tryd.prog 13 #[.slice (some ⟨g, 0, none⟩) n cap] w fun e w' => e = .returned (.tuple #[.int .u64 u, .int .i64 L, .int .i64 0]) ∧ w' = w := by
  have hp := h.pos
  have ht := h.ten
  have c23 := index_any g n cap L xs w h hLn hn
  have c25 := fun cap => inForm_any g cap L xs w h
  obtain ⟨J, hJ⟩ : ∃ J : Nat, L - 1 = J := ⟨_, rfl⟩
  rw [hJ] at c23
  have hJ1 : J + 1 = L := by omega
  clear hJ
  subst hJ1
  go_enter Tryd.func13, Tryd.ntmps13
  go_wp2_with (first
    | (go_at_call 23; refine c23.mono ?_; rintro e w' ⟨rfl, rfl⟩; clear c23)
    | (go_at_call 25; refine (c25 _).mono ?_; rintro e w' ⟨rfl, rfl⟩; clear c25))
  go_loop [7, 23] (fun a i => ∃ k : Nat, k ≤ J + 1 ∧ i = .int .i64 k ∧ a = .int .u64 ((u % 128 ^ k : Nat) : Int)) (fun _ i => J + 1 - (intOf i).toNat)
  case atStart => exact ⟨0, Nat.zero_le _, rfl, by simp [Nat.mod_one]⟩
  case round =>
    obtain ⟨k, hk, rfl, rfl⟩ := hrel
    by_cases hlt : k < J + 1
    · have hc := h.cell k hlt
      rw [Nat.zero_add] at hc
      have hg := hgrp k hlt
      obtain ⟨c, hcc⟩ : ∃ c, xs.getD k 0 = c := ⟨_, rfl⟩
      rw [hcc] at hc hg
      have hb : 0 ≤ c ∧ c < 256 := by
        by_cases hl : k + 1 < J + 1
        · have := h.more k hl; rw [hcc] at this; omega
        · have e1 : k = J + 1 - 1 := by omega
          have := h.last; have := h.last0; rw [← e1, hcc] at *; omega
      obtain ⟨b0, b1⟩ := hb
      have HO := Lib.hid (or_step u k hu)
      clear hcc hgrp h
      go_wp2
      go_round
      case rel => exact ⟨k + 1, by omega, by go_num, by rw [HO.out]⟩
      case measure => simp [intOf]; omega
    · have e1 : k = J + 1 := by omega
      subst e1
      have HM3 : Hid ((u : Int) % 128 ^ (J + 1) = (u : Int)) := by
        show (u : Int) % 128 ^ (J + 1) = (u : Int)
        have := Nat.mod_eq_of_lt hfull
        have h2 := congrArg (fun x : Nat => (x : Int)) this
        simpa using h2
      clear hgrp h
      go_wp2
      go_ret3
      exact ⟨ret_three HM3.out (by go_num) rfl, rfl⟩
end Go.Proofs.YtphkleiamlllgaaDoor
