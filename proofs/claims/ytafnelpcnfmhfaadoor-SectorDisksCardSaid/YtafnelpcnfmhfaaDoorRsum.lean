/-
  What the document's Sum does: the sum of bytes, bit by bit.
-/
import Derived.Test.YtafnelpcnfmhfaaDoorSum
namespace Go.Proofs.YtafnelpcnfmhfaaDoor
open Go.RowKit
set_option linter.unusedVariables false      -- a walk need not use every condition

/-- One bit, as the document's Sum takes it. -/
def bst (r c : Nat) : Nat := (r / 2) ^^^ (if c % 2 = r % 2 then 0 else 3988292384)
theorem bst_cz (r c : Nat) : cz (r ^^^ c) = bst r c ^^^ (c / 2) := by
  unfold cz bst
  rw [xor_half, xor_mod]
  have : ((r + c) % 2 = 1) ↔ ¬ (c % 2 = r % 2) := by omega
  by_cases h : c % 2 = r % 2
  · rw [if_neg (by omega), if_pos h]; simp
  · rw [if_pos (by omega), if_neg h, Nat.xor_assoc, Nat.xor_assoc, Nat.xor_comm (c / 2)]
theorem bst_lt {r : Nat} (c : Nat) (h : r < 4294967296) : bst r c < 4294967296 := by
  unfold bst
  refine Nat.xor_lt_two_pow (n := 32) (by omega) ?_
  split <;> decide
set_option maxHeartbeats 3200000 in
theorem rsum15 (w : World) (v : Value) (t : List UInt8) (hv : Bs w v t) :
    Calls Tryd.prog 15 #[v] w fun e w' => e = .returned (.int .u32 (csum (nat8 t) : Nat)) ∧ w' = w := by
  obtain ⟨p, cap, rfl, h1, h2, h3, h4⟩ := hv
  have hlen : (t.length : Int) ≤ 9223372036854775807 := by unfold maxLen at h2; omega
  obtain ⟨S, hS⟩ : ∃ S, csum (nat8 t) = S := ⟨_, rfl⟩
  rw [hS]
  have HS : Hid (csum (nat8 t) = S) := hS
  clear hS
  go_enter Tryd.func15, Tryd.ntmps15
  go_wp2
  go_loopg [3, 4] t.length (fun g s3 s4 wr => ∃ (i r : Nat), i + g = t.length ∧ r < 4294967296 ∧ s4 = .int .i64 i ∧ s3 = .int .u32 r ∧ Hid (crem r (nat8 (t.drop i)) = crem 4294967295 (nat8 t)) ∧ wr = w)
  case atStart => exact ⟨0, 4294967295, by omega, by decide, rfl, rfl, rfl, rfl⟩
  case round =>
    obtain ⟨i, r, hig, hr, rfl, rfl, hrem, rfl⟩ := hrel
    cases gk with
    | zero =>
      obtain rfl : i = t.length := by omega
      have e : Hid (S = 4294967295 ^^^ r) := by
        have := hrem.out
        rw [List.drop_length] at this
        rw [← HS.out]
        unfold csum; rw [← this]; rfl
      have hx := xor_u32 (a := 4294967295) (b := r) (by decide) hr
      go_wp2
      all_goals first | (exfalso; revert h; decide) | skip
      go_ret
      exact ⟨by show Ending.returned (Value.int .u32 (bits .xor .u32 IntKind.u32.max r)) = _; rw [max32, hx, e.out], rfl⟩
    | succ g =>
      have hi : i < t.length := by omega
      have hiz : (i : Int) < (t.length : Int) := by omega
      obtain ⟨g0, o, rfl, hc⟩ : ∃ g0 o, p = some ⟨g0, o, none⟩ ∧ wr.rangeAt g0 o (enc t) := by
        rcases h4 with rfl | h4
        · simp at hi
        · exact h4
      have hcell := bs_cell hc hi
      obtain ⟨c, hcc⟩ : ∃ c : UInt8, t.getD i 0 = c := ⟨_, rfl⟩
      rw [hcc] at hcell
      have hc8 : c.toNat < 256 := UInt8.toNat_lt c
      have hN : Hid (crem (cbyte r c.toNat) (nat8 (t.drop (i + 1))) = crem 4294967295 (nat8 t)) := by
        have := hrem.out
        rw [List.drop_eq_getElem_cons hi] at this
        rw [← this]
        have hcc' : t[i] = c := by rw [← hcc]; simp [hi]
        show _ = crem (cbyte r t[i].toNat) (nat8 (t.drop (i + 1)))
        rw [hcc']
      have hz := cbyte_lt hr hc8
      clear hrem hcc hc
      go_wp2
      go_loopg [3, 5, 6] 8 (fun g s3 s5 s6 w2 => ∃ (k q b : Nat), k + g = 8 ∧ q < 4294967296 ∧ b < 2 ^ g ∧ s6 = .int .i64 k ∧ s3 = .int .u32 q ∧ s5 = .int .u8 b ∧ Hid (czn g (q ^^^ b) = cbyte r c.toNat) ∧ w2 = wr)
      case atStart => exact ⟨0, r, c.toNat, by omega, hr, hc8, rfl, rfl, rfl, rfl, rfl⟩
      case round =>
        obtain ⟨k, q, b, hkg, hq, hb, rfl, rfl, rfl, hcz, rfl⟩ := hrel
        cases gk with
        | zero =>
          obtain rfl : k = 8 := by omega
          obtain rfl : b = 0 := by omega
          have hq2 : Hid (q = cbyte r c.toNat) := by
            have := hcz.out
            rw [Nat.xor_zero] at this
            exact this
          go_wp2
          go_roundg g
          case measure => omega
          case rel => exact ⟨i + 1, q, by omega, hq, by simp, rfl, by rw [hq2.out]; exact hN, rfl⟩
        | succ g =>
          have hk : (k : Int) < 8 := by omega
          have hb8 : b < 256 := Nat.lt_of_lt_of_le hb (by
            have : 2 ^ (g + 1) ≤ 2 ^ 8 := Nat.pow_le_pow_right (by decide) (by omega)
            omega)
          have hb2 : b / 2 < 2 ^ g := by rw [Nat.pow_succ] at hb; omega
          have hnx : Hid (czn g (bst q b ^^^ (b / 2)) = cbyte r c.toNat) := by
            have := hcz.out
            rw [czn, bst_cz] at this
            exact this
          have hbl := bst_lt b hq
          have hx := xor_u32 (a := q / 2) (b := 3988292384) (by omega) (by decide)
          rw [show ((q / 2 : Nat) : Int) = (q : Int) / 2 by omega] at hx
          have m1 : Int.tmod (b : Int) 2 = ((b % 2 : Nat) : Int) := by rw [Int.tmod_eq_emod_of_nonneg (by omega)]; rfl
          have m2 : Int.tmod (q : Int) 2 = ((q % 2 : Nat) : Int) := by rw [Int.tmod_eq_emod_of_nonneg (by omega)]; rfl
          by_cases hp : b % 2 = q % 2
          · have hbq : Hid (bst q b = q / 2) := by
              show bst q b = q / 2
              unfold bst; rw [if_pos hp, Nat.xor_zero]
            clear hcz
            have hpz : ((b : Int) % 2) = ((q : Int) % 2) := by omega
            go_wp2
            go_roundg g
            case measure => omega
            case rel => exact ⟨k + 1, q / 2, b / 2, by omega, by omega, hb2, by simp, by simp, by simp, by rw [← hbq.out]; exact hnx, rfl⟩
          · have hbq : Hid (bst q b = (q / 2) ^^^ 3988292384) := by
              show bst q b = _
              unfold bst; rw [if_neg hp]
            clear hcz
            have hne : ((b : Int) % 2 != (q : Int) % 2) = true := by
              simp only [bne_iff_ne, ne_eq]
              omega
            rw [← hbq.out] at hx
            have hx' : bits .xor .u32 ((q : Int) / 2) 3988292384 = (bst q b : Nat) := hx
            clear hx
            go_wp2
            go_roundg g
            case measure => omega
            case rel => exact ⟨k + 1, bst q b, b / 2, by omega, hbl, hb2, by simp, rfl, by simp, hnx, rfl⟩
end Go.Proofs.YtafnelpcnfmhfaaDoor
