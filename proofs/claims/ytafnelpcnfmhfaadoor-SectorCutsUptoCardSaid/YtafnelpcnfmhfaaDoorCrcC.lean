/-
  What Burst does to a sector, as the mathematics of the sum says it: a frame that a burst has met is no frame, or it is the same. No walk.
-/
import Derived.Test.YtafnelpcnfmhfaaDoorCrcB
import Derived.Test.YtafnelpcnfmhfaaDoorBurst
namespace Go.Proofs.YtafnelpcnfmhfaaDoor

def nat8 (l : List UInt8) : List Nat := l.map UInt8.toNat
theorem nat8_lt (l : List UInt8) : ∀ c ∈ nat8 l, c < 256 := by
  intro c hc
  obtain ⟨x, -, rfl⟩ := List.mem_map.1 hc
  exact UInt8.toNat_lt x
theorem nat8_inj {a b : List UInt8} (h : nat8 a = nat8 b) : a = b := (List.map_inj_right fun _ _ e => UInt8.toNat_inj.1 e).1 h
theorem turned_turned : ∀ (l : List Nat) (a b : Nat), turned (turned l a) b = turned l (a ^^^ b)
  | [], _, _ => rfl
  | c :: l, a, b => by
    rw [turned, turned, turned, turned_turned l, show (256 : Nat) = 2 ^ 8 from rfl, Nat.xor_div_two_pow, Nat.xor_mod_two_pow, Nat.xor_assoc]
theorem turned_zero : ∀ l : List Nat, turned l 0 = l := fun l => turned_same l 0 (Nat.zero_mod _)
/-- One bit. -/
theorem turned_bit : ∀ (l : List Nat) (p b : Nat), b < 2 → turned l (b * 2 ^ p) = l.set (p / 8) (l.getD (p / 8) 0 ^^^ (b * 2 ^ (p % 8)))
  | [], _, _, _ => rfl
  | c :: l, p, b, hb => by
    by_cases hp : p < 8
    · have h1 : p / 8 = 0 := Nat.div_eq_of_lt hp
      have h2 : p % 8 = p := Nat.mod_eq_of_lt hp
      have h3 : b * 2 ^ p < 256 := by
        have : 2 ^ p ≤ 2 ^ 7 := Nat.pow_le_pow_right (by decide) (by omega)
        have : b * 2 ^ p ≤ 1 * 2 ^ 7 := Nat.mul_le_mul (by omega) this
        omega
      rw [turned, h1, h2, Nat.mod_eq_of_lt h3, Nat.div_eq_of_lt h3, turned_zero]
      rfl
    · obtain ⟨q, rfl⟩ : ∃ q, p = q + 8 := ⟨p - 8, by omega⟩
      have h1 : (q + 8) / 8 = q / 8 + 1 := by omega
      have h2 : (q + 8) % 8 = q % 8 := by omega
      have h3 : b * 2 ^ (q + 8) = 256 * (b * 2 ^ q) := by rw [Nat.pow_add, ← Nat.mul_assoc, Nat.mul_comm]
      rw [turned, h1, h2, h3, Nat.mul_mod_right, Nat.mul_div_cancel_left _ (by decide), turned_bit l q b hb, Nat.xor_zero]
      rfl
theorem nat8_turn1 (l : List UInt8) (p v : Nat) : nat8 (turn1 l p v) = turned (nat8 l) (v % 2 * 2 ^ p) := by
  rw [turned_bit _ _ _ (Nat.mod_lt _ (by decide))]
  unfold turn1 nat8 turnC
  have h2 : v % 2 * 2 ^ (p % 8) < 256 := by
    have h8 : p % 8 < 8 := Nat.mod_lt _ (by decide)
    have : 2 ^ (p % 8) ≤ 2 ^ 7 := Nat.pow_le_pow_right (by decide) (by omega)
    rcases Nat.mod_two_eq_zero_or_one v with h | h <;> rw [h] <;> omega
  rw [List.map_set, UInt8.toNat_ofNat_of_lt' (Nat.xor_lt_two_pow (n := 8) (UInt8.toNat_lt _) h2)]
  congr 2
  rw [List.getD_eq_getElem?_getD, List.getD_eq_getElem?_getD, List.getElem?_map]
  cases l[p / 8]? <;> rfl
theorem split_bit (v p : Nat) : (v % 2 * 2 ^ p) ^^^ (v / 2 * 2 ^ (p + 1)) = v * 2 ^ p := by
  have e := low_high v 1
  have h1 : v % 2 * 2 ^ p = 2 ^ p * (v % 2 ^ 1) := Nat.mul_comm _ _
  have h2 : v / 2 * 2 ^ (p + 1) = 2 ^ p * (2 ^ 1 * (v / 2 ^ 1)) := by rw [Nat.pow_succ, Nat.mul_comm, Nat.mul_assoc]
  rw [h1, h2, Nat.mul_comm v]
  apply Nat.eq_of_testBit_eq
  intro i
  have e2 : (2 ^ p * v).testBit i = (2 ^ p * (v % 2 ^ 1 ^^^ 2 ^ 1 * (v / 2 ^ 1))).testBit i := by rw [← e]
  rw [e2]
  generalize v % 2 ^ 1 = x
  generalize 2 ^ 1 * (v / 2 ^ 1) = y
  rw [Nat.testBit_xor, Nat.testBit_two_pow_mul, Nat.testBit_two_pow_mul, Nat.testBit_two_pow_mul, Nat.testBit_xor]
  by_cases h : p ≤ i <;> simp [h]
theorem nat8_burst (l : List UInt8) (p v : Nat) (hl : l.length = 128) : nat8 (burstL l p v) = turned (nat8 l) (v * 2 ^ p) := by
  induction l, p, v using burstL.induct with
  | case1 l p v h =>
    rw [burstL_end h]
    rcases h with rfl | h
    · rw [Nat.zero_mul, turned_zero]
    · rw [turned_same]
      have : (nat8 l).length = 128 := by simp [nat8, hl]
      have h1024 : 8 * (nat8 l).length = 1024 := by rw [this]
      rw [h1024]
      generalize 1024 = K at h
      obtain ⟨q, rfl⟩ : ∃ q, p = K + q := ⟨p - K, by omega⟩
      rw [Nat.pow_add, ← Nat.mul_assoc, Nat.mul_comm v, Nat.mul_assoc]
      exact Nat.mul_mod_right _ _
  | case2 l p v h ih =>
    rw [burstL_on (by omega) (by omega), ih (by rw [turn1_len, hl]), nat8_turn1, turned_turned, split_bit]
/-- Two frames of 128 bytes do not part by a burst. -/
theorem burst_frame {l : List UInt8} {p v : Nat} (hl : l.length = 128) (hp : p < 1024) (hv : v < 4294967296) {d d' : List Nat} (hd : ∀ c ∈ d, c < 256) (hd' : ∀ c ∈ d', c < 256)
    (h : nat8 l = framed d) (h' : nat8 (burstL l p v) = framed d') : burstL l p v = l := by
  refine nat8_inj ?_
  rw [h', h]
  have hlen : (framed d).length = 128 := by rw [← h]; simp [nat8, hl]
  refine framed_turned (w := v) (p := p) hd hd' hv (by rw [hlen]; omega) ?_
  rw [← h, ← nat8_burst l p v hl, h']
end Go.Proofs.YtafnelpcnfmhfaaDoor
