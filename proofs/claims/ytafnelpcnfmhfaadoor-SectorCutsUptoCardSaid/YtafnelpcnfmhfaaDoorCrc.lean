/-
  The sum of bytes (CRC-32) as mathematics: that turned bits within 32 bits one behind the other are seen. No walk, no program: for layer 5.
-/
import Derived.WalkKit
namespace Go.Proofs.YtafnelpcnfmhfaaDoor

/-- The remainder, shifted by one bit. -/
def cz (r : Nat) : Nat := (r / 2) ^^^ (if r % 2 = 1 then 3988292384 else 0)
/-- .. with one bit of what is summed. -/
def cst (r : Nat) (b : Bool) : Nat := cz (r ^^^ b.toNat)
def crun (r : Nat) (l : List Bool) : Nat := l.foldl cst r
/-- The lowest k bits of a number, the lowest first. -/
def bitsL (w : Nat) : Nat → List Bool
  | 0 => []
  | k + 1 => decide (w % 2 = 1) :: bitsL (w / 2) k
def czn : Nat → Nat → Nat
  | 0, r => r
  | n + 1, r => czn n (cz r)

theorem xor_half (a b : Nat) : (a ^^^ b) / 2 = (a / 2) ^^^ (b / 2) := Nat.xor_div_two
theorem xor_mod (a b : Nat) : (a ^^^ b) % 2 = (a + b) % 2 := by
  have h := Nat.testBit_xor (x := a) (y := b) (i := 0)
  simp only [Nat.testBit_zero] at h
  rcases Nat.mod_two_eq_zero_or_one a with ha | ha <;> rcases Nat.mod_two_eq_zero_or_one b with hb | hb <;> rcases Nat.mod_two_eq_zero_or_one (a ^^^ b) with hc | hc <;> simp [ha, hb, hc] at h <;> omega
theorem cz_xor (a b : Nat) : cz (a ^^^ b) = cz a ^^^ cz b := by
  unfold cz
  rw [xor_half, xor_mod]
  rcases Nat.mod_two_eq_zero_or_one a with ha | ha <;> rcases Nat.mod_two_eq_zero_or_one b with hb | hb
  · rw [if_neg (by omega), if_neg (by omega), if_neg (by omega)]; simp
  · rw [if_pos (by omega), if_neg (by omega), if_pos (by omega)]; simp [Nat.xor_assoc]
  · rw [if_pos (by omega), if_pos (by omega), if_neg (by omega)]
    simp only [Nat.xor_zero]
    rw [Nat.xor_assoc, Nat.xor_assoc, Nat.xor_comm (b / 2)]
  · rw [if_neg (by omega), if_pos (by omega), if_pos (by omega)]
    simp only [Nat.xor_zero]
    rw [Nat.xor_assoc, ← Nat.xor_assoc 3988292384, Nat.xor_comm 3988292384 (b / 2), Nat.xor_assoc (b / 2), Nat.xor_self, Nat.xor_zero]
theorem cz_lt {r : Nat} (h : r < 4294967296) : cz r < 4294967296 := by
  unfold cz
  have h1 : r / 2 < 2 ^ 32 := by omega
  split
  · exact Nat.xor_lt_two_pow h1 (by decide)
  · exact Nat.xor_lt_two_pow h1 (by decide)
theorem cz_zero {r : Nat} (h : r < 4294967296) (hz : cz r = 0) : r = 0 := by
  unfold cz at hz
  by_cases ho : r % 2 = 1
  · rw [if_pos ho] at hz
    have e := congrArg (r / 2 ^^^ ·) hz
    simp only [Nat.xor_zero] at e
    rw [← Nat.xor_assoc, Nat.xor_self, Nat.zero_xor] at e
    omega
  · rw [if_neg ho, Nat.xor_zero] at hz
    omega
theorem cz_0 : cz 0 = 0 := by decide
theorem czn_0 : ∀ n, czn n 0 = 0
  | 0 => rfl
  | n + 1 => by rw [czn, cz_0]; exact czn_0 n
theorem czn_ne : ∀ (n : Nat) {r : Nat}, r < 4294967296 → r ≠ 0 → czn n r ≠ 0
  | 0, _, _, h => h
  | n + 1, r, hr, h => by
    rw [czn]
    exact czn_ne n (cz_lt hr) (fun e => h (cz_zero hr e))
theorem czn_xor : ∀ (n a b : Nat), czn n (a ^^^ b) = czn n a ^^^ czn n b
  | 0, _, _ => rfl
  | n + 1, a, b => by rw [czn, czn, czn, cz_xor]; exact czn_xor n _ _
theorem cz_even (k : Nat) : cz (2 * k) = k := by
  unfold cz
  rw [if_neg (by omega), Nat.xor_zero]
  omega
theorem bool_half (w : Nat) : w = (decide (w % 2 = 1)).toNat ^^^ (2 * (w / 2)) := by
  apply Nat.eq_of_testBit_eq
  intro i
  rw [Nat.testBit_xor]
  cases i with
  | zero =>
    have e : (2 * (w / 2)).testBit 0 = false := by rw [Nat.testBit_zero]; simp
    rw [e, Nat.testBit_zero, Nat.testBit_zero]
    by_cases h : w % 2 = 1 <;> simp [h]
  | succ i =>
    have e1 : (2 * (w / 2)).testBit (i + 1) = (w / 2).testBit i := by
      rw [Nat.testBit_succ]; congr 1; omega
    have e2 : ((decide (w % 2 = 1)).toNat).testBit (i + 1) = false := by
      rw [Nat.testBit_succ]
      have : (decide (w % 2 = 1)).toNat / 2 = 0 := by
        by_cases h : w % 2 = 1 <;> simp [h]
      rw [this]; simp
    rw [e1, e2, Nat.testBit_succ]; simp
/-- Bits that go in one behind the other, or all at once ahead. -/
theorem crun_bits : ∀ (k w r : Nat), w < 2 ^ k → crun r (bitsL w k) = czn k (r ^^^ w)
  | 0, w, r, h => by
    have : w = 0 := by simpa using h
    subst this
    simp [crun, bitsL, czn]
  | k + 1, w, r, h => by
    have hw : w / 2 < 2 ^ k := by rw [Nat.pow_succ] at h; omega
    show crun (cst r (decide (w % 2 = 1))) (bitsL (w / 2) k) = czn k (cz (r ^^^ w))
    rw [crun_bits k (w / 2) _ hw]
    congr 1
    have e : r ^^^ w = (r ^^^ (decide (w % 2 = 1)).toNat) ^^^ (2 * (w / 2)) := by
      rw [Nat.xor_assoc, ← bool_half w]
    rw [e, cz_xor, cz_even]
    rfl
theorem crun_zeros : ∀ (n r : Nat), crun r (List.replicate n false) = czn n r
  | 0, _ => rfl
  | n + 1, r => by
    rw [List.replicate_succ]
    show crun (cst r false) (List.replicate n false) = czn n (cz r)
    rw [crun_zeros n]
    simp [cst]
theorem crun_app (r : Nat) (a b : List Bool) : crun r (a ++ b) = crun (crun r a) b := by simp [crun, List.foldl_append]
/-- Bits that are turned in a row of at most 32 leave a trace. -/
theorem crun_burst {w k p q : Nat} (hk : k ≤ 32) (hw : w < 2 ^ k) (h0 : w ≠ 0) : crun 0 (List.replicate p false ++ (bitsL w k ++ List.replicate q false)) ≠ 0 := by
  rw [crun_app, crun_zeros, czn_0, crun_app, crun_bits k w 0 hw, crun_zeros, Nat.zero_xor]
  have hw32 : w < 4294967296 := Nat.lt_of_lt_of_le hw (by
    have := Nat.pow_le_pow_right (n := 2) (by omega) hk
    simpa using this)
  have hc : ∀ (n : Nat) {r : Nat}, r < 4294967296 → czn n r < 4294967296 := by
    intro n
    induction n with
    | zero => intro r h; exact h
    | succ n ih => intro r h; rw [czn]; exact ih (cz_lt h)
  exact czn_ne q (hc k hw32) (czn_ne k hw32 h0)
/-- Two rows of bits, place by place. -/
def xorL : List Bool → List Bool → List Bool
  | a :: l, b :: m => (a ^^ b) :: xorL l m
  | _, _ => []
theorem toNat_xor (a b : Bool) : (a ^^ b).toNat = a.toNat ^^^ b.toNat := by cases a <;> cases b <;> rfl
theorem crun_xor : ∀ (l m : List Bool) (r s : Nat), l.length = m.length → crun (r ^^^ s) (xorL l m) = crun r l ^^^ crun s m
  | [], [], _, _, _ => rfl
  | a :: l, b :: m, r, s, h => by
    show crun (cst (r ^^^ s) (a ^^ b)) (xorL l m) = crun (cst r a) l ^^^ crun (cst s b) m
    rw [← crun_xor l m _ _ (by simpa using h)]
    congr 1
    unfold cst
    rw [toNat_xor, ← cz_xor]
    congr 1
    rw [Nat.xor_assoc, Nat.xor_assoc, ← Nat.xor_assoc s, Nat.xor_comm s, Nat.xor_assoc]
  | [], _ :: _, _, _, h => by simp at h
  | _ :: _, [], _, _, h => by simp at h
theorem bitsL_len : ∀ (k w : Nat), (bitsL w k).length = k
  | 0, _ => rfl
  | k + 1, w => by rw [bitsL, List.length_cons, bitsL_len k]
theorem bitsL_xor : ∀ (k a b : Nat), xorL (bitsL a k) (bitsL b k) = bitsL (a ^^^ b) k
  | 0, _, _ => rfl
  | k + 1, a, b => by
    show (decide (a % 2 = 1) ^^ decide (b % 2 = 1)) :: xorL (bitsL (a / 2) k) (bitsL (b / 2) k) = decide ((a ^^^ b) % 2 = 1) :: bitsL ((a ^^^ b) / 2) k
    rw [bitsL_xor k, xor_half, xor_mod]
    congr 1
    rcases Nat.mod_two_eq_zero_or_one a with ha | ha <;> rcases Nat.mod_two_eq_zero_or_one b with hb | hb <;> simp [ha, hb, Nat.add_mod]
theorem xorL_app : ∀ (a c b d : List Bool), a.length = c.length → xorL (a ++ b) (c ++ d) = xorL a c ++ xorL b d
  | [], [], _, _, _ => rfl
  | x :: a, y :: c, b, d, h => by
    show (x ^^ y) :: xorL (a ++ b) (c ++ d) = (x ^^ y) :: (xorL a c ++ xorL b d)
    rw [xorL_app a c b d (by simpa using h)]
  | [], _ :: _, _, _, h => by simp at h
  | _ :: _, [], _, _, h => by simp at h
/-- Bits with their sum behind them. -/
def summed (d : List Bool) : List Bool := d ++ bitsL (4294967295 ^^^ crun 4294967295 d) 32
theorem crun_lt : ∀ (l : List Bool) {r : Nat}, r < 4294967296 → crun r l < 4294967296
  | [], _, h => h
  | b :: l, r, h => by
    show crun (cst r b) l < 4294967296
    refine crun_lt l (cz_lt ?_)
    have : b.toNat < 2 ^ 32 := by cases b <;> decide
    exact Nat.xor_lt_two_pow (n := 32) h this
/-- What parts two rows of bits that have their sums leaves no trace. -/
theorem summed_xor {d d' : List Bool} (h : d.length = d'.length) : crun 0 (xorL (summed d) (summed d')) = 0 := by
  unfold summed
  rw [xorL_app d d' _ _ h, crun_app, bitsL_xor]
  have e1 : crun 0 (xorL d d') = crun 4294967295 d ^^^ crun 4294967295 d' := by
    rw [← crun_xor d d' _ _ h, Nat.xor_self]
  have e2 : (4294967295 ^^^ crun 4294967295 d) ^^^ (4294967295 ^^^ crun 4294967295 d') = crun 4294967295 d ^^^ crun 4294967295 d' := by
    rw [Nat.xor_comm 4294967295 (crun 4294967295 d), Nat.xor_assoc, ← Nat.xor_assoc 4294967295 4294967295, Nat.xor_self, Nat.zero_xor]
  rw [e1, e2]
  have hlt : crun 4294967295 d ^^^ crun 4294967295 d' < 2 ^ 32 := Nat.xor_lt_two_pow (crun_lt d (by decide)) (crun_lt d' (by decide))
  rw [crun_bits 32 _ _ hlt, Nat.xor_self, czn_0]
/-- So where bits are turned in a row of at most 32, two rows that have their sums do not part. -/
theorem burst_seen {d d' : List Bool} (h : d.length = d'.length) {w k p q : Nat} (hk : k ≤ 32) (hw : w < 2 ^ k) (h0 : w ≠ 0)
    (hx : xorL (summed d) (summed d') = List.replicate p false ++ (bitsL w k ++ List.replicate q false)) : False := by
  have h1 := summed_xor h
  rw [hx] at h1
  exact crun_burst hk hw h0 h1
end Go.Proofs.YtafnelpcnfmhfaaDoor
