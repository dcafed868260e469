/-
  The sum of bytes, byte by byte and by a table; what bytes with their sum behind them become where bits are turned. No walk, no program: for layer 5.
-/
import Derived.Test.YtafnelpcnfmhfaaDoorCrc
namespace Go.Proofs.YtafnelpcnfmhfaaDoor

theorem czn_add : ∀ (m n r : Nat), czn (m + n) r = czn n (czn m r)
  | 0, n, r => by rw [Nat.zero_add, czn]
  | m + 1, n, r => by rw [Nat.add_right_comm, czn, czn]; exact czn_add m n _
theorem czn_pow : ∀ (n k : Nat), czn n (2 ^ n * k) = k
  | 0, k => by simp [czn]
  | n + 1, k => by
    rw [czn, show 2 ^ (n + 1) * k = 2 * (2 ^ n * k) by rw [Nat.pow_succ, Nat.mul_comm (2 ^ n) 2, Nat.mul_assoc], cz_even]
    exact czn_pow n k
theorem low_high (x n : Nat) : x = (x % 2 ^ n) ^^^ (2 ^ n * (x / 2 ^ n)) := by
  apply Nat.eq_of_testBit_eq
  intro i
  rw [Nat.testBit_xor, Nat.testBit_mod_two_pow, Nat.testBit_two_pow_mul, Nat.testBit_div_two_pow]
  by_cases h : i < n
  · simp [h, show ¬ n ≤ i by omega]
  · simp [h, show n ≤ i by omega, show i - n + n = i by omega]
/-- One byte at once. -/
def cbyte (r c : Nat) : Nat := czn 8 (r ^^^ c)
/-- .. by a table of the 256 bytes. -/
theorem cbyte_table {r c : Nat} (hc : c < 256) : cbyte r c = czn 8 ((r ^^^ c) % 256) ^^^ (r / 256) := by
  unfold cbyte
  have e := low_high (r ^^^ c) 8
  have h : (r ^^^ c) / 2 ^ 8 = r / 256 := by
    rw [Nat.xor_div_two_pow, show c / 2 ^ 8 = 0 from Nat.div_eq_of_lt hc, Nat.xor_zero]
  rw [h] at e
  have e2 : czn 8 (r ^^^ c) = czn 8 ((r ^^^ c) % 2 ^ 8 ^^^ 2 ^ 8 * (r / 256)) := congrArg (czn 8) e
  rw [e2, czn_xor, czn_pow]
theorem cbyte_lt {r c : Nat} (hr : r < 4294967296) (hc : c < 256) : cbyte r c < 4294967296 := by
  unfold cbyte
  rw [← crun_bits 8 c r hc]
  exact crun_lt _ hr

/-- The bits of bytes, the lowest of each first. -/
def bitsOf : List Nat → List Bool
  | [] => []
  | c :: l => bitsL c 8 ++ bitsOf l
theorem bitsOf_len : ∀ l : List Nat, (bitsOf l).length = 8 * l.length
  | [] => rfl
  | c :: l => by rw [bitsOf, List.length_append, bitsL_len, bitsOf_len l, List.length_cons]; omega
theorem bitsOf_app : ∀ a b : List Nat, bitsOf (a ++ b) = bitsOf a ++ bitsOf b
  | [], _ => rfl
  | c :: a, b => by rw [List.cons_append, bitsOf, bitsOf, bitsOf_app a b, List.append_assoc]
/-- The remainder behind some bytes. -/
def crem (r : Nat) (l : List Nat) : Nat := l.foldl cbyte r
theorem crem_bits : ∀ (l : List Nat) (r : Nat), (∀ c ∈ l, c < 256) → crun r (bitsOf l) = crem r l
  | [], _, _ => rfl
  | c :: l, r, h => by
    rw [bitsOf, crun_app, crun_bits 8 c r (h c (List.mem_cons_self ..)), crem_bits l _ (fun x hx => h x (List.mem_cons_of_mem _ hx))]
    rfl
theorem crem_lt : ∀ (l : List Nat) {r : Nat}, r < 4294967296 → (∀ c ∈ l, c < 256) → crem r l < 4294967296
  | [], _, h, _ => h
  | c :: l, r, h, hl => crem_lt l (r := cbyte r c) (cbyte_lt h (hl c (List.mem_cons_self ..))) (fun x hx => hl x (List.mem_cons_of_mem _ hx))
/-- The sum of bytes. -/
def csum (l : List Nat) : Nat := 4294967295 ^^^ crem 4294967295 l
theorem csum_lt {l : List Nat} (h : ∀ c ∈ l, c < 256) : csum l < 4294967296 :=
  Nat.xor_lt_two_pow (n := 32) (by decide) (crem_lt l (by decide) h)
/-- A sum in four bytes, the lowest first. -/
def le4 (x : Nat) : List Nat := [x % 256, x / 256 % 256, x / 65536 % 256, x / 16777216 % 256]
theorem bitsL_mod : ∀ (k w m : Nat), k ≤ m → bitsL (w % 2 ^ m) k = bitsL w k
  | 0, _, _, _ => rfl
  | k + 1, w, m, h => by
    obtain ⟨m, rfl⟩ : ∃ n, m = n + 1 := ⟨m - 1, by omega⟩
    have e1 : w % 2 ^ (m + 1) % 2 = w % 2 := Nat.mod_mod_of_dvd _ ⟨2 ^ m, by rw [Nat.pow_succ, Nat.mul_comm]⟩
    have e2 : w % 2 ^ (m + 1) / 2 = w / 2 % 2 ^ m := by rw [Nat.pow_succ, Nat.mul_comm, Nat.mod_mul_right_div_self]
    rw [bitsL, bitsL, e1, e2, bitsL_mod k _ m (by omega)]
theorem bitsL_add : ∀ (j k w : Nat), bitsL w (j + k) = bitsL w j ++ bitsL (w / 2 ^ j) k
  | 0, k, w => by simp [bitsL]
  | j + 1, k, w => by
    rw [Nat.add_right_comm, bitsL, bitsL, bitsL_add j k, Nat.div_div_eq_div_mul, show 2 * 2 ^ j = 2 ^ (j + 1) by rw [Nat.pow_succ, Nat.mul_comm]]
    rfl
theorem le4_bits (x : Nat) : bitsOf (le4 x) = bitsL x 32 := by
  unfold le4
  simp only [bitsOf, List.append_nil]
  rw [show (32 : Nat) = 8 + (8 + (8 + 8)) from rfl, bitsL_add 8, bitsL_add 8, bitsL_add 8, Nat.div_div_eq_div_mul, Nat.div_div_eq_div_mul]
  have h := fun w => bitsL_mod 8 w 8 (Nat.le_refl _)
  simp only [show (2 : Nat) ^ 8 = 256 from rfl] at h ⊢
  rw [h, h, h, h]
/-- Bytes with their sum behind them. -/
def framed (d : List Nat) : List Nat := d ++ le4 (csum d)
theorem framed_bits {d : List Nat} (h : ∀ c ∈ d, c < 256) : bitsOf (framed d) = summed (bitsOf d) := by
  unfold framed summed csum
  rw [bitsOf_app, le4_bits, crem_bits d _ h]

/-- Bytes whose bits are turned where a number has its bits. -/
def turned : List Nat → Nat → List Nat
  | [], _ => []
  | c :: l, w => (c ^^^ (w % 256)) :: turned l (w / 256)
theorem turned_len : ∀ (l : List Nat) (w : Nat), (turned l w).length = l.length
  | [], _ => rfl
  | c :: l, w => by rw [turned, List.length_cons, turned_len l, List.length_cons]
theorem turned_same : ∀ (l : List Nat) (w : Nat), w % 2 ^ (8 * l.length) = 0 → turned l w = l
  | [], _, _ => rfl
  | c :: l, w, h => by
    rw [List.length_cons, show 8 * (l.length + 1) = 8 + 8 * l.length by omega, Nat.pow_add] at h
    have h1 : w % 2 ^ 8 = 0 := by rw [← Nat.mod_mul_right_mod w (2 ^ 8) (2 ^ (8 * l.length)), h]
    have h2 : w / 2 ^ 8 % 2 ^ (8 * l.length) = 0 := by rw [← Nat.mod_mul_right_div_self, h, Nat.zero_div]
    rw [turned, turned_same l (w / 256) h2, show w % 256 = 0 from h1, Nat.xor_zero]
theorem xorL_self : ∀ a b : List Bool, a.length = b.length → xorL a (xorL a b) = b
  | [], [], _ => rfl
  | x :: a, y :: b, h => by
    show (x ^^ (x ^^ y)) :: xorL a (xorL a b) = y :: b
    rw [xorL_self a b (by simpa using h), ← Bool.xor_assoc, Bool.xor_self, Bool.false_xor]
  | [], _ :: _, h => by cases h
  | _ :: _, [], h => by cases h
theorem turned_bits : ∀ (l : List Nat) (w : Nat), bitsOf (turned l w) = xorL (bitsOf l) (bitsL w (8 * l.length))
  | [], _ => rfl
  | c :: l, w => by
    rw [turned, bitsOf, bitsOf, turned_bits l, List.length_cons, show 8 * (l.length + 1) = 8 + 8 * l.length by omega, bitsL_add, xorL_app _ _ _ _ (by rw [bitsL_len, bitsL_len]), ← bitsL_xor, show (256 : Nat) = 2 ^ 8 from rfl, bitsL_mod 8 w 8 (Nat.le_refl _)]
theorem turned_xor (l : List Nat) (w : Nat) : xorL (bitsOf l) (bitsOf (turned l w)) = bitsL w (8 * l.length) := by
  rw [turned_bits, xorL_self _ _ (by rw [bitsOf_len, bitsL_len])]
theorem bitsL_shift : ∀ (p w k : Nat), bitsL (w * 2 ^ p) (p + k) = List.replicate p false ++ bitsL w k
  | 0, w, k => by simp
  | p + 1, w, k => by
    rw [Nat.add_right_comm, bitsL, List.replicate_succ, List.cons_append, show w * 2 ^ (p + 1) = 2 * (w * 2 ^ p) by rw [Nat.pow_succ, ← Nat.mul_assoc, Nat.mul_comm], Nat.mul_mod_right, Nat.mul_div_cancel_left _ (by decide), bitsL_shift p]
    rfl
theorem bitsL_0 : ∀ k : Nat, bitsL 0 k = List.replicate k false
  | 0 => rfl
  | k + 1 => by rw [bitsL, List.replicate_succ, Nat.zero_div, bitsL_0 k]; rfl
/-- A frame whose bits are turned within 32 bits one behind the other, from a place within it on, is no frame, or it is the same. -/
theorem framed_turned {d d' : List Nat} (hd : ∀ c ∈ d, c < 256) (hd' : ∀ c ∈ d', c < 256) {w p : Nat} (hw : w < 2 ^ 32) (hp : p ≤ 8 * (framed d).length)
    (h : turned (framed d) (w * 2 ^ p) = framed d') : framed d' = framed d := by
  have hl : (framed d').length = (framed d).length := by rw [← h, turned_len]
  have hx : xorL (summed (bitsOf d)) (summed (bitsOf d')) = bitsL (w * 2 ^ p) (8 * (framed d).length) := by
    rw [← framed_bits hd, ← framed_bits hd', ← h, turned_xor]
  have hlen : (bitsOf d).length = (bitsOf d').length := by
    rw [bitsOf_len, bitsOf_len]
    have : ∀ e : List Nat, (framed e).length = e.length + 4 := fun e => by rw [framed, List.length_append]; rfl
    rw [this, this] at hl
    omega
  obtain ⟨m, hm⟩ : ∃ m, 8 * (framed d).length = p + m := ⟨8 * (framed d).length - p, by omega⟩
  rw [hm, bitsL_shift] at hx
  rw [← h]
  have zero : w % 2 ^ m = 0 → turned (framed d) (w * 2 ^ p) = framed d := fun h0 => turned_same _ _ (by
    rw [hm, Nat.pow_add, Nat.mul_comm w, Nat.mul_mod_mul_left, h0, Nat.mul_zero])
  by_cases h0 : w % 2 ^ m = 0
  · exact zero h0
  · exfalso
    by_cases hk : m ≤ 32
    · refine burst_seen hlen (w := w % 2 ^ m) (k := m) (p := p) (q := 0) hk (Nat.mod_lt _ (Nat.two_pow_pos m)) h0 ?_
      rw [hx, bitsL_mod m w m (Nat.le_refl _)]
      simp
    · have hmw : w % 2 ^ m = w := Nat.mod_eq_of_lt (Nat.lt_of_lt_of_le hw (Nat.pow_le_pow_right (by decide) (by omega)))
      refine burst_seen hlen (w := w) (k := 32) (p := p) (q := m - 32) (Nat.le_refl _) hw (by rwa [hmw] at h0) ?_
      rw [hx, show m = 32 + (m - 32) by omega, bitsL_add, Nat.div_eq_of_lt hw, bitsL_0]
      simp
end Go.Proofs.YtafnelpcnfmhfaaDoor
