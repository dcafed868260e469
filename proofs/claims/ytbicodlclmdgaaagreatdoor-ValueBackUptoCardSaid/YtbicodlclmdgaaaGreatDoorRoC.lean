/-
  The reader of package value, open or not, and whatever is wrong: the bytes of a string.
-/
import Derived.Test.YtbicodlclmdgaaaGreatDoorRoB
import Derived.Shelf.Small.Strs
namespace Go.Proofs.YtbicodlclmdgaaaGreatDoor
open Go.RowKit
set_option linter.unusedVariables false      -- a walk need not use every condition

def lays137_ren : Go.Shelf.Ren := ⟨fun | 137 => 142 | 217 => 149 | 266 => 156 | n => n, fun | 9 => 9 | 5 => 5 | 3 => 3 | n => n, fun | n => n⟩
theorem lays137 : Go.Proofs.Lays.n137 Tryz.prog lays137_ren := {
  mixed := by kernel_rfl
  f137 := Tryz.func142.trans (congrArg some (by kernel_rfl))
  f217 := Tryz.func149.trans (congrArg some (by kernel_rfl))
  f266 := Tryz.func156.trans (congrArg some (by kernel_rfl))
  t3 := Tryz.underlying3
  a3 := Tryz.isAgg3
  z3 := Tryz.sizeOf3
  v3 := Tryz.zeroValue3
  t5 := Tryz.underlying5
  a5 := Tryz.isAgg5
  z5 := Tryz.sizeOf5
  v5 := Tryz.zeroValue5
  t9 := Tryz.underlying9
  a9 := Tryz.isAgg9
  z9 := Tryz.sizeOf9
  v9 := Tryz.zeroValue9 }
def hexL : List UInt8 := [48, 49, 50, 51, 52, 53, 54, 55, 56, 57, 97, 98, 99, 100, 101, 102]
theorem hex_index (c : UInt8) : Lib.indexByte hexL c = (match hexv c with | some a => (a : Int) | none => -1) := by
  have h : ∀ n, n < 256 → Lib.indexByte hexL (UInt8.ofNat n) = (match hexv (UInt8.ofNat n) with | some a => (a : Int) | none => -1) := by decide +kernel
  have := h c.toNat (UInt8.toNat_lt c)
  rwa [UInt8.ofNat_toNat] at this
theorem index142 (c : UInt8) (w : World) : Calls Tryz.prog 142 #[.string ⟨#[48, 49, 50, 51, 52, 53, 54, 55, 56, 57, 97, 98, 99, 100, 101, 102]⟩, .int .u8 c.toNat] w
    fun e w' => e = .returned (.int .i64 (match hexv c with | some a => (a : Int) | none => -1)) ∧ w' = w := by
  have h := Any.strings_IndexByte lays137 ⟨#[48, 49, 50, 51, 52, 53, 54, 55, 56, 57, 97, 98, 99, 100, 101, 102]⟩ c.toNat w
  rw [show ((c.toNat : Int).toNat.toUInt8) = c by simp, show (⟨#[48, 49, 50, 51, 52, 53, 54, 55, 56, 57, 97, 98, 99, 100, 101, 102]⟩ : ByteArray).data.toList = hexL from rfl, hex_index] at h
  exact h
theorem noSign105 (n : Int) (w : World) : Calls Tryz.prog 105 #[.int .u8 n] w fun e w' => e = .returned (.bool (decide (n < 32) || decide (126 < n))) ∧ w' = w := by
  by_cases h1 : n < 32
  · rw [decide_eq_true h1]
    go_enter Tryz.func105, Tryz.ntmps105
    go_wp2
    go_ret
    exact ⟨rfl, rfl⟩
  · by_cases h2 : 126 < n
    · rw [decide_eq_false h1, decide_eq_true h2]
      go_enter Tryz.func105, Tryz.ntmps105
      go_wp2
      go_ret
      exact ⟨rfl, rfl⟩
    · rw [decide_eq_false h1, decide_eq_false h2]
      go_enter Tryz.func105, Tryz.ntmps105
      go_wp2
      go_ret
      exact ⟨rfl, rfl⟩
theorem noSign_is (n : Int) (b : Bool) (h : (decide (n < 32) || decide (126 < n)) = b) (w : World) : Calls Tryz.prog 105 #[.int .u8 n] w fun e w' => e = .returned (.bool b) ∧ w' = w := by
  rw [← h]; exact noSign105 n w
set_option maxHeartbeats 2000000 in
theorem hex135_yes (w : World) (r : Nat) (T : ByteArray) (p : Nat) (o : Bool) (k : Nat) (h : Ro w r T p o k) (hp : p < T.size) (a : Nat) (ha : hexv T[p] = some a) :
    Calls Tryz.prog 135 #[.pointer (some ⟨r, 0, none⟩)] w fun e w' => e = .returned (.int .u8 a) ∧ Rq r T p o k w w' := by
  have c142 := index142 T[p]
  rw [ha] at c142
  simp only at c142
  have ha16 := (hex_back ha).1
  have hr := Rq.drew h
  obtain ⟨c0, c1, c2, c3, cf⟩ := h.cells
  have hu : IntKind.u8.wrap (a : Int) = (a : Int) := by rw [IntKind.wrap_u8]; omega
  clear ha
  go_enter Tryz.func135, Tryz.ntmps135
  go_wp2
  go_region_held3 (fun w' => w'.cell? ⟨r, 0, none⟩ = some (.string T) ∧ w'.cell? ⟨r, 1, none⟩ = some (.int .i64 p))
    (first | exact ⟨c0, c1⟩)
    (first | (go_at_call 142; refine (c142 _).mono ?_; rintro e w3 ⟨rfl, rfl⟩))
  go_wp2
  go_ret
  exact ⟨rfl, hr⟩
set_option maxHeartbeats 2000000 in
theorem hex135_no (w : World) (r : Nat) (T : ByteArray) (p : Nat) (o : Bool) (k : Nat) (h : Ro w r T p o k) (hp : p < T.size) (ha : hexv T[p] = none) :
    Calls Tryz.prog 135 #[.pointer (some ⟨r, 0, none⟩)] w fun e w' => Fails r T w e w' := by
  have c142 := index142 T[p]
  rw [ha] at c142
  simp only at c142
  have hr := Rq.drew h
  obtain ⟨c0, c1, c2, c3, cf⟩ := h.cells
  clear ha
  go_enter Tryz.func135, Tryz.ntmps135
  go_wp2
  go_region_held3 (fun w' => w'.cell? ⟨r, 0, none⟩ = some (.string T) ∧ w'.cell? ⟨r, 1, none⟩ = some (.int .i64 p))
    (first | exact ⟨c0, c1⟩)
    (first | (go_at_call 142; refine (c142 _).mono ?_; rintro e w3 ⟨rfl, rfl⟩))
  go_wp2_with (go_at_call 81; refine (giveUp81 _ r T p o k hr.2 (by omega)).mono ?_; rintro e w2 ⟨q2, hq2, rfl, hg⟩)
  exact ⟨rfl, q2, hq2, rfl, hr.1.trans hg⟩
theorem u8_nat {n : Nat} (h : n < 256) : (UInt8.ofNat n).toNat = n := by rw [UInt8.toNat_ofNat', Nat.mod_eq_of_lt (by omega)]
theorem noSg_nat {n : Nat} (h : n < 256) : noSg (UInt8.ofNat n) = (decide (n < 32) || decide (126 < n)) := by unfold noSg; rw [u8_nat h]
theorem or16 {a b : Nat} (ha : a < 16) (hb : b < 16) : bits .or .u8 ((a : Int) * 16) (b : Int) = (a : Int) * 16 + (b : Int) := by
  have h : ∀ a, a < 16 → ∀ b, b < 16 → bits .or .u8 (((a : Nat) : Int) * 16) ((b : Nat) : Int) = ((a : Nat) : Int) * 16 + ((b : Nat) : Int) := by decide +kernel
  exact h a ha b hb
theorem hid_end {x : UInt8} {s : List UInt8} (h : hexv x = none) : pHid (x :: s) = none := by simp only [pHid, h]
theorem hid_sign {x : UInt8} {s : List UInt8} {a : Nat} (h : hexv x = some a) (h1 : ¬ ((a : Int) * 16 < 32 ∨ 126 < (a : Int) * 16)) (h2 : ¬ ((a : Int) * 16 + 15 < 32 ∨ 126 < (a : Int) * 16 + 15)) : pHid (x :: s) = none := by
  have ha := (hex_back h).1
  simp only [pHid, h, noSg_nat (show 16 * a < 256 by omega), noSg_nat (show 16 * a + 15 < 256 by omega)]
  rw [if_neg (by simp; omega)]
/-- What is read behind the first digit. -/
def pHid2 (a : Nat) : List UInt8 → Option (UInt8 × List UInt8)
  | [] => none
  | l :: s => match hexv l with
    | none => none
    | some b => if noSg (UInt8.ofNat (16 * a + b)) then some (UInt8.ofNat (16 * a + b), s) else none
theorem hid_go {x : UInt8} {s : List UInt8} {a : Nat} (h : hexv x = some a) (h1 : ((a : Int) * 16 < 32 ∨ 126 < (a : Int) * 16) ∨ ((a : Int) * 16 + 15 < 32 ∨ 126 < (a : Int) * 16 + 15)) : pHid (x :: s) = pHid2 a s := by
  have ha := (hex_back h).1
  simp only [pHid, h, noSg_nat (show 16 * a < 256 by omega), noSg_nat (show 16 * a + 15 < 256 by omega)]
  rw [if_pos (by simp; omega)]
  cases s <;> rfl
set_option maxHeartbeats 1000000 in
set_option maxRecDepth 20000 in
theorem hid_a (w : World) (r : Nat) (T : ByteArray) (p : Nat) (o : Bool) (k : Nat) (h : Ro w r T p o k) (hT : T.size ≤ 9223372036854775807) (hlt : p < T.size) (a : Nat) (ha : hexv T[p] = some a) (ha16 : a < 16) (N M : Int) (hN : (a : Int) * 16 = N)
    (hb15 : bits .or .u8 N 15 = M) (b1 b2 : Bool) (n1 : (decide (N < 32) || decide (126 < N)) = b1) (n2 : (decide (M < 32) || decide (126 < M)) = b2) (hbb : b1 = true ∨ (b1 = false ∧ b2 = true)) (hend : p + 1 = T.size) :
    Calls Tryz.prog 128 #[.pointer (some ⟨r, 0, none⟩)] w fun e w' => (o = true ∧ e = .returned (.int .u8 M) ∧ Rq r T (p + 1) o k w w') ∨ (o = false ∧ Fails r T w e w') := by
  have hw : IntKind.i64.wrap ((p : Int) + 1) = (p : Int) + 1 := by rw [IntKind.wrap_i64]; omega
  have tk : True := trivial
  have tk2 : True := trivial
  have tk3 : True := trivial
  rcases hbb with rfl | ⟨rfl, rfl⟩
  case inl =>
    go_enter Tryz.func128, Tryz.ntmps128
    go_wp2_with (first
      | (go_at_call 96; clear tk; refine (cut96_no _ r T p o k h hlt).mono ?_; rintro e w1 ⟨rfl, h1⟩)
      | (go_at_call 96; refine (cut96_end _ r T (p + 1) o k (h1.trans h2).step.2 hend).mono ?_; rintro e w4 (⟨ho, rfl, h4⟩ | ⟨ho, q2, hq2, rfl, hg⟩))
      | (go_at_call 135; clear tk2; refine (hex135_yes _ r T p o k h1.2 hlt a ha).mono ?_; rintro e w2 ⟨rfl, h2⟩; obtain ⟨c0, c1, c2, c3, cf⟩ := h2.2.cells)
      | (go_at_call 105; refine (noSign_is N _ n1 _).mono ?_; rintro e w3 ⟨rfl, rfl⟩))
    · go_ret
      exact .inl ⟨ho, rfl, (h1.trans h2).step.trans h4⟩
    · exact ⟨rfl, .inr ⟨ho, q2, hq2, rfl, (h1.trans h2).step.1.trans hg⟩⟩
  case inr =>
    have tk4 : True := trivial
    go_enter Tryz.func128, Tryz.ntmps128
    go_wp2_with (first
      | (go_at_call 96; clear tk; refine (cut96_no _ r T p o k h hlt).mono ?_; rintro e w1 ⟨rfl, h1⟩)
      | (go_at_call 96; refine (cut96_end _ r T (p + 1) o k (h1.trans h2).step.2 hend).mono ?_; rintro e w4 (⟨ho, rfl, h4⟩ | ⟨ho, q2, hq2, rfl, hg⟩))
      | (go_at_call 135; clear tk2; refine (hex135_yes _ r T p o k h1.2 hlt a ha).mono ?_; rintro e w2 ⟨rfl, h2⟩; obtain ⟨c0, c1, c2, c3, cf⟩ := h2.2.cells)
      | (go_at_call 105; clear tk3; refine (noSign_is N _ n1 _).mono ?_; rintro e w3 ⟨rfl, rfl⟩)
      | (go_at_call 105; clear tk4; refine (noSign_is M _ n2 _).mono ?_; rintro e w3 ⟨rfl, rfl⟩))
    · go_ret
      exact .inl ⟨ho, rfl, (h1.trans h2).step.trans h4⟩
    · exact ⟨rfl, .inr ⟨ho, q2, hq2, rfl, (h1.trans h2).step.1.trans hg⟩⟩
set_option maxHeartbeats 1000000 in
set_option maxRecDepth 20000 in
theorem hid_b (w : World) (r : Nat) (T : ByteArray) (p : Nat) (o : Bool) (k : Nat) (h : Ro w r T p o k) (hT : T.size ≤ 9223372036854775807) (hlt : p < T.size) (a : Nat) (ha : hexv T[p] = some a) (ha16 : a < 16) (N M : Int) (hN : (a : Int) * 16 = N)
    (hb15 : bits .or .u8 N 15 = M) (b1 b2 : Bool) (n1 : (decide (N < 32) || decide (126 < N)) = b1) (n2 : (decide (M < 32) || decide (126 < M)) = b2) (hbb : b1 = true ∨ (b1 = false ∧ b2 = true)) (hlt1 : p + 1 < T.size) (hb : hexv T[p + 1] = none) :
    Calls Tryz.prog 128 #[.pointer (some ⟨r, 0, none⟩)] w fun e w' => Fails r T w e w' := by
  have hw : IntKind.i64.wrap ((p : Int) + 1) = (p : Int) + 1 := by rw [IntKind.wrap_i64]; omega
  have hw2 : IntKind.i64.wrap ((p : Int) + 1 + 1) = (p : Int) + 1 + 1 := by rw [IntKind.wrap_i64]; omega
  have tk : True := trivial
  have tk2 : True := trivial
  have tk3 : True := trivial
  rcases hbb with rfl | ⟨rfl, rfl⟩
  case inl =>
    go_enter Tryz.func128, Tryz.ntmps128
    go_wp2_with (first
      | (go_at_call 96; clear tk; refine (cut96_no _ r T p o k h hlt).mono ?_; rintro e w1 ⟨rfl, h1⟩)
      | (go_at_call 135; clear tk2; refine (hex135_yes _ r T p o k h1.2 hlt a ha).mono ?_; rintro e w2 ⟨rfl, h2⟩; obtain ⟨c0, c1, c2, c3, cf⟩ := h2.2.cells)
      | (go_at_call 105; clear tk3; refine (noSign_is N _ n1 _).mono ?_; rintro e w3 ⟨rfl, rfl⟩)
      | (go_at_call 96; refine (cut96_no _ r T (p + 1) o k (h1.trans h2).step.2 hlt1).mono ?_; rintro e w4 ⟨rfl, h4⟩)
      | (go_at_call 135; refine (hex135_no _ r T (p + 1) o k h4.2 hlt1 hb).mono ?_; rintro e w5 ⟨q2, hq2, rfl, hg⟩))
    exact ⟨rfl, q2, hq2, rfl, ((h1.trans h2).step.trans h4).1.trans hg⟩
  case inr =>
    have tk4 : True := trivial
    go_enter Tryz.func128, Tryz.ntmps128
    go_wp2_with (first
      | (go_at_call 96; clear tk; refine (cut96_no _ r T p o k h hlt).mono ?_; rintro e w1 ⟨rfl, h1⟩)
      | (go_at_call 135; clear tk2; refine (hex135_yes _ r T p o k h1.2 hlt a ha).mono ?_; rintro e w2 ⟨rfl, h2⟩; obtain ⟨c0, c1, c2, c3, cf⟩ := h2.2.cells)
      | (go_at_call 105; clear tk3; refine (noSign_is N _ n1 _).mono ?_; rintro e w3 ⟨rfl, rfl⟩)
      | (go_at_call 105; clear tk4; refine (noSign_is M _ n2 _).mono ?_; rintro e w3 ⟨rfl, rfl⟩)
      | (go_at_call 96; refine (cut96_no _ r T (p + 1) o k (h1.trans h2).step.2 hlt1).mono ?_; rintro e w4 ⟨rfl, h4⟩)
      | (go_at_call 135; refine (hex135_no _ r T (p + 1) o k h4.2 hlt1 hb).mono ?_; rintro e w5 ⟨q2, hq2, rfl, hg⟩))
    exact ⟨rfl, q2, hq2, rfl, ((h1.trans h2).step.trans h4).1.trans hg⟩
set_option maxHeartbeats 1000000 in
set_option maxRecDepth 20000 in
theorem hid_c (w : World) (r : Nat) (T : ByteArray) (p : Nat) (o : Bool) (k : Nat) (h : Ro w r T p o k) (hT : T.size ≤ 9223372036854775807) (hlt : p < T.size) (a : Nat) (ha : hexv T[p] = some a) (ha16 : a < 16) (N M : Int) (hN : (a : Int) * 16 = N)
    (hb15 : bits .or .u8 N 15 = M) (b1 b2 : Bool) (n1 : (decide (N < 32) || decide (126 < N)) = b1) (n2 : (decide (M < 32) || decide (126 < M)) = b2) (hbb : b1 = true ∨ (b1 = false ∧ b2 = true)) (hlt1 : p + 1 < T.size) (b : Nat) (hb : hexv T[p + 1] = some b) (L : Int) (hL : bits .or .u8 N (b : Int) = L) (n3 : (decide (L < 32) || decide (126 < L)) = false) :
    Calls Tryz.prog 128 #[.pointer (some ⟨r, 0, none⟩)] w fun e w' => Fails r T w e w' := by
  have hw : IntKind.i64.wrap ((p : Int) + 1) = (p : Int) + 1 := by rw [IntKind.wrap_i64]; omega
  have hw2 : IntKind.i64.wrap ((p : Int) + 1 + 1) = (p : Int) + 1 + 1 := by rw [IntKind.wrap_i64]; omega
  have tk : True := trivial
  have tk2 : True := trivial
  have tk3 : True := trivial
  rcases hbb with rfl | ⟨rfl, rfl⟩
  case inl =>
    go_enter Tryz.func128, Tryz.ntmps128
    go_wp2_with (first
      | (go_at_call 96; clear tk; refine (cut96_no _ r T p o k h hlt).mono ?_; rintro e w1 ⟨rfl, h1⟩)
      | (go_at_call 135; clear tk2; refine (hex135_yes _ r T p o k h1.2 hlt a ha).mono ?_; rintro e w2 ⟨rfl, h2⟩; obtain ⟨c0, c1, c2, c3, cf⟩ := h2.2.cells)
      | (go_at_call 105; clear tk3; refine (noSign_is N _ n1 _).mono ?_; rintro e w3 ⟨rfl, rfl⟩)
      | (go_at_call 96; refine (cut96_no _ r T (p + 1) o k (h1.trans h2).step.2 hlt1).mono ?_; rintro e w4 ⟨rfl, h4⟩)
      | (go_at_call 135; refine (hex135_yes _ r T (p + 1) o k h4.2 hlt1 b hb).mono ?_; rintro e w5 ⟨rfl, h5⟩)
      | (go_at_call 105; refine (noSign_is L _ n3 _).mono ?_; rintro e w3 ⟨rfl, rfl⟩)
      | (go_at_call 81; refine (giveUp81 _ r T (p + 1) o k h5.2 (by omega)).mono ?_; rintro e w6 ⟨q2, hq2, rfl, hg⟩))
    exact ⟨rfl, q2, hq2, rfl, (((h1.trans h2).step.trans h4).trans h5).1.trans hg⟩
  case inr =>
    have tk4 : True := trivial
    go_enter Tryz.func128, Tryz.ntmps128
    go_wp2_with (first
      | (go_at_call 96; clear tk; refine (cut96_no _ r T p o k h hlt).mono ?_; rintro e w1 ⟨rfl, h1⟩)
      | (go_at_call 135; clear tk2; refine (hex135_yes _ r T p o k h1.2 hlt a ha).mono ?_; rintro e w2 ⟨rfl, h2⟩; obtain ⟨c0, c1, c2, c3, cf⟩ := h2.2.cells)
      | (go_at_call 105; clear tk3; refine (noSign_is N _ n1 _).mono ?_; rintro e w3 ⟨rfl, rfl⟩)
      | (go_at_call 105; clear tk4; refine (noSign_is M _ n2 _).mono ?_; rintro e w3 ⟨rfl, rfl⟩)
      | (go_at_call 96; refine (cut96_no _ r T (p + 1) o k (h1.trans h2).step.2 hlt1).mono ?_; rintro e w4 ⟨rfl, h4⟩)
      | (go_at_call 135; refine (hex135_yes _ r T (p + 1) o k h4.2 hlt1 b hb).mono ?_; rintro e w5 ⟨rfl, h5⟩)
      | (go_at_call 105; refine (noSign_is L _ n3 _).mono ?_; rintro e w3 ⟨rfl, rfl⟩)
      | (go_at_call 81; refine (giveUp81 _ r T (p + 1) o k h5.2 (by omega)).mono ?_; rintro e w6 ⟨q2, hq2, rfl, hg⟩))
    exact ⟨rfl, q2, hq2, rfl, (((h1.trans h2).step.trans h4).trans h5).1.trans hg⟩
set_option maxHeartbeats 1000000 in
set_option maxRecDepth 20000 in
theorem hid_d (w : World) (r : Nat) (T : ByteArray) (p : Nat) (o : Bool) (k : Nat) (h : Ro w r T p o k) (hT : T.size ≤ 9223372036854775807) (hlt : p < T.size) (a : Nat) (ha : hexv T[p] = some a) (ha16 : a < 16) (N M : Int) (hN : (a : Int) * 16 = N)
    (hb15 : bits .or .u8 N 15 = M) (b1 b2 : Bool) (n1 : (decide (N < 32) || decide (126 < N)) = b1) (n2 : (decide (M < 32) || decide (126 < M)) = b2) (hbb : b1 = true ∨ (b1 = false ∧ b2 = true)) (hlt1 : p + 1 < T.size) (b : Nat) (hb : hexv T[p + 1] = some b) (L : Int) (hL : bits .or .u8 N (b : Int) = L) (n3 : (decide (L < 32) || decide (126 < L)) = true) :
    Calls Tryz.prog 128 #[.pointer (some ⟨r, 0, none⟩)] w fun e w' => e = .returned (.int .u8 L) ∧ Rq r T (p + 1 + 1) o k w w' := by
  have hw : IntKind.i64.wrap ((p : Int) + 1) = (p : Int) + 1 := by rw [IntKind.wrap_i64]; omega
  have hw2 : IntKind.i64.wrap ((p : Int) + 1 + 1) = (p : Int) + 1 + 1 := by rw [IntKind.wrap_i64]; omega
  have tk : True := trivial
  have tk2 : True := trivial
  have tk3 : True := trivial
  rcases hbb with rfl | ⟨rfl, rfl⟩
  case inl =>
    go_enter Tryz.func128, Tryz.ntmps128
    go_wp2_with (first
      | (go_at_call 96; clear tk; refine (cut96_no _ r T p o k h hlt).mono ?_; rintro e w1 ⟨rfl, h1⟩)
      | (go_at_call 135; clear tk2; refine (hex135_yes _ r T p o k h1.2 hlt a ha).mono ?_; rintro e w2 ⟨rfl, h2⟩; obtain ⟨c0, c1, c2, c3, cf⟩ := h2.2.cells)
      | (go_at_call 105; clear tk3; refine (noSign_is N _ n1 _).mono ?_; rintro e w3 ⟨rfl, rfl⟩)
      | (go_at_call 96; refine (cut96_no _ r T (p + 1) o k (h1.trans h2).step.2 hlt1).mono ?_; rintro e w4 ⟨rfl, h4⟩)
      | (go_at_call 135; refine (hex135_yes _ r T (p + 1) o k h4.2 hlt1 b hb).mono ?_; rintro e w5 ⟨rfl, h5⟩; obtain ⟨d0, d1, d2, d3, df⟩ := h5.2.cells)
      | (go_at_call 105; refine (noSign_is L _ n3 _).mono ?_; rintro e w3 ⟨rfl, rfl⟩))
    go_ret
    exact ⟨rfl, (((h1.trans h2).step.trans h4).trans h5).step⟩
  case inr =>
    have tk4 : True := trivial
    go_enter Tryz.func128, Tryz.ntmps128
    go_wp2_with (first
      | (go_at_call 96; clear tk; refine (cut96_no _ r T p o k h hlt).mono ?_; rintro e w1 ⟨rfl, h1⟩)
      | (go_at_call 135; clear tk2; refine (hex135_yes _ r T p o k h1.2 hlt a ha).mono ?_; rintro e w2 ⟨rfl, h2⟩; obtain ⟨c0, c1, c2, c3, cf⟩ := h2.2.cells)
      | (go_at_call 105; clear tk3; refine (noSign_is N _ n1 _).mono ?_; rintro e w3 ⟨rfl, rfl⟩)
      | (go_at_call 105; clear tk4; refine (noSign_is M _ n2 _).mono ?_; rintro e w3 ⟨rfl, rfl⟩)
      | (go_at_call 96; refine (cut96_no _ r T (p + 1) o k (h1.trans h2).step.2 hlt1).mono ?_; rintro e w4 ⟨rfl, h4⟩)
      | (go_at_call 135; refine (hex135_yes _ r T (p + 1) o k h4.2 hlt1 b hb).mono ?_; rintro e w5 ⟨rfl, h5⟩; obtain ⟨d0, d1, d2, d3, df⟩ := h5.2.cells)
      | (go_at_call 105; refine (noSign_is L _ n3 _).mono ?_; rintro e w3 ⟨rfl, rfl⟩))
    go_ret
    exact ⟨rfl, (((h1.trans h2).step.trans h4).trans h5).step⟩
set_option maxHeartbeats 1000000 in
theorem hidden128 (w : World) (r : Nat) (T : ByteArray) (p : Nat) (o : Bool) (k : Nat) (h : Ro w r T p o k) (hp : p ≤ T.size) (hT : T.size ≤ maxLen) :
    Calls Tryz.prog 128 #[.pointer (some ⟨r, 0, none⟩)] w
      (Comes r T o w (pHid (rest T p)) fun c p' e w' => e = .returned (.int .u8 c.toNat) ∧ p ≤ p' ∧ Rq r T p' o k w w') := by
  unfold maxLen at hT
  by_cases hlt : p < T.size
  · cases ha : hexv T[p] with
    | none =>
      have hsp : Hid (pHid (rest T p) = none) := by show _ = _; rw [rest_cons hlt]; exact hid_end ha
      go_enter Tryz.func128, Tryz.ntmps128
      go_wp2_with (first
        | (go_at_call 96; refine (cut96_no _ r T p o k h hlt).mono ?_; rintro e w1 ⟨rfl, h1⟩)
        | (go_at_call 135; refine (hex135_no _ r T p o k h1.2 hlt ha).mono ?_; rintro e w2 ⟨q2, hq2, rfl, hg⟩))
      exact ⟨rfl, .inr ⟨⟨q2, hq2, rfl, h1.1.trans hg⟩, fun _ => hsp.out⟩⟩
    | some a =>
      have ha16 := (hex_back ha).1
      have hb15 : bits .or .u8 ((a : Int) * 16) 15 = (a : Int) * 16 + 15 := or16 (b := 15) ha16 (by omega)
      by_cases hgo : ((a : Int) * 16 < 32 ∨ 126 < (a : Int) * 16) ∨ ((a : Int) * 16 + 15 < 32 ∨ 126 < (a : Int) * 16 + 15)
      · have hsp : pHid (rest T p) = pHid2 a (rest T (p + 1)) := by rw [rest_cons hlt]; exact hid_go ha hgo
        obtain ⟨b1, b2, n1, n2, hbb⟩ : ∃ b1 b2, (decide ((a : Int) * 16 < 32) || decide (126 < (a : Int) * 16)) = b1 ∧ (decide ((a : Int) * 16 + 15 < 32) || decide (126 < (a : Int) * 16 + 15)) = b2 ∧ (b1 = true ∨ (b1 = false ∧ b2 = true)) := by
          refine ⟨_, _, rfl, rfl, ?_⟩
          by_cases h1 : (a : Int) * 16 < 32 ∨ 126 < (a : Int) * 16
          · exact .inl (by simpa using h1)
          · refine .inr ⟨by simp; omega, ?_⟩
            have := hgo.resolve_left h1
            simpa using this
        by_cases hlt1 : p + 1 < T.size
        · cases hb : hexv T[p + 1] with
          | none =>
            refine (hid_b w r T p o k h hT hlt a ha ha16 _ _ rfl hb15 b1 b2 n1 n2 hbb hlt1 hb).mono fun e w' hf => .inr ⟨hf, fun _ => ?_⟩
            rw [hsp, rest_cons hlt1]; simp only [pHid2, hb]
          | some b =>
            have hb16 := (hex_back hb).1
            have hbb2 : bits .or .u8 ((a : Int) * 16) (b : Int) = (a : Int) * 16 + (b : Int) := or16 ha16 hb16
            obtain ⟨b3, n3⟩ : ∃ b3, (decide ((a : Int) * 16 + (b : Int) < 32) || decide (126 < (a : Int) * 16 + (b : Int))) = b3 := ⟨_, rfl⟩
            have hsp' : pHid (rest T p) = if b3 then some (UInt8.ofNat (16 * a + b), rest T (p + 1 + 1)) else none := by
              rw [hsp, rest_cons hlt1]
              simp only [pHid2, hb]
              rw [noSg_nat (by omega), show (decide (16 * a + b < 32) || decide (126 < 16 * a + b)) = b3 by rw [← n3]; congr 1 <;> (congr 1; apply propext; omega)]
            cases b3 with
            | false => exact (hid_c w r T p o k h hT hlt a ha ha16 _ _ rfl hb15 b1 b2 n1 n2 hbb hlt1 b hb _ hbb2 n3).mono fun e w' hf => .inr ⟨hf, fun _ => hsp'⟩
            | true =>
              refine (hid_d w r T p o k h hT hlt a ha ha16 _ _ rfl hb15 b1 b2 n1 n2 hbb hlt1 b hb _ hbb2 n3).mono ?_
              rintro e w' ⟨rfl, hR⟩
              refine .inl ⟨UInt8.ofNat (16 * a + b), p + 1 + 1, by omega, ⟨?_, by omega, hR⟩, fun _ => hsp'⟩
              rw [u8_nat (by omega), show ((16 * a + b : Nat) : Int) = (a : Int) * 16 + (b : Int) by omega]
        · have hend : p + 1 = T.size := by omega
          refine (hid_a w r T p o k h hT hlt a ha ha16 _ _ rfl hb15 b1 b2 n1 n2 hbb hend).mono ?_
          rintro e w' (⟨ho, rfl, hR⟩ | ⟨ho, hf⟩)
          · refine .inl ⟨UInt8.ofNat (16 * a + 15), p + 1, by omega, ⟨?_, by omega, hR⟩, fun h => by rw [ho] at h; cases h⟩
            rw [u8_nat (by omega), show ((16 * a + 15 : Nat) : Int) = (a : Int) * 16 + 15 by omega]
          · exact .inr ⟨hf, fun _ => by rw [hsp, rest_nil hend]; rfl⟩
      · have hsp : Hid (pHid (rest T p) = none) := by show _ = _; rw [rest_cons hlt]; exact hid_sign ha (fun h => hgo (.inl h)) (fun h => hgo (.inr h))
        have n1 : (decide ((a : Int) * 16 < 32) || decide (126 < (a : Int) * 16)) = false := by simp; omega
        have n2 : (decide ((a : Int) * 16 + 15 < 32) || decide (126 < (a : Int) * 16 + 15)) = false := by simp; omega
        obtain ⟨N, hN⟩ : ∃ N, (a : Int) * 16 = N := ⟨_, rfl⟩
        obtain ⟨M, hM⟩ : ∃ M, Hid (N + 15 = M) := ⟨_, rfl⟩
        rw [hN, hM.out] at hb15
        rw [hN] at n1
        rw [hN, hM.out] at n2
        have tk : True := trivial
        clear hgo
        go_enter Tryz.func128, Tryz.ntmps128
        go_wp2_with (first
          | (go_at_call 96; refine (cut96_no _ r T p o k h hlt).mono ?_; rintro e w1 ⟨rfl, h1⟩)
          | (go_at_call 135; refine (hex135_yes _ r T p o k h1.2 hlt a ha).mono ?_; rintro e w2 ⟨rfl, h2⟩)
          | (go_at_call 105; clear tk; refine (noSign_is N _ n1 _).mono ?_; rintro e w3 ⟨rfl, rfl⟩)
          | (go_at_call 105; refine (noSign_is M _ n2 _).mono ?_; rintro e w3 ⟨rfl, rfl⟩)
          | (go_at_call 81; refine (giveUp81 _ r T p o k h2.2 (by omega)).mono ?_; rintro e w4 ⟨q2, hq2, rfl, hg⟩))
        exact ⟨rfl, .inr ⟨⟨q2, hq2, rfl, (h1.trans h2).1.trans hg⟩, fun _ => hsp.out⟩⟩
  · have hend : p = T.size := by omega
    have hsp : Hid (pHid (rest T p) = none) := by show _ = _; rw [rest_nil hend]; rfl
    go_enter Tryz.func128, Tryz.ntmps128
    go_wp2_with (go_at_call 96; refine (cut96_end _ r T p o k h hend).mono ?_; rintro e w1 (⟨ho, rfl, h1⟩ | ⟨ho, q2, hq2, rfl, hg⟩))
    · go_ret
      exact .inl ⟨255, p, hp, ⟨rfl, Nat.le_refl _, h1⟩, fun h => by rw [ho] at h; cases h⟩
    · exact ⟨rfl, .inr ⟨⟨q2, hq2, rfl, hg⟩, fun _ => hsp.out⟩⟩
end Go.Proofs.YtbicodlclmdgaaaGreatDoor
