/-
  Take of package num: the number with which bytes begin.
-/
import Derived.Test.YtbkpgppaahpalaaNum
import Derived.Laws.Bits64b
namespace Go.Proofs.Ytbkpgppaahpalaa
open Go.RowKit
set_option linter.unusedVariables false      -- a walk need not use every condition




theorem ret_int {k : IntKind} {a b : Int} (h : a = b) : Ending.returned (.int k a) = .returned (.int k b) := by rw [h]
/-! ### Mathematics -/

theorem gv_snoc : ∀ (l : List UInt8) (c : UInt8), gv (l ++ [c]) = gv l + 128 ^ l.length * (c.toNat % 128)
  | [], c => by simp [gv]
  | d :: l, c => by
    simp only [List.cons_append, gv, List.length_cons, Nat.pow_succ]
    rw [gv_snoc l c, Nat.mul_add, Nat.mul_comm (128 ^ l.length) 128, Nat.mul_assoc]
    omega
theorem gv_less : ∀ (l : List UInt8), gv l < 128 ^ l.length
  | [] => by simp [gv]
  | d :: l => by
    have := gv_less l
    simp only [gv, List.length_cons, Nat.pow_succ]
    have hd := Nat.mod_lt d.toNat (show 128 > 0 by omega)
    omega
theorem gv_app : ∀ (l m : List UInt8), gv l ≤ gv (l ++ m)
  | [], m => by simp [gv]
  | d :: l, m => by
    have := gv_app l m
    simp only [gv, List.cons_append]
    omega
theorem gv_take (l : List UInt8) (k : Nat) : gv (l.take k) ≤ gv l := by
  have := gv_app (l.take k) (l.drop k)
  rwa [List.take_append_drop] at this
theorem gv_step {l : List UInt8} {k : Nat} (hk : k < l.length) : gv (l.take (k + 1)) = gv (l.take k) + 128 ^ k * ((l[k]).toNat % 128) := by
  rw [List.take_succ_eq_append_getElem hk, gv_snoc, List.length_take, Nat.min_eq_left (by omega)]
theorem or_grp (a k : Nat) (c : UInt8) (ha : a < 128 ^ k) (h : a + 128 ^ k * (c.toNat % 128) < 18446744073709551616) :
    bits .or .u64 (a : Int) (IntKind.u64.wrap ((c.toNat : Int) % 128 * 2 ^ (7 * k))) = ((a + 128 ^ k * (c.toNat % 128) : Nat) : Int) := by
  have ep : (2 : Nat) ^ (7 * k) = 128 ^ k := by rw [Nat.pow_mul]
  have e2 : (c.toNat : Int) % 128 * 2 ^ (7 * k) = ((128 ^ k * (c.toNat % 128) : Nat) : Int) := by
    have ei : (2 : Int) ^ (7 * k) = ((128 ^ k : Nat) : Int) := by rw [← ep]; simp
    rw [ei, Int.natCast_mul, Int.mul_comm]
    simp
  rw [e2]
  have ew : IntKind.u64.wrap ((128 ^ k * (c.toNat % 128) : Nat) : Int) = ((128 ^ k * (c.toNat % 128) : Nat) : Int) := by rw [IntKind.wrap_u64]; omega
  rw [ew, bits_or_u64_nat a _ (by omega) (by omega)]
  congr 1
  have := Nat.two_pow_add_eq_or_of_lt (i := 7 * k) (b := a) (by rw [ep]; exact ha) (c.toNat % 128)
  rw [ep] at this
  rw [Nat.or_comm, ← this, Nat.add_comm]
theorem fb_drop {t : List UInt8} {k : Nat} (hk : k < t.length) : fb (t.drop k) = if (t[k]).toNat < 128 then some 0 else (fb (t.drop (k + 1))).map (· + 1) := by
  rw [List.drop_eq_getElem_cons hk]; rfl
/-- Where the first byte below 128 stands, or -1. -/
def fbI (t : List UInt8) : Int := match fb t with | none => -1 | some i => i
theorem map_map (x : Option Nat) (k : Nat) : (x.map (· + 1)).map (· + k) = x.map (· + (k + 1)) := by
  cases x with
  | none => rfl
  | some i => simp; omega

/-! ### The walks -/

theorem below100 (c : UInt8) (w : World) : Calls Try.prog 100 #[.int .u8 c.toNat] w fun e w' => e = .returned (.bool (decide ((c.toNat : Int) < 128))) ∧ w' = w := by
  go_enter Try.func100, Try.ntmps100
  go_wp2
  go_ret
  exact ⟨rfl, rfl⟩
set_option maxHeartbeats 1000000 in
theorem index99 (w : World) (b : Value) (t : List UInt8) (hb : Bs w b t) :
    Calls Try.prog 99 #[b, .func (.func 100) #[] #[]] w fun e w' => e = .returned (.int .i64 (fbI t)) ∧ w' = w := by
  obtain ⟨p, cap, rfl, h1, h2, h3, h4⟩ := hb
  unfold maxLen at h2
  go_enter Try.func99, Try.ntmps99
  go_wp2
  go_loopg [8] t.length (fun g i wr => ∃ k : Nat, g + k = t.length ∧ i = .int .i64 k ∧ Hid (fb t = (fb (t.drop k)).map (· + k)) ∧ wr = w)
  case atStart => exact ⟨0, by omega, rfl, by show _ = _; simp, rfl⟩
  case round =>
    obtain ⟨k, hk, rfl, hsp, rfl⟩ := hrel
    by_cases hlt : k < t.length
    · obtain ⟨g, o, rfl, hc⟩ := h4.resolve_left (by intro e; rw [e] at hlt; simp at hlt)
      have hck := hc k _ (enc_get hlt)
      have hd := fb_drop hlt
      obtain ⟨c, hcc⟩ : ∃ c, Hid (t[k] = c) := ⟨t[k], (rfl : _ = _)⟩
      rw [hcc.out] at hck hd
      have c89 := below100 c
      have i1 : (k : Int) < (t.length : Int) := by omega
      by_cases hc1 : c.toNat < 128
      · rw [if_pos hc1] at hd
        have hE : Hid (fbI t = (k : Int)) := by show fbI t = _; unfold fbI; rw [hsp.out, hd]; simp
        rw [decide_eq_true (by omega)] at c89
        clear hsp hd hc h4 hcc hc1
        go_wp2_with (go_at_call 100; refine (c89 _).mono ?_; rintro e w' ⟨rfl, rfl⟩)
        go_ret
        exact ⟨ret_int hE.out.symm, rfl⟩
      · rw [if_neg hc1] at hd
        have hE : Hid (fb t = (fb (t.drop (k + 1))).map (· + (k + 1))) := by show _ = _; rw [hsp.out, hd, map_map]
        rw [decide_eq_false (by omega)] at c89
        clear hsp hd hc h4 hcc hc1
        go_wp2_with (go_at_call 100; refine (c89 _).mono ?_; rintro e w' ⟨rfl, rfl⟩)
        go_roundg (gk - 1)
        case rel => exact ⟨k + 1, by omega, by go_num, hE, rfl⟩
        case measure => omega
    · obtain rfl : k = t.length := by omega
      have hE : Hid (fbI t = -1) := by show fbI t = _; unfold fbI; rw [hsp.out, List.drop_length]; rfl
      clear hsp h4
      go_wp2
      go_ret
      exact ⟨ret_int hE.out.symm, rfl⟩
set_option maxHeartbeats 1000000 in
theorem inForm101 (w : World) (v : Value) (s : List UInt8) (n : Nat) (c : UInt8) (hb : Bs w v s) (hn : s.length = n + 1) (hc : s[n]'(by omega) = c) :
    Calls Try.prog 101 #[v] w fun e w' => e = .returned (.bool (inF (n + 1) c)) ∧ w' = w := by
  obtain ⟨g, o, cap, rfl, h1, h2, hcell⟩ := hb.cells (by intro e; rw [e] at hn; simp at hn)
  have hcn := hcell n (by omega)
  rw [hc] at hcn
  rw [hn] at h1 h2 ⊢
  have hc256 := c.toNat_lt
  clear hcell hb hc
  by_cases h10 : 10 < n + 1
  · have hE : Hid (inF (n + 1) c = false) := by show inF _ _ = _; unfold inF; rw [decide_eq_false (by omega)]; rfl
    rw [hE.out]
    go_enter Try.func101, Try.ntmps101
    go_wp2
    go_ret
    exact ⟨rfl, rfl⟩
  by_cases h10' : n + 1 = 10
  · have hn9 : n = 9 := by omega
    subst hn9
    by_cases hc1 : 1 < c.toNat
    · have hE : Hid (inF (9 + 1) c = false) := by show inF _ _ = _; unfold inF; rw [decide_eq_false (p := c.toNat ≤ 1) (by omega)]; rfl
      rw [hE.out]
      go_enter Try.func101, Try.ntmps101
      go_wp2
      go_ret
      exact ⟨rfl, rfl⟩
    · by_cases hc0 : c.toNat = 0
      · have hE : Hid (inF (9 + 1) c = false) := by show inF _ _ = _; unfold inF; rw [decide_eq_false (p := c.toNat ≠ 0) (by omega)]; simp
        rw [hE.out]
        have b1 : ((c.toNat : Int) != 0) = false := by simp; omega
        have b2 : ¬ ((c.toNat : Int) > 1) := by omega
        clear hc0 hc1
        go_enter Try.func101, Try.ntmps101
        go_wp2
        go_ret
        exact ⟨rfl, rfl⟩
      · have hE : Hid (inF (9 + 1) c = true) := by show inF _ _ = _; unfold inF; rw [decide_eq_true (p := c.toNat ≠ 0) (by omega), decide_eq_true (p := c.toNat ≤ 1) (by omega)]; simp
        rw [hE.out]
        have b1 : ((c.toNat : Int) != 0) = true := by simp; omega
        have b2 : ¬ ((c.toNat : Int) > 1) := by omega
        clear hc0 hc1
        go_enter Try.func101, Try.ntmps101
        go_wp2
        go_ret
        exact ⟨rfl, rfl⟩
  · have b3 : (((n : Int) + 1) == 10) = false := by simp; omega
    by_cases hc0 : c.toNat = 0
    · have b1 : ((c.toNat : Int) != 0) = false := by simp; omega
      by_cases hn0 : n = 0
      · subst hn0
        have hE : Hid (inF (0 + 1) c = true) := by show inF _ _ = _; unfold inF; simp
        rw [hE.out]
        rw [Nat.add_zero] at hcn
        clear hc0 b3 h10 h10'
        go_enter Try.func101, Try.ntmps101
        go_wp2
        go_ret
        exact ⟨rfl, rfl⟩
      · have hE : Hid (inF (n + 1) c = false) := by show inF _ _ = _; unfold inF; rw [decide_eq_false (p := c.toNat ≠ 0) (by omega), decide_eq_false (p := n + 1 = 1) (by omega)]; simp
        rw [hE.out]
        have b4 : (((n : Int) + 1) == 1) = false := by simp; omega
        clear hc0
        go_enter Try.func101, Try.ntmps101
        go_wp2
        go_ret
        exact ⟨rfl, rfl⟩
    · have b1 : ((c.toNat : Int) != 0) = true := by simp; omega
      have hE : Hid (inF (n + 1) c = true) := by show inF _ _ = _; unfold inF; rw [decide_eq_true (p := c.toNat ≠ 0) (by omega), decide_eq_true (p := n + 1 ≠ 10) (by omega), decide_eq_true (p := n + 1 ≤ 10) (by omega)]; simp
      rw [hE.out]
      clear hc0
      go_enter Try.func101, Try.ntmps101
      go_wp2
      go_ret
      exact ⟨rfl, rfl⟩
theorem ret_three {k k' k'' : IntKind} {a b c d x y : Int} (h : a = b) (h' : c = d) (h'' : x = y) : Ending.returned (.tuple #[.int k a, .int k' c, .int k'' x]) = .returned (.tuple #[.int k b, .int k' d, .int k'' y]) := by rw [h, h', h'']
set_option maxHeartbeats 1000000 in
theorem take_none (w : World) (b : Value) (t : List UInt8) (hb : Bs w b t) (hf : fb t = none) :
    Calls Try.prog 96 #[b] w fun e w' => e = .returned (.tuple #[.int .u64 0, .int .i64 0, .int .i64 11]) ∧ w' = w := by
  have c88 := index99 w b t hb
  have hI : fbI t = -1 := by unfold fbI; rw [hf]
  rw [hI] at c88
  obtain ⟨p, cap, rfl, h1, h2⟩ := hb.slice
  clear hI hf hb
  go_enter Try.func96, Try.ntmps96
  go_wp2_with (go_at_call 99; refine c88.mono ?_; rintro e w' ⟨rfl, rfl⟩)
  go_ret3
  exact ⟨rfl, rfl⟩
set_option maxHeartbeats 1000000 in
theorem take_bad (w : World) (b : Value) (t : List UInt8) (hb : Bs w b t) (i : Nat) (hf : fb t = some i) (hF : inF (i + 1) (t.getD i 0) = false) :
    Calls Try.prog 96 #[b] w fun e w' => e = .returned (.tuple #[.int .u64 0, .int .i64 0, .int .i64 12]) ∧ w' = w := by
  have c88 := index99 w b t hb
  have hI : fbI t = i := by unfold fbI; rw [hf]
  have hil := fb_lt hf
  rw [hI] at c88
  obtain ⟨p, cap, rfl, h1, h2⟩ := hb.slice
  have c90 := inForm101 w _ (t.take (i + 1)) i (t.getD i 0) (hb.take (n := i + 1) (by omega)) (by simp; omega) (by simp [hil])
  rw [hF] at c90
  clear hI hf hb hF
  go_enter Try.func96, Try.ntmps96
  go_wp2_with (first
    | (go_at_call 99; refine c88.mono ?_; rintro e w' ⟨rfl, rfl⟩)
    | (go_at_call 101; refine c90.mono ?_; rintro e w' ⟨rfl, rfl⟩))
  go_ret3
  exact ⟨rfl, rfl⟩
set_option maxHeartbeats 1000000 in
theorem take_ok (w : World) (b : Value) (t : List UInt8) (hb : Bs w b t) (i : Nat) (hf : fb t = some i) (hF : inF (i + 1) (t.getD i 0) = true) (hu : gv (t.take (i + 1)) < 18446744073709551616) :
    Calls Try.prog 96 #[b] w fun e w' => e = .returned (.tuple #[.int .u64 (gv (t.take (i + 1))), .int .i64 ((i + 1 : Nat) : Int), .int .i64 0]) ∧ w' = w := by
  have c88 := index99 w b t hb
  have hI : fbI t = i := by unfold fbI; rw [hf]
  have hil := fb_lt hf
  rw [hI] at c88
  obtain ⟨p, cap, rfl, h1, h2⟩ := hb.slice
  have hbs := hb.take (n := i + 1) (by omega)
  have hsl : (t.take (i + 1)).length = i + 1 := by simp; omega
  have c90 := inForm101 w _ (t.take (i + 1)) i (t.getD i 0) hbs (by simp; omega) (by simp [hil])
  rw [hF] at c90
  obtain ⟨g, o, cap', e1, -, -, hcell⟩ := hbs.cells (by intro e; rw [e] at hsl; simp at hsl)
  have hi10 : i + 1 ≤ 10 := by unfold inF at hF; simp only [Bool.and_eq_true, decide_eq_true_eq] at hF; exact hF.1.1
  injection e1 with e1 e2 e3
  subst e1
  clear hI hf hb hF hbs e2 e3
  generalize t.take (i + 1) = s at *
  go_enter Try.func96, Try.ntmps96
  go_wp2_with (first
    | (go_at_call 99; refine c88.mono ?_; rintro e w' ⟨rfl, rfl⟩)
    | (go_at_call 101; refine c90.mono ?_; rintro e w' ⟨rfl, rfl⟩))
  go_loopg [7, 23] (i + 1) (fun gg a j wr => ∃ (k v : Nat), gg + k = i + 1 ∧ j = .int .i64 k ∧ a = .int .u64 v ∧ Hid (v = gv (s.take k)) ∧ wr = w')
  case atStart => exact ⟨0, 0, by omega, rfl, rfl, (rfl : _ = _), rfl⟩
  case round =>
    obtain ⟨k, v, hk, rfl, rfl, hv, rfl⟩ := hrel
    by_cases hlt : k < i + 1
    · have hck := hcell k (by omega)
      have hst := gv_step (l := s) (k := k) (by omega)
      have hle := gv_take s (k + 1)
      have hal := gv_less (s.take k)
      rw [List.length_take, Nat.min_eq_left (by omega), ← hv.out] at hal
      rw [← hv.out] at hst
      rw [hst] at hle
      obtain ⟨c, hcc⟩ : ∃ c, Hid (s[k]'(by omega) = c) := ⟨s[k]'(by omega), (rfl : _ = _)⟩
      rw [hcc.out] at hck hst hle
      have hc := c.toNat_lt
      have ho := Lib.hid (or_grp v k c hal (by omega))
      have hst' := Lib.hid hst.symm
      clear hst hle hal hcc hcell hv
      go_wp2
      go_roundg (gk - 1)
      case rel => exact ⟨k + 1, v + 128 ^ k * (c.toNat % 128), by omega, by go_num, congrArg (Value.int .u64) ho.out, hst', rfl⟩
      case measure => omega
    · obtain rfl : k = i + 1 := by omega
      have hE : Hid ((v : Int) = (gv s : Int)) := by show _ = _; rw [hv.out, List.take_of_length_le (by omega)]
      clear hv hcell
      go_wp2
      go_ret3
      exact ⟨ret_three hE.out (by go_num) rfl, rfl⟩

end Go.Proofs.Ytbkpgppaahpalaa
