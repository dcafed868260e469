/-
  Take of package num: the number with which bytes begin.
-/
import Derived.Test.YtbgikgeknnmelaaGreatAbs
import Derived.Laws.Bits64b
namespace Go.Proofs.YtbgikgeknnmelaaGreat
open Go.RowKit
set_option linter.unusedVariables false      -- a walk need not use every condition

/-! ### Mathematics -/

theorem gv_snoc : ∀ (l : List UInt8) (c : UInt8), gv (l ++ [c]) = gv l + 128 ^ l.length * (c.toNat % 128)
  | [], c => by simp [gv]
  | d :: l, c => by
    simp only [List.cons_append, gv, List.length_cons, Nat.pow_succ]
    rw [gv_snoc l c, Nat.mul_add, Nat.mul_comm (128 ^ l.length) 128, Nat.mul_assoc]
    omega
theorem gv_less : ∀ (l : List UInt8), gv l < 128 ^ l.length
  | [] => by simp [gv]
  | d :: l => by
    have := gv_less l
    simp only [gv, List.length_cons, Nat.pow_succ]
    have hd := Nat.mod_lt d.toNat (show 128 > 0 by omega)
    omega
theorem gv_app : ∀ (l m : List UInt8), gv l ≤ gv (l ++ m)
  | [], m => by simp [gv]
  | d :: l, m => by
    have := gv_app l m
    simp only [gv, List.cons_append]
    omega
theorem gv_take (l : List UInt8) (k : Nat) : gv (l.take k) ≤ gv l := by
  have := gv_app (l.take k) (l.drop k)
  rwa [List.take_append_drop] at this
theorem gv_step {l : List UInt8} {k : Nat} (hk : k < l.length) : gv (l.take (k + 1)) = gv (l.take k) + 128 ^ k * ((l[k]).toNat % 128) := by
  rw [List.take_succ_eq_append_getElem hk, gv_snoc, List.length_take, Nat.min_eq_left (by omega)]
theorem or_grp (a k : Nat) (c : UInt8) (ha : a < 128 ^ k) (h : a + 128 ^ k * (c.toNat % 128) < 18446744073709551616) :
    bits .or .u64 (a : Int) (IntKind.u64.wrap ((c.toNat : Int) % 128 * 2 ^ (7 * k))) = ((a + 128 ^ k * (c.toNat % 128) : Nat) : Int) := by
  have ep : (2 : Nat) ^ (7 * k) = 128 ^ k := by rw [Nat.pow_mul]
  have e2 : (c.toNat : Int) % 128 * 2 ^ (7 * k) = ((128 ^ k * (c.toNat % 128) : Nat) : Int) := by
    have ei : (2 : Int) ^ (7 * k) = ((128 ^ k : Nat) : Int) := by rw [← ep]; simp
    rw [ei, Int.natCast_mul, Int.mul_comm]
    simp
  rw [e2]
  have ew : IntKind.u64.wrap ((128 ^ k * (c.toNat % 128) : Nat) : Int) = ((128 ^ k * (c.toNat % 128) : Nat) : Int) := by rw [IntKind.wrap_u64]; omega
  rw [ew, bits_or_u64_nat a _ (by omega) (by omega)]
  congr 1
  have := Nat.two_pow_add_eq_or_of_lt (i := 7 * k) (b := a) (by rw [ep]; exact ha) (c.toNat % 128)
  rw [ep] at this
  rw [Nat.or_comm, ← this, Nat.add_comm]
theorem fb_drop {t : List UInt8} {k : Nat} (hk : k < t.length) : fb (t.drop k) = if (t[k]).toNat < 128 then some 0 else (fb (t.drop (k + 1))).map (· + 1) := by
  rw [List.drop_eq_getElem_cons hk]; rfl
/-- Where the first byte below 128 stands, or -1. -/
def fbI (t : List UInt8) : Int := match fb t with | none => -1 | some i => i
theorem map_map (x : Option Nat) (k : Nat) : (x.map (· + 1)).map (· + k) = x.map (· + (k + 1)) := by
  cases x with
  | none => rfl
  | some i => simp; omega

/-! ### The walks -/

theorem below131 (c : UInt8) (w : World) : Calls Tryz.prog 131 #[.int .u8 c.toNat] w fun e w' => e = .returned (.bool (decide ((c.toNat : Int) < 128))) ∧ w' = w := by
  go_enter Tryz.func131, Tryz.ntmps131
  go_wp2
  go_ret
  exact ⟨rfl, rfl⟩
set_option maxHeartbeats 1000000 in
theorem index130 (w : World) (b : Value) (t : List UInt8) (hb : Bs w b t) :
    Calls Tryz.prog 130 #[b, .func (.func 131) #[] #[]] w fun e w' => e = .returned (.int .i64 (fbI t)) ∧ w' = w := by
  obtain ⟨p, cap, rfl, h1, h2, h3, h4⟩ := hb
  unfold maxLen at h2
  go_enter Tryz.func130, Tryz.ntmps130
  go_wp2
  go_loopg [8] t.length (fun g i wr => ∃ k : Nat, g + k = t.length ∧ i = .int .i64 k ∧ Hid (fb t = (fb (t.drop k)).map (· + k)) ∧ wr = w)
  case atStart => exact ⟨0, by omega, rfl, by show _ = _; simp, rfl⟩
  case round =>
    obtain ⟨k, hk, rfl, hsp, rfl⟩ := hrel
    by_cases hlt : k < t.length
    · obtain ⟨g, o, rfl, hc⟩ := h4.resolve_left (by intro e; rw [e] at hlt; simp at hlt)
      have hck := hc k hlt
      have hd := fb_drop hlt
      obtain ⟨c, hcc⟩ : ∃ c, Hid (t[k] = c) := ⟨t[k], (rfl : _ = _)⟩
      rw [hcc.out] at hck hd
      have c89 := below131 c
      have i1 : (k : Int) < (t.length : Int) := by omega
      by_cases hc1 : c.toNat < 128
      · rw [if_pos hc1] at hd
        have hE : Hid (fbI t = (k : Int)) := by show fbI t = _; unfold fbI; rw [hsp.out, hd]; simp
        rw [decide_eq_true (by omega)] at c89
        clear hsp hd hc h4 hcc hc1
        go_wp2_with (go_at_call 131; refine (c89 _).mono ?_; rintro e w' ⟨rfl, rfl⟩)
        go_ret
        exact ⟨ret_int hE.out.symm, rfl⟩
      · rw [if_neg hc1] at hd
        have hE : Hid (fb t = (fb (t.drop (k + 1))).map (· + (k + 1))) := by show _ = _; rw [hsp.out, hd, map_map]
        rw [decide_eq_false (by omega)] at c89
        clear hsp hd hc h4 hcc hc1
        go_wp2_with (go_at_call 131; refine (c89 _).mono ?_; rintro e w' ⟨rfl, rfl⟩)
        go_roundg (gk - 1)
        case rel => exact ⟨k + 1, by omega, by go_num, hE, rfl⟩
        case measure => omega
    · obtain rfl : k = t.length := by omega
      have hE : Hid (fbI t = -1) := by show fbI t = _; unfold fbI; rw [hsp.out, List.drop_length]; rfl
      clear hsp h4
      go_wp2
      go_ret
      exact ⟨ret_int hE.out.symm, rfl⟩
set_option maxHeartbeats 1000000 in
theorem inForm132 (w : World) (v : Value) (s : List UInt8) (n : Nat) (c : UInt8) (hb : Bs w v s) (hn : s.length = n + 1) (hc : s[n]'(by omega) = c) :
    Calls Tryz.prog 132 #[v] w fun e w' => e = .returned (.bool (inF (n + 1) c)) ∧ w' = w := by
  obtain ⟨g, o, cap, rfl, h1, h2, hcell⟩ := hb.cells (by intro e; rw [e] at hn; simp at hn)
  have hcn := hcell n (by omega)
  rw [hc] at hcn
  rw [hn] at h1 h2 ⊢
  have hc256 := c.toNat_lt
  clear hcell hb hc
  by_cases h10 : 10 < n + 1
  · have hE : Hid (inF (n + 1) c = false) := by show inF _ _ = _; unfold inF; rw [decide_eq_false (by omega)]; rfl
    rw [hE.out]
    go_enter Tryz.func132, Tryz.ntmps132
    go_wp2
    go_ret
    exact ⟨rfl, rfl⟩
  by_cases h10' : n + 1 = 10
  · have hn9 : n = 9 := by omega
    subst hn9
    by_cases hc1 : 1 < c.toNat
    · have hE : Hid (inF (9 + 1) c = false) := by show inF _ _ = _; unfold inF; rw [decide_eq_false (p := c.toNat ≤ 1) (by omega)]; rfl
      rw [hE.out]
      go_enter Tryz.func132, Tryz.ntmps132
      go_wp2
      go_ret
      exact ⟨rfl, rfl⟩
    · by_cases hc0 : c.toNat = 0
      · have hE : Hid (inF (9 + 1) c = false) := by show inF _ _ = _; unfold inF; rw [decide_eq_false (p := c.toNat ≠ 0) (by omega)]; simp
        rw [hE.out]
        have b1 : ((c.toNat : Int) != 0) = false := by simp; omega
        have b2 : ¬ ((c.toNat : Int) > 1) := by omega
        clear hc0 hc1
        go_enter Tryz.func132, Tryz.ntmps132
        go_wp2
        go_ret
        exact ⟨rfl, rfl⟩
      · have hE : Hid (inF (9 + 1) c = true) := by show inF _ _ = _; unfold inF; rw [decide_eq_true (p := c.toNat ≠ 0) (by omega), decide_eq_true (p := c.toNat ≤ 1) (by omega)]; simp
        rw [hE.out]
        have b1 : ((c.toNat : Int) != 0) = true := by simp; omega
        have b2 : ¬ ((c.toNat : Int) > 1) := by omega
        clear hc0 hc1
        go_enter Tryz.func132, Tryz.ntmps132
        go_wp2
        go_ret
        exact ⟨rfl, rfl⟩
  · have b3 : (((n : Int) + 1) == 10) = false := by simp; omega
    by_cases hc0 : c.toNat = 0
    · have b1 : ((c.toNat : Int) != 0) = false := by simp; omega
      by_cases hn0 : n = 0
      · subst hn0
        have hE : Hid (inF (0 + 1) c = true) := by show inF _ _ = _; unfold inF; simp
        rw [hE.out]
        rw [Nat.add_zero] at hcn
        clear hc0 b3 h10 h10'
        go_enter Tryz.func132, Tryz.ntmps132
        go_wp2
        go_ret
        exact ⟨rfl, rfl⟩
      · have hE : Hid (inF (n + 1) c = false) := by show inF _ _ = _; unfold inF; rw [decide_eq_false (p := c.toNat ≠ 0) (by omega), decide_eq_false (p := n + 1 = 1) (by omega)]; simp
        rw [hE.out]
        have b4 : (((n : Int) + 1) == 1) = false := by simp; omega
        clear hc0
        go_enter Tryz.func132, Tryz.ntmps132
        go_wp2
        go_ret
        exact ⟨rfl, rfl⟩
    · have b1 : ((c.toNat : Int) != 0) = true := by simp; omega
      have hE : Hid (inF (n + 1) c = true) := by show inF _ _ = _; unfold inF; rw [decide_eq_true (p := c.toNat ≠ 0) (by omega), decide_eq_true (p := n + 1 ≠ 10) (by omega), decide_eq_true (p := n + 1 ≤ 10) (by omega)]; simp
      rw [hE.out]
      clear hc0
      go_enter Tryz.func132, Tryz.ntmps132
      go_wp2
      go_ret
      exact ⟨rfl, rfl⟩
end Go.Proofs.YtbgikgeknnmelaaGreat
