/-
  What Put of package num does behind nil, and the document's Put behind bytes.
  Take of package num: the number with which bytes begin.
  The fuse, and whether the power is away.
  A log as plain data, how one lies in memory, and its small functions.
  The small methods of a log.
-/
import Derived.Test.YtfakgfmgofblgaaGreatDoorZVntWmCtmRctBsx
import Derived.Laws.Bits64b
import Derived.Test.YtfakgfmgofblgaaGreatDoorZBitsSumShlSmallCall
namespace Go.Proofs.YtfakgfmgofblgaaGreatDoor
open Go.RowKit
set_option linter.unusedVariables false      -- a walk need not use every condition

def vI : Value → Nat
  | .int _ n => n.toNat
  | _ => 0
theorem or128 (m : Nat) : bits .or .u8 ((m : Int) % 256) 128 = ((m % 128 + 128 : Nat) : Int) := by
  have h : ∀ x : Fin 256, bits .or .u8 ((x.val : Nat) : Int) 128 = ((x.val % 128 + 128 : Nat) : Int) := by decide +kernel
  have e : (m : Int) % 256 = ((m % 256 : Nat) : Int) := by omega
  rw [e, h ⟨m % 256, by omega⟩]
  simp
theorem cloneNil173 (w : World) : Calls Tryz.prog 173 #[.slice none 0 0] w fun e w' => e = .returned (.slice none 0 0) ∧ w' = w := by
  have hsn := fun w => Lib.run_eql_slice_nil (P := Tryz.prog) w 29 5 none 0 0 0 0 Tryz.underlying29
  go_enter Tryz.func173, Tryz.ntmps173
  go_wp2
  go_ret
  exact ⟨rfl, rfl⟩
theorem bts_nil (w : World) (base : Nat) : Bts w base (.slice none 0 0) [] := World.ownsRow_nil _ _ _ _
set_option maxHeartbeats 1000000 in
set_option maxRecDepth 100000 in
theorem put141 (u : Nat) (hu : u < 18446744073709551616) (w : World) :
    Calls Tryz.prog 141 #[.slice none 0 0, .int .u64 u] w fun e w' => ∃ v, e = .returned v ∧ Bts w' w.heap.size v (vnt u) ∧ Below w.heap.size w w' := by
  go_enter Tryz.func141, Tryz.ntmps141
  go_wp2_with (go_at_call 173; refine (cloneNil173 _).mono ?_; rintro e w' ⟨rfl, rfl⟩)
  go_loopw [1, 5] (fun a v wr => ∃ (f m : Nat) (pre : List UInt8), f ≤ 9 ∧ a = .int .u64 m ∧ m < 128 ^ (f + 1) ∧ pre.length + f = 9 ∧ pre ++ vntF f m = vnt u ∧ Hid (Bts wr w'.heap.size v pre) ∧ Hid (Below w'.heap.size w' wr))
    (fun a _ _ => vI a)
  case atStart => exact ⟨9, u, [], Nat.le_refl _, rfl, by omega, rfl, rfl, bts_nil _ _, Below.refl _ _⟩
  case round =>
    obtain ⟨f, m, pre, hf, rfl, hm, hlen, hE, hown, hbel⟩ := hrel
    by_cases hge : 128 ≤ m
    · have ho := or128 m
      obtain ⟨f, rfl⟩ : ∃ g, f = g + 1 := by
        cases f with
        | zero => simp at hm; omega
        | succ g => exact ⟨g, rfl⟩
      rw [vntF_high _ _ hge] at hE
      obtain ⟨x, hx⟩ : ∃ x : UInt8, UInt8.ofNat (m % 128 + 128) = x := ⟨_, rfl⟩
      have hxn : ((m % 128 + 128 : Nat) : Int) = (x.toNat : Int) := by rw [← hx, toNat_of (by omega)]
      rw [hxn] at ho
      rw [hx] at hE
      have HX : Hid (m / 128 < 128 ^ (f + 1)) := by rw [Nat.pow_succ] at hm; exact Nat.div_lt_of_lt_mul (by rw [Nat.mul_comm]; exact hm)
      have HE : Hid (pre ++ x :: vntF f (m / 128) = vnt u) := hE
      clear hx hm hE hxn
      go_wp2_with (at_builtin; refine wpList_app rfl _ _ rfl w'.heap.size _ _ pre [x] rfl rfl (hown.out.on (bel1 _ _)) (bs_one wr x rfl) (by simp; omega) (by have := hbel.out.size; simp; omega) ?_; intro v1 w1 hb1 hg1)
      have hB1 := (hbel.out.alloc hbel.out.size (.cells #[.int .u8 x.toNat] 5)).trans ((hown.out.on (bel1 wr (.cells #[.int .u8 x.toNat] 5))).below hg1 (by have := hbel.out.size; simp; omega))
      clear hg1
      go_roundw
      case rel => exact ⟨f, m / 128, pre ++ [x], by omega, by go_num, HX.out, by simp; omega, by have := HE.out; simpa using this, hb1, hB1⟩
      case measure => simp [vI]; omega
    · rw [vntF_low _ _ (by omega)] at hE
      obtain ⟨x, hx⟩ : ∃ x : UInt8, UInt8.ofNat m = x := ⟨_, rfl⟩
      have hb8 : (m : Int) % 256 = m := by omega
      have hxm : Hid ((m : Int) = ((x.toNat : Nat) : Int)) := by show _ = _; rw [← hx, toNat_of (by omega)]
      rw [hx] at hE
      have HE : Hid (pre ++ [x] = vnt u) := hE
      clear hE hm hx
      go_wp2_with (at_builtin; refine wpList_app rfl _ _ rfl w'.heap.size _ _ pre [x] rfl rfl (hown.out.on (bel1 _ _)) (bs_one wr x hxm.out) (by simp; omega) (by have := hbel.out.size; simp; omega) ?_; intro v1 w1 hb1 hg1)
      have hB1 := (hbel.out.alloc hbel.out.size (.cells #[.int .u8 (m : Int)] 5)).trans ((hown.out.on (bel1 wr (.cells #[.int .u8 (m : Int)] 5))).below hg1 (by have := hbel.out.size; simp; omega))
      clear hg1
      go_ret
      exact ⟨_, rfl, by rw [← HE.out]; exact hb1, hB1⟩
set_option maxHeartbeats 1000000 in
set_option maxRecDepth 100000 in
/-- The document's Put. -/
theorem rput157 (u : Nat) (hu : u < 18446744073709551616) (w : World) (b : Value) (t : List UInt8) (hb : Bs w b t) (ht : t.length + 10 ≤ 140737488355328) :
    Calls Tryz.prog 157 #[b, .int .u64 u] w fun e w' => ∃ v, e = .returned v ∧ Bts w' w.heap.size v (t ++ vnt u) ∧ Below w.heap.size w w' := by
  have HB := Lib.hid hb
  obtain ⟨p, cap, rfl, -⟩ := hb
  go_enter Tryz.func157, Tryz.ntmps157
  go_wp2_with (at_builtin; refine wpList_app rfl _ _ rfl w.heap.size _ _ [] t rfl rfl (bts_nil _ _) HB.out (by simp; omega) (Nat.le_refl _) ?_; intro v0 w0 hb0 hg0)
  have hB0 := (bts_nil w w.heap.size).below hg0 (Nat.le_refl _)
  have HB0 := Lib.hid hB0
  have HO0 := Lib.hid hb0
  clear hb0 hg0 hB0
  go_loopw [1, 5] (fun a v wr => ∃ (f m : Nat) (pre : List UInt8), f ≤ 9 ∧ m ≤ u ∧ a = .int .u64 m ∧ m < 128 ^ (f + 1) ∧ pre.length + f = 9 ∧ pre ++ vntF f m = vnt u ∧ Hid (Bts wr w.heap.size v (t ++ pre)) ∧ Hid (Below w.heap.size w wr))
    (fun a _ _ => vI a)
  case atStart => exact ⟨9, u, [], Nat.le_refl _, Nat.le_refl _, rfl, by omega, rfl, rfl, by have := HO0.out; show Bts _ _ _ _; simpa using this, HB0.out⟩
  case round =>
    obtain ⟨f, m, pre, hf, hmu, rfl, hm, hlen, hE, hown, hbel⟩ := hrel
    by_cases hge : 128 ≤ m
    · obtain ⟨f, rfl⟩ : ∃ g, f = g + 1 := by
        cases f with
        | zero => simp at hm; omega
        | succ g => exact ⟨g, rfl⟩
      rw [vntF_high _ _ hge] at hE
      obtain ⟨x, hx⟩ : ∃ x : UInt8, UInt8.ofNat (m % 128 + 128) = x := ⟨_, rfl⟩
      have hxn : ((m % 128 + 128 : Nat) : Int) = (x.toNat : Int) := by rw [← hx, toNat_of (by omega)]
      rw [hx] at hE
      have hw : IntKind.u64.wrap ((m : Int) / 128) = (m : Int) / 128 := by rw [IntKind.wrap_u64]; omega
      have e2 : Hid ((m : Int) % 128 + 128 = (x.toNat : Int)) := by show _ = _; omega
      have HX : Hid (m / 128 < 128 ^ (f + 1)) := by rw [Nat.pow_succ] at hm; exact Nat.div_lt_of_lt_mul (by rw [Nat.mul_comm]; exact hm)
      have HE : Hid (pre ++ x :: vntF f (m / 128) = vnt u) := hE
      clear hx hm hE hxn
      have HH := Lib.hid hown.out
      go_wp2_with (at_builtin; refine wpList_app rfl _ _ rfl w.heap.size _ _ (t ++ pre) [x] rfl rfl (HH.out.on (bel1 _ _)) (bs_one wr x e2.out) (by simp; omega) (by have := hbel.out.size; simp; omega) ?_; intro v1 w1 hb1 hg1)
      have hB1 := (hbel.out.alloc hbel.out.size (.cells #[.int .u8 ((m : Int) % 128 + 128)] 5)).trans ((HH.out.on (bel1 wr (.cells #[.int .u8 ((m : Int) % 128 + 128)] 5))).below hg1 (by have := hbel.out.size; simp; omega))
      clear hg1
      go_roundw
      case rel => exact ⟨f, m / 128, pre ++ [x], by omega, by omega, by go_num, HX.out, by simp; omega, by have := HE.out; simpa using this, by rw [← List.append_assoc]; exact hb1, hB1⟩
      case measure => simp [vI]; omega
    · rw [vntF_low _ _ (by omega)] at hE
      obtain ⟨x, hx⟩ : ∃ x : UInt8, UInt8.ofNat m = x := ⟨_, rfl⟩
      have hb8 : (m : Int) % 256 = m := by omega
      have hxm : Hid ((m : Int) = ((x.toNat : Nat) : Int)) := by show _ = _; rw [← hx, toNat_of (by omega)]
      rw [hx] at hE
      have HE : Hid (pre ++ [x] = vnt u) := hE
      clear hE hm hx
      have HH := Lib.hid hown.out
      go_wp2_with (at_builtin; refine wpList_app rfl _ _ rfl w.heap.size _ _ (t ++ pre) [x] rfl rfl (HH.out.on (bel1 _ _)) (bs_one wr x hxm.out) (by simp; omega) (by have := hbel.out.size; simp; omega) ?_; intro v1 w1 hb1 hg1)
      have hB1 := (hbel.out.alloc hbel.out.size (.cells #[.int .u8 (m : Int)] 5)).trans ((HH.out.on (bel1 wr (.cells #[.int .u8 (m : Int)] 5))).below hg1 (by have := hbel.out.size; simp; omega))
      clear hg1
      go_ret
      exact ⟨_, rfl, by rw [← HE.out, ← List.append_assoc]; exact hb1, hB1⟩
end Go.Proofs.YtfakgfmgofblgaaGreatDoor
namespace Go.Proofs.YtfakgfmgofblgaaGreatDoor
open Go.RowKit
set_option linter.unusedVariables false      -- a walk need not use every condition

theorem ret_int {k : IntKind} {a b : Int} (h : a = b) : Ending.returned (.int k a) = .returned (.int k b) := by rw [h]
/-! ### Mathematics -/

theorem gv_snoc : ∀ (l : List UInt8) (c : UInt8), gv (l ++ [c]) = gv l + 128 ^ l.length * (c.toNat % 128)
  | [], c => by simp [gv]
  | d :: l, c => by
    simp only [List.cons_append, gv, List.length_cons, Nat.pow_succ]
    rw [gv_snoc l c, Nat.mul_add, Nat.mul_comm (128 ^ l.length) 128, Nat.mul_assoc]
    omega
theorem gv_less : ∀ (l : List UInt8), gv l < 128 ^ l.length
  | [] => by simp [gv]
  | d :: l => by
    have := gv_less l
    simp only [gv, List.length_cons, Nat.pow_succ]
    have hd := Nat.mod_lt d.toNat (show 128 > 0 by omega)
    omega
theorem gv_app : ∀ (l m : List UInt8), gv l ≤ gv (l ++ m)
  | [], m => by simp [gv]
  | d :: l, m => by
    have := gv_app l m
    simp only [gv, List.cons_append]
    omega
theorem gv_take (l : List UInt8) (k : Nat) : gv (l.take k) ≤ gv l := by
  have := gv_app (l.take k) (l.drop k)
  rwa [List.take_append_drop] at this
theorem gv_step {l : List UInt8} {k : Nat} (hk : k < l.length) : gv (l.take (k + 1)) = gv (l.take k) + 128 ^ k * ((l[k]).toNat % 128) := by
  rw [List.take_succ_eq_append_getElem hk, gv_snoc, List.length_take, Nat.min_eq_left (by omega)]
theorem or_grp (a k : Nat) (c : UInt8) (ha : a < 128 ^ k) (h : a + 128 ^ k * (c.toNat % 128) < 18446744073709551616) :
    bits .or .u64 (a : Int) (IntKind.u64.wrap ((c.toNat : Int) % 128 * 2 ^ (7 * k))) = ((a + 128 ^ k * (c.toNat % 128) : Nat) : Int) := by
  have ep : (2 : Nat) ^ (7 * k) = 128 ^ k := by rw [Nat.pow_mul]
  have e2 : (c.toNat : Int) % 128 * 2 ^ (7 * k) = ((128 ^ k * (c.toNat % 128) : Nat) : Int) := by
    have ei : (2 : Int) ^ (7 * k) = ((128 ^ k : Nat) : Int) := by rw [← ep]; simp
    rw [ei, Int.natCast_mul, Int.mul_comm]
    simp
  rw [e2]
  have ew : IntKind.u64.wrap ((128 ^ k * (c.toNat % 128) : Nat) : Int) = ((128 ^ k * (c.toNat % 128) : Nat) : Int) := by rw [IntKind.wrap_u64]; omega
  rw [ew, bits_or_u64_nat a _ (by omega) (by omega)]
  congr 1
  have := Nat.two_pow_add_eq_or_of_lt (i := 7 * k) (b := a) (by rw [ep]; exact ha) (c.toNat % 128)
  rw [ep] at this
  rw [Nat.or_comm, ← this, Nat.add_comm]
theorem fb_drop {t : List UInt8} {k : Nat} (hk : k < t.length) : fb (t.drop k) = if (t[k]).toNat < 128 then some 0 else (fb (t.drop (k + 1))).map (· + 1) := by
  rw [List.drop_eq_getElem_cons hk]; rfl
/-- Where the first byte below 128 stands, or -1. -/
def fbI (t : List UInt8) : Int := match fb t with | none => -1 | some i => i
theorem map_map (x : Option Nat) (k : Nat) : (x.map (· + 1)).map (· + k) = x.map (· + (k + 1)) := by
  cases x with
  | none => rfl
  | some i => simp; omega

/-! ### The walks -/

theorem below146 (c : UInt8) (w : World) : Calls Tryz.prog 146 #[.int .u8 c.toNat] w fun e w' => e = .returned (.bool (decide ((c.toNat : Int) < 128))) ∧ w' = w := by
  go_enter Tryz.func146, Tryz.ntmps146
  go_wp2
  go_ret
  exact ⟨rfl, rfl⟩
set_option maxHeartbeats 1000000 in
theorem index145 (w : World) (b : Value) (t : List UInt8) (hb : Bs w b t) :
    Calls Tryz.prog 145 #[b, .func (.func 146) #[] #[]] w fun e w' => e = .returned (.int .i64 (fbI t)) ∧ w' = w := by
  obtain ⟨p, cap, rfl, h1, h2, h3, h4⟩ := hb
  unfold maxLen at h2
  go_enter Tryz.func145, Tryz.ntmps145
  go_wp2
  go_loopg [8] t.length (fun g i wr => ∃ k : Nat, g + k = t.length ∧ i = .int .i64 k ∧ Hid (fb t = (fb (t.drop k)).map (· + k)) ∧ wr = w)
  case atStart => exact ⟨0, by omega, rfl, by show _ = _; simp, rfl⟩
  case round =>
    obtain ⟨k, hk, rfl, hsp, rfl⟩ := hrel
    by_cases hlt : k < t.length
    · obtain ⟨g, o, rfl, hc⟩ := h4.resolve_left (by intro e; rw [e] at hlt; simp at hlt)
      have hck := hc k _ (enc_get hlt)
      have hd := fb_drop hlt
      obtain ⟨c, hcc⟩ : ∃ c, Hid (t[k] = c) := ⟨t[k], (rfl : _ = _)⟩
      rw [hcc.out] at hck hd
      have c89 := below146 c
      have i1 : (k : Int) < (t.length : Int) := by omega
      by_cases hc1 : c.toNat < 128
      · rw [if_pos hc1] at hd
        have hE : Hid (fbI t = (k : Int)) := by show fbI t = _; unfold fbI; rw [hsp.out, hd]; simp
        rw [decide_eq_true (by omega)] at c89
        clear hsp hd hc h4 hcc hc1
        go_wp2_with (go_at_call 146; refine (c89 _).mono ?_; rintro e w' ⟨rfl, rfl⟩)
        go_ret
        exact ⟨ret_int hE.out.symm, rfl⟩
      · rw [if_neg hc1] at hd
        have hE : Hid (fb t = (fb (t.drop (k + 1))).map (· + (k + 1))) := by show _ = _; rw [hsp.out, hd, map_map]
        rw [decide_eq_false (by omega)] at c89
        clear hsp hd hc h4 hcc hc1
        go_wp2_with (go_at_call 146; refine (c89 _).mono ?_; rintro e w' ⟨rfl, rfl⟩)
        go_roundg (gk - 1)
        case rel => exact ⟨k + 1, by omega, by go_num, hE, rfl⟩
        case measure => omega
    · obtain rfl : k = t.length := by omega
      have hE : Hid (fbI t = -1) := by show fbI t = _; unfold fbI; rw [hsp.out, List.drop_length]; rfl
      clear hsp h4
      go_wp2
      go_ret
      exact ⟨ret_int hE.out.symm, rfl⟩
set_option maxHeartbeats 1000000 in
theorem inForm147 (w : World) (v : Value) (s : List UInt8) (n : Nat) (c : UInt8) (hb : Bs w v s) (hn : s.length = n + 1) (hc : s[n]'(by omega) = c) :
    Calls Tryz.prog 147 #[v] w fun e w' => e = .returned (.bool (inF (n + 1) c)) ∧ w' = w := by
  obtain ⟨g, o, cap, rfl, h1, h2, hcell⟩ := hb.cells (by intro e; rw [e] at hn; simp at hn)
  have hcn := hcell n (by omega)
  rw [hc] at hcn
  rw [hn] at h1 h2 ⊢
  have hc256 := c.toNat_lt
  clear hcell hb hc
  by_cases h10 : 10 < n + 1
  · have hE : Hid (inF (n + 1) c = false) := by show inF _ _ = _; unfold inF; rw [decide_eq_false (by omega)]; rfl
    rw [hE.out]
    go_enter Tryz.func147, Tryz.ntmps147
    go_wp2
    go_ret
    exact ⟨rfl, rfl⟩
  by_cases h10' : n + 1 = 10
  · have hn9 : n = 9 := by omega
    subst hn9
    by_cases hc1 : 1 < c.toNat
    · have hE : Hid (inF (9 + 1) c = false) := by show inF _ _ = _; unfold inF; rw [decide_eq_false (p := c.toNat ≤ 1) (by omega)]; rfl
      rw [hE.out]
      go_enter Tryz.func147, Tryz.ntmps147
      go_wp2
      go_ret
      exact ⟨rfl, rfl⟩
    · by_cases hc0 : c.toNat = 0
      · have hE : Hid (inF (9 + 1) c = false) := by show inF _ _ = _; unfold inF; rw [decide_eq_false (p := c.toNat ≠ 0) (by omega)]; simp
        rw [hE.out]
        have b1 : ((c.toNat : Int) != 0) = false := by simp; omega
        have b2 : ¬ ((c.toNat : Int) > 1) := by omega
        clear hc0 hc1
        go_enter Tryz.func147, Tryz.ntmps147
        go_wp2
        go_ret
        exact ⟨rfl, rfl⟩
      · have hE : Hid (inF (9 + 1) c = true) := by show inF _ _ = _; unfold inF; rw [decide_eq_true (p := c.toNat ≠ 0) (by omega), decide_eq_true (p := c.toNat ≤ 1) (by omega)]; simp
        rw [hE.out]
        have b1 : ((c.toNat : Int) != 0) = true := by simp; omega
        have b2 : ¬ ((c.toNat : Int) > 1) := by omega
        clear hc0 hc1
        go_enter Tryz.func147, Tryz.ntmps147
        go_wp2
        go_ret
        exact ⟨rfl, rfl⟩
  · have b3 : (((n : Int) + 1) == 10) = false := by simp; omega
    by_cases hc0 : c.toNat = 0
    · have b1 : ((c.toNat : Int) != 0) = false := by simp; omega
      by_cases hn0 : n = 0
      · subst hn0
        have hE : Hid (inF (0 + 1) c = true) := by show inF _ _ = _; unfold inF; simp
        rw [hE.out]
        rw [Nat.add_zero] at hcn
        clear hc0 b3 h10 h10'
        go_enter Tryz.func147, Tryz.ntmps147
        go_wp2
        go_ret
        exact ⟨rfl, rfl⟩
      · have hE : Hid (inF (n + 1) c = false) := by show inF _ _ = _; unfold inF; rw [decide_eq_false (p := c.toNat ≠ 0) (by omega), decide_eq_false (p := n + 1 = 1) (by omega)]; simp
        rw [hE.out]
        have b4 : (((n : Int) + 1) == 1) = false := by simp; omega
        clear hc0
        go_enter Tryz.func147, Tryz.ntmps147
        go_wp2
        go_ret
        exact ⟨rfl, rfl⟩
    · have b1 : ((c.toNat : Int) != 0) = true := by simp; omega
      have hE : Hid (inF (n + 1) c = true) := by show inF _ _ = _; unfold inF; rw [decide_eq_true (p := c.toNat ≠ 0) (by omega), decide_eq_true (p := n + 1 ≠ 10) (by omega), decide_eq_true (p := n + 1 ≤ 10) (by omega)]; simp
      rw [hE.out]
      clear hc0
      go_enter Tryz.func147, Tryz.ntmps147
      go_wp2
      go_ret
      exact ⟨rfl, rfl⟩
theorem ret_three {k k' k'' : IntKind} {a b c d x y : Int} (h : a = b) (h' : c = d) (h'' : x = y) : Ending.returned (.tuple #[.int k a, .int k' c, .int k'' x]) = .returned (.tuple #[.int k b, .int k' d, .int k'' y]) := by rw [h, h', h'']
set_option maxHeartbeats 1000000 in
theorem take_none (w : World) (b : Value) (t : List UInt8) (hb : Bs w b t) (hf : fb t = none) :
    Calls Tryz.prog 102 #[b] w fun e w' => e = .returned (.tuple #[.int .u64 0, .int .i64 0, .int .i64 11]) ∧ w' = w := by
  have c88 := index145 w b t hb
  have hI : fbI t = -1 := by unfold fbI; rw [hf]
  rw [hI] at c88
  obtain ⟨p, cap, rfl, h1, h2⟩ := hb.slice
  clear hI hf hb
  go_enter Tryz.func102, Tryz.ntmps102
  go_wp2_with (go_at_call 145; refine c88.mono ?_; rintro e w' ⟨rfl, rfl⟩)
  go_ret3
  exact ⟨rfl, rfl⟩
set_option maxHeartbeats 1000000 in
theorem take_bad (w : World) (b : Value) (t : List UInt8) (hb : Bs w b t) (i : Nat) (hf : fb t = some i) (hF : inF (i + 1) (t.getD i 0) = false) :
    Calls Tryz.prog 102 #[b] w fun e w' => e = .returned (.tuple #[.int .u64 0, .int .i64 0, .int .i64 12]) ∧ w' = w := by
  have c88 := index145 w b t hb
  have hI : fbI t = i := by unfold fbI; rw [hf]
  have hil := fb_lt hf
  rw [hI] at c88
  obtain ⟨p, cap, rfl, h1, h2⟩ := hb.slice
  have c90 := inForm147 w _ (t.take (i + 1)) i (t.getD i 0) (hb.take (n := i + 1) (by omega)) (by simp; omega) (by simp [hil])
  rw [hF] at c90
  clear hI hf hb hF
  go_enter Tryz.func102, Tryz.ntmps102
  go_wp2_with (first
    | (go_at_call 145; refine c88.mono ?_; rintro e w' ⟨rfl, rfl⟩)
    | (go_at_call 147; refine c90.mono ?_; rintro e w' ⟨rfl, rfl⟩))
  go_ret3
  exact ⟨rfl, rfl⟩
set_option maxHeartbeats 1000000 in
theorem take_ok (w : World) (b : Value) (t : List UInt8) (hb : Bs w b t) (i : Nat) (hf : fb t = some i) (hF : inF (i + 1) (t.getD i 0) = true) (hu : gv (t.take (i + 1)) < 18446744073709551616) :
    Calls Tryz.prog 102 #[b] w fun e w' => e = .returned (.tuple #[.int .u64 (gv (t.take (i + 1))), .int .i64 ((i + 1 : Nat) : Int), .int .i64 0]) ∧ w' = w := by
  have c88 := index145 w b t hb
  have hI : fbI t = i := by unfold fbI; rw [hf]
  have hil := fb_lt hf
  rw [hI] at c88
  obtain ⟨p, cap, rfl, h1, h2⟩ := hb.slice
  have hbs := hb.take (n := i + 1) (by omega)
  have hsl : (t.take (i + 1)).length = i + 1 := by simp; omega
  have c90 := inForm147 w _ (t.take (i + 1)) i (t.getD i 0) hbs (by simp; omega) (by simp [hil])
  rw [hF] at c90
  obtain ⟨g, o, cap', e1, -, -, hcell⟩ := hbs.cells (by intro e; rw [e] at hsl; simp at hsl)
  have hi10 : i + 1 ≤ 10 := by unfold inF at hF; simp only [Bool.and_eq_true, decide_eq_true_eq] at hF; exact hF.1.1
  injection e1 with e1 e2 e3
  subst e1
  clear hI hf hb hF hbs e2 e3
  generalize t.take (i + 1) = s at *
  go_enter Tryz.func102, Tryz.ntmps102
  go_wp2_with (first
    | (go_at_call 145; refine c88.mono ?_; rintro e w' ⟨rfl, rfl⟩)
    | (go_at_call 147; refine c90.mono ?_; rintro e w' ⟨rfl, rfl⟩))
  go_loopg [7, 23] (i + 1) (fun gg a j wr => ∃ (k v : Nat), gg + k = i + 1 ∧ j = .int .i64 k ∧ a = .int .u64 v ∧ Hid (v = gv (s.take k)) ∧ wr = w')
  case atStart => exact ⟨0, 0, by omega, rfl, rfl, (rfl : _ = _), rfl⟩
  case round =>
    obtain ⟨k, v, hk, rfl, rfl, hv, rfl⟩ := hrel
    by_cases hlt : k < i + 1
    · have hck := hcell k (by omega)
      have hst := gv_step (l := s) (k := k) (by omega)
      have hle := gv_take s (k + 1)
      have hal := gv_less (s.take k)
      rw [List.length_take, Nat.min_eq_left (by omega), ← hv.out] at hal
      rw [← hv.out] at hst
      rw [hst] at hle
      obtain ⟨c, hcc⟩ : ∃ c, Hid (s[k]'(by omega) = c) := ⟨s[k]'(by omega), (rfl : _ = _)⟩
      rw [hcc.out] at hck hst hle
      have hc := c.toNat_lt
      have ho := Lib.hid (or_grp v k c hal (by omega))
      have hst' := Lib.hid hst.symm
      clear hst hle hal hcc hcell hv
      go_wp2
      go_roundg (gk - 1)
      case rel => exact ⟨k + 1, v + 128 ^ k * (c.toNat % 128), by omega, by go_num, congrArg (Value.int .u64) ho.out, hst', rfl⟩
      case measure => omega
    · obtain rfl : k = i + 1 := by omega
      have hE : Hid ((v : Int) = (gv s : Int)) := by show _ = _; rw [hv.out, List.take_of_length_le (by omega)]
      clear hv hcell
      go_wp2
      go_ret3
      exact ⟨ret_three hE.out (by go_num) rfl, rfl⟩

end Go.Proofs.YtfakgfmgofblgaaGreatDoor
namespace Go.Proofs.YtfakgfmgofblgaaGreatDoor
open Go.RowKit Go.Maps
set_option linter.unusedVariables false      -- a walk need not use every condition

theorem down38 (w : World) (d pb mb : Nat) (s : Dsk) (h : At w d pb mb s) : Calls Tryz.prog 38 #[.pointer (some ⟨d, 0, none⟩)] w fun e w' => e = .returned (.bool s.down) ∧ w' = w := by
  obtain ⟨-, -, c2, -, -, -⟩ := five_of h.blk
  have c := made42 w d pb mb s h
  clear h
  go_enter Tryz.func38, Tryz.ntmps38
  go_wp2_with (first | (go_at_call 42; refine c.mono ?_; rintro e w' ⟨rfl, rfl⟩))
  go_ret
  exact ⟨rfl, rfl⟩
def Dsk.setFuse (s : Dsk) (n : Int) : Int × Dsk := if s.down then (9, s) else if n < 0 then (1, s) else (0, { s with fuse := n })
set_option maxHeartbeats 800000 in
theorem setFuse37 (w : World) (d pb mb : Nat) (s : Dsk) (h : At w d pb mb s) (n : Int) (hn : n ≤ 9223372036854775807) :
    Calls Tryz.prog 37 #[.pointer (some ⟨d, 0, none⟩), .int .i64 n] w fun e w' => e = .returned (.int .i64 (s.setFuse n).1) ∧ At w' d pb mb (s.setFuse n).2 ∧ Kept d pb mb w w' := by
  have c := ready40 w d pb mb s h
  obtain ⟨-, -, -, -, -, fr⟩ := five_of h.blk
  have f3 := fr 3
  have H : Hid (At w d pb mb s) := h
  obtain ⟨-, -, -, c3, -, -⟩ := five_of h.blk
  clear h fr
  unfold Dsk.setFuse
  unfold Dsk.ready at c
  by_cases hd : s.down = true
  · rw [if_pos hd]
    rw [if_pos hd] at c
    clear hd
    go_enter Tryz.func37, Tryz.ntmps37
    go_wp2_with (first | (go_at_call 40; refine c.mono ?_; rintro e w' ⟨rfl, rfl⟩))
    go_ret
    exact ⟨rfl, H.out, Kept.refl _ _ _ _⟩
  · rw [if_neg hd]
    rw [if_neg hd] at c
    clear hd
    by_cases h0 : n < 0
    · rw [if_pos h0]
      go_enter Tryz.func37, Tryz.ntmps37
      go_wp2_with (first | (go_at_call 40; refine c.mono ?_; rintro e w' ⟨rfl, rfl⟩))
      go_ret
      exact ⟨rfl, H.out, Kept.refl _ _ _ _⟩
    · rw [if_neg h0]
      go_enter Tryz.func37, Tryz.ntmps37
      go_wp2_with (first | (go_at_call 40; refine c.mono ?_; rintro e w' ⟨rfl, rfl⟩))
      go_ret
      refine ⟨rfl, ?_, ?_⟩
      · refine H.out.turn ?_ (gr_set w' d 3 _) rfl rfl rfl rfl ⟨by simp; omega, by simp; omega⟩ H.out.cl
        rw [blk_set H.out.blk _]
        rfl
      · exact Kept.grown (gr_set w' d 3 _) (fun k e => by injection e with e; exact .inl e.symm)
end Go.Proofs.YtfakgfmgofblgaaGreatDoor
namespace Go.Proofs.YtfakgfmgofblgaaGreatDoor
open Go.RowKit Go.Maps
set_option linter.unusedVariables false      -- a walk need not use every condition

/-! ### What is kept -/

/-- All that lay in w but the blocks of X lies so in w'. -/
structure Kp (X : Nat → Prop) (w w' : World) : Prop where
  os : w'.os = w.os
  tape : w'.tape = w.tape
  output : w'.output = w.output
  size : w.heap.size ≤ w'.heap.size
  block : ∀ k, k < w.heap.size → ¬ X k → w'.heap[k]? = w.heap[k]?
theorem Kp.refl (X : Nat → Prop) (w : World) : Kp X w w := ⟨rfl, rfl, rfl, Nat.le_refl _, fun _ _ _ => rfl⟩
theorem Kp.trans {X : Nat → Prop} {a b c : World} (h : Kp X a b) (k : Kp X b c) : Kp X a c :=
  ⟨k.os.trans h.os, k.tape.trans h.tape, k.output.trans h.output, Nat.le_trans h.size k.size, fun i hi hx => (k.block i (Nat.lt_of_lt_of_le hi h.size) hx).trans (h.block i hi hx)⟩
theorem Kp.bel {X : Nat → Prop} {w w' : World} (h : Below w.heap.size w w') : Kp X w w' := ⟨h.os, h.tape, h.output, h.size, fun k hk _ => h.block k hk⟩
theorem Kp.kept {X : Nat → Prop} {d pb mb : Nat} {w w' : World} (h : Kept d pb mb w w') (hd : X d) (hp : X pb) (hm : X mb) : Kp X w w' :=
  ⟨h.os, h.tape, h.output, h.size, fun k hk hx => h.block k hk (fun e => hx (e ▸ hd)) (fun e => hx (e ▸ hp)) (fun e => hx (e ▸ hm))⟩
theorem Kp.grown {X : Nat → Prop} {w w' : World} {r : Nat} (h : w.grownBy w' (some r)) (hr : X r) : Kp X w w' :=
  ⟨h.os, h.tape, h.output, h.size, fun k hk hx => h.block k hk (fun e => hx (by injection e with e; exact e ▸ hr))⟩
theorem Kp.below {X : Nat → Prop} {w w' : World} {B : Nat} (h : Kp X w w') (hX : ∀ k, X k → B ≤ k) (hB : B ≤ w.heap.size) : Below B w w' :=
  ⟨h.os, h.tape, h.output, h.size, fun k hk => h.block k (by omega) (fun hx => by have := hX k hx; omega)⟩
theorem Kp.mono {X Y : Nat → Prop} {w w' : World} (h : Kp X w w') (hxy : ∀ k, X k → Y k) : Kp Y w w' := ⟨h.os, h.tape, h.output, h.size, fun k hk hy => h.block k hk (fun hx => hy (hxy k hx))⟩

/-- Bytes in none of these blocks. -/
def BsX (X : Nat → Prop) (w : World) (v : Value) (t : List UInt8) : Prop := Bs w v t ∧ (t ≠ [] → ∀ a n c, v = .slice (some a) n c → ¬ X a.block)
theorem range_kp {X : Nat → Prop} {w w' : World} {g o : Nat} {cs : List Value} (h : w.rangeAt g o cs) (hk : Kp X w w') (hx : ¬ X g) : w'.rangeAt g o cs := fun j v hv => by
  have h1 := h j v hv
  have hlt := World.block_lt_of_cell? w ⟨g, o + j, none⟩ h1
  exact (World.cell?_of_block (w := w) (a := ⟨g, o + j, none⟩) (hk.block _ hlt hx)).trans h1
theorem BsX.kp {X : Nat → Prop} {w w' : World} {v : Value} {t : List UInt8} (h : BsX X w v t) (hk : Kp X w w') : BsX X w' v t := by
  refine ⟨?_, h.2⟩
  obtain ⟨p, cap, rfl, h1, h2, h3, h4⟩ := h.1
  refine ⟨p, cap, rfl, h1, h2, h3, ?_⟩
  rcases h4 with h4 | ⟨g, o, rfl, hc⟩
  · exact .inl h4
  · by_cases ht : t = []
    · exact .inl ht
    · exact .inr ⟨g, o, rfl, range_kp hc hk (h.2 ht _ _ _ rfl)⟩
theorem BsX.on {X : Nat → Prop} {w w' : World} {v : Value} {t : List UInt8} (h : BsX X w v t) (hb : Below w.heap.size w w') : BsX X w' v t := h.kp (Kp.bel hb)

/-! ### A log -/

structure Lg where
  e : Int
  slots : Nat
  note : List UInt8
  used : Nat
  stale : Bool
  broken : Bool
/-- The blocks of a disk and of a log. -/
def X4 (d pb mb l : Nat) (k : Nat) : Prop := k = d ∨ k = pb ∨ k = mb ∨ k = l
def lblk (d : Nat) (L : Lg) (nv : Value) : Obj := .cells #[.pointer (some ⟨d, 0, none⟩), .int .i64 L.e, .int .i64 L.slots, nv, .int .i64 L.used, .bool L.stale, .bool L.broken] 144
structure LAt (w : World) (d pb mb l : Nat) (L : Lg) : Prop where
  blk : ∃ nv, w.heap[l]? = some (.cells #[.pointer (some ⟨d, 0, none⟩), .int .i64 L.e, .int .i64 L.slots, nv, .int .i64 L.used, .bool L.stale, .bool L.broken] 144) ∧ BsX (X4 d pb mb l) w nv L.note
  ne : l ≠ d ∧ l ≠ pb ∧ l ≠ mb
  pos : 0 < L.e
  top : L.e ≤ 1099511627776
  sl : 1 ≤ L.slots ∧ L.slots ≤ 4096
  us : L.used ≤ L.slots
  nt : L.note.length ≤ 112
theorem LAt.lt {w : World} {d pb mb l : Nat} {L : Lg} (h : LAt w d pb mb l L) : l < w.heap.size := by
  obtain ⟨nv, hb, -⟩ := h.blk
  exact (Array.getElem?_eq_some_iff.1 hb).1
theorem LAt.on {w w' : World} {d pb mb l : Nat} {L : Lg} (h : LAt w d pb mb l L) (hb : Below w.heap.size w w') : LAt w' d pb mb l L := by
  obtain ⟨nv, h1, h2⟩ := h.blk
  exact { h with blk := ⟨nv, (hb.block _ h.lt).trans h1, h2.on hb⟩ }
theorem LAt.kept {w w' : World} {d pb mb l : Nat} {L : Lg} (h : LAt w d pb mb l L) (hb : Kept d pb mb w w') : LAt w' d pb mb l L := by
  obtain ⟨nv, h1, h2⟩ := h.blk
  exact { h with blk := ⟨nv, (hb.block _ h.lt h.ne.1 h.ne.2.1 h.ne.2.2).trans h1, h2.kp (Kp.kept hb (.inl rfl) (.inr (.inl rfl)) (.inr (.inr (.inl rfl))))⟩ }
theorem seven_of {w : World} {g : Nat} {a b c d e f h : Value} {t : TypeId} (hb : w.heap[g]? = some (.cells #[a, b, c, d, e, f, h] t)) :
    w.cell? ⟨g, 0, none⟩ = some a ∧ w.cell? ⟨g, 1, none⟩ = some b ∧ w.cell? ⟨g, 2, none⟩ = some c ∧ w.cell? ⟨g, 3, none⟩ = some d ∧ w.cell? ⟨g, 4, none⟩ = some e ∧ w.cell? ⟨g, 5, none⟩ = some f ∧ w.cell? ⟨g, 6, none⟩ = some h ∧ ∀ i, w.frozen? ⟨g, i, none⟩ = false := by
  refine ⟨?_, ?_, ?_, ?_, ?_, ?_, ?_, fun i => ?_⟩ <;> simp [World.cell?, World.frozen?, hb]

/-! ### Small functions -/

theorem sectors97 (w : World) (d pb mb : Nat) (s : Dsk) (h : At w d pb mb s) : Calls Tryz.prog 97 #[.pointer (some ⟨d, 0, none⟩)] w fun e w' => e = .returned (.int .i64 s.N) ∧ w' = w := by
  obtain ⟨c0, -, -, -, -, -⟩ := five_of h.blk
  have c := made42 w d pb mb s h
  clear h
  go_enter Tryz.func97, Tryz.ntmps97
  go_wp2_with (first | (go_at_call 42; refine c.mono ?_; rintro e w' ⟨rfl, rfl⟩))
  go_ret
  exact ⟨rfl, rfl⟩
theorem madeDisk98 (w : World) (d pb mb : Nat) (s : Dsk) (h : At w d pb mb s) : Calls Tryz.prog 98 #[.pointer (some ⟨d, 0, none⟩)] w fun e w' => e = .returned (.bool true) ∧ w' = w := by
  have c := sectors97 w d pb mb s h
  have hp : (0 : Int) < (s.N : Int) := by have := h.pos; omega
  clear h
  go_enter Tryz.func98, Tryz.ntmps98
  go_wp2_with (first | (go_at_call 97; refine c.mono ?_; rintro e w' ⟨rfl, rfl⟩))
  go_ret
  exact ⟨by simp; omega, rfl⟩
/-- May a log have so many slots? -/
def Dsk.may (s : Dsk) (n : Int) : Bool := decide (1 ≤ n) && decide (n ≤ 4096) && decide (2 + n ≤ s.N)
set_option maxHeartbeats 400000 in
theorem maySlots139 (w : World) (d pb mb : Nat) (s : Dsk) (h : At w d pb mb s) (n : Int) : Calls Tryz.prog 139 #[.pointer (some ⟨d, 0, none⟩), .int .i64 n] w fun e w' => e = .returned (.bool (s.may n)) ∧ w' = w := by
  have c := sectors97 w d pb mb s h
  have hN := h.top
  clear h
  unfold Dsk.may
  by_cases h1 : 1 ≤ n
  · by_cases h2 : n ≤ 4096
    · have hw : IntKind.i64.wrap (2 + n) = 2 + n := by rw [IntKind.wrap_i64]; omega
      go_enter Tryz.func139, Tryz.ntmps139
      go_wp2_with (first | (go_at_call 97; refine c.mono ?_; rintro e w' ⟨rfl, rfl⟩))
      go_ret
      exact ⟨by simp [h1, h2], rfl⟩
    · go_enter Tryz.func139, Tryz.ntmps139
      go_wp2
      go_ret
      exact ⟨by simp; omega, rfl⟩
  · go_enter Tryz.func139, Tryz.ntmps139
    go_wp2
    go_ret
    exact ⟨by simp; omega, rfl⟩
theorem isRight100 (w : World) (e : Int) (x y : Value) (hx : x.oneCell' = true) (hy : y.oneCell' = true) : Calls Tryz.prog 100 #[.agg #[.int .i64 e, x, y]] w fun r w' => r = .returned (.bool (decide (0 < e))) ∧ w' = w.alloc (.cells #[.int .i64 e, x, y] 141) := by
  go_enter Tryz.func100, Tryz.ntmps100
  go_wp2
  go_ret
  exact ⟨rfl, rfl⟩
theorem at172 (w : World) (e : Int) (he : 0 ≤ e) (x y : Value) (hx : x.oneCell' = true) (hy : y.oneCell' = true) : Calls Tryz.prog 172 #[.agg #[.int .i64 e, x, y]] w fun r w' => r = .returned (.int .i64 (e % 2)) ∧ w' = w.alloc (.cells #[.int .i64 e, x, y] 141) := by
  have ht : e.tmod 2 = e % 2 := Int.tmod_eq_emod_of_nonneg he
  go_enter Tryz.func172, Tryz.ntmps172
  go_wp2
  go_ret
  exact ⟨rfl, rfl⟩
end Go.Proofs.YtfakgfmgofblgaaGreatDoor
namespace Go.Proofs.YtfakgfmgofblgaaGreatDoor
open Go.RowKit Go.Maps
set_option linter.unusedVariables false      -- a walk need not use every condition

theorem Bs.one {w : World} {v : Value} {t : List UInt8} (h : Bs w v t) : v.oneCell' = true := by
  obtain ⟨p, cap, rfl, -⟩ := h
  rfl
theorem made103 (w : World) (d pb mb l : Nat) (L : Lg) (h : LAt w d pb mb l L) : Calls Tryz.prog 103 #[.pointer (some ⟨l, 0, none⟩)] w fun e w' => e = .returned (.bool true) ∧ Below w.heap.size w w' := by
  obtain ⟨nv, hb, hn⟩ := h.blk
  obtain ⟨p, cap, rfl, -⟩ := hn.1
  obtain ⟨c0, c1, c2, c3, c4, c5, c6, fr⟩ := seven_of hb
  have cR := isRight100 w L.e (.int .i64 L.slots) (.slice p L.note.length cap) rfl rfl
  rw [decide_eq_true h.pos] at cR
  clear h hb hn fr
  go_enter Tryz.func103, Tryz.ntmps103
  go_wp2_with (first | (go_at_call 100; refine cR.mono ?_; rintro e w' ⟨rfl, rfl⟩))
  go_ret
  exact ⟨rfl, bel1 w _⟩
def Lg.ready (L : Lg) : Int := if L.broken then 62 else 0
theorem ready133 (w : World) (d pb mb l : Nat) (L : Lg) (h : LAt w d pb mb l L) : Calls Tryz.prog 133 #[.pointer (some ⟨l, 0, none⟩)] w fun e w' => e = .returned (.int .i64 L.ready) ∧ Below w.heap.size w w' := by
  have cM := made103 w d pb mb l L h
  have H := Lib.hid h
  unfold Lg.ready
  generalize hbr : L.broken = x
  have HB := Lib.hid hbr
  clear h hbr
  cases x
  all_goals
    go_enter Tryz.func133, Tryz.ntmps133
    go_wp2_with (first | (go_at_call 103; refine cM.mono ?_; rintro e w' ⟨rfl, hb⟩; obtain ⟨nv, hblk, hn⟩ := (H.out.on hb).blk; rw [HB.out] at hblk; obtain ⟨-, -, -, -, -, -, c6, -⟩ := seven_of hblk; clear hblk hn))
    go_ret
    exact ⟨rfl, hb⟩
theorem epoch65 (w : World) (d pb mb l : Nat) (L : Lg) (h : LAt w d pb mb l L) : Calls Tryz.prog 65 #[.pointer (some ⟨l, 0, none⟩)] w fun e w' => e = .returned (.int .i64 L.e) ∧ Below w.heap.size w w' := by
  have cM := made103 w d pb mb l L h
  have H := Lib.hid h
  clear h
  go_enter Tryz.func65, Tryz.ntmps65
  go_wp2_with (first | (go_at_call 103; refine cM.mono ?_; rintro e w' ⟨rfl, hb⟩; obtain ⟨nv, hblk, hn⟩ := (H.out.on hb).blk; obtain ⟨-, c1, -, -, -, -, c6, -⟩ := seven_of hblk; clear hblk hn))
  go_ret
  exact ⟨rfl, hb⟩
theorem used87 (w : World) (d pb mb l : Nat) (L : Lg) (h : LAt w d pb mb l L) : Calls Tryz.prog 87 #[.pointer (some ⟨l, 0, none⟩)] w fun e w' => e = .returned (.int .i64 L.used) ∧ Below w.heap.size w w' := by
  have cM := made103 w d pb mb l L h
  have H := Lib.hid h
  clear h
  go_enter Tryz.func87, Tryz.ntmps87
  go_wp2_with (first | (go_at_call 103; refine cM.mono ?_; rintro e w' ⟨rfl, hb⟩; obtain ⟨nv, hblk, hn⟩ := (H.out.on hb).blk; obtain ⟨-, c1, -, -, c4, -, c6, -⟩ := seven_of hblk; clear hblk hn))
  go_ret
  exact ⟨rfl, hb⟩
theorem number170 (w : World) (d pb mb l : Nat) (L : Lg) (h : LAt w d pb mb l L) (i : Nat) (hi : i ≤ 4096) : Calls Tryz.prog 170 #[.pointer (some ⟨l, 0, none⟩), .int .i64 i] w fun e w' => e = .returned (.int .i64 (L.e * 65536 + i)) ∧ w' = w := by
  obtain ⟨nv, hblk, hn⟩ := h.blk
  obtain ⟨-, c1, -⟩ := seven_of hblk
  have hp := h.pos
  have ht := h.top
  have w1 : IntKind.i64.wrap (L.e * 65536) = L.e * 65536 := by rw [IntKind.wrap_i64]; omega
  have w2 : IntKind.i64.wrap (L.e * 65536 + i) = L.e * 65536 + i := by rw [IntKind.wrap_i64]; omega
  clear h hblk hn
  go_enter Tryz.func170, Tryz.ntmps170
  go_wp2
  go_ret
  exact ⟨rfl, rfl⟩
theorem sectorOf171 (w : World) (i : Nat) (hi : i ≤ 4096) : Calls Tryz.prog 171 #[.int .i64 i] w fun e w' => e = .returned (.int .i64 ((2 + i : Nat) : Int)) ∧ w' = w := by
  have w2 : IntKind.i64.wrap (2 + (i : Int)) = ((2 + i : Nat) : Int) := by rw [IntKind.wrap_i64]; omega
  go_enter Tryz.func171, Tryz.ntmps171
  go_wp2
  go_ret
  exact ⟨rfl, rfl⟩
/-! ### No log -/
theorem nilMade103 (w : World) : Calls Tryz.prog 103 #[.pointer none] w fun e w' => e = .returned (.bool false) ∧ w' = w := by
  go_enter Tryz.func103, Tryz.ntmps103
  go_wp2
  go_ret
  exact ⟨rfl, rfl⟩
end Go.Proofs.YtfakgfmgofblgaaGreatDoor
