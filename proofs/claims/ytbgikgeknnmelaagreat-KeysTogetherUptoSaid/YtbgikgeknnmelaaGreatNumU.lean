/-
  Take of package num; the reader's number, id, count and text.
-/
import Derived.Test.YtbgikgeknnmelaaGreatNumT
namespace Go.Proofs.YtbgikgeknnmelaaGreat
open Go.RowKit
set_option linter.unusedVariables false      -- a walk need not use every condition

theorem ret_three {k k' k'' : IntKind} {a b c d x y : Int} (h : a = b) (h' : c = d) (h'' : x = y) : Ending.returned (.tuple #[.int k a, .int k' c, .int k'' x]) = .returned (.tuple #[.int k b, .int k' d, .int k'' y]) := by rw [h, h', h'']
set_option maxHeartbeats 1000000 in
theorem take_none (w : World) (b : Value) (t : List UInt8) (hb : Bs w b t) (hf : fb t = none) :
    Calls Tryz.prog 114 #[b] w fun e w' => e = .returned (.tuple #[.int .u64 0, .int .i64 0, .int .i64 11]) ∧ w' = w := by
  have c88 := index130 w b t hb
  have hI : fbI t = -1 := by unfold fbI; rw [hf]
  rw [hI] at c88
  obtain ⟨p, cap, rfl, h1, h2⟩ := hb.slice
  clear hI hf hb
  go_enter Tryz.func114, Tryz.ntmps114
  go_wp2_with (go_at_call 130; refine c88.mono ?_; rintro e w' ⟨rfl, rfl⟩)
  go_ret3
  exact ⟨rfl, rfl⟩
set_option maxHeartbeats 1000000 in
theorem take_bad (w : World) (b : Value) (t : List UInt8) (hb : Bs w b t) (i : Nat) (hf : fb t = some i) (hF : inF (i + 1) (t.getD i 0) = false) :
    Calls Tryz.prog 114 #[b] w fun e w' => e = .returned (.tuple #[.int .u64 0, .int .i64 0, .int .i64 12]) ∧ w' = w := by
  have c88 := index130 w b t hb
  have hI : fbI t = i := by unfold fbI; rw [hf]
  have hil := fb_lt hf
  rw [hI] at c88
  obtain ⟨p, cap, rfl, h1, h2⟩ := hb.slice
  have c90 := inForm132 w _ (t.take (i + 1)) i (t.getD i 0) (hb.take (n := i + 1) (by omega)) (by simp; omega) (by simp [hil])
  rw [hF] at c90
  clear hI hf hb hF
  go_enter Tryz.func114, Tryz.ntmps114
  go_wp2_with (first
    | (go_at_call 130; refine c88.mono ?_; rintro e w' ⟨rfl, rfl⟩)
    | (go_at_call 132; refine c90.mono ?_; rintro e w' ⟨rfl, rfl⟩))
  go_ret3
  exact ⟨rfl, rfl⟩
set_option maxHeartbeats 1000000 in
theorem take_ok (w : World) (b : Value) (t : List UInt8) (hb : Bs w b t) (i : Nat) (hf : fb t = some i) (hF : inF (i + 1) (t.getD i 0) = true) (hu : gv (t.take (i + 1)) < 18446744073709551616) :
    Calls Tryz.prog 114 #[b] w fun e w' => e = .returned (.tuple #[.int .u64 (gv (t.take (i + 1))), .int .i64 ((i + 1 : Nat) : Int), .int .i64 0]) ∧ w' = w := by
  have c88 := index130 w b t hb
  have hI : fbI t = i := by unfold fbI; rw [hf]
  have hil := fb_lt hf
  rw [hI] at c88
  obtain ⟨p, cap, rfl, h1, h2⟩ := hb.slice
  have hbs := hb.take (n := i + 1) (by omega)
  have hsl : (t.take (i + 1)).length = i + 1 := by simp; omega
  have c90 := inForm132 w _ (t.take (i + 1)) i (t.getD i 0) hbs (by simp; omega) (by simp [hil])
  rw [hF] at c90
  obtain ⟨g, o, cap', e1, -, -, hcell⟩ := hbs.cells (by intro e; rw [e] at hsl; simp at hsl)
  have hi10 : i + 1 ≤ 10 := by unfold inF at hF; simp only [Bool.and_eq_true, decide_eq_true_eq] at hF; exact hF.1.1
  injection e1 with e1 e2 e3
  subst e1
  clear hI hf hb hF hbs e2 e3
  generalize t.take (i + 1) = s at *
  go_enter Tryz.func114, Tryz.ntmps114
  go_wp2_with (first
    | (go_at_call 130; refine c88.mono ?_; rintro e w' ⟨rfl, rfl⟩)
    | (go_at_call 132; refine c90.mono ?_; rintro e w' ⟨rfl, rfl⟩))
  go_loopg [7, 23] (i + 1) (fun gg a j wr => ∃ (k v : Nat), gg + k = i + 1 ∧ j = .int .i64 k ∧ a = .int .u64 v ∧ Hid (v = gv (s.take k)) ∧ wr = w')
  case atStart => exact ⟨0, 0, by omega, rfl, rfl, (rfl : _ = _), rfl⟩
  case round =>
    obtain ⟨k, v, hk, rfl, rfl, hv, rfl⟩ := hrel
    by_cases hlt : k < i + 1
    · have hck := hcell k (by omega)
      have hst := gv_step (l := s) (k := k) (by omega)
      have hle := gv_take s (k + 1)
      have hal := gv_less (s.take k)
      rw [List.length_take, Nat.min_eq_left (by omega), ← hv.out] at hal
      rw [← hv.out] at hst
      rw [hst] at hle
      obtain ⟨c, hcc⟩ : ∃ c, Hid (s[k]'(by omega) = c) := ⟨s[k]'(by omega), (rfl : _ = _)⟩
      rw [hcc.out] at hck hst hle
      have hc := c.toNat_lt
      have ho := Lib.hid (or_grp v k c hal (by omega))
      have hst' := Lib.hid hst.symm
      clear hst hle hal hcc hcell hv
      go_wp2
      go_roundg (gk - 1)
      case rel => exact ⟨k + 1, v + 128 ^ k * (c.toNat % 128), by omega, by go_num, congrArg (Value.int .u64) ho.out, hst', rfl⟩
      case measure => omega
    · obtain rfl : k = i + 1 := by omega
      have hE : Hid ((v : Int) = (gv s : Int)) := by show _ = _; rw [hv.out, List.take_of_length_le (by omega)]
      clear hv hcell
      go_wp2
      go_ret3
      exact ⟨ret_three hE.out (by go_num) rfl, rfl⟩

/-! ### The reader's methods -/

/-- What number comes to. -/
def NumR (spec : R Nat) (r : Nat) (w : World) (e : Ending) (w' : World) : Prop :=
  (∃ u q, spec = .ok (u, q) ∧ u < 18446744073709551616 ∧ e = .returned (.tuple #[.int .u64 u, .int .i64 0]) ∧ Rq r q w w') ∨
    (∃ n, spec = .error n ∧ n ≠ 0 ∧ e = .returned (.tuple #[.int .u64 0, .int .i64 n]) ∧ w' = w)
set_option maxHeartbeats 1000000 in
theorem number150 (w : World) (r : Nat) (t : List UInt8) (h : Rd w r t) : Calls Tryz.prog 150 #[.pointer (some ⟨r, 0, none⟩)] w (NumR (pNum t) r w) := by
  obtain ⟨p, cap, k1, h2, h3, h4, c0, cf⟩ := h.cell
  cases hf : fb t with
  | none =>
    have c82 := take_none w _ t h4.1 hf
    have hE : Hid (pNum t = .error 11) := by show _ = _; unfold pNum; rw [hf]
    clear h h4 hf
    go_enter Tryz.func150, Tryz.ntmps150
    go_wp2_with (go_at_call 114; refine c82.mono ?_; rintro e w' ⟨rfl, rfl⟩)
    go_ret2
    exact .inr ⟨11, hE.out, by decide, rfl, rfl⟩
  | some i =>
    cases hF : inF (i + 1) (t.getD i 0) with
    | false =>
      have c82 := take_bad w _ t h4.1 i hf hF
      have hE : Hid (pNum t = .error 30) := by show _ = _; unfold pNum; rw [hf]; simp only [hF]; rfl
      clear h h4 hf hF
      go_enter Tryz.func150, Tryz.ntmps150
      go_wp2_with (go_at_call 114; refine c82.mono ?_; rintro e w' ⟨rfl, rfl⟩)
      go_ret2
      exact .inr ⟨30, hE.out, by decide, rfl, rfl⟩
    | true =>
      have hE : Hid (pNum t = .ok (gv (t.take (i + 1)), t.drop (i + 1))) := by show _ = _; unfold pNum; rw [hf]; simp only [hF]; rfl
      obtain ⟨-, hu⟩ := num_back hE.out
      have hil := fb_lt hf
      have c82 := take_ok w _ t h4.1 i hf hF hu
      have hdr := h4.drop (n := i + 1) (by omega)
      generalize gv (t.take (i + 1)) = u at *
      obtain ⟨N, hN⟩ : ∃ N, N = i + 1 := ⟨_, rfl⟩
      rw [← hN] at c82 hdr hE
      have hNl : N ≤ t.length := by omega
      clear h h4 hf hF hN
      by_cases hcn : cap = N
      · subst hcn
        rw [if_pos rfl, Nat.sub_self, show t.length - cap = 0 by omega] at hdr
        have hq := Lib.hid (rd_set k1 hdr)
        clear hdr
        go_enter Tryz.func150, Tryz.ntmps150
        go_wp2_with (go_at_call 114; refine c82.mono ?_; rintro e w' ⟨rfl, rfl⟩)
        go_ret2
        exact .inl ⟨u, _, hE.out, hu, rfl, hq.out.1⟩
      · rw [if_neg hcn] at hdr
        have hq := Lib.hid (rd_set k1 hdr)
        clear hdr
        go_enter Tryz.func150, Tryz.ntmps150
        go_wp2_with (go_at_call 114; refine c82.mono ?_; rintro e w' ⟨rfl, rfl⟩)
        go_ret2
        exact .inl ⟨u, _, hE.out, hu, rfl, hq.out.1⟩
end Go.Proofs.YtbgikgeknnmelaaGreat
