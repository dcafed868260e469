/-
  The document's Take: the number with which bytes begin, or an error.
-/
import Derived.Test.YtbkpgppaahpalaaNumT
namespace Go.Proofs.Ytbkpgppaahpalaa
open Go.RowKit
set_option linter.unusedVariables false      -- a walk need not use every condition

/-- What Take answers. -/
def TkR (t : List UInt8) (e : Ending) : Prop :=
  (∃ u k, tk t = some (u, k) ∧ e = .returned (.tuple #[.int .u64 (u : Nat), .int .i64 ((k : Nat) : Int), .int .i64 0])) ∨ (tk t = none ∧ ∃ n : Int, n ≠ 0 ∧ e = .returned (.tuple #[.int .u64 0, .int .i64 0, .int .i64 n]))
theorem tk_none_fb {t : List UInt8} (h : fb t = none) : tk t = none := by unfold tk; rw [h]
theorem tk_none_inF {t : List UInt8} {i : Nat} (h : fb t = some i) (hF : inF (i + 1) (t.getD i 0) = false) : tk t = none := by
  unfold tk
  rw [h]
  show (if inF (i + 1) (t.getD i 0) = true then _ else _) = _
  rw [if_neg (by rw [hF]; decide)]
theorem tk_some_inF {t : List UInt8} {i : Nat} (h : fb t = some i) (hF : inF (i + 1) (t.getD i 0) = true) : tk t = some (gv (t.take (i + 1)), i + 1) := by
  unfold tk
  rw [h]
  show (if inF (i + 1) (t.getD i 0) = true then _ else _) = _
  rw [if_pos hF]
theorem tk_none_far {t : List UInt8} (h : fb t = (fb (t.drop 10)).map (· + 10)) : tk t = none := by
  cases hd : fb (t.drop 10) with
  | none => rw [hd] at h; exact tk_none_fb h
  | some j =>
    rw [hd] at h
    have h' : fb t = some (j + 10) := h
    refine tk_none_inF h' ?_
    unfold inF
    rw [decide_eq_false (by omega)]
    rfl
theorem gv_drop_le : ∀ (l : List UInt8) (g : Nat), gv (l.drop g) ≤ gv l
  | [], g => by simp
  | c :: l, 0 => by simp
  | c :: l, g + 1 => by
    have := gv_drop_le l g
    simp only [List.drop_succ_cons, gv]
    omega
theorem gv_at {l : List UInt8} {g : Nat} (h : g < l.length) : gv (l.drop g) = (l[g]).toNat % 128 + 128 * gv (l.drop (g + 1)) := by
  rw [List.drop_eq_getElem_cons h]
  rfl
set_option maxHeartbeats 4000000 in
set_option maxRecDepth 100000 in
theorem rtake89 (w : World) (b : Value) (t : List UInt8) (hb : Bs w b t) : Calls Try.prog 89 #[b] w fun e w' => TkR t e ∧ w' = w := by
  obtain ⟨p, cap, rfl, h1, h2, h3, h4⟩ := hb
  unfold maxLen at h2
  go_enter Try.func89, Try.ntmps89
  go_wp2
  go_loopg [5] 10 (fun g i wr => ∃ k : Nat, g + k = 10 ∧ i = .int .i64 k ∧ Hid (fb t = (fb (t.drop k)).map (· + k)) ∧ wr = w)
  case atStart => exact ⟨0, by omega, rfl, by show _ = _; simp, rfl⟩
  case round =>
    obtain ⟨k, hk, rfl, hsp, rfl⟩ := hrel
    by_cases h10 : k = 10
    · subst h10
      have hE : Hid (tk t = none) := tk_none_far hsp.out
      clear hsp h4
      go_wp2
      go_ret3
      exact ⟨.inr ⟨hE.out, 12, by decide, rfl⟩, rfl⟩
    · have hk10 : (k : Int) < 10 := by omega
      by_cases hlt : k < t.length
      · obtain ⟨g, o, rfl, hc⟩ := h4.resolve_left (by intro e; rw [e] at hlt; simp at hlt)
        have hck := hc k _ (enc_get hlt)
        have hd := fb_drop hlt
        obtain ⟨c, hcc⟩ : ∃ c, Hid (t[k] = c) := ⟨t[k], (rfl : _ = _)⟩
        rw [hcc.out] at hck hd
        have hcl := c.toNat_lt
        have i1 : (k : Int) < (t.length : Int) := by omega
        have i2 : (0 : Int) ≤ (k : Int) := by omega
        by_cases hc1 : c.toNat < 128
        · rw [if_pos hc1] at hd
          have hf : Hid (fb t = some k) := by show _ = _; rw [hsp.out, hd]; simp
          have hgd : Hid (t.getD k 0 = c) := by show _ = _; rw [← hcc.out]; simp [hlt]
          have c128 : (c.toNat : Int) < 128 := by omega
          have hC := Lib.hid hc
          clear hsp hd hc h4
          cases hF : inF (k + 1) c with
          | false =>
            have hE : Hid (tk t = none) := tk_none_inF hf.out (by rw [hgd.out]; exact hF)
            unfold inF at hF
            have hor : (0 < k ∧ c.toNat = 0) ∨ (k = 9 ∧ 1 < c.toNat) := by
              simp only [Bool.and_eq_false_iff, Bool.or_eq_false_iff, decide_eq_false_iff_not] at hF
              omega
            clear hF hcc hc1 hf hgd
            have hz : (c.toNat : Int) = 0 ∨ ¬ (c.toNat : Int) = 0 := by omega
            rcases hor with ⟨o1, o2⟩ | ⟨o1, o2⟩
            · have z1 : (0 : Int) < (k : Int) := by omega
              have z2 : (c.toNat : Int) = 0 := by omega
              clear o1 o2
              generalize (c.toNat : Int) = d at *
              subst z2
              go_wp2
              go_ret3
              exact ⟨.inr ⟨hE.out, 12, by decide, rfl⟩, rfl⟩
            · subst o1
              have z2 : (1 : Int) < (c.toNat : Int) := by omega
              have z3 : ((c.toNat : Int) == 0) = false := by simp; omega
              clear o2
              generalize (c.toNat : Int) = d at *
              go_wp2
              go_ret3
              exact ⟨.inr ⟨hE.out, 12, by decide, rfl⟩, rfl⟩
          | true =>
            have hE := Lib.hid (tk_some_inF hf.out (by rw [hgd.out]; exact hF))
            have hu : Hid (gv (t.take (k + 1)) < 18446744073709551616) := (tk_back hE.out).2.1
            unfold inF at hF
            have hand : (k = 0 ∨ c.toNat ≠ 0) ∧ (k ≠ 9 ∨ c.toNat ≤ 1) := by
              simp only [Bool.and_eq_true, Bool.or_eq_true, decide_eq_true_eq] at hF
              omega
            have hcells : Hid (∀ j (hj : j < t.length), wr.cell? ⟨g, o + j, none⟩ = some (.int .u8 t[j].toNat)) := fun j hj => hC.out j _ (enc_get hj)
            have hkl : Hid ((t.take (k + 1)).length = k + 1) := by show _ = _; simp; omega
            have z : (¬ (0 : Int) < (k : Int) ∧ ((k : Int) == 9) = false ∧ True) ∨ ((0 : Int) < (k : Int) ∧ ((c.toNat : Int) == 0) = false ∧ ((k : Int) == 9) = false) ∨ ((0 : Int) < (k : Int) ∧ ((c.toNat : Int) == 0) = false ∧ ¬ (1 : Int) < (c.toNat : Int) ∧ ((k : Int) == 9) = true) := by
              by_cases h0 : k = 0
              · exact .inl ⟨by omega, by simp; omega, trivial⟩
              · by_cases h9 : k = 9
                · exact .inr (.inr ⟨by omega, by simp; omega, by omega, by simp; omega⟩)
                · exact .inr (.inl ⟨by omega, by simp; omega, by simp; omega⟩)
            clear hF hc1 hf hgd hand
            have hcI : Hid (t[k] = c) := hcc
            rcases z with ⟨z1, z2, z3⟩ | ⟨z1, z2, z3⟩ | ⟨z1, z2, z3, z4⟩
            all_goals
              go_wp2
              go_loopg [6, 7] (k + 1) (fun gg a j wx => ∃ v : Nat, gg ≤ k + 1 ∧ j = .int .i64 ((gg : Int) - 1) ∧ a = .int .u64 v ∧ Hid (v = gv ((t.take (k + 1)).drop gg)) ∧ wx = wr)
              case atStart => exact ⟨0, by omega, by first | rfl | go_num | simp, rfl, (by show _ = _; rw [List.drop_eq_nil_of_le (by rw [hkl.out]; omega)]; rfl), rfl⟩
              case round =>
                obtain ⟨v, hgk, rfl, rfl, hv, rfl⟩ := hrel
                cases gk with
                | zero =>
                  have hE2 : Hid ((v : Int) = (gv (t.take (k + 1)) : Int)) := by show _ = _; rw [hv.out, List.drop_zero]
                  clear hv z1 z2 z3
                  go_wp2
                  go_ret3
                  exact ⟨.inl ⟨_, _, hE.out, ret_three hE2.out (by go_num) rfl⟩, rfl⟩
                | succ gg =>
                  have hgl : gg < (t.take (k + 1)).length := by rw [hkl.out]; omega
                  have hgt : gg < t.length := by omega
                  have hst := gv_at hgl
                  rw [List.getElem_take, ← hv.out] at hst
                  have hle := gv_drop_le (t.take (k + 1)) gg
                  have hu2 := hu.out
                  have hcg := hcells.out gg hgt
                  obtain ⟨d, hdd⟩ : ∃ d, Hid (t[gg] = d) := ⟨t[gg], (rfl : _ = _)⟩
                  rw [hdd.out] at hst hcg
                  have hdl := d.toNat_lt
                  have jj : (((gg + 1 : Nat) : Int) - 1) = (gg : Int) := by omega
                  have jg : (gg : Int) < (t.length : Int) := by omega
                  have jz : (0 : Int) ≤ (gg : Int) := by omega
                  have hb1 : v * 128 + d.toNat % 128 < 18446744073709551616 := by omega
                  have hst' : Hid (v * 128 + d.toNat % 128 = gv ((t.take (k + 1)).drop gg)) := by show _ = _; omega
                  rw [jj]
                  clear hst hle hv hdd z1 z2 z3 jj hgl hgt
                  go_wp2
                  go_roundg gg
                  case measure => omega
                  case rel => exact ⟨v * 128 + d.toNat % 128, by omega, by first | rfl | go_num, by first | rfl | go_num, hst', rfl⟩
        · rw [if_neg hc1] at hd
          have hE : Hid (fb t = (fb (t.drop (k + 1))).map (· + (k + 1))) := by show _ = _; rw [hsp.out, hd, map_map]
          have c128 : ¬ (c.toNat : Int) < 128 := by omega
          clear hsp hd hc h4 hcc hc1
          go_wp2
          go_roundg (gk - 1)
          case rel => exact ⟨k + 1, by omega, by go_num, hE, rfl⟩
          case measure => omega
      · have hE : Hid (tk t = none) := by
          refine tk_none_fb ?_
          rw [hsp.out, List.drop_eq_nil_of_le (by omega)]
          rfl
        have i1 : ¬ (k : Int) < (t.length : Int) := by omega
        clear hsp h4
        go_wp2
        go_ret3
        exact ⟨.inr ⟨hE.out, 11, by decide, rfl⟩, rfl⟩
end Go.Proofs.Ytbkpgppaahpalaa
