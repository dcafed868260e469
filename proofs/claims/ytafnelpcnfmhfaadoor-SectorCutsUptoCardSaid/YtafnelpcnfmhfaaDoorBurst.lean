/-
  What Burst does: bits that are turned in what stays.
-/
import Derived.Test.YtafnelpcnfmhfaaDoorFlush
import Derived.Test.YtafnelpcnfmhfaaDoorBits
import Derived.Deep.LoopGhost
import Derived.Deep.RegionHeld3
namespace Go.Proofs.YtafnelpcnfmhfaaDoor
open Go.RowKit Go.Maps
set_option linter.unusedVariables false      -- a walk need not use every condition

/-- The byte of a place, where its bit is turned if v is odd. -/
def turnC (l : List UInt8) (p v : Nat) : UInt8 := UInt8.ofNat ((l.getD (p / 8) 0).toNat ^^^ (v % 2 * 2 ^ (p % 8)))
def turn1 (l : List UInt8) (p v : Nat) : List UInt8 := l.set (p / 8) (turnC l p v)
theorem turn1_len (l : List UInt8) (p v : Nat) : (turn1 l p v).length = l.length := by simp [turn1]
def burstL (l : List UInt8) (p v : Nat) : List UInt8 :=
  if h : v = 0 ∨ 1024 ≤ p then l else burstL (turn1 l p v) (p + 1) (v / 2)
  termination_by 1024 - p
theorem burstL_end {l : List UInt8} {p v : Nat} (h : v = 0 ∨ 1024 ≤ p) : burstL l p v = l := by rw [burstL, dif_pos h]
theorem burstL_on {l : List UInt8} {p v : Nat} (h0 : v ≠ 0) (h : p < 1024) : burstL l p v = burstL (turn1 l p v) (p + 1) (v / 2) := by
  rw [burstL, dif_neg (by omega)]
theorem burstL_len (l : List UInt8) (p v : Nat) : (burstL l p v).length = l.length := by
  induction l, p, v using burstL.induct with
  | case1 l p v h => rw [burstL_end h]
  | case2 l p v h ih => rw [burstL, dif_neg h, ih, turn1_len]
def Dsk.burst (s : Dsk) (n at_ : Int) (v : Nat) : Int × Dsk :=
  if s.hasB n = false then (41, s) else if at_ < 0 ∨ 1024 ≤ at_ then (1, s) else (0, { s with st := upd s.st n.toNat (burstL (s.st n.toNat) at_.toNat v) })

theorem upd_upd {α : Type} (f : Nat → α) (k : Nat) (x y : α) : upd (upd f k x) k y = upd f k y := by
  funext j; unfold upd; split <;> rfl
theorem upd_self {α : Type} (f : Nat → α) (k : Nat) : upd f k (f k) = f := by
  funext j; unfold upd; split
  · subst_vars; rfl
  · rfl
/-- One byte of a place is written. -/
theorem At.byte {w : World} {d pb mb k j : Nat} {s : Dsk} (h : At w d pb mb s) (hk : k < s.N) (hj : j < 128) (c : UInt8) :
    At (w.setCell ⟨pb, k * 129 + j, none⟩ (.int .u8 c.toNat)) d pb mb { s with st := upd s.st k ((s.st k).set j c) } := by
  have l := h.lts
  have hg := gr_set w pb (k * 129 + j) (.int .u8 c.toNat)
  have hd := hg.block _ l.1 (fun e => h.ne (by injection e))
  have hm := hg.block _ l.2.2.1 (fun e => l.2.2.2.2 (by injection e))
  have ht := h.th (k * 129 + j) (by omega)
  rw [Nat.zero_add] at ht
  refine ⟨hd.trans h.blk, h.ne, h.pos, h.top, fun i hi => ?_, fun i hi => ?_, ?_, ?_, h.fu, h.cl⟩
  · intro a v hv
    have ha : a < 129 := by
      have := (List.getElem?_eq_some_iff.1 hv).1
      rw [len_plc] at this
      · exact this
      · show (upd s.st k ((s.st k).set j c) i).length = 128
        unfold upd
        split
        · rw [List.length_set]; exact h.sl k hk
        · exact h.sl i hi
    by_cases e : i = k ∧ a = j
    · obtain ⟨rfl, rfl⟩ := e
      rw [World.cell?_setCell_same' _ _ _ ht.1]
      replace hv : (plc (upd s.st i ((s.st i).set a c) i) (s.tn i))[a]? = some v := hv
      rw [upd_same] at hv
      have hl : a < ((s.st i).set a c).length := by rw [List.length_set, h.sl i hi]; exact hj
      unfold plc enc at hv
      rw [List.getElem?_append_left (by rw [List.length_map]; exact hl), List.getElem?_map, List.getElem?_eq_getElem hl, List.getElem_set_self] at hv
      exact hv
    · rw [World.cell?_setCell_other _ _ _ _ (fun e2 => e (by injection e2 with _ e2; omega))]
      refine h.pl i hi a v ?_
      rw [← hv]
      show (plc (s.st i) (s.tn i))[a]? = (plc (upd s.st k ((s.st k).set j c) i) (s.tn i))[a]?
      by_cases e1 : i = k
      · subst e1
        rw [upd_same]
        unfold plc enc
        have hne : a ≠ j := fun e2 => e ⟨rfl, e2⟩
        rw [List.map_set]
        by_cases ha2 : a < 128
        · rw [List.getElem?_append_left (by rw [List.length_map, h.sl i hi]; exact ha2), List.getElem?_append_left (by rw [List.length_set, List.length_map, h.sl i hi]; exact ha2), List.getElem?_set_ne (fun e => hne e.symm)]
        · rw [List.getElem?_append_right (by rw [List.length_map, h.sl i hi]; omega), List.getElem?_append_right (by rw [List.length_set, List.length_map, h.sl i hi]; omega), List.length_set]
      · rw [upd_other _ _ e1]
  · show (upd s.st k ((s.st k).set j c) i).length = 128
    unfold upd
    split
    · rw [List.length_set]; exact h.sl k hk
    · exact h.sl i hi
  · exact World.there_setCells h.th pb (k * 129 + j) [.int .u8 c.toNat]
  · obtain ⟨n, D, ⟨es, ck, hmb, r⟩, ht⟩ := h.own
    exact ⟨n, D, ⟨es, ck, hm.trans hmb, r⟩, ht⟩
theorem cell_place {w : World} {d pb mb k j : Nat} {s : Dsk} (h : At w d pb mb s) (hk : k < s.N) (hj : j < 128) : w.cell? ⟨pb, k * 129 + j, none⟩ = some (.int .u8 ((s.st k).getD j 0).toNat) := by
  refine h.pl k hk j _ ?_
  have hl := h.sl k hk
  unfold plc enc
  rw [List.getElem?_append_left (by rw [List.length_map, hl]; exact hj), List.getElem?_map, List.getD_eq_getElem?_getD, List.getElem?_eq_getElem (by omega)]
  rfl
theorem burstL_step {l cur : List UInt8} {p v p0 v0 : Nat} (h : burstL cur p v = burstL l p0 v0) (h0 : v ≠ 0) (hp : p < 1024) : burstL (turn1 cur p v) (p + 1) (v / 2) = burstL l p0 v0 := by rw [← h, burstL_on h0 hp]

theorem turn_val (l : List UInt8) (p v : Nat) (hv : v < 4294967296) : bits .xor .u8 ((l[p / 8]?.getD 0).toNat : Int) (bits .and .u32 (v : Int) 1 % 256 * 2 ^ (p % 8) % 256) = ((turnC l p v).toNat : Int) := by
  have h2 : v % 2 * 2 ^ (p % 8) < 256 := by
    have h8 : p % 8 < 8 := Nat.mod_lt _ (by decide)
    have : 2 ^ (p % 8) ≤ 2 ^ 7 := Nat.pow_le_pow_right (by decide) (by omega)
    rcases Nat.mod_two_eq_zero_or_one v with h | h <;> rw [h] <;> omega
  have e : bits .and .u32 (v : Int) 1 % 256 * 2 ^ (p % 8) % 256 = ((v % 2 * 2 ^ (p % 8) : Nat) : Int) := by
    rw [and_one32 hv, show ((v % 2 : Nat) : Int) % 256 = ((v % 2 : Nat) : Int) by omega, show ((v % 2 : Nat) : Int) * 2 ^ (p % 8) = ((v % 2 * 2 ^ (p % 8) : Nat) : Int) by simp]
    omega
  rw [e, xor_u8 (UInt8.toNat_lt _) h2]
  unfold turnC
  rw [List.getD_eq_getElem?_getD, UInt8.toNat_ofNat_of_lt' (Nat.xor_lt_two_pow (n := 8) (UInt8.toNat_lt _) h2)]

set_option maxHeartbeats 1600000 in
set_option maxRecDepth 100000 in
theorem burst_ok (w : World) (d pb mb : Nat) (s : Dsk) (h : At w d pb mb s) (k p0 v0 : Nat) (hk : k < s.N) (hp0 : p0 < 1024) (hv0 : v0 < 4294967296) :
    Calls Tryd.prog 22 #[.pointer (some ⟨d, 0, none⟩), .int .i64 k, .int .i64 p0, .int .u32 v0] w fun e w' => e = .returned (.int .i64 0) ∧ At w' d pb mb { s with st := upd s.st k (burstL (s.st k) p0 v0) } ∧ Kept d pb mb w w' := by
  have c1 := made43 w d pb mb s h
  have c2 := has44 w d pb mb s h k
  obtain ⟨p0c, -, -, -, -, -⟩ := five_of h.blk
  have hkz : (0 : Int) ≤ (k : Int) := by omega
  have hkNz : (k : Int) < (s.N : Int) := by omega
  have hpz : ¬ (p0 : Int) < 0 := by omega
  have hpz2 : ¬ (1024 : Int) ≤ (p0 : Int) := by omega
  have hb : s.hasB k = true := by simp [Dsk.hasB, hk]
  rw [hb] at c2
  have tp := there_place h hk
  have H : Hid (At w d pb mb s) := h
  clear h
  go_enter Tryd.func22, Tryd.ntmps22
  go_wp2_with (first | (go_at_call 43; refine c1.mono ?_; rintro e w' ⟨rfl, ew⟩; rw [ew]; clear ew w') | (go_at_call 44; refine c2.mono ?_; rintro e w' ⟨rfl, ew⟩; rw [ew]; clear ew w'))
  go_loopg [2, 3] (1024 - p0) (fun g s2 s3 wr => ∃ (p v : Nat) (cur : List UInt8), p + g = 1024 ∧ v < 4294967296 ∧ s2 = .int .i64 p ∧ s3 = .int .u32 v ∧ burstL cur p v = burstL (s.st k) p0 v0 ∧ At wr d pb mb { s with st := upd s.st k cur } ∧ Kept d pb mb w wr)
  case atStart =>
    refine ⟨p0, v0, s.st k, ?_, hv0, rfl, rfl, rfl, ?_, Kept.refl _ _ _ _⟩
    · omega
    · rw [upd_self]; exact H.out
  case round =>
    obtain ⟨p, v, cur, hpg, hv, rfl, rfl, hcur, hA, hK⟩ := hrel
    by_cases hve : v = 0
    · subst hve
      rw [burstL_end (.inl rfl)] at hcur
      subst hcur
      have HA : Hid (At wr d pb mb { s with st := upd s.st k (burstL (s.st k) p0 v0) }) := hA
      have HK : Hid (Kept d pb mb w wr) := hK
      clear hA hK
      go_wp2
      go_ret
      exact ⟨rfl, HA.out, HK.out⟩
    · cases gk with
      | zero =>
        obtain rfl : p = 1024 := by omega
        rw [burstL_end (.inr (Nat.le_refl _))] at hcur
        subst hcur
        have HA : Hid (At wr d pb mb { s with st := upd s.st k (burstL (s.st k) p0 v0) }) := hA
        have HK : Hid (Kept d pb mb w wr) := hK
        have hvz : ¬ (v : Int) = 0 := by omega
        clear hA hK
        go_wp2
        go_ret
        exact ⟨rfl, HA.out, HK.out⟩
      | succ g =>
        have hp : p < 1024 := by omega
        have hj : p / 8 < 128 := by omega
        have hc := cell_place hA hk hj
        have hB := At.byte hA hk hj (turnC cur p v)
        have hvz : ¬ (v : Int) = 0 := by omega
        have hpz : (p : Int) < 1024 := by omega
        have hpz0 : (0 : Int) ≤ (p : Int) := by omega
        have HA : Hid (At wr d pb mb { s with st := upd s.st k cur }) := hA
        have HB : Hid (At (wr.setCell ⟨pb, k * 129 + p / 8, none⟩ (.int .u8 (turnC cur p v).toNat)) d pb mb { s with st := upd s.st k (turn1 cur p v) }) := by
          simp only [upd_same, upd_upd] at hB
          exact hB
        have HK : Hid (Kept d pb mb w wr) := hK
        clear hA hB hK
        simp only [upd_same] at hc
        have hq : Int.tdiv (p : Int) 8 = ((p / 8 : Nat) : Int) := by rw [Int.tdiv_eq_ediv_of_nonneg hpz0]; rfl
        have hr : Int.tmod (p : Int) 8 = ((p % 8 : Nat) : Int) := by rw [Int.tmod_eq_emod_of_nonneg hpz0]; rfl
        have hjz : ((p / 8 : Nat) : Int) < 128 := by omega
        have hjz0 : (0 : Int) ≤ ((p / 8 : Nat) : Int) := by omega
        have htp : wr.frozen? ⟨pb, k * 129 + p / 8, none⟩ = false := (there_place HA.out hk (p / 8) (by omega)).2
        go_wp2
        go_region
        rw [turn_val cur p v hv]
        go_wp2
        go_roundg g
        case measure => omega
        case rel =>
          refine ⟨p + 1, v / 2, turn1 cur p v, by omega, by omega, ?_, ?_, burstL_step hcur hve hp, HB.out.drew, HK.out.trans ?_⟩
          · simp
          · simp
          · have hg := gr_set wr pb (k * 129 + p / 8) (.int .u8 (turnC cur p v).toNat)
            have hK2 : Kept d pb mb wr (wr.setCell ⟨pb, k * 129 + p / 8, none⟩ (.int .u8 (turnC cur p v).toNat)) := Kept.grown hg (fun k e => by injection e with e; exact .inr (.inl e.symm))
            exact ⟨hK2.os, hK2.tape, hK2.output, hK2.size, hK2.block⟩
theorem burst22 (w : World) (d pb mb : Nat) (s : Dsk) (h : At w d pb mb s) (n a : Int) (v : Nat) (hv : v < 4294967296) :
    Calls Tryd.prog 22 #[.pointer (some ⟨d, 0, none⟩), .int .i64 n, .int .i64 a, .int .u32 v] w fun e w' => e = .returned (.int .i64 (s.burst n a v).1) ∧ At w' d pb mb (s.burst n a v).2 ∧ Kept d pb mb w w' := by
  have c1 := made43 w d pb mb s h
  have c2 := has44 w d pb mb s h n
  unfold Dsk.burst
  by_cases hb : s.hasB n = false
  · rw [if_pos hb]
    rw [hb] at c2
    have H : Hid (At w d pb mb s) := h
    clear h
    go_enter Tryd.func22, Tryd.ntmps22
    go_wp2_with (first | (go_at_call 43; refine c1.mono ?_; rintro e w' ⟨rfl, ew⟩; rw [ew]; clear ew w') | (go_at_call 44; refine c2.mono ?_; rintro e w' ⟨rfl, ew⟩; rw [ew]; clear ew w'))
    go_ret
    exact ⟨rfl, H.out, Kept.refl _ _ _ _⟩
  · rw [if_neg hb]
    have hb2 : s.hasB n = true := by simpa using hb
    by_cases ha : a < 0 ∨ 1024 ≤ a
    · rw [if_pos ha]
      rw [hb2] at c2
      have H : Hid (At w d pb mb s) := h
      clear h hb
      by_cases ha0 : a < 0
      · go_enter Tryd.func22, Tryd.ntmps22
        go_wp2_with (first | (go_at_call 43; refine c1.mono ?_; rintro e w' ⟨rfl, ew⟩; rw [ew]; clear ew w') | (go_at_call 44; refine c2.mono ?_; rintro e w' ⟨rfl, ew⟩; rw [ew]; clear ew w'))
        go_ret
        exact ⟨rfl, H.out, Kept.refl _ _ _ _⟩
      · have ha1 : 1024 ≤ a := by omega
        have ha2 : ¬ a < 1024 := by omega
        go_enter Tryd.func22, Tryd.ntmps22
        go_wp2_with (first | (go_at_call 43; refine c1.mono ?_; rintro e w' ⟨rfl, ew⟩; rw [ew]; clear ew w') | (go_at_call 44; refine c2.mono ?_; rintro e w' ⟨rfl, ew⟩; rw [ew]; clear ew w'))
        go_ret
        exact ⟨rfl, H.out, Kept.refl _ _ _ _⟩
    · rw [if_neg ha]
      simp only [Dsk.hasB, Bool.and_eq_true, decide_eq_true_eq] at hb2
      obtain ⟨k, rfl⟩ : ∃ k : Nat, n = k := ⟨n.toNat, by omega⟩
      obtain ⟨p, rfl⟩ : ∃ p : Nat, a = p := ⟨a.toNat, by omega⟩
      exact burst_ok w d pb mb s h k p v (by omega) (by omega) hv
end Go.Proofs.YtafnelpcnfmhfaaDoor
