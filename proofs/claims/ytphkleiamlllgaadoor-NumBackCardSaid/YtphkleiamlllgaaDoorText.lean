/-
  What Text and Digits of package num do.
-/
import Derived.Test.YtphkleiamlllgaaDoorDigits
import Derived.Lib.AppendIntMem
namespace Go.Proofs.YtphkleiamlllgaaDoor
open Go.RowKit

def TabOk (w : World) : Prop := Lib.TabIs Tryd.prog w "internal/strconv.uint64pow10" .u64 Lib.pow10Tab

set_option maxHeartbeats 400000 in
theorem numText_any (n : Int) (hn : fits n = true) (w : World) (ht : TabOk w) :
    Calls Tryd.prog 7 #[.int .i64 n] w fun e w' => e = .returned (.string ⟨(Lib.itoa n).toArray⟩) ∧ Below w.heap.size w w' := by
  obtain ⟨h0, h1⟩ := (fits_iff n).1 hn
  have c : Calls Tryd.prog 20 #[.int .i64 n, .int .i64 10] w fun e w' => e = .returned (.string ⟨(Lib.itoa n).toArray⟩) ∧ Below w.heap.size w w' :=
    (formatInt n h0 h1 w ht).mono fun e w' ⟨he, k, os, hw⟩ => ⟨he, by subst hw; exact Lib.below_grow _ w (Nat.le_refl _) k os⟩
  clear ht hn
  go_enter Tryd.func7, Tryd.ntmps7
  go_wp2_with (go_at_call 20; refine c.mono ?_; rintro e w1 ⟨rfl, hb1⟩)
  go_ret
  exact ⟨rfl, hb1⟩

/-- The digits are bytes from 48 to 57. -/
theorem decDigits_dig (u : Nat) : ∀ c ∈ Lib.decDigits u, isDig c = true := by
  rw [Lib.decDigits_eq]
  intro c hc
  obtain ⟨t, _, rfl⟩ := List.mem_map.1 hc
  unfold Lib.dg isDig
  have h : u / 10 ^ (Lib.nDigits u - 1 - t) % 10 < 10 := Nat.mod_lt _ (by omega)
  have e : (UInt8.ofNat (48 + u / 10 ^ (Lib.nDigits u - 1 - t) % 10)).toNat = 48 + u / 10 ^ (Lib.nDigits u - 1 - t) % 10 := by
    rw [UInt8.toNat_ofNat']; exact Nat.mod_eq_of_lt (by omega)
  rw [e]; simp; omega
theorem body_itoa (n : Int) : body (Lib.itoa n) = Lib.decDigits n.natAbs := by
  unfold Lib.itoa
  by_cases h : n < 0
  · rw [if_pos h]; rfl
  · rw [if_neg h, show n.toNat = n.natAbs by omega]
    have hd := decDigits_dig n.natAbs
    have hn : negl (Lib.decDigits n.natAbs) = false := by
      cases e : Lib.decDigits n.natAbs with
      | nil => rfl
      | cons c r =>
        rw [e] at hd
        have := isDig_yes (hd c (by simp))
        simp only [negl, decide_eq_false_iff_not]; omega
    unfold body; rw [hn]; rfl

/-- Of the digits the first k, and 0 for all others. -/
def filled (ds : List Int) (k : Nat) : List Value := (ds.take k).map (Value.int .i64) ++ List.replicate (ds.length - k) (Value.int .i64 0)
theorem filled_set (ds : List Int) (k : Nat) (h : k < ds.length) : (filled ds k).set k (.int .i64 (ds.getD k 0)) = filled ds (k + 1) := by
  unfold filled
  have e1 : ds.length - k = (ds.length - (k + 1)) + 1 := by omega
  rw [e1, List.replicate_succ, List.take_succ_eq_append_getElem h, List.map_append, List.set_append_right _ _ (by simp; omega)]
  simp [List.getD, h, Nat.min_eq_left (Nat.le_of_lt h)]
theorem filled_end (ds : List Int) : filled ds ds.length = ds.map (Value.int .i64) := by unfold filled; simp
theorem made_zeros (n : Nat) : (madeCells #[Value.int .i64 0] n).toList = List.replicate n (Value.int .i64 0) := by
  unfold madeCells
  apply List.ext_getElem
  · simp
  · intro i h1 h2
    simp [Nat.mod_one]

set_option maxHeartbeats 2000000 in
theorem numDigits_told (n : Int) (hn : fits n = true) (w : World) (ht : TabOk w) :
    Calls Tryd.prog 10 #[.int .i64 n] w fun e w' => ∃ g, e = .returned (.slice (some ⟨g, 0, none⟩) (decI n.natAbs).length (decI n.natAbs).length) ∧ g < w'.heap.size ∧
      (∀ i, i < (decI n.natAbs).length → w'.cell? ⟨g, 0 + i, none⟩ = some (.int .i64 ((decI n.natAbs).getD i 0))) ∧ Below w.heap.size w w' := by
  obtain ⟨i0, hi, hz0, hz1, hz2⟩ := info_parts info3
  have c1 := numText_any n hn w ht
  have c2 := trim45 ⟨(Lib.itoa n).toArray⟩
  rw [show (⟨(Lib.itoa n).toArray⟩ : ByteArray).data.toList = Lib.itoa n from rfl, body_itoa] at c2
  have hu : n.natAbs < 18446744073709551616 := by have := (fits_iff n).1 hn; omega
  have hlen := decI_le _ hu
  obtain ⟨t, htt⟩ : ∃ t : ByteArray, (⟨(Lib.decDigits n.natAbs).toArray⟩ : ByteArray) = t := ⟨_, rfl⟩
  have htl : t.data.toList = Lib.decDigits n.natAbs := by rw [← htt]
  have hds : ∀ i (h : i < t.size), (decI n.natAbs).getD i 0 = (t[i].toNat : Int) - 48 ∧ isDig t[i] = true := fun i h => by
    have e : t[i] = t.data.toList[i]'(by rw [← size_len]; exact h) := rfl
    have hm : t[i] ∈ Lib.decDigits n.natAbs := by rw [← htl]; exact mem_at t i h
    refine ⟨?_, decDigits_dig _ _ hm⟩
    unfold decI
    rw [List.getD_eq_getElem?_getD, List.getElem?_map, ← htl, List.getElem?_eq_getElem (by rw [← size_len]; exact h), e]
    rfl
  have hsz : t.size = (decI n.natAbs).length := by rw [size_len, htl]; unfold decI; rw [List.length_map]
  obtain ⟨ds, hdd⟩ : ∃ ds, decI n.natAbs = ds := ⟨_, rfl⟩
  rw [htt] at c2
  rw [hdd] at hds hsz hlen ⊢
  have HD := Lib.hid hds
  clear hdd htt htl hds ht hn hu
  have hszi : (t.size : Int) ≤ 20 := by omega
  go_enter Tryd.func10, Tryd.ntmps10
  go_wp2_with (first
    | (go_at_call 7; refine c1.mono ?_; rintro e w1 ⟨rfl, hb1⟩; clear c1)
    | (go_at_call 21; refine (c2 _).mono ?_; rintro e w' ⟨rfl, rfl⟩; clear c2)
    | (at_make; refine wpList_make_full _ rfl _ _ 27 rfl w.heap.size 3 i0 (.int .i64 0) 1 Tryd.underlying27 hi hz0 hz1 _ _ _ _ t.size rfl rfl (by omega) (by omega) (by rw [hz2]; omega) (by unfold maxLen; omega) (by have := hb1.size; omega) ?_))
  intro w2 hown2 hgrow2
  have hB2 : Below w.heap.size w w2 := hb1.grown hgrow2 (by have := hb1.size; omega) (fun k e => by cases e)
  rw [made_zeros, show List.replicate ds.length (Value.int .i64 0) = filled ds 0 by unfold filled; simp] at hown2
  have hg : w.heap.size ≤ w'.heap.size := hb1.size
  clear hgrow2
  go_wp2
  go_loopw [14] (fun i wr => ∃ k : Nat, k ≤ ds.length ∧ i = .int .i64 k ∧ wr.ownsRow w.heap.size 3 1 (.slice (some ⟨w'.heap.size, 0, none⟩) ds.length ds.length) ds.length (filled ds k) ∧ Below w.heap.size w wr)
    (fun i _ => ds.length - (intOf i).toNat)
  case atStart => exact ⟨0, Nat.zero_le _, rfl, hown2, hB2⟩
  case round =>
    clear hown2 hB2 hb1
    obtain ⟨k, hk, rfl, hown, hbel⟩ := hrel
    by_cases hlt : k < ds.length
    · obtain ⟨hd1, hd2⟩ := HD.out k (by omega)
      obtain ⟨d1, d2⟩ := isDig_yes hd2
      have hkt : k < t.size := by omega
      obtain ⟨x, hx⟩ : ∃ x : Value, wr.cell? ⟨w'.heap.size, k, none⟩ = some x := by
        rw [hown.cellAt k (by omega)]
        have : k < (filled ds k).length := by unfold filled; simp; omega
        exact ⟨_, List.getElem?_eq_getElem this⟩
      have hfz := hown.frozenAt k
      have HST := Lib.hid (hown.stored k (.int .i64 (ds.getD k 0)))
      have HSet := Lib.hid (filled_set ds k hlt)
      have HB := Lib.hid (fun v => hbel.setCell (p := ⟨w'.heap.size, k, none⟩) hg v)
      have HX := Lib.hid hd1
      clear hown hbel hd1 hd2 HD
      go_wp2
      go_roundw
      case rel => exact ⟨k + 1, by omega, by go_num, by rw [← HX.out, ← HSet.out]; exact HST.out.1, HB.out _⟩
      case measure => simp [intOf]; omega
    · have e1 : k = ds.length := by omega
      subst e1
      rw [filled_end] at hown
      have hcells : ∀ i, i < ds.length → wr.cell? ⟨w'.heap.size, 0 + i, none⟩ = some (.int .i64 (ds.getD i 0)) := fun i h => by
        rw [Nat.zero_add, hown.cellAt i (by omega)]
        simp [List.getD, h]
      have hlt' := (hown.lt w'.heap.size rfl).2
      have HC := Lib.hid hcells
      clear hown hcells HD
      go_wp2
      go_ret
      exact ⟨_, rfl, hlt', HC.out, hbel⟩
end Go.Proofs.YtphkleiamlllgaaDoor
