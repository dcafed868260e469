/-
  What the document's Text does.
-/
import Derived.Test.YtphkleiamlllgaaDoorText
import Derived.Laws.BytesArg
namespace Go.Proofs.YtphkleiamlllgaaDoor
open Go.RowKit

theorem cat_one (l : List UInt8) (c : UInt8) : (⟨(l ++ [c]).toArray⟩ : ByteArray) = ⟨l.toArray⟩ ++ strOfNums [(c.toNat : Int)] := by
  apply ByteArray.ext
  rw [ByteArray.data_append]
  simp [strOfNums]

/-- string of a new list of one byte. -/
theorem conv_one (wr : World) (c : UInt8) :
    (convert 31 9 (.slice (some ⟨wr.heap.size, 0, none⟩) 1 1)).run Tryd.prog (wr.alloc (.cells #[.int .u8 (48 + ((c.toNat : Int) - 48))] 5)) =
      .ok (.string (strOfNums [(c.toNat : Int)])) (wr.alloc (.cells #[.int .u8 (48 + ((c.toNat : Int) - 48))] 5)) := by
  refine run_convert_bytes_arg _ 31 5 Tryd.underlying31 Tryd.underlying5 wr.heap.size 0 1 1 [(c.toNat : Int)] rfl (fun i hi => ?_) 9 Tryd.underlying9
  obtain rfl : i = 0 := by omega
  rw [World.cell?_alloc_at _ _ _ _ rfl, show (48 : Int) + ((c.toNat : Int) - 48) = c.toNat by omega]
  rfl

set_option maxHeartbeats 2000000 in
theorem refText_neg (n : Int) (hn : fits n = true) (w : World) (hneg : n < 0) :
    Calls Tryd.prog 8 #[.int .i64 n] w fun e w' => e = .returned (.string ⟨(Lib.itoa n).toArray⟩) ∧ Below w.heap.size w w' := by
  have c1 := refDigits_told n hn w
  have hu : n.natAbs < 18446744073709551616 := by have := (fits_iff n).1 hn; omega
  have hlen := decI_le _ hu
  obtain ⟨cs, hcs⟩ : ∃ cs, Lib.decDigits n.natAbs = cs := ⟨_, rfl⟩
  have hdd : decI n.natAbs = cs.map fun c => (c.toNat : Int) - 48 := by unfold decI; rw [hcs]
  have hdig : ∀ c ∈ cs, isDig c = true := by rw [← hcs]; exact decDigits_dig _
  obtain ⟨ds, hds⟩ : ∃ ds, decI n.natAbs = ds := ⟨_, rfl⟩
  have hit : Lib.itoa n = 45 :: cs := by unfold Lib.itoa; rw [if_pos hneg, hcs]
  rw [hds] at c1 hdd hlen
  have hlc : ds.length = cs.length := by rw [hdd, List.length_map]
  have HI := Lib.hid hit
  have HDD := Lib.hid hdd
  have HDG := Lib.hid hdig
  clear hit hdd hdig hds hcs hu hn
  go_enter Tryd.func8, Tryd.ntmps8
  go_wp2_with (go_at_call 11; refine c1.mono ?_; rintro e w1 ⟨g, cap, rfl, hg, hc1, hb1⟩; clear c1)
  go_loopw [3, 5] (fun s i wr => ∃ k : Nat, k ≤ ds.length ∧ i = .int .i64 k ∧ s = .string ⟨(45 :: cs.take k).toArray⟩ ∧ Below w1.heap.size w1 wr)
    (fun _ i _ => ds.length - (intOf i).toNat)
  case atStart => exact ⟨0, Nat.zero_le _, rfl, rfl, Below.refl _ _⟩
  case round =>
    obtain ⟨k, hk, rfl, rfl, hbel⟩ := hrel
    by_cases hlt : k < ds.length
    · have hkc : k < cs.length := by omega
      have hcell : wr.cell? ⟨g, k, none⟩ = some (.int .i64 ((cs[k].toNat : Int) - 48)) := by
        have := (hbel.cell (p := ⟨g, 0 + k, none⟩) hg).trans (hc1 k hlt)
        rw [Nat.zero_add] at this
        rw [this, HDD.out]
        simp [List.getD, hkc]
      obtain ⟨d1, d2⟩ := isDig_yes (HDG.out cs[k] (List.getElem_mem hkc))
      have hcat := cat_one (45 :: cs.take k) cs[k]
      have HT : Hid ((45 :: cs.take k) ++ [cs[k]] = 45 :: cs.take (k + 1)) := by
        show _ ++ _ = _
        rw [List.take_succ_eq_append_getElem hkc]; first | rfl | simp
      have hsize : (⟨(45 :: cs.take k).toArray⟩ : ByteArray).size ≤ 22 := by
        show ((45 :: cs.take k).toArray).size ≤ 22
        have := List.length_take_le k cs
        simp; omega
      obtain ⟨c, hcc⟩ : ∃ c, cs[k] = c := ⟨_, rfl⟩
      rw [hcc] at hcell d1 d2 hcat HT
      have hconv := conv_one wr c
      obtain ⟨T, hT⟩ : ∃ T : ByteArray, strOfNums [(c.toNat : Int)] = T := ⟨_, rfl⟩
      rw [hT] at hconv hcat
      obtain ⟨S, hS⟩ : ∃ S : ByteArray, (⟨(45 :: cs.take k).toArray⟩ : ByteArray) = S := ⟨_, rfl⟩
      rw [hS] at hcat hsize
      have hTs : T.size = 1 := by rw [← hT]; rfl
      have hadd := fun w => run_string_add_sum (P := Tryd.prog) w S T (by omega)
      have HC := Lib.hid hcat
      have HB := Lib.hid (fun o => hbel.alloc (w := wr) hbel.size o)
      clear hc1 hcat hT hcc
      go_wp2
      go_roundw
      case rel => exact ⟨k + 1, by omega, by go_num, by rw [← HT.out, HC.out], HB.out _⟩
      case measure => simp [intOf]; omega
    · have hfull : cs.take k = cs := List.take_of_length_le (by omega)
      rw [hfull]
      clear hfull hc1
      go_wp2
      go_ret
      exact ⟨by rw [HI.out]; rfl, hb1.trans (hbel.mono hb1.size)⟩

set_option maxHeartbeats 2000000 in
theorem refText_not (n : Int) (hn : fits n = true) (w : World) (hneg : ¬ n < 0) :
    Calls Tryd.prog 8 #[.int .i64 n] w fun e w' => e = .returned (.string ⟨(Lib.itoa n).toArray⟩) ∧ Below w.heap.size w w' := by
  have c1 := refDigits_told n hn w
  have hu : n.natAbs < 18446744073709551616 := by have := (fits_iff n).1 hn; omega
  have hlen := decI_le _ hu
  obtain ⟨cs, hcs⟩ : ∃ cs, Lib.decDigits n.natAbs = cs := ⟨_, rfl⟩
  have hdd : decI n.natAbs = cs.map fun c => (c.toNat : Int) - 48 := by unfold decI; rw [hcs]
  have hdig : ∀ c ∈ cs, isDig c = true := by rw [← hcs]; exact decDigits_dig _
  obtain ⟨ds, hds⟩ : ∃ ds, decI n.natAbs = ds := ⟨_, rfl⟩
  have hit : Lib.itoa n = cs := by unfold Lib.itoa; rw [if_neg hneg, show n.toNat = n.natAbs by omega, hcs]
  rw [hds] at c1 hdd hlen
  have hlc : ds.length = cs.length := by rw [hdd, List.length_map]
  have HI := Lib.hid hit
  have HDD := Lib.hid hdd
  have HDG := Lib.hid hdig
  clear hit hdd hdig hds hcs hu hn
  go_enter Tryd.func8, Tryd.ntmps8
  go_wp2_with (go_at_call 11; refine c1.mono ?_; rintro e w1 ⟨g, cap, rfl, hg, hc1, hb1⟩; clear c1)
  go_loopw [3, 5] (fun s i wr => ∃ k : Nat, k ≤ ds.length ∧ i = .int .i64 k ∧ s = .string ⟨(cs.take k).toArray⟩ ∧ Below w1.heap.size w1 wr)
    (fun _ i _ => ds.length - (intOf i).toNat)
  case atStart => exact ⟨0, Nat.zero_le _, rfl, rfl, Below.refl _ _⟩
  case round =>
    obtain ⟨k, hk, rfl, rfl, hbel⟩ := hrel
    by_cases hlt : k < ds.length
    · have hkc : k < cs.length := by omega
      have hcell : wr.cell? ⟨g, k, none⟩ = some (.int .i64 ((cs[k].toNat : Int) - 48)) := by
        have := (hbel.cell (p := ⟨g, 0 + k, none⟩) hg).trans (hc1 k hlt)
        rw [Nat.zero_add] at this
        rw [this, HDD.out]
        simp [List.getD, hkc]
      obtain ⟨d1, d2⟩ := isDig_yes (HDG.out cs[k] (List.getElem_mem hkc))
      have hcat := cat_one (cs.take k) cs[k]
      have HT : Hid ((cs.take k) ++ [cs[k]] = cs.take (k + 1)) := by
        show _ ++ _ = _
        rw [List.take_succ_eq_append_getElem hkc]
      have hsize : (⟨(cs.take k).toArray⟩ : ByteArray).size ≤ 22 := by
        show ((cs.take k).toArray).size ≤ 22
        have := List.length_take_le k cs
        simp; omega
      obtain ⟨c, hcc⟩ : ∃ c, cs[k] = c := ⟨_, rfl⟩
      rw [hcc] at hcell d1 d2 hcat HT
      have hconv := conv_one wr c
      obtain ⟨T, hT⟩ : ∃ T : ByteArray, strOfNums [(c.toNat : Int)] = T := ⟨_, rfl⟩
      rw [hT] at hconv hcat
      obtain ⟨S, hS⟩ : ∃ S : ByteArray, (⟨(cs.take k).toArray⟩ : ByteArray) = S := ⟨_, rfl⟩
      rw [hS] at hcat hsize
      have hTs : T.size = 1 := by rw [← hT]; rfl
      have hadd := fun w => run_string_add_sum (P := Tryd.prog) w S T (by omega)
      have HC := Lib.hid hcat
      have HB := Lib.hid (fun o => hbel.alloc (w := wr) hbel.size o)
      clear hc1 hcat hT hcc
      go_wp2
      go_roundw
      case rel => exact ⟨k + 1, by omega, by go_num, by rw [← HT.out, HC.out], HB.out _⟩
      case measure => simp [intOf]; omega
    · have hfull : cs.take k = cs := List.take_of_length_le (by omega)
      rw [hfull]
      clear hfull hc1
      go_wp2
      go_ret
      exact ⟨by rw [HI.out]; rfl, hb1.trans (hbel.mono hb1.size)⟩

theorem refText_any (n : Int) (hn : fits n = true) (w : World) :
    Calls Tryd.prog 8 #[.int .i64 n] w fun e w' => e = .returned (.string ⟨(Lib.itoa n).toArray⟩) ∧ Below w.heap.size w w' := by
  by_cases h : n < 0
  · exact refText_neg n hn w h
  · exact refText_not n hn w h
end Go.Proofs.YtphkleiamlllgaaDoor
