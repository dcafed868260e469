/-
  Bits of numbers of 8 and 32 bits, as on natural numbers. No walk.
  What Sum of package sector does: the sum of bytes, four bits at a time by a table that lies in memory.
  What the shells of layer 7 share: the table that is listed, the witness's heap.
  The small functions of package disk: made, has, ready, reach, call, Down, Calls, SetFuse.
  A call that is counted, and the fuse.
-/
import Derived.WalkKit
import Derived.Test.YtfakgfmgofblgaaGreatDoorZDskFillBsCrcCrcB
import Derived.Lib.LaidTab
import Derived.Lib.SmallJoins
import Derived.Test.YtfakgfmgofblgaaGreatDoorRows
import Derived.Test.YtfakgfmgofblgaaGreatDoorTie
import Derived.Test.YtfakgfmgofblgaaGreatDoorCards
import Derived.Stop.LaidErr
import Derived.LaidMore
import Derived.MakeChecks
import Derived.SevenTiedAt
import Derived.Stop.Joined
import Derived.ChangeArms
import Derived.ChangeSlices
import Derived.SizedLaws
import Derived.ProofKit
import Derived.OpenShut
namespace Go.Proofs.YtfakgfmgofblgaaGreatDoor
open Go.RowKit

theorem ofInt_toNat (n a : Nat) (h : a < 2 ^ n) : (BitVec.ofInt n (a : Int)).toNat = a := by
  rw [BitVec.toNat_ofInt, ← Int.natCast_emod, Int.toNat_natCast]
  exact Nat.mod_eq_of_lt h
theorem wrap_u8 {x : Nat} (h : x < 256) : IntKind.u8.wrap (x : Int) = x := by
  simp [IntKind.wrap, IntKind.signed, IntKind.bits]; omega
theorem wrap_u32 {x : Nat} (h : x < 4294967296) : IntKind.u32.wrap (x : Int) = x := by
  simp [IntKind.wrap, IntKind.signed, IntKind.bits]; omega
theorem xor_u8 {a b : Nat} (ha : a < 256) (hb : b < 256) : bits .xor .u8 (a : Int) (b : Int) = ((a ^^^ b : Nat) : Int) := by
  have e : bits .xor .u8 (a : Int) (b : Int) = IntKind.u8.wrap ((BitVec.ofInt 8 (a : Int) ^^^ BitVec.ofInt 8 (b : Int)).toNat : Int) := rfl
  rw [e, BitVec.toNat_xor, ofInt_toNat 8 a ha, ofInt_toNat 8 b hb]
  exact wrap_u8 (Nat.xor_lt_two_pow (n := 8) ha hb)
theorem xor_u32 {a b : Nat} (ha : a < 4294967296) (hb : b < 4294967296) : bits .xor .u32 (a : Int) (b : Int) = ((a ^^^ b : Nat) : Int) := by
  have e : bits .xor .u32 (a : Int) (b : Int) = IntKind.u32.wrap ((BitVec.ofInt 32 (a : Int) ^^^ BitVec.ofInt 32 (b : Int)).toNat : Int) := rfl
  rw [e, BitVec.toNat_xor, ofInt_toNat 32 a ha, ofInt_toNat 32 b hb]
  exact wrap_u32 (Nat.xor_lt_two_pow (n := 32) ha hb)
theorem and_u8 {a b : Nat} (ha : a < 256) (hb : b < 256) : bits .and .u8 (a : Int) (b : Int) = ((a &&& b : Nat) : Int) := by
  have e : bits .and .u8 (a : Int) (b : Int) = IntKind.u8.wrap ((BitVec.ofInt 8 (a : Int) &&& BitVec.ofInt 8 (b : Int)).toNat : Int) := rfl
  rw [e, BitVec.toNat_and, ofInt_toNat 8 a ha, ofInt_toNat 8 b hb]
  exact wrap_u8 (Nat.and_lt_two_pow (n := 8) a hb)
theorem and_u32 {a b : Nat} (ha : a < 4294967296) (hb : b < 4294967296) : bits .and .u32 (a : Int) (b : Int) = ((a &&& b : Nat) : Int) := by
  have e : bits .and .u32 (a : Int) (b : Int) = IntKind.u32.wrap ((BitVec.ofInt 32 (a : Int) &&& BitVec.ofInt 32 (b : Int)).toNat : Int) := rfl
  rw [e, BitVec.toNat_and, ofInt_toNat 32 a ha, ofInt_toNat 32 b hb]
  exact wrap_u32 (Nat.and_lt_two_pow (n := 32) a hb)
theorem or_u8 {a b : Nat} (ha : a < 256) (hb : b < 256) : bits .or .u8 (a : Int) (b : Int) = ((a ||| b : Nat) : Int) := by
  have e : bits .or .u8 (a : Int) (b : Int) = IntKind.u8.wrap ((BitVec.ofInt 8 (a : Int) ||| BitVec.ofInt 8 (b : Int)).toNat : Int) := rfl
  rw [e, BitVec.toNat_or, ofInt_toNat 8 a ha, ofInt_toNat 8 b hb]
  exact wrap_u8 (Nat.or_lt_two_pow (n := 8) ha hb)
theorem or_u32 {a b : Nat} (ha : a < 4294967296) (hb : b < 4294967296) : bits .or .u32 (a : Int) (b : Int) = ((a ||| b : Nat) : Int) := by
  have e : bits .or .u32 (a : Int) (b : Int) = IntKind.u32.wrap ((BitVec.ofInt 32 (a : Int) ||| BitVec.ofInt 32 (b : Int)).toNat : Int) := rfl
  rw [e, BitVec.toNat_or, ofInt_toNat 32 a ha, ofInt_toNat 32 b hb]
  exact wrap_u32 (Nat.or_lt_two_pow (n := 32) ha hb)
theorem and_one32 {a : Nat} (ha : a < 4294967296) : bits .and .u32 (a : Int) 1 = ((a % 2 : Nat) : Int) := by
  have := and_u32 (b := 1) ha (by decide)
  rw [Nat.and_one_is_mod] at this
  exact this
end Go.Proofs.YtfakgfmgofblgaaGreatDoor
namespace Go.Proofs.YtfakgfmgofblgaaGreatDoor
open Go.RowKit
set_option linter.unusedVariables false      -- a walk need not use every condition

def nat8 (l : List UInt8) : List Nat := l.map UInt8.toNat
theorem nat8_lt (l : List UInt8) : ∀ c ∈ nat8 l, c < 256 := by
  intro c hc
  obtain ⟨x, -, rfl⟩ := List.mem_map.1 hc
  exact UInt8.toNat_lt x
def fours : List Nat := [0, 498536548, 997073096, 651767980, 1994146192, 1802195444, 1303535960, 1342533948, 3988292384, 4027552580, 3604390888, 3412177804, 2607071920, 2262029012, 2685067896, 3183342108]
def foursI : List Int := fours.map fun (n : Nat) => (n : Int)
theorem gFours : Tryz.prog.globalNamed "ramble/sector.fours" = some 0 := by kernel_rfl
/-- The table lies in memory. -/
def TabOk (w : World) : Prop := Lib.TabIs Tryz.prog w "ramble/sector.fours" .u32 foursI
theorem tab_on {w w' : World} (h : TabOk w) (hb : Below w.heap.size w w') : TabOk w' := Go.Joins.tab_stays gFours h hb (Nat.le_refl _)
theorem four_czn : ∀ i, i < 16 → fours.getD i 0 = czn 4 i := by decide
theorem czn4_lt {x : Nat} (h : x < 4294967296) : czn 4 x < 4294967296 := by
  unfold czn czn czn czn czn
  exact cz_lt (cz_lt (cz_lt (cz_lt h)))
/-- Four bits by the table. -/
theorem czn4 (x : Nat) : czn 4 x = (x / 16) ^^^ fours.getD (x % 16) 0 := by
  rw [four_czn (x % 16) (Nat.mod_lt _ (by decide))]
  have e : czn 4 x = czn 4 (x % 2 ^ 4 ^^^ 2 ^ 4 * (x / 2 ^ 4)) := congrArg (czn 4) (low_high x 4)
  rw [e, czn_xor, czn_pow, Nat.xor_comm]
theorem cbyte_two (r c : Nat) : cbyte r c = czn 4 (czn 4 (r ^^^ c)) := by
  unfold cbyte
  rw [← czn_add 4 4]
theorem tab_cell {w : World} (h : TabOk w) {i : Nat} (hi : i < 16) : w.cell? ⟨0, i, none⟩ = some (.int .u32 (fours.getD i 0 : Nat)) := by
  have := Lib.TabIs.cell h gFours i (by simpa [foursI, fours] using hi)
  rw [this]
  congr 2
  unfold foursI
  have : i < fours.length := by simpa [fours] using hi
  simp [this]
theorem four_lt {i : Nat} (hi : i < 16) : fours.getD i 0 < 4294967296 := by
  rw [four_czn i hi]; exact czn4_lt (by omega)
theorem and15 {a : Nat} (ha : a < 4294967296) : bits .and .u32 (a : Int) 15 = ((a % 16 : Nat) : Int) := by
  have := and_u32 (b := 15) ha (by decide)
  rw [show (15 : Nat) = 2 ^ 4 - 1 from rfl, Nat.and_two_pow_sub_one_eq_mod] at this
  exact this
theorem max32 : IntKind.u32.max = ((4294967295 : Nat) : Int) := by decide
set_option maxHeartbeats 1600000 in
theorem sum198 (w : World) (v : Value) (t : List UInt8) (hv : Bs w v t) (hT : TabOk w) :
    Calls Tryz.prog 198 #[v] w fun e w' => e = .returned (.int .u32 (csum (nat8 t) : Nat)) ∧ w' = w := by
  obtain ⟨p, cap, rfl, h1, h2, h3, h4⟩ := hv
  have hlen : (t.length : Int) ≤ 9223372036854775807 := by unfold maxLen at h2; omega
  obtain ⟨S, hS⟩ : ∃ S, csum (nat8 t) = S := ⟨_, rfl⟩
  rw [hS]
  have HS : Hid (csum (nat8 t) = S) := hS
  clear hS
  go_enter Tryz.func198, Tryz.ntmps198
  go_wp2
  go_loopg [3, 8] t.length (fun g s3 s8 wr => ∃ (i r : Nat), i + g = t.length ∧ r < 4294967296 ∧ s8 = .int .i64 i ∧ s3 = .int .u32 r ∧ Hid (crem r (nat8 (t.drop i)) = crem 4294967295 (nat8 t)) ∧ wr = w)
  case atStart => exact ⟨0, 4294967295, by omega, by decide, rfl, rfl, rfl, rfl⟩
  case round =>
    obtain ⟨i, r, hig, hr, rfl, rfl, hrem, rfl⟩ := hrel
    cases gk with
    | zero =>
      obtain rfl : i = t.length := by omega
      have e : Hid (S = 4294967295 ^^^ r) := by
        have := hrem.out
        rw [List.drop_length] at this
        rw [← HS.out]
        unfold csum; rw [← this]; rfl
      have hx := xor_u32 (a := 4294967295) (b := r) (by decide) hr
      go_wp2
      all_goals first | (exfalso; revert h; decide) | skip
      go_ret
      exact ⟨by show Ending.returned (Value.int .u32 (bits .xor .u32 IntKind.u32.max r)) = _; rw [max32, hx, e.out], rfl⟩
    | succ g =>
      have hi : i < t.length := by omega
      have hiz : (i : Int) < (t.length : Int) := by omega
      obtain ⟨g0, o, rfl, hc⟩ : ∃ g0 o, p = some ⟨g0, o, none⟩ ∧ wr.rangeAt g0 o (enc t) := by
        rcases h4 with rfl | h4
        · simp at hi
        · exact h4
      have hcell := bs_cell hc hi
      obtain ⟨c, hcc⟩ : ∃ c : UInt8, t.getD i 0 = c := ⟨_, rfl⟩
      rw [hcc] at hcell
      have hc8 := UInt8.toNat_lt c
      have hx : r ^^^ c.toNat < 4294967296 := Nat.xor_lt_two_pow (n := 32) hr (by omega)
      have k1 := tab_cell hT (i := (r ^^^ c.toNat) % 16) (by omega)
      have k2 := tab_cell hT (i := (czn 4 (r ^^^ c.toNat)) % 16) (by omega)
      have e1 := xor_u32 (a := r) (b := c.toNat) hr (by omega)
      have e2 := and15 hx
      have e3 := and15 (czn4_lt hx)
      have e4 := xor_u32 (a := (r ^^^ c.toNat) / 16) (b := fours.getD ((r ^^^ c.toNat) % 16) 0) (by omega) (four_lt (by omega))
      have e5 := xor_u32 (a := (czn 4 (r ^^^ c.toNat)) / 16) (b := fours.getD ((czn 4 (r ^^^ c.toNat)) % 16) 0) (by have := czn4_lt hx; omega) (four_lt (by omega))
      rw [← czn4] at e4 e5
      have hy := czn4_lt hx
      have hz := czn4_lt hy
      have HZ : Hid (cbyte r c.toNat = czn 4 (czn 4 (r ^^^ c.toNat))) := cbyte_two r c.toNat
      have f1 := four_lt (i := (r ^^^ c.toNat) % 16) (by omega)
      have f2 := four_lt (i := czn 4 (r ^^^ c.toNat) % 16) (by omega)
      generalize fours.getD ((r ^^^ c.toNat) % 16) 0 = t1 at *
      generalize fours.getD (czn 4 (r ^^^ c.toNat) % 16) 0 = t2 at *
      generalize czn 4 (czn 4 (r ^^^ c.toNat)) = z at *
      generalize czn 4 (r ^^^ c.toNat) = y at *
      generalize r ^^^ c.toNat = x at *
      rw [show ((x / 16 : Nat) : Int) = (x : Int) / 16 by omega] at e4
      rw [show ((y / 16 : Nat) : Int) = (y : Int) / 16 by omega] at e5
      have hN : Hid (crem z (nat8 (t.drop (i + 1))) = crem 4294967295 (nat8 t)) := by
        have := hrem.out
        rw [List.drop_eq_getElem_cons hi] at this
        rw [← this]
        have hcc' : t[i] = c := by rw [← hcc]; simp [hi]
        show _ = crem (cbyte r t[i].toNat) (nat8 (t.drop (i + 1)))
        rw [hcc', HZ.out]
      clear hrem HZ hT hcc hc
      go_wp2
      go_roundg g
      case measure => omega
      case rel => exact ⟨i + 1, z, by omega, hz, by simp, rfl, hN, rfl⟩
end Go.Proofs.YtfakgfmgofblgaaGreatDoor
namespace Go.Proofs.YtfakgfmgofblgaaGreatDoor
open Go.ChangeShapes Go.WideShapes Go.ChangeAt Go.RowKit

theorem own : ownKnob Tryz.prog.godebug = none := by kernel_rfl
def laid1 : List (String × DataW Unit) := [("ramble/sector.fours", Rows.laid_ramble_sector_fours)]
theorem tFours : (Tryz.prog.globals[0]?).map (·.type) = some 237 := by kernel_rfl
theorem u237 : Tryz.prog.underlying 237 = some (.array 16 51) := by kernel_rfl
theorem u51 : Tryz.prog.underlying 51 = some (.int .u32) := by kernel_rfl
theorem cells51 : Tryz.prog.cellsOf 51 = 1 := by kernel_rfl
theorem cells237 : Tryz.prog.cellsOf 237 = 16 := by kernel_rfl
theorem fours_data : (Rows.laid_ramble_sector_fours : DataW Unit) = Lib.tabData .u32 foursI := by kernel_rfl
theorem of_laid {W : World} (h : laidMetH Tryz.prog laid1 W) : TabOk W := by
  rw [MakeChecks.laidMetH_plain _ _ _ (by kernel_rfl)] at h
  have h2 : laidMet Tryz.prog [("ramble/sector.fours", Rows.laid_ramble_sector_fours)] W := h
  rw [fours_data] at h2
  exact Lib.tabIs_of_head gFours tFours u237 u51 cells51 cells237 h2
/-- The door's own heap meets the condition. -/
theorem door_met (os : Os) (args : Array Value) : laidMetH Tryz.prog laid1 ((World.doorLaid Tryz.prog 400 os).forCall (fun _ _ => 0) ⟨#[], args, []⟩).memory :=
  laidMetH_of_parts3 (fuel := 8) (laidMet_of_run' 8 (by kernel_rfl) (by kernel_rfl)) (by kernel_rfl) (by kernel_rfl)
end Go.Proofs.YtfakgfmgofblgaaGreatDoor
namespace Go.Proofs.YtfakgfmgofblgaaGreatDoor
open Go.RowKit Go.Maps
set_option linter.unusedVariables false      -- a walk need not use every condition

theorem made42 (w : World) (d pb mb : Nat) (s : Dsk) (h : At w d pb mb s) : Calls Tryz.prog 42 #[.pointer (some ⟨d, 0, none⟩)] w fun e w' => e = .returned (.bool true) ∧ w' = w := by
  obtain ⟨c0, -, -, -, -, -⟩ := five_of h.blk
  have hp : (0 : Int) < (s.N : Int) := by have := h.pos; omega
  clear h
  go_enter Tryz.func42, Tryz.ntmps42
  go_wp2
  go_ret
  exact ⟨by simp; omega, rfl⟩
def Dsk.hasB (s : Dsk) (n : Int) : Bool := decide (0 ≤ n) && decide (n < s.N)
theorem has71 (w : World) (d pb mb : Nat) (s : Dsk) (h : At w d pb mb s) (n : Int) : Calls Tryz.prog 71 #[.pointer (some ⟨d, 0, none⟩), .int .i64 n] w fun e w' => e = .returned (.bool (s.hasB n)) ∧ w' = w := by
  obtain ⟨c0, -, -, -, -, -⟩ := five_of h.blk
  clear h
  unfold Dsk.hasB
  by_cases h0 : 0 ≤ n
  · go_enter Tryz.func71, Tryz.ntmps71
    go_wp2
    go_ret
    exact ⟨by simp [h0], rfl⟩
  · go_enter Tryz.func71, Tryz.ntmps71
    go_wp2
    go_ret
    exact ⟨by simp; omega, rfl⟩
def Dsk.ready (s : Dsk) : Int := if s.down then 9 else 0
theorem ready40 (w : World) (d pb mb : Nat) (s : Dsk) (h : At w d pb mb s) : Calls Tryz.prog 40 #[.pointer (some ⟨d, 0, none⟩)] w fun e w' => e = .returned (.int .i64 s.ready) ∧ w' = w := by
  obtain ⟨-, -, c2, -, -, -⟩ := five_of h.blk
  have c := made42 w d pb mb s h
  clear h
  unfold Dsk.ready
  generalize s.down = x at *
  cases x
  all_goals
    go_enter Tryz.func40, Tryz.ntmps40
    go_wp2_with (first | (go_at_call 42; refine c.mono ?_; rintro e w' ⟨rfl, rfl⟩))
    go_ret
    exact ⟨rfl, rfl⟩
def Dsk.reach (s : Dsk) (n : Int) : Int := if s.down then 9 else if s.hasB n then 0 else 41
theorem reach154 (w : World) (d pb mb : Nat) (s : Dsk) (h : At w d pb mb s) (n : Int) : Calls Tryz.prog 154 #[.pointer (some ⟨d, 0, none⟩), .int .i64 n] w fun e w' => e = .returned (.int .i64 (s.reach n)) ∧ w' = w := by
  have c := ready40 w d pb mb s h
  have c2 := has71 w d pb mb s h n
  clear h
  unfold Dsk.ready at c
  unfold Dsk.reach
  generalize s.down = x at *
  generalize s.hasB n = y at *
  cases x <;> cases y
  all_goals
    simp only [Bool.false_eq_true, if_true, if_false] at c c2 ⊢
    go_enter Tryz.func154, Tryz.ntmps154
    go_wp2_with (first | (go_at_call 40; refine c.mono ?_; rintro e w' ⟨rfl, rfl⟩) | (go_at_call 71; refine c2.mono ?_; rintro e w' ⟨rfl, rfl⟩))
    go_ret
    exact ⟨rfl, rfl⟩
/-! ### A cell of the disk itself is written -/

theorem blk_set {w : World} {g i : Nat} {c : Array Value} {t : TypeId} (h : w.heap[g]? = some (.cells c t)) (u : Value) : (w.setCell ⟨g, i, none⟩ u).heap[g]? = some (.cells (c.setIfInBounds i u) t) := by
  simp [World.setCell, Array.getElem?_modify, h]
theorem At.turn {w w' : World} {d pb mb : Nat} {s s' : Dsk} (h : At w d pb mb s) (hb : w'.heap[d]? = some (.cells #[.slice (some ⟨pb, 0, none⟩) s'.N s'.N, .map (some mb), .bool s'.down, .int .i64 s'.fuse, .int .i64 s'.calls] 88)) (hg : w.grownBy w' (some d))
    (hN : s'.N = s.N) (hst : s'.st = s.st) (htn : s'.tn = s.tn) (hca : s'.ca = s.ca) (hf : 0 ≤ s'.fuse ∧ s'.fuse ≤ 9223372036854775807) (hc : -9223372036854775808 ≤ s'.calls ∧ s'.calls ≤ 9223372036854775807) : At w' d pb mb s' := by
  have l := h.lts
  have hp : w'.heap[pb]? = w.heap[pb]? := hg.block _ l.2.1 (fun e => h.ne (by injection e with e; exact e.symm))
  have hm : w'.heap[mb]? = w.heap[mb]? := hg.block _ l.2.2.1 (fun e => l.2.2.2.1 (by injection e))
  refine ⟨hb, h.ne, hN ▸ h.pos, hN ▸ h.top, fun i hi => ?_, fun i hi => ?_, ?_, ?_, hf, hc⟩
  · rw [hst, htn]; exact rangeAt_same (h.pl i (hN ▸ hi)) hp
  · rw [hst]; exact h.sl i (hN ▸ hi)
  · rw [hN]; exact there_same h.th hp
  · obtain ⟨n, D, ⟨es, ck, hmb, r⟩, ht⟩ := h.own
    rw [hN, hca]
    exact ⟨n, D, ⟨es, ck, hm.trans hmb, r⟩, ht⟩

/-- A call that is counted: does the power go? -/
def Dsk.call (s : Dsk) : Int × Dsk :=
  if s.fuse = 1 then (9, { s with fuse := 0, down := true })
  else if 0 < s.fuse then (0, { s with fuse := s.fuse - 1, calls := wrap64 (s.calls + 1) })
  else (0, { s with calls := wrap64 (s.calls + 1) })
end Go.Proofs.YtfakgfmgofblgaaGreatDoor
namespace Go.Proofs.YtfakgfmgofblgaaGreatDoor
open Go.RowKit Go.Maps
set_option linter.unusedVariables false      -- a walk need not use every condition

theorem wrap_i64 {x : Int} : -9223372036854775808 ≤ wrap64 x ∧ wrap64 x ≤ 9223372036854775807 := by
  unfold wrap64
  omega
set_option maxHeartbeats 800000 in
theorem call155 (w : World) (d pb mb : Nat) (s : Dsk) (h : At w d pb mb s) (hd : s.down = false) :
    Calls Tryz.prog 155 #[.pointer (some ⟨d, 0, none⟩)] w fun e w' => e = .returned (.int .i64 s.call.1) ∧ At w' d pb mb s.call.2 ∧ Kept d pb mb w w' := by
  obtain ⟨c0, c1, c2, c3, c4, fr⟩ := five_of h.blk
  have f2 := fr 2
  have f3 := fr 3
  have f4 := fr 4
  have hfu := h.fu
  have hb := h.blk
  rw [hd] at c2 hb
  have H : Hid (At w d pb mb s) := h
  have HB : Hid (w.heap[d]? = some (.cells #[.slice (some ⟨pb, 0, none⟩) s.N s.N, .map (some mb), .bool false, .int .i64 s.fuse, .int .i64 s.calls] 88)) := hb
  clear h fr hb c0 c1
  unfold Dsk.call
  by_cases h1 : s.fuse = 1
  · rw [if_pos h1]
    rw [h1] at c3
    clear hfu
    go_enter Tryz.func155, Tryz.ntmps155
    go_wp2
    go_ret
    refine ⟨rfl, ?_, ?_⟩
    · refine H.out.turn ?_ ((gr_set w d 3 _).trans (gr_set _ d 2 _)) rfl rfl rfl rfl ⟨by simp, by simp⟩ H.out.cl
      rw [blk_set (blk_set HB.out _) _]
      rfl
    · exact Kept.grown ((gr_set w d 3 _).trans (gr_set _ d 2 _)) (fun k e => by injection e with e; exact .inl e.symm)
  · rw [if_neg h1]
    by_cases h2 : 0 < s.fuse
    · rw [if_pos h2]
      have h3 : IntKind.i64.wrap (s.fuse - 1) = s.fuse - 1 := by
        have := hfu.2
        simp [IntKind.wrap, IntKind.signed, IntKind.bits]
        omega
      have h4 : ¬ (s.fuse - 1 = 0) := by omega
      have HF : Hid (0 < s.fuse ∧ s.fuse ≤ 9223372036854775807) := ⟨h2, hfu.2⟩
      generalize hx : s.fuse = x at *
      go_enter Tryz.func155, Tryz.ntmps155
      go_wp2
      go_ret
      refine ⟨rfl, ?_, ?_⟩
      · refine H.out.turn ?_ (((gr_set w d 3 _).trans (gr_set _ d 2 _)).trans (gr_set _ d 4 _)) rfl rfl rfl rfl ⟨by have := HF.out; simp; omega, by have := HF.out; simp; omega⟩ wrap_i64
        rw [blk_set (blk_set (blk_set HB.out _) _) _]
        simp [hd]
      · exact Kept.grown (((gr_set w d 3 _).trans (gr_set _ d 2 _)).trans (gr_set _ d 4 _)) (fun k e => by injection e with e; exact .inl e.symm)
    · rw [if_neg h2]
      have h0 : s.fuse = 0 := by omega
      rw [h0] at c3
      clear hfu h1 h2
      go_enter Tryz.func155, Tryz.ntmps155
      go_wp2
      go_ret
      refine ⟨rfl, ?_, ?_⟩
      · refine H.out.turn ?_ (gr_set w d 4 _) rfl rfl rfl rfl H.out.fu wrap_i64
        rw [blk_set HB.out _]
        simp [hd]
      · exact Kept.grown (gr_set w d 4 _) (fun k e => by injection e with e; exact .inl e.symm)
end Go.Proofs.YtfakgfmgofblgaaGreatDoor
