/-
  What Sum of package sector does: the sum of bytes, four bits at a time by a table that lies in memory.
-/
import Derived.Test.YtafnelpcnfmhfaaDoorBs
import Derived.Test.YtafnelpcnfmhfaaDoorCrcC
import Derived.Lib.LaidTab
import Derived.Lib.SmallJoins
namespace Go.Proofs.YtafnelpcnfmhfaaDoor
open Go.RowKit
set_option linter.unusedVariables false      -- a walk need not use every condition

def fours : List Nat := [0, 498536548, 997073096, 651767980, 1994146192, 1802195444, 1303535960, 1342533948, 3988292384, 4027552580, 3604390888, 3412177804, 2607071920, 2262029012, 2685067896, 3183342108]
def foursI : List Int := fours.map fun (n : Nat) => (n : Int)
theorem gFours : Tryd.prog.globalNamed "ramble/sector.fours" = some 0 := by kernel_rfl
/-- The table lies in memory. -/
def TabOk (w : World) : Prop := Lib.TabIs Tryd.prog w "ramble/sector.fours" .u32 foursI
theorem tab_on {w w' : World} (h : TabOk w) (hb : Below w.heap.size w w') : TabOk w' := Go.Joins.tab_stays gFours h hb (Nat.le_refl _)
theorem four_czn : ∀ i, i < 16 → fours.getD i 0 = czn 4 i := by decide
theorem czn4_lt {x : Nat} (h : x < 4294967296) : czn 4 x < 4294967296 := by
  unfold czn czn czn czn czn
  exact cz_lt (cz_lt (cz_lt (cz_lt h)))
/-- Four bits by the table. -/
theorem czn4 (x : Nat) : czn 4 x = (x / 16) ^^^ fours.getD (x % 16) 0 := by
  rw [four_czn (x % 16) (Nat.mod_lt _ (by decide))]
  have e : czn 4 x = czn 4 (x % 2 ^ 4 ^^^ 2 ^ 4 * (x / 2 ^ 4)) := congrArg (czn 4) (low_high x 4)
  rw [e, czn_xor, czn_pow, Nat.xor_comm]
theorem cbyte_two (r c : Nat) : cbyte r c = czn 4 (czn 4 (r ^^^ c)) := by
  unfold cbyte
  rw [← czn_add 4 4]
theorem tab_cell {w : World} (h : TabOk w) {i : Nat} (hi : i < 16) : w.cell? ⟨0, i, none⟩ = some (.int .u32 (fours.getD i 0 : Nat)) := by
  have := Lib.TabIs.cell h gFours i (by simpa [foursI, fours] using hi)
  rw [this]
  congr 2
  unfold foursI
  have : i < fours.length := by simpa [fours] using hi
  simp [this]
theorem four_lt {i : Nat} (hi : i < 16) : fours.getD i 0 < 4294967296 := by
  rw [four_czn i hi]; exact czn4_lt (by omega)
theorem and15 {a : Nat} (ha : a < 4294967296) : bits .and .u32 (a : Int) 15 = ((a % 16 : Nat) : Int) := by
  have := and_u32 (b := 15) ha (by decide)
  rw [show (15 : Nat) = 2 ^ 4 - 1 from rfl, Nat.and_two_pow_sub_one_eq_mod] at this
  exact this
theorem max32 : IntKind.u32.max = ((4294967295 : Nat) : Int) := by decide
set_option maxHeartbeats 1600000 in
theorem sum14 (w : World) (v : Value) (t : List UInt8) (hv : Bs w v t) (hT : TabOk w) :
    Calls Tryd.prog 14 #[v] w fun e w' => e = .returned (.int .u32 (csum (nat8 t) : Nat)) ∧ w' = w := by
  obtain ⟨p, cap, rfl, h1, h2, h3, h4⟩ := hv
  have hlen : (t.length : Int) ≤ 9223372036854775807 := by unfold maxLen at h2; omega
  obtain ⟨S, hS⟩ : ∃ S, csum (nat8 t) = S := ⟨_, rfl⟩
  rw [hS]
  have HS : Hid (csum (nat8 t) = S) := hS
  clear hS
  go_enter Tryd.func14, Tryd.ntmps14
  go_wp2
  go_loopg [3, 8] t.length (fun g s3 s8 wr => ∃ (i r : Nat), i + g = t.length ∧ r < 4294967296 ∧ s8 = .int .i64 i ∧ s3 = .int .u32 r ∧ Hid (crem r (nat8 (t.drop i)) = crem 4294967295 (nat8 t)) ∧ wr = w)
  case atStart => exact ⟨0, 4294967295, by omega, by decide, rfl, rfl, rfl, rfl⟩
  case round =>
    obtain ⟨i, r, hig, hr, rfl, rfl, hrem, rfl⟩ := hrel
    cases gk with
    | zero =>
      obtain rfl : i = t.length := by omega
      have e : Hid (S = 4294967295 ^^^ r) := by
        have := hrem.out
        rw [List.drop_length] at this
        rw [← HS.out]
        unfold csum; rw [← this]; rfl
      have hx := xor_u32 (a := 4294967295) (b := r) (by decide) hr
      go_wp2
      all_goals first | (exfalso; revert h; decide) | skip
      go_ret
      exact ⟨by show Ending.returned (Value.int .u32 (bits .xor .u32 IntKind.u32.max r)) = _; rw [max32, hx, e.out], rfl⟩
    | succ g =>
      have hi : i < t.length := by omega
      have hiz : (i : Int) < (t.length : Int) := by omega
      obtain ⟨g0, o, rfl, hc⟩ : ∃ g0 o, p = some ⟨g0, o, none⟩ ∧ wr.rangeAt g0 o (enc t) := by
        rcases h4 with rfl | h4
        · simp at hi
        · exact h4
      have hcell := bs_cell hc hi
      obtain ⟨c, hcc⟩ : ∃ c : UInt8, t.getD i 0 = c := ⟨_, rfl⟩
      rw [hcc] at hcell
      have hc8 := UInt8.toNat_lt c
      have hx : r ^^^ c.toNat < 4294967296 := Nat.xor_lt_two_pow (n := 32) hr (by omega)
      have k1 := tab_cell hT (i := (r ^^^ c.toNat) % 16) (by omega)
      have k2 := tab_cell hT (i := (czn 4 (r ^^^ c.toNat)) % 16) (by omega)
      have e1 := xor_u32 (a := r) (b := c.toNat) hr (by omega)
      have e2 := and15 hx
      have e3 := and15 (czn4_lt hx)
      have e4 := xor_u32 (a := (r ^^^ c.toNat) / 16) (b := fours.getD ((r ^^^ c.toNat) % 16) 0) (by omega) (four_lt (by omega))
      have e5 := xor_u32 (a := (czn 4 (r ^^^ c.toNat)) / 16) (b := fours.getD ((czn 4 (r ^^^ c.toNat)) % 16) 0) (by have := czn4_lt hx; omega) (four_lt (by omega))
      rw [← czn4] at e4 e5
      have hy := czn4_lt hx
      have hz := czn4_lt hy
      have HZ : Hid (cbyte r c.toNat = czn 4 (czn 4 (r ^^^ c.toNat))) := cbyte_two r c.toNat
      have f1 := four_lt (i := (r ^^^ c.toNat) % 16) (by omega)
      have f2 := four_lt (i := czn 4 (r ^^^ c.toNat) % 16) (by omega)
      generalize fours.getD ((r ^^^ c.toNat) % 16) 0 = t1 at *
      generalize fours.getD (czn 4 (r ^^^ c.toNat) % 16) 0 = t2 at *
      generalize czn 4 (czn 4 (r ^^^ c.toNat)) = z at *
      generalize czn 4 (r ^^^ c.toNat) = y at *
      generalize r ^^^ c.toNat = x at *
      rw [show ((x / 16 : Nat) : Int) = (x : Int) / 16 by omega] at e4
      rw [show ((y / 16 : Nat) : Int) = (y : Int) / 16 by omega] at e5
      have hN : Hid (crem z (nat8 (t.drop (i + 1))) = crem 4294967295 (nat8 t)) := by
        have := hrem.out
        rw [List.drop_eq_getElem_cons hi] at this
        rw [← this]
        have hcc' : t[i] = c := by rw [← hcc]; simp [hi]
        show _ = crem (cbyte r t[i].toNat) (nat8 (t.drop (i + 1)))
        rw [hcc', HZ.out]
      clear hrem HZ hT hcc hc
      go_wp2
      go_roundg g
      case measure => omega
      case rel => exact ⟨i + 1, z, by omega, hz, by simp, rfl, hN, rfl⟩
end Go.Proofs.YtafnelpcnfmhfaaDoor
