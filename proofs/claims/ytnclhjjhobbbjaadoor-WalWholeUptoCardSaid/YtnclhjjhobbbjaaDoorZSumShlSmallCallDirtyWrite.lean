/-
  What Sum of package sector does: the sum of bytes, four bits at a time by a table that lies in memory.
  What the statements' shells share: the table that is listed, the witness's heap, arguments that are frames, bytes and numbers.
  The small functions of package disk: made, has, ready, reach, call, Down, Calls, SetFuse.
  A call that is counted, and the fuse.
  The numbers of the sectors in the cache, rising. No walk.
  What Write of package disk does.
-/
import Derived.Test.YtnclhjjhobbbjaaDoorZDskFillBsCrcCrcBBits
import Derived.Lib.LaidTab
import Derived.Lib.SmallJoins
import Derived.Test.YtnclhjjhobbbjaaDoorRows
import Derived.Test.YtnclhjjhobbbjaaDoorTie
import Derived.Test.YtnclhjjhobbbjaaDoorCards
import Derived.Stop.LaidErr
import Derived.LaidMore
import Derived.MakeChecks
import Derived.SevenTiedAt
import Derived.Stop.Joined
import Derived.ChangeArms
import Derived.ChangeSlices
import Derived.SizedLaws
import Derived.ProofKit
import Derived.OpenShut
import Derived.Lib.SlKeysI
import Derived.Deep.RegionHeld3
import Derived.Deep.DrawnRows
namespace Go.Proofs.YtnclhjjhobbbjaaDoor
open Go.RowKit
set_option linter.unusedVariables false      -- a walk need not use every condition

def nat8 (l : List UInt8) : List Nat := l.map UInt8.toNat
theorem nat8_lt (l : List UInt8) : ∀ c ∈ nat8 l, c < 256 := by
  intro c hc
  obtain ⟨x, -, rfl⟩ := List.mem_map.1 hc
  exact UInt8.toNat_lt x
def fours : List Nat := [0, 498536548, 997073096, 651767980, 1994146192, 1802195444, 1303535960, 1342533948, 3988292384, 4027552580, 3604390888, 3412177804, 2607071920, 2262029012, 2685067896, 3183342108]
def foursI : List Int := fours.map fun (n : Nat) => (n : Int)
theorem gFours : Tryd.prog.globalNamed "ramble/sector.fours" = some 0 := by kernel_rfl
/-- The table lies in memory. -/
def TabOk (w : World) : Prop := Lib.TabIs Tryd.prog w "ramble/sector.fours" .u32 foursI
theorem tab_on {w w' : World} (h : TabOk w) (hb : Below w.heap.size w w') : TabOk w' := Go.Joins.tab_stays gFours h hb (Nat.le_refl _)
theorem four_czn : ∀ i, i < 16 → fours.getD i 0 = czn 4 i := by decide
theorem czn4_lt {x : Nat} (h : x < 4294967296) : czn 4 x < 4294967296 := by
  unfold czn czn czn czn czn
  exact cz_lt (cz_lt (cz_lt (cz_lt h)))
/-- Four bits by the table. -/
theorem czn4 (x : Nat) : czn 4 x = (x / 16) ^^^ fours.getD (x % 16) 0 := by
  rw [four_czn (x % 16) (Nat.mod_lt _ (by decide))]
  have e : czn 4 x = czn 4 (x % 2 ^ 4 ^^^ 2 ^ 4 * (x / 2 ^ 4)) := congrArg (czn 4) (low_high x 4)
  rw [e, czn_xor, czn_pow, Nat.xor_comm]
theorem cbyte_two (r c : Nat) : cbyte r c = czn 4 (czn 4 (r ^^^ c)) := by
  unfold cbyte
  rw [← czn_add 4 4]
theorem tab_cell {w : World} (h : TabOk w) {i : Nat} (hi : i < 16) : w.cell? ⟨0, i, none⟩ = some (.int .u32 (fours.getD i 0 : Nat)) := by
  have := Lib.TabIs.cell h gFours i (by simpa [foursI, fours] using hi)
  rw [this]
  congr 2
  unfold foursI
  have : i < fours.length := by simpa [fours] using hi
  simp [this]
theorem four_lt {i : Nat} (hi : i < 16) : fours.getD i 0 < 4294967296 := by
  rw [four_czn i hi]; exact czn4_lt (by omega)
theorem and15 {a : Nat} (ha : a < 4294967296) : bits .and .u32 (a : Int) 15 = ((a % 16 : Nat) : Int) := by
  have := and_u32 (b := 15) ha (by decide)
  rw [show (15 : Nat) = 2 ^ 4 - 1 from rfl, Nat.and_two_pow_sub_one_eq_mod] at this
  exact this
theorem max32 : IntKind.u32.max = ((4294967295 : Nat) : Int) := by decide
set_option maxHeartbeats 1600000 in
theorem sum71 (w : World) (v : Value) (t : List UInt8) (hv : Bs w v t) (hT : TabOk w) :
    Calls Tryd.prog 71 #[v] w fun e w' => e = .returned (.int .u32 (csum (nat8 t) : Nat)) ∧ w' = w := by
  obtain ⟨p, cap, rfl, h1, h2, h3, h4⟩ := hv
  have hlen : (t.length : Int) ≤ 9223372036854775807 := by unfold maxLen at h2; omega
  obtain ⟨S, hS⟩ : ∃ S, csum (nat8 t) = S := ⟨_, rfl⟩
  rw [hS]
  have HS : Hid (csum (nat8 t) = S) := hS
  clear hS
  go_enter Tryd.func71, Tryd.ntmps71
  go_wp2
  go_loopg [3, 8] t.length (fun g s3 s8 wr => ∃ (i r : Nat), i + g = t.length ∧ r < 4294967296 ∧ s8 = .int .i64 i ∧ s3 = .int .u32 r ∧ Hid (crem r (nat8 (t.drop i)) = crem 4294967295 (nat8 t)) ∧ wr = w)
  case atStart => exact ⟨0, 4294967295, by omega, by decide, rfl, rfl, rfl, rfl⟩
  case round =>
    obtain ⟨i, r, hig, hr, rfl, rfl, hrem, rfl⟩ := hrel
    cases gk with
    | zero =>
      obtain rfl : i = t.length := by omega
      have e : Hid (S = 4294967295 ^^^ r) := by
        have := hrem.out
        rw [List.drop_length] at this
        rw [← HS.out]
        unfold csum; rw [← this]; rfl
      have hx := xor_u32 (a := 4294967295) (b := r) (by decide) hr
      go_wp2
      all_goals first | (exfalso; revert h; decide) | skip
      go_ret
      exact ⟨by show Ending.returned (Value.int .u32 (bits .xor .u32 IntKind.u32.max r)) = _; rw [max32, hx, e.out], rfl⟩
    | succ g =>
      have hi : i < t.length := by omega
      have hiz : (i : Int) < (t.length : Int) := by omega
      obtain ⟨g0, o, rfl, hc⟩ : ∃ g0 o, p = some ⟨g0, o, none⟩ ∧ wr.rangeAt g0 o (enc t) := by
        rcases h4 with rfl | h4
        · simp at hi
        · exact h4
      have hcell := bs_cell hc hi
      obtain ⟨c, hcc⟩ : ∃ c : UInt8, t.getD i 0 = c := ⟨_, rfl⟩
      rw [hcc] at hcell
      have hc8 := UInt8.toNat_lt c
      have hx : r ^^^ c.toNat < 4294967296 := Nat.xor_lt_two_pow (n := 32) hr (by omega)
      have k1 := tab_cell hT (i := (r ^^^ c.toNat) % 16) (by omega)
      have k2 := tab_cell hT (i := (czn 4 (r ^^^ c.toNat)) % 16) (by omega)
      have e1 := xor_u32 (a := r) (b := c.toNat) hr (by omega)
      have e2 := and15 hx
      have e3 := and15 (czn4_lt hx)
      have e4 := xor_u32 (a := (r ^^^ c.toNat) / 16) (b := fours.getD ((r ^^^ c.toNat) % 16) 0) (by omega) (four_lt (by omega))
      have e5 := xor_u32 (a := (czn 4 (r ^^^ c.toNat)) / 16) (b := fours.getD ((czn 4 (r ^^^ c.toNat)) % 16) 0) (by have := czn4_lt hx; omega) (four_lt (by omega))
      rw [← czn4] at e4 e5
      have hy := czn4_lt hx
      have hz := czn4_lt hy
      have HZ : Hid (cbyte r c.toNat = czn 4 (czn 4 (r ^^^ c.toNat))) := cbyte_two r c.toNat
      have f1 := four_lt (i := (r ^^^ c.toNat) % 16) (by omega)
      have f2 := four_lt (i := czn 4 (r ^^^ c.toNat) % 16) (by omega)
      generalize fours.getD ((r ^^^ c.toNat) % 16) 0 = t1 at *
      generalize fours.getD (czn 4 (r ^^^ c.toNat) % 16) 0 = t2 at *
      generalize czn 4 (czn 4 (r ^^^ c.toNat)) = z at *
      generalize czn 4 (r ^^^ c.toNat) = y at *
      generalize r ^^^ c.toNat = x at *
      rw [show ((x / 16 : Nat) : Int) = (x : Int) / 16 by omega] at e4
      rw [show ((y / 16 : Nat) : Int) = (y : Int) / 16 by omega] at e5
      have hN : Hid (crem z (nat8 (t.drop (i + 1))) = crem 4294967295 (nat8 t)) := by
        have := hrem.out
        rw [List.drop_eq_getElem_cons hi] at this
        rw [← this]
        have hcc' : t[i] = c := by rw [← hcc]; simp [hi]
        show _ = crem (cbyte r t[i].toNat) (nat8 (t.drop (i + 1)))
        rw [hcc', HZ.out]
      clear hrem HZ hT hcc hc
      go_wp2
      go_roundg g
      case measure => omega
      case rel => exact ⟨i + 1, z, by omega, hz, by simp, rfl, hN, rfl⟩
end Go.Proofs.YtnclhjjhobbbjaaDoor
namespace Go.Proofs.YtnclhjjhobbbjaaDoor
open Go.ChangeShapes Go.WideShapes Go.ChangeAt Go.RowKit

theorem own : ownKnob Tryd.prog.godebug = none := by kernel_rfl
theorem laidOut : laidOutB Tryd.prog = true := by kernel_rfl
def laid1 : List (String × DataW Unit) := [("ramble/sector.fours", Rows.laid_ramble_sector_fours)]
theorem tFours : (Tryd.prog.globals[0]?).map (·.type) = some 122 := by kernel_rfl
theorem cells34 : Tryd.prog.cellsOf 36 = 1 := by kernel_rfl
theorem cells72 : Tryd.prog.cellsOf 122 = 16 := by kernel_rfl
theorem fours_data : (Rows.laid_ramble_sector_fours : DataW Unit) = Lib.tabData .u32 foursI := by kernel_rfl
theorem of_laid {W : World} (h : laidMetH Tryd.prog laid1 W) : TabOk W := by
  rw [MakeChecks.laidMetH_plain _ _ _ (by kernel_rfl)] at h
  have h2 : laidMet Tryd.prog [("ramble/sector.fours", Rows.laid_ramble_sector_fours)] W := h
  rw [fours_data] at h2
  exact Lib.tabIs_of_head gFours tFours Tryd.underlying122 Tryd.underlying36 cells34 cells72 h2
/-- The door's own heap meets the condition. -/
theorem door_met (os : Os) (args : Array Value) : laidMetH Tryd.prog laid1 ((World.doorLaid Tryd.prog 400 os).forCall (fun _ _ => 0) ⟨#[], args, []⟩).memory :=
  laidMetH_of_parts3 (fuel := 8) (laidMet_of_run' 8 (by kernel_rfl) (by kernel_rfl)) (by kernel_rfl) (by kernel_rfl)

theorem cells5' : Tryd.prog.cellsOf 5 = 1 := by kernel_rfl
theorem bytes5 : Tryd.prog.bytesOf 5 = 1 := by kernel_rfl
theorem weigh {H : Type} {ts : List TypeId} {ds : List (DataW H)} (hsz : (DataW.weightsEach Tryd.prog ts ds).all (· ≤ reachBytes) = true) {j : Nat} {t : TypeId} {d : DataW H} (ht : ts[j]? = some t) (hd : ds[j]? = some d) : ∀ k ∈ d.weights Tryd.prog t, k ≤ reachBytes := fun k hk => by
  simpa using List.all_eq_true.1 hsz _ (DataW.weights_mem_each ht hd k hk)
theorem agg_of {P : Program} {W : World} {r : Reach} {base : Nat} {t : TypeId} {fs : Array Field} {v : Value} (ht : P.underlying t = some (.struct fs)) (h : Value.okWide P W r base t v) : ∃ cs, v = .agg cs := by
  unfold Value.okWide at h
  rw [ht] at h
  obtain ⟨cs, h1, -⟩ := h
  exact ⟨cs, h1⟩
theorem three_list {α : Type} {l : List α} (h : l.length = 3) : ∃ a b c, l = [a, b, c] := by
  match l, h with
  | [a, b, c], _ => exact ⟨a, b, c, rfl⟩
theorem mapM_at {α β : Type} {f : α → Option β} : ∀ {l : List α} {r : List β}, l.mapM f = some r → r.length = l.length ∧ ∀ i (hi : i < l.length) (hr : i < r.length), f l[i] = some r[i]
  | [], r, h => by
    simp at h
    subst h
    exact ⟨rfl, fun i hi => (by simp at hi)⟩
  | x :: l, r, h => by
    simp only [List.mapM_cons, Option.bind_eq_bind, Option.bind_eq_some_iff, Option.pure_def, Option.some.injEq] at h
    obtain ⟨y, hy, r', hr', rfl⟩ := h
    obtain ⟨h1, h2⟩ := mapM_at hr'
    refine ⟨by simp [h1], fun i hi hr => ?_⟩
    cases i with
    | zero => exact hy
    | succ i => exact h2 i (by simpa using hi) (by simpa using hr)
theorem cells_range {w : World} {n : Nat} {a : Addr} {cs : List Value} (h : w.cells? 0 a n = some cs) (hn : 0 < n) : a.spot = none ∧ w.rangeAt a.block a.off cs ∧ cs.length = n := by
  obtain ⟨b, o, sp⟩ := a
  unfold World.cells? at h
  rw [if_pos (Nat.zero_le _)] at h
  have hl : cs.length = n := by
    have := (mapM_at h).1
    simpa using this
  have hc : ∀ j v, cs[j]? = some v → w.cell? ((⟨b, o, sp⟩ : Addr).add j) = some v := by
    intro j v hv
    have hj : j < n := by rw [← hl]; exact (List.getElem?_eq_some_iff.1 hv).1
    obtain ⟨hj', rfl⟩ := List.getElem?_eq_some_iff.1 hv
    have := (mapM_at h).2 j (by simpa using hj) hj'
    simpa using this
  have hs : sp = none := by
    have h0 := hc 0 (cs[0]'(by omega)) (by simp)
    simpa [Addr.add] using World.cell?_spot h0
  subst hs
  refine ⟨rfl, fun j v hv => ?_, hl⟩
  have := hc j v hv
  rwa [Addr.add_mid] at this
/-- A byte as data. -/
theorem byte_of {k : Int} (h : (Lit.int .u8 k).wf = true) : ∃ c : UInt8, k = c.toNat := by
  have hb : 0 ≤ k ∧ k ≤ 255 := by simpa [Lit.wf, IntKind.min, IntKind.max, IntKind.signed, IntKind.bits] using h
  exact ⟨UInt8.ofNat k.toNat, by rw [UInt8.toNat_ofNat']; omega⟩
theorem i64_of {k : Int} (h : (Lit.int .i64 k).wf = true) : -9223372036854775808 ≤ k ∧ k ≤ 9223372036854775807 := by
  simpa [Lit.wf, IntKind.min, IntKind.max, IntKind.signed, IntKind.bits] using h
/-- Bytes that were handed in. -/
def Byt (W : World) (v : Value) (t : List UInt8) : Prop := Bs W v t ∧ t.length ≤ 140737488351232
set_option maxRecDepth 100000 in
theorem open_bytes {H : Type} {enc : TypeId × Value → H} {W : World} (n : Nat) (cs : List Value) (x : DataW H × List MemPlace) (h : DataW.trod enc Tryd.prog W 0 (fun _ => true) true n 43 cs = some x) (hw : ∀ k ∈ x.1.weights Tryd.prog 43, k ≤ reachBytes) :
    ∃ (v : Value) (t : List UInt8), cs = [v] ∧ Byt W v t := by
  rcases DataW.trod_slice Tryd.underlying43 h with ⟨hcs, -⟩ | ⟨a, len, cap, elems, rest, m, rfl, hcs, hx, hb, hl, hm, hlen, hel, hsp, hns⟩
  · exact ⟨_, [], hcs, bs_nil W, by simp⟩
  · subst hx
    rw [cells5'] at hel
    have hr : len ≤ 140737488351232 := by
      simp only [DataW.weights, Tryd.underlying43, bytes5, List.length_map] at hw
      have hreach := hw _ (List.mem_cons.2 (.inl rfl))
      unfold reachBytes at hreach
      rw [hlen] at hreach
      omega
    have hadd : ∀ n, (a.add n).block = a.block ∧ (a.add n).off = a.off + n := by
      intro n; unfold Addr.add; split <;> simp_all
    have each : ∀ i, i < len → ∃ c : UInt8, (i = 0 → a.spot = none) ∧ W.cell? ⟨a.block, a.off + i, none⟩ = some (.int .u8 c.toNat) := by
      intro i hi
      have he := hel i hi
      rw [List.getElem?_eq_getElem (by omega), Option.bind_eq_some_iff] at he
      obtain ⟨ci, hci, htr⟩ := he
      obtain ⟨x, rfl, -, hwf⟩ := DataW.trod_int Tryd.underlying5 htr
      obtain ⟨c, rfl⟩ := byte_of hwf
      obtain ⟨h1, h2, -⟩ := cells_range hci (by omega)
      rw [(hadd (i * 1)).1, (hadd (i * 1)).2] at h2
      refine ⟨c, fun hi0 => ?_, ?_⟩
      · subst hi0
        simpa [Addr.add] using h1
      · have := h2 0 _ rfl
        simpa using this
    by_cases h0 : len = 0
    · subst h0
      exact ⟨_, [], hcs, ⟨some a, cap, rfl, by simp, hm, fun e => (by cases e), .inl rfl⟩, by simp⟩
    · obtain ⟨o0, hs0, hr0⟩ := each 0 (by omega)
      have hsn := hs0 rfl
      let g : Nat → UInt8 := fun i => if h : i < len then (each i h).choose else o0
      have hg : ∀ i (h : i < len), W.cell? ⟨a.block, a.off + i, none⟩ = some (.int .u8 (g i).toNat) := fun i h => by
        show W.cell? ⟨a.block, a.off + i, none⟩ = some (.int .u8 (if h : i < len then (each i h).choose else o0).toNat)
        rw [dif_pos h]; exact (each i h).choose_spec.2
      refine ⟨_, (List.range len).map g, hcs, ⟨some a, cap, by simp, by simpa using hl, hm, fun e => (by cases e), .inr ⟨a.block, a.off, ?_, fun j v hv => ?_⟩⟩, by simpa using hr⟩
      · obtain ⟨b, o, sp⟩ := a
        have : sp = none := hsn
        subst this
        rfl
      · unfold YtnclhjjhobbbjaaDoor.enc at hv
        simp only [List.map_map, List.getElem?_map, Option.map_eq_some_iff] at hv
        obtain ⟨i, hi, rfl⟩ := hv
        obtain ⟨hj, e⟩ := List.getElem?_eq_some_iff.1 hi
        simp at hj e
        subst e
        exact hg j hj
theorem int_of {P : Program} {w : World} {r : Reach} {base : Nat} {t : TypeId} {k : IntKind} {v : Value} (ht : P.underlying t = some (.int k)) (h : Value.okWide P w r base t v) : ∃ z, v = .int k z := by
  simp only [Value.okWide, ht, Cell.okWide] at h
  cases v <;> simp_all [Cell.ok]
end Go.Proofs.YtnclhjjhobbbjaaDoor
namespace Go.Proofs.YtnclhjjhobbbjaaDoor
open Go.RowKit Go.Maps
set_option linter.unusedVariables false      -- a walk need not use every condition

theorem made31 (w : World) (d pb mb : Nat) (s : Dsk) (h : At w d pb mb s) : Calls Tryd.prog 31 #[.pointer (some ⟨d, 0, none⟩)] w fun e w' => e = .returned (.bool true) ∧ w' = w := by
  obtain ⟨c0, -, -, -, -, -⟩ := five_of h.blk
  have hp : (0 : Int) < (s.N : Int) := by have := h.pos; omega
  clear h
  go_enter Tryd.func31, Tryd.ntmps31
  go_wp2
  go_ret
  exact ⟨by simp; omega, rfl⟩
def Dsk.hasB (s : Dsk) (n : Int) : Bool := decide (0 ≤ n) && decide (n < s.N)
theorem has58 (w : World) (d pb mb : Nat) (s : Dsk) (h : At w d pb mb s) (n : Int) : Calls Tryd.prog 58 #[.pointer (some ⟨d, 0, none⟩), .int .i64 n] w fun e w' => e = .returned (.bool (s.hasB n)) ∧ w' = w := by
  obtain ⟨c0, -, -, -, -, -⟩ := five_of h.blk
  clear h
  unfold Dsk.hasB
  by_cases h0 : 0 ≤ n
  · go_enter Tryd.func58, Tryd.ntmps58
    go_wp2
    go_ret
    exact ⟨by simp [h0], rfl⟩
  · go_enter Tryd.func58, Tryd.ntmps58
    go_wp2
    go_ret
    exact ⟨by simp; omega, rfl⟩
def Dsk.ready (s : Dsk) : Int := if s.down then 9 else 0
theorem ready30 (w : World) (d pb mb : Nat) (s : Dsk) (h : At w d pb mb s) : Calls Tryd.prog 30 #[.pointer (some ⟨d, 0, none⟩)] w fun e w' => e = .returned (.int .i64 s.ready) ∧ w' = w := by
  obtain ⟨-, -, c2, -, -, -⟩ := five_of h.blk
  have c := made31 w d pb mb s h
  clear h
  unfold Dsk.ready
  generalize s.down = x at *
  cases x
  all_goals
    go_enter Tryd.func30, Tryd.ntmps30
    go_wp2_with (first | (go_at_call 31; refine c.mono ?_; rintro e w' ⟨rfl, rfl⟩))
    go_ret
    exact ⟨rfl, rfl⟩
def Dsk.reach (s : Dsk) (n : Int) : Int := if s.down then 9 else if s.hasB n then 0 else 41
theorem reach43 (w : World) (d pb mb : Nat) (s : Dsk) (h : At w d pb mb s) (n : Int) : Calls Tryd.prog 43 #[.pointer (some ⟨d, 0, none⟩), .int .i64 n] w fun e w' => e = .returned (.int .i64 (s.reach n)) ∧ w' = w := by
  have c := ready30 w d pb mb s h
  have c2 := has58 w d pb mb s h n
  clear h
  unfold Dsk.ready at c
  unfold Dsk.reach
  generalize s.down = x at *
  generalize s.hasB n = y at *
  cases x <;> cases y
  all_goals
    simp only [Bool.false_eq_true, if_true, if_false] at c c2 ⊢
    go_enter Tryd.func43, Tryd.ntmps43
    go_wp2_with (first | (go_at_call 30; refine c.mono ?_; rintro e w' ⟨rfl, rfl⟩) | (go_at_call 58; refine c2.mono ?_; rintro e w' ⟨rfl, rfl⟩))
    go_ret
    exact ⟨rfl, rfl⟩
/-! ### A cell of the disk itself is written -/

theorem blk_set {w : World} {g i : Nat} {c : Array Value} {t : TypeId} (h : w.heap[g]? = some (.cells c t)) (u : Value) : (w.setCell ⟨g, i, none⟩ u).heap[g]? = some (.cells (c.setIfInBounds i u) t) := by
  simp [World.setCell, Array.getElem?_modify, h]
theorem At.turn {w w' : World} {d pb mb : Nat} {s s' : Dsk} (h : At w d pb mb s) (hb : w'.heap[d]? = some (.cells #[.slice (some ⟨pb, 0, none⟩) s'.N s'.N, .map (some mb), .bool s'.down, .int .i64 s'.fuse, .int .i64 s'.calls] 61)) (hg : w.grownBy w' (some d))
    (hN : s'.N = s.N) (hst : s'.st = s.st) (htn : s'.tn = s.tn) (hca : s'.ca = s.ca) (hf : 0 ≤ s'.fuse ∧ s'.fuse ≤ 9223372036854775807) (hc : -9223372036854775808 ≤ s'.calls ∧ s'.calls ≤ 9223372036854775807) : At w' d pb mb s' := by
  have l := h.lts
  have hp : w'.heap[pb]? = w.heap[pb]? := hg.block _ l.2.1 (fun e => h.ne (by injection e with e; exact e.symm))
  have hm : w'.heap[mb]? = w.heap[mb]? := hg.block _ l.2.2.1 (fun e => l.2.2.2.1 (by injection e))
  refine ⟨hb, h.ne, hN ▸ h.pos, hN ▸ h.top, fun i hi => ?_, fun i hi => ?_, ?_, ?_, hf, hc⟩
  · rw [hst, htn]; exact rangeAt_same (h.pl i (hN ▸ hi)) hp
  · rw [hst]; exact h.sl i (hN ▸ hi)
  · rw [hN]; exact there_same h.th hp
  · obtain ⟨n, D, ⟨es, ck, hmb, r⟩, ht⟩ := h.own
    rw [hN, hca]
    exact ⟨n, D, ⟨es, ck, hm.trans hmb, r⟩, ht⟩

/-- A call that is counted: does the power go? -/
def Dsk.call (s : Dsk) : Int × Dsk :=
  if s.fuse = 1 then (9, { s with fuse := 0, down := true })
  else if 0 < s.fuse then (0, { s with fuse := s.fuse - 1, calls := wrap64 (s.calls + 1) })
  else (0, { s with calls := wrap64 (s.calls + 1) })
end Go.Proofs.YtnclhjjhobbbjaaDoor
namespace Go.Proofs.YtnclhjjhobbbjaaDoor
open Go.RowKit Go.Maps
set_option linter.unusedVariables false      -- a walk need not use every condition

theorem wrap_i64 {x : Int} : -9223372036854775808 ≤ wrap64 x ∧ wrap64 x ≤ 9223372036854775807 := by
  unfold wrap64
  omega
set_option maxHeartbeats 800000 in
theorem call44 (w : World) (d pb mb : Nat) (s : Dsk) (h : At w d pb mb s) (hd : s.down = false) :
    Calls Tryd.prog 44 #[.pointer (some ⟨d, 0, none⟩)] w fun e w' => e = .returned (.int .i64 s.call.1) ∧ At w' d pb mb s.call.2 ∧ Kept d pb mb w w' := by
  obtain ⟨c0, c1, c2, c3, c4, fr⟩ := five_of h.blk
  have f2 := fr 2
  have f3 := fr 3
  have f4 := fr 4
  have hfu := h.fu
  have hb := h.blk
  rw [hd] at c2 hb
  have H : Hid (At w d pb mb s) := h
  have HB : Hid (w.heap[d]? = some (.cells #[.slice (some ⟨pb, 0, none⟩) s.N s.N, .map (some mb), .bool false, .int .i64 s.fuse, .int .i64 s.calls] 61)) := hb
  clear h fr hb c0 c1
  unfold Dsk.call
  by_cases h1 : s.fuse = 1
  · rw [if_pos h1]
    rw [h1] at c3
    clear hfu
    go_enter Tryd.func44, Tryd.ntmps44
    go_wp2
    go_ret
    refine ⟨rfl, ?_, ?_⟩
    · refine H.out.turn ?_ ((gr_set w d 3 _).trans (gr_set _ d 2 _)) rfl rfl rfl rfl ⟨by simp, by simp⟩ H.out.cl
      rw [blk_set (blk_set HB.out _) _]
      rfl
    · exact Kept.grown ((gr_set w d 3 _).trans (gr_set _ d 2 _)) (fun k e => by injection e with e; exact .inl e.symm)
  · rw [if_neg h1]
    by_cases h2 : 0 < s.fuse
    · rw [if_pos h2]
      have h3 : IntKind.i64.wrap (s.fuse - 1) = s.fuse - 1 := by
        have := hfu.2
        simp [IntKind.wrap, IntKind.signed, IntKind.bits]
        omega
      have h4 : ¬ (s.fuse - 1 = 0) := by omega
      have HF : Hid (0 < s.fuse ∧ s.fuse ≤ 9223372036854775807) := ⟨h2, hfu.2⟩
      generalize hx : s.fuse = x at *
      go_enter Tryd.func44, Tryd.ntmps44
      go_wp2
      go_ret
      refine ⟨rfl, ?_, ?_⟩
      · refine H.out.turn ?_ (((gr_set w d 3 _).trans (gr_set _ d 2 _)).trans (gr_set _ d 4 _)) rfl rfl rfl rfl ⟨by have := HF.out; simp; omega, by have := HF.out; simp; omega⟩ wrap_i64
        rw [blk_set (blk_set (blk_set HB.out _) _) _]
        simp [hd]
      · exact Kept.grown (((gr_set w d 3 _).trans (gr_set _ d 2 _)).trans (gr_set _ d 4 _)) (fun k e => by injection e with e; exact .inl e.symm)
    · rw [if_neg h2]
      have h0 : s.fuse = 0 := by omega
      rw [h0] at c3
      clear hfu h1 h2
      go_enter Tryd.func44, Tryd.ntmps44
      go_wp2
      go_ret
      refine ⟨rfl, ?_, ?_⟩
      · refine H.out.turn ?_ (gr_set w d 4 _) rfl rfl rfl rfl H.out.fu wrap_i64
        rw [blk_set HB.out _]
        simp [hd]
      · exact Kept.grown (gr_set w d 4 _) (fun k e => by injection e with e; exact .inl e.symm)
end Go.Proofs.YtnclhjjhobbbjaaDoor
namespace Go.Proofs.YtnclhjjhobbbjaaDoor
open Go.RowKit Go.Maps Go.Sort
set_option linter.unusedVariables false      -- a walk need not use every condition

def Dsk.dirty (s : Dsk) : List Nat := (List.range s.N).filter fun k => (s.ca k).isSome
def ints (l : List Nat) : List Int := l.map fun (k : Nat) => (k : Int)
theorem ints_nodup {l : List Nat} (h : l.Nodup) : (ints l).Nodup := by
  unfold ints
  exact List.pairwise_map.2 (h.imp fun {a b} hne e => hne (by omega))
theorem dirty_nodup (s : Dsk) : s.dirty.Nodup := List.Pairwise.filter _ List.nodup_range
theorem dirty_sorted (s : Dsk) : s.dirty.Pairwise (· < ·) := List.Pairwise.filter _ List.pairwise_lt_range
theorem mem_dirty {s : Dsk} {k : Nat} : k ∈ s.dirty ↔ k < s.N ∧ (s.ca k).isSome = true := by simp [Dsk.dirty]
theorem dirty_len (s : Dsk) : s.dirty.length ≤ s.N := by
  have := List.length_filter_le (fun k => (s.ca k).isSome) (List.range s.N)
  simpa [Dsk.dirty] using this
theorem keyed3 : Keyed Tryd.prog 3 := int_keyed Tryd.underlying3
theorem dirty_perm {w : World} {mb n : Nat} {D : DataW (Array Value)} {s : Dsk} (ho : w.ownsMap Tryd.prog 3 secR mb n D) (ht : Tied s.N D s.ca) : (ints s.dirty).Perm (intKeys D) := by
  obtain ⟨es, hD, hpw, -⟩ := ho.entries keyed3
  obtain ⟨es', hD', hko⟩ := ho.keysOf
  obtain rfl : es = es' := by rw [hD] at hD'; simpa using hD'
  subst hD
  refine perm_intKeys hpw (fun p hp => ?_) (ints_nodup (dirty_nodup s)) (fun x => ?_)
  · obtain ⟨v, hv⟩ := hko p hp
    obtain ⟨x, _, hx, _⟩ := Maps.keyOf_i64 Tryd.underlying3 hv
    exact ⟨x, hx⟩
  · constructor
    · intro hx
      obtain ⟨k, hk, rfl⟩ := List.mem_map.1 hx
      obtain ⟨-, hi⟩ := mem_dirty.1 hk
      obtain ⟨bs, hbs⟩ := Option.isSome_iff_exists.1 hi
      exact ht.has k bs hbs
    · intro hx
      obtain ⟨k, rfl, hi⟩ := ht.back x hx
      obtain ⟨bs, hbs⟩ := Option.isSome_iff_exists.1 hi
      exact List.mem_map.2 ⟨k, mem_dirty.2 ⟨ht.lt k bs hbs, hi⟩, rfl⟩
theorem size_keys {es : List (Lit × DataW (Array Value))} : Maps.size (.map es) = (intKeys (.map es)).length := by
  simp [Maps.size, intKeys]
theorem size_dirty {w : World} {mb n : Nat} {D : DataW (Array Value)} {s : Dsk} (ho : w.ownsMap Tryd.prog 3 secR mb n D) (ht : Tied s.N D s.ca) : Maps.size D = s.dirty.length := by
  have hp := dirty_perm ho ht
  obtain ⟨es, rfl, -, -⟩ := ho.entries keyed3
  rw [size_keys, ← hp.length_eq]
  simp [ints]
end Go.Proofs.YtnclhjjhobbbjaaDoor
namespace Go.Proofs.YtnclhjjhobbbjaaDoor
open Go.RowKit Go.Maps Go.ChangeMaps Go.MapKept Go.WideShapes
set_option linter.unusedVariables false      -- a walk need not use every condition
attribute [local go_sem ↓] Go.wp_at_zero Go.wp_at_succ

def upd {α : Type} (f : Nat → α) (k : Nat) (x : α) : Nat → α := fun j => if j = k then x else f j
theorem upd_same {α : Type} (f : Nat → α) (k : Nat) (x : α) : upd f k x k = x := by simp [upd]
theorem upd_other {α : Type} (f : Nat → α) {k j : Nat} (x : α) (h : j ≠ k) : upd f k x j = f j := by simp [upd, h]
theorem isKey (x : Int) : WideAt.IsKeyLit (.int .i64 x) := trivial
theorem lit_ne {a b : Nat} (h : a ≠ b) : (Lit.int .i64 a) ≠ (Lit.int .i64 b) := fun e => by injection e with _ e; omega
theorem Tied.put {N : Nat} {D : DataW (Array Value)} {ca : Nat → Option (List UInt8)} (h : Tied N D ca) (hD : IsMap D) {k : Nat} (hk : k < N) {bs : List UInt8} (hl : bs.length = 128) : Tied N (D.put (.int .i64 k) (.held (encA bs))) (upd ca k (some bs)) := by
  refine ⟨fun x hx => ?_, fun j cs hj => ?_, fun j cs hj => ?_, fun j cs hj => ?_, fun j cs hj => ?_⟩
  · by_cases e : x = k
    · subst e; exact ⟨k, rfl, by rw [upd_same]; rfl⟩
    · rw [has_put_other (fun e' => e (by injection e'))] at hx
      obtain ⟨j, rfl, hj⟩ := h.back x hx
      exact ⟨j, rfl, by rw [upd_other _ _ (fun e' => e (by rw [e']))]; exact hj⟩
  all_goals by_cases e : j = k
  · subst e; exact has_put_same hD (isKey _) _
  · rw [upd_other _ _ e] at hj; rw [has_put_other (lit_ne e)]; exact h.has j cs hj
  · subst e; rw [upd_same] at hj; injection hj with hj; subst hj; exact fun z => atKey_put_same hD (isKey _) _ z
  · rw [upd_other _ _ e] at hj; exact fun z => (atKey_put_other (lit_ne e) _ z).trans (h.at_ j cs hj z)
  · subst e; exact hk
  · rw [upd_other _ _ e] at hj; exact h.lt j cs hj
  · subst e; rw [upd_same] at hj; injection hj with hj; subst hj; exact hl
  · rw [upd_other _ _ e] at hj; exact h.len j cs hj
/-- The cache has turned, and nothing else. -/
theorem At.cache {w w' : World} {d pb mb n : Nat} {s : Dsk} {D : DataW (Array Value)} (h : At w d pb mb s) (hg : w.grownBy w' (some mb)) (ho : w'.ownsMap Tryd.prog 3 secR mb n D) {ca : Nat → Option (List UInt8)} (ht : Tied s.N D ca) : At w' d pb mb { s with ca := ca } := by
  have l := h.lts
  have hd : w'.heap[d]? = w.heap[d]? := hg.block _ l.1 (fun e => l.2.2.2.1 (by injection e with e; exact e.symm))
  have hp : w'.heap[pb]? = w.heap[pb]? := hg.block _ l.2.1 (fun e => l.2.2.2.2 (by injection e with e; exact e.symm))
  exact ⟨hd.trans h.blk, h.ne, h.pos, h.top, fun i hi => rangeAt_same (h.pl i hi) hp, h.sl, there_same h.th hp, ⟨n, D, ho, ht⟩, h.fu, h.cl⟩
theorem gr_drew {w w' : World} {r : Option Nat} (g : w.drew.grownBy w' r) : w.grownBy w' r := ⟨g.os, g.tape, g.output, g.size, g.block⟩
theorem own_size {w : World} {mb n : Nat} {D : DataW (Array Value)} (h : w.ownsMap Tryd.prog 3 secR mb n D) : w.ownsMap Tryd.prog 3 secR mb (Maps.size D) D := by
  obtain ⟨es, ck, hb, F, hs, rfl⟩ := h
  exact ⟨es, ck, hb, F, by simp [Maps.size, length_sorted], rfl⟩

/-- What a write does, where the sector is there and the power too, behind the call. -/
def Dsk.write (s : Dsk) (n : Int) (bs : List UInt8) : Int × Dsk :=
  if s.reach n ≠ 0 then (s.reach n, s) else if s.call.1 ≠ 0 then s.call else (0, { s.call.2 with ca := upd s.call.2.ca n.toNat (some bs) })
set_option maxHeartbeats 1600000 in
set_option maxRecDepth 100000 in
theorem write_ok (w : World) (d pb mb : Nat) (s : Dsk) (h : At w d pb mb s) (k : Nat) (hk : k < s.N) (hd : s.down = false) (hc : s.call.1 = 0) (bs : List UInt8) (hl : bs.length = 128) :
    Calls Tryd.prog 26 #[.pointer (some ⟨d, 0, none⟩), .int .i64 k, .agg (encA bs)] w fun e w' => e = .returned (.int .i64 0) ∧ At w' d pb mb { s.call.2 with ca := upd s.call.2.ca k (some bs) } ∧ Kept d pb mb w w' := by
  have cR := reach43 (w.alloc (.cells (encA bs) 66)) d pb mb s (h.alloc _) k
  have cC := call44 (w.alloc (.cells (encA bs) 66)) d pb mb s (h.alloc _) hd
  have e0 : s.reach k = 0 := by simp [Dsk.reach, hd, Dsk.hasB, hk]
  rw [e0] at cR
  rw [hc] at cC
  have hN : s.call.2.N = s.N := by unfold Dsk.call; split; rfl; split <;> rfl
  have hr : (w.alloc (.cells (encA bs) 66)).rangeAt w.heap.size 0 (enc bs) := range_new w (enc bs) 66
  have hlt := h.lts
  have HK : Hid (k < s.call.2.N) := by rw [hN]; exact hk
  have HW : Hid (d < w.heap.size ∧ pb < w.heap.size ∧ mb < w.heap.size) := ⟨hlt.1, hlt.2.1, hlt.2.2.1⟩
  have hk63 : (Lit.int .i64 (k : Int)).wf = true := by
    have := h.top
    simp [Lit.wf, IntKind.min, IntKind.max, IntKind.signed, IntKind.bits]; omega
  generalize s.call.2 = s' at *
  clear hN hlt h
  go_enter Tryd.func26, Tryd.ntmps26
  go_wp2_with (first
    | (go_at_call 43; refine cR.mono ?_; rintro e w' ⟨rfl, rfl⟩)
    | (go_at_call 44; refine cC.mono ?_; rintro e w1 ⟨rfl, h1, k1⟩))
  obtain ⟨-, cm, -, -, -, -⟩ := five_of h1.blk
  have hw0 := HW.out
  have hr1 : w1.rangeAt w.heap.size 0 (enc bs) := rangeAt_same hr (k1.block _ (by simp) (by omega) (by omega) (by omega))
  obtain ⟨n, D, ho, ht⟩ := h1.own
  have hsz : Maps.size D < maxLen := by
    rw [size_dirty ho ht]
    have := dirty_len s'; have := h1.top
    unfold maxLen; omega
  obtain ⟨w2, hrun, ho2, htn⟩ := (own_size ho).drew.store keyed3 Tryd.underlying59 hsz (keyOf_int_mk Tryd.underlying3 hk63) (show secR (.agg (enc bs).toArray) = some (.held (encA bs), []) from rfl)
  have hu := Tryd.underlying66
  have hi : (Tryd.prog.info? 66).map (·.size) = some (enc bs).length := by rw [size26, len_enc, hl]
  have hD := ho.isMap
  have H1 : Hid (At w1 d pb mb s') := h1
  have HT : Hid (Tied s'.N D s'.ca) := ht
  have HG : Hid (w1.drew.mapTurned w2 mb) := htn
  have HO : Hid (w2.ownsMap Tryd.prog 3 secR mb (Maps.size D + 1) (D.put (.int .i64 k) (.held (encA bs)))) := ho2
  clear h1 ht htn ho2 ho cR cC hr hw0
  have hg2 : w1.grownBy w2 (some mb) := gr_drew HG.out.grown
  have l1 := H1.out.lts
  have cm2 : w2.cell? ⟨d, 1, none⟩ = some (.map (some mb)) := (World.cell?_of_block (w := w1) (a := ⟨d, 1, none⟩) (hg2.block _ l1.1 (fun e => l1.2.2.2.1 (by injection e with e; exact e.symm)))).trans cm
  have hr2 : w2.rangeAt w.heap.size 0 (enc bs) := rangeAt_same hr1 (hg2.block _ (by have := k1.size; simp at this; omega) (fun e => by have := HW.out.2.2; injection e with e; omega))
  have H2 : Hid (w1.grownBy w2 (some mb)) := hg2
  clear hg2 l1
  go_region_held3 (fun w' => w'.cell? ⟨d, 1, none⟩ = some (.map (some mb)) ∧ w'.rangeAt w.heap.size 0 (enc bs)) (first | exact ⟨cm2, hr2⟩ | go_keep | go_keep_ranges) (fail)
  go_wp2
  go_ret
  refine ⟨rfl, H1.out.cache H2.out HO.out (HT.out.put hD HK.out hl), ?_⟩
  exact ((Kept.bel (bel1 w _)).trans k1).trans (Kept.grown H2.out (fun k e => by injection e with e; exact .inr (.inr e.symm)))
set_option maxHeartbeats 800000 in
theorem write_refused (w : World) (d pb mb : Nat) (s : Dsk) (h : At w d pb mb s) (n : Int) (bs : List UInt8) (hr : s.reach n ≠ 0) :
    Calls Tryd.prog 26 #[.pointer (some ⟨d, 0, none⟩), .int .i64 n, .agg (encA bs)] w fun e w' => e = .returned (.int .i64 (s.reach n)) ∧ At w' d pb mb s ∧ Kept d pb mb w w' := by
  have cR := reach43 (w.alloc (.cells (encA bs) 66)) d pb mb s (h.alloc _) n
  have H : Hid (At (w.alloc (.cells (encA bs) 66)) d pb mb s) := h.alloc _
  clear h
  generalize s.reach n = r at *
  go_enter Tryd.func26, Tryd.ntmps26
  go_wp2_with (first
    | (go_at_call 43; refine cR.mono ?_; rintro e w' ⟨rfl, rfl⟩))
  go_ret
  exact ⟨rfl, H.out, Kept.bel (bel1 w _)⟩
set_option maxHeartbeats 800000 in
theorem write_down (w : World) (d pb mb : Nat) (s : Dsk) (h : At w d pb mb s) (n : Int) (bs : List UInt8) (hr : s.reach n = 0) (hc : s.call.1 ≠ 0) :
    Calls Tryd.prog 26 #[.pointer (some ⟨d, 0, none⟩), .int .i64 n, .agg (encA bs)] w fun e w' => e = .returned (.int .i64 s.call.1) ∧ At w' d pb mb s.call.2 ∧ Kept d pb mb w w' := by
  have hd : s.down = false := by
    unfold Dsk.reach at hr
    cases hx : s.down
    · rfl
    · rw [hx] at hr; simp at hr
  have cR := reach43 (w.alloc (.cells (encA bs) 66)) d pb mb s (h.alloc _) n
  have cC := call44 (w.alloc (.cells (encA bs) 66)) d pb mb s (h.alloc _) hd
  rw [hr] at cR
  clear h
  generalize s.call.1 = r at *
  generalize s.call.2 = s' at *
  go_enter Tryd.func26, Tryd.ntmps26
  go_wp2_with (first
    | (go_at_call 43; refine cR.mono ?_; rintro e w' ⟨rfl, rfl⟩)
    | (go_at_call 44; refine cC.mono ?_; rintro e w1 ⟨rfl, h1, k1⟩))
  go_ret
  exact ⟨rfl, h1, (Kept.bel (bel1 w _)).trans k1⟩
theorem reach_zero {s : Dsk} {n : Int} (hr : s.reach n = 0) : s.down = false ∧ ∃ k : Nat, n = k ∧ k < s.N := by
  unfold Dsk.reach Dsk.hasB at hr
  cases hx : s.down
  · rw [hx] at hr
    refine ⟨rfl, n.toNat, ?_⟩
    by_cases h0 : 0 ≤ n <;> by_cases h1 : n < s.N <;> simp [h0, h1] at hr
    omega
  · rw [hx] at hr; simp at hr
theorem write26 (w : World) (d pb mb : Nat) (s : Dsk) (h : At w d pb mb s) (n : Int) (bs : List UInt8) (hl : bs.length = 128) :
    Calls Tryd.prog 26 #[.pointer (some ⟨d, 0, none⟩), .int .i64 n, .agg (encA bs)] w fun e w' => e = .returned (.int .i64 (s.write n bs).1) ∧ At w' d pb mb (s.write n bs).2 ∧ Kept d pb mb w w' := by
  unfold Dsk.write
  by_cases hr : s.reach n = 0
  · rw [if_neg (fun e => e hr)]
    by_cases hc : s.call.1 = 0
    · rw [if_neg (fun e => e hc)]
      obtain ⟨hd, k, rfl, hk⟩ := reach_zero hr
      exact write_ok w d pb mb s h k hk hd hc bs hl
    · rw [if_pos hc]
      exact write_down w d pb mb s h n bs hr hc
  · rw [if_pos hr]
    exact write_refused w d pb mb s h n bs hr
end Go.Proofs.YtnclhjjhobbbjaaDoor
