/-
  For every number n, text s, number u and bytes b: Parse of Text is n; where Parse takes s, Text of what it says is s; Take of Put of u with b behind is u; Zag of Zig is n, and Zig of Zag is u; no condition on the inputs; the listed variables of Go's library read as the program's text lays them (a tied card).
-/
import Derived.Test.YtphkleiamlllgaaDoorRows
import Derived.Test.YtphkleiamlllgaaDoorTie
import Derived.Test.YtphkleiamlllgaaDoorCards
import Derived.Test.YtphkleiamlllgaaDoorBackMath
import Derived.Test.YtphkleiamlllgaaDoorTakeB
import Derived.Test.YtphkleiamlllgaaDoorZig
import Derived.Test.YtphkleiamlllgaaDoorLaid
import Derived.SevenTiedAt
import Derived.Stop.Joined
import Derived.SizedLaws
import Derived.Laws.AppendOwnNone
import Derived.WalkKit
import Derived.ProofKit
import Derived.OpenShut
import Derived.ShutString
import Derived.ChangeOld
import Derived.Below
namespace Go.Proofs.YtphkleiamlllgaaDoor.numBack
open Go.ChangeShapes Go.WideShapes Go.ChangeAt Go.RowKit
open Go.ChangeMaps (open_string shut_string)
set_option linter.unusedVariables false

theorem own : ownKnob Tryd.prog.godebug = none := by kernel_rfl
theorem bytes5 : Tryd.prog.bytesOf 5 = 1 := by kernel_rfl
theorem laidOut : laidOutB Tryd.prog = true := by kernel_rfl

/-- WHAT THE WALK IS TOLD OF A SLICE OF INTEGERS THAT CAME IN: it is nil; or it leads to a row of 'cap' cells, the numbers 'zs' (the first 'len' are its elements, the rest its spare room), each fitting its kind. -/
def IsRow (k : IntKind) (w : World) (a : Option Addr) (len cap : Nat) (zs : List Int) : Prop :=
  (a = none ∧ len = 0 ∧ cap = 0 ∧ zs = []) ∨
  ∃ x, a = some x ∧ len ≤ cap ∧ cap ≤ 140737488351232 ∧ zs.length = cap ∧ (∀ i, i < zs.length → w.cell? (x.add i) = some (.int k (zs.getD i 0))) ∧ ∀ n ∈ zs, (Lit.int k n).wf = true

theorem fits_wf {a : Int} (h : (Lit.int .i64 a).wf = true) : fits a = true := by
  rw [fits_iff]
  simpa [Lit.wf, IntKind.min, IntKind.max, IntKind.signed, IntKind.bits] using h
theorem nat_wf {a : Int} (h : (Lit.int .u64 a).wf = true) : ∃ n : Nat, a = n ∧ n < 18446744073709551616 := by
  have hh : 0 ≤ a ∧ a ≤ 18446744073709551615 := by simpa [Lit.wf, IntKind.min, IntKind.max, IntKind.signed, IntKind.bits] using h
  exact ⟨a.toNat, by omega, by omega⟩
theorem bel_on {a w w' : World} (h : Below a.heap.size a w) (k : Below w.heap.size w w') : Below a.heap.size a w' := h.trans (k.mono h.size)

theorem numParse_at (s : ByteArray) (w : World) (hs : s.size ≤ 140737488351232) (hR : RangeOk w) :
    Calls Tryd.prog 5 #[.string s] w fun e w' => e = .returned (.tuple #[.int .i64 (pv s.data.toList), .int .i64 (pe s.data.toList)]) ∧ Below w.heap.size w w' := by
  obtain ⟨tp, p, hv⟩ := hR
  exact numParse_any s w hs tp p hv

def U64 (x : Int) : Prop := 0 ≤ x ∧ x < 18446744073709551616
theorem zag_at (x : Int) (h : U64 x) (w : World) : Calls Tryd.prog 15 #[.int .u64 x] w fun e w' => e = .returned (.int .i64 (zag x)) ∧ w' = w := zag_any x h.1 h.2 w

theorem text_back (n : Int) (hn : fits n = true) : pv (Lib.itoa n) = n ∧ pe (Lib.itoa n) = 0 := by
  obtain ⟨h1, h2⟩ := form_itoa n
  have := ends_ok h1 (by rw [h2]; exact hn)
  rw [h2] at this
  exact this
theorem text_size (n : Int) (hn : fits n = true) : (⟨(Lib.itoa n).toArray⟩ : ByteArray).size ≤ 140737488351232 := by
  obtain ⟨h1, h2⟩ := (fits_iff n).1 hn
  have := Lib.itoa_length_le n h1 h2
  show ((Lib.itoa n).toArray).size ≤ _
  rw [List.size_toArray]; omega

theorem src_cells {w : World} (len : Nat) (zs : List Int) (x : Addr) (hl : len ≤ zs.length) (hc : ∀ i, i < zs.length → w.cell? (x.add i) = some (.int .u8 (zs.getD i 0))) :
    ∀ j u, ((zs.take len).map (Value.int .u8))[j]? = some u → w.cell? (x.add j) = some u := fun j u hj => by
  have hjl : j < (zs.take len).length := by
    have := (List.getElem?_eq_some_iff.1 hj).1
    simpa using this
  have hj2 : j < zs.length := by simp at hjl; omega
  rw [hc j hj2]
  rw [List.getElem?_map, List.getElem?_eq_getElem hjl] at hj
  simp at hj
  rw [← hj]
  simp [List.getD, hj2]
theorem cells_on {a w : World} {x : Addr} {news : List Value} (h : Below a.heap.size a w) (hc : ∀ j u, news[j]? = some u → a.cell? (x.add j) = some u) :
    ∀ j u, news[j]? = some u → w.cell? (x.add j) = some u := fun j u hj => by
  have h1 := hc j u hj
  exact (h.cell (World.block_lt_of_cell? _ _ h1)).trans h1
theorem ones_u8 (zs : List Int) : ∀ u ∈ zs.map (Value.int .u8), u.oneCell' = true := fun u hu => by
  obtain ⟨z, _, rfl⟩ := List.mem_map.1 hu; rfl

theorem owned_shape {w : World} {B : Nat} {v : Value} {E : List Int} {m : Nat} {news : List Value} (h : w.ownsRow B 5 1 v (E.length + m) (E.map (Value.int .u8) ++ news)) (hp : 0 < E.length + m) :
    ∃ g cap, v = .slice (some ⟨g, 0, none⟩) (E.length + m) cap ∧ E.length + m ≤ cap ∧ ∀ i, i < E.length → w.cell? ⟨g, 0 + i, none⟩ = some (.int .u8 (E.getD i 0)) := by
  have h0 := h
  rcases h.2 with ⟨_, hz⟩ | ⟨g, cap, cur, rfl, _, _, hnc, _⟩
  · omega
  · refine ⟨g, cap, rfl, hnc, fun i hi => ?_⟩
    rw [Nat.zero_add, h0.cellAt i (by omega), List.getElem?_append_left (by simpa using hi)]
    simp [List.getD, hi]

theorem lies_of {w : World} {g : Nat} (u : Nat) (hu : u < 18446744073709551616) (E : List Int) (hE : enc u = E) (hc : ∀ i, i < E.length → w.cell? ⟨g, 0 + i, none⟩ = some (.int .u8 (E.getD i 0))) : Lies w g E E.length := by
  subst hE
  obtain ⟨l0, l1, l2, l3⟩ := enc_last u hu
  exact ⟨rfl, enc_pos u, enc_le u, hc, fun i hi => enc_more u hu i hi, l0, l1, l2, l3⟩

set_option maxHeartbeats 4000000 in
theorem walk_ok_some (a0 : Int) (a1 : ByteArray) (u : Nat) (w : World) (f0 : fits a0 = true) (h1 : a1.size ≤ 140737488351232) (hu : u < 18446744073709551616) (hT : TabOk w) (hR : RangeOk w) (hf : form a1.data.toList = true) (hx : fits (sval a1.data.toList) = true) (len3 cap3 : Nat) (z3 : List Int) (x : Addr) (hl3 : len3 ≤ cap3) (hcap3 : cap3 ≤ 140737488351232) (hz3 : z3.length = cap3) (hc3 : ∀ i, i < z3.length → w.cell? (x.add i) = some (.int .u8 (z3.getD i 0))) :
    Calls Tryd.prog 4 #[.int .i64 a0, .string a1, .int .u64 u, .slice (some x) len3 cap3] w fun e w' => e = .returned (.bool true) ∧ Below w.heap.size w w' := by
  obtain ⟨i0, hi, hz0, hz1, hz2⟩ := info_parts info5
  obtain ⟨t1, t2⟩ := text_back a0 f0
  have hs0 := text_size a0 f0
  obtain ⟨E, hE⟩ : ∃ E, enc u = E := ⟨_, rfl⟩
  have c12 := put_told u hu
  have hL10 := enc_le u
  have hLp := enc_pos u
  obtain ⟨hfull, _, hgr⟩ := enc_spec u hu
  rw [hE] at c12 hL10 hLp hfull hgr
  have hgrp : ∀ k, k < E.length → E.getD k 0 % 128 = ((u / 128 ^ k % 128 : Nat) : Int) := fun k hk => by
    rw [hgr k hk]; split <;> omega
  have z1 : U64 (zig a0) := zig_bd a0 f0
  have z3' := zag_fits (u : Int) (by omega) (by omega)
  have z4 := zag_zig a0
  have z5 := zig_zag (u : Int) (by omega)
  have z6 : U64 (u : Int) := ⟨by omega, by omega⟩
  have hB0 : Below w.heap.size w w := Below.refl _ _
  obtain ⟨q1, q2⟩ := ends_ok hf hx
  obtain ⟨y, hy⟩ : ∃ y, sval a1.data.toList = y := ⟨_, rfl⟩
  have hyt : (⟨(Lib.itoa y).toArray⟩ : ByteArray) = a1 := by
    rw [← hy, itoa_form _ hf]
  rw [hy] at q1 hx
  clear hf hy
  have hnews := src_cells len3 z3 x (by omega) hc3
  have hone := ones_u8 (z3.take len3)
  have hnl : ((z3.take len3).map (Value.int .u8)).length = len3 * 1 := by simp; omega
  have H1 := Lib.hid hnews
  have H2 := Lib.hid hone
  have H3 := Lib.hid hnl
  clear hnews hone hnl hc3
  have HG := Lib.hid hgrp
  have HE := Lib.hid hE
  have HF := Lib.hid hfull
  clear hgr hgrp hE hfull
  go_enter Tryd.func4, Tryd.ntmps4
  go_wp2_with (first
    | (go_at_call 7; refine (numText_any _ (by assumption) _ (by assumption)).mono ?_; rintro e wn ⟨rfl, hbn⟩; have hTn := tab_on (by assumption) hbn; have hRn := range_on (by assumption) hbn; have hBn := bel_on (a := w) (by assumption) hbn; clear hbn)
    | (go_at_call 5; refine (numParse_at _ _ (by assumption) (by assumption)).mono ?_; rintro e wn ⟨rfl, hbn⟩; have hTn := tab_on (by assumption) hbn; have hRn := range_on (by assumption) hbn; have hBn := bel_on (a := w) (by assumption) hbn; clear hbn)
    | (go_at_call 12; refine (c12 _).mono ?_; rintro e w5 ⟨g, cap, rfl, hcap, hg, hpc, hbn⟩; have hTn := tab_on (by assumption) hbn; have hRn := range_on (by assumption) hbn; have hBn := bel_on (a := w) (by assumption) hbn; clear hbn)
    | (go_at_call 14; refine (clone_some g _ cap E rfl hL10 w5 hpc).mono ?_; rintro e w6 ⟨v, rfl, hcl, hb6⟩; have hB6 := bel_on (a := w) (by assumption) hb6)
    | (at_builtin; refine wpList_append_own _ rfl _ _ 31 rfl _ 5 i0 (.int .u8 0) 1 1 Tryd.underlying31 hi hz0 hz1 hz2 rfl (by decide) _ _ _ rfl hcl x len3 cap3 ((z3.take len3).map (Value.int .u8)) rfl H3.out (cells_on (by assumption) H1.out) H2.out (by unfold maxLen; omega) (by omega) hb6.size ?_)
    | go_in)
  have hgrp := HG.out
  have hE := HE.out
  have hfull := HF.out
  intro v7 w7 hown7 hgrow7 _
  have hsh := owned_shape hown7 (by omega)
  obtain ⟨g7, cap7, hv7, hcap7, hcell7⟩ := hsh
  subst hv7
  have hlies : Lies w7 g7 E E.length := lies_of u hu E hE hcell7
  have hb7 : Below w5.heap.size w5 w7 := hb6.grown hgrow7 hb6.size (fun k e => (hcl.lt k e).1)
  have hB7 := bel_on (a := w) (by assumption) hb7
  have c13 := take_any g7 (E.length + len3) cap7 E.length u E w7 hlies (by omega) (by omega) hcap7 hu hgrp hfull
  clear hcl hpc hlies hgrp hE hfull HG HE HF c12 hcell7
  go_wp2_with (first
    | (go_at_call 13; refine c13.mono ?_; rintro e w' ⟨rfl, rfl⟩; clear c13)
    | (go_at_call 16; refine (zig_any _ (by assumption) _).mono ?_; rintro e w' ⟨rfl, rfl⟩)
    | (go_at_call 15; refine (zag_at _ (by assumption) _).mono ?_; rintro e w' ⟨rfl, rfl⟩))
  go_ret
  exact ⟨rfl, hB7⟩

set_option maxHeartbeats 4000000 in
theorem walk_ok_none (a0 : Int) (a1 : ByteArray) (u : Nat) (w : World) (f0 : fits a0 = true) (h1 : a1.size ≤ 140737488351232) (hu : u < 18446744073709551616) (hT : TabOk w) (hR : RangeOk w) (hf : form a1.data.toList = true) (hx : fits (sval a1.data.toList) = true)  :
    Calls Tryd.prog 4 #[.int .i64 a0, .string a1, .int .u64 u, .slice none 0 0] w fun e w' => e = .returned (.bool true) ∧ Below w.heap.size w w' := by
  obtain ⟨i0, hi, hz0, hz1, hz2⟩ := info_parts info5
  obtain ⟨t1, t2⟩ := text_back a0 f0
  have hs0 := text_size a0 f0
  obtain ⟨E, hE⟩ : ∃ E, enc u = E := ⟨_, rfl⟩
  have c12 := put_told u hu
  have hL10 := enc_le u
  have hLp := enc_pos u
  obtain ⟨hfull, _, hgr⟩ := enc_spec u hu
  rw [hE] at c12 hL10 hLp hfull hgr
  have hgrp : ∀ k, k < E.length → E.getD k 0 % 128 = ((u / 128 ^ k % 128 : Nat) : Int) := fun k hk => by
    rw [hgr k hk]; split <;> omega
  have z1 : U64 (zig a0) := zig_bd a0 f0
  have z3' := zag_fits (u : Int) (by omega) (by omega)
  have z4 := zag_zig a0
  have z5 := zig_zag (u : Int) (by omega)
  have z6 : U64 (u : Int) := ⟨by omega, by omega⟩
  have hB0 : Below w.heap.size w w := Below.refl _ _
  obtain ⟨q1, q2⟩ := ends_ok hf hx
  obtain ⟨y, hy⟩ : ∃ y, sval a1.data.toList = y := ⟨_, rfl⟩
  have hyt : (⟨(Lib.itoa y).toArray⟩ : ByteArray) = a1 := by
    rw [← hy, itoa_form _ hf]
  rw [hy] at q1 hx
  clear hf hy
  have HG := Lib.hid hgrp
  have HE := Lib.hid hE
  have HF := Lib.hid hfull
  clear hgr hgrp hE hfull
  go_enter Tryd.func4, Tryd.ntmps4
  go_wp2_with (first
    | (go_at_call 7; refine (numText_any _ (by assumption) _ (by assumption)).mono ?_; rintro e wn ⟨rfl, hbn⟩; have hTn := tab_on (by assumption) hbn; have hRn := range_on (by assumption) hbn; have hBn := bel_on (a := w) (by assumption) hbn; clear hbn)
    | (go_at_call 5; refine (numParse_at _ _ (by assumption) (by assumption)).mono ?_; rintro e wn ⟨rfl, hbn⟩; have hTn := tab_on (by assumption) hbn; have hRn := range_on (by assumption) hbn; have hBn := bel_on (a := w) (by assumption) hbn; clear hbn)
    | (go_at_call 12; refine (c12 _).mono ?_; rintro e w5 ⟨g, cap, rfl, hcap, hg, hpc, hbn⟩; have hTn := tab_on (by assumption) hbn; have hRn := range_on (by assumption) hbn; have hBn := bel_on (a := w) (by assumption) hbn; clear hbn)
    | (go_at_call 14; refine (clone_some g _ cap E rfl hL10 w5 hpc).mono ?_; rintro e w6 ⟨v, rfl, hcl, hb6⟩; have hB6 := bel_on (a := w) (by assumption) hb6)
    | (at_builtin; refine wpList_append_own_none rfl _ _ 31 rfl _ 5 i0 1 Tryd.underlying31 hi _ _ _ rfl hcl rfl ?_; refine Hid.out ?_)
    | go_in)
  have hgrp := HG.out
  have hE := HE.out
  have hfull := HF.out
  refine Lib.hid ?_
  have hown7 : w6.ownsRow w5.heap.size 5 1 v (E.length + 0) (E.map (Value.int .u8) ++ []) := by rw [Nat.add_zero, List.append_nil]; exact hcl
  have hsh := owned_shape hown7 (by omega)
  obtain ⟨g7, cap7, hv7, hcap7, hcell7⟩ := hsh
  rw [Nat.add_zero] at hv7 hcap7
  subst hv7
  have hlies : Lies w6 g7 E E.length := lies_of u hu E hE hcell7
  have hB7 := bel_on (a := w) (by assumption) hb6
  have c13 := take_any g7 E.length cap7 E.length u E w6 hlies (by omega) (by omega) hcap7 hu hgrp hfull
  clear hcl hpc hlies hgrp hE hfull HG HE HF c12 hcell7
  go_wp2_with (first
    | (go_at_call 13; refine c13.mono ?_; rintro e w' ⟨rfl, rfl⟩; clear c13)
    | (go_at_call 16; refine (zig_any _ (by assumption) _).mono ?_; rintro e w' ⟨rfl, rfl⟩)
    | (go_at_call 15; refine (zag_at _ (by assumption) _).mono ?_; rintro e w' ⟨rfl, rfl⟩))
  go_ret
  exact ⟨rfl, hB7⟩

set_option maxHeartbeats 4000000 in
theorem walk_no_some (a0 : Int) (a1 : ByteArray) (u : Nat) (w : World) (f0 : fits a0 = true) (h1 : a1.size ≤ 140737488351232) (hu : u < 18446744073709551616) (hT : TabOk w) (hR : RangeOk w) (hpe : (pe a1.data.toList == 0) = false) (len3 cap3 : Nat) (z3 : List Int) (x : Addr) (hl3 : len3 ≤ cap3) (hcap3 : cap3 ≤ 140737488351232) (hz3 : z3.length = cap3) (hc3 : ∀ i, i < z3.length → w.cell? (x.add i) = some (.int .u8 (z3.getD i 0))) :
    Calls Tryd.prog 4 #[.int .i64 a0, .string a1, .int .u64 u, .slice (some x) len3 cap3] w fun e w' => e = .returned (.bool true) ∧ Below w.heap.size w w' := by
  obtain ⟨i0, hi, hz0, hz1, hz2⟩ := info_parts info5
  obtain ⟨t1, t2⟩ := text_back a0 f0
  have hs0 := text_size a0 f0
  obtain ⟨E, hE⟩ : ∃ E, enc u = E := ⟨_, rfl⟩
  have c12 := put_told u hu
  have hL10 := enc_le u
  have hLp := enc_pos u
  obtain ⟨hfull, _, hgr⟩ := enc_spec u hu
  rw [hE] at c12 hL10 hLp hfull hgr
  have hgrp : ∀ k, k < E.length → E.getD k 0 % 128 = ((u / 128 ^ k % 128 : Nat) : Int) := fun k hk => by
    rw [hgr k hk]; split <;> omega
  have z1 : U64 (zig a0) := zig_bd a0 f0
  have z3' := zag_fits (u : Int) (by omega) (by omega)
  have z4 := zag_zig a0
  have z5 := zig_zag (u : Int) (by omega)
  have z6 : U64 (u : Int) := ⟨by omega, by omega⟩
  have hB0 : Below w.heap.size w w := Below.refl _ _
  have hnews := src_cells len3 z3 x (by omega) hc3
  have hone := ones_u8 (z3.take len3)
  have hnl : ((z3.take len3).map (Value.int .u8)).length = len3 * 1 := by simp; omega
  have H1 := Lib.hid hnews
  have H2 := Lib.hid hone
  have H3 := Lib.hid hnl
  clear hnews hone hnl hc3
  have HG := Lib.hid hgrp
  have HE := Lib.hid hE
  have HF := Lib.hid hfull
  clear hgr hgrp hE hfull
  go_enter Tryd.func4, Tryd.ntmps4
  go_wp2_with (first
    | (go_at_call 7; refine (numText_any _ (by assumption) _ (by assumption)).mono ?_; rintro e wn ⟨rfl, hbn⟩; have hTn := tab_on (by assumption) hbn; have hRn := range_on (by assumption) hbn; have hBn := bel_on (a := w) (by assumption) hbn; clear hbn)
    | (go_at_call 5; refine (numParse_at _ _ (by assumption) (by assumption)).mono ?_; rintro e wn ⟨rfl, hbn⟩; have hTn := tab_on (by assumption) hbn; have hRn := range_on (by assumption) hbn; have hBn := bel_on (a := w) (by assumption) hbn; clear hbn)
    | (go_at_call 12; refine (c12 _).mono ?_; rintro e w5 ⟨g, cap, rfl, hcap, hg, hpc, hbn⟩; have hTn := tab_on (by assumption) hbn; have hRn := range_on (by assumption) hbn; have hBn := bel_on (a := w) (by assumption) hbn; clear hbn)
    | (go_at_call 14; refine (clone_some g _ cap E rfl hL10 w5 hpc).mono ?_; rintro e w6 ⟨v, rfl, hcl, hb6⟩; have hB6 := bel_on (a := w) (by assumption) hb6)
    | (at_builtin; refine wpList_append_own _ rfl _ _ 31 rfl _ 5 i0 (.int .u8 0) 1 1 Tryd.underlying31 hi hz0 hz1 hz2 rfl (by decide) _ _ _ rfl hcl x len3 cap3 ((z3.take len3).map (Value.int .u8)) rfl H3.out (cells_on (by assumption) H1.out) H2.out (by unfold maxLen; omega) (by omega) hb6.size ?_)
    | go_in)
  have hgrp := HG.out
  have hE := HE.out
  have hfull := HF.out
  intro v7 w7 hown7 hgrow7 _
  have hsh := owned_shape hown7 (by omega)
  obtain ⟨g7, cap7, hv7, hcap7, hcell7⟩ := hsh
  subst hv7
  have hlies : Lies w7 g7 E E.length := lies_of u hu E hE hcell7
  have hb7 : Below w5.heap.size w5 w7 := hb6.grown hgrow7 hb6.size (fun k e => (hcl.lt k e).1)
  have hB7 := bel_on (a := w) (by assumption) hb7
  have c13 := take_any g7 (E.length + len3) cap7 E.length u E w7 hlies (by omega) (by omega) hcap7 hu hgrp hfull
  clear hcl hpc hlies hgrp hE hfull HG HE HF c12 hcell7
  go_wp2_with (first
    | (go_at_call 13; refine c13.mono ?_; rintro e w' ⟨rfl, rfl⟩; clear c13)
    | (go_at_call 16; refine (zig_any _ (by assumption) _).mono ?_; rintro e w' ⟨rfl, rfl⟩)
    | (go_at_call 15; refine (zag_at _ (by assumption) _).mono ?_; rintro e w' ⟨rfl, rfl⟩))
  go_ret
  exact ⟨rfl, hB7⟩

set_option maxHeartbeats 4000000 in
theorem walk_no_none (a0 : Int) (a1 : ByteArray) (u : Nat) (w : World) (f0 : fits a0 = true) (h1 : a1.size ≤ 140737488351232) (hu : u < 18446744073709551616) (hT : TabOk w) (hR : RangeOk w) (hpe : (pe a1.data.toList == 0) = false)  :
    Calls Tryd.prog 4 #[.int .i64 a0, .string a1, .int .u64 u, .slice none 0 0] w fun e w' => e = .returned (.bool true) ∧ Below w.heap.size w w' := by
  obtain ⟨i0, hi, hz0, hz1, hz2⟩ := info_parts info5
  obtain ⟨t1, t2⟩ := text_back a0 f0
  have hs0 := text_size a0 f0
  obtain ⟨E, hE⟩ : ∃ E, enc u = E := ⟨_, rfl⟩
  have c12 := put_told u hu
  have hL10 := enc_le u
  have hLp := enc_pos u
  obtain ⟨hfull, _, hgr⟩ := enc_spec u hu
  rw [hE] at c12 hL10 hLp hfull hgr
  have hgrp : ∀ k, k < E.length → E.getD k 0 % 128 = ((u / 128 ^ k % 128 : Nat) : Int) := fun k hk => by
    rw [hgr k hk]; split <;> omega
  have z1 : U64 (zig a0) := zig_bd a0 f0
  have z3' := zag_fits (u : Int) (by omega) (by omega)
  have z4 := zag_zig a0
  have z5 := zig_zag (u : Int) (by omega)
  have z6 : U64 (u : Int) := ⟨by omega, by omega⟩
  have hB0 : Below w.heap.size w w := Below.refl _ _
  have HG := Lib.hid hgrp
  have HE := Lib.hid hE
  have HF := Lib.hid hfull
  clear hgr hgrp hE hfull
  go_enter Tryd.func4, Tryd.ntmps4
  go_wp2_with (first
    | (go_at_call 7; refine (numText_any _ (by assumption) _ (by assumption)).mono ?_; rintro e wn ⟨rfl, hbn⟩; have hTn := tab_on (by assumption) hbn; have hRn := range_on (by assumption) hbn; have hBn := bel_on (a := w) (by assumption) hbn; clear hbn)
    | (go_at_call 5; refine (numParse_at _ _ (by assumption) (by assumption)).mono ?_; rintro e wn ⟨rfl, hbn⟩; have hTn := tab_on (by assumption) hbn; have hRn := range_on (by assumption) hbn; have hBn := bel_on (a := w) (by assumption) hbn; clear hbn)
    | (go_at_call 12; refine (c12 _).mono ?_; rintro e w5 ⟨g, cap, rfl, hcap, hg, hpc, hbn⟩; have hTn := tab_on (by assumption) hbn; have hRn := range_on (by assumption) hbn; have hBn := bel_on (a := w) (by assumption) hbn; clear hbn)
    | (go_at_call 14; refine (clone_some g _ cap E rfl hL10 w5 hpc).mono ?_; rintro e w6 ⟨v, rfl, hcl, hb6⟩; have hB6 := bel_on (a := w) (by assumption) hb6)
    | (at_builtin; refine wpList_append_own_none rfl _ _ 31 rfl _ 5 i0 1 Tryd.underlying31 hi _ _ _ rfl hcl rfl ?_; refine Hid.out ?_)
    | go_in)
  have hgrp := HG.out
  have hE := HE.out
  have hfull := HF.out
  refine Lib.hid ?_
  have hown7 : w6.ownsRow w5.heap.size 5 1 v (E.length + 0) (E.map (Value.int .u8) ++ []) := by rw [Nat.add_zero, List.append_nil]; exact hcl
  have hsh := owned_shape hown7 (by omega)
  obtain ⟨g7, cap7, hv7, hcap7, hcell7⟩ := hsh
  rw [Nat.add_zero] at hv7 hcap7
  subst hv7
  have hlies : Lies w6 g7 E E.length := lies_of u hu E hE hcell7
  have hB7 := bel_on (a := w) (by assumption) hb6
  have c13 := take_any g7 E.length cap7 E.length u E w6 hlies (by omega) (by omega) hcap7 hu hgrp hfull
  clear hcl hpc hlies hgrp hE hfull HG HE HF c12 hcell7
  go_wp2_with (first
    | (go_at_call 13; refine c13.mono ?_; rintro e w' ⟨rfl, rfl⟩; clear c13)
    | (go_at_call 16; refine (zig_any _ (by assumption) _).mono ?_; rintro e w' ⟨rfl, rfl⟩)
    | (go_at_call 15; refine (zag_at _ (by assumption) _).mono ?_; rintro e w' ⟨rfl, rfl⟩))
  go_ret
  exact ⟨rfl, hB7⟩

theorem walk_text (a0 : Int) (a1 : ByteArray) (u : Nat) (a3 : Option Addr) (len3 cap3 : Nat) (z3 : List Int) (w : World) (f0 : fits a0 = true) (h1 : a1.size ≤ 140737488351232) (hu : u < 18446744073709551616) (w3 : IsRow .u8 w a3 len3 cap3 z3) (hT : TabOk w) (hR : RangeOk w) :
    Calls Tryd.prog 4 #[.int .i64 a0, .string a1, .int .u64 u, .slice a3 len3 cap3] w fun e w' => e = .returned (.bool true) ∧ Below w.heap.size w w' := by
  by_cases hok : form a1.data.toList = true ∧ fits (sval a1.data.toList) = true
  · rcases w3 with ⟨rfl, rfl, rfl, _⟩ | ⟨x, rfl, hl, hcap, hz, hc, _⟩
    · exact walk_ok_none a0 a1 u w f0 h1 hu hT hR hok.1 hok.2
    · exact walk_ok_some a0 a1 u w f0 h1 hu hT hR hok.1 hok.2 len3 cap3 z3 x hl hcap hz hc
  · have hpe : (pe a1.data.toList == 0) = false := by
      unfold pe
      rcases Bool.eq_false_or_eq_true (form a1.data.toList) with hf | hf
      · rcases Bool.eq_false_or_eq_true (fits (sval a1.data.toList)) with hx | hx
        · exact absurd ⟨hf, hx⟩ hok
        · rw [hf, hx]; rfl
      · rw [hf]; rfl
    rcases w3 with ⟨rfl, rfl, rfl, _⟩ | ⟨x, rfl, hl, hcap, hz, hc, _⟩
    · exact walk_no_none a0 a1 u w f0 h1 hu hT hR hpe
    · exact walk_no_some a0 a1 u w f0 h1 hu hT hR hpe len3 cap3 z3 x hl hcap hz hc

theorem walk (a0 : Int) (a1 : ByteArray) (a2 : Int) (a3 : Option Addr) (len3 cap3 : Nat) (z3 : List Int) (w : World) (w0 : (Lit.int .i64 a0).wf = true) (h1 : a1.size ≤ 140737488351232) (w2 : (Lit.int .u64 a2).wf = true) (w3 : IsRow .u8 w a3 len3 cap3 z3) (hT : TabOk w) (hR : RangeOk w) :
    Calls Tryd.prog 4 #[.int .i64 a0, .string a1, .int .u64 a2, .slice a3 len3 cap3] w fun e w' => e = .returned (.bool true) ∧ Below w.heap.size w w' := by
  obtain ⟨u, rfl, hu⟩ := nat_wf w2
  exact walk_text a0 a1 u a3 len3 cap3 z3 w (fits_wf w0) h1 hu w3 hT hR

/-! ### THE ROW's STEP: WRITTEN OUT: LEAVE IT -/
set_option maxRecDepth 100000 in
theorem lifted (os : Os) (started : os.Started) (H : Type) (enc : TypeId × Value → H) :
    ReturnsInHanded {} Tryd.checked os 4 .any (fun w args => (Rows.numBackSpec.pre enc Tryd.prog Tryd.f4 [] false w args ∧ laidMetH Tryd.prog laid5 w) ∧ sizedMet enc Tryd.prog Tryd.f4 (OpenSpec.ofChange Rows.numBackSpec) false w args) (Rows.numBackSpec.post enc Tryd.prog Tryd.f4 false true false false) := by
  refine returnsInHanded_of_change_and (C := Tryd.checked) (X := fun w _ => laidMetH Tryd.prog laid5 w) (fun _ _ _ hh h => h.of_heap hh) own started (by kernel_rfl) Tryd.func4
    (ChangeSpec.witness_shaped (enc := enc) (C := Tryd.checked) (os := os) (X := fun w _ => laidMetH Tryd.prog laid5 w) false (World.doorLaid Tryd.prog 400 os) #[.int .i64 0, .string ByteArray.empty, .int .u64 0, .slice none 0 0] 8 rfl (World.shaped_of_RefB (by kernel_rfl) (by kernel_rfl)) (by kernel_rfl) (by kernel_rfl) (by kernel_rfl) (door_met os _)) ?_
  intro W base args ds gs before hval0 hW _ hsz0 hL _
  have hsz : (DataW.weightsEach Tryd.prog (Tryd.f4.params.toList ++ Rows.numBackSpec.plain.varTypes Tryd.prog) (ds ++ gs)).all (· ≤ reachBytes) = true := hsz0
  obtain ⟨hT, hR⟩ := of_laid hL
  clear hsz0 hL
  have hval : ∀ (j : Nat) t v, Tryd.f4.params[j]? = some t → args[j]? = some v → Value.okWide Tryd.prog W .any base t v := hval0
  have hW' := hW
  obtain ⟨p, q, hA0, hV, rfl, hfz, hnd⟩ := hW
  have hA : DataW.TrodAll enc Tryd.prog W 0 (fun _ => true) true Tryd.f4.params.toList args.toList ds p := hA0
  rw [Tryd.params4] at hA hval hsz
  obtain ⟨v0, vs0, d0, ds0, p0, q0, hargs, rfl, rfl, h0, r0⟩ := trodAll_cons hA
  obtain ⟨v1, vs1, d1, ds1, p1, q1, rfl, rfl, rfl, h1, r1⟩ := trodAll_cons r0
  obtain ⟨v2, vs2, d2, ds2, p2, q2, rfl, rfl, rfl, h2, r2⟩ := trodAll_cons r1
  obtain ⟨v3, vs3, d3, ds3, p3, q3, rfl, rfl, rfl, h3, r3⟩ := trodAll_cons r2
  obtain ⟨rfl, rfl, rfl⟩ := trodAll_nil r3
  obtain rfl : args = #[v0, v1, v2, v3] := by cases args; simp_all
  obtain ⟨rfl, rfl⟩ := trodVars_none hV
  obtain ⟨a0, rfl, rfl, rfl, w0⟩ := open_int Tryd.underlying2 (hval 0 2 v0 rfl rfl) h0
  obtain ⟨a1, rfl, rfl, rfl, w1⟩ := open_string Tryd.underlying9 (hval 1 9 v1 rfl rfl) h1
  obtain ⟨a2, rfl, rfl, rfl, w2⟩ := open_int Tryd.underlying30 (hval 2 30 v2 rfl rfl) h2
  obtain ⟨a3, len3, cap3, rfl⟩ := okWide_slice Tryd.underlying31 (hval 3 31 v3 rfl rfl)
  have k3 := h3
  have lt3 : ∀ x ∈ p3, x.block < W.heap.size := by obtain ⟨m, hm⟩ := k3; exact DataW.trod_lt m _ _ _ hm
  obtain ⟨z3, w3⟩ : ∃ zs, IsRow .u8 W a3 len3 cap3 zs := by
    obtain ⟨fuel, hf⟩ := h3
    rcases open_ints Tryd.underlying31 Tryd.underlying5 (by kernel_rfl) hf with ⟨hcs, _⟩ | ⟨x, l, c, zs, hcs, _, hl, hm, hz, hx, hcell, hwz⟩
    · simp [Value.cells] at hcs
      obtain ⟨rfl, rfl, rfl⟩ := hcs
      exact ⟨[], .inl ⟨rfl, rfl, rfl, rfl⟩⟩
    · simp [Value.cells] at hcs
      obtain ⟨rfl, rfl, rfl⟩ := hcs
      simp only [Prod.mk.injEq] at hx
      obtain ⟨rfl, rfl⟩ := hx
      have hz' : zs.length = cap3 := by simpa using hz
      have hreach : cap3 ≤ 140737488351232 := by
        have := sized_slice hsz (j := 3) (t := 31) (e := 5) rfl rfl Tryd.underlying31
        rw [bytes5] at this
        simp only [lits, List.length_map, List.length_take, List.length_drop, reachBytes] at this
        omega
      exact ⟨zs, .inr ⟨_, rfl, hl, hreach, hz', hcell, hwz⟩⟩
  clear hA0 hval0
  have hreach1 : a1.size ≤ 140737488351232 := by
    have h := sized_string hsz (j := 1) (t := 9) rfl rfl
    rw [Array.length_toList] at h
    exact h
  refine (walk a0 a1 a2 a3 len3 cap3 z3 W w0 hreach1 w2 w3 hT hR).mono fun e W' ⟨he, bel⟩ => ?_
  subst he
  exact ⟨_, rfl, _, _, _, [], _, [], hW', trodAll_mk1 (shut_bool Tryd.underlying4 _), (trodAll_cons_mk (shut_int Tryd.underlying2 w0) (trodAll_cons_mk (shut_string Tryd.underlying9 w1) (trodAll_cons_mk (shut_int Tryd.underlying30 w2) (trodAll_cons_mk (Below.trod laidOut (by kernel_rfl) (of_decide_eq_true (by kernel_rfl)) k3 bel lt3) trodAll_mk0)))), rfl, bel.frame _, fun h => by cases h⟩

theorem over : Rows.numBackRow.holds Tryd.pinned (OpenSpec.ofChange Rows.numBackSpec) :=
  OpenClaim.holds_of_wide 4 Tryd.f4 rfl rfl rfl rfl rfl rfl rfl ⟨rfl, rfl, rfl, rfl, rfl⟩ rfl rfl rfl rfl rfl (by kernel_rfl) Tryd.func4 (by kernel_rfl)
    (of_decide_eq_true (by kernel_rfl)) (by unfold Func.isWrapper; first | (rw [if_pos (by decide +kernel)]; kernel_rfl) | (rw [if_neg (by decide +kernel)]; exact ⟨rfl, rfl⟩))
    (fun os started H enc _ => lifted os started H enc)

theorem card : Rows.NumBackCardSaid :=
  Claim7.holds_tied_plain_at .later [] [.data, .data, .data, .sentinel, .sentinel] true (true, "994f73b8583948595d11d05fe3f4126bed7be93fe9f066f53b1e2c848d8c7850") true
    over (fun _ h => by cases h) (by kernel_rfl) (fun _ h => by cases h) numBack_row_tie rfl ⟨rfl, rfl⟩ (by kernel_rfl) rfl
    (fun f fn hf hfn => by
      obtain rfl : f = 4 := Option.some.inj ((show Tryd.prog.funcNamed "ramble/ramblelaw01.NumBack" = some 4 by kernel_rfl).symm.trans hf) |>.symm
      obtain rfl : fn = Tryd.f4 := (Option.some.inj (Tryd.func4.symm.trans hfn)).symm
      exact ⟨by kernel_rfl, fun j t ht => by
        rw [Tryd.params4] at ht
        have hm : t ∈ [2, 9, 30, 31] := by simpa using Array.mem_of_getElem? ht
        have hall : ([2, 9, 30, 31].all fun u => !Tryd.prog.wantsStandIn u) = true := by kernel_rfl
        exact (show Tryd.prog.wantsStandIn t = false by simpa using List.all_eq_true.1 hall t hm)⟩)
    (by kernel_rfl)
end Go.Proofs.YtphkleiamlllgaaDoor.numBack
namespace Go.Proofs.YtphkleiamlllgaaDoor
/-- The given statement. -/
theorem numBack_holds : Rows.NumBackCardSaid := numBack.card
#print axioms numBack_holds
end Go.Proofs.YtphkleiamlllgaaDoor
