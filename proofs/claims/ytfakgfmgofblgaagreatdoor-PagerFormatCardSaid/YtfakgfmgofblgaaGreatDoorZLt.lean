/-
  What isLater and eraseLater do.
-/
import Derived.Test.YtfakgfmgofblgaaGreatDoorZRyPbPgnOxRb
import Derived.Test.YtfakgfmgofblgaaGreatDoorZPrPg
import Derived.Test.YtfakgfmgofblgaaGreatDoorZFoWdWgWlBa
namespace Go.Proofs.YtfakgfmgofblgaaGreatDoor
open Go.RowKit Go.Maps
set_option linter.unusedVariables false      -- a walk need not use every condition
attribute [local go_sem ↓] Go.wp_at_zero Go.wp_at_succ

theorem oN_le (b : List UInt8) : -9223372036854775808 ≤ oN b ∧ oN b ≤ 9223372036854775807 := by
  unfold oN
  split
  · unfold opN
    first | (unfold sgn wrap64; omega) | (unfold wrap64; omega) | omega
  · omega
def latB (b : List UInt8) (e0 e : Int) : Bool := if e0 = 0 ∧ oE b = 0 then decide (e < (oN b).tdiv 65536) else false
/-- A slot has a frame of a later epoch. -/
def Dsk.later (s : Dsk) (i : Nat) (e : Int) : Bool := latB (s.read ((2 + i : Nat) : Int)).1 (s.read ((2 + i : Nat) : Int)).2 e
set_option maxHeartbeats 3200000 in
set_option maxRecDepth 100000 in
theorem isLater107 (w : World) (d pb mb l p ms mk ml base : Nat) (tv : Value) (s : Dsk) (L : Lg) (P : Pgr) (h : At w d pb mb s) (hL : LAt w d pb mb l L) (hT : TabOk w) (hP : PAt w d l p ms mk ml base tv P) (i : Nat) (hi : i < 4096) :
    Calls Tryz.prog 107 #[.pointer (some ⟨p, 0, none⟩), .int .i64 i] w fun e w' => e = .returned (.bool (s.later i L.e)) ∧ Below w.heap.size w w' := by
  unfold Dsk.later
  have cR := read152 w d pb mb s h ((2 + i : Nat) : Int)
  have hlb := len_read h ((2 + i : Nat) : Int)
  have HLA := Lib.hid hL
  have HT := Lib.hid hT
  have p0 := hP.h0
  have HP1 := Lib.hid hP.h1
  have ew : IntKind.i64.wrap ((2 : Int) + (i : Int)) = ((2 + i : Nat) : Int) := by rw [IntKind.wrap_i64]; omega
  clear h hL hP hT
  generalize s.read ((2 + i : Nat) : Int) = R at *
  obtain ⟨b, e0⟩ := R
  simp only at cR hlb ⊢
  have HLB := Lib.hid hlb
  have hi1 : (Tryz.prog.info? 118).map (·.size) = some (enc b).length := by rw [size26, len_enc, hlb]
  have cO := fun W (h : Below w.heap.size w W) => open153 W b HLB.out (tab_on HT.out h)
  have hE := oE_or b
  have hN := oN_le b
  unfold latB
  clear hlb
  generalize oE b = E at *
  generalize oK b = K at *
  generalize oN b = N at *
  generalize oP b = PP at *
  unfold frm at cO
  have eq1 : IntKind.i64.wrap (N.tdiv 65536) = N.tdiv 65536 := by
    rw [IntKind.wrap_i64]
    have h1 : N.tdiv 65536 = N / 65536 + if 0 ≤ N ∨ 65536 ∣ N then 0 else Int.sign 65536 := Int.tdiv_eq_ediv
    have h2 : Int.sign 65536 = 1 := rfl
    split at h1 <;> omega
  have c65 := fun (W : World) (hW : LAt W d pb mb l L) => epoch65 W d pb mb l L hW
  by_cases he : e0 = 0
  · subst he
    rcases hE with rfl | rfl
    · rw [if_pos ⟨rfl, rfl⟩]
      go_enter Tryz.func107, Tryz.ntmps107
      go_wp2_with (first
        | (go_at_call 152; refine cR.mono ?_; rintro e W1 ⟨rfl, hb1⟩)
        | (with_reducible show wpList _ _ _ (Oper.mk (some 5) (Op.alloc 118) _ _ _ _ :: _) _ _
           refine wpList_alloc26 rfl rfl ?_; intro W2 hW2 zW2 sW2)
        | (with_reducible show wpList _ _ _ (Oper.mk _ (Op.store 118 (Operand.tmp 5) _) _ _ _ _ :: _) _ _
           refine wpList_store26 rfl _ _ rfl W1.heap.size 0 b rfl rfl sW2.th HLB.out ?_; intro W3 g3 r3 t3 z3
           have HB3 : Hid (Below w.heap.size w W3) := (bel_then hb1 hW2).grown g3 (by have := hb1.size; have := hW2.size; omega) (fun k e => by injection e with e; have := hb1.size; omega)
           clear hb1 hW2 sW2 g3 t3 zW2 z3)
        | (with_reducible show wpList _ _ _ (Oper.mk _ (Op.load 118 (Operand.tmp 5)) _ _ _ _ :: _) _ _
           refine wpList_load_mid rfl 118 _ rfl _ _ rfl _ _ r3 Tryz.underlying118 rfl hi1 ?_)
        | (go_at_call 153; refine (cO _ HB3.out).mono ?_
           rintro e W4 ⟨pv, rfl, hB4, hfr4, hb4⟩
           have hB4' := hB4; obtain ⟨pp, pc, epv, -⟩ := hB4'
           subst epv
           have hbb := bel1 W4 (.cells #[.int .i64 K, .int .i64 N, .slice pp PP.length pc] 190)
           have HB4 := Lib.hid (bel_then (bel_then HB3.out hb4) hbb)
           have HK4 := Lib.hid (heap_alloc_last W4 (.cells #[.int .i64 K, .int .i64 N, .slice pp PP.length pc] 190))
           have HL4 := Lib.hid (HLA.out.on HB4.out)
           have x1 : (W4.alloc (.cells #[.int .i64 K, .int .i64 N, .slice pp PP.length pc] 190)).drew.cell? ⟨p, 1, none⟩ = some (.pointer (some ⟨l, 0, none⟩)) := cell_on HB4.out.drew HP1.out
           have y1 : (W4.alloc (.cells #[.int .i64 K, .int .i64 N, .slice pp PP.length pc] 190)).drew.cell? ⟨W4.heap.size, 1, none⟩ = some (.int .i64 N) := (three_of HK4.out).2.1
           clear hb4 hB4 hfr4 hbb))
      go_region_with (first
        | (go_at_call 65; refine (c65 _ (HL4.out.on (by first | exact (Below.refl _ _).drew | exact Below.refl _ _))).mono ?_
           rintro e W5 ⟨rfl, hb5⟩
           have HB5 := Lib.hid (bel_then HB4.out (show Below _ (W4.alloc (.cells #[.int .i64 K, .int .i64 N, .slice pp PP.length pc] 190)) W5 from ((Below.refl _ _).drew).trans hb5))
           have y5 : W5.cell? ⟨W4.heap.size, 1, none⟩ = some (.int .i64 N) := (three_of (blk_on hb5 (show (W4.alloc (.cells #[.int .i64 K, .int .i64 N, .slice pp PP.length pc] 190)).drew.heap[W4.heap.size]? = _ from HK4.out))).2.1
           clear hb5))
      all_goals
        go_wp2
        go_ret
        exact ⟨rfl, HB5.out⟩
    · rw [if_neg (fun e => by cases e.2)]
      go_enter Tryz.func107, Tryz.ntmps107
      go_wp2_with (first
        | (go_at_call 152; refine cR.mono ?_; rintro e W1 ⟨rfl, hb1⟩)
        | (with_reducible show wpList _ _ _ (Oper.mk (some 5) (Op.alloc 118) _ _ _ _ :: _) _ _
           refine wpList_alloc26 rfl rfl ?_; intro W2 hW2 zW2 sW2)
        | (with_reducible show wpList _ _ _ (Oper.mk _ (Op.store 118 (Operand.tmp 5) _) _ _ _ _ :: _) _ _
           refine wpList_store26 rfl _ _ rfl W1.heap.size 0 b rfl rfl sW2.th HLB.out ?_; intro W3 g3 r3 t3 z3
           have HB3 : Hid (Below w.heap.size w W3) := (bel_then hb1 hW2).grown g3 (by have := hb1.size; have := hW2.size; omega) (fun k e => by injection e with e; have := hb1.size; omega)
           clear hb1 hW2 sW2 g3 t3 zW2 z3)
        | (with_reducible show wpList _ _ _ (Oper.mk _ (Op.load 118 (Operand.tmp 5)) _ _ _ _ :: _) _ _
           refine wpList_load_mid rfl 118 _ rfl _ _ rfl _ _ r3 Tryz.underlying118 rfl hi1 ?_)
        | (go_at_call 153; refine (cO _ HB3.out).mono ?_
           rintro e W4 ⟨pv, rfl, hB4, hfr4, hb4⟩
           have hB4' := hB4; obtain ⟨pp, pc, epv, -⟩ := hB4'
           subst epv
           have hbb := bel1 W4 (.cells #[.int .i64 K, .int .i64 N, .slice pp PP.length pc] 190)
           have HB4 := Lib.hid (bel_then (bel_then HB3.out hb4) hbb)
           have HK4 := Lib.hid (heap_alloc_last W4 (.cells #[.int .i64 K, .int .i64 N, .slice pp PP.length pc] 190))
           have HL4 := Lib.hid (HLA.out.on HB4.out)
           have x1 : (W4.alloc (.cells #[.int .i64 K, .int .i64 N, .slice pp PP.length pc] 190)).drew.cell? ⟨p, 1, none⟩ = some (.pointer (some ⟨l, 0, none⟩)) := cell_on HB4.out.drew HP1.out
           have y1 : (W4.alloc (.cells #[.int .i64 K, .int .i64 N, .slice pp PP.length pc] 190)).drew.cell? ⟨W4.heap.size, 1, none⟩ = some (.int .i64 N) := (three_of HK4.out).2.1
           clear hb4 hB4 hfr4 hbb))
      go_quiet (fail)
      go_wp2
      go_ret
      exact ⟨rfl, HB4.out.trans ((bel_dn _ _).mono HB4.out.size)⟩
  · rw [if_neg (fun e => he e.1)]
    have heb : (e0 != 0) = true := by simpa using he
    go_enter Tryz.func107, Tryz.ntmps107
    go_wp2_with (first
        | (go_at_call 152; refine cR.mono ?_; rintro e W1 ⟨rfl, hb1⟩)
        | (with_reducible show wpList _ _ _ (Oper.mk (some 5) (Op.alloc 118) _ _ _ _ :: _) _ _
           refine wpList_alloc26 rfl rfl ?_; intro W2 hW2 zW2 sW2)
        | (with_reducible show wpList _ _ _ (Oper.mk _ (Op.store 118 (Operand.tmp 5) _) _ _ _ _ :: _) _ _
           refine wpList_store26 rfl _ _ rfl W1.heap.size 0 b rfl rfl sW2.th HLB.out ?_; intro W3 g3 r3 t3 z3
           have HB3 : Hid (Below w.heap.size w W3) := (bel_then hb1 hW2).grown g3 (by have := hb1.size; have := hW2.size; omega) (fun k e => by injection e with e; have := hb1.size; omega)
           clear hb1 hW2 sW2 g3 t3 zW2 z3))
    go_ret
    exact ⟨rfl, HB3.out⟩
end Go.Proofs.YtfakgfmgofblgaaGreatDoor
