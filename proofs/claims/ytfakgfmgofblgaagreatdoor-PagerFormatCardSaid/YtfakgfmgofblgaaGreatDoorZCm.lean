/-
  What committed does of a page that is neither kept nor logged.
-/
import Derived.Test.YtfakgfmgofblgaaGreatDoorZPrPg
import Derived.Test.YtfakgfmgofblgaaGreatDoorZRg
namespace Go.Proofs.YtfakgfmgofblgaaGreatDoor
open Go.RowKit Go.Maps
set_option linter.unusedVariables false      -- a walk need not use every condition
attribute [local go_sem ↓] Go.wp_at_zero Go.wp_at_succ

theorem zv112 (w : World) : (zeroValue 112).run Tryz.prog w = .ok (.agg #[.int .i64 0, .int .i64 0, .int .i64 0, .int .i64 0]) w := Tryz.zeroValue112 w
set_option maxHeartbeats 4000000 in
set_option maxRecDepth 100000 in
theorem committedR68 (w : World) (d pb mb l p ms mk ml base : Nat) (tv : Value) (s : Dsk) (P : Pgr) (h : At w d pb mb s) (hT : TabOk w) (hP : PAt w d l p ms mk ml base tv P) (page : Nat) (hp1 : 1 ≤ page) (hp : page < 2048) (hk : P.po.kp page = none) (hl : P.lg page = none) :
    Calls Tryz.prog 68 #[.pointer (some ⟨p, 0, none⟩), .int .i64 page] w fun e w' => ∃ v, e = .returned (.tuple #[v, .int .i64 (s.rpg P.slots page).2]) ∧ Bs w' v (s.rpg P.slots page).1 ∧ Fresh w.heap.size v ∧ Below w.heap.size w w' := by
  have c2 := hP.po.c2
  have hlk := look64 hP.po.k hp true
  rw [hk] at hlk
  have hlk' : (Instr.lookup 64 (.map (some mk)) (.int .i64 page) true).run Tryz.prog w = .ok (.tuple #[.agg (shc []).toArray, .bool false]) w := hlk
  have HP := Lib.hid hP
  have zv := zv165
  have hi := hi165 (b := []) (by decide)
  have h1 := shc_one []
  have hz : ((page : Int) == 0) = false := by rw [beq_eq_false_iff_ne]; omega
  have hlg : ∀ W, Below w.heap.size w W → (Instr.lookup 67 (.map (some ml)) (.int .i64 page) true).run Tryz.prog W = .ok (.tuple #[.agg #[.int .i64 0, .int .i64 0, .int .i64 0, .int .i64 0], .bool false]) W := fun W hW => by
    have := (HP.out.on hW).lg.look Tryz.underlying67 (zv112 W) hp true
    rw [hl] at this
    exact this
  have hsl := hP.sl
  have c105 := fun (W : World) (hb : Below w.heap.size w W) => readPage105 W d pb mb s (h.on hb) (tab_on hT hb) P.slots page (P.pages : Int) hsl.2 (by omega)
  generalize s.rpg P.slots page = R at *
  obtain ⟨rb, re⟩ := R
  simp only at c105
  generalize shc [] = Z at *
  clear hlk hk hl h hT hP
  go_enter Tryz.func68, Tryz.ntmps68
  go_wp2_with (first
    | (with_reducible show wpList _ _ _ (Oper.mk (some 6) (Op.alloc 165) _ _ _ _ :: _) _ _
       refine wpList_allocZ 165 _ zv rfl rfl ?_; intro w1 B1 s1 L1
       have T1 := L1.th)
    | (with_reducible show wpList _ _ _ (Oper.mk _ (Op.store 165 (Operand.tmp 6) _) _ _ _ _ :: _) _ _
       refine wpList_storeZ 165 Z hi h1 rfl _ _ rfl w.heap.size 0 rfl rfl T1 ?_
       intro w4 g4 L4 t4 r4 z4
       have B4 := B1.grown g4 B1.size (fun k e => by injection e with e; omega)
       have k2 := (HP.out.on B4).lc
       have hlk4 := hlg w4 B4
       have B5 := bel_then B4 (bel1 w4 (.cells #[.int .i64 0, .int .i64 0, .int .i64 0, .int .i64 0] 112))
       have P5 := HP.out.on B5.drew
       have m0 := P5.h0
       have m2 := P5.h2
       have m3 := P5.h3
       have HB5 := Lib.hid B5
       clear B1 B4 B5 P5 g4 L4 t4 r4 z4 T1 L1))
  go_region_with (first
    | (go_at_call 105; refine (c105 _ HB5.out.drew).mono ?_; rintro e w6 ⟨v6, rfl, hv6, hf6, hb6⟩
       have HV6 := Lib.hid hv6
       have HF6 := Lib.hid hf6
       have HB6 := Lib.hid hb6
       clear hv6 hf6 hb6))
  all_goals
    go_wp2
    go_ret2
    exact ⟨_, rfl, HV6.out, HF6.out.mono HB5.out.size, HB5.out.drew.trans (HB6.out.mono HB5.out.size)⟩
end Go.Proofs.YtfakgfmgofblgaaGreatDoor
