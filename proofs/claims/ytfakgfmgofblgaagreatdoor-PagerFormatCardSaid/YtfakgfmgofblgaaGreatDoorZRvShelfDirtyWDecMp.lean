/-
  A page as a record of the log.
  The library's contracts at this program, laid in plain words: maps.Keys, slices.Sorted and slices.Sort at int.
  What Dirty of package disk does: the numbers of the sectors in the cache, rising.
  What is decided when the power goes: as mathematics.
  Maps by page numbers, whose elements are of many cells: what is known of one, looked up, put in, taken out, counted, cleared. No walk.
-/
import Derived.Test.YtfakgfmgofblgaaGreatDoorZBo
import Derived.Test.YtfakgfmgofblgaaGreatDoorZNumpNumTFuseLgLs
import Derived.Test.YtfakgfmgofblgaaGreatDoorZComRcomSlcRecLa
import Derived.Test.YtfakgfmgofblgaaGreatDoorZNhElRpRcRcs
import Derived.Shelf.SlGeneric
import Derived.Shelf.SlIterI.Nil
import Derived.Shelf.SortM.Plain
import Derived.Shelf.SortM.SortNone
import Derived.Test.YtfakgfmgofblgaaGreatDoorChecked
import Derived.Test.YtfakgfmgofblgaaGreatDoorZDirtyWriteReadNewFlush
import Derived.Test.YtfakgfmgofblgaaGreatDoorZFlushW
namespace Go.Proofs.YtfakgfmgofblgaaGreatDoor
open Go.RowKit Go.Maps
set_option linter.unusedVariables false      -- a walk need not use every condition
attribute [local go_sem ↓] Go.wp_at_zero Go.wp_at_succ

theorem numberLen136 (w : World) (n : Nat) (hn : n < 9223372036854775808) :
    Calls Tryz.prog 136 #[.int .i64 n] w fun e w' => e = .returned (.int .i64 ((vnt n).length : Int)) ∧ Below w.heap.size w w' := by
  have c141 := put141 n (by omega) w
  have hc : IntKind.u64.wrap (n : Int) = (n : Int) := by rw [IntKind.wrap_u64]; omega
  go_enter Tryz.func136, Tryz.ntmps136
  go_wp2_with (go_at_call 141; refine c141.mono ?_; rintro e w1 ⟨v, rfl, hv, hb⟩; obtain ⟨vp, vc, rfl, -⟩ := hv.bs)
  go_ret
  exact ⟨rfl, hb⟩
def recB (page : Nat) (b : List UInt8) : List UInt8 := vnt page ++ b
theorem recordOf130 (w : World) (page : Nat) (hp : page < 9223372036854775808) (v : Value) (b : List UInt8) (hv : Bs w v b) (hl : b.length ≤ 4096) :
    Calls Tryz.prog 130 #[.int .i64 page, v] w fun e w' => ∃ r, e = .returned r ∧ Bts w' w.heap.size r (recB page b) ∧ Below w.heap.size w w' := by
  have HV := Lib.hid hv
  have c141 := put141 page (by omega) w
  have hc : IntKind.u64.wrap (page : Int) = (page : Int) := by rw [IntKind.wrap_u64]; omega
  have hvl := vnt_le page
  obtain ⟨p, cap, rfl, -⟩ := hv
  unfold recB
  generalize vnt page = V at *
  go_enter Tryz.func130, Tryz.ntmps130
  go_wp2_with (first
    | (go_at_call 141; refine c141.mono ?_; rintro e w1 ⟨v1, rfl, hv1, hb1⟩; have HO := Lib.hid hv1; have HB := Lib.hid hb1; clear hv1 hb1)
    | (at_builtin; refine wpList_app rfl _ _ rfl w.heap.size _ _ V b rfl rfl HO.out (HV.out.on HB.out) (by omega) HB.out.size ?_; intro v2 w2 hb2 hg2))
  have hB2 := HB.out.trans (HO.out.below hg2 HB.out.size)
  go_ret
  exact ⟨_, rfl, hb2, hB2⟩
/-- A record that is a page's. -/
structure RecOk (pages page : Nat) (b : List UInt8) : Prop where
  lt : page < pages
  len : b.length ≤ 448
  base : page = 0 → ∃ x : Ba, x.Fit pages ∧ b = x.bytes pages
/-- Bytes and what is behind some of them lie in the same block. -/
def Part (v : Value) (t : List UInt8) (r : Value) (b : List UInt8) : Prop := ∀ X w0, BsY X w0 v t → BsY X w0 r b
theorem run_bdropY {w : World} {v : Value} {t : List UInt8} (h : Bs w v t) {k : Nat} (hk : k ≤ t.length) : ∃ q c, (Instr.sliceAt 29 v (some (.int .i64 k)) none none).run Tryz.prog w = .ok (.slice q (t.length - k) c) w ∧ Part v t (.slice q (t.length - k) c) (t.drop k) := by
  obtain ⟨p, cap, rfl, h1, h2, h3, h4⟩ := h
  refine ⟨if cap = k then p else p.map (·.add k), cap - k, ?_, ?_⟩
  · have e1 : (0 : Int) ≤ (k : Int) := by omega
    have e2 : (k : Int) ≤ (t.length : Int) := by omega
    simp [go_sem, e1, e2, Tryz.underlying29]
  · intro X w0 h0
    refine ⟨h0.1.drop hk, fun hn a n c e => ?_⟩
    injection e with e1 e2 e3
    have hne : t ≠ [] := fun e => hn (by rw [e]; simp)
    cases p with
    | none => split at e1 <;> cases e1
    | some a0 =>
      have := h0.2 hne a0 _ _ rfl
      split at e1
      · injection e1 with e1; subst e1; exact this
      · injection e1 with e1; subst e1; rw [show ((fun x : Addr => x.add k) a0).block = a0.block from by show (a0.add k).block = _; unfold Addr.add; split <;> rfl]; exact this
theorem wpList_bdropY {ops : Array Oper} {rest : List Oper} {o : Oper} {a : Act} {w : World} {Q : Exit → Act → World → Prop} (hgd : o.guard = none) (x y : Operand) (ho : o.op = .slice 29 x (some y) none none)
    (v : Value) (t : List UInt8) (k : Nat) (hx : a.eval x = v) (hy : a.eval y = .int .i64 k) (h : Bs w v t) (hk : k ≤ t.length)
    (hK : ∀ q c, Part v t (.slice q (t.length - k) c) (t.drop k) → wpList Tryz.prog ops Q rest (a.put o.dst (.slice q (t.length - k) c)) w) : wpList Tryz.prog ops Q (o :: rest) a w :=
  wpList_plain hgd fun _ hk' => by
    obtain ⟨q, c, hr, hb⟩ := run_bdropY h hk
    unfold Oper.wp execOp
    simp only [ho, Option.map_some, Option.map_none, hx, hy, Sem.run_bind, hr, Result.andThen_ok, Sem.run_pure]
    exact hk' _ _ (hK q c hb)
theorem Bs.y {w : World} {v : Value} {t : List UInt8} (h : Bs w v t) : BsY (fun _ => False) w v t := ⟨h, fun _ _ _ _ _ => id⟩
set_option maxHeartbeats 2000000 in
set_option maxRecDepth 100000 in
theorem pageOf104 (w : World) (v : Value) (pages page : Nat) (b : List UInt8) (hr : RecOk pages page b) (hp : pages ≤ 2048) (hv : Bs w v (recB page b)) :
    Calls Tryz.prog 104 #[v, .int .i64 pages] w fun e w' => ∃ q c, e = .returned (.tuple #[.int .i64 page, .slice q b.length c, .bool true]) ∧ Part v (recB page b) (.slice q b.length c) b ∧ Below w.heap.size w w' := by
  have hlt := hr.lt
  have c102 := take65_ok w v _ hv (tk_there page (by omega) b)
  have HV := Lib.hid hv
  have e1 : (recB page b).drop (vnt page).length = b := by unfold recB; simp
  have e2 : (recB page b).length - (vnt page).length = b.length := by unfold recB; simp
  have e3 : (vnt page).length ≤ (recB page b).length := by unfold recB; simp
  have hw : IntKind.u64.wrap (pages : Int) = (pages : Int) := by rw [IntKind.wrap_u64]; omega
  have hw2 : IntKind.i64.wrap (page : Int) = (page : Int) := by rw [IntKind.wrap_i64]; omega
  have hw3 : wrap64 (page : Int) = (page : Int) := by unfold wrap64; omega
  have hge : ¬ ((pages : Int) ≤ (page : Int)) := by omega
  have hbl : ¬ ((448 : Int) < (b.length : Int)) := by have := hr.len; omega
  obtain ⟨vp, vc, rfl, -⟩ := hv
  generalize recB page b = R at *
  generalize (vnt page).length = n at *
  by_cases h0 : page = 0
  · obtain ⟨x, hF, hx⟩ := hr.base h0
    have c106 := fun (W : World) (V : Value) (hV : Bs W V b) => baseOf106 W V x pages hF (by omega) hp (by rw [← hx]; exact hV)
    have zv := zv63
    have ok0 := Ba.none_ok
    generalize Ba.none = N at *
    have ok1 := hF.ok
    have hi := hi63 ok1
    have h1 := Ba.one x
    have hl0 := Ba.len ok0
    have hl1 := Ba.len ok1
    have hz : ((page : Int) == 0) = true := by simp [h0]
    clear hr hF hx
    generalize x.cells = E at *
    go_enter Tryz.func104, Tryz.ntmps104
    go_wp2_with (first
      | (go_at_call 102; refine c102.mono ?_; rintro e w' ⟨rfl, ew⟩; rw [ew]; clear ew w')
      | (with_reducible show wpList _ _ _ (Oper.mk (some 29) (Op.slice _ _ _ _ _) _ _ _ _ :: _) _ _
         refine wpList_bdropY rfl _ _ rfl _ R n rfl rfl HV.out e3 ?_
         intro q c hP
         rw [e1, e2] at hP
         rw [e2]
         have HP := Lib.hid hP
         clear hP)
      | (go_at_call 106; refine (c106 _ _ (HP.out _ _ HV.out.y).1).mono ?_; rintro e w1 ⟨rfl, hb1⟩; have HB1 := Lib.hid hb1; clear hb1)
      | (with_reducible show wpList _ _ _ (Oper.mk (some 11) (Op.alloc 63) _ _ _ _ :: _) _ _
         refine wpList_allocZ 63 _ zv rfl rfl ?_; intro w2 B2 s2 L2
         have T2 : w2.there w1.heap.size 0 E.length := by rw [hl1, ← hl0]; exact L2.th
         have HB2 := Lib.hid (bel_then HB1.out B2)
         clear L2 B2)
      | (with_reducible show wpList _ _ _ (Oper.mk _ (Op.store 63 _ _) _ _ _ _ :: _) _ _
         refine wpList_storeZ 63 E hi h1 rfl _ _ rfl w1.heap.size 0 rfl rfl T2 ?_
         intro w3 g3 L3 t3 r3 z3
         have HB3 := Lib.hid (HB2.out.grown g3 HB2.out.size (fun k e => by injection e with e; have := HB1.out.size; omega))
         clear g3 L3 t3 r3 T2))
    go_ret3
    exact ⟨_, _, by subst h0; rfl, HP.out, HB3.out⟩
  · have hz : ((page : Int) == 0) = false := by simp; omega
    clear hr
    go_enter Tryz.func104, Tryz.ntmps104
    go_wp2_with (first
      | (go_at_call 102; refine c102.mono ?_; rintro e w' ⟨rfl, ew⟩; rw [ew]; clear ew w')
      | (with_reducible show wpList _ _ _ (Oper.mk (some 29) (Op.slice _ _ _ _ _) _ _ _ _ :: _) _ _
         refine wpList_bdropY rfl _ _ rfl _ R n rfl rfl HV.out e3 ?_
         intro q c hP
         rw [e1, e2] at hP
         rw [e2]
         have HP := Lib.hid hP
         clear hP))
    go_ret3
    exact ⟨_, _, rfl, HP.out, Below.refl _ _⟩
end Go.Proofs.YtfakgfmgofblgaaGreatDoor
namespace Go.Proofs.YtfakgfmgofblgaaGreatDoor
open Go.Shelf
def keys142_ren : Go.Shelf.Ren := ⟨fun | 7 => 142 | 10 => 174 | n => n, fun | 23 => 86 | 26 => 3 | 3 => 118 | 28 => 109 | 0 => 0 | 27 => 108 | 33 => 115 | 4 => 4 | n => n, fun | n => n⟩
theorem keys142 : Go.Proofs.SlLaysZI.n7 Tryz.prog keys142_ren := {
  mixed := by kernel_rfl
  f7 := ⟨Tryz.f142.name, by decide, Tryz.func142.trans (congrArg some (by kernel_rfl))⟩
  f10 := ⟨Tryz.f174.name, by decide, Tryz.func174.trans (congrArg some (by kernel_rfl))⟩
  t0 := Tryz.underlying0
  a0 := Tryz.isAgg0
  z0 := Tryz.sizeOf0
  v0 := Tryz.zeroValue0
  t4 := Tryz.underlying4
  a4 := Tryz.isAgg4
  z4 := Tryz.sizeOf4
  v4 := Tryz.zeroValue4
  t23 := Tryz.underlying86
  a23 := Tryz.isAgg86
  z23 := Tryz.sizeOf86
  v23 := Tryz.zeroValue86
  t26 := Tryz.underlying3
  a26 := Tryz.isAgg3
  z26 := Tryz.sizeOf3
  v26 := Tryz.zeroValue3
  t27 := Tryz.underlying108
  a27 := Tryz.isAgg108
  z27 := Tryz.sizeOf108
  v27 := Tryz.zeroValue108
  t28 := Tryz.underlying109
  a28 := Tryz.isAgg109
  z28 := Tryz.sizeOf109
  v28 := Tryz.zeroValue109
  t33 := Tryz.underlying115
  a33 := Tryz.isAgg115
  z33 := Tryz.sizeOf115
  v33 := Tryz.zeroValue115 }
def sorted66_ren : Go.Shelf.Ren := ⟨fun | 6 => 66 | 8 => 118 | 9 => 119 | 11 => 160 | 13 => 162 | 12 => 161 | 23 => 190 | 24 => 191 | 14 => 181 | 15 => 182 | 16 => 183 | 17 => 184 | 18 => 185 | 19 => 186 | 20 => 187 | 21 => 188 | 22 => 189 | 25 => 199 | 26 => 200 | 27 => 201 | 28 => 202 | 29 => 203 | 30 => 204 | 31 => 206 | n => n, fun | 26 => 3 | 28 => 109 | 24 => 43 | 0 => 0 | 3 => 3 | 37 => 121 | 48 => 51 | 50 => 146 | 4 => 4 | 40 => 213 | 39 => 212 | 45 => 218 | 5 => 5 | 9 => 9 | 51 => 231 | 55 => 235 | 57 => 238 | 58 => 239 | 33 => 115 | n => n, fun | n => n⟩
theorem sorted66 : Go.Proofs.SlLaysZI.n6 Tryz.prog sorted66_ren := {
  mixed := by kernel_rfl
  f6 := ⟨Tryz.f66.name, by decide, Tryz.func66.trans (congrArg some (by kernel_rfl))⟩
  f8 := ⟨Tryz.f118.name, by decide, Tryz.func118.trans (congrArg some (by kernel_rfl))⟩
  f11 := ⟨Tryz.f160.name, by decide, Tryz.func160.trans (congrArg some (by kernel_rfl))⟩
  t0 := Tryz.underlying0
  a0 := Tryz.isAgg0
  z0 := Tryz.sizeOf0
  v0 := Tryz.zeroValue0
  t24 := Tryz.underlying43
  a24 := Tryz.isAgg43
  z24 := Tryz.sizeOf43
  v24 := Tryz.zeroValue43
  t26 := Tryz.underlying3
  a26 := Tryz.isAgg3
  z26 := Tryz.sizeOf3
  v26 := Tryz.zeroValue3
  t28 := Tryz.underlying109
  a28 := Tryz.isAgg109
  z28 := Tryz.sizeOf109
  v28 := Tryz.zeroValue109
  i26 := by kernel_rfl }
def sort119_ren : Go.Shelf.Ren := ⟨fun | 5 => 119 | 8 => 162 | 7 => 161 | 19 => 190 | 20 => 191 | 10 => 181 | 11 => 182 | 12 => 183 | 13 => 184 | 14 => 185 | 15 => 186 | 16 => 187 | 17 => 188 | 18 => 189 | 30 => 199 | 31 => 200 | 32 => 201 | 33 => 202 | 34 => 203 | 35 => 204 | 40 => 206 | n => n, fun | 23 => 43 | 25 => 3 | 3 => 3 | 32 => 121 | 22 => 43 | 0 => 0 | 44 => 51 | 46 => 146 | 4 => 4 | 36 => 213 | 35 => 212 | 41 => 218 | 5 => 5 | 9 => 9 | 53 => 231 | 57 => 235 | 63 => 238 | 64 => 239 | n => n, fun | n => n⟩
theorem sort119 : Go.Proofs.SlLaysM.n5 Tryz.prog sort119_ren := {
  mixed := by kernel_rfl
  f5 := ⟨Tryz.f119.name, by decide, Tryz.func119.trans (congrArg some (by kernel_rfl))⟩
  f7 := ⟨Tryz.f161.name, by decide, Tryz.func161.trans (congrArg some (by kernel_rfl))⟩
  f8 := Tryz.func162.trans (congrArg some (by kernel_rfl))
  f10 := ⟨Tryz.f181.name, by decide, Tryz.func181.trans (congrArg some (by kernel_rfl))⟩
  f11 := ⟨Tryz.f182.name, by decide, Tryz.func182.trans (congrArg some (by kernel_rfl))⟩
  f12 := ⟨Tryz.f183.name, by decide, Tryz.func183.trans (congrArg some (by kernel_rfl))⟩
  f13 := ⟨Tryz.f184.name, by decide, Tryz.func184.trans (congrArg some (by kernel_rfl))⟩
  f14 := ⟨Tryz.f185.name, by decide, Tryz.func185.trans (congrArg some (by kernel_rfl))⟩
  f15 := ⟨Tryz.f186.name, by decide, Tryz.func186.trans (congrArg some (by kernel_rfl))⟩
  f16 := ⟨Tryz.f187.name, by decide, Tryz.func187.trans (congrArg some (by kernel_rfl))⟩
  f17 := ⟨Tryz.f188.name, by decide, Tryz.func188.trans (congrArg some (by kernel_rfl))⟩
  f18 := ⟨Tryz.f189.name, by decide, Tryz.func189.trans (congrArg some (by kernel_rfl))⟩
  f19 := Tryz.func190.trans (congrArg some (by kernel_rfl))
  f20 := Tryz.func191.trans (congrArg some (by kernel_rfl))
  f30 := ⟨Tryz.f199.name, by decide, Tryz.func199.trans (congrArg some (by kernel_rfl))⟩
  f31 := Tryz.func200.trans (congrArg some (by kernel_rfl))
  f32 := Tryz.func201.trans (congrArg some (by kernel_rfl))
  f33 := ⟨Tryz.f202.name, by decide, Tryz.func202.trans (congrArg some (by kernel_rfl))⟩
  f34 := ⟨Tryz.f203.name, by decide, Tryz.func203.trans (congrArg some (by kernel_rfl))⟩
  f35 := ⟨Tryz.f204.name, by decide, Tryz.func204.trans (congrArg some (by kernel_rfl))⟩
  f40 := ⟨Tryz.f206.name, by decide, Tryz.func206.trans (congrArg some (by kernel_rfl))⟩
  t0 := Tryz.underlying0
  a0 := Tryz.isAgg0
  z0 := Tryz.sizeOf0
  v0 := Tryz.zeroValue0
  t3 := Tryz.underlying3
  a3 := Tryz.isAgg3
  z3 := Tryz.sizeOf3
  v3 := Tryz.zeroValue3
  t4 := Tryz.underlying4
  a4 := Tryz.isAgg4
  z4 := Tryz.sizeOf4
  v4 := Tryz.zeroValue4
  t5 := Tryz.underlying5
  a5 := Tryz.isAgg5
  z5 := Tryz.sizeOf5
  v5 := Tryz.zeroValue5
  t9 := Tryz.underlying9
  a9 := Tryz.isAgg9
  z9 := Tryz.sizeOf9
  v9 := Tryz.zeroValue9
  t22 := Tryz.underlying43
  a22 := Tryz.isAgg43
  z22 := Tryz.sizeOf43
  v22 := Tryz.zeroValue43
  t23 := Tryz.underlying43
  a23 := Tryz.isAgg43
  z23 := Tryz.sizeOf43
  v23 := Tryz.zeroValue43
  t25 := Tryz.underlying3
  a25 := Tryz.isAgg3
  z25 := Tryz.sizeOf3
  v25 := Tryz.zeroValue3
  t32 := Tryz.underlying121
  a32 := Tryz.isAgg121
  z32 := Tryz.sizeOf121
  v32 := Tryz.zeroValue121
  t35 := Tryz.underlying212
  a35 := Tryz.isAgg212
  z35 := Tryz.sizeOf212
  v35 := Tryz.zeroValue212
  t36 := Tryz.underlying213
  a36 := Tryz.isAgg213
  z36 := Tryz.sizeOf213
  v36 := Tryz.zeroValue213
  t41 := Tryz.underlying218
  a41 := Tryz.isAgg218
  z41 := Tryz.sizeOf218
  v41 := Tryz.zeroValue218
  t44 := Tryz.underlying51
  a44 := Tryz.isAgg51
  z44 := Tryz.sizeOf51
  v44 := Tryz.zeroValue51
  t46 := Tryz.underlying146
  a46 := Tryz.isAgg146
  z46 := Tryz.sizeOf146
  v46 := Tryz.zeroValue146
  t53 := Tryz.underlying231
  a53 := Tryz.isAgg231
  z53 := Tryz.sizeOf231
  v53 := Tryz.zeroValue231
  t57 := Tryz.underlying235
  a57 := Tryz.isAgg235
  z57 := Tryz.sizeOf235
  v57 := Tryz.zeroValue235
  t63 := Tryz.underlying238
  a63 := Tryz.isAgg238
  z63 := Tryz.sizeOf238
  v63 := Tryz.zeroValue238
  t64 := Tryz.underlying239
  a64 := Tryz.isAgg239
  z64 := Tryz.sizeOf239
  v64 := Tryz.zeroValue239 }
end Go.Proofs.YtfakgfmgofblgaaGreatDoor
namespace Go.Proofs.YtfakgfmgofblgaaGreatDoor
open Go.RowKit Go.Maps Go.Sort Go.Shelf
set_option linter.unusedVariables false      -- a walk need not use every condition

theorem sort_ints {l : List Nat} (h : l.Pairwise (· < ·)) {ss : List Int} (hp : ss.Perm (ints l)) : ss.mergeSort (fun x y => decide (x ≤ y)) = ints l := by
  have e := mergeSort_of_perm_i hp
  have e2 : (ints l).mergeSort leI = ints l := List.mergeSort_of_pairwise (by
    unfold ints
    exact List.pairwise_map.2 (h.imp fun {a b} hab => by simp only [leI, decide_eq_true_eq]; omega))
  exact e.trans e2
theorem sorts62 (m : Nat) : AnyZI.SortsIn Tryz.prog sorted66_ren Fence.wide m :=
  ⟨fun blk off cap ss W hH hblk hsz => callsIn_wide.2 (AnyM.slices_Sort_int sort119 blk off cap ss W hH hblk hsz),
   fun p cap W => callsIn_wide.2 (AnyM.slices_Sort_int_none sort119 p cap W)⟩
theorem keys_c (mb : Option Nat) (W : World) : Calls Tryz.prog 142 #[.map mb] W fun e w' => e = .returned (.func (.func 174) #[] #[.pointer (some ⟨W.heap.size, 0, none⟩)]) ∧ w' = W.alloc (.cells #[.map mb] 86) :=
  (callsIn_wide (n := 5)).1 (AnyZI.keys_in keys142 Fence.wide 5 trivial rfl mb W)
set_option maxHeartbeats 1000000 in
theorem sorted_c {b nn : Nat} {D0 : DataW (Array Value)} (w : World) (hown : w.ownsMap Tryz.prog 3 secR b nn D0) (hmax : Maps.size D0 ≤ 16384) :
    Calls Tryz.prog 66 #[.func (.func 174) #[] #[.pointer (some ⟨w.heap.size, 0, none⟩)]] (w.alloc (.cells #[.map (some b)] 86)) fun e w' => ∃ (v : Value) (ss : List Int), e = .returned v ∧ ss.Perm (intKeys D0) ∧
      w'.ownsRow (w.heap.size + 1) 3 1 v ss.length ((ss.mergeSort (fun x y => decide (x ≤ y))).map encZ) ∧ (v = .slice none 0 0 ↔ ss = []) ∧ Below (w.heap.size + 1) (w.alloc (.cells #[.map (some b)] 86)) w' := by
  have hbl := hown.lt
  have hseq : SeqGives Fence.wide 2 Tryz.prog 174 #[.pointer (some ⟨w.heap.size, 0, none⟩)] encZ (fun ss => ss.Perm (intKeys D0)) (Maps.size D0) (w.alloc (.cells #[.map (some b)] 86)) :=
    AnyZI.keys_gives (ρ := keys142_ren) { keys142 with } Fence.wide _ trivial rfl (by omega) w.heap.size b nn D0 _ (by simp) (by simp) (hown.alloc _)
  have cS := AnyZI.sorted_in sorted66 Fence.wide 5 trivial trivial trivial trivial rfl (by omega) (sorts62 _) (enters_of Tryz.func119 (by kernel_rfl) rfl) 174 #[.pointer (some ⟨w.heap.size, 0, none⟩)] trivial (enters_of Tryz.func174 (by kernel_rfl) rfl) _ _ (by unfold maxLen; omega) (by omega) _ hseq
  change CallsIn _ _ Tryz.prog 66 _ _ _ at cS
  refine (callsIn_wide (n := 5)).1 (cS.mono ?_)
  rintro e w' ⟨v, ss, rfl, hS, hrow, hnil, hb⟩
  exact ⟨v, ss, rfl, hS, (by rw [World.size_alloc] at hrow; exact hrow), hnil, by simpa using hb⟩
def nums (l : List Nat) : List Value := l.map fun (k : Nat) => Value.int .i64 k
theorem nums_eq (l : List Nat) : (ints l).map encZ = nums l := by simp [ints, nums, encZ]
set_option maxHeartbeats 1000000 in
theorem dirty96 (w : World) (d pb mb : Nat) (s : Dsk) (h : At w d pb mb s) :
    Calls Tryz.prog 96 #[.pointer (some ⟨d, 0, none⟩)] w fun e w' => ∃ v : Value, e = .returned v ∧ w'.ownsRow w.heap.size 3 1 v s.dirty.length (nums s.dirty) ∧ (v = .slice none 0 0 ↔ s.dirty = []) ∧ Below w.heap.size w w' := by
  obtain ⟨-, c1, -, -, -, -⟩ := five_of h.blk
  have c := made42 w d pb mb s h
  obtain ⟨n, D, ho, ht⟩ := h.own
  have cK := keys_c (some mb) w
  have cS := sorted_c w ho (by rw [size_dirty ho ht]; have := dirty_len s; have := h.top; omega)
  have HP : Hid ((ints s.dirty).Perm (intKeys D)) := dirty_perm ho ht
  clear h ho ht
  go_enter Tryz.func96, Tryz.ntmps96
  go_wp2_with (first
    | (go_at_call 42; refine c.mono ?_; rintro e w' ⟨rfl, rfl⟩)
    | (go_at_call 142; refine cK.mono ?_; rintro e w' ⟨rfl, rfl⟩)
    | (go_at_call 66; refine cS.mono ?_; rintro e w' ⟨v, ss, rfl, hS, hrow, hnil, hb⟩))
  go_ret
  have hp : ss.Perm (ints s.dirty) := hS.trans HP.out.symm
  have hl : ss.length = s.dirty.length := by rw [hp.length_eq]; simp [ints]
  rw [sort_ints (dirty_sorted s) hp, nums_eq, hl] at hrow
  refine ⟨v, rfl, ownsRow_base_a hrow (by simp), hnil.trans ?_, ((Below.refl _ _).alloc (Nat.le_refl _) _).trans (hb.mono (by simp))⟩
  rw [← List.length_eq_zero_iff, hl, List.length_eq_zero_iff]
end Go.Proofs.YtfakgfmgofblgaaGreatDoor
namespace Go.Proofs.YtfakgfmgofblgaaGreatDoor
open Go.RowKit Go.Maps Go.ChangeMaps Go.MapKept Go.WideShapes

def bit (kb : List Bool) (i : Nat) : Bool := kb.getD (i % kb.length) false
def keptTo (kb : List Bool) (L : List Nat) (i : Nat) : List Nat := ((List.range i).filter (bit kb)).map (fun j => L.getD j 0)
theorem kept_yes {kb : List Bool} {L : List Nat} {i : Nat} (h : bit kb i = true) : keptTo kb L (i + 1) = keptTo kb L i ++ [L.getD i 0] := by
  unfold keptTo
  rw [List.range_succ, List.filter_append, List.map_append]
  simp [h]
theorem kept_no {kb : List Bool} {L : List Nat} {i : Nat} (h : bit kb i = false) : keptTo kb L (i + 1) = keptTo kb L i := by
  unfold keptTo
  rw [List.range_succ, List.filter_append, List.map_append]
  simp [h]
theorem kept_len (kb : List Bool) (L : List Nat) (i : Nat) : (keptTo kb L i).length ≤ i := by
  unfold keptTo
  have := List.length_filter_le (bit kb) (List.range i)
  simpa using this
theorem kept_mem {kb : List Bool} {L : List Nat} {i k : Nat} (h : k ∈ keptTo kb L i) (hi : i ≤ L.length) : k ∈ L := by
  unfold keptTo at h
  obtain ⟨j, hj, rfl⟩ := List.mem_map.1 h
  have hj' : j < i := List.mem_range.1 (List.mem_filter.1 hj).1
  rw [List.getD_eq_getElem?_getD, List.getElem?_eq_getElem (by omega)]
  exact List.getElem_mem _
/-- The disk when i of the dirty ones are decided. -/
def Dsk.dec (s : Dsk) (kb : List Bool) (i : Nat) : Dsk :=
  { s with st := fun k => if k ∈ keptTo kb s.dirty i then (s.ca k).getD (s.st k) else s.st k, tn := fun k => if k ∈ keptTo kb s.dirty i then false else s.tn k, ca := fun k => if k ∈ s.dirty.take i then none else s.ca k }
theorem dec_zero (s : Dsk) (kb : List Bool) : s.dec kb 0 = s := by simp [Dsk.dec, keptTo]
theorem mem_take_succ {L : List Nat} {i k : Nat} (hi : i < L.length) : k ∈ L.take (i + 1) ↔ k ∈ L.take i ∨ k = L[i] := by
  rw [List.take_succ_eq_append_getElem hi, List.mem_append, List.mem_singleton]
theorem not_mem_take {L : List Nat} (h : L.Pairwise (· < ·)) {i : Nat} (hi : i < L.length) : L[i] ∉ L.take i := by
  intro hm
  obtain ⟨j, hj, e⟩ := List.mem_iff_getElem.1 hm
  rw [List.length_take] at hj
  rw [List.getElem_take] at e
  have := List.pairwise_iff_getElem.1 h j i (by omega) hi (by omega)
  omega
/-- What the cache has of the one that is decided next. -/
theorem dec_next (s : Dsk) (kb : List Bool) {i : Nat} (hi : i < s.dirty.length) : ∃ bs, s.ca s.dirty[i] = some bs ∧ (s.dec kb i).ca s.dirty[i] = some bs ∧ s.dirty[i] < s.N := by
  have hm := mem_dirty.1 (List.getElem_mem hi)
  obtain ⟨bs, hbs⟩ := Option.isSome_iff_exists.1 hm.2
  refine ⟨bs, hbs, ?_, hm.1⟩
  simp only [Dsk.dec]
  rw [if_neg (not_mem_take (dirty_sorted s) hi)]
  exact hbs
theorem dec_ca (s : Dsk) (kb : List Bool) {i : Nat} (hi : i < s.dirty.length) : (s.dec kb (i + 1)).ca = upd (s.dec kb i).ca s.dirty[i] none := by
  funext k
  unfold upd
  simp only [Dsk.dec, mem_take_succ hi]
  by_cases h1 : k = s.dirty[i]
  · simp [h1]
  · by_cases h2 : k ∈ s.dirty.take i <;> simp [h1, h2]
theorem getD_dirty (s : Dsk) {i : Nat} (hi : i < s.dirty.length) : s.dirty.getD i 0 = s.dirty[i] := by
  rw [List.getD_eq_getElem?_getD, List.getElem?_eq_getElem hi]; rfl
theorem dec_no (s : Dsk) (kb : List Bool) {i : Nat} (hi : i < s.dirty.length) (h : bit kb i = false) : s.dec kb (i + 1) = { s.dec kb i with ca := upd (s.dec kb i).ca s.dirty[i] none } := by
  rw [← dec_ca s kb hi]
  unfold Dsk.dec
  rw [kept_no h]
theorem dec_yes (s : Dsk) (kb : List Bool) {i : Nat} (hi : i < s.dirty.length) (h : bit kb i = true) {bs : List UInt8} (hb : s.ca s.dirty[i] = some bs) :
    s.dec kb (i + 1) = { s.dec kb i with st := upd (s.dec kb i).st s.dirty[i] bs, tn := upd (s.dec kb i).tn s.dirty[i] false, ca := upd (s.dec kb i).ca s.dirty[i] none } := by
  rw [← dec_ca s kb hi]
  have e1 : (s.dec kb (i + 1)).st = upd (s.dec kb i).st s.dirty[i] bs := by
    funext k
    unfold upd
    simp only [Dsk.dec, kept_yes h, getD_dirty s hi, List.mem_append, List.mem_singleton]
    by_cases h1 : k = s.dirty[i]
    · simp [h1, hb]
    · by_cases h2 : k ∈ keptTo kb s.dirty i <;> simp [h1, h2]
  have e2 : (s.dec kb (i + 1)).tn = upd (s.dec kb i).tn s.dirty[i] false := by
    funext k
    unfold upd
    simp only [Dsk.dec, kept_yes h, getD_dirty s hi, List.mem_append, List.mem_singleton]
    by_cases h1 : k = s.dirty[i]
    · simp [h1]
    · by_cases h2 : k ∈ keptTo kb s.dirty i <;> simp [h1, h2]
  rw [← e1, ← e2]
  rfl
theorem Tied.del {N : Nat} {D : DataW (Array Value)} {ca : Nat → Option (List UInt8)} (h : Tied N D ca) (k : Nat) : Tied N (D.del (.int .i64 k)) (upd ca k none) := by
  refine ⟨fun x hx => ?_, fun j cs hj => ?_, fun j cs hj => ?_, fun j cs hj => ?_, fun j cs hj => ?_⟩
  · by_cases e : x = k
    · subst e; rw [has_del_same] at hx; cases hx
    · rw [has_del_other (fun e' => e (by injection e'))] at hx
      obtain ⟨j, rfl, hj⟩ := h.back x hx
      exact ⟨j, rfl, by rw [upd_other _ _ (fun e' => e (by rw [e']))]; exact hj⟩
  all_goals
    have e : j ≠ k := by rintro rfl; rw [upd_same] at hj; cases hj
    rw [upd_other _ _ e] at hj
  · rw [has_del_other (lit_ne e)]; exact h.has j cs hj
  · exact fun z => (atKey_del_other (lit_ne e) z).trans (h.at_ j cs hj z)
  · exact h.lt j cs hj
  · exact h.len j cs hj
/-- Which of them is torn. -/
def Dsk.tear (s : Dsk) (K : List Nat) (torn : Int) : Dsk :=
  if 0 ≤ torn ∧ torn < K.length then { s with st := upd s.st (K.getD torn.toNat 0) zer, tn := upd s.tn (K.getD torn.toNat 0) true } else s
def Dsk.decide (s : Dsk) (kb : List Bool) (torn : Int) : Dsk := (s.dec kb s.dirty.length).tear (keptTo kb s.dirty s.dirty.length) torn
/-- Truths in memory, in no block of the disk's. -/
structure Bools (w : World) (d pb mb : Nat) (v : Value) (kb : List Bool) : Prop where
  is : ∃ p c, v = .slice p kb.length c ∧ (kb = [] ∨ ∃ b o, p = some ⟨b, o, none⟩ ∧ b < w.heap.size ∧ b ≠ d ∧ b ≠ pb ∧ b ≠ mb ∧ ∀ i (hi : i < kb.length), w.cell? ⟨b, o + i, none⟩ = some (.bool kb[i]))
  len : kb.length ≤ 9223372036854775807
end Go.Proofs.YtfakgfmgofblgaaGreatDoor
namespace Go.Proofs.YtfakgfmgofblgaaGreatDoor
open Go.RowKit Go.Maps Go.ChangeMaps Go.MapKept Go.WideShapes Go.Sort Go.Shelf

/-- The map reads as m. -/
structure TieM {α : Type} (f : α → Array Value) (D : DataW (Array Value)) (m : Nat → Option α) : Prop where
  back : ∀ x : Int, Maps.has D (.int .i64 x) = true → ∃ k : Nat, x = k ∧ (m k).isSome = true
  has : ∀ (k : Nat) (a : α), m k = some a → Maps.has D (.int .i64 k) = true
  at_ : ∀ (k : Nat) (a : α), m k = some a → ∀ z, D.atKey (.int .i64 k) z = .held (f a)
  lt : ∀ (k : Nat) (a : α), m k = some a → k < 2048
def MapAt {α : Type} (f : α → Array Value) (w : World) (mb : Nat) (m : Nat → Option α) : Prop := ∃ n D, w.ownsMap Tryz.prog 3 secR mb n D ∧ TieM f D m
def I64' (x : Int) : Prop := -9223372036854775808 ≤ x ∧ x ≤ 9223372036854775807
theorem turned_size {w w' : World} {b : Nat} (h : w.mapTurned w' b) : w'.heap.size = w.heap.size := by
  obtain ⟨es, ck, es', ck', hb, rfl⟩ := h
  simp [setBlock]
variable {α : Type} {f : α → Array Value}
theorem tieM_none : TieM f (.map []) (fun _ => none) :=
  ⟨fun x hx => (by simp [Maps.has] at hx), fun k bs hk => (by cases hk), fun k bs hk => (by cases hk), fun k bs hk => (by cases hk)⟩
theorem TieM.put {D : DataW (Array Value)} {m : Nat → Option α} (h : TieM f D m) (hD : IsMap D) {k : Nat} (hk : k < 2048) (a : α) : TieM f (D.put (.int .i64 k) (.held (f a))) (upd m k (some a)) := by
  refine ⟨fun x hx => ?_, fun j cs hj => ?_, fun j cs hj => ?_, fun j cs hj => ?_⟩
  · by_cases e : x = k
    · subst e; exact ⟨k, rfl, by rw [upd_same]; rfl⟩
    · rw [has_put_other (fun e' => e (by injection e'))] at hx
      obtain ⟨j, rfl, hj⟩ := h.back x hx
      exact ⟨j, rfl, by rw [upd_other _ _ (fun e' => e (by rw [e']))]; exact hj⟩
  all_goals by_cases e : j = k
  · subst e; exact has_put_same hD (isKey _) _
  · rw [upd_other _ _ e] at hj; rw [has_put_other (lit_ne e)]; exact h.has j cs hj
  · subst e; rw [upd_same] at hj; injection hj with hj; subst hj; exact fun z => atKey_put_same hD (isKey _) _ z
  · rw [upd_other _ _ e] at hj; exact fun z => (atKey_put_other (lit_ne e) _ z).trans (h.at_ j cs hj z)
  · subst e; exact hk
  · rw [upd_other _ _ e] at hj; exact h.lt j cs hj
theorem TieM.del {D : DataW (Array Value)} {m : Nat → Option α} (h : TieM f D m) (k : Nat) : TieM f (D.del (.int .i64 k)) (upd m k none) := by
  refine ⟨fun x hx => ?_, fun j cs hj => ?_, fun j cs hj => ?_, fun j cs hj => ?_⟩
  · by_cases e : x = k
    · subst e; rw [has_del_same] at hx; cases hx
    · rw [has_del_other (fun e' => e (by injection e'))] at hx
      obtain ⟨j, rfl, hj⟩ := h.back x hx
      exact ⟨j, rfl, by rw [upd_other _ _ (fun e' => e (by rw [e']))]; exact hj⟩
  all_goals
    have e : j ≠ k := by rintro rfl; rw [upd_same] at hj; cases hj
    rw [upd_other _ _ e] at hj
  · rw [has_del_other (lit_ne e)]; exact h.has j cs hj
  · exact fun z => (atKey_del_other (lit_ne e) z).trans (h.at_ j cs hj z)
  · exact h.lt j cs hj
/-- The numbers that a map has, rising. -/
def keysM (m : Nat → Option α) : List Nat := (List.range 2048).filter fun k => (m k).isSome
theorem mem_keysM {m : Nat → Option α} {k : Nat} : k ∈ keysM m ↔ k < 2048 ∧ (m k).isSome = true := by simp [keysM]
theorem keysM_nodup (m : Nat → Option α) : (keysM m).Nodup := List.Pairwise.filter _ List.nodup_range
theorem keysM_sorted (m : Nat → Option α) : (keysM m).Pairwise (· < ·) := List.Pairwise.filter _ List.pairwise_lt_range
theorem keysM_len (m : Nat → Option α) : (keysM m).length ≤ 2048 := by
  have := List.length_filter_le (fun k => (m k).isSome) (List.range 2048)
  simpa [keysM] using this
theorem keysM_none : keysM (fun _ => (none : Option α)) = [] := by
  unfold keysM
  rw [List.filter_eq_nil_iff]
  intro a _ h
  cases h
theorem keysM_perm {w : World} {mb n : Nat} {D : DataW (Array Value)} {m : Nat → Option α} (ho : w.ownsMap Tryz.prog 3 secR mb n D) (ht : TieM f D m) : (ints (keysM m)).Perm (intKeys D) := by
  obtain ⟨es, hD, hpw, -⟩ := ho.entries keyed3
  obtain ⟨es', hD', hko⟩ := ho.keysOf
  obtain rfl : es = es' := by rw [hD] at hD'; simpa using hD'
  subst hD
  refine perm_intKeys hpw (fun p hp => ?_) (ints_nodup (keysM_nodup m)) (fun x => ?_)
  · obtain ⟨v, hv⟩ := hko p hp
    obtain ⟨x, _, hx, _⟩ := Maps.keyOf_i64 Tryz.underlying3 hv
    exact ⟨x, hx⟩
  · constructor
    · intro hx
      obtain ⟨k, hk, rfl⟩ := List.mem_map.1 hx
      obtain ⟨-, hi⟩ := mem_keysM.1 hk
      obtain ⟨bs, hbs⟩ := Option.isSome_iff_exists.1 hi
      exact ht.has k bs hbs
    · intro hx
      obtain ⟨k, rfl, hi⟩ := ht.back x hx
      obtain ⟨bs, hbs⟩ := Option.isSome_iff_exists.1 hi
      exact List.mem_map.2 ⟨k, mem_keysM.2 ⟨ht.lt k bs hbs, hi⟩, rfl⟩
theorem sizeM {w : World} {mb n : Nat} {D : DataW (Array Value)} {m : Nat → Option α} (ho : w.ownsMap Tryz.prog 3 secR mb n D) (ht : TieM f D m) : Maps.size D = (keysM m).length := by
  have hp := keysM_perm ho ht
  obtain ⟨es, rfl, -, -⟩ := ho.entries keyed3
  rw [size_keys, ← hp.length_eq]
  simp [ints]
/-! ### In memory -/
theorem MapAt.blk {w w' : World} {mb : Nat} {m : Nat → Option α} (h : MapAt f w mb m) (e : w'.heap[mb]? = w.heap[mb]?) : MapAt f w' mb m := by
  obtain ⟨n, D, ⟨es, ck, hmb, r⟩, ht⟩ := h
  exact ⟨n, D, ⟨es, ck, e.trans hmb, r⟩, ht⟩
theorem MapAt.lt {w : World} {mb : Nat} {m : Nat → Option α} (h : MapAt f w mb m) : mb < w.heap.size := by
  obtain ⟨n, D, ho, -⟩ := h
  exact ho.lt
theorem MapAt.on {w w' : World} {mb : Nat} {m : Nat → Option α} (h : MapAt f w mb m) (hb : Below w.heap.size w w') : MapAt f w' mb m := h.blk (hb.block _ h.lt)
theorem MapAt.ncell {w : World} {mb : Nat} {m : Nat → Option α} (h : MapAt f w mb m) (i : Nat) : w.cell? ⟨mb, i, none⟩ = none := by
  obtain ⟨n, D, ⟨es, ck, hmb, r⟩, ht⟩ := h
  simp [World.cell?, hmb]
theorem MapAt.len {w : World} {mb : Nat} {m : Nat → Option α} (h : MapAt f w mb m) {t e : TypeId} (ht : Tryz.prog.underlying t = some (.map 3 e)) (ty : TypeId) : (Builtin.len_ #[t] ty #[.map (some mb)]).run Tryz.prog w = .ok (.int .i64 (keysM m).length) w := by
  obtain ⟨n, D, ho, hT⟩ := h
  rw [ho.len ht ty, sizeM ho hT]
theorem key_wf2 {x : Int} (hx : I64' x) : (Lit.int .i64 x).wf = true := by
  unfold I64' at hx
  simp [Lit.wf, IntKind.min, IntKind.max, IntKind.signed, IntKind.bits]
  omega
/-- What a look-up gives. -/
def lkv (f : α → Array Value) (zs : Array Value) (c : Bool) : Option α → Value
  | some a => if c then .tuple #[.agg (f a), .bool true] else .agg (f a)
  | none => if c then .tuple #[.agg zs, .bool false] else .agg zs
/-- What is looked up: there, or not. -/
theorem MapAt.look {w : World} {mb : Nat} {m : Nat → Option α} (h : MapAt f w mb m) {t e : TypeId} (ht : Tryz.prog.underlying t = some (.map 3 e)) {zs : Array Value} (hz : (zeroValue e).run Tryz.prog w = .ok (.agg zs) w) {k : Nat} (hk : k < 2048) (c : Bool) :
    (Instr.lookup t (.map (some mb)) (.int .i64 k) c).run Tryz.prog w = .ok (lkv f zs c (m k)) w := by
  obtain ⟨n, D, ho, hT⟩ := h
  obtain ⟨es, clock, hb, F, hs, rfl⟩ := ho
  have hkw := key_wf2 (x := (k : Int)) (by unfold I64'; omega)
  rcases Maps.fit_look c keyed3 ht hz hb F (keyOf_int_mk Tryz.underlying3 hkw) with ⟨hrun, -, hat⟩ | ⟨e0, y, -, -, hrun, hRv, hat, -⟩
  · cases hm : m k with
    | none => rw [hrun]; rfl
    | some a =>
      have hh := hT.has k a hm
      rw [Maps.has_false_of_atKey hat] at hh
      cases hh
  · cases hm : m k with
    | none =>
      have hh := Maps.has_true_of_atKey hat
      obtain ⟨j, hj, hs'⟩ := hT.back k hh
      obtain rfl : k = j := by omega
      rw [hm] at hs'
      cases hs'
    | some a =>
      have e1 : y.1 = .held (f a) := (hat (.lit (.bool true))).symm.trans (hT.at_ k a hm _)
      have e2 : e0.val = .agg (f a) := secR_held (ps := y.2) (by rw [hRv, ← e1])
      rw [hrun, e2]
      rfl
/-- An element is put in. -/
theorem MapAt.store {w : World} {mb : Nat} {m : Nat → Option α} (h : MapAt f w mb m) {t e : TypeId} (ht : Tryz.prog.underlying t = some (.map 3 e)) {k : Nat} (hk : k < 2048) (a : α) :
    ∃ w', (Instr.mapUpdate t (.map (some mb)) (.int .i64 k) (.agg (f a))).run Tryz.prog w = .ok () w' ∧ MapAt f w' mb (upd m k (some a)) ∧ w.grownBy w' (some mb) ∧ w'.heap.size = w.heap.size := by
  obtain ⟨n, D, ho, hT⟩ := h
  have hsz : Maps.size D < maxLen := by
    rw [sizeM ho hT]
    have := keysM_len m
    unfold maxLen; omega
  have hkw := key_wf2 (x := (k : Int)) (by unfold I64'; omega)
  obtain ⟨w2, hrun, ho2, htn⟩ := (own_size ho).store keyed3 ht hsz (keyOf_int_mk Tryz.underlying3 hkw) (show secR (.agg (f a)) = some (.held (f a), []) from rfl)
  exact ⟨w2, hrun, ⟨_, _, ho2, hT.put ho.isMap hk a⟩, htn.grown, turned_size htn⟩
theorem MapAt.clear {w : World} {mb : Nat} {m : Nat → Option α} (h : MapAt f w mb m) {t e : TypeId} (hty : Tryz.prog.underlying t = some (.map 3 e)) (ty : TypeId) :
    ∃ w', (Builtin.clear_ #[t] ty #[.map (some mb)]).run Tryz.prog w = .ok (.tuple #[]) w' ∧ MapAt f w' mb (fun _ => none) ∧ w.grownBy w' (some mb) ∧ w'.heap.size = w.heap.size := by
  obtain ⟨n, D, ⟨es, clock, hb, F, hs, rfl⟩, hT⟩ := h
  refine ⟨setBlock w mb (.map #[] clock), ?_, ⟨0, .map [], ⟨#[], clock, heap_setBlock_same hb _, ⟨by simp, stamped_empty _, by simp⟩, Nat.le_refl _, rfl⟩, tieM_none⟩, World.mapTurned.grown ⟨es, clock, _, _, hb, rfl⟩, by simp [setBlock]⟩
  simp [Builtin.clear_, run_underlying hty, Go.MapKept.run_getObj_map hb, Go.MapKept.run_setObj_map _ hb, Result.andThen, setBlock]
end Go.Proofs.YtfakgfmgofblgaaGreatDoor
