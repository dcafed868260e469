/-
  What Format of package pager does with a disk that has no log.
-/
import Derived.Test.YtfakgfmgofblgaaGreatDoorZFmOn
namespace Go.Proofs.YtfakgfmgofblgaaGreatDoor
open Go.RowKit Go.Maps
set_option linter.unusedVariables false      -- a walk need not use every condition
attribute [local go_sem ↓] Go.wp_at_zero Go.wp_at_succ

/-- A disk that stands well, with no fuse, and what is read of it. -/
structure Rdy (s : Dsk) (N : Nat) (C : Cn) : Prop where
  cl : Cl s
  fuse : s.fuse = 0
  N : s.N = N
  con : ∀ i, s.con i = C i
theorem Rdy.qu {s : Dsk} {N : Nat} {C : Cn} (h : Rdy s N C) : Qu s := ⟨h.cl.down, h.fuse⟩
theorem ers_is {s : Dsk} {N : Nat} {C : Cn} (h : Rdy s N C) {a : Nat} (ha : a < N) : (s.write a zer).1 = 0 ∧ (s.write a zer).2.flush.1 = 0 ∧ Rdy (s.write a zer).2.flush.2 N (fun i => if i = a then some zer else C i) := by
  obtain ⟨w1, w2, w4, w5⟩ := wr_is h.qu (a := a) (by rw [h.N]; exact ha) zer
  obtain ⟨f1, f2, f3, f4, f5⟩ := fl_is w2
  refine ⟨w1, f1, f2, f3.fuse, by rw [f4, w4.N, h.N], fun i => ?_⟩
  rw [f5, con_over h.cl.ca w4, w5]
  unfold upd
  by_cases e : i = a
  · rw [if_pos e, if_pos e]; rfl
  · rw [if_neg e, if_neg e, h.cl.ca i, h.con i]; rfl
theorem index172a (w : World) : (Instr.index 172 (.agg #[.int .i64 1, .int .i64 0]) (.int .i64 0)).run Tryz.prog w = .ok (.int .i64 1) w := by
  simp [Instr.index, go_sem, run_underlying Tryz.underlying172, Tryz.sizeOf3]
theorem index172b (w : World) : (Instr.index 172 (.agg #[.int .i64 1, .int .i64 0]) (.int .i64 1)).run Tryz.prog w = .ok (.int .i64 0) w := by
  simp [Instr.index, go_sem, run_underlying Tryz.underlying172, Tryz.sizeOf3]
set_option maxHeartbeats 4000000 in
set_option maxRecDepth 100000 in
theorem eraseHeads92 (w : World) (d pb mb : Nat) (s : Dsk) (N : Nat) (C : Cn) (h : At w d pb mb s) (hT : TabOk w) (hr : Rdy s N C) (hN : 2 ≤ N) (h0 : frO (C 0) = none) (h1 : frO (C 1) = none) :
    Calls Tryz.prog 92 #[.pointer (some ⟨d, 0, none⟩)] w fun e w' => ∃ s', e = .returned (.int .i64 0) ∧ At w' d pb mb s' ∧ Rdy s' N (fun i => if i = 0 then some zer else if i = 1 then some zer else C i) ∧ Kept d pb mb w w' ∧ TabOk w' := by
  have c44 := openNone44 w d pb mb s h hT hr.cl.down (by rw [hr.con]; exact h0) (by rw [hr.con]; exact h1)
  have HA := Lib.hid h
  have HT := Lib.hid hT
  obtain ⟨a1, a2, a3⟩ := ers_is hr (a := 1) (by omega)
  obtain ⟨s1, hs1⟩ : ∃ s1, (s.write (1 : Nat) zer).2 = s1 := ⟨_, rfl⟩
  rw [hs1] at a2 a3
  obtain ⟨s2, hs2⟩ : ∃ s2, s1.flush.2 = s2 := ⟨_, rfl⟩
  rw [hs2] at a3
  obtain ⟨b1, b2, b3⟩ := ers_is a3 (a := 0) (by omega)
  obtain ⟨s3, hs3⟩ : ∃ s3, (s2.write (0 : Nat) zer).2 = s3 := ⟨_, rfl⟩
  rw [hs3] at b2 b3
  obtain ⟨s4, hs4⟩ : ∃ s4, s3.flush.2 = s4 := ⟨_, rfl⟩
  rw [hs4] at b3
  have cw1 := fun (W : World) (hA : At W d pb mb s) => write108 W d pb mb s hA (1 : Nat) zer len_zer
  have cf1 := fun (W : World) (hA : At W d pb mb s1) => flush109 W d pb mb s1 hA
  have cw2 := fun (W : World) (hA : At W d pb mb s2) => write108 W d pb mb s2 hA (0 : Nat) zer len_zer
  have cf2 := fun (W : World) (hA : At W d pb mb s3) => flush109 W d pb mb s3 hA
  rw [a1, hs1] at cw1
  rw [a2, hs2] at cf1
  rw [b1, hs3] at cw2
  rw [b2, hs4] at cf2
  have HR4 := Lib.hid b3
  have hz0 : ((0 : Nat) : Int) = 0 := rfl
  have hz1 : ((1 : Nat) : Int) = 1 := rfl
  rw [hz1] at cw1
  rw [hz0] at cw2
  clear h hT hr h0 h1 a1 a2 a3 b1 b2 b3 hs1 hs2 hs3 hs4
  go_enter Tryz.func92, Tryz.ntmps92
  go_wp2_with (first
    | (go_at_call 44; refine c44.mono ?_; rintro e w1 ⟨rfl, hb1⟩; have HB1 := Lib.hid hb1; clear hb1))
  have HA1 := Lib.hid (HA.out.on HB1.out)
  have HT1 := Lib.hid (tab_on HT.out HB1.out)
  have HK1 := Lib.hid (Kept.bel (d := d) (pb := pb) (mb := mb) HB1.out)
  go_loopg [28] 2 (fun gk s28 wr => ∃ x : Nat, x + gk = 2 ∧ s28 = .int .i64 x ∧ (x = 0 → Hid (At wr d pb mb s)) ∧ (x = 1 → Hid (At wr d pb mb s2)) ∧ (x = 2 → Hid (At wr d pb mb s4)) ∧ Hid (Kept d pb mb w wr) ∧ Hid (TabOk wr))
  case atStart => exact ⟨0, rfl, rfl, fun _ => HA1.out, fun e => (by cases e), fun e => (by cases e), HK1.out, HT1.out⟩
  case round =>
    obtain ⟨x, hx, rfl, q0, q1, q2, hK, hTr⟩ := hrel
    have hx3 : x = 0 ∨ x = 1 ∨ x = 2 := by omega
    rcases hx3 with rfl | rfl | rfl
    · have hAA := q0 rfl
      obtain rfl : gk = 2 := by omega
      have hix := index172a wr
      clear q0 q1 q2
      go_wp2_with (first
        | (go_at_call 108; rw [zc]; refine (cw1 _ hAA.out).mono ?_; rintro e w2 ⟨rfl, hA2, hK2⟩
           have HA2 := Lib.hid hA2
           have HK2 := Lib.hid (hK.out.trans hK2)
           have HT2 := Lib.hid (tab_kept hTr.out hAA.out hK2)
           clear hA2 hK2)
        | (go_at_call 109; refine (cf1 _ HA2.out).mono ?_; rintro e w3 ⟨rfl, hA3, hK3⟩
           have HA3 := Lib.hid hA3
           have HK3 := Lib.hid (HK2.out.trans hK3)
           have HT3 := Lib.hid (tab_kept HT2.out HA2.out hK3)
           clear hA3 hK3))
      go_roundg 1
      case measure => decide
      case rel => exact ⟨1, by decide, by first | rfl | simp, fun e => (by cases e), fun _ => HA3.out, fun e => (by cases e), HK3.out, HT3.out⟩
    · have hAA := q1 rfl
      obtain rfl : gk = 1 := by omega
      have hix := index172b wr
      clear q0 q1 q2
      go_wp2_with (first
        | (go_at_call 108; rw [zc]; refine (cw2 _ hAA.out).mono ?_; rintro e w2 ⟨rfl, hA2, hK2⟩
           have HA2 := Lib.hid hA2
           have HK2 := Lib.hid (hK.out.trans hK2)
           have HT2 := Lib.hid (tab_kept hTr.out hAA.out hK2)
           clear hA2 hK2)
        | (go_at_call 109; refine (cf2 _ HA2.out).mono ?_; rintro e w3 ⟨rfl, hA3, hK3⟩
           have HA3 := Lib.hid hA3
           have HK3 := Lib.hid (HK2.out.trans hK3)
           have HT3 := Lib.hid (tab_kept HT2.out HA2.out hK3)
           clear hA3 hK3))
      go_roundg 0
      case measure => decide
      case rel => exact ⟨2, by decide, by first | rfl | simp, fun e => (by cases e), fun e => (by cases e), fun _ => HA3.out, HK3.out, HT3.out⟩
    · have hAA := q2 rfl
      obtain rfl : gk = 0 := by omega
      clear q0 q1 q2
      go_wp2
      go_ret
      exact ⟨rfl, s4, hAA.out, HR4.out, hK.out, hTr.out⟩
set_option maxHeartbeats 4000000 in
set_option maxRecDepth 100000 in
theorem writeEmpty93 (w : World) (d pb mb : Nat) (s : Dsk) (N : Nat) (C : Cn) (h : At w d pb mb s) (hT : TabOk w) (hr : Rdy s N C) (slots pages : Nat) (hs1 : 1 ≤ slots) (hs2 : slots ≤ 4096) (hp1 : 2 ≤ pages) (hp2 : pages ≤ 2048) (hN : 2 + slots + 4 * pages ≤ N) :
    Calls Tryz.prog 93 #[.agg #[.int .i64 slots, .int .i64 pages], .pointer (some ⟨d, 0, none⟩)] w fun e w' => ∃ s', e = .returned (.int .i64 0) ∧ At w' d pb mb s' ∧ Rdy s' N (fun i => (caE slots pages pages i).or (C i)) ∧ Kept d pb mb w w' ∧ TabOk w' := by
  have HA := Lib.hid h
  have HT := Lib.hid hT
  have HR := Lib.hid hr
  have lts := h.lts
  obtain ⟨W0, hW0⟩ : ∃ W0, w.alloc (.cells #[.int .i64 (slots : Int), .int .i64 (pages : Int)] 60) = W0 := ⟨_, rfl⟩
  have B0 := Lib.hid (show Below w.heap.size w W0 by rw [← hW0]; exact bel1 w _)
  have K0 := Lib.hid (show W0.heap[w.heap.size]? = some (.cells #[.int .i64 (slots : Int), .int .i64 (pages : Int)] 60) by rw [← hW0]; exact heap_alloc_last w _)
  have z0 := Lib.hid (show W0.heap.size = w.heap.size + 1 by rw [← hW0]; simp)
  obtain ⟨l0, l1, -⟩ := pair_of K0.out
  clear h hT hr
  go_enter Tryz.func93, Tryz.ntmps93
  go_wp2
  clear l0 l1
  go_loopg [13] slots (fun gk s13 wr => ∃ k : Nat, k + gk = slots ∧ s13 = .int .i64 k ∧ Hid (∃ sk, At wr d pb mb sk ∧ Qu sk ∧ Sm s sk ∧ sk.ca = caS k) ∧ Hid (Kept d pb mb W0 wr))
  case atStart => exact ⟨0, by omega, rfl, ⟨s, HA.out.on B0.out, HR.out.qu, Sm.refl s, by funext i; rw [HR.out.cl.ca i]; unfold caS; rw [if_neg (by omega)]⟩, Kept.refl _ _ _ _⟩
  case round =>
    obtain ⟨k, hk, rfl, hS, hK⟩ := hrel
    obtain ⟨sk, hA, hq, hSm, hca⟩ := hS.out
    have HAk := Lib.hid hA
    have HTk := Lib.hid (tab_kept (tab_on HT.out B0.out) (HA.out.on B0.out) hK.out)
    cases gk with
    | zero =>
      obtain rfl : k = slots := by omega
      have HQ := Lib.hid hq
      have HSm := Lib.hid hSm
      have HCA := Lib.hid hca
      have c138 := emptyBase138 wr
      have zv := zv63
      have ok0 := Ba.none_ok
      have hi := hi63 Ba.empty_ok
      have h1 := Ba.one Ba.empty
      have okE := Ba.empty_ok
      have hl1 := Ba.len Ba.empty_ok
      have hl0 := Ba.len ok0
      have HBY : Hid ((Ba.empty.bytes pages).length ≤ 448) := by show _ ≤ _; rw [Ba.bytes_len okE hp2]; unfold tlen; omega
      have c121 := fun (W : World) (g : Nat) (hB : BaAt W g 0 Ba.empty) => bytes121 W g 0 Ba.empty hB pages (by omega) hp2
      have c124 := fun (W : World) (hb : Below wr.heap.size wr W) (v : Value) (hv : Bs W v (Ba.empty.bytes pages)) => writePage124 W d pb mb sk (HAk.out.on hb) (tab_on HTk.out hb) k 0 pages hs2 (by omega) v (Ba.empty.bytes pages) hv HBY.out
      obtain ⟨p1, p2, p3, p4⟩ := wpg_is HQ.out (slots := k) (page := 0) (b := Ba.empty.bytes pages) (by rw [HSm.out.N, HR.out.N]; omega)
      rw [p1] at c124
      obtain ⟨S1, hS1⟩ : ∃ S1, (sk.wpg k 0 (Ba.empty.bytes pages)).2 = S1 := ⟨_, rfl⟩
      rw [hS1] at c124 p2 p3 p4
      have HP2 := Lib.hid p2
      have HP3 := Lib.hid (HSm.out.trans p3)
      have HP4 : Hid (S1.ca = caE k pages 1) := by show _ = _; rw [p4, HCA.out, ← caE_zero k pages, caE_succ k pages 0, if_pos rfl]
      generalize Ba.none = Z at *
      generalize Ba.empty = E at *
      generalize E.bytes pages = EB at *
      have hz0 : ((0 : Nat) : Int) = 0 := rfl
      rw [hz0] at c124
      have hlt0 : Hid (w.heap.size < wr.heap.size) := by show _ < _; have := hK.out.size; have := z0.out; omega
      have k1 : Hid (wr.heap[w.heap.size]? = some (.cells #[.int .i64 (k : Int), .int .i64 (pages : Int)] 60)) := (hK.out.block _ (by have := z0.out; omega) (by omega) (by omega) (by omega)).trans K0.out
      clear hA hq hSm hca hS p1 p2 p3 p4 hS1
      go_wp2_with (first
        | (go_at_call 138; refine c138.mono ?_; rintro e w1 ⟨rfl, hb1⟩; have HB1 := Lib.hid hb1; clear hb1)
        | (with_reducible show wpList _ _ _ (Oper.mk (some 7) (Op.alloc 63) _ _ _ _ :: _) _ _
           refine wpList_allocZ 63 _ zv rfl rfl ?_; intro w2 B2 s2 L2
           have T2 : w2.there w1.heap.size 0 E.cells.length := by
             rw [hl1, ← hl0]
             exact L2.th
           have HB2 := Lib.hid B2
           clear L2 B2)
        | (with_reducible show wpList _ _ _ (Oper.mk _ (Op.store 63 (Operand.tmp 7) _) _ _ _ _ :: _) _ _
           refine wpList_storeZ 63 E.cells hi h1 rfl _ _ rfl w1.heap.size 0 rfl rfl T2 ?_
           intro w3 g3 L3 t3 r3 z3
           have HE3 := Lib.hid (L3.ba okE)
           have HB3 : Hid (Below wr.heap.size wr w3) := (bel_then HB1.out HB2.out).grown g3 (Nat.le_trans HB1.out.size HB2.out.size) (fun j e => by injection e with e; have := HB1.out.size; omega)
           clear g3 L3 t3 r3 z3 s2 T2))
      have k3 := blk_on HB3.out k1.out
      obtain ⟨l0, l1, -⟩ := pair_of (w := w3.drew) k3
      have HBd : Hid (Below wr.heap.size wr w3.drew) := HB3.out.drew
      go_region_with (first
        | (go_at_call 121; refine (c121 w3.drew w1.heap.size (HE3.out.blk rfl)).mono ?_; rintro e w4 ⟨v4, rfl, hv4, hb4⟩
           have HV4 := Lib.hid hv4.bs
           have HB4 := Lib.hid (bel_then HBd.out hb4)
           obtain ⟨m0, m1, -⟩ := pair_of (blk_on hb4 (show w3.drew.heap[w.heap.size]? = _ from k3))
           obtain ⟨vp, vc, rfl, -⟩ := hv4.bs
           clear hv4 hb4)
        | (go_at_call 124; refine (c124 _ HB4.out _ HV4.out).mono ?_; rintro e w5 ⟨rfl, hA5, hK5, hT5⟩))
      all_goals
        have HA5 := Lib.hid hA5
        have HT5 := Lib.hid hT5
        have HK5 := Lib.hid (hK.out.trans ((Kept.bel HB4.out).trans hK5))
        clear hA5 hT5 hK5 l0 l1 m0 m1
        go_wp2
        go_loopg [9] (pages - 1) (fun gj s9 wq => ∃ j : Nat, j + gj = pages ∧ 1 ≤ j ∧ s9 = .int .i64 j ∧ Hid (∃ sj, At wq d pb mb sj ∧ Qu sj ∧ Sm s sj ∧ sj.ca = caE k pages j) ∧ Hid (Kept d pb mb W0 wq))
        case atStart => exact ⟨1, by omega, Nat.le_refl _, rfl, ⟨S1, HA5.out, HP2.out, HP3.out, HP4.out⟩, HK5.out⟩
        case round =>
          obtain ⟨j, hj, hj1, rfl, hSj, hKj⟩ := hrel
          obtain ⟨sj, hAj, hqj, hSmj, hcaj⟩ := hSj.out
          have HAj := Lib.hid hAj
          have HTj := Lib.hid (tab_kept (tab_on HT.out B0.out) (HA.out.on B0.out) hKj.out)
          have kj := (hKj.out.block _ (by have := z0.out; omega) (by omega) (by omega) (by omega)).trans K0.out
          obtain ⟨l0, l1, -⟩ := pair_of kj
          cases gk with
          | zero =>
            obtain rfl : j = pages := by omega
            have cF := flush109 _ d pb mb sj HAj.out
            obtain ⟨f1, f2, f3, f4, f5⟩ := fl_is hqj
            rw [f1] at cF
            have HRD : Hid (Rdy sj.flush.2 N (fun i => (caE k j j i).or (C i))) := ⟨f2, f3.fuse, by rw [f4, hSmj.N, HR.out.N], fun i => by rw [f5, con_over HR.out.cl.ca hSmj, hcaj, HR.out.con]⟩
            obtain ⟨S9, hS9⟩ : ∃ S9, sj.flush.2 = S9 := ⟨_, rfl⟩
            rw [hS9] at cF HRD
            clear f1 f2 f3 f4 f5 hAj hqj hSmj hcaj hSj kj hS9
            go_wp2_with (first | (go_at_call 109; refine cF.mono ?_; rintro e w7 ⟨rfl, hA7, hK7⟩))
            go_ret
            first | exact ⟨rfl, S9, hA7, HRD.out, ((Kept.bel B0.out).trans hKj.out).trans hK7, tab_kept HTj.out HAj.out hK7⟩ | exact ⟨S9, rfl, hA7, HRD.out, ((Kept.bel B0.out).trans hKj.out).trans hK7, tab_kept HTj.out HAj.out hK7⟩
          | succ gj =>
            have hjz : (j : Int) < (pages : Int) := by omega
            have e9 : IntKind.i64.wrap ((j : Int) + 1) = ((j + 1 : Nat) : Int) := by rw [IntKind.wrap_i64]; omega
            have cW := fun (W : World) (hb : Below W.heap.size W W) => hb
            obtain ⟨p1, p2, p3, p4⟩ := wpg_is hqj (slots := k) (page := j) (b := []) (by rw [hSmj.N, HR.out.N]; omega)
            have c9 := writePage124 _ d pb mb sj HAj.out HTj.out k j pages hs2 (by omega) (.slice none 0 0) [] (bs_nil _) (by decide)
            rw [p1] at c9
            have HSJ : Hid (Sm s (sj.wpg k j []).2 ∧ Qu (sj.wpg k j []).2 ∧ (sj.wpg k j []).2.ca = caE k pages (j + 1)) := ⟨hSmj.trans p3, p2, by rw [p4, hcaj, caE_succ k pages j, if_neg (by omega)]⟩
            obtain ⟨S8, hS8⟩ : ∃ S8, (sj.wpg k j []).2 = S8 := ⟨_, rfl⟩
            rw [hS8] at c9 HSJ
            clear p1 p2 p3 p4 hAj hqj hSmj hcaj hSj kj hS8
            go_wp2_with (first | (go_at_call 124; refine c9.mono ?_; rintro e w7 ⟨rfl, hA7, hK7, hT7⟩; have HA7 := Lib.hid hA7; have HK7 := Lib.hid hK7; clear hA7 hK7 hT7))
            go_roundg gj
            case measure => omega
            case rel => exact ⟨j + 1, by omega, by omega, by first | rfl | simp, ⟨S8, HA7.out, HSJ.out.2.1, HSJ.out.1, HSJ.out.2.2⟩, hKj.out.trans HK7.out⟩
    | succ g =>
      have hkz : (k : Int) < (slots : Int) := by omega
      have e2 : IntKind.i64.wrap ((2 : Int) + (k : Int)) = ((2 + k : Nat) : Int) := by rw [IntKind.wrap_i64]; omega
      have c8 := write108 wr d pb mb sk HAk.out ((2 + k : Nat) : Int) zer len_zer
      obtain ⟨p1, p2, p3, p4⟩ := wr_is hq (a := 2 + k) (by rw [hSm.N, HR.out.N]; omega) zer
      rw [p1] at c8
      have HSJ : Hid (Sm s (sk.write ((2 + k : Nat) : Int) zer).2 ∧ Qu (sk.write ((2 + k : Nat) : Int) zer).2 ∧ (sk.write ((2 + k : Nat) : Int) zer).2.ca = caS (k + 1)) := ⟨hSm.trans p3, p2, by rw [p4, hca, caS_succ]⟩
      obtain ⟨S8, hS8⟩ : ∃ S8, (sk.write ((2 + k : Nat) : Int) zer).2 = S8 := ⟨_, rfl⟩
      rw [hS8] at c8 HSJ
      obtain ⟨K2, hK2⟩ : ∃ K2, 2 + k = K2 := ⟨_, rfl⟩
      rw [hK2] at c8 e2
      clear p1 p2 p3 p4 hA hq hSm hca hS hS8 hK2
      go_wp2_with (first | (go_at_call 108; rw [zc]; refine c8.mono ?_; rintro e w7 ⟨rfl, hA7, hK7⟩; have HA7 := Lib.hid hA7; have HK7 := Lib.hid hK7; clear hA7 hK7))
      go_roundg g
      case measure => omega
      case rel => exact ⟨k + 1, by omega, by first | rfl | simp, ⟨S8, HA7.out, HSJ.out.2.1, HSJ.out.1, HSJ.out.2.2⟩, hK.out.trans HK7.out⟩
/-- A disk on which pages were laid that are all free. -/
structure Fmtd (s : Dsk) (N slots pages : Nat) : Prop where
  wl : Wl s ⟨1, slots, vnt pages, 0, false, false⟩ []
  N : s.N = N
  fuse : s.fuse = 0
  pg : ∀ i, i < 4 * pages → s.con (2 + slots + i) = some (sealB 4 (i : Int) (pc (if i / 4 = 0 then Ba.empty.bytes pages else []) (i % 4)))
theorem format35_no (w : World) (d pb mb : Nat) (s : Dsk) (h : At w d pb mb s) (sl pg : Int) (hm : s.lmay sl pg = false) :
    Calls Tryz.prog 35 #[.pointer (some ⟨d, 0, none⟩), .int .i64 sl, .int .i64 pg] w fun e w' => e = .returned (.int .i64 1) ∧ Below w.heap.size w w' := by
  have c43 := madeDisk43 w d pb mb s h
  have c91 := mayBe91 (w.alloc (.cells #[.int .i64 sl, .int .i64 pg] 60)) d pb mb s (h.on (bel1 w _)) sl pg
  rw [hm] at c91
  clear h hm
  go_enter Tryz.func35, Tryz.ntmps35
  go_wp2_with (first
    | (go_at_call 43; refine c43.mono ?_; rintro e w' ⟨rfl, ew⟩; rw [ew]; clear ew w')
    | (go_at_call 91; refine c91.mono ?_; rintro e w2 ⟨rfl, hb2⟩))
  go_ret
  exact ⟨rfl, bel_then (bel1 w _) hb2⟩
theorem hpay_le {slots pages : Nat} : (hpay slots (vnt pages)).length ≤ 112 := by
  unfold hpay
  have := vnt_le slots
  have := vnt_le pages
  rw [List.length_append]
  omega
set_option maxHeartbeats 4000000 in
theorem format35 (w : World) (d pb mb : Nat) (s : Dsk) (N : Nat) (C : Cn) (h : At w d pb mb s) (hT : TabOk w) (hr : Rdy s N C) (h0 : frO (C 0) = none) (h1 : frO (C 1) = none) (slots pages : Nat) (hs1 : 1 ≤ slots) (hs2 : slots ≤ 4096) (hp1 : 2 ≤ pages) (hp2 : pages ≤ 2048) (hN : 2 + slots + 4 * pages ≤ N) :
    Calls Tryz.prog 35 #[.pointer (some ⟨d, 0, none⟩), .int .i64 slots, .int .i64 pages] w fun e w' => ∃ s', e = .returned (.int .i64 0) ∧ At w' d pb mb s' ∧ Fmtd s' N slots pages ∧ Kept d pb mb w w' ∧ TabOk w' := by
  have c43 := madeDisk43 w d pb mb s h
  have hNN : 2 ≤ N := by omega
  obtain ⟨W0, hW0⟩ : ∃ W0, w.alloc (.cells #[.int .i64 (slots : Int), .int .i64 (pages : Int)] 60) = W0 := ⟨_, rfl⟩
  have B0 := Lib.hid (show Below w.heap.size w W0 by rw [← hW0]; exact bel1 w _)
  have K0 := Lib.hid (show W0.heap[w.heap.size]? = some (.cells #[.int .i64 (slots : Int), .int .i64 (pages : Int)] 60) by rw [← hW0]; exact heap_alloc_last w _)
  have hlt0 : Hid (w.heap.size < W0.heap.size) := by show _ < _; rw [← hW0]; simp
  have c91 := mayBe91 W0 d pb mb s (h.on B0.out) slots pages
  have hm : s.lmay slots pages = true := by
    unfold Dsk.lmay
    rw [hr.N]
    simp
    omega
  rw [hm] at c91
  have HA := Lib.hid h
  have HT := Lib.hid hT
  have lts := h.lts
  have c92 := fun (W : World) (hb : Below w.heap.size w W) => eraseHeads92 W d pb mb s N C (HA.out.on hb) (tab_on HT.out hb) hr hNN h0 h1
  have c93 := fun (W : World) (s1 : Dsk) (hA : At W d pb mb s1) (hTT : TabOk W) (hr1 : Rdy s1 N (fun i => if i = 0 then some zer else if i = 1 then some zer else C i)) => writeEmpty93 W d pb mb s1 N _ hA hTT hr1 slots pages hs1 hs2 hp1 hp2 hN
  have c95 := fun (W : World) => note95 W (.int .i64 slots) rfl pages hp2
  have c94 := fun (W : World) (s2 : Dsk) (hA : At W d pb mb s2) (hTT : TabOk W) (hN2 : s2.N = N) (v : Value) (hv : Bs W v (vnt pages)) f1 f2 f3 => format94 W d pb mb s2 hA hTT slots hs1 hs2 (by omega) v (vnt pages) hv (by have := vnt_le pages; omega) hpay_le f1 f2 f3
  clear h hT hr h0 h1 hm
  have x0 := (pair_of K0.out).1
  have x1 := (pair_of K0.out).2.1
  go_enter Tryz.func35, Tryz.ntmps35
  go_wp2_with (first
    | (go_at_call 43; refine c43.mono ?_; rintro e w' ⟨rfl, ew⟩; rw [ew]; clear ew w')
    | (go_at_call 91; refine c91.mono ?_; rintro e w2 ⟨rfl, hb2⟩; have HB2 := Lib.hid (bel_then B0.out hb2); have HK2 := Lib.hid (blk_on hb2 K0.out); clear hb2 x0 x1)
    | (go_at_call 92; refine (c92 _ HB2.out).mono ?_; rintro e w3 ⟨s3, rfl, hA3, hR3, hK3, hT3⟩
       have HA3 := Lib.hid hA3
       have HR3 := Lib.hid hR3
       have HT3 := Lib.hid hT3
       have HK3 := Lib.hid hK3
       have HL3 := Lib.hid ((hK3.block _ (Array.getElem?_eq_some_iff.1 HK2.out).1 (by omega) (by omega) (by omega)).trans HK2.out)
       obtain ⟨y0, y1, -⟩ := pair_of HL3.out
       clear hA3 hR3 hT3 hK3)
    | (go_at_call 93; refine (c93 _ s3 HA3.out HT3.out HR3.out).mono ?_; rintro e w4 ⟨s4, rfl, hA4, hR4, hK4, hT4⟩
       have HA4 := Lib.hid hA4
       have HR4 := Lib.hid hR4
       have HT4 := Lib.hid hT4
       have HK4 := Lib.hid (HK3.out.trans hK4)
       have HL4 := Lib.hid ((hK4.block _ (Array.getElem?_eq_some_iff.1 HL3.out).1 (by omega) (by omega) (by omega)).trans HL3.out)
       obtain ⟨u0, u1, -⟩ := pair_of HL4.out
       clear hA4 hR4 hT4 hK4 y0 y1)
    | (go_at_call 95; refine (c95 _).mono ?_; rintro e w5 ⟨v5, rfl, hv5, hb5⟩
       have HB5 := Lib.hid hb5
       have HV5 := Lib.hid hv5
       obtain ⟨vp, vc, rfl, -⟩ := hv5.bs
       have hz : ∀ i, i < slots → frO (s4.con (2 + i)) = none := fun i hi => by
         rw [HR4.out.con]
         have : caE slots pages pages (2 + i) = some zer := by unfold caE; rw [if_pos (by omega)]
         rw [this]
         exact frO_zer
       obtain ⟨f1, f2, f3, f4, f5, f6⟩ := fmt_gen (note := vnt pages) HR4.out.cl HR4.out.fuse hs1 hs2 (by rw [HR4.out.N]; omega) hpay_le hz
       have hz4 := HK4.out.size
       have hz2 := HB2.out.size
       have hnx := bsX_own (X := fun k => k = d ∨ k = pb ∨ k = mb) HV5.out (fun k hk => .inl (by rcases hk with rfl | rfl | rfl <;> omega))
       have cc := c94 w5 s4 (HA4.out.on hb5) (tab_on HT4.out hb5) HR4.out.N _ hv5.bs f1 f2 hnx
       have HF : Hid (Fmtd ((s4.write 0 zer).2.hwr 1 slots (vnt pages)).2 N slots pages) := ⟨f5, by rw [f3, HR4.out.N], f4, fun i hi => by
         rw [f6 _ (by omega), HR4.out.con]
         unfold caE
         rw [if_neg (by omega), if_pos (by omega), show 2 + slots + i - (2 + slots) = i by omega]
         rfl⟩
       obtain ⟨S6, hS6⟩ : ∃ S6, ((s4.write 0 zer).2.hwr 1 slots (vnt pages)).2 = S6 := ⟨_, rfl⟩
       rw [hS6] at cc HF
       clear hv5 hb5 f1 f2 f3 f4 f5 f6 hz hnx hS6 u0 u1 hz4 hz2)
    | (go_at_call 94; refine cc.mono ?_; rintro e w6 ⟨l6, rfl, hl6, hA6, hL6, hK6, hT6⟩))
  go_ret
  have hfin : Kept d pb mb w w6 := ((Kept.bel HB2.out).trans HK4.out).trans ((Kept.bel HB5.out).trans hK6)
  first | exact ⟨rfl, S6, hA6, HF.out, hfin, hT6⟩ | exact ⟨S6, rfl, hA6, HF.out, hfin, hT6⟩
end Go.Proofs.YtfakgfmgofblgaaGreatDoor
