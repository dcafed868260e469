/-
  What Open of package pager does with a disk that stands well.
-/
import Derived.Test.YtfakgfmgofblgaaGreatDoorZRyPbPgnOxRb
import Derived.Test.YtfakgfmgofblgaaGreatDoorZEr
namespace Go.Proofs.YtfakgfmgofblgaaGreatDoor
open Go.RowKit Go.Maps
set_option linter.unusedVariables false      -- a walk need not use every condition
attribute [local go_sem ↓] Go.wp_at_zero Go.wp_at_succ

theorem slots46 (w : World) (d pb mb l : Nat) (L : Lg) (h : LAt w d pb mb l L) : Calls Tryz.prog 46 #[.pointer (some ⟨l, 0, none⟩)] w fun e w' => e = .returned (.int .i64 L.slots) ∧ Below w.heap.size w w' := by
  have cM := made103 w d pb mb l L h
  have H := Lib.hid h
  clear h
  go_enter Tryz.func46, Tryz.ntmps46
  go_wp2_with (first | (go_at_call 103; refine cM.mono ?_; rintro e w' ⟨rfl, hb⟩; obtain ⟨nv, hblk, hn⟩ := (H.out.on hb).blk; obtain ⟨-, c1, c2, -, c4, -, c6, -⟩ := seven_of hblk; clear hblk hn))
  go_ret
  exact ⟨rfl, hb⟩
theorem size60 : (Tryz.prog.info? 60).map (·.size) = some 2 := by kernel_rfl
theorem wp_build69 {op : Oper} {act : Act} {w : World} {K : Act → World → Prop} {Q : Exit → Act → World → Prop} (x0 x1 x2 x3 x4 x7 x8 : Operand) (ho : op.op = .build 69 #[(0, x0), (1, x1), (2, x2), (3, x3), (4, x4), (7, x7), (8, x8)])
    (pd pl : Option Addr) (a b : Value) (D : List Value) (hD : D.length = 260) (r m1 m2 t : Value) (ml : Option Nat) (h0 : act.eval x0 = .pointer pd) (h1 : act.eval x1 = .pointer pl) (h2 : act.eval x2 = .agg #[a, b]) (h3 : act.eval x3 = .agg D.toArray) (h4 : act.eval x4 = .agg D.toArray) (h7 : act.eval x7 = .agg #[r, m1, m2, t]) (h8 : act.eval x8 = .map ml)
    (h : K (act.put op.dst (.agg (pagC [.pointer pd] [.pointer pl] [a, b] D D [r, m1, m2, t] [.map ml]).toArray)) w) : op.wp Tryz.prog act w K Q := by
  have e : Tryz.prog.built 69 ((#[(0, x0), (1, x1), (2, x2), (3, x3), (4, x4), (7, x7), (8, x8)] : Array (Nat × Operand)).map fun (i, x) => (i, act.eval x)).toList = some (pagC [.pointer pd] [.pointer pl] [a, b] D D [r, m1, m2, t] [.map ml]).toArray := by
    simpa [h0, h1, h2, h3, h4, h7, h8] using built69 pd pl a b D hD r m1 m2 t ml
  refine wp_build 69 _ ho (by rw [e]; rfl) ?_
  rw [e]
  exact h
theorem wp_boxZ (T : TypeId) (cs : List Value) {op : Oper} {a : Act} {w : World} {K : Act → World → Prop} {Q : Exit → Act → World → Prop} (x : Operand) (ho : op.op = .box T x) (hx : a.eval x = .agg cs.toArray)
    (h : ∀ w', Below w.heap.size w w' → Hid (w'.heap.size = w.heap.size + 1) → Lie w' w.heap.size 0 cs → K (a.put op.dst (.pointer (some ⟨w.heap.size, 0, none⟩))) w') : op.wp Tryz.prog a w K Q := by
  unfold Oper.wp execOp
  simp only [ho, hx, Sem.run_bind, Instr.box, Sem.run_pure]
  exact h _ (bel1 w _) (World.size_alloc w _) (Lie.new w cs T)
theorem vnt_nn (n : Nat) : vnt n ≠ [] := by
  intro e
  have := vnt_pos n
  rw [e] at this
  exact absurd this (Nat.lt_irrefl _)
/-- A pager was opened: what there is then. -/
def Opd (w : World) (d pb mb : Nat) (R : Int × Lg × Dsk) (P : Pgr) (e : Ending) (w' : World) : Prop :=
  ∃ l p ms mk ml base, e = .returned (.tuple #[.pointer (some ⟨p, 0, none⟩), .int .i64 0]) ∧ w.heap.size ≤ l ∧ (∀ k, Xp p ms mk ml (.slice none 0 0) k → w.heap.size ≤ k ∧ k ≠ l) ∧ PAt w' d l p ms mk ml base (.slice none 0 0) P ∧ At w' d pb mb R.2.2 ∧ LAt w' d pb mb l R.2.1 ∧ Kept d pb mb w w' ∧ TabOk w' ∧ ∀ nv, w'.cell? ⟨l, 3, none⟩ = some nv → ∀ a n c, nv = .slice (some a) n c → ¬ Xp p ms mk ml (.slice none 0 0) a.block
set_option maxHeartbeats 8000000 in
set_option maxRecDepth 100000 in
theorem open11 (w : World) (d pb mb : Nat) (s : Dsk) (h : At w d pb mb s) (hT : TabOk w) (room : Nat) (hr1 : 8 ≤ room) (hr2 : room ≤ 256) (L : Lg) (Q : List (List (Nat × List UInt8))) (hw : Wl s L (Q.map recs)) (pages : Nat) (hnote : L.note = vnt pages) (hm : s.lmay L.slots pages = true)
    (hQ : ∀ q ∈ Q, ∀ x ∈ q, RecOk pages x.1 x.2) (hl : Q.length ≤ 1000000000 ∧ ∀ q ∈ Q, q.length ≤ 1000000000) (x : Ba) (hx : x.Fit pages)
    (hb : lastM Q.flatten 0 = some (x.bytes pages) ∨ lastM Q.flatten 0 = none ∧ s.rpg L.slots 0 = (x.bytes pages, 0))
    (hR : (repR (repl s ⟨L.e, L.slots, L.note, L.used, true, false⟩ (Pgr.new L.slots pages x room) (lastM Q.flatten))).1 = 0) :
    Calls Tryz.prog 11 #[.pointer (some ⟨d, 0, none⟩), .int .i64 room] w (Opd w d pb mb (repR (repl s ⟨L.e, L.slots, L.note, L.used, true, false⟩ (Pgr.new L.slots pages x room) (lastM Q.flatten))) (Pgr.new L.slots pages x room)) := by
  have hlm : (1 : Int) ≤ L.slots ∧ (L.slots : Int) ≤ 4096 ∧ (2 : Int) ≤ pages ∧ (pages : Int) ≤ 2048 ∧ (2 : Int) + L.slots + 4 * pages ≤ s.N := by
    unfold Dsk.lmay at hm
    simp at hm
    omega
  have hg := hw.gd
  have c43 := madeDisk43 w d pb mb s h
  have c38 := down38 w d pb mb s h
  rw [hw.cl.down] at c38
  have hnl : L.note.length ≤ 112 := by have := vnt_le pages; rw [hnote]; omega
  have c44 := openX44 w d pb mb s h hT hw.cl.down L.e L.slots L.note hg.head (by have := hg.e1; omega) hg.e2 hg.s1 hg.s2 hg.sN hnl
  have htl : rds s.fr L.e L.slots (L.slots + 1) 0 = (Q.map recs, L.used) := hg.tells
  rw [htl] at c44
  unfold OpX at c44
  simp only at c44
  obtain ⟨R, hRR⟩ : ∃ R, repR (repl s ⟨L.e, L.slots, L.note, L.used, true, false⟩ (Pgr.new L.slots pages x room) (lastM Q.flatten)) = R := ⟨_, rfl⟩
  rw [hRR] at hR ⊢
  obtain ⟨L1, hL1⟩ : ∃ L1 : Lg, (⟨L.e, L.slots, L.note, L.used, true, false⟩ : Lg) = L1 := ⟨_, rfl⟩
  rw [hL1] at hRR c44
  have e1 : L1.e = L.e := by rw [← hL1]
  have e2 : L1.slots = L.slots := by rw [← hL1]
  have e3 : L1.note = L.note := by rw [← hL1]
  have HNT : Hid (L1.note ≠ []) := by
    show _ ≠ _
    rw [e3, hnote]
    exact vnt_nn pages
  have lts := h.lts
  have HX : Hid (d < w.heap.size ∧ pb < w.heap.size ∧ mb < w.heap.size) := ⟨lts.1, lts.2.1, lts.2.2.1⟩
  have c46 := fun (W : World) (l : Nat) (hW : LAt W d pb mb l L1) => slots46 W d pb mb l L1 hW
  rw [e2] at c46
  have c45 := fun (W : World) (hA : At W d pb mb s) (nv : Value) (hn : Bs W nv L.note) => layoutOf45 W d pb mb s hA L.slots pages hm nv (by rw [← hnote]; exact hn)
  have c47 := fun (W : World) (v : Value) (hE : (sl (sl bytesE)).E (fun k => k < w.heap.size) W v (Q.map recs)) => lastPages47 (fun k => k < w.heap.size) W pages (by omega) v Q hE hQ hl
  have c48 := fun (W : World) (hA : At W d pb mb s) (hTW : TabOk W) (ml : Nat) (hM : LmAt (fun k => k < w.heap.size) W ml (lastM Q.flatten)) => readBase48 (fun k => k < w.heap.size) W d pb mb s hA hTW L.slots pages (by omega) (by omega) (by omega) ml _ hM x hx hb
  have c49 := fun W => newPool49 W room
  have c50 := fun (W : World) (l p ms mk ml base : Nat) (hA : At W d pb mb s) (hLW : LAt W d pb mb l L1) (hTW : TabOk W) (hP : PAt W d l p ms mk ml base (.slice none 0 0) (Pgr.new L.slots pages x room)) => eraseNo50 W d pb mb l p ms mk ml base (.slice none 0 0) s L1 (Pgr.new L.slots pages x room) hA hLW hTW hP (fun i hi => by rw [e1]; exact hw.later hi)
  have c51 := fun (W : World) (l p ms mk ml base : Nat) (hA : At W d pb mb s) (hLW : LAt W d pb mb l L1) (hTW : TabOk W) (hP : PAt W d l p ms mk ml base (.slice none 0 0) (Pgr.new L.slots pages x room)) (mm : Nat) (hM : LmAt (fun k => k < w.heap.size) W mm (lastM Q.flatten)) (hz : w.heap.size ≤ W.heap.size) (hn : ¬ (mm < w.heap.size)) (hnp : ∀ k, Xp p ms mk ml (.slice none 0 0) k → ¬ (k < w.heap.size)) =>
    replay51 (fun k => k < w.heap.size) W d pb mb l p ms mk ml base (.slice none 0 0) s L1 (Pgr.new L.slots pages x room) hA hLW hTW hP (by rw [e2, e3]; exact hw.pl) mm _ hM ⟨lts.1, lts.2.1, lts.2.2.1⟩ (fun k hk => Nat.lt_of_lt_of_le hk hz) hn hnp
  rw [hRR] at c51
  have zv := zv63
  have ok0 := Ba.none_ok
  generalize Ba.none = N at *
  have ok1 := hx.ok
  have hi := hi63 ok1
  have h1 := Ba.one x
  have hl0 := Ba.len ok0
  have hxl := Ba.len ok1
  have hmm := @run_makeMap Tryz.prog
  have hr8 : ¬ ((room : Int) < 8) := by omega
  have hr256 : ¬ ((256 : Int) < (room : Int)) := by omega
  have HA := Lib.hid h
  have HT := Lib.hid hT
  have HOK := Lib.hid ok1
  have HE2 : Hid (1 ≤ L.slots ∧ L.slots ≤ 4096 ∧ 2 ≤ pages ∧ pages ≤ 2048) := ⟨by omega, by omega, by omega, by omega⟩
  obtain ⟨PN, hPN⟩ : ∃ PN, Pgr.new L.slots pages x room = PN := ⟨_, rfl⟩
  have HPN := Lib.hid hPN
  rw [hPN] at c50 c51 ⊢
  clear h hT hw hg hm hQ hx hb hRR hL1 e1 e2 e3 lts htl hPN hnote hnl
  obtain ⟨E, hE⟩ : ∃ E, x.cells = E := ⟨_, rfl⟩
  have HE := Lib.hid hE
  rw [hE] at hi h1 hxl
  simp only [hE] at c48
  clear hE
  generalize lastM Q.flatten = M at *
  generalize (Q.map recs).length = QL at *
  generalize L.slots = SL at *
  obtain ⟨re, rl, rs⟩ := R
  simp only at hR
  subst hR
  go_enter Tryz.func11, Tryz.ntmps11
  go_upto_region 19 with (first
    | (go_at_call 43; refine c43.mono ?_; rintro e w' ⟨rfl, ew⟩; rw [ew]; clear ew w')
    | (go_at_call 38; refine c38.mono ?_; rintro e w' ⟨rfl, ew⟩; rw [ew]; clear ew w')
    | (go_at_call 44; refine c44.mono ?_; rintro e w1 ⟨l, np, nc, cp, cc, rfl, hl, hN1, hE1, hA1, hL1, hb1, hT1⟩
       have HL := Lib.hid hl
       have HN1 := Lib.hid hN1
       have HE1 := Lib.hid hE1
       have HA1 := Lib.hid hA1
       have HL1 := Lib.hid hL1
       have HB1 := Lib.hid hb1
       have HT1 := Lib.hid hT1
       clear hl hN1 hE1 hA1 hL1 hb1 hT1)
    | (go_at_call 46; refine (c46 _ _ HL1.out).mono ?_; rintro e w2 ⟨rfl, hb2⟩; have HB2 := Lib.hid hb2; clear hb2)
    | (go_at_call 45; refine (c45 _ (HA1.out.on HB2.out) _ (HN1.out.on HB2.out)).mono ?_; rintro e w3 ⟨rfl, hb3⟩
       have HB3 := Lib.hid (bel_then HB2.out hb3)
       have HB4 := Lib.hid (bel_then HB3.out (bel1 w3 (.cells #[.int .i64 (SL : Int), .int .i64 (pages : Int)] 60)))
       have HK4 := Lib.hid (heap_alloc_last w3 (.cells #[.int .i64 (SL : Int), .int .i64 (pages : Int)] 60))
       clear hb3)
    | (go_at_call 47; refine (c47 _ _ ((sl (sl bytesE)).on HE1.out HB4.out)).mono ?_; rintro e w5 ⟨mm, rfl, hmz, hM5, hb5⟩
       have HM5 := Lib.hid hM5
       have HB5 := Lib.hid (bel_then HB4.out hb5)
       have HMZ := Lib.hid (Nat.le_trans HB1.out.size (Nat.le_trans HB4.out.size hmz))
       have HK5 := Lib.hid (blk_on hb5 HK4.out)
       obtain ⟨y0, y1, -⟩ := pair_of HK5.out
       clear hmz hM5 hb5)
    | (go_at_call 48; refine (c48 _ (HA1.out.on HB5.out) (tab_on HT1.out HB5.out) _ HM5.out).mono ?_; rintro e w6 ⟨rfl, hb6⟩
       have HB6 := Lib.hid (bel_then HB5.out hb6)
       have HM6 := Lib.hid (HM5.out.kp (Kp.bel hb6) (fun hk => by have := HMZ.out; omega))
       have HK6 := Lib.hid (blk_on hb6 HK5.out)
       clear hb6 y0 y1)
    | (with_reducible show wpList _ _ _ (Oper.mk (some 14) (Op.alloc 63) _ _ _ _ :: _) _ _
       refine wpList_allocZ 63 _ zv rfl rfl ?_; intro w7 B7 s7 L7
       have T7 : w7.there w6.heap.size 0 E.length := by rw [hxl, ← hl0]; exact L7.th
       have HB7 := Lib.hid (bel_then HB6.out B7)
       have HB67 := Lib.hid B7
       clear L7 B7)
    | (with_reducible show wpList _ _ _ (Oper.mk _ (Op.store 63 (Operand.tmp 14) _) _ _ _ _ :: _) _ _
       refine wpList_storeZ 63 E hi h1 rfl _ _ rfl w6.heap.size 0 rfl rfl T7 ?_
       intro w8 g8 L8 t8 r8 z8
       have HL8 := Lib.hid L8
       have HB68 := Lib.hid (HB67.out.grown g8 HB67.out.size (fun k e => by injection e with e; omega))
       clear L8 g8 t8 r8 T7))
  have HB8 := Lib.hid (bel_then HB6.out HB68.out)
  have HM8 := Lib.hid (HM6.out.kp (Kp.bel HB68.out) (fun hk => by have := HMZ.out; omega))
  have HK8 := Lib.hid (blk_on HB68.out HK6.out)
  have R60 : Hid (∀ W, Below w8.heap.size w8 W → W.rangeAt w3.heap.size 0 [.int .i64 (SL : Int), .int .i64 (pages : Int)]) := fun W hW => by
    have := World.rangeAt_of_block (blk_on hW HK8.out) 0 2
    simpa using this
  have R63 : Hid (∀ W, Below w8.heap.size w8 W → W.rangeAt w6.heap.size 0 E) := fun W hW => rangeAt_same HL8.out.rg (hW.block _ (by have := HB68.out.size; have := (World.block_lt_of_cell? w8 _ (HL8.out.rg 0 _ (List.getElem?_eq_getElem (by omega)))); exact this))
  clear HM6 HM5 HK4 HK5 HK6 HB67 HB2 HB3 HB4 HB5 HB7
  go_cut [15] from 71 to 80 (fun s15 wx => ∃ p ms mk ml, s15 = .pointer (some ⟨p, 0, none⟩) ∧ Hid (w8.heap.size ≤ p ∧ w8.heap.size ≤ ms ∧ w8.heap.size ≤ mk ∧ w8.heap.size ≤ ml) ∧ Hid (PAt wx d l p ms mk ml wx.heap.size (.slice none 0 0) PN) ∧ Hid (Below w8.heap.size w8 wx))
  case first =>
    clear zv c43 c38 c44 c45 c46 c47 c48 c50 c51
    refine wp_region_held_drew (S := fun w' => Below w8.heap.size w8 w') (by kernel_rfl) (Below.refl _ _).drew (fun hHeld => ?_)
    refine take_at (i := 0) (oi := _) (v := ?_) 71 rfl rfl (by kernel_rfl) (by kernel_rfl) (by kernel_rfl) (fun _ _ _ h => h) (Or.inl ⟨by kernel_rfl, ?_⟩) hHeld ?_
    rotate_left
    · intro w hSw; go_simp
      try with_reducible rfl
    simp only [Act.put, List.setIfInBounds_toArray, List.set_cons_zero, List.set_cons_succ]
    refine take_at (i := 1) (oi := _) (v := ?_) 72 rfl rfl (by kernel_rfl) (by kernel_rfl) (by kernel_rfl) (fun _ _ _ h => h) (Or.inl ⟨by kernel_rfl, ?_⟩) hHeld ?_
    rotate_left
    · intro w hSw; go_simp
      try with_reducible rfl
    simp only [Act.put, List.setIfInBounds_toArray, List.set_cons_zero, List.set_cons_succ]
    refine take_at (i := 2) (oi := _) (v := _) 73 rfl rfl (by kernel_rfl) (by kernel_rfl) (by kernel_rfl) (fun _ _ _ h => h) (yieldsIf_load_mid (by kernel_rfl) _ _ rfl _ _ rfl _ _ (fun w h => R60.out w h) Tryz.underlying60 rfl size60) hHeld ?_
    simp only [Act.put, List.setIfInBounds_toArray, List.set_cons_zero, List.set_cons_succ]
    refine take_at (i := 3) (oi := _) (v := _) 74 rfl rfl (by kernel_rfl) (by kernel_rfl) (by kernel_rfl) (fun _ _ _ h => h) (yieldsIf_load_mid (by kernel_rfl) _ _ rfl _ _ rfl _ _ (fun w h => R63.out w h) Tryz.underlying63 rfl hi) hHeld ?_
    simp only [Act.put, List.setIfInBounds_toArray, List.set_cons_zero, List.set_cons_succ]
    refine take_at (i := 4) (oi := _) (v := _) 75 rfl rfl (by kernel_rfl) (by kernel_rfl) (by kernel_rfl) (fun _ _ _ h => h) (yieldsIf_load_mid (by kernel_rfl) _ _ rfl _ _ rfl _ _ (fun w h => R63.out w h) Tryz.underlying63 rfl hi) hHeld ?_
    simp only [Act.put, List.setIfInBounds_toArray, List.set_cons_zero, List.set_cons_succ]
    refine take_at (i := 5) (oi := _) (v := ?_) 76 rfl rfl (by kernel_rfl) (by kernel_rfl) (by kernel_rfl) (fun _ _ _ h => h) (Or.inl ⟨by kernel_rfl, ?_⟩) hHeld ?_
    rotate_left
    · intro w hSw; go_simp
      try with_reducible rfl
    simp only [Act.put, List.setIfInBounds_toArray, List.set_cons_zero, List.set_cons_succ]
    refine wpAnyH_ready (rs := [6, 7]) (by kernel_rfl) (by simp) ?_
    refine AllReadyH.cons (o := _) rfl (fun K hK => ?_) (AllReadyH.cons (o := _) rfl (fun K hK => ?_) AllReadyH.nil)
    · skip
      go_simp
      go_at_call 49
      refine (c49 _).mono ?_
      rintro e w9 ⟨ms, mk, rfl, hne, hz1, hz2, hm1, hm2, hb9⟩
      try go_wp2_with fail
      have hB9 : Below w8.heap.size w8 w9 := bel_then (Below.refl _ _).drew hb9
      refine hK.out _ _ hB9 (fun hHeld => ?_)
      clear hK K
      try simp only [Act.put, List.setIfInBounds_toArray, List.set_cons_zero, List.set_cons_succ]
      refine wpAnyH_ready (rs := [7]) (by kernel_rfl) (by simp) ?_
      refine AllReadyH.cons (o := _) rfl (fun K hK => ?_) AllReadyH.nil
      go_simp
      refine hK.out _ _ (bel_then hB9 (bel1 _ _)) (fun hHeld => ?_)
      clear hK K
      try simp only [Act.put, List.setIfInBounds_toArray, List.set_cons_zero, List.set_cons_succ]
      refine wpAnyH_ready (rs := [8]) (by kernel_rfl) (by simp) ?_
      refine AllReadyH.cons (o := _) rfl (fun K hK => ?_) AllReadyH.nil
      rw [if_pos (by rfl)]
      refine wp_build69 _ _ _ _ _ _ _ rfl _ _ _ _ E hxl _ _ _ _ _ rfl rfl rfl rfl rfl rfl rfl ?_
      refine hK.out _ _ hHeld (fun hHeld => ?_)
      clear hK K
      try simp only [Act.put, List.setIfInBounds_toArray]
      refine wpAnyH_ready (rs := [9]) (by kernel_rfl) (by simp) ?_
      refine AllReadyH.cons (o := _) rfl (fun K hK => ?_) AllReadyH.nil
      rw [if_pos (by rfl)]
      refine wp_boxZ 69 _ _ rfl rfl ?_
      intro w10 B10 s10 L10
      refine hK.out _ _ (bel_then hHeld B10) (fun hHeld => ?_)
      clear hK K
      try simp only [Act.put]
      refine wpAnyH_ready (rs := [10]) (by kernel_rfl) (by simp) ?_
      refine AllReadyH.cons (o := _) rfl (fun K hK => ?_) AllReadyH.nil
      go_simp
      refine hK.out _ _ hHeld (fun hHeld => ?_)
      clear hK K
      try simp only [Act.put, List.setIfInBounds_toArray, List.set_cons_zero, List.set_cons_succ]
      refine wpAnyH_done (by kernel_rfl) ?_ _
      have HL10 := Lib.hid L10
      have HB10 := Lib.hid B10
      have HH := Lib.hid hHeld
      have HZ10 := s10
      have HNE := Lib.hid hne
      have HM1 := Lib.hid hm1
      have HM2 := Lib.hid hm2
      clear L10 B10 hHeld s10 hne hm1 hm2
      go_wp2
      go_meet
      case rel =>
        have hz9 := hB9.size
        have l1 := HM1.out.lt
        have l2 := HM2.out.lt
        have hs10 := HZ10.out
        have hl := HL10.out
        rw [World.size_alloc] at hs10 hl
        have h1 : w8.heap.size ≤ ms := hz1
        have h2 : w8.heap.size ≤ mk := hz2
        have mA : MapAt spA (w9.alloc (.map #[] 0)) w9.heap.size (fun _ => none) := ⟨0, .map [], World.ownsMap_made (H := Array Value) w9 Tryz.prog 3 secR, tieM_none⟩
        refine ⟨w9.heap.size + 1, ms, mk, w9.heap.size, rfl, ⟨by omega, h1, h2, by omega⟩, ?_, HH.out⟩
        show PAt _ _ _ _ _ _ _ _ _ _
        rw [← HPN.out]
        rw [← HE.out] at hl
        exact pag_at HOK.out hl ((HM1.out.on (bel1 _ _)).on HB10.out) ((HM2.out.on (bel1 _ _)).on HB10.out) (mA.on HB10.out) HNE.out ⟨by omega, by omega⟩ ⟨by omega, by omega, by omega, by omega, Nat.le_refl _⟩ ⟨HE2.out.1, HE2.out.2.1⟩ ⟨HE2.out.2.2.1, HE2.out.2.2.2⟩ hr2
    · skip
      go_simp
      refine hK.out _ _ (bel_da _ _) (fun hHeld => ?_)
      clear hK K
      try simp only [Act.put, List.setIfInBounds_toArray, List.set_cons_zero, List.set_cons_succ]
      refine wpAnyH_ready (rs := [6]) (by kernel_rfl) (by simp) ?_
      refine AllReadyH.cons (o := _) rfl (fun K hK => ?_) AllReadyH.nil
      go_simp
      go_at_call 49
      refine (c49 _).mono ?_
      rintro e w9 ⟨ms, mk, rfl, hne, hz1, hz2, hm1, hm2, hb9⟩
      try go_wp2_with fail
      have hB9 : Below w8.heap.size w8 w9 := bel_then (bel_da w8 (.map #[] 0)) hb9
      refine hK.out _ _ hB9 (fun hHeld => ?_)
      clear hK K
      try simp only [Act.put, List.setIfInBounds_toArray, List.set_cons_zero, List.set_cons_succ]
      refine wpAnyH_ready (rs := [8]) (by kernel_rfl) (by simp) ?_
      refine AllReadyH.cons (o := _) rfl (fun K hK => ?_) AllReadyH.nil
      rw [if_pos (by rfl)]
      refine wp_build69 _ _ _ _ _ _ _ rfl _ _ _ _ E hxl _ _ _ _ _ rfl rfl rfl rfl rfl rfl rfl ?_
      refine hK.out _ _ hHeld (fun hHeld => ?_)
      clear hK K
      try simp only [Act.put, List.setIfInBounds_toArray]
      refine wpAnyH_ready (rs := [9]) (by kernel_rfl) (by simp) ?_
      refine AllReadyH.cons (o := _) rfl (fun K hK => ?_) AllReadyH.nil
      rw [if_pos (by rfl)]
      refine wp_boxZ 69 _ _ rfl rfl ?_
      intro w10 B10 s10 L10
      refine hK.out _ _ (bel_then hHeld B10) (fun hHeld => ?_)
      clear hK K
      try simp only [Act.put]
      refine wpAnyH_ready (rs := [10]) (by kernel_rfl) (by simp) ?_
      refine AllReadyH.cons (o := _) rfl (fun K hK => ?_) AllReadyH.nil
      go_simp
      refine hK.out _ _ hHeld (fun hHeld => ?_)
      clear hK K
      try simp only [Act.put, List.setIfInBounds_toArray, List.set_cons_zero, List.set_cons_succ]
      refine wpAnyH_done (by kernel_rfl) ?_ _
      have HL10 := Lib.hid L10
      have HB10 := Lib.hid B10
      have HH := Lib.hid hHeld
      have HZ10 := s10
      have HNE := Lib.hid hne
      have HM1 := Lib.hid hm1
      have HM2 := Lib.hid hm2
      clear L10 B10 hHeld s10 hne hm1 hm2
      go_wp2
      go_meet
      case rel =>
        have hz9 := hb9.size
        have l1 := HM1.out.lt
        have l2 := HM2.out.lt
        have hs10 := HZ10.out
        have hl := HL10.out
        have h0 : w8.heap.size + 1 ≤ w9.heap.size := by simpa using hz9
        have h1 : w8.heap.size + 1 ≤ ms := by simpa using hz1
        have h2 : w8.heap.size + 1 ≤ mk := by simpa using hz2
        have mB : MapAt spA (w8.drew.alloc (.map #[] 0)) w8.heap.size (fun _ => none) := ⟨0, .map [], World.ownsMap_made (H := Array Value) w8.drew Tryz.prog 3 secR, tieM_none⟩
        refine ⟨w9.heap.size, ms, mk, w8.heap.size, rfl, ⟨by omega, by omega, by omega, Nat.le_refl _⟩, ?_, HH.out⟩
        show PAt _ _ _ _ _ _ _ _ _ _
        rw [← HPN.out]
        rw [← HE.out] at hl
        exact pag_at HOK.out hl (HM1.out.on HB10.out) (HM2.out.on HB10.out) ((mB.on hb9).on HB10.out) HNE.out ⟨by omega, by omega⟩ ⟨by omega, by omega, by omega, by omega, Nat.le_refl _⟩ ⟨HE2.out.1, HE2.out.2.1⟩ ⟨HE2.out.2.2.1, HE2.out.2.2.2⟩ hr2
  case rest =>
    obtain ⟨p, ms, mk, ml, rfl, hz, hP, hB⟩ := hcut
    have HB18 := Lib.hid (bel_then HB8.out hB.out)
    have HM9 := Lib.hid (HM8.out.kp (Kp.bel hB.out) (fun hk => by have := HMZ.out; omega))
    have c50' := c50 wc l p ms mk ml wc.heap.size (HA1.out.on HB18.out) (HL1.out.on HB18.out) (tab_on HT1.out HB18.out) hP.out
    have HXp : Hid (∀ k, Xp p ms mk ml (.slice none 0 0) k → w8.heap.size ≤ k) := fun k hk => by
      have := hz.out
      rcases hk with e | e | e | e | e
      · omega
      · omega
      · omega
      · omega
      · cases e
    have HW8 : Hid (w.heap.size ≤ w8.heap.size ∧ l < w8.heap.size) := ⟨Nat.le_trans HB1.out.size HB8.out.size, Nat.lt_of_lt_of_le HL1.out.lt HB8.out.size⟩
    go_wp2_with (first
      | (go_at_call 50; refine c50'.mono ?_; rintro e w11 ⟨rfl, hb11⟩; have HB11 := Lib.hid hb11; clear hb11)
      | (go_at_call 51; refine (c51 _ l p ms mk ml wc.heap.size (HA1.out.on (bel_then HB18.out HB11.out)) (HL1.out.on (bel_then HB18.out HB11.out)) (tab_on HT1.out (bel_then HB18.out HB11.out)) (hP.out.on HB11.out) mm (HM9.out.kp (Kp.bel HB11.out) (fun hk => by have := HMZ.out; omega)) (by have := HW8.out; have := hB.out.size; have := HB11.out.size; omega) (fun hk => by have := HMZ.out; omega) (fun k hk hk' => by have := HXp.out k hk; have := HW8.out; omega)).mono ?_
         rintro e w12 ⟨⟨rfl, hA12, hL12, hK12, hT12⟩, hc12⟩
         have HC12 := Lib.hid hc12
         have HA12 := Lib.hid hA12
         have HL12 := Lib.hid hL12
         have HK12 := Lib.hid hK12
         have HT12 := Lib.hid hT12
         clear hA12 hL12 hK12 hT12 hc12))
    go_ret2
    have hX := HX.out
    have hW := HW8.out
    refine ⟨l, p, ms, mk, ml, wc.heap.size, rfl, HL.out, fun k hk => ⟨by have := HXp.out k hk; omega, by have := HXp.out k hk; omega⟩, (hP.out.on HB11.out).kp HK12.out (fun k hk hk' => ?_), HA12.out, HL12.out, ?_, HT12.out, fun nv hc a n c e hx => ?_⟩
    · have := HXp.out k hk
      rcases hk' with e | e | e | e <;> omega
    · have hB : Below w.heap.size w w11 := bel_then HB1.out (bel_then HB18.out HB11.out)
      exact ⟨HK12.out.os.trans hB.os, HK12.out.tape.trans hB.tape, HK12.out.output.trans hB.output, Nat.le_trans hB.size HK12.out.size, fun k hk h1 h2 h3 => (HK12.out.block k (Nat.lt_of_lt_of_le hk hB.size) (fun hx => by
        have hl := HL.out
        rcases hx with e | e | e | e
        · exact h1 e
        · exact h2 e
        · exact h3 e
        · omega)).trans (hB.block k hk)⟩
    · have h1 := HC12.out.trans (cell3_bel HL1.out (bel_then HB18.out HB11.out))
      obtain ⟨nv1, hb1, hn1, -⟩ := HL1.out.blk
      have h2 : w1.cell? ⟨l, 3, none⟩ = some nv1 := by simp [World.cell?, hb1]
      rw [h1, h2] at hc
      injection hc with hc
      subst hc
      have h3 := hn1.blk_lt HNT.out e
      have h4 := HXp.out _ hx
      have := HB8.out.size
      omega
end Go.Proofs.YtfakgfmgofblgaaGreatDoor
