/-
  The walk of SectorFrames.
-/
import Derived.Test.YtafnelpcnfmhfaaDoorSame
import Derived.Test.YtafnelpcnfmhfaaDoorRopen
namespace Go.Proofs.YtafnelpcnfmhfaaDoor
open Go.RowKit
set_option linter.unusedVariables false      -- a walk need not use every condition
attribute [local go_sem ↓] Go.wp_at_zero Go.wp_at_succ

set_option maxHeartbeats 6400000 in
set_option maxRecDepth 100000 in
theorem frames3 (w : World) (k n : Int) (pv : Value) (pay s : List UInt8) (hp : Bs w pv pay) (hs : s.length = 128) (hT : TabOk w) (hn : n ≤ 9223372036854775807) :
    Calls Tryd.prog 3 #[frm k n pv, .agg (encA s)] w fun e w' => e = .returned (.bool true) ∧ Below w.heap.size w w' := by
  have HP := Lib.hid hp
  have HT := Lib.hid hT
  obtain ⟨p, cap, rfl, -⟩ := hp
  have hB0 : Below w.heap.size w ((w.alloc (.cells #[.int .i64 k, .int .i64 n, .slice p pay.length cap] 24)).alloc (.cells (encA s) 26)) := (bel1 w _).alloc (by simp) _
  have hx0 : ((w.alloc (.cells #[.int .i64 k, .int .i64 n, .slice p pay.length cap] 24)).alloc (.cells (encA s) 26)).heap[w.heap.size]? = some (.cells #[.int .i64 k, .int .i64 n, .slice p pay.length cap] 24) := blk_on (bel1 _ _) (heap_alloc_last w _)
  have hr0 : ((w.alloc (.cells #[.int .i64 k, .int .i64 n, .slice p pay.length cap] 24)).alloc (.cells (encA s) 26)).rangeAt (w.heap.size + 1) 0 (enc s) := by
    have := range_new (w.alloc (.cells #[.int .i64 k, .int .i64 n, .slice p pay.length cap] 24)) (enc s) 26
    rwa [World.size_alloc] at this
  have HLZ := Lib.hid (len_sealB k n pay)
  have hi1 : (Tryd.prog.info? 26).map (·.size) = some (enc (sealB k n pay)).length := by rw [size26, len_enc, HLZ.out]
  have hi2 : (Tryd.prog.info? 26).map (·.size) = some (enc s).length := by rw [size26, len_enc, hs]
  have cS := fun W (h : Below w.heap.size w W) => seal8 W k n _ pay (HP.out.on h) (tab_on HT.out h) hn
  have cR := fun W (h : Below w.heap.size w W) => rseal9 W k n _ pay (HP.out.on h) hn
  have cO := fun W (h : Below w.heap.size w W) => open10 W s hs (tab_on HT.out h)
  have cP := fun W => ropen11 W s hs
  generalize sealE k n pay = E at *
  generalize sealB k n pay = Z at *
  generalize oK s = K at *
  generalize oN s = N at *
  generalize oP s = PAY at *
  generalize oE s = EE at *
  have HB0 := Lib.hid hB0
  have HX0 := Lib.hid hx0
  have HR0 := Lib.hid hr0
  clear hT hB0 hr0
  obtain ⟨b0, b1, b2⟩ := box_of hx0
  clear hx0
  unfold frm at cS cR cO cP ⊢
  go_enter Tryd.func3, Tryd.ntmps3
  go_wp2_with (first
    | (go_at_call 8; refine (cS _ HB0.out).mono ?_; rintro e W1 ⟨rfl, hb1⟩)
    | (with_reducible show wpList _ _ _ (Oper.mk (some 5) (Op.alloc 26) _ _ _ _ :: _) _ _
       refine wpList_alloc26 rfl rfl ?_; intro W2 hW2 zW2 sW2)
    | (with_reducible show wpList _ _ _ (Oper.mk _ (Op.store 26 (Operand.tmp 5) _) _ _ _ _ :: _) _ _
       refine wpList_store26 rfl _ _ rfl W1.heap.size 0 Z rfl rfl sW2.th HLZ.out ?_; intro W3 g3 r3 t3 z3
       have hb3 := (bel_then hb1 hW2).grown g3 (by have := hb1.size; have := hW2.size; omega) (fun k e => by injection e with e; have := hb1.size; omega)
       have HB3 := Lib.hid (bel_then HB0.out hb3)
       have HX3 := Lib.hid (blk_on hb3 HX0.out)
       have HR3 := Lib.hid (range_on HR0.out hb3)
       have HA3 := Lib.hid r3
       clear b0 b1 b2
       obtain ⟨b0, b1, b2⟩ := box_of HX3.out
       clear hb1 hW2 sW2 g3 t3 hb3 r3)
    | (go_at_call 9; refine (cR _ HB3.out).mono ?_; rintro e W4 ⟨rfl, hb4⟩
       have HA4 := Lib.hid (range_on HA3.out hb4))
    | (with_reducible show wpList _ _ _ (Oper.mk (some 7) (Op.alloc 26) _ _ _ _ :: _) _ _
       refine wpList_alloc26 rfl rfl ?_; intro W5 hW5 zW5 sW5)
    | (with_reducible show wpList _ _ _ (Oper.mk _ (Op.store 26 (Operand.tmp 7) _) _ _ _ _ :: _) _ _
       refine wpList_store26 rfl _ _ rfl W4.heap.size 0 Z rfl rfl sW5.th HLZ.out ?_; intro W6 g6 r6 t6 z6
       have hb6 := (bel_then hb4 hW5).grown g6 (by have := hb4.size; have := hW5.size; omega) (fun k e => by injection e with e; have := hb4.size; omega)
       have HB6 := Lib.hid (bel_then HB3.out hb6)
       have HX6 := Lib.hid (blk_on hb6 HX3.out)
       have HR6 := Lib.hid (range_on HR3.out hb6)
       have HA6 := Lib.hid (range_on HA3.out hb6)
       have HC6 := Lib.hid r6
       clear hb4 hW5 sW5 g6 t6 hb6 r6 HA4 b0 b1 b2)
    | (with_reducible show wpList _ _ _ (Oper.mk (some 24) (Op.load 26 (Operand.tmp 3)) _ _ _ _ :: _) _ _
       refine wpList_load_mid rfl 26 _ rfl _ _ rfl _ _ HR6.out Tryd.underlying26 rfl hi2 ?_)
    | (go_at_call 10; refine (cO _ HB6.out).mono ?_
       rintro e W7 ⟨pv7, rfl, hB7, hb7⟩
       have HBs7 := Lib.hid hB7
       obtain ⟨p7, c7, rfl, -⟩ := hB7
       have hb8 := bel_then hb7 (bel1 W7 (.cells #[.int .i64 K, .int .i64 N, .slice p7 PAY.length c7] 24))
       have HB8 := Lib.hid (bel_then HB6.out hb8)
       have HX8 := Lib.hid (blk_on hb8 HX6.out)
       have HR8 := Lib.hid (range_on HR6.out hb8)
       have HA8 := Lib.hid (range_on HA6.out hb8)
       have HC8 := Lib.hid (range_on HC6.out hb8)
       have HY8 := Lib.hid (heap_alloc_last W7 (.cells #[.int .i64 K, .int .i64 N, .slice p7 PAY.length c7] 24))
       have HBs8 := Lib.hid (HBs7.out.on (bel1 W7 (.cells #[.int .i64 K, .int .i64 N, .slice p7 PAY.length c7] 24)))
       clear hb7 hb8 HBs7)
    | (with_reducible show wpList _ _ _ (Oper.mk (some 29) (Op.load 26 (Operand.tmp 3)) _ _ _ _ :: _) _ _
       refine wpList_load_mid rfl 26 _ rfl _ _ rfl _ _ HR8.out Tryd.underlying26 rfl hi2 ?_)
    | (go_at_call 11; refine (cP _).mono ?_
       rintro e W9 ⟨pv9, rfl, hB9, hb9⟩
       have HBs9 := Lib.hid hB9
       obtain ⟨p9, c9, rfl, -⟩ := hB9
       have hb10 := bel_then hb9 (bel1 W9 (.cells #[.int .i64 K, .int .i64 N, .slice p9 PAY.length c9] 24))
       have HB10 := Lib.hid (bel_then HB8.out hb10)
       have HX10 := Lib.hid (blk_on hb10 HX8.out)
       have HA10 := Lib.hid (range_on HA8.out hb10)
       have HC10 := Lib.hid (range_on HC8.out hb10)
       have HY10 := Lib.hid (blk_on hb10 HY8.out)
       have HBs10 := Lib.hid (HBs8.out.on hb10)
       have HZ10 := Lib.hid (heap_alloc_last W9 (.cells #[.int .i64 K, .int .i64 N, .slice p9 PAY.length c9] 24))
       have HBt10 := Lib.hid (HBs9.out.on (bel1 W9 (.cells #[.int .i64 K, .int .i64 N, .slice p9 PAY.length c9] 24)))
       clear hb9 hb10 HBs9))
  obtain ⟨W, hW⟩ : ∃ W, W9.alloc (.cells #[.int .i64 K, .int .i64 N, .slice p9 PAY.length c9] 24) = W := ⟨_, rfl⟩
  rw [hW] at HB10 HX10 HA10 HC10 HY10 HBs10 HZ10 HBt10 ⊢
  clear hW HB8 HX8 HR8 HA8 HC8 HY8 HBs8 HB6 HX6 HR6 HA6 HC6 HB3 HX3 HR3 HA3 HB0 HX0 HR0
  have heq := fun w => eq26 Z Z HLZ.out HLZ.out w
  rw [decide_eq_true rfl] at heq
  have hu := Tryd.underlying26
  obtain ⟨b0, b1, b2⟩ := box_of HX10.out
  obtain ⟨y0, y1, y2⟩ := box_of HY10.out
  obtain ⟨z0, z1, z2⟩ := box_of HZ10.out
  have ra := HA10.out
  have rc := HC10.out
  have hz24 : Tryd.prog.underlying 24 = _ := Tryd.underlying24
  refine wp_region_noPanic ?_
  refine wp_region_held_drew (S := (fun u => u.rangeAt W1.heap.size 0 (enc Z) ∧ u.rangeAt W4.heap.size 0 (enc Z) ∧ u.cell? ⟨W7.heap.size, 0, none⟩ = some (.int .i64 K) ∧ u.cell? ⟨W7.heap.size, 1, none⟩ = some (.int .i64 N) ∧ u.cell? ⟨W7.heap.size, 2, none⟩ = some (.slice p7 PAY.length c7) ∧ u.cell? ⟨W9.heap.size, 0, none⟩ = some (.int .i64 K) ∧ u.cell? ⟨W9.heap.size, 1, none⟩ = some (.int .i64 N) ∧ u.cell? ⟨W9.heap.size, 2, none⟩ = some (.slice p9 PAY.length c9) ∧ u.cell? ⟨w.heap.size, 2, none⟩ = some (.slice p pay.length cap))) (by kernel_rfl) ?_ (fun hHeld => ?_)
  · exact ⟨ra, rc, y0, y1, y2, z0, z1, z2, b2⟩
  refine wpAnyH_ready (rs := [0]) (by kernel_rfl) (by simp) ?_
  refine AllReadyH.cons (o := _) rfl (fun KQ hKQ => ?_) AllReadyH.nil
  go_simp
  refine (begun12 _ (tab_on HT.out (bel_then HB10.out (Below.refl _ _).drew))).mono ?_
  rintro e V1 ⟨rfl, hv1⟩
  have hv1' := bel_then ((Below.refl _ W).drew) hv1
  replace hHeld : (fun u => u.rangeAt W1.heap.size 0 (enc Z) ∧ u.rangeAt W4.heap.size 0 (enc Z) ∧ u.cell? ⟨W7.heap.size, 0, none⟩ = some (.int .i64 K) ∧ u.cell? ⟨W7.heap.size, 1, none⟩ = some (.int .i64 N) ∧ u.cell? ⟨W7.heap.size, 2, none⟩ = some (.slice p7 PAY.length c7) ∧ u.cell? ⟨W9.heap.size, 0, none⟩ = some (.int .i64 K) ∧ u.cell? ⟨W9.heap.size, 1, none⟩ = some (.int .i64 N) ∧ u.cell? ⟨W9.heap.size, 2, none⟩ = some (.slice p9 PAY.length c9) ∧ u.cell? ⟨w.heap.size, 2, none⟩ = some (.slice p pay.length cap)) V1 := ⟨range_on ra hv1', range_on rc hv1', some_on hv1' y0, some_on hv1' y1, some_on hv1' y2, some_on hv1' z0, some_on hv1' z1, some_on hv1' z2, some_on hv1' b2⟩
  have HV1 := Lib.hid hv1'
  clear hv1 hv1'
  go_wp2_with fail
  refine hKQ.out _ _ hHeld (fun _ => ?_)
  clear hKQ KQ
  try simp only [Act.put, List.setIfInBounds_toArray, List.set_cons_zero, List.set_cons_succ]
  refine take_at (i := 1) (oi := _) (v := ?_) 34 rfl rfl (by kernel_rfl) (by kernel_rfl) (by kernel_rfl) (fun _ _ _ h => h) (Or.inl ⟨by kernel_rfl, ?_⟩) hHeld ?_
  rotate_left
  · intro u hSw; obtain ⟨ra, rc, y0, y1, y2, z0, z1, z2, b2⟩ := hSw; go_simp
    try with_reducible rfl
  simp only [Act.put, List.setIfInBounds_toArray, List.set_cons_zero, List.set_cons_succ]
  refine take_at (i := 2) (oi := _) (v := _) 35 rfl rfl (by kernel_rfl) (by kernel_rfl) (by kernel_rfl) (fun _ _ _ h => h) (yieldsIf_load_mid (by kernel_rfl) _ _ rfl _ _ rfl _ _ (fun w h => h.1) hu rfl hi1) hHeld ?_
  simp only [Act.put, List.setIfInBounds_toArray, List.set_cons_zero, List.set_cons_succ]
  refine take_at (i := 3) (oi := _) (v := _) 36 rfl rfl (by kernel_rfl) (by kernel_rfl) (by kernel_rfl) (fun _ _ _ h => h) (yieldsIf_load_mid (by kernel_rfl) _ _ rfl _ _ rfl _ _ (fun w h => h.2.1) hu rfl hi1) hHeld ?_
  simp only [Act.put, List.setIfInBounds_toArray, List.set_cons_zero, List.set_cons_succ]
  refine take_at (i := 4) (oi := _) (v := ?_) 37 rfl rfl (by kernel_rfl) (by kernel_rfl) (by kernel_rfl) (fun _ _ _ h => h) (Or.inl ⟨by kernel_rfl, ?_⟩) hHeld ?_
  rotate_left
  · intro u hSw; obtain ⟨ra, rc, y0, y1, y2, z0, z1, z2, b2⟩ := hSw; go_simp
    try with_reducible rfl
  simp only [Act.put, List.setIfInBounds_toArray, List.set_cons_zero, List.set_cons_succ]
  refine take_at (i := 5) (oi := _) (v := ?_) 38 rfl rfl (by kernel_rfl) (by kernel_rfl) (by kernel_rfl) (fun _ _ _ h => h) (Or.inl ⟨by kernel_rfl, ?_⟩) hHeld ?_
  rotate_left
  · intro u hSw; obtain ⟨ra, rc, y0, y1, y2, z0, z1, z2, b2⟩ := hSw; go_simp
    try with_reducible rfl
  simp only [Act.put, List.setIfInBounds_toArray, List.set_cons_zero, List.set_cons_succ]
  refine take_at (i := 6) (oi := _) (v := ?_) 39 rfl rfl (by kernel_rfl) (by kernel_rfl) (by kernel_rfl) (fun _ _ _ h => h) (Or.inl ⟨by kernel_rfl, ?_⟩) hHeld ?_
  rotate_left
  · intro u hSw; obtain ⟨ra, rc, y0, y1, y2, z0, z1, z2, b2⟩ := hSw; go_simp
    try with_reducible rfl
  simp only [Act.put, List.setIfInBounds_toArray, List.set_cons_zero, List.set_cons_succ]
  refine take_at (i := 7) (oi := _) (v := ?_) 40 rfl rfl (by kernel_rfl) (by kernel_rfl) (by kernel_rfl) (fun _ _ _ h => h) (Or.inl ⟨by kernel_rfl, ?_⟩) hHeld ?_
  rotate_left
  · intro u hSw; obtain ⟨ra, rc, y0, y1, y2, z0, z1, z2, b2⟩ := hSw; go_simp
    try with_reducible rfl
  simp only [Act.put, List.setIfInBounds_toArray, List.set_cons_zero, List.set_cons_succ]
  refine take_at (i := 8) (oi := _) (v := ?_) 41 rfl rfl (by kernel_rfl) (by kernel_rfl) (by kernel_rfl) (fun _ _ _ h => h) (Or.inl ⟨by kernel_rfl, ?_⟩) hHeld ?_
  rotate_left
  · intro u hSw; obtain ⟨ra, rc, y0, y1, y2, z0, z1, z2, b2⟩ := hSw; go_simp
    try with_reducible rfl
  simp only [Act.put, List.setIfInBounds_toArray, List.set_cons_zero, List.set_cons_succ]
  refine take_at (i := 9) (oi := _) (v := ?_) 42 rfl rfl (by kernel_rfl) (by kernel_rfl) (by kernel_rfl) (fun _ _ _ h => h) (Or.inl ⟨by kernel_rfl, ?_⟩) hHeld ?_
  rotate_left
  · intro u hSw; obtain ⟨ra, rc, y0, y1, y2, z0, z1, z2, b2⟩ := hSw; go_simp
    try with_reducible rfl
  simp only [Act.put, List.setIfInBounds_toArray, List.set_cons_zero, List.set_cons_succ]
  refine take_at (i := 10) (oi := _) (v := ?_) 43 rfl rfl (by kernel_rfl) (by kernel_rfl) (by kernel_rfl) (fun _ _ _ h => h) (Or.inl ⟨by kernel_rfl, ?_⟩) hHeld ?_
  rotate_left
  · intro u hSw; obtain ⟨ra, rc, y0, y1, y2, z0, z1, z2, b2⟩ := hSw; go_simp
    try with_reducible rfl
  simp only [Act.put, List.setIfInBounds_toArray, List.set_cons_zero, List.set_cons_succ]
  refine take_at (i := 11) (oi := _) (v := ?_) 44 rfl rfl (by kernel_rfl) (by kernel_rfl) (by kernel_rfl) (fun _ _ _ h => h) (Or.inl ⟨by kernel_rfl, ?_⟩) hHeld ?_
  rotate_left
  · intro u hSw; obtain ⟨ra, rc, y0, y1, y2, z0, z1, z2, b2⟩ := hSw; go_simp
    try with_reducible rfl
  simp only [Act.put, List.setIfInBounds_toArray, List.set_cons_zero, List.set_cons_succ]
  refine take_at (i := 12) (oi := _) (v := ?_) 45 rfl rfl (by kernel_rfl) (by kernel_rfl) (by kernel_rfl) (fun _ _ _ h => h) (Or.inl ⟨by kernel_rfl, ?_⟩) hHeld ?_
  rotate_left
  · intro u hSw; obtain ⟨ra, rc, y0, y1, y2, z0, z1, z2, b2⟩ := hSw; go_simp
    try with_reducible rfl
  simp only [Act.put, List.setIfInBounds_toArray, List.set_cons_zero, List.set_cons_succ]
  refine take_at (i := 13) (oi := _) (v := ?_) 46 rfl rfl (by kernel_rfl) (by kernel_rfl) (by kernel_rfl) (fun _ _ _ h => h) (Or.inl ⟨by kernel_rfl, ?_⟩) hHeld ?_
  rotate_left
  · intro u hSw; obtain ⟨ra, rc, y0, y1, y2, z0, z1, z2, b2⟩ := hSw; go_simp
    try with_reducible rfl
  simp only [Act.put, List.setIfInBounds_toArray, List.set_cons_zero, List.set_cons_succ]
  refine wpAnyH_ready (rs := [14]) (by kernel_rfl) (by simp) ?_
  refine AllReadyH.cons (o := _) rfl (fun KQ hKQ => ?_) AllReadyH.nil
  go_simp
  refine (same13 _ K N K N _ _ PAY PAY (HBs10.out.on HV1.out) (HBt10.out.on HV1.out)).mono ?_
  rintro e V2 ⟨rfl, hv2⟩
  rw [sameF_self]
  have hv2' := bel_then HV1.out hv2
  replace hHeld : (fun u => u.rangeAt W1.heap.size 0 (enc Z) ∧ u.rangeAt W4.heap.size 0 (enc Z) ∧ u.cell? ⟨W7.heap.size, 0, none⟩ = some (.int .i64 K) ∧ u.cell? ⟨W7.heap.size, 1, none⟩ = some (.int .i64 N) ∧ u.cell? ⟨W7.heap.size, 2, none⟩ = some (.slice p7 PAY.length c7) ∧ u.cell? ⟨W9.heap.size, 0, none⟩ = some (.int .i64 K) ∧ u.cell? ⟨W9.heap.size, 1, none⟩ = some (.int .i64 N) ∧ u.cell? ⟨W9.heap.size, 2, none⟩ = some (.slice p9 PAY.length c9) ∧ u.cell? ⟨w.heap.size, 2, none⟩ = some (.slice p pay.length cap)) V2 := ⟨range_on ra hv2', range_on rc hv2', some_on hv2' y0, some_on hv2' y1, some_on hv2' y2, some_on hv2' z0, some_on hv2' z1, some_on hv2' z2, some_on hv2' b2⟩
  have HV2 := Lib.hid hv2'
  clear hv2 hv2'
  go_wp2_with fail
  refine hKQ.out _ _ hHeld (fun _ => ?_)
  clear hKQ KQ
  try simp only [Act.put, List.setIfInBounds_toArray, List.set_cons_zero, List.set_cons_succ]
  refine take_at (i := 15) (oi := _) (v := ?_) 48 rfl rfl (by kernel_rfl) (by kernel_rfl) (by kernel_rfl) (fun _ _ _ h => h) (Or.inl ⟨by kernel_rfl, ?_⟩) hHeld ?_
  rotate_left
  · intro u hSw; obtain ⟨ra, rc, y0, y1, y2, z0, z1, z2, b2⟩ := hSw; go_simp
    try with_reducible rfl
  simp only [Act.put, List.setIfInBounds_toArray, List.set_cons_zero, List.set_cons_succ]
  refine take_at (i := 16) (oi := _) (v := ?_) 49 rfl rfl (by kernel_rfl) (by kernel_rfl) (by kernel_rfl) (fun _ _ _ h => h) (Or.inl ⟨by kernel_rfl, ?_⟩) hHeld ?_
  rotate_left
  · intro u hSw; obtain ⟨ra, rc, y0, y1, y2, z0, z1, z2, b2⟩ := hSw; go_simp
    try with_reducible rfl
  simp only [Act.put, List.setIfInBounds_toArray, List.set_cons_zero, List.set_cons_succ]
  refine take_at (i := 17) (oi := _) (v := ?_) 50 rfl rfl (by kernel_rfl) (by kernel_rfl) (by kernel_rfl) (fun _ _ _ h => h) (Or.inl ⟨by kernel_rfl, ?_⟩) hHeld ?_
  rotate_left
  · intro u hSw; obtain ⟨ra, rc, y0, y1, y2, z0, z1, z2, b2⟩ := hSw; go_simp
    try with_reducible rfl
  simp only [Act.put, List.setIfInBounds_toArray, List.set_cons_zero, List.set_cons_succ]
  refine take_at (i := 18) (oi := _) (v := ?_) 51 rfl rfl (by kernel_rfl) (by kernel_rfl) (by kernel_rfl) (fun _ _ _ h => h) (Or.inl ⟨by kernel_rfl, ?_⟩) hHeld ?_
  rotate_left
  · intro u hSw; obtain ⟨ra, rc, y0, y1, y2, z0, z1, z2, b2⟩ := hSw; go_simp
    try with_reducible rfl
  simp only [Act.put, List.setIfInBounds_toArray, List.set_cons_zero, List.set_cons_succ]
  refine take_at (i := 19) (oi := _) (v := ?_) 52 rfl rfl (by kernel_rfl) (by kernel_rfl) (by kernel_rfl) (fun _ _ _ h => h) (Or.inl ⟨by kernel_rfl, ?_⟩) hHeld ?_
  rotate_left
  · intro u hSw; obtain ⟨ra, rc, y0, y1, y2, z0, z1, z2, b2⟩ := hSw; go_simp
    try with_reducible rfl
  simp only [Act.put, List.setIfInBounds_toArray, List.set_cons_zero, List.set_cons_succ]
  refine take_at (i := 20) (oi := _) (v := ?_) 53 rfl rfl (by kernel_rfl) (by kernel_rfl) (by kernel_rfl) (fun _ _ _ h => h) (Or.inl ⟨by kernel_rfl, ?_⟩) hHeld ?_
  rotate_left
  · intro u hSw; obtain ⟨ra, rc, y0, y1, y2, z0, z1, z2, b2⟩ := hSw; go_simp
    try with_reducible rfl
  simp only [Act.put, List.setIfInBounds_toArray, List.set_cons_zero, List.set_cons_succ]
  refine take_at (i := 21) (oi := _) (v := ?_) 54 rfl rfl (by kernel_rfl) (by kernel_rfl) (by kernel_rfl) (fun _ _ _ h => h) (Or.inl ⟨by kernel_rfl, ?_⟩) hHeld ?_
  rotate_left
  · intro u hSw; obtain ⟨ra, rc, y0, y1, y2, z0, z1, z2, b2⟩ := hSw; go_simp
    try with_reducible rfl
  simp only [Act.put, List.setIfInBounds_toArray, List.set_cons_zero, List.set_cons_succ]
  refine take_at (i := 22) (oi := _) (v := ?_) 55 rfl rfl (by kernel_rfl) (by kernel_rfl) (by kernel_rfl) (fun _ _ _ h => h) (Or.inl ⟨by kernel_rfl, ?_⟩) hHeld ?_
  rotate_left
  · intro u hSw; obtain ⟨ra, rc, y0, y1, y2, z0, z1, z2, b2⟩ := hSw; go_simp
    try with_reducible rfl
  simp only [Act.put, List.setIfInBounds_toArray, List.set_cons_zero, List.set_cons_succ]
  refine take_at (i := 23) (oi := _) (v := ?_) 56 rfl rfl (by kernel_rfl) (by kernel_rfl) (by kernel_rfl) (fun _ _ _ h => h) (Or.inl ⟨by kernel_rfl, ?_⟩) hHeld ?_
  rotate_left
  · intro u hSw; obtain ⟨ra, rc, y0, y1, y2, z0, z1, z2, b2⟩ := hSw; go_simp
    try with_reducible rfl
  simp only [Act.put, List.setIfInBounds_toArray, List.set_cons_zero, List.set_cons_succ]
  refine take_at (i := 25) (oi := _) (v := ?_) 58 rfl rfl (by kernel_rfl) (by kernel_rfl) (by kernel_rfl) (fun _ _ _ h => h) (Or.inl ⟨by kernel_rfl, ?_⟩) hHeld ?_
  rotate_left
  · intro u hSw; obtain ⟨ra, rc, y0, y1, y2, z0, z1, z2, b2⟩ := hSw; go_simp
    try with_reducible rfl
  simp only [Act.put, List.setIfInBounds_toArray, List.set_cons_zero, List.set_cons_succ]
  refine take_at (i := 26) (oi := _) (v := ?_) 59 rfl rfl (by kernel_rfl) (by kernel_rfl) (by kernel_rfl) (fun _ _ _ h => h) (Or.inl ⟨by kernel_rfl, ?_⟩) hHeld ?_
  rotate_left
  · intro u hSw; obtain ⟨ra, rc, y0, y1, y2, z0, z1, z2, b2⟩ := hSw; go_simp
    try with_reducible rfl
  simp only [Act.put, List.setIfInBounds_toArray, List.set_cons_zero, List.set_cons_succ]
  refine wpAnyH_ready (rs := [24]) (by kernel_rfl) (by simp) ?_
  refine AllReadyH.cons (o := _) rfl (fun KQ hKQ => ?_) AllReadyH.nil
  go_simp
  refine (sum14 _ _ pay (HP.out.on (bel_then HB10.out HV2.out)) (tab_on HT.out (bel_then HB10.out HV2.out))).mono ?_
  rintro e V3 ⟨rfl, rfl⟩
  go_wp2_with fail
  refine hKQ.out _ _ hHeld (fun _ => ?_)
  clear hKQ KQ
  try simp only [Act.put, List.setIfInBounds_toArray, List.set_cons_zero, List.set_cons_succ]
  refine wpAnyH_ready (rs := [27]) (by kernel_rfl) (by simp) ?_
  refine AllReadyH.cons (o := _) rfl (fun KQ hKQ => ?_) AllReadyH.nil
  go_simp
  refine (rsum15 _ _ pay (HP.out.on (bel_then HB10.out HV2.out))).mono ?_
  rintro e V4 ⟨rfl, rfl⟩
  go_wp2_with fail
  refine hKQ.out _ _ hHeld (fun _ => ?_)
  clear hKQ KQ
  try simp only [Act.put, List.setIfInBounds_toArray, List.set_cons_zero, List.set_cons_succ]
  refine take_at (i := 28) (oi := _) (v := ?_) 61 rfl rfl (by kernel_rfl) (by kernel_rfl) (by kernel_rfl) (fun _ _ _ h => h) (Or.inl ⟨by kernel_rfl, ?_⟩) hHeld ?_
  rotate_left
  · intro u hSw; obtain ⟨ra, rc, y0, y1, y2, z0, z1, z2, b2⟩ := hSw; go_simp
    try with_reducible rfl
  simp only [Act.put, List.setIfInBounds_toArray, List.set_cons_zero, List.set_cons_succ]
  refine take_at (i := 29) (oi := _) (v := ?_) 62 rfl rfl (by kernel_rfl) (by kernel_rfl) (by kernel_rfl) (fun _ _ _ h => h) (Or.inl ⟨by kernel_rfl, ?_⟩) hHeld ?_
  rotate_left
  · intro u hSw; obtain ⟨ra, rc, y0, y1, y2, z0, z1, z2, b2⟩ := hSw; go_simp
    try with_reducible rfl
  simp only [Act.put, List.setIfInBounds_toArray, List.set_cons_zero, List.set_cons_succ]
  refine take_at (i := 30) (oi := _) (v := ?_) 4 rfl rfl (by kernel_rfl) (by kernel_rfl) (by kernel_rfl) (fun _ _ _ h => h) (Or.inl ⟨by kernel_rfl, ?_⟩) hHeld ?_
  rotate_left
  · intro u hSw; obtain ⟨ra, rc, y0, y1, y2, z0, z1, z2, b2⟩ := hSw; go_simp
    try with_reducible rfl
  simp only [Act.put, List.setIfInBounds_toArray, List.set_cons_zero, List.set_cons_succ]
  refine wpAnyH_done (by kernel_rfl) ?_ _
  refine NoPanic.normal ?_
  go_wp2
  go_ret
  exact ⟨rfl, bel_then HB10.out HV2.out⟩
end Go.Proofs.YtafnelpcnfmhfaaDoor
