/-
  NodePlace's walk (under way).
-/
import Derived.Test.YtbkpgppaahpalaaPlm
import Derived.Test.YtbkpgppaahpalaaRcl
import Derived.Deep.RegionHeld3
import Derived.Test.YtbkpgppaahpalaaMpl
namespace Go.Proofs.Ytbkpgppaahpalaa
open Go.RowKit
set_option linter.unusedVariables false      -- a walk need not use every condition

theorem equal_same2 (w : World) (a b : Value) (t : List UInt8) (ha : Bs w a t) (hb : Bs w b t) : Calls Try.prog 17 #[a, b] w fun e w' => e = .returned (.bool true) ∧ w' = w := by
  have := equal17 w a b t t ha hb
  rwa [show (t == t) = true by simp] at this
set_option maxHeartbeats 8000000 in
set_option maxRecDepth 100000 in
theorem place_yes (w : World) (v x : Value) (n : Nd) (c : C) (h : NdS w v n) (hx : CeS w x c) (hf : Fit (insN n c)) (hf0 : Fit n) (hb : (n.cells.length + 1) * 64 ≤ 140737488355328)
    (hm : may n = true) (hL : n.leaf = true) (h1 : 1 ≤ c.key.length) (h2 : c.key.length ≤ 96) (h3 : c.over = 0) (h4 : c.len = 0) (h5 : c.val.length ≤ 64) :
    Calls Try.prog 9 #[v, x] w fun e w' => e = .returned (.bool true) ∧ Below w.heap.size w w' := by
  have hmC : mayC [] n.cells = true := by
    unfold may at hm
    rw [hL, if_pos rfl] at hm
    unfold leafOk at hm
    simp only [Bool.and_eq_true] at hm
    exact hm.2
  have hkn : Lib.compareBytes [] c.key < 0 := by
    cases hk : c.key with
    | nil => rw [hk] at h1; simp at h1
    | cons a r => simp [Lib.compareBytes]
  have hmay : may (insN n c) = true := by
    unfold may at hm ⊢
    rw [hL, if_pos rfl] at hm
    show (if n.leaf = true then leafOk (insN n c) else innerOk (insN n c)) = true
    rw [hL, if_pos rfl]
    unfold leafOk at hm ⊢
    simp only [Bool.and_eq_true] at hm ⊢
    refine ⟨hm.1, ?_⟩
    show mayC [] (insC c n.cells) = true
    rw [insC_eq]
    exact place_may c (by unfold keyOk'; simp [h1, h2]) (by unfold valOk; rw [if_pos h3]; simp [h5, h4]) hmC hkn
  obtain ⟨pf1, pf2⟩ := place_find c n.cells
  have pis := place_is c n.cells
  have plen := place_len c n.cells
  obtain ⟨pb1, pb2, pb3, pb4⟩ := place_back c hmC
  have HN := Lib.hid h
  have HX := Lib.hid hx
  obtain ⟨vc, vk, vi, rfl, hC, hK, hI⟩ := h
  obtain ⟨pc, cc, rfl, -, -⟩ := hC.hdr
  obtain ⟨pk, ck, rfl, -, -⟩ := hK.hdr
  obtain ⟨pi, ci, rfl, -, -⟩ := hI.hdr
  obtain ⟨ka, xa, rfl, hBk, hBx, hIo, hIl⟩ := hx
  have HBk := Lib.hid hBk
  have HBx := Lib.hid hBx
  obtain ⟨kp, kc, rfl, -, -⟩ := hBk.slice
  obtain ⟨xp, xc, rfl, -, -⟩ := hBx.slice
  clear hC hK hI hBk hBx hIo hIl
  obtain ⟨W, hW⟩ : ∃ W, W = (w.alloc (Obj.cells #[.bool n.leaf, .slice pc n.cells.length cc, .slice pk n.keys.length ck, .slice pi n.kids.length ci] 26)).alloc (Obj.cells #[.slice kp c.key.length kc, .slice xp c.val.length xc, .int .i64 c.over, .int .i64 c.len] 44) := ⟨_, rfl⟩
  have hWs : W.heap.size = w.heap.size + 1 + 1 := by rw [hW]; simp
  have hWA : W.heap[w.heap.size]? = some (Obj.cells #[.bool n.leaf, .slice pc n.cells.length cc, .slice pk n.keys.length ck, .slice pi n.kids.length ci] 26) := by rw [hW]; exact blk_on (bel1 _ _) (World.alloc_heap_new w _)
  have hWC : W.heap[w.heap.size + 1]? = some (Obj.cells #[.slice kp c.key.length kc, .slice xp c.val.length xc, .int .i64 c.over, .int .i64 c.len] 44) := by
    rw [hW]
    have := World.alloc_heap_new (w.alloc (Obj.cells #[.bool n.leaf, .slice pc n.cells.length cc, .slice pk n.keys.length ck, .slice pi n.kids.length ci] 26)) (Obj.cells #[.slice kp c.key.length kc, .slice xp c.val.length xc, .int .i64 c.over, .int .i64 c.len] 44)
    rwa [World.size_alloc] at this
  have hWB : Below w.heap.size w W := by rw [hW]; exact bel_then (bel1 _ _) (bel1 _ _)
  have c12 := begun12 W
  have c13 := fun (u : World) (hu : Below w.heap.size w u) => check13 u _ n (HN.out.on hu)
  have c34 := fun (u : World) (hu : Below w.heap.size w u) => find34 u _ _ n c.key (HN.out.on hu) (HBk.out.on hu)
  have c27 := fun (u : World) (hu : Below w.heap.size w u) => insert27 u _ _ n c (HN.out.on hu) (HX.out.on hu) hf hb
  have d34 := fun (u : World) (y : Value) (hu : Below w.heap.size w u) (hy : NdS u y (insN n c)) => find34 u y _ (insN n c) c.key hy (HBk.out.on hu)
  have e1 : fnd c.key (insN n c).cells = fnd c.key n.cells := by show fnd c.key (insC c n.cells) = _; rw [insC_eq]; exact pf1
  have e2 : fndB c.key (insN n c).cells = true := by show fndB c.key (insC c n.cells) = _; rw [insC_eq]; exact pf2
  rw [e1, e2] at d34
  rw [hm, show chkE true = 0 from rfl] at c13
  have HW := Lib.hid hW
  have HA := Lib.hid hWA
  have HCb := Lib.hid hWC
  have HWB := Lib.hid hWB
  have HWs := Lib.hid hWs
  have z1 : ¬ (c.key.length : Int) < 1 := by omega
  have z2 : ¬ (96 : Int) < (c.key.length : Int) := by omega
  have z5 : ¬ (64 : Int) < (c.val.length : Int) := by omega
  clear hWs hWA hWC hWB hm pf1 pf2 e1 e2
  rw [hL] at HA HW c13 c34 c27 HN
  obtain ⟨rn, hrn⟩ : ∃ r, rmN n c.key = r := ⟨_, rfl⟩
  rw [h3, h4] at HW HCb c27
  rw [hL, h3, h4]
  have HR : Hid (rmN (insN n c) c.key = rmN n c.key) := by
    show _ = _
    unfold rmN
    show Nd.mk n.leaf (rmC c.key (insC c n.cells)) n.keys n.kids = _
    rw [insC_eq, rmC_eq, rmC_eq, pb1]
  have HI1 : Hid (decide (0 ≤ idxK c.key (insN n c).cells) = true) := by
    show decide (0 ≤ idxK c.key (insC c n.cells)) = true
    rw [insC_eq]
    exact pb4
  have HI2 : Hid (decide (0 ≤ idxK c.key n.cells) = fndB c.key n.cells) := pb3
  have HI3 : Hid (fndB c.key n.cells = false → rmN n c.key = n) := fun hB => by
    unfold rmN
    rw [rmC_eq, pb2 hB]
  have CX : Hid (∀ (u : World) (y z : Value), NdS u y (insN n c) → Bs u z c.key → Calls Try.prog 35 #[y, z] u fun e w' => ∃ v', e = .returned (.tuple #[v', .bool true]) ∧ NdO u.heap.size w' v' (rmN n c.key) ∧ Below u.heap.size u w') := fun u y z hy hz => by
    have := remove35 u y z (insN n c) c.key hy hz hf
    rwa [HI1.out, HR.out] at this
  have CN : Hid (∀ (u : World) (y z : Value), NdS u y n → Bs u z c.key → Calls Try.prog 35 #[y, z] u fun e w' => ∃ v', e = .returned (.tuple #[v', .bool (fndB c.key n.cells)]) ∧ NdO u.heap.size w' v' (rmN n c.key) ∧ Below u.heap.size u w') := fun u y z hy hz => by
    have := remove35 u y z n c.key hy hz hf0
    rwa [HI2.out] at this
  clear HI1 HI2 HR
  generalize hk9 : fnd c.key n.cells = k at *
  generalize hB9 : fndB c.key n.cells = is0 at *
  generalize n.keys.length = M at *
  generalize n.kids.length = P at *
  generalize hN9 : n.cells.length = N at *
  generalize hK9 : c.key.length = K1 at *
  generalize hV9 : c.val.length = K2 at *
  have tk : True := trivial
  go_enter Try.func9, Try.ntmps9
  go_wp2_with (fail)
  rw [← HW.out]
  refine c12.mono ?_
  rintro e w1 ⟨rfl, hb1⟩
  have HB1 := Lib.hid (bel_then HWB.out hb1)
  have HA1 := Lib.hid (blk_on hb1 HA.out)
  have HC1 := Lib.hid (blk_on hb1 HCb.out)
  obtain ⟨a0, a1, a2, a3⟩ := four_of HA1.out
  obtain ⟨b0, b1, b2, b3⟩ := four_of HC1.out
  clear hb1 c12
  go_wp2_with (first
    | (go_at_call 13; refine (c13 w1 HB1.out).mono ?_; rintro e w2 ⟨rfl, hb2⟩
       have HB2 := Lib.hid (bel_then HB1.out hb2); have HA2 := Lib.hid (blk_on hb2 HA1.out); have HC2 := Lib.hid (blk_on hb2 HC1.out)
       obtain ⟨a0, a1, a2, a3⟩ := four_of HA2.out
       obtain ⟨b0, b1, b2, b3⟩ := four_of HC2.out
       clear hb2)
    | (go_at_call 34; clear tk; refine (c34 w2 HB2.out).mono ?_; rintro e w3 ⟨rfl, hb3⟩
       have HB3 := Lib.hid (bel_then HB2.out hb3); have HA3 := Lib.hid (blk_on hb3 HA2.out); have HC3 := Lib.hid (blk_on hb3 HC2.out)
       obtain ⟨a0, a1, a2, a3⟩ := four_of HA3.out
       obtain ⟨b0, b1, b2, b3⟩ := four_of HC3.out
       clear hb3)
    | (go_at_call 27; refine (c27 w3 HB3.out).mono ?_; rintro e w4 ⟨v4, rfl, hn4, hb4⟩
       have HN4 := Lib.hid hn4; obtain ⟨r1, f1, r2, f2, r3, f3, rfl⟩ := hn4.hdr
       have HB4 := Lib.hid (bel_then HB3.out hb4); have HA4 := Lib.hid (blk_on hb4 HA3.out); have HC4 := Lib.hid (blk_on hb4 HC3.out)
       obtain ⟨a0, a1, a2, a3⟩ := four_of HA4.out
       obtain ⟨b0, b1, b2, b3⟩ := four_of HC4.out
       have hA4 := (Array.getElem?_eq_some_iff.1 HA4.out).1
       have hC4 := (Array.getElem?_eq_some_iff.1 HC4.out).1
       have HX5 := Lib.hid (World.alloc_heap_new w4 (Obj.cells #[.bool (insN n c).leaf, .slice r1 (insN n c).cells.length f1, .slice r2 (insN n c).keys.length f2, .slice r3 (insN n c).kids.length f3] 26))
       have HB5 := Lib.hid (bel_then HB4.out (bel1 w4 (Obj.cells #[.bool (insN n c).leaf, .slice r1 (insN n c).cells.length f1, .slice r2 (insN n c).keys.length f2, .slice r3 (insN n c).kids.length f3] 26)))
       have HA5 := Lib.hid (blk_on (bel1 w4 (Obj.cells #[.bool (insN n c).leaf, .slice r1 (insN n c).cells.length f1, .slice r2 (insN n c).keys.length f2, .slice r3 (insN n c).kids.length f3] 26)) HA4.out)
       have HC5 := Lib.hid (blk_on (bel1 w4 (Obj.cells #[.bool (insN n c).leaf, .slice r1 (insN n c).cells.length f1, .slice r2 (insN n c).keys.length f2, .slice r3 (insN n c).kids.length f3] 26)) HC4.out)
       have HN5 := Lib.hid (hn4.on (bel1 w4 (Obj.cells #[.bool (insN n c).leaf, .slice r1 (insN n c).cells.length f1, .slice r2 (insN n c).keys.length f2, .slice r3 (insN n c).kids.length f3] 26)))
       clear hn4 hb4)
    | (go_at_call 34; refine (d34 _ _ HB5.out HN5.out.s).mono ?_; rintro e w6 ⟨rfl, hb6⟩
       have HB6 := Lib.hid (bel_then HB5.out hb6); have HA6 := Lib.hid (blk_on hb6 HA5.out); have HC6 := Lib.hid (blk_on hb6 HC5.out); have HX6 := Lib.hid (blk_on hb6 HX5.out)
       have HN6 := Lib.hid (HN5.out.on hb6)
       clear hb6))
  obtain ⟨a0, a1, a2, a3⟩ := four_of HA6.out
  obtain ⟨b0, b1, b2, b3⟩ := four_of HC6.out
  obtain ⟨x0, x1, x2, x3⟩ := four_of HX6.out
  have hcell : (insN n c).cells = insR c n.cells := by show insC c n.cells = _; exact insC_eq c n.cells
  have hkl : k < (insN n c).cells.length := by
    rw [hcell]
    exact (List.getElem?_eq_some_iff.1 pis).1
  have hck : (insN n c).cells[k] = c := by
    have := pis
    rw [← hcell] at this
    exact (List.getElem?_eq_some_iff.1 this).2
  obtain ⟨yc, yk, yi, ey, hCy, -, -⟩ := HN6.out.s
  injection ey with ey
  have ey1 : (#[Value.bool (insN n c).leaf, .slice r1 (insN n c).cells.length f1, .slice r2 (insN n c).keys.length f2, .slice r3 (insN n c).kids.length f3] : Array Value)[1]? = (#[Value.bool (insN n c).leaf, yc, yk, yi] : Array Value)[1]? := by rw [ey]
  simp only [List.getElem?_toArray, List.getElem?_cons_succ, List.getElem?_cons_zero, Option.some.injEq] at ey1
  subst ey1
  obtain ⟨g0, o0, cap0, k', x', e, y0, y1, y2, y3, hBk', hBx', -, -⟩ := hCy.at hkl
  rw [hck] at hBx'
  obtain ⟨xp', xc', rfl, -, -⟩ := hBx'.slice
  injection e with er1 er2 er3
  subst er1 er3
  clear er2 ey hck hBk' y0 y2 y3
  have lenI : (insN n c).cells.length = N + (if is0 then 0 else 1) := by rw [hcell, plen]
  have c13' := fun (u : World) (y : Value) (hy : NdS u y (insN n c)) => check13 u y (insN n c) hy
  rw [hmay, show chkE true = 0 from rfl] at c13'
  have c17 := fun (u : World) (hu : Below w6.heap.size w6 u) => equal_same2 u _ _ c.val (hBx'.on hu) ((HBx.out.on HB6.out).on hu)
  rw [hV9] at c17
  rw [hV9] at y1
  have HY : Hid (∀ u, Below w6.heap.size w6 u → NdS u (.agg #[.bool (insN n c).leaf, .slice (some ⟨g0, o0, none⟩) (insN n c).cells.length f1, .slice r2 (insN n c).keys.length f2, .slice r3 (insN n c).kids.length f3]) (insN n c)) := fun u hu => (HN6.out.on hu).s
  generalize (insN n c).leaf = lf at *
  generalize (insN n c).keys.length = M1 at *
  generalize (insN n c).kids.length = P1 at *
  have hleafe : True := trivial
  generalize (insN n c).cells.length = N1 at *
  have hkz : (k : Int) < (N1 : Int) := by omega
  have hk0 : (0 : Int) ≤ (k : Int) := by omega
  have SS : ∀ u, Below w6.heap.size w6 u → (u.cell? ⟨w4.heap.size, 0, none⟩ = some (.bool lf) ∧ u.cell? ⟨w4.heap.size, 1, none⟩ = some (.slice (some ⟨g0, o0, none⟩) N1 f1) ∧ u.cell? ⟨w4.heap.size, 2, none⟩ = some (.slice r2 M1 f2) ∧ u.cell? ⟨w4.heap.size, 3, none⟩ = some (.slice r3 P1 f3) ∧ u.cell? ⟨w.heap.size, 1, none⟩ = some (.slice pc N cc) ∧ u.cell? ⟨w.heap.size + 1, 1, none⟩ = some (.slice xp K2 xc) ∧ u.cell? ⟨g0, o0 + k * 4 + 1, none⟩ = some (.slice xp' K2 xc')) := fun u hu => ⟨cell_past hu x0, cell_past hu x1, cell_past hu x2, cell_past hu x3, cell_past hu a1, cell_past hu b1, cell_past hu y1⟩
  have s0 := SS w6.drew (Below.refl _ w6).drew
  have hz4 : w.heap.size + 1 < w4.heap.size := hC4
  rw [hrn] at CX CN HI3
  clear pis plen hcell hkl hCy pb1 pb2 pb3 pb4 c13 c34 c27 d34 hrn
  cases is0 with
  | true =>
    have lenZ : IntKind.i64.wrap ((N1 : Int) - (N : Int)) = 0 := by rw [IntKind.wrap_i64]; simp at lenI; omega
    clear lenI
    have HSS := Lib.hid SS
    have HC13 := Lib.hid c13'
    have HC17 := Lib.hid c17
    have hmm := @run_makeMap Try.prog
    clear SS c13' c17
    go_region_held3 (fun u => u.cell? ⟨w4.heap.size, 0, none⟩ = some (.bool lf) ∧ u.cell? ⟨w4.heap.size, 1, none⟩ = some (.slice (some ⟨g0, o0, none⟩) N1 f1) ∧ u.cell? ⟨w4.heap.size, 2, none⟩ = some (.slice r2 M1 f2) ∧ u.cell? ⟨w4.heap.size, 3, none⟩ = some (.slice r3 P1 f3) ∧ u.cell? ⟨w.heap.size, 1, none⟩ = some (.slice pc N cc) ∧ u.cell? ⟨w.heap.size + 1, 1, none⟩ = some (.slice xp K2 xc) ∧ u.cell? ⟨g0, o0 + k * 4 + 1, none⟩ = some (.slice xp' K2 xc')) (first | exact s0 | exact s7 | exact HSS.out _ (bel_then HB7.out (bel1 _ _)) | exact sW1 | exact sW2 | exact sV1 | exact sV2)
      (first
        | (go_at_call 13; refine (HC13.out _ _ (HY.out _ (Below.refl _ w6).drew)).mono ?_; rintro e w7 ⟨rfl, hb7⟩; have HB7 := Lib.hid (bel_then (Below.refl _ w6).drew hb7); have s7 := HSS.out w7 HB7.out; obtain ⟨W1, W2, i1, i2, i3, i4, B1, B2⟩ := map_lit w7; obtain ⟨V1, V2, j1, j2, j3, j4, C1, C2⟩ := map_lit2 w7; have sV1 := HSS.out V1 (bel_then HB7.out C1); have sV2 := HSS.out V2 (bel_then HB7.out C2); have HC12 := Lib.hid (bel_then HB7.out C2); have sW1 := HSS.out W1 (bel_then HB7.out B1); have sW2 := HSS.out W2 (bel_then HB7.out B2); have HB12 := Lib.hid (bel_then HB7.out B2); clear hb7 B1 B2 C1 C2)
        | (go_at_call 17; refine (HC17.out _ HB7.out).mono ?_; rintro e w8 ⟨rfl, rfl⟩))
    · have HU := HB12
      clear i1 i2 i3 i4 j1 j2 j3 j4 s7 sV1 sV2 sW1 sW2 s0 HB12 HC12 HSS lenZ hmm
      have HBU := Lib.hid (bel_then HB6.out HU.out)
      have HAU := Lib.hid (blk_on HU.out HA6.out)
      have HCU := Lib.hid (blk_on HU.out HC6.out)
      have HXU := Lib.hid (blk_on HU.out HX6.out)
      obtain ⟨a0, a1, a2, a3⟩ := four_of HAU.out
      obtain ⟨b0, b1, b2, b3⟩ := four_of HCU.out
      obtain ⟨x0, x1, x2, x3⟩ := four_of HXU.out
      have t1 : True := trivial
      have t2 : True := trivial
      go_wp2_with (first
        | (go_at_call 35; clear t1; refine (CX.out _ _ _ (HY.out _ HU.out) (HBk.out.on HBU.out)).mono ?_; rintro e wA ⟨vA, rfl, hnA, hbA⟩
           have HBA := Lib.hid (bel_then HBU.out hbA); have HAA := Lib.hid (blk_on hbA HAU.out); have HCA := Lib.hid (blk_on hbA HCU.out)
           have HNA := Lib.hid hnA
           obtain ⟨y1, d1, y2, d2, y3, d3, rfl⟩ := hnA.hdr
           obtain ⟨a0, a1, a2, a3⟩ := four_of HAA.out
           obtain ⟨b0, b1, b2, b3⟩ := four_of HCA.out
           have hAl := (Array.getElem?_eq_some_iff.1 HAA.out).1
           have hCl := (Array.getElem?_eq_some_iff.1 HCA.out).1
           have HYA := Lib.hid (World.alloc_heap_new wA (Obj.cells #[.bool rn.leaf, .slice y1 rn.cells.length d1, .slice y2 rn.keys.length d2, .slice y3 rn.kids.length d3] 26))
           have hbb := bel1 wA (Obj.cells #[.bool rn.leaf, .slice y1 rn.cells.length d1, .slice y2 rn.keys.length d2, .slice y3 rn.kids.length d3] 26)
           have HBB := Lib.hid (bel_then HBA.out hbb); have HAB := Lib.hid (blk_on hbb HAA.out); have HCB := Lib.hid (blk_on hbb HCA.out); have HNB := Lib.hid (hnA.on hbb)
           clear hnA hbA hbb)
        | (go_at_call 35; refine (CN.out _ _ _ (HN.out.on HBB.out) (HBk.out.on HBB.out)).mono ?_; rintro e wC ⟨vC, rfl, hnC, hbC⟩
           have HBC := Lib.hid (bel_then HBB.out hbC); have HAC := Lib.hid (blk_on hbC HAB.out); have HYC := Lib.hid (blk_on hbC HYA.out); have HNC := Lib.hid hnC; have HND := Lib.hid (HNB.out.on hbC)
           obtain ⟨z1, k1, z2, k2, z3, k3, rfl⟩ := hnC.hdr
           obtain ⟨a0, a1, a2, a3⟩ := four_of HAC.out
           obtain ⟨y0', y1', y2', y3'⟩ := four_of HYC.out
           have hAl := (Array.getElem?_eq_some_iff.1 HAC.out).1
           have hYl := (Array.getElem?_eq_some_iff.1 HYC.out).1
           have hbb := bel1 wC (Obj.cells #[.bool rn.leaf, .slice z1 rn.cells.length k1, .slice z2 rn.keys.length k2, .slice z3 rn.kids.length k3] 26)
           have HBE := Lib.hid (bel_then HBC.out hbb); have HNE := Lib.hid (HND.out.on hbb); have HNF := Lib.hid (hnC.on hbb)
           have HAE := Lib.hid (blk_on hbb HAC.out); have HYE := Lib.hid (blk_on hbb HYC.out)
           clear hnC hbC hbb)
        | (go_at_call 20; clear t2; refine (same20 _ _ _ rn HNE.out.s HNF.out.s).mono ?_; rintro e wG ⟨rfl, hbG⟩
           have HBG := Lib.hid (bel_then HBE.out hbG)
           obtain ⟨a0, a1, a2, a3⟩ := four_of (blk_on hbG HAE.out)
           obtain ⟨y0', y1', y2', y3'⟩ := four_of (blk_on hbG HYE.out)
           have HNG := Lib.hid (HNE.out.on hbG)
           clear hbG)
        | (go_at_call 20; refine (same20 _ _ _ n ((congrArg (NdS _ _) (HI3.out (by first | trivial | simp))).mp HNG.out.s) (HN.out.on HBG.out)).mono ?_; rintro e wH ⟨rfl, hbH⟩; have HBH := Lib.hid (bel_then HBG.out hbH)))
      go_ret
      exact ⟨rfl, HBG.out⟩
    · have HU := HC12
      clear i1 i2 i3 i4 j1 j2 j3 j4 s7 sV1 sV2 sW1 sW2 s0 HB12 HC12 HSS lenZ hmm
      have HBU := Lib.hid (bel_then HB6.out HU.out)
      have HAU := Lib.hid (blk_on HU.out HA6.out)
      have HCU := Lib.hid (blk_on HU.out HC6.out)
      have HXU := Lib.hid (blk_on HU.out HX6.out)
      obtain ⟨a0, a1, a2, a3⟩ := four_of HAU.out
      obtain ⟨b0, b1, b2, b3⟩ := four_of HCU.out
      obtain ⟨x0, x1, x2, x3⟩ := four_of HXU.out
      have t1 : True := trivial
      have t2 : True := trivial
      go_wp2_with (first
        | (go_at_call 35; clear t1; refine (CX.out _ _ _ (HY.out _ HU.out) (HBk.out.on HBU.out)).mono ?_; rintro e wA ⟨vA, rfl, hnA, hbA⟩
           have HBA := Lib.hid (bel_then HBU.out hbA); have HAA := Lib.hid (blk_on hbA HAU.out); have HCA := Lib.hid (blk_on hbA HCU.out)
           have HNA := Lib.hid hnA
           obtain ⟨y1, d1, y2, d2, y3, d3, rfl⟩ := hnA.hdr
           obtain ⟨a0, a1, a2, a3⟩ := four_of HAA.out
           obtain ⟨b0, b1, b2, b3⟩ := four_of HCA.out
           have hAl := (Array.getElem?_eq_some_iff.1 HAA.out).1
           have hCl := (Array.getElem?_eq_some_iff.1 HCA.out).1
           have HYA := Lib.hid (World.alloc_heap_new wA (Obj.cells #[.bool rn.leaf, .slice y1 rn.cells.length d1, .slice y2 rn.keys.length d2, .slice y3 rn.kids.length d3] 26))
           have hbb := bel1 wA (Obj.cells #[.bool rn.leaf, .slice y1 rn.cells.length d1, .slice y2 rn.keys.length d2, .slice y3 rn.kids.length d3] 26)
           have HBB := Lib.hid (bel_then HBA.out hbb); have HAB := Lib.hid (blk_on hbb HAA.out); have HCB := Lib.hid (blk_on hbb HCA.out); have HNB := Lib.hid (hnA.on hbb)
           clear hnA hbA hbb)
        | (go_at_call 35; refine (CN.out _ _ _ (HN.out.on HBB.out) (HBk.out.on HBB.out)).mono ?_; rintro e wC ⟨vC, rfl, hnC, hbC⟩
           have HBC := Lib.hid (bel_then HBB.out hbC); have HAC := Lib.hid (blk_on hbC HAB.out); have HYC := Lib.hid (blk_on hbC HYA.out); have HNC := Lib.hid hnC; have HND := Lib.hid (HNB.out.on hbC)
           obtain ⟨z1, k1, z2, k2, z3, k3, rfl⟩ := hnC.hdr
           obtain ⟨a0, a1, a2, a3⟩ := four_of HAC.out
           obtain ⟨y0', y1', y2', y3'⟩ := four_of HYC.out
           have hAl := (Array.getElem?_eq_some_iff.1 HAC.out).1
           have hYl := (Array.getElem?_eq_some_iff.1 HYC.out).1
           have hbb := bel1 wC (Obj.cells #[.bool rn.leaf, .slice z1 rn.cells.length k1, .slice z2 rn.keys.length k2, .slice z3 rn.kids.length k3] 26)
           have HBE := Lib.hid (bel_then HBC.out hbb); have HNE := Lib.hid (HND.out.on hbb); have HNF := Lib.hid (hnC.on hbb)
           have HAE := Lib.hid (blk_on hbb HAC.out); have HYE := Lib.hid (blk_on hbb HYC.out)
           clear hnC hbC hbb)
        | (go_at_call 20; clear t2; refine (same20 _ _ _ rn HNE.out.s HNF.out.s).mono ?_; rintro e wG ⟨rfl, hbG⟩
           have HBG := Lib.hid (bel_then HBE.out hbG)
           obtain ⟨a0, a1, a2, a3⟩ := four_of (blk_on hbG HAE.out)
           obtain ⟨y0', y1', y2', y3'⟩ := four_of (blk_on hbG HYE.out)
           have HNG := Lib.hid (HNE.out.on hbG)
           clear hbG)
        | (go_at_call 20; refine (same20 _ _ _ n ((congrArg (NdS _ _) (HI3.out (by first | trivial | simp))).mp HNG.out.s) (HN.out.on HBG.out)).mono ?_; rintro e wH ⟨rfl, hbH⟩; have HBH := Lib.hid (bel_then HBG.out hbH)))
      go_ret
      exact ⟨rfl, HBG.out⟩
  | false =>
    have lenZ : IntKind.i64.wrap ((N1 : Int) - (N : Int)) = 1 := by rw [IntKind.wrap_i64]; simp at lenI; omega
    clear lenI
    have HSS := Lib.hid SS
    have HC13 := Lib.hid c13'
    have HC17 := Lib.hid c17
    have hmm := @run_makeMap Try.prog
    clear SS c13' c17
    go_region_held3 (fun u => u.cell? ⟨w4.heap.size, 0, none⟩ = some (.bool lf) ∧ u.cell? ⟨w4.heap.size, 1, none⟩ = some (.slice (some ⟨g0, o0, none⟩) N1 f1) ∧ u.cell? ⟨w4.heap.size, 2, none⟩ = some (.slice r2 M1 f2) ∧ u.cell? ⟨w4.heap.size, 3, none⟩ = some (.slice r3 P1 f3) ∧ u.cell? ⟨w.heap.size, 1, none⟩ = some (.slice pc N cc) ∧ u.cell? ⟨w.heap.size + 1, 1, none⟩ = some (.slice xp K2 xc) ∧ u.cell? ⟨g0, o0 + k * 4 + 1, none⟩ = some (.slice xp' K2 xc')) (first | exact s0 | exact s7 | exact HSS.out _ (bel_then HB7.out (bel1 _ _)) | exact sW1 | exact sW2 | exact sV1 | exact sV2)
      (first
        | (go_at_call 13; refine (HC13.out _ _ (HY.out _ (Below.refl _ w6).drew)).mono ?_; rintro e w7 ⟨rfl, hb7⟩; have HB7 := Lib.hid (bel_then (Below.refl _ w6).drew hb7); have s7 := HSS.out w7 HB7.out; obtain ⟨W1, W2, i1, i2, i3, i4, B1, B2⟩ := map_lit w7; obtain ⟨V1, V2, j1, j2, j3, j4, C1, C2⟩ := map_lit2 w7; have sV1 := HSS.out V1 (bel_then HB7.out C1); have sV2 := HSS.out V2 (bel_then HB7.out C2); have HC12 := Lib.hid (bel_then HB7.out C2); have sW1 := HSS.out W1 (bel_then HB7.out B1); have sW2 := HSS.out W2 (bel_then HB7.out B2); have HB12 := Lib.hid (bel_then HB7.out B2); clear hb7 B1 B2 C1 C2)
        | (go_at_call 17; refine (HC17.out _ HB7.out).mono ?_; rintro e w8 ⟨rfl, rfl⟩))
    · have HU := HB12
      clear i1 i2 i3 i4 j1 j2 j3 j4 s7 sV1 sV2 sW1 sW2 s0 HB12 HC12 HSS lenZ hmm
      have HBU := Lib.hid (bel_then HB6.out HU.out)
      have HAU := Lib.hid (blk_on HU.out HA6.out)
      have HCU := Lib.hid (blk_on HU.out HC6.out)
      have HXU := Lib.hid (blk_on HU.out HX6.out)
      obtain ⟨a0, a1, a2, a3⟩ := four_of HAU.out
      obtain ⟨b0, b1, b2, b3⟩ := four_of HCU.out
      obtain ⟨x0, x1, x2, x3⟩ := four_of HXU.out
      have t1 : True := trivial
      have t2 : True := trivial
      go_wp2_with (first
        | (go_at_call 35; clear t1; refine (CX.out _ _ _ (HY.out _ HU.out) (HBk.out.on HBU.out)).mono ?_; rintro e wA ⟨vA, rfl, hnA, hbA⟩
           have HBA := Lib.hid (bel_then HBU.out hbA); have HAA := Lib.hid (blk_on hbA HAU.out); have HCA := Lib.hid (blk_on hbA HCU.out)
           have HNA := Lib.hid hnA
           obtain ⟨y1, d1, y2, d2, y3, d3, rfl⟩ := hnA.hdr
           obtain ⟨a0, a1, a2, a3⟩ := four_of HAA.out
           obtain ⟨b0, b1, b2, b3⟩ := four_of HCA.out
           have hAl := (Array.getElem?_eq_some_iff.1 HAA.out).1
           have hCl := (Array.getElem?_eq_some_iff.1 HCA.out).1
           have HYA := Lib.hid (World.alloc_heap_new wA (Obj.cells #[.bool rn.leaf, .slice y1 rn.cells.length d1, .slice y2 rn.keys.length d2, .slice y3 rn.kids.length d3] 26))
           have hbb := bel1 wA (Obj.cells #[.bool rn.leaf, .slice y1 rn.cells.length d1, .slice y2 rn.keys.length d2, .slice y3 rn.kids.length d3] 26)
           have HBB := Lib.hid (bel_then HBA.out hbb); have HAB := Lib.hid (blk_on hbb HAA.out); have HCB := Lib.hid (blk_on hbb HCA.out); have HNB := Lib.hid (hnA.on hbb)
           clear hnA hbA hbb)
        | (go_at_call 35; refine (CN.out _ _ _ (HN.out.on HBB.out) (HBk.out.on HBB.out)).mono ?_; rintro e wC ⟨vC, rfl, hnC, hbC⟩
           have HBC := Lib.hid (bel_then HBB.out hbC); have HAC := Lib.hid (blk_on hbC HAB.out); have HYC := Lib.hid (blk_on hbC HYA.out); have HNC := Lib.hid hnC; have HND := Lib.hid (HNB.out.on hbC)
           obtain ⟨z1, k1, z2, k2, z3, k3, rfl⟩ := hnC.hdr
           obtain ⟨a0, a1, a2, a3⟩ := four_of HAC.out
           obtain ⟨y0', y1', y2', y3'⟩ := four_of HYC.out
           have hAl := (Array.getElem?_eq_some_iff.1 HAC.out).1
           have hYl := (Array.getElem?_eq_some_iff.1 HYC.out).1
           have hbb := bel1 wC (Obj.cells #[.bool rn.leaf, .slice z1 rn.cells.length k1, .slice z2 rn.keys.length k2, .slice z3 rn.kids.length k3] 26)
           have HBE := Lib.hid (bel_then HBC.out hbb); have HNE := Lib.hid (HND.out.on hbb); have HNF := Lib.hid (hnC.on hbb)
           have HAE := Lib.hid (blk_on hbb HAC.out); have HYE := Lib.hid (blk_on hbb HYC.out)
           clear hnC hbC hbb)
        | (go_at_call 20; clear t2; refine (same20 _ _ _ rn HNE.out.s HNF.out.s).mono ?_; rintro e wG ⟨rfl, hbG⟩
           have HBG := Lib.hid (bel_then HBE.out hbG)
           obtain ⟨a0, a1, a2, a3⟩ := four_of (blk_on hbG HAE.out)
           obtain ⟨y0', y1', y2', y3'⟩ := four_of (blk_on hbG HYE.out)
           have HNG := Lib.hid (HNE.out.on hbG)
           clear hbG)
        | (go_at_call 20; refine (same20 _ _ _ n ((congrArg (NdS _ _) (HI3.out (by first | trivial | simp))).mp HNG.out.s) (HN.out.on HBG.out)).mono ?_; rintro e wH ⟨rfl, hbH⟩; have HBH := Lib.hid (bel_then HBG.out hbH)))
      go_ret
      exact ⟨rfl, HBH.out⟩
    · have HU := HC12
      clear i1 i2 i3 i4 j1 j2 j3 j4 s7 sV1 sV2 sW1 sW2 s0 HB12 HC12 HSS lenZ hmm
      have HBU := Lib.hid (bel_then HB6.out HU.out)
      have HAU := Lib.hid (blk_on HU.out HA6.out)
      have HCU := Lib.hid (blk_on HU.out HC6.out)
      have HXU := Lib.hid (blk_on HU.out HX6.out)
      obtain ⟨a0, a1, a2, a3⟩ := four_of HAU.out
      obtain ⟨b0, b1, b2, b3⟩ := four_of HCU.out
      obtain ⟨x0, x1, x2, x3⟩ := four_of HXU.out
      have t1 : True := trivial
      have t2 : True := trivial
      go_wp2_with (first
        | (go_at_call 35; clear t1; refine (CX.out _ _ _ (HY.out _ HU.out) (HBk.out.on HBU.out)).mono ?_; rintro e wA ⟨vA, rfl, hnA, hbA⟩
           have HBA := Lib.hid (bel_then HBU.out hbA); have HAA := Lib.hid (blk_on hbA HAU.out); have HCA := Lib.hid (blk_on hbA HCU.out)
           have HNA := Lib.hid hnA
           obtain ⟨y1, d1, y2, d2, y3, d3, rfl⟩ := hnA.hdr
           obtain ⟨a0, a1, a2, a3⟩ := four_of HAA.out
           obtain ⟨b0, b1, b2, b3⟩ := four_of HCA.out
           have hAl := (Array.getElem?_eq_some_iff.1 HAA.out).1
           have hCl := (Array.getElem?_eq_some_iff.1 HCA.out).1
           have HYA := Lib.hid (World.alloc_heap_new wA (Obj.cells #[.bool rn.leaf, .slice y1 rn.cells.length d1, .slice y2 rn.keys.length d2, .slice y3 rn.kids.length d3] 26))
           have hbb := bel1 wA (Obj.cells #[.bool rn.leaf, .slice y1 rn.cells.length d1, .slice y2 rn.keys.length d2, .slice y3 rn.kids.length d3] 26)
           have HBB := Lib.hid (bel_then HBA.out hbb); have HAB := Lib.hid (blk_on hbb HAA.out); have HCB := Lib.hid (blk_on hbb HCA.out); have HNB := Lib.hid (hnA.on hbb)
           clear hnA hbA hbb)
        | (go_at_call 35; refine (CN.out _ _ _ (HN.out.on HBB.out) (HBk.out.on HBB.out)).mono ?_; rintro e wC ⟨vC, rfl, hnC, hbC⟩
           have HBC := Lib.hid (bel_then HBB.out hbC); have HAC := Lib.hid (blk_on hbC HAB.out); have HYC := Lib.hid (blk_on hbC HYA.out); have HNC := Lib.hid hnC; have HND := Lib.hid (HNB.out.on hbC)
           obtain ⟨z1, k1, z2, k2, z3, k3, rfl⟩ := hnC.hdr
           obtain ⟨a0, a1, a2, a3⟩ := four_of HAC.out
           obtain ⟨y0', y1', y2', y3'⟩ := four_of HYC.out
           have hAl := (Array.getElem?_eq_some_iff.1 HAC.out).1
           have hYl := (Array.getElem?_eq_some_iff.1 HYC.out).1
           have hbb := bel1 wC (Obj.cells #[.bool rn.leaf, .slice z1 rn.cells.length k1, .slice z2 rn.keys.length k2, .slice z3 rn.kids.length k3] 26)
           have HBE := Lib.hid (bel_then HBC.out hbb); have HNE := Lib.hid (HND.out.on hbb); have HNF := Lib.hid (hnC.on hbb)
           have HAE := Lib.hid (blk_on hbb HAC.out); have HYE := Lib.hid (blk_on hbb HYC.out)
           clear hnC hbC hbb)
        | (go_at_call 20; clear t2; refine (same20 _ _ _ rn HNE.out.s HNF.out.s).mono ?_; rintro e wG ⟨rfl, hbG⟩
           have HBG := Lib.hid (bel_then HBE.out hbG)
           obtain ⟨a0, a1, a2, a3⟩ := four_of (blk_on hbG HAE.out)
           obtain ⟨y0', y1', y2', y3'⟩ := four_of (blk_on hbG HYE.out)
           have HNG := Lib.hid (HNE.out.on hbG)
           clear hbG)
        | (go_at_call 20; refine (same20 _ _ _ n ((congrArg (NdS _ _) (HI3.out (by first | trivial | simp))).mp HNG.out.s) (HN.out.on HBG.out)).mono ?_; rintro e wH ⟨rfl, hbH⟩; have HBH := Lib.hid (bel_then HBG.out hbH)))
      go_ret
      exact ⟨rfl, HBH.out⟩
end Go.Proofs.Ytbkpgppaahpalaa
