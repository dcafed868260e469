/-
  The document's Clone.
-/
import Derived.Test.YtbkpgppaahpalaaRcm
import Derived.Deep.RegionHeld3
namespace Go.Proofs.Ytbkpgppaahpalaa
open Go.RowKit
set_option linter.unusedVariables false      -- a walk need not use every condition

theorem IsO.low {base base' : Nat} {w : World} {v : Value} {L : List Int} (h : IsO base w v L) (hb : base' ≤ base) : IsO base' w v L := by
  obtain ⟨vs, h1, h2⟩ := h
  exact ⟨vs, h1.mono hb, h2⟩
set_option maxHeartbeats 8000000 in
set_option maxRecDepth 100000 in
theorem rclone24 (w : World) (v : Value) (n : Nd) (h : NdS w v n) (hf : Fit n) :
    Calls Try.prog 24 #[v] w fun e w' => ∃ v', e = .returned v' ∧ NdO w.heap.size w' v' n ∧ Below w.heap.size w w' := by
  obtain ⟨vc, vk, vi, rfl, hC, hK, hI⟩ := h
  obtain ⟨f1, f2, f3, f4, f5⟩ := hf
  have HC := Lib.hid hC
  have HK := Lib.hid hK
  have HI := Lib.hid hI
  obtain ⟨pc, cc, rfl, -, lc⟩ := hC.hdr
  obtain ⟨pk, ck, rfl, -, lk⟩ := hK.hdr
  obtain ⟨pi, ci, rfl, -, li⟩ := hI.hdr
  clear hC hK hI
  have F1 := Lib.hid f1
  have F2 := Lib.hid f2
  have F3 := Lib.hid f3
  have F4 := Lib.hid f4
  have F5 := Lib.hid f5
  clear f1 f2 f3 f4 f5
  obtain ⟨A, hA⟩ : ∃ A : Array Value, A = #[.bool n.leaf, .slice pc n.cells.length cc, .slice pk n.keys.length ck, .slice pi n.kids.length ci] := ⟨_, rfl⟩
  obtain ⟨W, hW⟩ : ∃ W, W = ((w.alloc (Obj.cells #[.bool n.leaf, .slice pc n.cells.length cc, .slice pk n.keys.length ck, .slice pi n.kids.length ci] 26)).alloc (Obj.cells #[.bool false, .slice none 0 0, .slice none 0 0, .slice none 0 0] 26)) := ⟨_, rfl⟩
  have hWs : W.heap.size = w.heap.size + 2 := by rw [hW]; simp
  have hWA : Hid (W.heap[w.heap.size]? = some (Obj.cells A 26)) := by rw [hW, hA]; exact blk_on (bel1 _ _) (World.alloc_heap_new w _)
  have hWZ : Hid (W.heap[w.heap.size + 1]? = some (Obj.cells #[.bool false, .slice none 0 0, .slice none 0 0, .slice none 0 0] 26)) := by rw [hW]; exact new2 w _ _
  have hWB : Hid (Below w.heap.size w W) := by rw [hW]; exact bel_then (bel1 _ _) (bel1 _ _)
  obtain ⟨a0, a1, a2, a3⟩ := four_of (by have := hWA.out; rwa [hA] at this)
  have bd : Below W.heap.size W W.drew := (Below.refl _ W).drew
  have be : Below W.heap.size W (W.drew.alloc (Obj.cells #[.bool false, .slice none 0 0, .slice none 0 0, .slice none 0 0] 26)) := bel_then bd (bel1 _ _)
  obtain ⟨u1, w1, p1, o1, b1⟩ := app_kids W.drew _ n.kids (HI.out.on (bel_then hWB.out bd)) (by have := F3.out; omega) 24
  obtain ⟨u2, w2, p2, o2, b2⟩ := app_kids (W.drew.alloc (Obj.cells #[.bool false, .slice none 0 0, .slice none 0 0, .slice none 0 0] 26)) _ n.kids (HI.out.on (bel_then hWB.out be)) (by have := F3.out; omega) 24
  obtain ⟨q1, d1, rfl, -⟩ := own_hdr o1.choose_spec.1
  obtain ⟨q2, d2, rfl, -⟩ := own_hdr o2.choose_spec.1
  have HO1 := Lib.hid o1
  have HO2 := Lib.hid o2
  have HB1 := Lib.hid b1
  have HB2 := Lib.hid b2
  have HW := Lib.hid hW
  have HWs := Lib.hid hWs
  have hT2 : Hid (w2.heap[W.heap.size]? = some (Obj.cells #[.bool false, .slice none 0 0, .slice none 0 0, .slice none 0 0] 26)) := blk_on b2 (World.alloc_heap_new W.drew _)
  obtain ⟨x0, x1, x2, x3⟩ := four_of (by have := blk_on b1 hWA.out; rwa [hA] at this)
  obtain ⟨y0, y1, y2, y3⟩ := four_of (by have := blk_on b2 (blk_on (bel1 W.drew _) hWA.out); rwa [hA] at this)
  obtain ⟨e0, e1, e2, e3⟩ := four_of hT2.out
  have ef0 := four_fr hT2.out 0
  have ef1 := four_fr hT2.out 1
  have ef2 := four_fr hT2.out 2
  have ef3 := four_fr hT2.out 3
  have hlt : w.heap.size < W.heap.size := by omega
  clear o1 o2 b1 b2 be bd
  have hl1 : W.heap.size ≤ w1.heap.size := HB1.out.size
  have hl2 : W.heap.size < w2.heap.size := (Array.getElem?_eq_some_iff.1 hT2.out).1
  have HP1 := Lib.hid p1
  have HP2 := Lib.hid p2
  clear p1 p2
  go_enter Try.func24, Try.ntmps24
  go_wp2_with (fail)
  rw [← HW.out]
  clear hW hWs
  go_cut [3] from 7 to 12 (fun s3 wx => ∃ (T : Nat) (vi : Value), s3 = .pointer (some ⟨T, 0, none⟩) ∧ Hid (Kn w wx T A (.slice none 0 0) (.slice none 0 0) vi ⟨n.leaf, [], [], n.kids⟩))
  case first =>
    have s0 : (W.drew.cell? ⟨w.heap.size, 0, none⟩ = some (.bool n.leaf) ∧ W.drew.cell? ⟨w.heap.size, 3, none⟩ = some (.slice pi n.kids.length ci)) := ⟨a0, a3⟩
    have hA1 : w1.heap[w.heap.size]? = some (Obj.cells A 26) := blk_on HB1.out hWA.out
    have hA2 : w2.heap[w.heap.size]? = some (Obj.cells A 26) := blk_on HB2.out (blk_on (bel1 W.drew (Obj.cells #[.bool false, .slice none 0 0, .slice none 0 0, .slice none 0 0] 26)) hWA.out)
    rw [hA] at hA1 hA2
    have hAd : (W.drew.alloc (Obj.cells #[.bool false, .slice none 0 0, .slice none 0 0, .slice none 0 0] 26)).heap[w.heap.size]? = some (Obj.cells A 26) := blk_on (bel1 W.drew (Obj.cells #[.bool false, .slice none 0 0, .slice none 0 0, .slice none 0 0] 26)) hWA.out
    rw [hA] at hAd
    have t1 := four_of hA1
    have t2 := four_of hA2
    have t3 := four_of hAd
    have hAe : (W.alloc (Obj.cells #[.bool false, .slice none 0 0, .slice none 0 0, .slice none 0 0] 26)).drew.heap[w.heap.size]? = some (Obj.cells A 26) := blk_on (bel1 W (Obj.cells #[.bool false, .slice none 0 0, .slice none 0 0, .slice none 0 0] 26)) hWA.out
    rw [hA] at hAe
    have t7 := four_of hAe
    have t4 := four_of (blk_on (bel1 w1 (Obj.cells #[.bool false, .slice none 0 0, .slice none 0 0, .slice none 0 0] 26)) hA1)
    have g4 := gr_four w2 W.heap.size (.bool n.leaf) (.slice none 0 0) (.slice none 0 0) (.slice q2 n.kids.length d2)
    have t5 := four_of (blk_gr hA2 g4 (by omega))
    have t6 := four_of (blk_on (bel1 w1 (Obj.cells #[.bool n.leaf, .slice none 0 0, .slice none 0 0, .slice q1 n.kids.length d1] 26)) hA1)
    go_region_held3 (fun u => u.cell? ⟨w.heap.size, 0, none⟩ = some (.bool n.leaf) ∧ u.cell? ⟨w.heap.size, 3, none⟩ = some (.slice pi n.kids.length ci)) (first | with_reducible exact s0 | with_reducible exact ⟨t1.1, t1.2.2.2⟩ | with_reducible exact ⟨t2.1, t2.2.2.2⟩ | with_reducible exact ⟨t3.1, t3.2.2.2⟩ | with_reducible exact ⟨t4.1, t4.2.2.2⟩ | with_reducible exact ⟨t5.1, t5.2.2.2⟩ | with_reducible exact ⟨t6.1, t6.2.2.2⟩ | with_reducible exact ⟨t7.1, t7.2.2.2⟩)
      (first
        | (refine step_run (by rfl) _ _ 24 (by rfl) _ _ _ _ (by rfl) (by rfl) HP1.out ?_)
        | (refine step_run (by rfl) _ _ 24 (by rfl) _ _ _ _ (by rfl) (by rfl) HP2.out ?_))
    · go_wp2
      go_meet
      case rel => exact ⟨w1.heap.size, _, rfl, bel_then (bel_then (bel_then hWB.out (Below.refl _ W).drew) HB1.out) (bel1 _ _), by rw [hA]; exact blk_on (bel1 _ _) hA1, blk_on (bel1 _ _) (blk_on HB1.out hWZ.out), World.alloc_heap_new w1 _, cso_nil _ _, kso_nil _ _, (IsO.low (HO1.out.on (bel1 _ _)) (by have := HWs.out; show _ ≤ W.heap.size; omega)), by have := HWs.out; omega⟩
    · go_wp2
      go_meet
      case rel => exact ⟨W.heap.size, _, rfl, bel_put (bel_then (bel_then hWB.out (bel_then (Below.refl _ W).drew (bel1 W.drew (Obj.cells #[.bool false, .slice none 0 0, .slice none 0 0, .slice none 0 0] 26)))) HB2.out) g4 (by have := HWs.out; omega), by rw [hA]; exact blk_gr hA2 g4 (by have := HWs.out; omega), blk_gr (blk_on HB2.out (blk_on (bel1 W.drew (Obj.cells #[.bool false, .slice none 0 0, .slice none 0 0, .slice none 0 0] 26)) hWZ.out)) g4 (by have := HWs.out; omega), blk_four hT2.out _ _ _ _, cso_nil _ _, kso_nil _ _, (IsO.low (IsO.gr HO2.out g4 hT2.out (by decide)) (by have := HWs.out; simp; omega)), by have := HWs.out; omega⟩
  case rest =>
    obtain ⟨T, vi, rfl, hK0⟩ := hcut
    clear HP1 HP2 HB1 HB2 HO1 HO2 hT2 e0 e1 e2 e3 ef0 ef1 ef2 ef3 hlt a0 a1 a2 a3 x0 x1 x2 x3 y0 y1 y2 y3 hl1 hl2 hWA hWZ hWB HW HWs
    obtain ⟨wo, rfl⟩ : ∃ v, v = wc := ⟨_, rfl⟩
    generalize hNc : n.cells.length = N at *
    generalize hMk : n.keys.length = M at *
    have HN := Lib.hid hNc
    have HM := Lib.hid hMk
    clear hNc hMk
    obtain ⟨vi1, vi2, rfl, -⟩ := own_hdr hK0.out.2.2.2.2.2.2.1.choose_spec.1
    go_wp2
    go_loopg [4] N (fun g s4 wr => ∃ (i : Nat) (vc : Value), i + g = N ∧ s4 = .int .i64 i ∧ Hid (Kn w wr T A vc (.slice none 0 0) (.slice vi1 n.kids.length vi2) ⟨n.leaf, n.cells.take i, [], n.kids⟩))
    case atStart => exact ⟨0, _, by omega, rfl, hK0.out⟩
    case round =>
      obtain ⟨i, vc, hig, rfl, hK⟩ := hrel
      have hbx := hK.out.2.1
      rw [hA] at hbx
      obtain ⟨a0, a1, a2, a3⟩ := four_of hbx
      cases gk with
      | zero =>
        have hKe : Hid (Kn w wr T A vc (.slice none 0 0) (.slice vi1 n.kids.length vi2) ⟨n.leaf, n.cells, [], n.kids⟩) := by
          have := hK.out
          rwa [List.take_of_length_le (by have := HN.out; omega)] at this
        obtain rfl : i = N := by omega
        clear hK hK0 hbx
        obtain ⟨ve1, ve2, rfl, -⟩ := own_hdr hKe.out.2.2.2.2.1.choose_spec.1
        obtain ⟨wz, rfl⟩ : ∃ v, v = wr := ⟨_, rfl⟩
        go_wp2
        clear a0 a1 a2 a3
        go_loopg [6] M (fun g s6 wr => ∃ (i : Nat) (vk : Value), i + g = M ∧ s6 = .int .i64 i ∧ Hid (Kn w wr T A (.slice ve1 n.cells.length ve2) vk (.slice vi1 n.kids.length vi2) ⟨n.leaf, n.cells, n.keys.take i, n.kids⟩))
        case atStart => exact ⟨0, _, by omega, rfl, hKe.out⟩
        case round =>
          obtain ⟨i, vk, hig, rfl, hK⟩ := hrel
          have hbx := hK.out.2.1
          rw [hA] at hbx
          obtain ⟨a0, a1, a2, a3⟩ := four_of hbx
          obtain ⟨vs, ho, he⟩ := hK.out.2.2.2.2.2.1
          obtain ⟨vp, vcap, rfl, -⟩ := own_hdr ho
          have hTb := hK.out.2.2.2.1
          have hZb := hK.out.2.2.1
          cases gk with
          | zero =>
            have hKf : Hid (Kn w wr T A (.slice ve1 n.cells.length ve2) (.slice vp (n.keys.take i).length vcap) (.slice vi1 n.kids.length vi2) n) := by
              have := hK.out
              rwa [List.take_of_length_le (l := n.keys) (by have := HM.out; omega)] at this ⊢
            have hTb2 := hTb
            simp only [] at hTb2
            generalize (n.keys.take i).length = Q at *
            obtain ⟨t0, t1, t2, t3⟩ := four_of hTb2
            obtain ⟨z0, z1, z2, z3⟩ := four_of hZb
            have zf0 := four_fr hZb 0
            have zf1 := four_fr hZb 1
            have zf2 := four_fr hZb 2
            have zf3 := four_fr hZb 3
            obtain rfl : i = M := by omega
            clear hK ho he
            go_wp2
            have g := gr_four wr (w.heap.size + 1) (.bool n.leaf) (.slice ve1 n.cells.length ve2) (.slice vp Q vcap) (.slice vi1 n.kids.length vi2)
            refine bodyPost_ret (results_c26 Try.results24 _ _ (w.heap.size + 1) _ _ _ _ 26 rfl (blk_four hZb _ _ _ _)) rfl ?_
            obtain ⟨h1, h2, h3, h4, h5, h6, h7, h8⟩ := hKf.out
            exact ⟨_, rfl, ⟨_, _, _, rfl, h5.gr g hZb (by decide) (by decide), h6.gr g hZb (by decide) (by decide), h7.gr g hZb (by decide)⟩, bel_put h1 g (by omega)⟩
          | succ g =>
            have hi : i < n.keys.length := by have := HM.out; omega
            have hiz : (i : Int) < (M : Int) := by omega
            have hi0 : (0 : Int) ≤ (i : Int) := by omega
            obtain ⟨g0, o0, cap0, k, e, q0w, hBk⟩ := HK.out.at hi
            rw [HM.out] at e
            injection e with e1 e2 e3
            subst e1 e3
            have hb := hK.out.1
            have q0 := cell_past hb q0w
            have hfK := F5.out n.keys[i] (List.getElem_mem hi)
            have htk : Hid (n.keys.take (i + 1) = n.keys.take i ++ [n.keys[i]]) := List.take_succ_eq_append_getElem hi
            have hlt : Hid ((n.keys.take i).length = i) := by show _ = _; rw [List.length_take]; omega
            generalize n.keys[i] = c at *
            have HBK := Lib.hid hBk
            obtain ⟨kp, kc, rfl, -⟩ := hBk
            clear e2 q0w
            have bd : Below wr.heap.size wr wr.drew := (Below.refl _ wr).drew
            obtain ⟨k1, l1, v1, p1, b1, o1⟩ := key_steps wr.drew _ c (HBK.out.on (bel_then hb bd)) (by omega)
            obtain ⟨U, hU⟩ : ∃ U, U = v1.alloc (Obj.cells #[.slice k1 c.length l1] 27) := ⟨_, rfl⟩
            have bv : Below wr.heap.size wr v1 := bel_then bd b1
            have bU : Below wr.heap.size wr U := by rw [hU]; exact bel_then bv (bel1 _ _)
            have hKU := hK.out.on bU
            obtain ⟨vs', ho', he'⟩ := hKU.2.2.2.2.2.1
            obtain ⟨i0, hi9, hz0, hz1, hz2⟩ := info_parts infoE27
            have hcO : keyO w.heap.size U c [.slice k1 c.length l1] := by
              rw [hU]
              exact ⟨_, rfl, (o1.on (bel1 _ _)).mono (by have := hb.size; simp; omega)⟩
            have hrg : U.rangeAt v1.heap.size 0 [.slice k1 c.length l1] := by
              rw [hU]
              exact range_lit _ [.slice k1 c.length l1] 27 (0, 0)
            obtain ⟨gn, cn, w5, hap, ho5, hg5⟩ := app_one' 23 27 1 24 i0 _ Try.underlying23 hi9 hz0 hz1 hz2 rfl (by decide) (by decide) U w.heap.size v1.heap.size _ _ vs' _ 23 ho' hrg rfl (hcO.v.ones) (Nat.le_trans hb.size bU.size) (by rw [hlt.out]; have := F2.out; have := HM.out; omega)
            have hK6 := hKU.key ho' he' hcO ho5 hg5
            have hT5 := blk_keep ho' hg5 hKU.2.2.2.1 (by decide)
            have tf2 := four_fr hT5 2
            obtain ⟨-, -, tq2, -⟩ := four_of hT5
            obtain ⟨-, -, t2, -⟩ := four_of hTb
            obtain ⟨-, -, tv2, -⟩ := four_of (blk_on bv hTb)
            obtain ⟨-, -, tU2, -⟩ := four_of (blk_on bU hTb)
            rw [hU] at hap tU2
            have HK6 := Lib.hid hK6
            simp only [hlt.out] at hap HK6 ho t2 tv2 tU2 tq2
            have t2d : wr.drew.cell? ⟨T, 2, none⟩ = some (.slice vp i vcap) := t2
            have a2d : wr.drew.cell? ⟨w.heap.size, 2, none⟩ = some (.slice (some ⟨g0, o0, none⟩) M ck) := a2
            have q0d : wr.drew.cell? ⟨g0, o0 + i, none⟩ = some (.slice kp c.length kc) := q0
            simp [go_sem] at p1 hap
            clear hK6 ho5 hg5 hcO hrg hKU ho' he' ho he hTb hZb hK hU bU bv bd b1 o1 hbx hb hi9 hz0 hz1 hz2 hT5
            go_wp2
            go_region_with (fail)
            all_goals
              go_wp2
              go_roundg g
              case measure => omega
              case rel => exact ⟨i + 1, _, by omega, by first | rfl | simp, by rw [htk.out]; exact HK6.out⟩
      | succ g =>
        have hi : i < n.cells.length := by have := HN.out; omega
        have hiz : (i : Int) < (N : Int) := by omega
        have hi0 : (0 : Int) ≤ (i : Int) := by omega
        obtain ⟨g0, o0, cap0, k, x, e, q0w, q1w, q2w, q3w, hBk, hBx, hIo, hIl⟩ := HC.out.at hi
        rw [HN.out] at e
        injection e with e1 e2 e3
        subst e1 e3
        have hb := hK.out.1
        have q0 := cell_past hb q0w
        have q1 := cell_past hb q1w
        have q2 := cell_past hb q2w
        have q3 := cell_past hb q3w
        clear q0w q1w q2w q3w e2
        have hfK := F4.out n.cells[i] (List.getElem_mem hi)
        have htk : Hid (n.cells.take (i + 1) = n.cells.take i ++ [n.cells[i]]) := List.take_succ_eq_append_getElem hi
        have hlt : Hid ((n.cells.take i).length = i) := by show _ = _; rw [List.length_take]; omega
        generalize n.cells[i] = c at *
        have HBK := Lib.hid hBk
        have HBX := Lib.hid hBx
        obtain ⟨kp, kc, rfl, -⟩ := hBk
        obtain ⟨xp, xc, rfl, -⟩ := hBx
        have HF := Lib.hid hfK
        have HIO := Lib.hid (And.intro hIo hIl)
        obtain ⟨vs, ho, he⟩ := hK.out.2.2.2.2.1
        obtain ⟨vp, vcap, rfl, -⟩ := own_hdr ho
        have hTb := hK.out.2.2.2.1
        obtain ⟨t0, t1, t2, t3⟩ := four_of hTb
        have HT : Hid (w.heap.size + 2 ≤ T) := hK.out.2.2.2.2.2.2.2
        have hTl := (Array.getElem?_eq_some_iff.1 hTb).1
        have HB := Lib.hid hb
        obtain ⟨k1, l1, v1, k2, l2, v2, p1, p2, x1, x2, x3, x4, bw1, bw2, bw3, bw4, bk, bx⟩ := cell_steps wr _ _ c (HBK.out.on hb) (HBX.out.on hb) (by have := HF.out.1; omega) (by have := HF.out.2; omega)
        have HP1 := Lib.hid p1
        have HP2 := Lib.hid p2
        obtain ⟨y0, y1, y2, y3⟩ := four_of x1
        obtain ⟨z0, z1, z2, z3⟩ := four_of x2
        obtain ⟨r0, r1, r2, r3⟩ := four_of x3
        obtain ⟨d0, d1, d2, d3⟩ := four_of x4
        have yf0 := four_fr x1 0
        have rf1 := four_fr x3 1
        obtain ⟨-, tt1, -, -⟩ := four_of (blk_on bw4 hTb)
        obtain ⟨U, hU⟩ : ∃ U, U = (v2.setCell ⟨wr.heap.size, 1, none⟩ (.slice k2 c.val.length l2)).alloc (Obj.cells #[.slice k1 c.key.length l1, .slice k2 c.val.length l2, .int .i64 c.over, .int .i64 c.len] 44) := ⟨_, rfl⟩
        have bU : Below wr.heap.size wr U := by rw [hU]; exact bel_then bw4 (bel1 _ _)
        have hKU := hK.out.on bU
        obtain ⟨vs', ho', he'⟩ := hKU.2.2.2.2.1
        obtain ⟨i0, hi9, hz0, hz1, hz2⟩ := info_parts infoE44
        have hs2 : v2.heap.size = (v2.setCell ⟨wr.heap.size, 1, none⟩ (.slice k2 c.val.length l2)).heap.size := by simp [World.setCell]
        have hcO : cellO w.heap.size U c [.slice k1 c.key.length l1, .slice k2 c.val.length l2, .int .i64 c.over, .int .i64 c.len] := by
          rw [hU]
          exact ⟨_, _, rfl, (bk.on (bel1 _ _)).mono hb.size, (bx.on (bel1 _ _)).mono hb.size, HIO.out.1, HIO.out.2⟩
        have hrg : U.rangeAt v2.heap.size 0 [.slice k1 c.key.length l1, .slice k2 c.val.length l2, .int .i64 c.over, .int .i64 c.len] := by
          rw [hU, hs2]
          exact range_lit _ [.slice k1 c.key.length l1, .slice k2 c.val.length l2, .int .i64 c.over, .int .i64 c.len] 44 (0, 0)
        obtain ⟨gn, cn, w5, hap, ho5, hg5⟩ := app_one' 22 44 4 64 i0 _ Try.underlying22 hi9 hz0 hz1 hz2 rfl (by decide) (by decide) U w.heap.size v2.heap.size _ _ vs' _ 22 ho' hrg rfl (hcO.v.ones) (Nat.le_trans hb.size bU.size) (by rw [hlt.out]; have := F1.out; have := HN.out; omega)
        have hK6 := hKU.cell ho' he' hcO ho5 hg5
        have hT5 := blk_keep ho' hg5 hKU.2.2.2.1 (by decide)
        have tf1 := four_fr hT5 1
        obtain ⟨-, tq1, -, -⟩ := four_of hT5
        rw [hU] at hap
        have HP3 := Lib.hid hap
        have HK6 := Lib.hid hK6
        simp only [hlt.out] at HP3 HK6 ho t1 tt1 tq1
        clear p1 p2 hap hK6 ho5 hg5 hcO hrg hKU ho' he' ho he hTb hK hU bU bw1 bw2 bw3 bw4 bk bx x1 x2 x3 x4 hbx hb hi9 hz0 hz1 hz2 hT5 hs2
        have tk1 : True := trivial
        have tk2 : True := trivial
        go_wp2_with (first
          | (at_builtin; clear tk1; refine wpList_run rfl _ _ 27 rfl _ _ _ _ rfl rfl HP1.out ?_)
          | (at_builtin; clear tk2; refine wpList_run rfl _ _ 27 rfl _ _ _ _ rfl rfl HP2.out ?_)
          | (at_builtin; refine wpList_run rfl _ _ 22 rfl _ _ _ _ rfl rfl HP3.out ?_))
        go_roundg g
        case measure => omega
        case rel => exact ⟨i + 1, _, by omega, by first | rfl | simp, by rw [htk.out]; exact HK6.out⟩
end Go.Proofs.Ytbkpgppaahpalaa
