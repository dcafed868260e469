/-
  Remove of package node.
-/
import Derived.Test.YtbkpgppaahpalaaIns
namespace Go.Proofs.Ytbkpgppaahpalaa
open Go.RowKit
set_option linter.unusedVariables false      -- a walk need not use every condition

/-- The place of the first cell of a key, or -1. -/
def idxK (key : List UInt8) : List C → Int
  | [] => -1
  | c :: r => if c.key == key then 0 else (if idxK key r = -1 then -1 else idxK key r + 1)
theorem idxK_ge (key : List UInt8) : ∀ L : List C, -1 ≤ idxK key L ∧ idxK key L < L.length
  | [] => by simp [idxK]
  | c :: r => by
    have := idxK_ge key r
    unfold idxK
    simp only [List.length_cons]
    split
    · omega
    · split <;> omega
set_option maxHeartbeats 2000000 in
theorem closure73 (w : World) (gb : Nat) (a v : Value) (key : List UInt8) (c : C) (hc : w.cell? ⟨gb, 0, none⟩ = some a) (ha : Bs w a key) (hv : CeS w v c) :
    Calls Try.prog 73 #[v, .pointer (some ⟨gb, 0, none⟩)] w fun e w' => e = .returned (.bool (c.key == key)) ∧ Below w.heap.size w w' := by
  obtain ⟨k, x, rfl, hk, hx, -, -⟩ := hv
  obtain ⟨kp, kc, rfl, -, -⟩ := hk.slice
  obtain ⟨xp, xc, rfl, -, -⟩ := hx.slice
  have hB := bel1 w (Obj.cells #[.slice kp c.key.length kc, .slice xp c.val.length xc, .int .i64 c.over, .int .i64 c.len] 44)
  have c17 := equal17 _ _ _ _ _ (hk.on hB) (ha.on hB)
  obtain ⟨ap, ac, rfl, -, -⟩ := ha.slice
  have hlt : gb < w.heap.size := World.block_lt_of_cell? w ⟨gb, 0, none⟩ hc
  have hne : ¬ gb = w.heap.size := by omega
  have hc' := cell_past hB hc
  have HB := Lib.hid hB
  generalize (c.key == key) = E at *
  clear hk hx ha hB
  go_enter Try.func73, Try.ntmps73
  go_wp2_with (go_at_call 17; refine c17.mono ?_; rintro e w1 ⟨rfl, rfl⟩)
  go_ret
  exact ⟨rfl, HB.out⟩
set_option maxHeartbeats 4000000 in
set_option maxRecDepth 100000 in
theorem index72 (w : World) (gb : Nat) (a v : Value) (key : List UInt8) (L : List C) (hc : w.cell? ⟨gb, 0, none⟩ = some a) (ha : Bs w a key) (hv : Cs w v L) :
    Calls Try.prog 72 #[v, .func (.func 73) #[] #[.pointer (some ⟨gb, 0, none⟩)]] w fun e w' => e = .returned (.int .i64 (idxK key L)) ∧ Below w.heap.size w w' := by
  have HC := Lib.hid hc
  have HA := Lib.hid ha
  have HV := Lib.hid hv
  obtain ⟨p, cap, rfl, -, lc⟩ := hv.hdr
  obtain ⟨Re, hRe⟩ : ∃ R, idxK key L = R := ⟨_, rfl⟩
  rw [hRe]
  have HRe := Lib.hid hRe
  clear hRe hc ha hv
  generalize hN : L.length = N at *
  have HN := Lib.hid hN
  clear hN
  have c73 := closure73
  go_enter Try.func72, Try.ntmps72
  go_wp2
  go_loopg [5, 8] N (fun g s5 s8 wr => ∃ i : Nat, i + g = N ∧ s8 = .int .i64 i ∧ Hid (Below w.heap.size w wr) ∧ Hid ((if idxK key (L.drop i) = -1 then -1 else idxK key (L.drop i) + i) = Re))
  case atStart =>
    refine ⟨0, by omega, rfl, Below.refl _ _, ?_⟩
    show _ = _
    have := HRe.out
    rw [List.drop_zero]
    have h1 := idxK_ge key L
    split <;> omega
  case round =>
    clear HRe
    obtain ⟨i, hig, rfl, hb, hE⟩ := hrel
    cases gk with
    | zero =>
      have hix : ¬ (i : Int) < (N : Int) := by omega
      have e1 : Hid ((-1 : Int) = Re) := by
        have := hE.out
        rw [List.drop_eq_nil_of_le (by have := HN.out; omega)] at this
        exact this
      clear hE
      go_wp2
      go_ret
      exact ⟨ret_int e1.out, hb.out⟩
    | succ g =>
      have hi : i < L.length := by have := HN.out; omega
      have hiz : (i : Int) < (N : Int) := by omega
      have hi0 : (0 : Int) ≤ (i : Int) := by omega
      obtain ⟨g0, o0, cap0, k, x, e, z0, z1, z2, z3, hBk, hBx, hIo, hIl⟩ := (HV.out.on hb.out).at hi
      injection e with e1 e2 e3
      subst e1 e3
      clear e2
      have d73 := c73 wr gb a _ key L[i] (cell_past hb.out HC.out) (HA.out.on hb.out) ⟨k, x, rfl, hBk, hBx, hIo, hIl⟩
      have hE' := hE.out
      rw [List.drop_eq_getElem_cons hi] at hE'
      unfold idxK at hE'
      obtain ⟨kp, kc, rfl, -, -⟩ := hBk.slice
      obtain ⟨xp, xc, rfl, -, -⟩ := hBx.slice
      have hge := idxK_ge key (L.drop (i + 1))
      clear hE hBk hBx hIo hIl
      generalize L[i].key.length = K1 at *
      generalize L[i].val.length = K2 at *
      generalize L[i].over = K3 at *
      generalize L[i].len = K4 at *
      generalize (L[i].key == key) = E at *
      cases E with
      | true =>
        have e1 : Hid ((i : Int) = Re) := by show _ = _; simpa using hE'
        clear hE'
        go_wp2_with (go_at_call 73; refine d73.mono ?_; rintro e w1 ⟨rfl, hb1⟩; have HB1 := Lib.hid (bel_then hb.out hb1); clear hb1)
        go_ret
        exact ⟨ret_int e1.out, HB1.out⟩
      | false =>
        have hE2 : Hid ((if idxK key (L.drop (i + 1)) = -1 then -1 else idxK key (L.drop (i + 1)) + ((i + 1 : Nat) : Int)) = Re) := by
          show _ = _
          rw [← hE']
          simp only [Bool.false_eq_true, if_false]
          split
          · simp
          · rw [if_neg (by omega)]
            omega
        clear hE'
        go_wp2_with (go_at_call 73; refine d73.mono ?_; rintro e w1 ⟨rfl, hb1⟩; have HB1 := Lib.hid (bel_then hb.out hb1); clear hb1)
        go_roundg g
        case measure => omega
        case rel => exact ⟨i + 1, by omega, by first | rfl | simp, HB1, hE2⟩
/-- A node without the cell at a place. -/
def cutN (n : Nd) (k : Nat) : Nd := ⟨n.leaf, n.cells.take k ++ n.cells.drop (k + 1), n.keys, n.kids⟩
set_option maxHeartbeats 8000000 in
set_option maxRecDepth 100000 in
theorem remove_no (w : World) (v x : Value) (n : Nd) (key : List UInt8) (h : NdS w v n) (hx : Bs w x key) (hf : Fit n) (hn : idxK key n.cells < 0) :
    Calls Try.prog 35 #[v, x] w fun e w' => ∃ v', e = .returned (.tuple #[v', .bool false]) ∧ NdO w.heap.size w' v' n ∧ Below w.heap.size w w' := by
  have HX := Lib.hid hx
  have HN := Lib.hid h
  have HF := Lib.hid hf
  obtain ⟨vc, vk, vi, rfl, hC, hK, hI⟩ := h
  have HCs := Lib.hid hC
  have HK := Lib.hid hK
  have HI := Lib.hid hI
  obtain ⟨xs, hFl, hEn⟩ := hC
  have HFl := Lib.hid hFl
  have HEn := Lib.hid hEn
  obtain ⟨pc, cc, rfl, -⟩ := hFl
  obtain ⟨pk, ck, rfl, -, -⟩ := hK.hdr
  obtain ⟨pi, ci, rfl, -, -⟩ := hI.hdr
  obtain ⟨kp, kc, rfl, -, -⟩ := hx.slice
  clear hK hI hEn hx
  obtain ⟨W, hW⟩ : ∃ W, W = ((w.alloc (Obj.cells #[.bool n.leaf, .slice pc n.cells.length cc, .slice pk n.keys.length ck, .slice pi n.kids.length ci] 26)).alloc (Obj.cells #[.slice kp key.length kc] 27)).alloc (Obj.cells #[.bool false, .slice none 0 0, .slice none 0 0, .slice none 0 0] 26) := ⟨_, rfl⟩
  have hWs : W.heap.size = w.heap.size + 1 + 1 + 1 := by rw [hW]; simp
  have hWA : W.heap[w.heap.size]? = some (Obj.cells #[.bool n.leaf, .slice pc n.cells.length cc, .slice pk n.keys.length ck, .slice pi n.kids.length ci] 26) := by rw [hW]; exact blk_on (bel1 _ _) (blk_on (bel1 _ _) (World.alloc_heap_new w _))
  have hWC : W.heap[w.heap.size + 1]? = some (Obj.cells #[.slice kp key.length kc] 27) := by
    rw [hW]
    have := World.alloc_heap_new (w.alloc (Obj.cells #[.bool n.leaf, .slice pc n.cells.length cc, .slice pk n.keys.length ck, .slice pi n.kids.length ci] 26)) (Obj.cells #[.slice kp key.length kc] 27)
    rw [World.size_alloc] at this
    exact blk_on (bel1 _ _) this
  have hWZ : W.heap[w.heap.size + 1 + 1]? = some (Obj.cells #[.bool false, .slice none 0 0, .slice none 0 0, .slice none 0 0] 26) := by
    rw [hW]
    have := World.alloc_heap_new ((w.alloc (Obj.cells #[.bool n.leaf, .slice pc n.cells.length cc, .slice pk n.keys.length ck, .slice pi n.kids.length ci] 26)).alloc (Obj.cells #[.slice kp key.length kc] 27)) (Obj.cells #[.bool false, .slice none 0 0, .slice none 0 0, .slice none 0 0] 26)
    rwa [World.size_alloc, World.size_alloc] at this
  have hWB : Below w.heap.size w W := by rw [hW]; exact bel_then (bel_then (bel1 _ _) (bel1 _ _)) (bel1 _ _)
  have hKc : W.cell? ⟨w.heap.size + 1, 0, none⟩ = some (.slice kp key.length kc) := by simp [World.cell?, hWC]
  have c72 := index72 W (w.heap.size + 1) _ _ key n.cells hKc (HX.out.on hWB) (HCs.out.on hWB)
  have HW := Lib.hid hW
  have HA := Lib.hid hWA
  have HZb := Lib.hid hWZ
  have HWB := Lib.hid hWB
  have HWs := Lib.hid hWs
  have c26 := fun (u : World) (y : Value) (hy : NdS u y n) => clone26 u y n hy HF.out
  generalize idxK key n.cells = ix at *
  clear hWs hWA hWC hWZ hWB hKc hf
  go_enter Try.func35, Try.ntmps35
  go_wp2_with (fail)
  rw [← HW.out]
  clear hW
  refine c72.mono ?_
  rintro e w4 ⟨rfl, hB4⟩
  have HB4 := Lib.hid (bel_then HWB.out hB4)
  have HA4 := Lib.hid (blk_on hB4 HA.out)
  have HZ4 := Lib.hid (blk_on hB4 HZb.out)
  have hz4 : w.heap.size + 1 + 1 + 1 ≤ w4.heap.size := by have := hB4.size; have := HWs.out; omega
  obtain ⟨a0, a1, a2, a3⟩ := four_of HA4.out
  have af1 := four_fr HA4.out 1
  clear hB4 c72
  go_wp2_with (first
    | (go_at_call 26; refine (c26 _ _ (HN.out.on HB4.out)).mono ?_; rintro e w7 ⟨v7, rfl, hn7, hB7⟩
       have HN7 := Lib.hid hn7
       obtain ⟨r1, f1, r2, f2, r3, f3, rfl⟩ := hn7.hdr
       have HB7 := Lib.hid hB7
       have HZ7 := Lib.hid (blk_on hB7 HZ4.out)
       obtain ⟨x0, x1, x2, x3⟩ := four_of HZ7.out
       have xf0 := four_fr HZ7.out 0
       have xf1 := four_fr HZ7.out 1
       have xf2 := four_fr HZ7.out 2
       have xf3 := four_fr HZ7.out 3
       clear hn7 hB7))
  have g := gr_four w7 (w.heap.size + 1 + 1) (.bool n.leaf) (.slice r1 n.cells.length f1) (.slice r2 n.keys.length f2) (.slice r3 n.kids.length f3)
  refine bodyPost_ret (results_c26t Try.results35 _ _ (w.heap.size + 1 + 1) _ _ _ _ 26 rfl (blk_four HZ7.out _ _ _ _)) rfl ?_
  have hz6 := HB4.out.size
  exact ⟨_, rfl, (HN7.out.gr g HZ7.out (by decide) (by decide) (by decide) (by decide)).low (by omega), bel_put (bel_then HB4.out HB7.out) g (by omega)⟩
set_option maxHeartbeats 8000000 in
set_option maxRecDepth 100000 in
theorem remove_yes (w : World) (v x : Value) (n : Nd) (key : List UInt8) (h : NdS w v n) (hx : Bs w x key) (hf : Fit n) (k : Nat) (hn : idxK key n.cells = (k : Int)) (hk : k < n.cells.length) :
    Calls Try.prog 35 #[v, x] w fun e w' => ∃ v', e = .returned (.tuple #[v', .bool true]) ∧ NdO w.heap.size w' v' (cutN n k) ∧ Below w.heap.size w w' := by
  have HX := Lib.hid hx
  have HN := Lib.hid h
  have HF := Lib.hid hf
  obtain ⟨vc, vk, vi, rfl, hC, hK, hI⟩ := h
  have HCs := Lib.hid hC
  have HK := Lib.hid hK
  have HI := Lib.hid hI
  obtain ⟨xs, hFl, hEn⟩ := hC
  have HFl := Lib.hid hFl
  have HEn := Lib.hid hEn
  obtain ⟨pc, cc, rfl, -⟩ := hFl
  obtain ⟨pk, ck, rfl, -, -⟩ := hK.hdr
  obtain ⟨pi, ci, rfl, -, -⟩ := hI.hdr
  obtain ⟨kp, kc, rfl, -, -⟩ := hx.slice
  clear hK hI hEn hx
  obtain ⟨W, hW⟩ : ∃ W, W = ((w.alloc (Obj.cells #[.bool n.leaf, .slice pc n.cells.length cc, .slice pk n.keys.length ck, .slice pi n.kids.length ci] 26)).alloc (Obj.cells #[.slice kp key.length kc] 27)).alloc (Obj.cells #[.bool false, .slice none 0 0, .slice none 0 0, .slice none 0 0] 26) := ⟨_, rfl⟩
  have hWs : W.heap.size = w.heap.size + 1 + 1 + 1 := by rw [hW]; simp
  have hWA : W.heap[w.heap.size]? = some (Obj.cells #[.bool n.leaf, .slice pc n.cells.length cc, .slice pk n.keys.length ck, .slice pi n.kids.length ci] 26) := by rw [hW]; exact blk_on (bel1 _ _) (blk_on (bel1 _ _) (World.alloc_heap_new w _))
  have hWC : W.heap[w.heap.size + 1]? = some (Obj.cells #[.slice kp key.length kc] 27) := by
    rw [hW]
    have := World.alloc_heap_new (w.alloc (Obj.cells #[.bool n.leaf, .slice pc n.cells.length cc, .slice pk n.keys.length ck, .slice pi n.kids.length ci] 26)) (Obj.cells #[.slice kp key.length kc] 27)
    rw [World.size_alloc] at this
    exact blk_on (bel1 _ _) this
  have hWZ : W.heap[w.heap.size + 1 + 1]? = some (Obj.cells #[.bool false, .slice none 0 0, .slice none 0 0, .slice none 0 0] 26) := by
    rw [hW]
    have := World.alloc_heap_new ((w.alloc (Obj.cells #[.bool n.leaf, .slice pc n.cells.length cc, .slice pk n.keys.length ck, .slice pi n.kids.length ci] 26)).alloc (Obj.cells #[.slice kp key.length kc] 27)) (Obj.cells #[.bool false, .slice none 0 0, .slice none 0 0, .slice none 0 0] 26)
    rwa [World.size_alloc, World.size_alloc] at this
  have hWB : Below w.heap.size w W := by rw [hW]; exact bel_then (bel_then (bel1 _ _) (bel1 _ _)) (bel1 _ _)
  have hKc : W.cell? ⟨w.heap.size + 1, 0, none⟩ = some (.slice kp key.length kc) := by simp [World.cell?, hWC]
  have c72 := index72 W (w.heap.size + 1) _ _ key n.cells hKc (HX.out.on hWB) (HCs.out.on hWB)
  have HW := Lib.hid hW
  have HA := Lib.hid hWA
  have HZb := Lib.hid hWZ
  have HWB := Lib.hid hWB
  have HWs := Lib.hid hWs
  rw [hn] at c72
  have hFit : Fit (cutN n k) := by
    obtain ⟨f1, f2, f3, f4, f5⟩ := hf
    have hl : (n.cells.take k ++ n.cells.drop (k + 1)).length = n.cells.length - 1 := by rw [List.length_append, List.length_take, List.length_drop]; omega
    refine ⟨by show (n.cells.take k ++ n.cells.drop (k + 1)).length * 64 ≤ _; rw [hl]; omega, f2, f3, fun c hc => f4 c ?_, f5⟩
    rcases List.mem_append.1 hc with hc | hc
    · exact List.mem_of_mem_take hc
    · exact List.mem_of_mem_drop hc
  have hb : n.cells.length * 64 ≤ 140737488355328 := by have := hf.1; omega
  have c63 := fun (u : World) (hu : Below w.heap.size w u) => without63 u w _ n.cells xs k (HFl.out.on hu) HEn.out hk hb
  have c26 := fun (u : World) (y : Value) (hy : NdS u y (cutN n k)) => clone26 u y (cutN n k) hy hFit
  have hl : (n.cells.take k ++ n.cells.drop (k + 1)).length = n.cells.length - 1 := by rw [List.length_append, List.length_take, List.length_drop]; omega
  have HL := Lib.hid hl
  have hk0 : ¬ (k : Int) < 0 := by omega
  clear hWs hWA hWC hWZ hWB hKc hf hn hFit hb hl
  generalize n.keys.length = M at *
  generalize n.kids.length = P at *
  generalize hN9 : n.cells.length = N at *
  have HN9 := Lib.hid hN9
  clear hN9
  generalize hN8 : N - 1 = N' at *
  clear hN8
  go_enter Try.func35, Try.ntmps35
  go_wp2_with (fail)
  rw [← HW.out]
  clear hW
  refine c72.mono ?_
  rintro e w4 ⟨rfl, hB4⟩
  have HB4 := Lib.hid (bel_then HWB.out hB4)
  have HA4 := Lib.hid (blk_on hB4 HA.out)
  have HZ4 := Lib.hid (blk_on hB4 HZb.out)
  have hz4 : w.heap.size + 1 + 1 + 1 ≤ w4.heap.size := by have := hB4.size; have := HWs.out; omega
  obtain ⟨a0, a1, a2, a3⟩ := four_of HA4.out
  have af1 := four_fr HA4.out 1
  clear hB4 c72
  have ROW : Hid (∀ (u : World) (v5 : Value) (ys : List Value), ((∀ q, Fl q (.slice pc N cc) 4 N xs → Fl q v5 4 N' ys) ∨ u.ownsRow w4.heap.size 44 4 v5 N' ys) → Enc cellV 4 w (n.cells.take k ++ n.cells.drop (k + 1)) ys → Below w.heap.size w u → u.heap[w.heap.size]? = some (Obj.cells #[.bool n.leaf, .slice pc N cc, .slice pk M ck, .slice pi P ci] 26) →
      ∃ p5 c5, v5 = .slice p5 N' c5 ∧ Hid (NdS (u.setCell ⟨w.heap.size, 1, none⟩ v5) (.agg #[.bool n.leaf, v5, .slice pk M ck, .slice pi P ci]) (cutN n k))) := by
    intro u v5 ys hor he hB hA
    have g := gr_set u w.heap.size 1 v5
    have hB' := bel_put hB g (Nat.le_refl _)
    have key : (∃ p5 c5, v5 = .slice p5 N' c5) ∧ Fl (u.setCell ⟨w.heap.size, 1, none⟩ v5) v5 4 N' ys := by
      rcases hor with h | h
      · have hw := h w HFl.out
        have hw2 := hw.on hB'
        obtain ⟨p5, c5, e, -⟩ := hw
        exact ⟨⟨p5, c5, e⟩, hw2⟩
      · obtain ⟨p5, c5, e, -⟩ := own_hdr h
        exact ⟨⟨p5, c5, e⟩, fl_own (own_other h g hA (by decide))⟩
    obtain ⟨⟨p5, c5, e⟩, hF⟩ := key
    refine ⟨p5, c5, e, ⟨_, _, _, rfl, ⟨ys, ?_, he.on fun a x hx => hx.on hB'⟩, HK.out.on hB', HI.out.on hB'⟩⟩
    show Fl _ _ 4 (n.cells.take k ++ n.cells.drop (k + 1)).length ys
    rw [HL.out]
    exact hF
  go_wp2_with (first
    | (go_at_call 63; refine (c63 w4 HB4.out).mono ?_; rintro e w5 ⟨v5, ys, rfl, hor, he5, hB5⟩
       have HBB := Lib.hid (bel_then HB4.out hB5)
       have HA5 := Lib.hid (blk_on hB5 HA4.out); have HZ5 := Lib.hid (blk_on hB5 HZ4.out)
       have hz5 : w.heap.size + 1 + 1 + 1 ≤ w5.heap.size := Nat.le_trans hz4 hB5.size
       obtain ⟨p5, c5, HF5⟩ := ROW.out w5 v5 ys hor he5 HBB.out HA5.out
       obtain ⟨rfl, HF5⟩ := HF5
       obtain ⟨a0, a1, a2, a3⟩ := four_of HA5.out
       have af1 := four_fr HA5.out 1
       clear he5 hB5 hor)
    | (go_at_call 26; refine (c26 _ _ HF5.out).mono ?_; rintro e w7 ⟨v7, rfl, hn7, hB7⟩
       have HN7 := Lib.hid hn7
       obtain ⟨r1, f1, r2, f2, r3, f3, rfl⟩ := hn7.hdr
       have HB7 := Lib.hid hB7
       have HZ7 := Lib.hid (blk_on hB7 (blk_gr HZ5.out (gr_set w5 w.heap.size 1 (.slice p5 N' c5)) (by omega)))
       obtain ⟨x0, x1, x2, x3⟩ := four_of HZ7.out
       have xf0 := four_fr HZ7.out 0
       have xf1 := four_fr HZ7.out 1
       have xf2 := four_fr HZ7.out 2
       have xf3 := four_fr HZ7.out 3
       clear hn7 hB7))
  have g := gr_four w7 (w.heap.size + 1 + 1) (.bool (cutN n k).leaf) (.slice r1 (cutN n k).cells.length f1) (.slice r2 (cutN n k).keys.length f2) (.slice r3 (cutN n k).kids.length f3)
  have g5 := gr_set w5 w.heap.size 1 (.slice p5 N' c5)
  refine bodyPost_ret (results_c26t Try.results35 _ _ (w.heap.size + 1 + 1) _ _ _ _ 26 rfl (blk_four HZ7.out _ _ _ _)) rfl ?_
  have hz6 := HBB.out.size
  exact ⟨_, rfl, (HN7.out.gr g HZ7.out (by decide) (by decide) (by decide) (by decide)).low (by have := g5.size; omega), bel_put (bel_then (bel_put HBB.out g5 (Nat.le_refl _)) HB7.out) g (by omega)⟩
/-- The node without the first cell of a key. -/
def rmC (key : List UInt8) (L : List C) : List C := if idxK key L < 0 then L else L.take (idxK key L).toNat ++ L.drop ((idxK key L).toNat + 1)
def rmN (n : Nd) (key : List UInt8) : Nd := ⟨n.leaf, rmC key n.cells, n.keys, n.kids⟩
theorem remove35 (w : World) (v x : Value) (n : Nd) (key : List UInt8) (h : NdS w v n) (hx : Bs w x key) (hf : Fit n) :
    Calls Try.prog 35 #[v, x] w fun e w' => ∃ v', e = .returned (.tuple #[v', .bool (decide (0 ≤ idxK key n.cells))]) ∧ NdO w.heap.size w' v' (rmN n key) ∧ Below w.heap.size w w' := by
  have hge := idxK_ge key n.cells
  unfold rmN rmC
  by_cases hn : idxK key n.cells < 0
  · rw [if_pos hn, decide_eq_false (by omega)]
    exact remove_no w v x n key h hx hf hn
  · rw [if_neg hn, decide_eq_true (by omega)]
    exact remove_yes w v x n key h hx hf (idxK key n.cells).toNat (by omega) (by omega)
end Go.Proofs.Ytbkpgppaahpalaa
