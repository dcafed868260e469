/-
  The document's form of a leaf.
-/
import Derived.Test.YtbkpgppaahpalaaBeg
import Derived.Deep.CutRange
import Derived.Deep.RegionHeld3
namespace Go.Proofs.Ytbkpgppaahpalaa
open Go.RowKit
set_option linter.unusedVariables false      -- a walk need not use every condition

theorem rput77 (x : Int) (w : World) (b : Value) (t : List UInt8) (hb : Bs w b t) (ht : t.length + 10 ≤ 140737488355328) :
    Calls Try.prog 77 #[b, .int .i64 x] w fun e w' => ∃ v, e = .returned v ∧ Bts w' w.heap.size v (t ++ nI x) ∧ Below w.heap.size w w' := by
  have c93 := rput93 (x % 18446744073709551616).toNat (by omega) w b t hb ht
  have hu := u64_of x
  obtain ⟨p, cap, rfl, -⟩ := hb.slice
  unfold nI
  generalize (x % 18446744073709551616).toNat = U at *
  go_enter Try.func77, Try.ntmps77
  go_wp2_with (go_at_call 93; refine c93.mono ?_; rintro e w' ⟨v, rfl, h1, h2⟩)
  go_ret
  exact ⟨_, rfl, h1, h2⟩
theorem nI_len {K : Nat} (h : K < 18446744073709551616) (k : List UInt8) (hk : k.length = K) : nI (K : Int) ++ k = keyF k := by
  unfold keyF
  rw [nI_nat h, hk]
/-- The world in which a round stands. -/
theorem Gr.at_node {w u : World} {NB : Obj} (h : Gr w.heap.size (w.alloc NB) u) : Below w.heap.size w u := (bel1 w NB).trans h.1
/-- A number is put, and bytes behind it: what the region of both needs. -/
theorem put_app (w0 W : World) (NB : Obj) (b : Value) (acc : List UInt8) (g : Nat) (c0 c1 c2 c3 : Value) (x : Value) (u : List UInt8) (K : Int) (T1 T2 : List UInt8) (hT1 : acc ++ nI K = T1) (hT2 : T1 ++ u = T2) (hb : Bs W b acc) (hG : Gr w0.heap.size (w0.alloc NB) W) (hX : W.heap[g]? = some (.cells #[c0, c1, c2, c3] 44)) (hx : Bs W x u)
    (hl : T1.length + u.length ≤ 140737488350000) (hz : w0.heap.size ≤ W.heap.size) :
    Calls Try.prog 77 #[b, .int .i64 K] W fun e w2 => ∃ p2 c2' v3 w3, e = .returned (.slice p2 T1.length c2') ∧ (Builtin.append_ #[27, 27] 27 #[.slice p2 T1.length c2', x]).run Try.prog w2 = .ok v3 w3 ∧
      (w2.cell? ⟨g, 0, none⟩ = some c0 ∧ w2.cell? ⟨g, 1, none⟩ = some c1 ∧ w2.cell? ⟨g, 2, none⟩ = some c2 ∧ w2.cell? ⟨g, 3, none⟩ = some c3) ∧
      Hid (Bts w3 w0.heap.size v3 T2) ∧ Hid (Gr w0.heap.size (w0.alloc NB) w3) ∧ Hid (w3.heap[g]? = some (.cells #[c0, c1, c2, c3] 44)) := by
  have l1 : acc.length + 10 ≤ 140737488355328 := by
    have e := congrArg List.length hT1
    rw [List.length_append] at e
    omega
  refine (rput77 K W b acc hb l1).mono ?_
  rintro e w2 ⟨v2, rfl, hb2, hB2⟩
  rw [hT1] at hb2
  have hz2 : w0.heap.size ≤ w2.heap.size := Nat.le_trans hz hB2.size
  obtain ⟨p2, c2', e2, -⟩ := hb2.bs
  subst e2
  have hm := hb2.mono hz
  obtain ⟨v3, w3, hap, hb3, hg3⟩ := app_run w2 w0.heap.size _ x T1 u hm (hx.on hB2) (by omega) hz2 27
  rw [hT2] at hb3
  have go := Gr.own hm hg3 hz2
  exact ⟨_, _, v3, w3, rfl, hap, four_of (blk_on hB2 hX), hb3, (hG.trans (Gr.bel hB2 hz)).trans go, go.2 _ _ (blk_on hB2 hX) (fun _ _ e => by cases e)⟩
theorem put_only (w0 W : World) (NB : Obj) (b : Value) (acc : List UInt8) (g : Nat) (c0 c1 c2 c3 : Value) (K : Int) (T1 : List UInt8) (hT1 : acc ++ nI K = T1) (hb : Bs W b acc) (hG : Gr w0.heap.size (w0.alloc NB) W) (hX : W.heap[g]? = some (.cells #[c0, c1, c2, c3] 44))
    (hl : T1.length ≤ 140737488350000) (hz : w0.heap.size ≤ W.heap.size) :
    Calls Try.prog 77 #[b, .int .i64 K] W fun e w2 => ∃ p2 c2', e = .returned (.slice p2 T1.length c2') ∧
      (w2.cell? ⟨g, 0, none⟩ = some c0 ∧ w2.cell? ⟨g, 1, none⟩ = some c1 ∧ w2.cell? ⟨g, 2, none⟩ = some c2 ∧ w2.cell? ⟨g, 3, none⟩ = some c3) ∧
      Hid (Bts w2 w0.heap.size (.slice p2 T1.length c2') T1) ∧ Hid (Gr w0.heap.size (w0.alloc NB) w2) ∧ Hid (w2.heap[g]? = some (.cells #[c0, c1, c2, c3] 44)) := by
  have l1 : acc.length + 10 ≤ 140737488355328 := by
    have e := congrArg List.length hT1
    rw [List.length_append] at e
    omega
  refine (rput77 K W b acc hb l1).mono ?_
  rintro e w2 ⟨v2, rfl, hb2, hB2⟩
  rw [hT1] at hb2
  obtain ⟨p2, c2', e2, -⟩ := hb2.bs
  subst e2
  exact ⟨_, _, rfl, four_of (blk_on hB2 hX), hb2.mono hz, hG.trans (Gr.bel hB2 hz), blk_on hB2 hX⟩
/-- An append as a step of a region that draws. -/
theorem step_app {ops : Array Oper} {o : Oper} {a : Act} {w : World} {K : Act → World → Prop} {Q : Exit → Act → World → Prop} {E : Prop} (hgd : o.guard = none) (s x : Operand)
    (ho : o.op = .call { callee := .builtin .append, args := #[s, x], argTypes := #[27, 27] }) (base : Nat) (v y : Value) (t u : List UInt8) (hs : a.eval s = v) (hy : a.eval x = y) (hown : Bts w base v t) (hx : Bs w y u)
    (hlen : t.length + u.length ≤ 140737488355328) (hbase : base ≤ w.heap.size)
    (h : ∀ v' w', Bts w' base v' (t ++ u) → w.grownBy w' v.ownBlock → K (a.put o.dst v') w') : if Region.wanted o (yielded ops a.tmps) = true then Oper.wp Try.prog o a w K Q else E := by
  have hw : Region.wanted o (yielded ops a.tmps) = true := by simp [Region.wanted, hgd]
  rw [if_pos hw]
  obtain ⟨v', w', hr, h2, h3⟩ := app_run w base v y t u hown hx hlen hbase o.type
  unfold Oper.wp execOp
  simp only [ho, resolve, invoke, builtin, Sem.run_bind, Sem.run_pure, Result.andThen_ok, List.map_toArray, List.map_cons, List.map_nil, hs, hy, hr]
  exact h v' w' h2 h3
set_option maxHeartbeats 8000000 in
set_option maxRecDepth 100000 in
theorem formLeaf (w : World) (v : Value) (n : Nd) (h : NdS w v n) (hL : n.leaf = true) (ht : (form n).length ≤ 140737488350000) :
    Calls Try.prog 38 #[v] w fun e w' => ∃ v', e = .returned v' ∧ Bts w' w.heap.size v' (form n) ∧ Below w.heap.size w w' := by
  obtain ⟨vc, vk, vi, rfl, hC, hK, hI⟩ := h
  have HC := Lib.hid hC
  obtain ⟨pc, cc, rfl, -, lc⟩ := hC.hdr
  obtain ⟨pk, ck, rfl, -, lk⟩ := hK.hdr
  obtain ⟨pi, ci, rfl, -, li⟩ := hI.hdr
  clear hC hK hI
  rw [hL]
  unfold form at ht ⊢
  rw [hL, if_pos rfl] at ht ⊢
  have HT := Lib.hid ht
  clear ht
  generalize hN : n.cells.length = N at *
  have HN := Lib.hid hN
  clear hN
  generalize n.keys.length = M at *
  generalize n.kids.length = P at *
  obtain ⟨NB, hNB⟩ : ∃ NB, NB = Obj.cells #[.bool true, .slice pc N cc, .slice pk M ck, .slice pi P ci] 26 := ⟨_, rfl⟩
  have HNB := Lib.hid (World.alloc_heap_new w NB)
  have HNBe := Lib.hid hNB
  have c1 := rput77 (N : Int) ((w.alloc NB).alloc (.cells #[.int .u8 1] 5)) (.slice (some ⟨w.heap.size + 1, 0, none⟩) 1 1) [1] (by have := bs_one (w.alloc NB) 1 rfl; rwa [World.size_alloc] at this) (by simp)
  rw [nI_nat (by omega)] at c1
  have HA := Lib.hid (World.alloc_heap_new w NB)
  have HGr0 : Hid (Gr w.heap.size (w.alloc NB) ((w.alloc NB).alloc (.cells #[.int .u8 1] 5))) := Gr.bel (bel1 _ _) (by simp)
  have c77 := rput77
  rw [hNB] at c1 HA HGr0
  clear hNB
  generalize hV0 : ([1] ++ vnt N : List UInt8) = V0 at *
  have HV0 := Lib.hid hV0
  clear hV0
  go_enter Try.func38, Try.ntmps38
  go_wp2_with (go_at_call 77; refine c1.mono ?_; rintro e w1 ⟨v1, rfl, hb1, hB1⟩)
  have HB1 := Lib.hid (hb1.mono (b := w.heap.size) (by simp; omega))
  have HG1 := Lib.hid (HGr0.out.trans (Gr.bel hB1 (by simp; omega)))
  clear hb1 hB1 c1 HGr0
  go_loopg [3, 4, 5] N (fun g s3 s4 s5 wr => ∃ (i : Nat) (bv : Value), i + g = N ∧ bv = s3 ∧ s4 = .int .i64 i ∧ Hid (Bts wr w.heap.size bv (V0 ++ (n.cells.take i).flatMap cellF)) ∧ Hid (Gr w.heap.size (w.alloc (Obj.cells #[.bool true, .slice pc N cc, .slice pk M ck, .slice pi P ci] 26)) wr))
  case atStart => exact ⟨0, _, by omega, rfl, rfl, by show Bts _ _ _ _; simpa using HB1.out, HG1.out⟩
  case round =>
    clear HB1 HG1
    obtain ⟨i, bv, hig, rfl, rfl, hb, hG⟩ := hrel
    obtain ⟨a0, a1, a2, a3⟩ := four_of (gr_node hG.out HA.out)
    cases gk with
    | zero =>
      have hix : ¬ (i : Int) < (N : Int) := by omega
      have hF : Hid (Bts wr w.heap.size bv (1 :: (vnt N ++ n.cells.flatMap cellF))) := by
        have := hb.out
        rw [List.take_of_length_le (by have := HN.out; omega), ← HV0.out] at this
        show Bts _ _ _ _
        simpa using this
      clear hb
      go_wp2
      go_ret
      exact ⟨_, rfl, hF.out, hG.out.at_node⟩
    | succ g =>
      have hi : i < n.cells.length := by have := HN.out; omega
      have hiz : (i : Int) < (N : Int) := by omega
      have hi0 : (0 : Int) ≤ (i : Int) := by omega
      have hbw := Lib.hid hG.out.at_node
      obtain ⟨g0, o0, cap0, k, x, e, z0, z1, z2, z3, hBk, hBx, hIo, hIl⟩ := HC.out.at hi
      replace z0 := cell_past hbw.out z0
      replace z1 := cell_past hbw.out z1
      replace z2 := cell_past hbw.out z2
      replace z3 := cell_past hbw.out z3
      injection e with e1 e2 e3
      subst e1 e3
      clear e2
      have hlen : Hid ((V0 ++ (n.cells.take i).flatMap cellF).length + (cellF n.cells[i]).length ≤ 140737488350000) := by
        show _ ≤ _
        have h1 := HT.out
        have h2 := flat_le' cellF n.cells (i + 1)
        rw [flat_next cellF n.cells hi] at h2
        rw [← HV0.out]
        simp only [List.length_cons, List.length_append, List.length_nil] at h1 h2 ⊢
        omega
      have hnext : Hid (V0 ++ (n.cells.take (i + 1)).flatMap cellF = (V0 ++ (n.cells.take i).flatMap cellF) ++ cellF n.cells[i]) := by show _ = _; rw [flat_next cellF n.cells hi, List.append_assoc]
      have HBk := Lib.hid hBk
      have HBx := Lib.hid hBx
      generalize V0 ++ (n.cells.take i).flatMap cellF = acc at *
      have ec : cellF n.cells[i] = keyF n.cells[i].key ++ valF n.cells[i] := rfl
      rw [ec] at hlen hnext
      clear ec
      have ev : valF n.cells[i] = if n.cells[i].over = 0 then 0 :: keyF n.cells[i].val else 1 :: (nI n.cells[i].len ++ nI n.cells[i].over) := rfl
      rw [ev] at hlen hnext
      clear ev
      generalize n.cells[i].key = key at *
      generalize n.cells[i].val = val at *
      generalize n.cells[i].over = O at *
      generalize n.cells[i].len = L at *
      obtain ⟨kp, kc, rfl, -, hk9⟩ := hBk.slice
      obtain ⟨xp, xc, rfl, -, hx9⟩ := hBx.slice
      generalize hKl : key.length = K at *
      generalize hXl : val.length = X at *
      have HKl := Lib.hid hKl
      have HXl := Lib.hid hXl
      have hkey := Lib.hid (nI_len (K := K) (by omega) key hKl)
      have hval := Lib.hid (nI_len (K := X) (by omega) val hXl)
      clear hKl hXl hBk hBx
      have hbb := hb.out
      obtain ⟨bp, bc, rfl, -⟩ := hbb.bs
      clear hbb
      have hzw : w.heap.size < wr.heap.size := World.block_lt_of_cell? wr ⟨w.heap.size, 0, none⟩ a0
      have hg0 : g0 < wr.heap.size := World.block_lt_of_cell? wr ⟨g0, _, none⟩ z0
      have hkl9 : (keyF key).length = (nI (K : Int)).length + K := by rw [← hkey.out, List.length_append, HKl.out]
      have hn10 := nI_le (K : Int)
      obtain ⟨T1, hT1⟩ : ∃ T, acc ++ nI (K : Int) = T := ⟨_, rfl⟩
      obtain ⟨T2, hT2⟩ : ∃ T, T1 ++ key = T := ⟨_, rfl⟩
      have HE2 : Hid (acc ++ keyF key = T2) := by show _ = _; rw [← hkey.out, ← List.append_assoc, hT1, hT2]
      have l1 : T1.length + key.length ≤ 140737488350000 := by
        have := hlen.out
        have e := congrArg List.length hT1
        rw [List.length_append] at e
        simp only [List.length_append] at this
        have := HKl.out
        omega
      have l2 : T2.length + (if O = 0 then 0 :: keyF val else 1 :: (nI L ++ nI O)).length ≤ 140737488350000 := by
        have := hlen.out
        rw [← HE2.out]
        simp only [List.length_append] at this ⊢
        omega
      have HL1 := Lib.hid l1
      have HL2 := Lib.hid l2
      have hGc := hG.out.trans (Gr.bel (bel_then (bel1 wr (.cells #[.slice kp K kc, .slice xp X xc, .int .i64 O, .int .i64 L] 44)) (Below.refl _ _).drew) (by omega))
      have hBox : (wr.alloc (.cells #[.slice kp K kc, .slice xp X xc, .int .i64 O, .int .i64 L] 44)).drew.heap[wr.heap.size]? = some (.cells #[.slice kp K kc, .slice xp X xc, .int .i64 O, .int .i64 L] 44) := World.alloc_heap_new wr _
      obtain ⟨y0, y1, y2, y3⟩ := four_of hBox
      have d1 := put_app w (wr.alloc (.cells #[.slice kp K kc, .slice xp X xc, .int .i64 O, .int .i64 L] 44)).drew _ (.slice bp acc.length bc) acc wr.heap.size _ _ _ _ (.slice kp K kc) key (K : Int) T1 T2 hT1 hT2 ((hb.out.bs.on (bel1 _ _)).on (Below.refl _ _).drew) hGc hBox (HBk.out.on hGc.at_node) HL1.out (by simp; omega)
      clear hT1 hT2 l1 l2 hGc hBox
      generalize acc.length = AL at *
      generalize T1.length = BL at *
      clear hlen hkl9 hn10 hb
      go_wp2
      go_cut [3] from 28 to 35 (fun s3 wx => ∃ v3, v3 = s3 ∧ Hid (Bts wx w.heap.size v3 T2) ∧ Hid (Gr w.heap.size (w.alloc (Obj.cells #[.bool true, .slice (some ⟨g0, o0, none⟩) N cc, .slice pk M ck, .slice pi P ci] 26)) wx) ∧ Hid (wx.heap[wr.heap.size]? = some (.cells #[.slice kp K kc, .slice xp X xc, .int .i64 O, .int .i64 L] 44)))
      case first =>
        go_region_with (go_at_call 77; refine d1.mono ?_
                        rintro e w2 ⟨p2, c2, v3, w3, rfl, hap, ⟨t0, t1, t2, t3⟩, HB3, HG3, HX3⟩
                        simp [go_sem] at hap)
        all_goals
          go_wp2
          go_meet
          case rel => exact ⟨_, rfl, HB3, HG3, HX3⟩
      case rest =>
        clear y0 y1 y2 y3
        obtain ⟨w3, rfl⟩ : ∃ v, v = wc := ⟨_, rfl⟩
        obtain ⟨v3, rfl, HB3, HG3, HX3⟩ := hcut
        obtain ⟨t0, t1, t2, t3⟩ := four_of HX3.out
        obtain ⟨p3, c3, rfl, -⟩ := HB3.out.bs
        have hz3 : w.heap.size < w3.heap.size := (Array.getElem?_eq_some_iff.1 (gr_node HG3.out HA.out)).1
        have hzr3 : wr.heap.size < w3.heap.size := (Array.getElem?_eq_some_iff.1 HX3.out).1
        by_cases hO : O = 0
        · have hOb : (O == 0) = true := by simp [hO]
          have hl2 := HL2.out
          rw [if_pos hO] at hl2
          have hn2 := hnext.out
          rw [if_pos hO] at hn2
          obtain ⟨T3, hT3⟩ : ∃ T, T2 ++ [0] = T := ⟨_, rfl⟩
          obtain ⟨T4, hT4⟩ : ∃ T, T3 ++ nI (X : Int) = T := ⟨_, rfl⟩
          obtain ⟨T5, hT5⟩ : ∃ T, T4 ++ val = T := ⟨_, rfl⟩
          have hn5 : Hid (V0 ++ (n.cells.take (i + 1)).flatMap cellF = T5) := by
            show _ = _
            rw [hn2, ← List.append_assoc, HE2.out, ← hval.out, ← hT5, ← hT4, ← hT3]
            simp
          have hxl := congrArg List.length hval.out
          rw [List.length_append, HXl.out] at hxl
          have el3 := congrArg List.length hT3
          have el4 := congrArg List.length hT4
          rw [List.length_append, List.length_singleton] at el3
          rw [List.length_append] at el4
          rw [List.length_cons] at hl2
          have own0 : Bts (w3.drew.alloc (.cells #[.int .u8 0] 5)) w.heap.size (.slice p3 T2.length c3) T2 := (HB3.out.on (Below.refl _ w3).drew).on (bel1 w3.drew _)
          have src0 : Bs (w3.drew.alloc (.cells #[.int .u8 0] 5)) (.slice (some ⟨w3.heap.size, 0, none⟩) 1 1) [0] := bs_one w3.drew 0 rfl
          have go0 : Gr w.heap.size w3 (w3.drew.alloc (.cells #[.int .u8 0] 5)) := Gr.bel (w := w3) ((Below.refl _ w3).drew.alloc (Nat.le_refl _) _) (by omega)
          have l0 : T2.length + [(0 : UInt8)].length ≤ 140737488355328 := by simp; omega
          have z0' : w.heap.size ≤ (w3.drew.alloc (.cells #[.int .u8 0] 5)).heap.size := by simp; omega
          have nxt : ∀ v4 w4, Bts w4 w.heap.size v4 (T2 ++ [0]) → (w3.drew.alloc (.cells #[.int .u8 0] 5)).grownBy w4 (Value.slice p3 T2.length c3).ownBlock →
              w4.cell? ⟨wr.heap.size, 1, none⟩ = some (.slice xp X xc) ∧ Calls Try.prog 77 #[v4, .int .i64 (X : Int)] w4 fun e w2 => ∃ p2 c2', e = .returned (.slice p2 T4.length c2') ∧
              (w2.cell? ⟨wr.heap.size, 0, none⟩ = some (.slice kp K kc) ∧ w2.cell? ⟨wr.heap.size, 1, none⟩ = some (.slice xp X xc) ∧ w2.cell? ⟨wr.heap.size, 2, none⟩ = some (.int .i64 O) ∧ w2.cell? ⟨wr.heap.size, 3, none⟩ = some (.int .i64 L)) ∧
              Hid (Bts w2 w.heap.size (.slice p2 T4.length c2') T4) ∧ Hid (Gr w.heap.size (w.alloc (Obj.cells #[.bool true, .slice (some ⟨g0, o0, none⟩) N cc, .slice pk M ck, .slice pi P ci] 26)) w2) ∧ Hid (w2.heap[wr.heap.size]? = some (.cells #[.slice kp K kc, .slice xp X xc, .int .i64 O, .int .i64 L] 44)) := by
            intro v4 w4 hb4 hg4
            rw [hT3] at hb4
            have go4 := Gr.own own0 hg4 z0'
            have hX4 := go4.2 _ _ (go0.2 _ _ HX3.out (fun _ _ e => by cases e)) (fun _ _ e => by cases e)
            exact ⟨(four_of hX4).2.1, put_only w w4 _ v4 T3 wr.heap.size _ _ _ _ (X : Int) T4 hT4 hb4.bs ((HG3.out.trans go0).trans go4) hX4 (by omega) (Nat.le_trans (by omega) (go0.trans go4).1.size)⟩
          have r1 : w3.drew.cell? ⟨wr.heap.size, 1, none⟩ = some (.slice xp X xc) := t1
          have r2 : (w3.drew.alloc (.cells #[.int .u8 0] 5)).cell? ⟨wr.heap.size, 1, none⟩ = some (.slice xp X xc) := cell_past (bel1 w3.drew _) r1
          have fin : ∀ w5 p5 c5, Bts w5 w.heap.size (.slice p5 T4.length c5) T4 → Gr w.heap.size (w.alloc (Obj.cells #[.bool true, .slice (some ⟨g0, o0, none⟩) N cc, .slice pk M ck, .slice pi P ci] 26)) w5 → w5.heap[wr.heap.size]? = some (.cells #[.slice kp K kc, .slice xp X xc, .int .i64 O, .int .i64 L] 44) →
              Bs w5 (.slice xp X xc) val ∧ w.heap.size ≤ w5.heap.size ∧ ∀ v6 w6, Bts w6 w.heap.size v6 (T4 ++ val) → w5.grownBy w6 (Value.slice p5 T4.length c5).ownBlock → w6.cell? ⟨wr.heap.size, 1, none⟩ = some (.slice xp X xc) ∧ Hid (Bts w6 w.heap.size v6 T5) ∧ Hid (Gr w.heap.size (w.alloc (Obj.cells #[.bool true, .slice (some ⟨g0, o0, none⟩) N cc, .slice pk M ck, .slice pi P ci] 26)) w6) := by
            intro w5 p5 c5 hb5 hG5 hX5
            refine ⟨HBx.out.on hG5.at_node, hG5.at_node.size, fun v6 w6 hb6 hg6 => ?_⟩
            rw [hT5] at hb6
            have go6 := Gr.own hb5 hg6 hG5.at_node.size
            exact ⟨(four_of (go6.2 _ _ hX5 (fun _ _ e => by cases e))).2.1, hb6, hG5.trans go6⟩
          have l5 : T4.length + val.length ≤ 140737488355328 := by have := HXl.out; omega
          have HO0 := Lib.hid own0
          have HS0 := Lib.hid src0
          have HLL := Lib.hid (And.intro l0 (And.intro z0' l5))
          clear own0 src0 go0 l0 z0' l5 hl2 hn2 hT3 hT4 hT5 hxl el3 el4 d1 hO
          generalize hL4 : T4.length = L4 at *
          generalize hL2 : T2.length = L2 at *
          have tk : True := trivial
          go_wp2
          go_region_held3 (fun u => u.cell? ⟨wr.heap.size, 1, none⟩ = some (.slice xp X xc)) (first | exact r1 | exact r2 | exact r4 | exact u1 | exact r6)
            (first
              | (refine step_app (by rfl) _ _ (by rfl) w.heap.size _ _ T2 [0] (by rfl) (by rfl) HO0.out HS0.out (by rw [hL2]; exact HLL.out.1) HLL.out.2.1 ?_; clear tk; intro v4 w4 hb4 hg4; obtain ⟨r4, d2⟩ := nxt v4 w4 hb4 hg4; clear hb4 hg4)
              | (go_at_call 77; refine d2.mono ?_; rintro e w5 ⟨p5, c5, rfl, ⟨u0, u1, u2, u3⟩, HB5, HG5, HX5⟩; obtain ⟨src5, z5, f6⟩ := fin w5 p5 c5 HB5.out HG5.out HX5.out)
              | (refine step_app (by rfl) _ _ (by rfl) w.heap.size _ _ T4 val (by rfl) (by rfl) HB5.out src5 (by rw [hL4]; exact HLL.out.2.2) z5 ?_; intro v6 w6 hb6 hg6; obtain ⟨r6, HB6, HG6⟩ := f6 v6 w6 hb6 hg6; clear hb6 hg6))
          go_wp2
          go_roundg g
          case measure => omega
          case rel => exact ⟨i + 1, _, by omega, rfl, by first | rfl | go_num, by show Bts _ _ _ _; rw [hn5.out]; exact HB6.out, HG6⟩
        · have hOb : (O == 0) = false := by simp [hO]
          have hl2 := HL2.out
          rw [if_neg hO] at hl2
          have hn2 := hnext.out
          rw [if_neg hO] at hn2
          obtain ⟨T3, hT3⟩ : ∃ T, T2 ++ [1] = T := ⟨_, rfl⟩
          obtain ⟨T4, hT4⟩ : ∃ T, T3 ++ nI L = T := ⟨_, rfl⟩
          obtain ⟨T5, hT5⟩ : ∃ T, T4 ++ nI O = T := ⟨_, rfl⟩
          have hn5 : Hid (V0 ++ (n.cells.take (i + 1)).flatMap cellF = T5) := by
            show _ = _
            rw [hn2, ← List.append_assoc, HE2.out, ← hT5, ← hT4, ← hT3]
            simp
          have el3 := congrArg List.length hT3
          have el4 := congrArg List.length hT4
          have el5 := congrArg List.length hT5
          rw [List.length_append, List.length_singleton] at el3
          rw [List.length_append] at el4 el5
          rw [List.length_cons, List.length_append] at hl2
          have own0 : Bts (w3.drew.alloc (.cells #[.int .u8 1] 5)) w.heap.size (.slice p3 T2.length c3) T2 := (HB3.out.on (Below.refl _ w3).drew).on (bel1 w3.drew _)
          have src0 : Bs (w3.drew.alloc (.cells #[.int .u8 1] 5)) (.slice (some ⟨w3.heap.size, 0, none⟩) 1 1) [1] := bs_one w3.drew 1 rfl
          have go0 : Gr w.heap.size w3 (w3.drew.alloc (.cells #[.int .u8 1] 5)) := Gr.bel (w := w3) ((Below.refl _ w3).drew.alloc (Nat.le_refl _) _) (by omega)
          have l0 : T2.length + [(1 : UInt8)].length ≤ 140737488355328 := by simp; omega
          have z0' : w.heap.size ≤ (w3.drew.alloc (.cells #[.int .u8 1] 5)).heap.size := by simp; omega
          have nxt : ∀ v4 w4, Bts w4 w.heap.size v4 (T2 ++ [1]) → (w3.drew.alloc (.cells #[.int .u8 1] 5)).grownBy w4 (Value.slice p3 T2.length c3).ownBlock →
              (w4.cell? ⟨wr.heap.size, 2, none⟩ = some (.int .i64 O) ∧ w4.cell? ⟨wr.heap.size, 3, none⟩ = some (.int .i64 L)) ∧ Calls Try.prog 77 #[v4, .int .i64 L] w4 fun e w2 => ∃ p2 c2', e = .returned (.slice p2 T4.length c2') ∧
              (w2.cell? ⟨wr.heap.size, 0, none⟩ = some (.slice kp K kc) ∧ w2.cell? ⟨wr.heap.size, 1, none⟩ = some (.slice xp X xc) ∧ w2.cell? ⟨wr.heap.size, 2, none⟩ = some (.int .i64 O) ∧ w2.cell? ⟨wr.heap.size, 3, none⟩ = some (.int .i64 L)) ∧
              Hid (Bts w2 w.heap.size (.slice p2 T4.length c2') T4) ∧ Hid (Gr w.heap.size (w.alloc (Obj.cells #[.bool true, .slice (some ⟨g0, o0, none⟩) N cc, .slice pk M ck, .slice pi P ci] 26)) w2) ∧ Hid (w2.heap[wr.heap.size]? = some (.cells #[.slice kp K kc, .slice xp X xc, .int .i64 O, .int .i64 L] 44)) := by
            intro v4 w4 hb4 hg4
            rw [hT3] at hb4
            have go4 := Gr.own own0 hg4 z0'
            have hX4 := go4.2 _ _ (go0.2 _ _ HX3.out (fun _ _ e => by cases e)) (fun _ _ e => by cases e)
            exact ⟨(four_of hX4).2.2, put_only w w4 _ v4 T3 wr.heap.size _ _ _ _ L T4 hT4 hb4.bs ((HG3.out.trans go0).trans go4) hX4 (by omega) (Nat.le_trans (by omega) (go0.trans go4).1.size)⟩
          have r1 : w3.drew.cell? ⟨wr.heap.size, 2, none⟩ = some (.int .i64 O) ∧ w3.drew.cell? ⟨wr.heap.size, 3, none⟩ = some (.int .i64 L) := ⟨t2, t3⟩
          have r2 : (w3.drew.alloc (.cells #[.int .u8 1] 5)).cell? ⟨wr.heap.size, 2, none⟩ = some (.int .i64 O) ∧ (w3.drew.alloc (.cells #[.int .u8 1] 5)).cell? ⟨wr.heap.size, 3, none⟩ = some (.int .i64 L) := ⟨cell_past (bel1 w3.drew _) r1.1, cell_past (bel1 w3.drew _) r1.2⟩
          have fin : ∀ w5 p5 c5, Bts w5 w.heap.size (.slice p5 T4.length c5) T4 → Gr w.heap.size (w.alloc (Obj.cells #[.bool true, .slice (some ⟨g0, o0, none⟩) N cc, .slice pk M ck, .slice pi P ci] 26)) w5 → w5.heap[wr.heap.size]? = some (.cells #[.slice kp K kc, .slice xp X xc, .int .i64 O, .int .i64 L] 44) →
              Calls Try.prog 77 #[.slice p5 T4.length c5, .int .i64 O] w5 fun e w2 => ∃ p2 c2', e = .returned (.slice p2 T5.length c2') ∧
              (w2.cell? ⟨wr.heap.size, 0, none⟩ = some (.slice kp K kc) ∧ w2.cell? ⟨wr.heap.size, 1, none⟩ = some (.slice xp X xc) ∧ w2.cell? ⟨wr.heap.size, 2, none⟩ = some (.int .i64 O) ∧ w2.cell? ⟨wr.heap.size, 3, none⟩ = some (.int .i64 L)) ∧
              Hid (Bts w2 w.heap.size (.slice p2 T5.length c2') T5) ∧ Hid (Gr w.heap.size (w.alloc (Obj.cells #[.bool true, .slice (some ⟨g0, o0, none⟩) N cc, .slice pk M ck, .slice pi P ci] 26)) w2) ∧ Hid (w2.heap[wr.heap.size]? = some (.cells #[.slice kp K kc, .slice xp X xc, .int .i64 O, .int .i64 L] 44)) :=
            fun w5 p5 c5 hb5 hG5 hX5 => put_only w w5 _ _ T4 wr.heap.size _ _ _ _ O T5 hT5 hb5.bs hG5 hX5 (by omega) hG5.at_node.size
          have HO0 := Lib.hid own0
          have HS0 := Lib.hid src0
          have HLL := Lib.hid (And.intro l0 z0')
          clear own0 src0 go0 l0 z0' hl2 hn2 hT3 hT4 hT5 el3 el4 el5 d1 hO
          generalize T4.length = L4 at *
          generalize T5.length = L5 at *
          generalize hL2 : T2.length = L2 at *
          have tk : True := trivial
          go_wp2
          go_region_held3 (fun u => u.cell? ⟨wr.heap.size, 2, none⟩ = some (.int .i64 O) ∧ u.cell? ⟨wr.heap.size, 3, none⟩ = some (.int .i64 L)) (first | exact r1 | exact r2 | exact r4 | exact ⟨u2, u3⟩ | exact ⟨o2', o3'⟩)
            (first
              | (refine step_app (by rfl) _ _ (by rfl) w.heap.size _ _ T2 [1] (by rfl) (by rfl) HO0.out HS0.out (by rw [hL2]; exact HLL.out.1) HLL.out.2 ?_; intro v4 w4 hb4 hg4; obtain ⟨r4, d2⟩ := nxt v4 w4 hb4 hg4; clear hb4 hg4)
              | (go_at_call 77; clear tk; refine d2.mono ?_; rintro e w5 ⟨p5, c5, rfl, ⟨u0, u1, u2, u3⟩, HB5, HG5, HX5⟩; have d4 := fin w5 p5 c5 HB5.out HG5.out HX5.out)
              | (go_at_call 77; refine d4.mono ?_; rintro e w6 ⟨p6, c6, rfl, ⟨o0', o1', o2', o3'⟩, HB6, HG6, HX6⟩))
          go_wp2
          go_roundg g
          case measure => omega
          case rel => exact ⟨i + 1, _, by omega, rfl, by first | rfl | go_num, by show Bts _ _ _ _; rw [hn5.out]; exact HB6.out, HG6⟩
end Go.Proofs.Ytbkpgppaahpalaa
