/-
  What baseOf does with the bytes of a page 0.
-/
import Derived.Test.YtfakgfmgofblgaaGreatDoorZSh
import Derived.Test.YtfakgfmgofblgaaGreatDoorZComRcomSlcRecLa
namespace Go.Proofs.YtfakgfmgofblgaaGreatDoor
open Go.RowKit
set_option linter.unusedVariables false      -- a walk need not use every condition
attribute [local go_sem ↓] Go.wp_at_zero Go.wp_at_succ

theorem or_i64 (x : Int) (c : UInt8) : bits .or .i64 (wrap64 (x * 256)) (c.toNat : Int) = wrap64 (x * 256 + c.toNat) := by
  have e : bits .or .i64 (wrap64 (x * 256)) (c.toNat : Int) = IntKind.i64.wrap ((BitVec.ofInt 64 (wrap64 (x * 256)) ||| BitVec.ofInt 64 (c.toNat : Int)).toNat : Int) := rfl
  have hc := UInt8.toNat_lt c
  have h2 : (BitVec.ofInt 64 (c.toNat : Int)).toNat = c.toNat := ofInt_toNat 64 _ (by omega)
  have h1 : ∃ m : Nat, (BitVec.ofInt 64 (wrap64 (x * 256))).toNat = 2 ^ 8 * m ∧ ((2 ^ 8 * m : Nat) : Int) % 18446744073709551616 = (x * 256) % 18446744073709551616 := by
    refine ⟨((x * 256) % 18446744073709551616).toNat / 256, ?_, ?_⟩
    · rw [BitVec.toNat_ofInt]
      unfold wrap64
      omega
    · omega
  obtain ⟨m, hm1, hm2⟩ := h1
  rw [e, BitVec.toNat_or, hm1, h2, ← Nat.two_pow_add_eq_or_of_lt (by omega : c.toNat < 2 ^ 8), IntKind.wrap_i64]
  unfold wrap64
  omega
/-- The words, the first i of them read, and of the next one k bytes. -/
def wpart (b : Ba) (i : Nat) (x : Int) : List Int := (List.range 4).map fun j => if j < i then b.wd j else if j = i then x else 0
theorem wpart_len (b : Ba) (i : Nat) (x : Int) : (wpart b i x).length = 4 := by simp [wpart]
theorem wpart_wd (b : Ba) (i : Nat) (x : Int) (t : List UInt8) {j : Nat} (hj : j < 4) : (Ba.mk t (wpart b i x)).wd j = if j < i then b.wd j else if j = i then x else 0 := by
  unfold Ba.wd wpart
  simp only
  rw [List.getD_eq_getElem?_getD, List.getElem?_map, List.getElem?_range hj]
  rfl
theorem wpart_get (b : Ba) (i : Nat) (x : Int) (j : Nat) : (wpart b i x)[j]? = if j < 4 then some (if j < i then b.wd j else if j = i then x else 0) else none := by
  unfold wpart
  rw [List.getElem?_map]
  by_cases h : j < 4
  · rw [List.getElem?_range h, if_pos h]; rfl
  · rw [List.getElem?_eq_none (by simp; omega), if_neg h]; rfl
theorem wpart_set (b : Ba) {i : Nat} (hi : i < 4) (x y : Int) : (wpart b i x).set i y = wpart b i y := by
  apply List.ext_getElem?
  intro j
  rw [List.getElem?_set, wpart_get, wpart_get, wpart_len]
  by_cases e : i = j
  · subst e
    rw [if_pos rfl, if_pos hi, if_pos hi, if_neg (by omega), if_pos rfl]
  · rw [if_neg e]
    by_cases h : j < 4
    · rw [if_pos h, if_pos h]
      by_cases h1 : j < i
      · rw [if_pos h1, if_pos h1]
      · rw [if_neg h1, if_neg h1, if_neg (fun e2 => e e2.symm), if_neg (fun e2 => e e2.symm)]
    · rw [if_neg h, if_neg h]
theorem wpart_next (b : Ba) (i : Nat) : wpart b i (b.wd i) = wpart b (i + 1) 0 := by
  unfold wpart
  apply List.map_congr_left
  intro j hj
  by_cases h1 : j < i
  · rw [if_pos h1, if_pos (by omega)]
  · rw [if_neg h1]
    by_cases h2 : j = i
    · subst h2; rw [if_pos rfl, if_pos (by omega)]
    · rw [if_neg h2, if_neg (by omega)]
      by_cases h3 : j = i + 1
      · rw [if_pos h3]
      · rw [if_neg h3]
theorem wpart_all {b : Ba} (h : b.Ok) : wpart b 4 0 = b.ws := by
  apply List.ext_getElem?
  intro j
  rw [wpart_get]
  by_cases hj : j < 4
  · rw [if_pos hj, if_pos hj, List.getElem?_eq_getElem (by rw [h.w]; exact hj)]
    unfold Ba.wd
    rw [List.getD_eq_getElem?_getD, List.getElem?_eq_getElem (by rw [h.w]; exact hj)]
    rfl
  · rw [if_neg hj, List.getElem?_eq_none (by rw [h.w]; omega)]
theorem wpart_zero (b : Ba) : wpart b 0 0 = [0, 0, 0, 0] := by
  have h4 : List.range 4 = [0, 1, 2, 3] := by decide
  unfold wpart
  rw [h4]
  simp
theorem wpart_ok {b : Ba} (h : b.Ok) {t : List UInt8} (ht : t.length = 256) (i : Nat) {x : Int} (hx : I64 x) : (Ba.mk t (wpart b i x)).Ok := by
  refine ⟨ht, wpart_len _ _ _, fun y hy => ?_⟩
  obtain ⟨j, hj, rfl⟩ := List.mem_map.1 hy
  by_cases h1 : j < i
  · rw [if_pos h1]; exact Ba.wd_ok h j
  · rw [if_neg h1]
    by_cases h2 : j = i
    · rw [if_pos h2]; exact hx
    · rw [if_neg h2]; exact ⟨by decide, by decide⟩
theorem wrap64_ok (x : Int) : I64 (wrap64 x) := by unfold I64 wrap64; omega
theorem rdw_ok (l : List UInt8) : I64 (rdw l) := by
  have key : ∀ (l : List UInt8) (a : Int), I64 a → I64 (l.foldl (fun a c => wrap64 (a * 256 + c.toNat)) a) := fun l => by
    induction l with
    | nil => exact fun a h => h
    | cons c r ih => exact fun a _ => ih _ (wrap64_ok _)
  exact key l 0 ⟨by decide, by decide⟩
/-- A word of a base is written. -/
theorem BaAt.setWd {w : World} {g o : Nat} {b : Ba} (h : BaAt w g o b) {i : Nat} (hi : i < 4) {x : Int} (hx : I64 x) : BaAt (w.setCell ⟨g, o + 256 + i, none⟩ (.int .i64 x)) g o { b with ws := b.ws.set i x } := by
  have ok2 : ({ b with ws := b.ws.set i x } : Ba).Ok := Ba.setW_ok h.ok i hx
  have ht := h.th (256 + i) (by omega)
  rw [← Nat.add_assoc] at ht
  refine ⟨fun j v hv => ?_, World.there_setCells h.th g (o + 256 + i) [.int .i64 x], ok2⟩
  unfold Ba.cells wds at hv
  simp only [List.map_set] at hv
  by_cases e : j = 256 + i
  · subst e
    rw [← Nat.add_assoc, World.cell?_setCell_same' _ _ _ ht.1]
    rw [List.getElem?_append_right (by rw [len_enc, h.ok.t]; omega), len_enc, h.ok.t, Nat.add_sub_cancel_left, List.getElem?_set_self (by rw [List.length_map, h.ok.w]; exact hi)] at hv
    exact hv
  · rw [World.cell?_setCell_other _ _ _ _ (fun e2 => e (by injection e2 with _ e2; omega))]
    refine h.rg j v ?_
    rw [← hv]
    unfold Ba.cells wds
    by_cases hj2 : j < 256
    · rw [List.getElem?_append_left (by rw [len_enc, h.ok.t]; exact hj2), List.getElem?_append_left (by rw [len_enc, h.ok.t]; exact hj2)]
    · rw [List.getElem?_append_right (by rw [len_enc, h.ok.t]; omega), List.getElem?_append_right (by rw [len_enc, h.ok.t]; omega), len_enc, h.ok.t, List.getElem?_set_ne (by omega)]
set_option maxHeartbeats 4000000 in
set_option maxRecDepth 20000 in
theorem baseOf106 (w : World) (v : Value) (b : Ba) (pages : Nat) (hf : b.Fit pages) (hp1 : 1 ≤ pages) (hp : pages ≤ 2048) (hv : Bs w v (b.bytes pages)) :
    Calls Tryz.prog 106 #[v, .int .i64 pages] w fun e w' => e = .returned (.tuple #[.agg b.cells.toArray, .bool true]) ∧ Below w.heap.size w w' := by
  have HV := Lib.hid hv
  have HF := Lib.hid hf
  have zv := zv63
  have ok0 := Ba.none_ok
  have hN : Ba.none = Ba.mk (zb 256) (wpart b 0 0) := by rw [wpart_zero]; rfl
  rw [hN] at zv ok0
  have hi := hi63 hf.ok
  have h1 := Ba.one b
  have hlb := Ba.bytes_len hf.ok hp
  have HW : Hid (∀ i, i < 4 → ((b.bytes pages).drop (tlen pages + 8 * i)).take 8 = wb8 (b.wd i)) := fun i hi => Ba.bytes_word hf.ok hp hi
  have HTK := Lib.hid (hf.tk hp)
  obtain ⟨tl, htl⟩ : ∃ tl, tlen pages = tl := ⟨_, rfl⟩
  have ht1 : 1 ≤ tl ∧ tl ≤ 256 := by rw [← htl]; unfold tlen; omega
  have HT8 : Hid (tl * 8 ≤ 2048 ∧ pages ≤ tl * 8) := by show _ ∧ _; rw [← htl]; unfold tlen; omega
  have cT := fun W => takenLen151 W pages hp
  rw [htl] at cT hlb HW HTK
  generalize hBB : b.bytes pages = BB at *
  obtain ⟨p, cap, rfl, hc1, -⟩ := hv
  obtain ⟨LN, hLN⟩ : ∃ LN, BB.length = LN := ⟨_, rfl⟩
  have HLN := Lib.hid hLN
  rw [hLN] at hlb hc1 HV ⊢
  have e1 : IntKind.i64.wrap ((tl : Int) + 32) = (LN : Int) := by rw [IntKind.wrap_i64]; omega
  have HCC := Lib.hid hc1
  have HLL := Lib.hid hlb
  have htz : (tl : Int) ≤ (cap : Int) := by omega
  have htz0 : (0 : Int) ≤ (tl : Int) := by omega
  clear hf hLN hBB hN hlb
  go_enter Tryz.func106, Tryz.ntmps106
  go_wp2_with (first
    | (with_reducible show wpList _ _ _ (Oper.mk (some 4) (Op.alloc 63) _ _ _ _ :: _) _ _
       refine wpList_allocZ 63 _ zv rfl rfl ?_; intro w1 B1 s1 L1)
    | (go_at_call 151; refine (cT _).mono ?_; rintro e w' ⟨rfl, ew⟩; rw [ew]; clear ew w')
    | (with_reducible show wpList _ _ _ (Oper.mk (some 6) (Op.alloc 63) _ _ _ _ :: _) _ _
       refine wpList_allocZ 63 _ zv rfl rfl ?_; intro w2 B2 s2 L2))
  have bd2 : Below w.heap.size w w2.drew := (bel_then B1 B2).drew
  have hLL := HLL.out
  have hV2 := HV.out.on bd2
  rw [← HLN.out] at hV2
  have hTl : (BB.take tl).length = tl := by rw [List.length_take, HLN.out, hLL]; omega
  obtain ⟨W3, hcp, L3, g3, z3⟩ := copy_lie (w := w2.drew) (n := 256) (L2.blk rfl) (hV2.take (n := tl) (by rw [HLN.out, hLL]; omega)) (by rw [hTl]; exact ht1.2) (by rw [Ba.len ok0]; decide)
  rw [hTl] at hcp L3
  have hs1 := s1.out
  have hs2 := s2.out
  have bd3 : Below w.heap.size w W3 := bd2.grown g3 bd2.size (fun k e => by injection e with e; omega)
  have B3 : Hid (Below w1.heap.size w1 W3) := (B2.drew).grown g3 (by show w1.heap.size ≤ w2.heap.size; omega) (fun k e => by injection e with e; omega)
  have hV3 := HV.out.on bd3
  rw [← HLN.out] at hV3
  obtain ⟨q, c, hsl, hsb⟩ := run_bdrop hV3 (k := tl) (by rw [HLN.out, hLL]; omega)
  rw [HLN.out] at hsl hsb
  have A3 : BaAt W3 w1.heap.size 0 ⟨b.tk, wpart b 0 0⟩ := by
    refine Lie.ba ?_ (wpart_ok HF.out.ok HF.out.ok.t 0 ⟨by decide, by decide⟩)
    have e : enc (BB.take tl) ++ (Ba.mk (zb 256) (wpart b 0 0)).cells.drop tl = (Ba.mk b.tk (wpart b 0 0)).cells := by
      unfold Ba.cells
      simp only
      rw [List.drop_append_of_le_length (by rw [len_enc, zb_len]; exact ht1.2), ← List.append_assoc]
      congr 1
      rw [← HTK.out, enc_app]
      congr 1
      unfold enc zb
      rw [List.map_replicate, List.map_replicate, List.drop_replicate]
    rw [e] at L3
    exact L3
  have HA3 := Lib.hid A3
  have HSB : Hid (∀ W, Below w.heap.size w W → Bs W (.slice q (LN - tl) c) (BB.drop tl)) := fun W hW => hsb W (HV.out.on hW)
  have HL1 := Lib.hid L1
  have HB1 := Lib.hid B1
  clear L1 L2 L3 g3 z3 A3 hsb bd2 bd3 hV2 hV3 B1 B2 hs1 hs2 hLL hTl
  go_region_with (first | (go_at_call 151; refine (cT _).mono ?_; rintro e w' ⟨rfl, ew⟩; rw [ew]; clear ew w'))
  go_wp2
  have HLW : Hid (LN - tl = 32) := by show _ = _; have := HLL.out; omega
  rw [HLW.out] at HSB ⊢
  go_loopg [28] 4 (fun gk s28 wr => ∃ i : Nat, i + gk = 4 ∧ s28 = .int .i64 i ∧ Hid (BaAt wr w1.heap.size 0 ⟨b.tk, wpart b i 0⟩) ∧ Hid (Below w1.heap.size w1 wr))
  case atStart => exact ⟨0, rfl, rfl, HA3.out, B3.out⟩
  case round =>
    obtain ⟨i, hgi, rfl, hA, hB⟩ := hrel
    obtain ⟨wo, rfl⟩ : ∃ v, v = wr := ⟨_, rfl⟩
    cases gk with
    | zero =>
      obtain rfl : i = 4 := by omega
      have hA4 := hA.out
      rw [wpart_all HF.out.ok] at hA4
      have HA4 := Lib.hid (show BaAt wo w1.heap.size 0 b from hA4)
      have hr := HA4.out.rg
      have hs1 := s1.out
      have hT : wo.there w.heap.size 0 b.cells.length := by
        rw [Ba.len HF.out.ok]
        have := HL1.out.th
        rw [Ba.len ok0] at this
        exact there_same this (hB.out.block _ (by omega))
      have h80 := HT8.out
      clear hA4 hA hs1
      go_wp2
      go_loopg [11] (tl * 8 - pages) (fun gp s11 wq => ∃ x : Nat, x + gp = tl * 8 ∧ pages ≤ x ∧ s11 = .int .i64 x ∧ wq = wo)
      case atStart => exact ⟨pages, by omega, Nat.le_refl _, rfl, rfl⟩
      case round =>
        obtain ⟨x, hx, hxp, rfl, rfl⟩ := hrel
        have e8 : IntKind.i64.wrap ((tl : Int) * 8) = ((tl * 8 : Nat) : Int) := by rw [IntKind.wrap_i64]; omega
        cases gk with
        | zero =>
          obtain rfl : x = tl * 8 := by omega
          have c0 := has111 wr w1.heap.size 0 b HA4.out 0 (by decide)
          rw [HF.out.zero] at c0
          have hlt : ¬ (((tl * 8 : Nat) : Int) < ((tl * 8 : Nat) : Int)) := by omega
          generalize tl * 8 = T8 at *
          go_wp2_with (first
            | (go_at_call 151; refine (cT _).mono ?_; rintro e w' ⟨rfl, ew⟩; rw [ew]; clear ew w')
            | (go_at_call 111; refine c0.mono ?_; rintro e w' ⟨rfl, ew⟩; rw [ew]; clear ew w')
            | (with_reducible show wpList _ _ _ (Oper.mk _ (Op.load 63 (Operand.tmp 6)) _ _ _ _ :: _) _ _
               refine wpList_load_mid rfl 63 _ rfl _ _ rfl _ _ hr Tryz.underlying63 rfl hi ?_)
            | (with_reducible show wpList _ _ _ (Oper.mk _ (Op.store 63 (Operand.tmp 4) _) _ _ _ _ :: _) _ _
               refine wpList_storeZ 63 b.cells hi h1 rfl _ _ rfl w.heap.size 0 rfl rfl hT ?_
               intro w4 g4 L4 t4 r4 z4))
          refine bodyPost_ret (results_cellZ2 Tryz.results106 _ _ w.heap.size b.cells rfl L4.rg Tryz.underlying63 rfl hi) rfl ?_
          have hbb := HB1.out.trans (hB.out.mono HB1.out.size)
          exact ⟨rfl, hbb.grown g4 hbb.size (fun k e => by injection e with e; omega)⟩
        | succ k =>
          have c1 := has111 wr w1.heap.size 0 b HA4.out x (by omega)
          rw [HF.out.out x hxp (by omega)] at c1
          have hlt : ((x : Int) < ((tl * 8 : Nat) : Int)) := by omega
          have e9 : IntKind.i64.wrap ((x : Int) + 1) = ((x + 1 : Nat) : Int) := by rw [IntKind.wrap_i64]; omega
          have HX : Hid (x + 1 + k = tl * 8) := by show _ = _; omega
          clear hx
          generalize tl * 8 = T8 at *
          go_wp2_with (first
            | (go_at_call 151; refine (cT _).mono ?_; rintro e w' ⟨rfl, ew⟩; rw [ew]; clear ew w')
            | (go_at_call 111; refine c1.mono ?_; rintro e w' ⟨rfl, ew⟩; rw [ew]; clear ew w'))
          go_roundg k
          case measure => omega
          case rel => exact ⟨x + 1, HX.out, by omega, by first | rfl | simp, rfl⟩
    | succ k =>
      have hi4 : i < 4 := by omega
      have hiz : (i : Int) < 4 := by omega
      have hi0 : (0 : Int) ≤ (i : Int) := by omega
      obtain ⟨k1, hk1⟩ : ∃ k1, 8 * i = k1 := ⟨_, rfl⟩
      obtain ⟨k2, hk2⟩ : ∃ k2, 8 * i + 8 = k2 := ⟨_, rfl⟩
      have e1 : IntKind.i64.wrap ((i : Int) * 8) = (k1 : Int) := by rw [IntKind.wrap_i64]; omega
      have e2 : IntKind.i64.wrap ((i : Int) + 1) = (i : Int) + 1 := by rw [IntKind.wrap_i64]; omega
      have e3 : IntKind.i64.wrap (((i : Int) + 1) * 8) = (k2 : Int) := by rw [IntKind.wrap_i64]; omega
      have hbo : Below w.heap.size w wo := HB1.out.trans (hB.out.mono HB1.out.size)
      have hVo := HSB.out wo hbo
      have hdl : (BB.drop tl).length = 32 := by rw [List.length_drop, HLN.out]; exact HLW.out
      have hVo2 := hVo
      rw [← hdl] at hVo2
      obtain ⟨q2, c2, hsl2, hsb2⟩ := run_bmid hVo2 (k := k1) (m := k2) (by omega) (by rw [hdl]; omega)
      rw [hdl] at hsl2 hsb2
      have hVw : ∀ W, Bs W (.slice q 32 c) (BB.drop tl) → Bs W (.slice q2 8 c2) (wb8 (b.wd i)) := fun W hW => by
        have := hsb2 W hW
        rw [List.drop_drop, show k2 - k1 = 8 by omega, ← hk1, HW.out i hi4] at this
        exact this
      rw [show k2 - k1 = 8 by omega] at hsl2
      have HN := Lib.hid (rdw_wb8 (Ba.wd_ok HF.out.ok i))
      have HNX := Lib.hid (wpart_next b i)
      generalize b.wd i = n at *
      obtain ⟨gq, oq, cq, ev, -, -, -⟩ := (hVw wo hVo).cells (by intro e; have := wb8_len n; rw [e] at this; cases this)
      rw [wb8_len] at ev
      injection ev with ev1 ev2 ev3
      subst ev1 ev3
      have HVC : Hid (∀ W, Below w.heap.size w W → ∀ j, j < 8 → W.cell? ⟨gq, oq + j, none⟩ = some (.int .u8 ((wb8 n).getD j 0).toNat)) := fun W hW j hj => by
        obtain ⟨g', o', c', ev, -, -, hcell⟩ := (hVw W (HSB.out W hW)).cells (by intro e; have := wb8_len n; rw [e] at this; cases this)
        injection ev with ev1 _ _
        injection ev1 with ev1
        injection ev1 with ev1 ev2
        subst ev1 ev2
        have := hcell j (by rw [wb8_len]; exact hj)
        rw [this, List.getD_eq_getElem?_getD, List.getElem?_eq_getElem (by rw [wb8_len]; exact hj)]
        rfl
      clear hVo hVo2 hsb2 hVw hbo hdl hk1 hk2 ev2
      go_wp2
      go_loopg [39] 8 (fun gj s39 wq => ∃ j : Nat, j + gj = 8 ∧ s39 = .int .i64 j ∧ Hid (BaAt wq w1.heap.size 0 ⟨b.tk, wpart b i (rdw ((wb8 n).take j))⟩) ∧ Hid (Below w1.heap.size w1 wq))
      case atStart => exact ⟨0, rfl, rfl, hA.out, hB.out⟩
      case round =>
        obtain ⟨j, hgj, rfl, hAj, hBj⟩ := hrel
        cases gk with
        | zero =>
          obtain rfl : j = 8 := by omega
          have hA8 := hAj.out
          rw [List.take_of_length_le (by rw [wb8_len]; exact Nat.le_refl _), HN.out, HNX.out] at hA8
          have HA8 := Lib.hid hA8
          clear hA8 hAj
          go_wp2
          go_roundg k
          case measure => omega
          case rel => exact ⟨i + 1, by omega, by first | rfl | simp, HA8.out, hBj.out⟩
        | succ m =>
          have hj8 : j < 8 := by omega
          have hjz : (j : Int) < 8 := by omega
          have hj0 : (0 : Int) ≤ (j : Int) := by omega
          have hbj : Below w.heap.size w wr := HB1.out.trans (hBj.out.mono HB1.out.size)
          have hcl := HVC.out wr hbj j hj8
          have hwc := hAj.out.word hi4
          rw [wpart_wd b i _ _ hi4, if_neg (by omega), if_pos rfl] at hwc
          have hst := hAj.out.setWd hi4 (rdw_ok ((wb8 n).take (j + 1)))
          simp only at hst
          rw [wpart_set b hi4] at hst
          have hfz := (hAj.out.th (256 + i) (by omega)).2
          rw [← Nat.add_assoc, Nat.zero_add] at hfz
          rw [Nat.zero_add] at hwc hst
          have hsn : (wb8 n).take (j + 1) = (wb8 n).take j ++ [(wb8 n).getD j 0] := by
            rw [List.take_add_one, List.getElem?_eq_getElem (by rw [wb8_len]; exact hj8), List.getD_eq_getElem?_getD, List.getElem?_eq_getElem (by rw [wb8_len]; exact hj8)]
            rfl
          have hor := or_i64 (rdw ((wb8 n).take j)) ((wb8 n).getD j 0)
          rw [← rdw_snoc, ← hsn] at hor
          have HST := Lib.hid hst
          clear hst hsn hbj
          generalize rdw ((wb8 n).take j) = x at *
          obtain ⟨y, hy⟩ : ∃ y, rdw ((wb8 n).take (j + 1)) = y := ⟨_, rfl⟩
          rw [hy] at hor HST
          have HY := Lib.hid hy
          have HOR := Lib.hid hor
          clear hy hor
          generalize (wb8 n).getD j 0 = ch at *
          go_wp2
          go_roundg m
          case measure => omega
          case rel =>
            refine ⟨j + 1, by omega, by first | rfl | simp, ?_, ?_⟩
            · rw [HY.out]
              have hw : wrap64 (ch.toNat : Int) = (ch.toNat : Int) := by have := UInt8.toNat_lt ch; unfold wrap64; omega
              rw [hw, HOR.out]
              exact HST.out
            · exact hBj.out.grown (gr_set _ _ _ _) hBj.out.size (fun r e => by injection e with e; omega)
end Go.Proofs.YtfakgfmgofblgaaGreatDoor
