/-
  A form's parts put behind bytes of one's own: putNumber, putBytes, putCell of package node.
-/
import Derived.Test.YtbkpgppaahpalaaSze
namespace Go.Proofs.Ytbkpgppaahpalaa
open Go.RowKit
set_option linter.unusedVariables false      -- a walk need not use every condition

/-- Below base nothing has turned, and from there on nothing but rows of bytes. -/
def Gr (base : Nat) (w w' : World) : Prop := Below base w w' ∧ ∀ (k : Nat) (o : Obj), w.heap[k]? = some o → (∀ c f, o ≠ .cells c 5 f) → w'.heap[k]? = some o
theorem Gr.trans {base : Nat} {a b c : World} (h : Gr base a b) (k : Gr base b c) : Gr base a c := ⟨h.1.trans k.1, fun i o e hn => k.2 i o (h.2 i o e hn) hn⟩
theorem Gr.bel {base : Nat} {w w' : World} (h : Below w.heap.size w w') (hb : base ≤ w.heap.size) : Gr base w w' := ⟨h.mono hb, fun k o e _ => blk_on h e⟩
theorem Gr.own {base : Nat} {w w' : World} {v : Value} {t : List UInt8} (h : Bts w base v t) (hg : w.grownBy w' v.ownBlock) (hb : base ≤ w.heap.size) : Gr base w w' := by
  refine ⟨h.below hg hb, fun k o e hn => ?_⟩
  refine (hg.block k (Array.getElem?_eq_some_iff.1 e).1 fun e' => ?_).trans e
  rcases h.2 with ⟨rfl, h0⟩ | ⟨g, cap, cur, rfl, hbg, hgb, -⟩
  · cases e'
  · have : g = k := by injection e'.symm
    subst this
    rw [hgb] at e
    injection e with e
    exact hn _ _ e.symm
theorem bts_one (w : World) (base : Nat) (hb : base ≤ w.heap.size) (c : UInt8) {x : Int} (hx : x = c.toNat) : Bts (w.alloc (.cells #[.int .u8 x] 5)) base (.slice (some ⟨w.heap.size, 0, none⟩) 1 1) [c] := by
  subst hx
  exact ⟨rfl, .inr ⟨w.heap.size, 1, #[.int .u8 c.toNat], rfl, hb, World.alloc_heap_new w _, Nat.le_refl _, by decide, rfl, rfl⟩⟩
set_option maxHeartbeats 1000000 in
theorem putNumber74 (w0 w : World) (hb : Below w0.heap.size w0 w) (v : Value) (t : List UInt8) (h : Bts w w0.heap.size v t) (x : Int) (ht : t.length ≤ 140737488355000) :
    Calls Try.prog 74 #[v, .int .i64 x] w fun e w' => ∃ v', e = .returned v' ∧ Bts w' w0.heap.size v' (t ++ nI x) ∧ Gr w0.heap.size w w' := by
  have c := put83 (x % 18446744073709551616).toNat (by omega) w
  have hl := nI_le x
  have hw := u64_of x
  unfold nI at *
  have HB := Lib.hid h
  have hz := hb.size
  obtain ⟨p, cap, rfl, -⟩ := h.bs
  clear h
  generalize (x % 18446744073709551616).toNat = m at *
  generalize vnt m = E at *
  go_enter Try.func74, Try.ntmps74
  go_wp2_with (first
    | (go_at_call 83; refine c.mono ?_; rintro e w1 ⟨v1, rfl, hb1, hB1⟩; have HB1 := Lib.hid hb1; clear hb1)
    | (at_builtin; refine wpList_app rfl _ _ rfl w0.heap.size _ _ t E rfl rfl (HB.out.on hB1) HB1.out.bs (by omega) (Nat.le_trans hz hB1.size) ?_; intro v2 w2 hb2 hg2))
  go_ret
  exact ⟨_, rfl, hb2, (Gr.bel hB1 hz).trans (Gr.own (HB.out.on hB1) hg2 (Nat.le_trans hz hB1.size))⟩
set_option maxHeartbeats 1000000 in
theorem putBytes76 (w0 w : World) (hb : Below w0.heap.size w0 w) (v x : Value) (t u : List UInt8) (h : Bts w w0.heap.size v t) (hx : Bs w0 x u) (ht : t.length + u.length + 10 ≤ 140737488355000) :
    Calls Try.prog 76 #[v, x] w fun e w' => ∃ v', e = .returned v' ∧ Bts w' w0.heap.size v' (t ++ keyF u) ∧ Gr w0.heap.size w w' := by
  have c := putNumber74 w0 w hb v t h u.length (by omega)
  have hl := vnt_le u.length
  rw [nI_nat (by omega)] at c
  have hz := hb.size
  have HX := Lib.hid hx
  obtain ⟨p, cap, rfl, -⟩ := h.bs
  obtain ⟨q, cap', rfl, -⟩ := hx
  have hK : Hid (t ++ vnt u.length ++ u = t ++ keyF u) := by show _ = _; unfold keyF; rw [List.append_assoc]
  generalize t ++ keyF u = Z at *
  generalize vnt u.length = E at *
  generalize hU : u.length = U at *
  have HU := Lib.hid hU
  clear hU
  go_enter Try.func76, Try.ntmps76
  go_wp2_with (first
    | (go_at_call 74; refine c.mono ?_; rintro e w1 ⟨v1, rfl, hb1, hB1⟩; have HB1 := Lib.hid hb1; clear hb1)
    | (at_builtin; refine wpList_app rfl _ _ rfl w0.heap.size _ _ (t ++ E) u rfl rfl HB1.out (HX.out.on (hb.trans hB1.1)) (by have := HU.out; simp; omega) (Nat.le_trans hz hB1.1.size) ?_; intro v2 w2 hb2 hg2))
  go_ret
  exact ⟨_, rfl, by rw [← hK.out]; exact hb2, hB1.trans (Gr.own HB1.out hg2 (Nat.le_trans hz hB1.1.size))⟩
theorem gr_cell {base : Nat} {w w' : World} {g : Nat} {a b c d : Value} (h : Gr base w w') (e : w.heap[g]? = some (.cells #[a, b, c, d] 44)) : w'.heap[g]? = some (.cells #[a, b, c, d] 44) :=
  h.2 g _ e (fun c f he => by injection he with _ he; exact absurd he (by decide))
set_option maxHeartbeats 4000000 in
set_option maxRecDepth 100000 in
theorem putCell75 (w0 w : World) (hb : Below w0.heap.size w0 w) (v x : Value) (t : List UInt8) (c : C) (h : Bts w w0.heap.size v t) (hx : CeS w0 x c) (ht : t.length + (cellF c).length + 100 ≤ 140737488355000) :
    Calls Try.prog 75 #[v, x] w fun e w' => ∃ v', e = .returned v' ∧ Bts w' w0.heap.size v' (t ++ cellF c) ∧ Gr w0.heap.size w w' := by
  obtain ⟨k, y, rfl, hk, hy, ho, hl⟩ := hx
  have hz := hb.size
  unfold cellF valF at *
  have lk : t.length + c.key.length + 50 ≤ 140737488355000 := by simp [keyF] at ht; omega
  have hkf : (keyF c.key).length ≤ c.key.length + 10 := by have := vnt_le c.key.length; simp [keyF]; omega
  have c76 := fun (o : Obj) => putBytes76 w0 (w.alloc o) (hb.alloc hz o) v k t c.key (h.on (bel1 w o)) hk (by omega)
  obtain ⟨kp, kc, rfl, -⟩ := hk
  obtain ⟨tp, tc, rfl, -⟩ := h.bs
  by_cases h0 : c.over = 0
  · rw [if_pos h0] at ht ⊢
    have hK : Hid (t ++ keyF c.key ++ [0] ++ keyF c.val = t ++ (keyF c.key ++ 0 :: keyF c.val)) := by show _ = _; simp
    have hL : Hid ((t ++ keyF c.key).length + c.val.length + 50 ≤ 140737488355000) := by simp [keyF] at ht; simp [keyF]; show _ ≤ _; omega
    have HY := Lib.hid hy
    obtain ⟨q, cap', rfl, -⟩ := hy
    generalize t ++ (keyF c.key ++ 0 :: keyF c.val) = Z at *
    generalize t ++ keyF c.key = T at *
    clear hkf lk
    go_enter Try.func75, Try.ntmps75
    go_wp2_with (go_at_call 76; refine (c76 _).mono ?_; rintro e w1 ⟨v1, rfl, hb1, hG1⟩; have hblk := gr_cell hG1 (World.alloc_heap_new w _); have HBL := Lib.hid hblk; obtain ⟨q0, q1, q2, q3⟩ := four_of hblk; clear hblk)
    have HG1 : Hid (Gr w0.heap.size w w1) := (Gr.bel (bel1 w _) hz).trans hG1
    have HB1 := Lib.hid hb1
    obtain ⟨yp, yc, rfl, -⟩ := hb1.bs
    have hz1 : w0.heap.size ≤ w1.heap.size := Nat.le_trans hz HG1.out.1.size
    clear hG1 hb1 c76
    obtain ⟨v3, w3, hap, hR3, hg3⟩ := app_run (w1.drew.alloc (.cells #[.int .u8 0] 5)) w0.heap.size _ (.slice (some ⟨w1.heap.size, 0, none⟩) 1 1) T [0] ((HB1.out.on (Below.refl _ w1).drew).on (bel1 w1.drew _)) (bs_one w1.drew 0 rfl) (by have := hL.out; simp; omega) (by simp; omega) 27
    have hG13 : Gr w0.heap.size w1 w3 := (Gr.bel (w := w1) (w' := w1.drew.alloc (.cells #[.int .u8 0] 5)) ((Below.refl _ w1).drew.alloc (Nat.le_refl _) _) hz1).trans (Gr.own ((HB1.out.on (Below.refl _ w1).drew).on (bel1 w1.drew _)) hg3 (by simp; omega))
    have hG3 : Gr w0.heap.size w w3 := HG1.out.trans hG13
    have r1 : w1.drew.cell? ⟨w.heap.size, 1, none⟩ = some (.slice q c.val.length cap') := q1
    have r2 : (w1.drew.alloc (.cells #[.int .u8 0] 5)).cell? ⟨w.heap.size, 1, none⟩ = some (.slice q c.val.length cap') := cell_past (bel1 w1.drew _) r1
    have r3 := (four_of (gr_cell hG13 HBL.out)).2.1
    have c3 := putBytes76 w0 w3 (hb.trans hG3.1) v3 _ _ c.val hR3 HY.out (by have := hL.out; simp; omega)
    have HG3 := Lib.hid hG3
    rw [hK.out] at c3
    clear hR3 hg3 hG13 hG3
    have hlt : w.heap.size < w1.heap.size := World.block_lt_of_cell? w1 ⟨w.heap.size, 2, none⟩ q2
    simp [go_sem] at hap
    go_region_with (go_at_call 76; refine c3.mono ?_; rintro e w4 ⟨v4, rfl, hb4, hG4⟩)
    all_goals
      clear hap
      go_wp2
      go_ret
      exact ⟨_, rfl, hb4, HG3.out.trans hG4⟩
  · rw [if_neg h0] at ht ⊢
    have hK : Hid (t ++ keyF c.key ++ [1] ++ nI c.len ++ nI c.over = t ++ (keyF c.key ++ 1 :: (nI c.len ++ nI c.over))) := by show _ = _; simp
    have hL : Hid ((t ++ keyF c.key).length + 50 ≤ 140737488355000) := by show _ ≤ _; rw [List.length_append]; rw [List.length_append] at ht; omega
    obtain ⟨q, cap', rfl, -⟩ := hy
    generalize t ++ (keyF c.key ++ 1 :: (nI c.len ++ nI c.over)) = Z at *
    generalize t ++ keyF c.key = T at *
    have hn1 := nI_le c.len
    clear hkf lk ht
    go_enter Try.func75, Try.ntmps75
    go_wp2_with (go_at_call 76; refine (c76 _).mono ?_; rintro e w1 ⟨v1, rfl, hb1, hG1⟩; have hblk := gr_cell hG1 (World.alloc_heap_new w _); have HBL := Lib.hid hblk; obtain ⟨q0, q1, q2, q3⟩ := four_of hblk; clear hblk)
    have HG1 : Hid (Gr w0.heap.size w w1) := (Gr.bel (bel1 w _) hz).trans hG1
    have HB1 := Lib.hid hb1
    obtain ⟨yp, yc, rfl, -⟩ := hb1.bs
    have hz1 : w0.heap.size ≤ w1.heap.size := Nat.le_trans hz HG1.out.1.size
    clear hG1 hb1 c76
    obtain ⟨v3, w3, hap, hR3, hg3⟩ := app_run (w1.drew.alloc (.cells #[.int .u8 1] 5)) w0.heap.size _ (.slice (some ⟨w1.heap.size, 0, none⟩) 1 1) T [1] ((HB1.out.on (Below.refl _ w1).drew).on (bel1 w1.drew _)) (bs_one w1.drew 1 rfl) (by have := hL.out; simp; omega) (by simp; omega) 27
    have hG13 : Gr w0.heap.size w1 w3 := (Gr.bel (w := w1) (w' := w1.drew.alloc (.cells #[.int .u8 1] 5)) ((Below.refl _ w1).drew.alloc (Nat.le_refl _) _) hz1).trans (Gr.own ((HB1.out.on (Below.refl _ w1).drew).on (bel1 w1.drew _)) hg3 (by simp; omega))
    have hG3 : Gr w0.heap.size w w3 := HG1.out.trans hG13
    have r1 : w1.drew.cell? ⟨w.heap.size, 2, none⟩ = some (.int .i64 c.over) := q2
    have r2 : (w1.drew.alloc (.cells #[.int .u8 1] 5)).cell? ⟨w.heap.size, 2, none⟩ = some (.int .i64 c.over) := cell_past (bel1 w1.drew _) r1
    have s1 : w1.drew.cell? ⟨w.heap.size, 3, none⟩ = some (.int .i64 c.len) := q3
    have s2 : (w1.drew.alloc (.cells #[.int .u8 1] 5)).cell? ⟨w.heap.size, 3, none⟩ = some (.int .i64 c.len) := cell_past (bel1 w1.drew _) s1
    obtain ⟨-, -, r3, s3⟩ := four_of (gr_cell hG13 HBL.out)
    have HBL3 := Lib.hid (gr_cell hG13 HBL.out)
    have c3 := putNumber74 w0 w3 (hb.trans hG3.1) v3 _ hR3 c.len (by have := hL.out; simp; omega)
    have c4 := fun (u : World) (x : Value) (hG : Gr w0.heap.size w3 u) (hB : Bts u w0.heap.size x (T ++ [1] ++ nI c.len)) => putNumber74 w0 u ((hb.trans hG3.1).trans hG.1) x _ hB c.over (by have := hL.out; simp; omega)
    have HG3 := Lib.hid hG3
    rw [hK.out] at c4
    clear hR3 hg3 hG13 hG3
    generalize c.len = xl at *
    generalize c.over = xo at *
    generalize nI xl = Ea at *
    have hlt : w.heap.size < w1.heap.size := World.block_lt_of_cell? w1 ⟨w.heap.size, 2, none⟩ q2
    simp [go_sem] at hap
    have tk : True := trivial
    go_region_with (first
      | (go_at_call 74; clear tk; refine c3.mono ?_; rintro e w4 ⟨v4, rfl, hb4, hG4⟩; have r4 := (four_of (gr_cell hG4 HBL3.out)).2.2.1; have d4 := c4 w4 v4 hG4 hb4)
      | (go_at_call 74; refine d4.mono ?_; rintro e w5 ⟨v5, rfl, hb5, hG5⟩))
    all_goals
      clear hap
      go_wp2
      go_ret
      exact ⟨_, rfl, hb5, (HG3.out.trans hG4).trans hG5⟩
end Go.Proofs.Ytbkpgppaahpalaa
