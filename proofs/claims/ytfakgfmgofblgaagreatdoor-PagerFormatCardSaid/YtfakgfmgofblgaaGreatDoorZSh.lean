/-
  What sheetOf, and bytes of a sheet, do.
-/
import Derived.Test.YtfakgfmgofblgaaGreatDoorZAgg
namespace Go.Proofs.YtfakgfmgofblgaaGreatDoor
open Go.RowKit
set_option linter.unusedVariables false      -- a walk need not use every condition
attribute [local go_sem ↓] Go.wp_at_zero Go.wp_at_succ

theorem range_app {w : World} {g o : Nat} {a b : List Value} (h1 : w.rangeAt g o a) (h2 : w.rangeAt g (o + a.length) b) : w.rangeAt g o (a ++ b) := fun j v hv => by
  by_cases hj : j < a.length
  · rw [List.getElem?_append_left hj] at hv
    exact h1 j v hv
  · rw [List.getElem?_append_right (by omega)] at hv
    have := h2 (j - a.length) v hv
    rwa [show o + a.length + (j - a.length) = o + j by omega] at this
theorem range_left {w : World} {g o : Nat} {a b : List Value} (h : w.rangeAt g o (a ++ b)) : w.rangeAt g o a := fun j v hv => h j v (by rw [List.getElem?_append_left (List.getElem?_eq_some_iff.1 hv).1]; exact hv)
theorem range_right {w : World} {g o : Nat} {a b : List Value} (h : w.rangeAt g o (a ++ b)) : w.rangeAt g (o + a.length) b := fun j v hv => by
  have := h (a.length + j) v (by rw [List.getElem?_append_right (by omega), Nat.add_sub_cancel_left]; exact hv)
  rwa [← Nat.add_assoc] at this
theorem rng_drop {w : World} {g o n : Nat} {a : List Value} (h : w.rangeAt g o a) (hn : n ≤ a.length) : w.rangeAt g (o + n) (a.drop n) := fun j v hv => by
  have := h (n + j) v (by rw [List.getElem?_drop] at hv; exact hv)
  rwa [← Nat.add_assoc] at this
/-- Bytes are copied to the head of cells that may be written. -/
theorem copy_lie {w : World} {g : Nat} {cs : List Value} {v : Value} {b : List UInt8} {n : Nat} (hL : Lie w g 0 cs) (hv : Bs w v b) (hb : b.length ≤ n) (hn : n ≤ cs.length) :
    ∃ W, (∀ ty, (Builtin.copy_ #[29, 29] ty #[.slice (some ⟨g, 0, none⟩) n n, v]).run Tryz.prog w = .ok (.int .i64 b.length) W) ∧ Lie W g 0 (enc b ++ cs.drop b.length) ∧ w.grownBy W (some g) ∧ W.heap.size = w.heap.size := by
  obtain ⟨p, cap, rfl, h1, h2, h3, h4⟩ := hv
  have hm : Nat.min b.length n = b.length := Nat.min_eq_left hb
  by_cases h0 : b = []
  · subst h0
    refine ⟨w, fun ty => ?_, by simpa [enc] using hL, ⟨rfl, rfl, rfl, Nat.le_refl _, fun _ _ _ => rfl⟩, rfl⟩
    exact run_copy_none w 29 29 ty 5 _ _ _ _ _ _ Tryz.underlying29 size5 hm
  · obtain ⟨g', o', rfl, hc⟩ := h4.resolve_left h0
    have hlt : b.length ≤ cs.length := by omega
    refine ⟨w.setCells g 0 (enc b), fun ty => ?_, ⟨range_app ?_ ?_, ?_⟩, gr_sets _ _ _ _, sets_size _ _ _ _⟩
    · have := run_copy_cells (P := Tryz.prog) w 29 29 ty 5 g 0 n n ⟨g', o', none⟩ b.length cap (enc b) Tryz.underlying29 size5 (by rw [len_enc, hm]) (fun j v hv => by rw [Go.WideShapes.add_plain]; exact hc j v hv) (fun j hj => (hL.th j (by rw [len_enc] at hj; omega)).1) (fun j hj => (hL.th j (by rw [len_enc] at hj; omega)).2) (one_enc b)
      rw [len_enc] at this
      exact this
    · refine World.rangeAt_setCells_same w g 0 (enc b) (fun j hj => hL.th j (by rw [len_enc] at hj; omega))
    · rw [len_enc, Nat.zero_add]
      have := rng_drop hL.rg hlt
      rw [Nat.zero_add] at this
      exact World.rangeAt_setCells_apart this g 0 (enc b) (.inr (by rw [len_enc]; omega))
    · have := World.there_setCells hL.th g 0 (enc b)
      rwa [show (enc b ++ cs.drop b.length).length = cs.length by rw [List.length_append, len_enc, List.length_drop]; omega]
theorem shc_drop (b : List UInt8) (h : b.length ≤ 448) : (shc []).drop b.length = enc (zb (448 - b.length)) ++ [.int .i64 0] := by
  have hz : shc [] = enc (zb 448) ++ [.int .i64 0] := rfl
  rw [hz, List.drop_append_of_le_length (by rw [len_enc, zb_len]; exact h)]
  congr 1
  unfold enc zb
  rw [List.map_replicate, List.map_replicate, List.drop_replicate]
/-- A cell in the midst is written. -/
theorem Lie.set {w : World} {g o i : Nat} {a b : List Value} {x y : Value} (h : Lie w g o (a ++ x :: b)) (hi : i = a.length) : Lie (w.setCell ⟨g, o + i, none⟩ y) g o (a ++ y :: b) := by
  subst hi
  have ht := h.th a.length (by simp)
  refine ⟨fun j v hv => ?_, ?_⟩
  · by_cases e : j = a.length
    · subst e
      rw [World.cell?_setCell_same' _ _ _ ht.1]
      rw [List.getElem?_append_right (Nat.le_refl _), Nat.sub_self] at hv
      simpa using hv
    · rw [World.cell?_setCell_other _ _ _ _ (fun e2 => e (by injection e2 with _ e2; omega))]
      refine h.rg j v ?_
      rw [← hv]
      by_cases hj : j < a.length
      · rw [List.getElem?_append_left hj, List.getElem?_append_left hj]
      · rw [List.getElem?_append_right (by omega), List.getElem?_append_right (by omega), show j - a.length = (j - a.length - 1) + 1 by omega, List.getElem?_cons_succ, List.getElem?_cons_succ]
  · have := World.there_setCells h.th g (o + a.length) [y]
    rw [show (a ++ y :: b).length = (a ++ x :: b).length by simp]
    exact this
set_option maxHeartbeats 1600000 in
theorem sheetOf128 (w : World) (v : Value) (b : List UInt8) (hv : Bs w v b) (hb : b.length ≤ 448) : Calls Tryz.prog 128 #[v] w fun e w' => e = .returned (.agg (shc b).toArray) ∧ Below w.heap.size w w' := by
  have HV := Lib.hid hv
  have zv := zv165
  have hl0 := shc_len (b := []) (by decide)
  have HD := Lib.hid (shc_drop b hb)
  have hi := hi165 hb
  have HL := Lib.hid (shc_len hb)
  have HS : Hid (shc b = enc (b ++ zb (448 - b.length)) ++ [.int .i64 b.length]) := rfl
  have h1 := shc_one b
  obtain ⟨p, cap, rfl, -⟩ := hv
  generalize shc b = S at *
  generalize shc [] = Z at *
  have hbz : (b.length : Int) ≤ 448 := by omega
  go_enter Tryz.func128, Tryz.ntmps128
  go_wp2_with (first
    | (with_reducible show wpList _ _ _ (Oper.mk (some 2) (Op.alloc 165) _ _ _ _ :: _) _ _
       refine wpList_allocZ 165 _ zv rfl rfl ?_; intro w1 B1 s1 L1)
    | (with_reducible show wpList _ _ _ (Oper.mk (some 3) (Op.alloc 165) _ _ _ _ :: _) _ _
       refine wpList_allocZ 165 _ zv rfl rfl ?_; intro w2 B2 s2 L2
       obtain ⟨W3, hcp, L3, g3, z3⟩ := copy_lie (n := 448) L2 (HV.out.on (bel_then B1 B2)) hb (by rw [hl0]; decide)
       rw [HD.out, ← List.append_assoc, ← enc_app] at L3
       have hS := L3.set (i := 448) (y := .int .i64 b.length) (by rw [len_enc, List.length_append, zb_len]; omega)
       rw [← HS.out, Nat.zero_add] at hS
       have hc := L3.th 448 (by rw [List.length_append, len_enc, List.length_append, zb_len]; simp; omega)
       obtain ⟨x, hx⟩ := Option.isSome_iff_exists.1 hc.1
       rw [Nat.zero_add] at hx hc
       have hfz := hc.2
       have hs1 := s1.out
       have hs2 := s2.out
       have g4 := g3.trans (gr_set W3 w1.heap.size 448 (.int .i64 b.length))
       have T3 : (W3.setCell ⟨w1.heap.size, 448, none⟩ (.int .i64 b.length)).there w.heap.size 0 S.length := by
         rw [HL.out, ← hl0]
         exact there_same (there_same L1.th (B2.block _ (by omega))) (g4.block _ (by omega) (fun e => by injection e with e; omega))
       have HB3 := Lib.hid ((B1.trans (B2.mono B1.size)).grown g4 (by omega) (fun k e => by injection e with e; omega))
       have hr := hS.rg
       clear hc L3 g3 z3 L1 L2 hS g4 hs1 hs2)
    | (with_reducible show wpList _ _ _ (Oper.mk _ (Op.load 165 (Operand.tmp 3)) _ _ _ _ :: _) _ _
       refine wpList_load_mid rfl 165 _ rfl _ _ rfl _ _ hr Tryz.underlying165 rfl hi ?_)
    | (with_reducible show wpList _ _ _ (Oper.mk _ (Op.store 165 (Operand.tmp 2) _) _ _ _ _ :: _) _ _
       refine wpList_storeZ 165 S hi h1 rfl _ _ rfl w.heap.size 0 rfl rfl T3 ?_
       intro w4 g4 L4 t4 r4 z4))
  refine bodyPost_ret (results_cellZ Tryz.results128 _ _ w.heap.size S rfl L4.rg Tryz.underlying165 rfl hi) rfl ?_
  exact ⟨rfl, HB3.out.grown g4 HB3.out.size (fun k e => by injection e with e; omega)⟩
set_option maxHeartbeats 1600000 in
theorem sheetBytes122 (w : World) (b : List UInt8) (hb : b.length ≤ 448) : Calls Tryz.prog 122 #[.agg (shc b).toArray] w fun e w' => ∃ v, e = .returned v ∧ Bts w' w.heap.size v b ∧ Below w.heap.size w w' := by
  have HS : Hid (shc b = enc b ++ (enc (zb (448 - b.length)) ++ [.int .i64 b.length])) := by show _ = _; unfold shc; rw [enc_app, List.append_assoc]
  have HL := Lib.hid (shc_len hb)
  generalize shc b = S at *
  have hbz : (b.length : Int) ≤ 448 := by omega
  have hb0 : (0 : Int) ≤ (b.length : Int) := by omega
  go_enter Tryz.func122, Tryz.ntmps122
  go_wp2_with (first
    | (with_reducible show wpList _ _ _ (Oper.mk (some 1) (Op.box 165 (Operand.tmp 0)) _ _ _ _ :: _) _ _
       refine wpList_boxZ 165 S rfl _ rfl rfl ?_; intro w1 B1 s1 L1
       have hr := L1.rg
       rw [HS.out] at hr
       have hn := range_right (range_right hr) 0 _ rfl
       rw [len_enc, len_enc, zb_len, show 0 + b.length + (448 - b.length) + 0 = 448 by omega] at hn
       have HB : Hid (Bs w1 (.slice (some ⟨w.heap.size, 0, none⟩) b.length 448) b) := ⟨_, 448, rfl, hb, by unfold maxLen; omega, fun e => (by cases e), .inr ⟨_, _, rfl, range_left hr⟩⟩
       have HB1 := Lib.hid B1
       clear hr L1 B1)
    | (go_at_call 62; refine (clone62 w1 _ b HB.out (by omega)).mono ?_; rintro e w2 ⟨v, rfl, hv, hb2⟩))
  go_ret
  exact ⟨v, rfl, hv.mono HB1.out.size, bel_then HB1.out hb2⟩
end Go.Proofs.YtfakgfmgofblgaaGreatDoor
