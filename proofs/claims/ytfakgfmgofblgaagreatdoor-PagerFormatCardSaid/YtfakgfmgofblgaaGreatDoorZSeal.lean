/-
  What Seal of package sector does.
-/
import Derived.Test.YtfakgfmgofblgaaGreatDoorZEqStp
namespace Go.Proofs.YtfakgfmgofblgaaGreatDoor
open Go.RowKit
set_option linter.unusedVariables false      -- a walk need not use every condition
attribute [local go_sem ↓] Go.wp_at_zero Go.wp_at_succ

/-- A frame as it is handed about. -/
def frm (k n : Int) (pv : Value) : Value := .agg #[.int .i64 k, .int .i64 n, pv]
/-- The cells of a frame's box. -/
theorem box_of {w : World} {g : Nat} {a b c : Value} {t : TypeId} (e : w.heap[g]? = some (.cells #[a, b, c] t)) :
    w.cell? ⟨g, 0, none⟩ = some a ∧ w.cell? ⟨g, 1, none⟩ = some b ∧ w.cell? ⟨g, 2, none⟩ = some c := by
  refine ⟨?_, ?_, ?_⟩ <;> simp [World.cell?, e]
theorem okF_no {k n : Int} {pay : List UInt8} (h : okF k n pay = false) : k < 1 ∨ (1 ≤ k ∧ 255 < k) ∨ (1 ≤ k ∧ k ≤ 255 ∧ n < 0) ∨ (1 ≤ k ∧ k ≤ 255 ∧ 0 ≤ n ∧ 112 < pay.length) := by
  simp [okF] at h
  omega
theorem okF_yes {k n : Int} {pay : List UInt8} (h : okF k n pay = true) : 1 ≤ k ∧ k ≤ 255 ∧ 0 ≤ n ∧ pay.length ≤ 112 := by
  simp [okF] at h
  omega
set_option maxHeartbeats 800000 in
set_option maxRecDepth 100000 in
theorem seal_no (w : World) (k n : Int) (pv : Value) (pay : List UInt8) (hp : Bs w pv pay) (ho : okF k n pay = false) :
    Calls Tryz.prog 180 #[frm k n pv] w fun e w' => e = .returned (.tuple #[.agg (encA zer), .int .i64 1]) ∧ Below w.heap.size w w' := by
  have hmax := hp.len
  unfold maxLen at hmax
  obtain ⟨p, cap, rfl, -⟩ := hp
  have HT : Hid ((((w.alloc (.cells #[.int .i64 k, .int .i64 n, .slice p pay.length cap] 190)).alloc (.cells (encA zer) 118))).there (w.heap.size + 1) 0 128) := by
    have := there4 (w.alloc (.cells #[.int .i64 k, .int .i64 n, .slice p pay.length cap] 190))
    rwa [World.size_alloc] at this
  unfold frm
  rcases okF_no ho with h1 | ⟨h1, h2⟩ | ⟨h1, h2, h3⟩ | ⟨h1, h2, h3, h4⟩
  all_goals
    clear ho
    have l1 : Hid True := trivial
    (try have x1 : ¬ k < 1 := by omega)
    (try have x2 : ¬ 255 < k := by omega)
    (try have x3 : ¬ n < 0 := by omega)
    (try have x4 : (112 : Int) < (pay.length : Int) := by omega)
    go_enter Tryz.func180, Tryz.ntmps180
    go_wp2_with (first
      | (show wpList _ _ _ (Oper.mk _ (Op.store 118 (Operand.tmp 2) _) _ _ _ _ :: _) _ _
         (try rw [zc]); refine wpList_store26 rfl _ _ rfl (w.heap.size + 1) 0 zer rfl rfl HT.out len_zer ?_; intro w2 g2 r2 t2 z2))
    refine bodyPost_ret (v := .tuple #[.agg (encA zer), .int .i64 1]) (results_cell_tmp_mid Tryz.results180 _ _ (w.heap.size + 1) zer rfl r2 len_zer) rfl ⟨rfl, ?_⟩
    exact Below.grown ((bel1 w _).alloc (by simp) _) g2 (by simp; omega) (fun k e => by injection e with e; omega)
/-! ### What is written, step by step -/
theorem zer_eq : zer = List.replicate 128 0 := rfl
theorem step1 (a b : UInt8) (n : Nat) : ((zer.set 0 a).set 1 b).take 2 ++ (be8 n ++ ((zer.set 0 a).set 1 b).drop 10) = a :: b :: (be8 n ++ List.replicate 118 0) := rfl
theorem step2 (a b : UInt8) (n : Nat) {pay : List UInt8} (h : pay.length ≤ 112) :
    (a :: b :: (be8 n ++ List.replicate 118 0)).take 10 ++ (pay ++ (a :: b :: (be8 n ++ List.replicate 118 0)).drop (10 + pay.length)) = a :: b :: (be8 n ++ (pay ++ List.replicate (114 - pay.length) 0)) ++ [0, 0, 0, 0] := by
  have h1 : (a :: b :: (be8 n ++ List.replicate 118 0)).take 10 = a :: b :: be8 n := rfl
  have h2 : (a :: b :: (be8 n ++ List.replicate 118 0)).drop (10 + pay.length) = List.replicate (118 - pay.length) 0 := by
    rw [show a :: b :: (be8 n ++ List.replicate 118 0) = (a :: b :: be8 n) ++ List.replicate 118 0 from rfl, List.drop_append, List.drop_eq_nil_of_le (by rw [List.length_cons, List.length_cons, len_be8]; omega), List.drop_replicate]
    simp [len_be8]
  rw [h1, h2, show 118 - pay.length = (114 - pay.length) + 4 by omega, ← List.replicate_append_replicate]
  simp
theorem step3 (k n : Nat) {pay : List UInt8} (h : pay.length ≤ 112) : ((headB k n pay ++ [0, 0, 0, 0]).drop 0).take 124 = headB k n pay := by
  rw [List.drop_zero, List.take_append_of_le_length (by rw [len_headB k n h]; omega), List.take_of_length_le (by rw [len_headB k n h]; omega)]
theorem step4 (k n : Nat) {pay : List UInt8} (h : pay.length ≤ 112) (x : Nat) : (headB k n pay ++ [0, 0, 0, 0]).take 124 ++ (le4b x ++ (headB k n pay ++ [0, 0, 0, 0]).drop (124 + (le4b x).length)) = headB k n pay ++ le4b x := by
  rw [List.take_append_of_le_length (by rw [len_headB k n h]; omega), List.take_of_length_le (by rw [len_headB k n h]; omega), List.drop_eq_nil_of_le (by rw [List.length_append, len_headB k n h]; simp [le4b])]
  simp
/-- Bytes are copied into a sector. -/
theorem copy_in {w : World} {g o : Nat} {l pay : List UInt8} {pv : Value} (hS : Sec w g l) (hp : Bs w pv pay) (ho : o + pay.length ≤ 128) (ty : TypeId) :
    (Builtin.copy_ #[29, 29] ty #[.slice (some ⟨g, o, none⟩) (128 - o) (128 - o), pv]).run Tryz.prog w = .ok (goInt pay.length) (w.setCells g o (enc pay)) := by
  have h5 : (Tryz.prog.info? 5).map (·.size) = some 1 := by kernel_rfl
  obtain ⟨p, cap, rfl, h1, h2, h3, h4⟩ := hp
  have hm : Nat.min pay.length (128 - o) = pay.length := Nat.min_eq_left (by omega)
  rcases h4 with rfl | ⟨g', o', rfl, hc⟩
  · exact run_copy_none w 29 29 ty 5 _ _ _ _ _ _ Tryz.underlying29 h5 hm
  · have := run_copy_cells (P := Tryz.prog) w 29 29 ty 5 g o (128 - o) (128 - o) ⟨g', o', none⟩ pay.length cap (enc pay) Tryz.underlying29 h5 (by rw [len_enc, hm]) (fun j v hv => by rw [Go.WideShapes.add_plain]; exact hc j v hv) (fun j hj => ?_) (fun j hj => ?_) (one_enc pay)
    · rwa [len_enc] at this
    · rw [len_enc] at hj
      rw [(hS.cell (i := o + j) (by omega)).1]; rfl
    · rw [len_enc] at hj
      exact (hS.cell (i := o + j) (by omega)).2
/-- Where a Seal stands: the box of its frame, its result's sector, and what was there ahead. -/
structure Fr (w W : World) (k n : Int) (pv : Value) : Prop where
  box : W.heap[w.heap.size]? = some (.cells #[.int .i64 k, .int .i64 n, pv] 190)
  res : W.there (w.heap.size + 1) 0 128
  bel : Below w.heap.size w W
  sz : w.heap.size + 2 ≤ W.heap.size
theorem Fr.grown {w W W' : World} {k n : Int} {pv : Value} {b : Nat} (h : Fr w W k n pv) (hg : W.grownBy W' (some b)) (hb : w.heap.size + 2 ≤ b) : Fr w W' k n pv := by
  have z := h.sz
  refine ⟨(hg.block _ (by omega) (fun e => by injection e with e; omega)).trans h.box, there_same h.res (hg.block _ (by omega) (fun e => by injection e with e; omega)), h.bel.grown hg (by omega) (fun k e => by injection e with e; omega), by have := hg.size; omega⟩
theorem Fr.on {w W W' : World} {k n : Int} {pv : Value} (h : Fr w W k n pv) (hb : Below W.heap.size W W') : Fr w W' k n pv := by
  have z := h.sz
  exact ⟨(hb.block _ (by omega)).trans h.box, there_same h.res (hb.block _ (by omega)), h.bel.trans (hb.mono (by omega)), by have := hb.size; omega⟩
theorem Fr.start (w : World) (k n : Int) (pv : Value) : Fr w ((w.alloc (.cells #[.int .i64 k, .int .i64 n, pv] 190)).alloc (.cells Tryz.zeroCells118 118)) k n pv := by
  refine ⟨blk_on (bel1 _ _) (heap_alloc_last w _), ?_, (bel1 w _).alloc (by simp) _, by simp⟩
  have := there_new (w.alloc (.cells #[.int .i64 k, .int .i64 n, pv] 190)) Tryz.zeroCells118 118
  rwa [World.size_alloc, Tryz.zeroCells118_size] at this
theorem size_sets (g : Nat) : ∀ (vs : List Value) (o : Nat) (w : World), (w.setCells g o vs).heap.size = w.heap.size
  | [], _, _ => rfl
  | v :: vs, o, w => by rw [World.setCells, size_sets g vs]; simp [World.setCell]
theorem Sec.drew {w : World} {g : Nat} {l : List UInt8} (h : Sec w g l) : Sec w.drew g l := h.same rfl
theorem Bs.drew {w : World} {v : Value} {t : List UInt8} (h : Bs w v t) : Bs w.drew v t := h.on (Below.refl _ _).drew
theorem gr_undrew {w w' : World} {r : Option Nat} (g : w.drew.grownBy w' r) : w.grownBy w' r := ⟨g.os, g.tape, g.output, g.size, g.block⟩
set_option maxHeartbeats 3200000 in
set_option maxRecDepth 100000 in
theorem seal_ok (w : World) (k n : Nat) (pv : Value) (pay : List UInt8) (hp : Bs w pv pay) (hT : TabOk w) (hk1 : 1 ≤ k) (hk2 : k ≤ 255) (hn : n < 9223372036854775808) (hl : pay.length ≤ 112) :
    Calls Tryz.prog 180 #[frm k n pv] w fun e w' => e = .returned (.tuple #[.agg (encA (frameB k n pay)), .int .i64 0]) ∧ Below w.heap.size w w' := by
  have HP : Hid (Bs w pv pay) := hp
  have HT : Hid (TabOk w) := hT
  clear hT
  obtain ⟨p, cap, rfl, -⟩ := hp
  have x1 : ¬ (k : Int) < 1 := by omega
  have x2 : ¬ (255 : Int) < k := by omega
  have x3 : ¬ (n : Int) < 0 := by omega
  have x4 : ¬ (112 : Int) < (pay.length : Int) := by omega
  have v1 : ((UInt8.ofNat k).toNat : Int) = (k : Int) := by rw [ofNat_val]; omega
  have v2 : ((UInt8.ofNat pay.length).toNat : Int) = (pay.length : Int) := by rw [ofNat_val]; omega
  have HV1 := Lib.hid v1
  have HV2 := Lib.hid v2
  clear v1 v2
  have S0 := Fr.start w k n (.slice p pay.length cap)
  have HS0 := Lib.hid S0
  clear S0
  unfold frm
  go_enter Tryz.func180, Tryz.ntmps180
  go_wp2_with (first
    | (show wpList _ _ _ (Oper.mk (some 4) (Op.alloc 118) _ _ _ _ :: _) _ _
       refine wpList_alloc26 rfl rfl ?_; intro W1 hW1 zW1 sW1
       have F1 := HS0.out.on hW1
       rw [World.size_alloc, World.size_alloc] at zW1 sW1 ⊢
       obtain ⟨g, hg⟩ : ∃ g, w.heap.size + 1 + 1 = g := ⟨_, rfl⟩
       rw [hg] at zW1 sW1 ⊢
       have HG := Lib.hid hg
       clear hg
       obtain ⟨b0, b1, b2⟩ := box_of F1.box
       have HF1 := Lib.hid F1
       have HS1 := Lib.hid sW1
       clear F1 sW1 hW1)
    | (show wpList _ _ _ (Oper.mk _ (Op.store 5 (Operand.tmp 29) _) _ _ _ _ :: _) _ _
       refine wpList_byte rfl _ _ rfl g 0 zer (UInt8.ofNat k) rfl (by rw [HV1.out]; rfl) HS1.out (by omega) ?_; intro W2 gW2 zW2 sW2
       have F2 := HF1.out.grown gW2 (by have := HG.out; omega)
       rw [zW1] at zW2
       clear b0 b1 b2
       obtain ⟨b0, b1, b2⟩ := box_of F2.box
       have HF2 := Lib.hid F2
       have HS2 := Lib.hid sW2
       clear F2 sW2 gW2 zW1)
    | (show wpList _ _ _ (Oper.mk _ (Op.store 5 (Operand.tmp 34) _) _ _ _ _ :: _) _ _
       refine wpList_byte rfl _ _ rfl g 1 _ (UInt8.ofNat pay.length) rfl (by rw [HV2.out]; rfl) HS2.out (by omega) ?_; intro W3 gW3 zW3 sW3
       have F3 := HF2.out.grown gW3 (by have := HG.out; omega)
       rw [zW2] at zW3
       clear b0 b1 b2
       obtain ⟨b0, b1, b2⟩ := box_of F3.box
       have HF3 := Lib.hid F3
       have HS3 := Lib.hid sW3
       clear F3 sW3 gW3 zW2))
  go_region_held3 (fun u => u.cell? ⟨w.heap.size, 1, none⟩ = some (.int .i64 n)) (first | exact b1 | exact b1')
    (first | (go_at_call 196; refine (putN196 _ g _ HS3.out.drew n hn).mono ?_; rintro e W4 ⟨⟨v4, rfl⟩, s4, g4, z4⟩
              have F4 := HF3.out.grown (gr_undrew g4) (by have := HG.out; omega)
              obtain ⟨b0', b1', b2'⟩ := box_of F4.box
              have HF4 := Lib.hid F4
              have HS4 := Lib.hid s4
              clear F4 s4 g4))
  have s4 := HS4.out
  rw [step1] at s4
  have zW4 : W4.heap.size = g + 1 := z4.trans zW3
  have hBp : Bs W4 (.slice p pay.length cap) pay := HP.out.on HF4.out.bel
  have hcp : ∀ ty, (Builtin.copy_ #[29, 29] ty #[.slice (some ⟨g, 10, none⟩) 118 118, .slice p pay.length cap]).run Tryz.prog W4.drew = .ok (goInt pay.length) (W4.drew.setCells g 10 (enc pay)) := fun ty => copy_in s4.drew hBp.drew (by omega) ty
  have s5 := s4.drew.sets (o := 10) (cs := pay) (by omega)
  rw [step2 _ _ _ hl] at s5
  have g5 := gr_undrew (gr_sets g (enc pay) 10 W4.drew)
  have F5 := HF4.out.grown g5 (by have := HG.out; omega)
  have zW5 : (W4.drew.setCells g 10 (enc pay)).heap.size = g + 1 := by
    rw [size_sets]; exact zW4
  have S5 : Sec (W4.drew.setCells g 10 (enc pay)) g (headB k n pay ++ [0, 0, 0, 0]) := s5
  have HS5 := Lib.hid S5
  have HF5 := Lib.hid F5
  have HZ5 := Lib.hid zW5
  clear s4 s5 S5 F5 zW5 g5 hBp HS4 HS3 HS2 HS1 HS0 HF1 HF2 HF3 b0 b1 b2 b0' b1' z4 zW3
  obtain ⟨W5, hW5⟩ : ∃ W5, W4.drew.setCells g 10 (enc pay) = W5 := ⟨_, rfl⟩
  rw [hW5] at hcp HS5 HF5 HZ5
  clear hW5
  go_wp2
  go_region_held3 (fun u => u.cell? ⟨w.heap.size, 2, none⟩ = some (.slice p pay.length cap)) (first | exact b2' | exact (box_of HF5.out.box).2.2) (fail)
  have hB : Bs W5 (.slice (some ⟨g, 0, none⟩) 124 128) (headB k n pay) := by
    have := HS5.out.bs (o := 0) (n := 124) (c := 128) (by omega) (by omega) (by decide)
    rwa [step3 k n hl] at this
  have cS := sum198 W5 _ _ hB (tab_on HT.out HF5.out.bel)
  have hS32 : csum (nat8 (headB k n pay)) < 4294967296 := csum_lt (nat8_lt _)
  have HFR : Hid (frameB k n pay = headB k n pay ++ le4b (csum (nat8 (headB k n pay)))) := rfl
  generalize csum (nat8 (headB k n pay)) = S at *
  have cB := bytesOf197 W5 S hS32
  rw [p4_all] at cB
  have HP4 : Hid ((p4 (by4 S 0) (by4 S 1) (by4 S 2) (by4 S 3) 4) = enc (le4b S)) := by
    have := p4_all S
    unfold encA at this
    have h2 := congrArg Array.toList this
    exact h2.symm
  generalize by4 S 0 = e0 at *
  generalize by4 S 1 = e1 at *
  generalize by4 S 2 = e2 at *
  generalize by4 S 3 = e3 at *
  unfold p4 at cB HP4
  clear hB hcp zW4 HF4 b2' HV1 HV2
  go_wp2_with (first
    | (go_at_call 198; refine cS.mono ?_; rintro e W' ⟨rfl, rfl⟩)
    | (go_at_call 197; refine cB.mono ?_; rintro e W6 ⟨rfl, hb6⟩))
  have hb7 : Below W'.heap.size W' (W6.alloc (.cells #[.int .u8 e0, .int .u8 e1, .int .u8 e2, .int .u8 e3] 228)) := hb6.alloc hb6.size _
  have F7 := HF5.out.on hb7
  have s7 := HS5.out.on hb7
  have hg7 : g ≠ W6.heap.size := by
    have := hb6.size
    have := HZ5.out
    omega
  have hB7 : Bs (W6.alloc (.cells #[.int .u8 e0, .int .u8 e1, .int .u8 e2, .int .u8 e3] 228)) (.slice (some ⟨W6.heap.size, 0, none⟩) 4 4) (le4b S) := by
    refine ⟨_, 4, rfl, Nat.le_refl _, by decide, fun e => (by cases e), .inr ⟨_, 0, rfl, ?_⟩⟩
    rw [← HP4.out]
    exact range_new _ _ _
  obtain ⟨W7, hW7⟩ : ∃ W7, W6.alloc (.cells #[.int .u8 e0, .int .u8 e1, .int .u8 e2, .int .u8 e3] 228) = W7 := ⟨_, rfl⟩
  rw [hW7] at F7 s7 hB7 ⊢
  have hcp : ∀ ty, (Builtin.copy_ #[29, 29] ty #[.slice (some ⟨g, 124, none⟩) 4 4, .slice (some ⟨W6.heap.size, 0, none⟩) 4 4]).run Tryz.prog W7.drew = .ok (goInt 4) (W7.drew.setCells g 124 (enc (le4b S))) := fun ty => copy_in s7.drew hB7.drew (Nat.le_refl 128) ty
  have s8 := s7.drew.sets (o := 124) (cs := le4b S) (Nat.le_refl 128)
  rw [step4 k n hl, ← HFR.out] at s8
  have F8 := F7.grown (gr_undrew (gr_sets g (enc (le4b S)) 124 W7.drew)) (by have := HG.out; omega)
  have HS8 := Lib.hid s8
  have HF8 := Lib.hid F8
  clear s8 F8 s7 F7 hB7 hb7 hW7 hb6 HF5 HS5 HZ5 HP4 cB cS HFR
  obtain ⟨W8, hW8⟩ : ∃ W8, W7.drew.setCells g 124 (enc (le4b S)) = W8 := ⟨_, rfl⟩
  rw [hW8] at hcp HS8 HF8
  clear hW8
  go_wp2
  go_region_held3 (fun u => True) (first | exact trivial) (fail)
  have hi : (Tryz.prog.info? 118).map (·.size) = some (enc (frameB k n pay)).length := by rw [size26, len_enc, len_frameB k n hl]
  go_wp2_with (first
    | (show wpList _ _ _ (Oper.mk _ (Op.load 118 (Operand.tmp 4)) _ _ _ _ :: _) _ _
       refine wpList_load_mid rfl 118 _ rfl _ _ rfl _ _ HS8.out.at_ Tryz.underlying118 rfl hi ?_)
    | (show wpList _ _ _ (Oper.mk _ (Op.store 118 (Operand.tmp 2) _) _ _ _ _ :: _) _ _
       refine wpList_store26 rfl _ _ rfl (w.heap.size + 1) 0 (frameB k n pay) rfl rfl HF8.out.res (len_frameB k n hl) ?_; intro w3 g3 r3 t3 z3))
  refine bodyPost_ret (v := .tuple #[.agg (encA (frameB k n pay)), .int .i64 0]) (results_cell_tmp_mid Tryz.results180 _ _ (w.heap.size + 1) (frameB k n pay) rfl r3 (len_frameB k n hl)) rfl ⟨rfl, ?_⟩
  have z8 := HF8.out.sz
  exact HF8.out.bel.grown g3 (by omega) (fun k e => by injection e with e; omega)
/-- What Seal answers. -/
theorem seal180 (w : World) (k n : Int) (pv : Value) (pay : List UInt8) (hp : Bs w pv pay) (hT : TabOk w) (hn : n ≤ 9223372036854775807) :
    Calls Tryz.prog 180 #[frm k n pv] w fun e w' => e = .returned (.tuple #[.agg (encA (sealB k n pay)), .int .i64 (sealE k n pay)]) ∧ Below w.heap.size w w' := by
  unfold sealB sealE
  cases ho : okF k n pay with
  | false => simpa [ho] using seal_no w k n pv pay hp ho
  | true =>
    obtain ⟨h1, h2, h3, h4⟩ := okF_yes ho
    obtain ⟨k, rfl⟩ : ∃ j : Nat, k = j := ⟨k.toNat, by omega⟩
    obtain ⟨n, rfl⟩ : ∃ j : Nat, n = j := ⟨n.toNat, by omega⟩
    have := seal_ok w k n pv pay hp hT (by omega) (by omega) (by omega) h4
    simpa using this
end Go.Proofs.YtfakgfmgofblgaaGreatDoor
