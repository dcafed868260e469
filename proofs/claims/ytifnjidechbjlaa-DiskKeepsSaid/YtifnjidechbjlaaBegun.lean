/-
  What the statements' own begun does.
-/
import Derived.Test.YtifnjidechbjlaaEq
namespace Go.Proofs.Ytifnjidechbjlaa
open Go.RowKit Go.Maps Go.ChangeMaps Go.MapKept Go.WideShapes
set_option linter.unusedVariables false      -- a walk need not use every condition
attribute [local go_sem ↓] Go.wp_at_zero Go.wp_at_succ

def b0 : Dsk := made 9
def b1 : Dsk := (b0.write 3 (fil 1)).2
def b2 : Dsk := (b1.write 5 (fil 2)).2
def b3 : Dsk := (b2.crash [true] 1).2
def b4 : Dsk := (b3.start [] 0).2
theorem b01 : (b0.write 3 (fil 1)).1 = 0 := by kernel_rfl
theorem b12 : (b1.write 5 (fil 2)).1 = 0 := by kernel_rfl
theorem b23 : (b2.crash [true] 1).1 = 0 := by kernel_rfl
theorem b33 : b3.down = true := by kernel_rfl
theorem b34 : (b3.start [] 0).1 = 0 := by kernel_rfl
theorem b4a : b4.read 3 = (fil 1, 0) := by kernel_rfl
theorem b4b : b4.read 5 = (zer, 40) := by kernel_rfl
theorem bel_kept {a w w' : World} {d pb mb : Nat} (h : Below a.heap.size a w) (k : Kept d pb mb w w') (hd : a.heap.size ≤ d) (hp : a.heap.size ≤ pb) (hm : a.heap.size ≤ mb) : Below a.heap.size a w' :=
  h.trans (k.below hd hp hm h.size)
theorem bools_one (w : World) (d pb mb : Nat) (hd : d < w.heap.size) (hp : pb < w.heap.size) (hm : mb < w.heap.size) : Bools (w.alloc (.cells #[.bool true] 4)) d pb mb (.slice (some ⟨w.heap.size, 0, none⟩) 1 1) [true] := by
  refine ⟨⟨_, 1, rfl, .inr ⟨w.heap.size, 0, rfl, by simp, by omega, by omega, by omega, fun i hi => ?_⟩⟩, by simp⟩
  obtain rfl : i = 0 := by simpa using hi
  rw [cell_of_row _ _ _ _ _ _ (heap_alloc_last w (.cells #[.bool true] 4))]
  rfl
set_option maxHeartbeats 3000000 in
set_option maxRecDepth 100000 in
theorem begun9 (w : World) : Calls Try.prog 9 #[] w fun e w' => e = .returned (.bool true) ∧ Below w.heap.size w w' := by
  have cN := new7 9 (by omega) (by omega) w
  have cf1 : ∀ w, Calls Try.prog 18 #[.int .u8 1] w fun e w' => e = .returned (.agg (encA (fil 1))) ∧ Below w.heap.size w w' := fun w => filled18 w 1
  have cf2 : ∀ w, Calls Try.prog 18 #[.int .u8 2] w fun e w' => e = .returned (.agg (encA (fil 2))) ∧ Below w.heap.size w w' := fun w => filled18 w 2
  have tk1 : True := trivial
  have tk2 : True := trivial
  have tk3 : True := trivial
  have tk4 : True := trivial
  have tk5 : True := trivial
  have tk6 : True := trivial
  generalize hf1 : fil 1 = F1 at *
  generalize hf2 : fil 2 = F2 at *
  have hl1 : F1.length = 128 := by rw [← hf1]; exact len_fil 1
  have hl2 : F2.length = 128 := by rw [← hf2]; exact len_fil 2
  have HF1 : Hid (fil 1 = F1) := hf1
  have HF2 : Hid (fil 2 = F2) := hf2
  clear hf1 hf2
  go_enter Try.func9, Try.ntmps9
  go_wp2_with (first
    | (go_at_call 7; refine cN.mono ?_; rintro e w1 ⟨rfl, h1, B1⟩; replace h1 : At w1 (w.heap.size + 2) w.heap.size (w.heap.size + 1) b0 := h1)
    | (go_at_call 18; clear tk1; refine (cf1 _).mono ?_; rintro e w2 ⟨rfl, B2⟩; have h2 := h1.on B2; replace B2 := bel_then B1 B2)
    | (go_at_call 17; clear tk2; refine (write17 _ _ _ _ b0 h2 3 F1 hl1).mono ?_; rintro e w3 ⟨rfl, h3, k3⟩
       have hz3 : (b0.write 3 F1).1 = 0 := by rw [← HF1.out]; exact b01
       rw [hz3]
       replace h3 : At w3 (w.heap.size + 2) w.heap.size (w.heap.size + 1) b1 := by rw [← HF1.out] at h3; exact h3
       have B3 := bel_kept B2 k3 (by omega) (by omega) (by omega))
    | (go_at_call 18; clear tk3; refine (cf2 _).mono ?_; rintro e w4 ⟨rfl, B4⟩; have h4 := h3.on B4; replace B4 := bel_then B3 B4)
    | (go_at_call 17; clear tk4; refine (write17 _ _ _ _ b1 h4 5 F2 hl2).mono ?_; rintro e w5 ⟨rfl, h5, k5⟩
       have hz5 : (b1.write 5 F2).1 = 0 := by rw [← HF2.out]; exact b12
       rw [hz5]
       replace h5 : At w5 (w.heap.size + 2) w.heap.size (w.heap.size + 1) b2 := by rw [← HF2.out] at h5; exact h5
       have B5 := bel_kept B4 k5 (by omega) (by omega) (by omega))
    | (go_at_call 20; refine (crash20 _ _ _ _ b2 (h5.alloc _) 1 _ [true] (bools_one _ _ _ _ h5.lts.1 h5.lts.2.1 h5.lts.2.2.1)).mono ?_; rintro e w6 ⟨rfl, h6, k6⟩
       rw [b23]
       replace h6 : At w6 (w.heap.size + 2) w.heap.size (w.heap.size + 1) b3 := h6
       have B6 := bel_kept (bel_then B5 (bel1 _ _)) k6 (by omega) (by omega) (by omega))
    | (go_at_call 11; refine (down11 _ _ _ _ b3 h6).mono ?_; rintro e w6' ⟨rfl, rfl⟩; rw [b33])
    | (go_at_call 21; refine (start21 _ _ _ _ b3 h6 0 _ [] (bools_none _ _ _ _)).mono ?_; rintro e w7 ⟨rfl, h7, k7⟩
       rw [b34]
       replace h7 : At w7 (w.heap.size + 2) w.heap.size (w.heap.size + 1) b4 := h7
       have B7 := bel_kept B6 k7 (by omega) (by omega) (by omega))
    | (go_at_call 22; clear tk5; refine (read22 _ _ _ _ b4 h7 3).mono ?_; rintro e w8 ⟨rfl, B8⟩
       rw [b4a, HF1.out]
       have h8 := h7.on B8
       have sz8 := B8.size
       replace B8 := bel_then B7 B8)
    | (show wpList _ _ _ (Oper.mk _ (Op.store 48 (Operand.tmp 3) _) _ _ _ _ :: _) _ _
       rw [zc]; refine wpList_store48 rfl _ _ rfl w8.heap.size 0 F1 rfl rfl (there4 w8) hl1 ?_; intro w9 g9 r9 t9 z9
       have l8 := h8.lts
       have h9 := (h8.alloc (.cells (encA zer) 48)).grown g9 (by omega) (by omega) (by omega)
       have B9 := Below.grown (bel_then B8 (bel1 w8 (.cells (encA zer) 48))) g9 (by simp; have := B8.size; omega) (fun k e => by injection e with e; have := B8.size; omega)
       have lt9 : w8.heap.size < w9.heap.size := by rw [z9]; simp)
    | (go_at_call 22; clear tk6; refine (read22 _ _ _ _ b4 h9 5).mono ?_; rintro e w10 ⟨rfl, B10⟩
       rw [b4b]
       have r10 := rangeAt_same r9 (B10.block _ lt9)
       have sz10 := B10.size
       replace B10 := bel_then B9 B10)
    | (show wpList _ _ _ (Oper.mk _ (Op.store 48 (Operand.tmp 4) _) _ _ _ _ :: _) _ _
       (try rw [zc]); refine wpList_store48 rfl _ _ rfl w10.heap.size 0 zer rfl rfl (there4 w10) len_zer ?_; intro w11 g11 r11 t11 z11
       have r12 := rangeAt_same (World.rangeAt_alloc r10 (.cells (encA zer) 48)) (g11.block _ (by simp; omega) (fun e => by injection e with e; omega))
       have B11 := Below.grown (bel_then B10 (bel1 w10 (.cells (encA zer) 48))) g11 (by simp; have := B10.size; omega) (fun k e => by injection e with e; have := B10.size; omega)
       have lt11 : w8.heap.size < w11.heap.size := by rw [z11]; simp; omega))
  have hu := Try.underlying48
  have hi48 : (Try.prog.info? 48).map (·.size) = some (enc F1).length := by rw [size48, len_enc, hl1]
  have hq := fun w => eq48b F1 F1 hl1 hl1 w
  simp only [decide_true] at hq
  clear h1 h2 h3 h4 h5 h6 h7 h8 h9 B1 B2 B3 B4 B5 B6 B7 B8 B9 B10 k3 k5 k6 k7 r9 r10 r11 g9 g11 t9 t11 z9 z11 cN cf2 hz3 hz5 sz8 sz10 l8 lt9
  go_region_held3 (fun w' => w'.rangeAt w8.heap.size 0 (enc F1) ∧ w8.heap.size < w'.heap.size) (first | exact ⟨by simpa using r12, lt11⟩ | exact ⟨rangeAt_same (w := w11.drew) (by simpa using r12) (hb.block _ lt11), Nat.lt_of_lt_of_le lt11 hb.size⟩) ((go_at_call 18; refine (cf1 _).mono ?_; rintro e w' ⟨rfl, hb⟩))
  go_wp2
  go_ret
  exact ⟨rfl, (show Below w.heap.size w w11.drew from B11.drew).trans (hb.mono B11.size)⟩
end Go.Proofs.Ytifnjidechbjlaa
