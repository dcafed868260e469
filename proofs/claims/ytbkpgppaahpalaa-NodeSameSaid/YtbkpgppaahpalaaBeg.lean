/-
  begun: the bytes of a leaf and of an inner node.
-/
import Derived.Test.YtbkpgppaahpalaaByu
import Derived.Lib.SmallJoins
namespace Go.Proofs.Ytbkpgppaahpalaa
open Go.RowKit
set_option linter.unusedVariables false      -- a walk need not use every condition

theorem range_lit (w : World) (cs : List Value) (t : TypeId) (f : Nat × Nat) : (w.alloc (.cells cs.toArray t f)).rangeAt w.heap.size 0 cs := fun j v hv => by
  have e := World.alloc_heap_new w (.cells cs.toArray t f)
  unfold World.cell?
  rw [Nat.zero_add]
  simp only [e]
  simpa using hv
theorem bs_of_range {w : World} {g o : Nat} {t : List UInt8} (h : w.rangeAt g o (enc t)) (ht : t.length ≤ maxLen) : Bs w (.slice (some ⟨g, o, none⟩) t.length t.length) t :=
  ⟨_, t.length, rfl, Nat.le_refl _, ht, fun e => (by cases e), .inr ⟨g, o, rfl, h⟩⟩
theorem bs_litF (w : World) (t : List UInt8) (f : Nat × Nat) (ht : t.length ≤ maxLen) : Bs (w.alloc (.cells (enc t).toArray 5 f)) (.slice (some ⟨w.heap.size, 0, none⟩) t.length t.length) t := bs_of_range (range_lit w (enc t) 5 f) ht
def nd1 : Nd := ⟨true, [⟨[97], [7], 0, 0⟩], [], []⟩
def nd2 : Nd := ⟨false, [], [[109]], [3, 4]⟩
def lit1 : List UInt8 := [1, 1, 1, 97, 0, 1, 7]
def lit2 : List UInt8 := [2, 1, 1, 109, 3, 4]
theorem may1 : may nd1 = true := by decide +kernel
theorem may2 : may nd2 = true := by decide +kernel
theorem form1 : form nd1 = lit1 := by decide +kernel
theorem form2 : form nd2 = lit2 := by decide +kernel
def o1 : Obj := .cells #[.int .u8 97] 5 (1, 2)
def o2 : Obj := .cells #[.int .u8 7] 5
def o3 (g : Nat) : Obj := .cells #[.slice (some ⟨g, 0, none⟩) 1 1, .slice (some ⟨g + 1, 0, none⟩) 1 1, .int .i64 0, .int .i64 0] 44
theorem nds1 (w : World) : NdS (((w.alloc o1).alloc o2).alloc (o3 w.heap.size)) (.agg #[.bool true, .slice (some ⟨w.heap.size + 1 + 1, 0, none⟩) 1 1, .slice none 0 0, .slice none 0 0]) nd1 := by
  have b1 : Bs (((w.alloc o1).alloc o2).alloc (o3 w.heap.size)) (.slice (some ⟨w.heap.size, 0, none⟩) 1 1) [97] := ((bs_litF w [97] (1, 2) (by decide)).on (bel1 _ _)).on (bel1 _ _)
  have b2 : Bs (((w.alloc o1).alloc o2).alloc (o3 w.heap.size)) (.slice (some ⟨w.heap.size + 1, 0, none⟩) 1 1) [7] := by
    have := (bs_litF (w.alloc o1) [7] (0, 0) (by decide)).on (bel1 _ (o3 w.heap.size))
    rw [show (w.alloc o1).heap.size = w.heap.size + 1 by simp] at this
    exact this
  have r := range_lit ((w.alloc o1).alloc o2) [.slice (some ⟨w.heap.size, 0, none⟩) 1 1, .slice (some ⟨w.heap.size + 1, 0, none⟩) 1 1, .int .i64 0, .int .i64 0] 44 (0, 0)
  rw [show ((w.alloc o1).alloc o2).heap.size = w.heap.size + 1 + 1 by simp] at r
  exact ⟨_, _, _, rfl, ⟨_, ⟨_, 1, rfl, Nat.le_refl _, by decide, fun e => (by cases e), rfl, .inr ⟨_, _, rfl, r⟩⟩, enc_one ⟨_, _, rfl, b1, b2, by unfold I64; decide, by unfold I64; decide⟩ rfl⟩, ks_nil _, is_nil _⟩
def p1 : Obj := .cells #[.int .u8 109] 5 (1, 2)
def p2 (g : Nat) : Obj := .cells #[.slice (some ⟨g, 0, none⟩) 1 1] 27
def p3 : Obj := .cells #[.int .i64 3, .int .i64 4] 3
theorem nds2 (w : World) : NdS (((w.alloc p1).alloc (p2 w.heap.size)).alloc p3) (.agg #[.bool false, .slice none 0 0, .slice (some ⟨w.heap.size + 1, 0, none⟩) 1 1, .slice (some ⟨w.heap.size + 1 + 1, 0, none⟩) 2 2]) nd2 := by
  have b1 : Bs (((w.alloc p1).alloc (p2 w.heap.size)).alloc p3) (.slice (some ⟨w.heap.size, 0, none⟩) 1 1) [109] := ((bs_litF w [109] (1, 2) (by decide)).on (bel1 _ _)).on (bel1 _ _)
  have r1 := range_on (range_lit (w.alloc p1) [.slice (some ⟨w.heap.size, 0, none⟩) 1 1] 27 (0, 0)) (bel1 _ p3)
  rw [show (w.alloc p1).heap.size = w.heap.size + 1 by simp] at r1
  have r2 := range_lit ((w.alloc p1).alloc (p2 w.heap.size)) [.int .i64 3, .int .i64 4] 3 (0, 0)
  rw [show ((w.alloc p1).alloc (p2 w.heap.size)).heap.size = w.heap.size + 1 + 1 by simp] at r2
  refine ⟨_, _, _, rfl, cs_nil _, ⟨_, ⟨_, 1, rfl, Nat.le_refl _, by decide, fun e => (by cases e), rfl, .inr ⟨_, _, rfl, r1⟩⟩, enc_one ⟨_, rfl, b1⟩ rfl⟩, ⟨_, ⟨_, 2, rfl, Nat.le_refl _, by decide, fun e => (by cases e), rfl, .inr ⟨_, _, rfl, r2⟩⟩, ?_⟩⟩
  have e3 : Enc kidV 1 (((w.alloc p1).alloc (p2 w.heap.size)).alloc p3) [3] [.int .i64 3] := enc_one ⟨rfl, by unfold I64; decide⟩ rfl
  have e4 : Enc kidV 1 (((w.alloc p1).alloc (p2 w.heap.size)).alloc p3) [4] [.int .i64 4] := enc_one ⟨rfl, by unfold I64; decide⟩ rfl
  exact e3.app e4
theorem equal_same (w : World) (a b : Value) (t : List UInt8) (ha : Bs w a t) (hb : Bs w b t) : Calls Try.prog 17 #[a, b] w fun e w' => e = .returned (.bool true) ∧ w' = w := by
  have h := equal17 w a b t t ha hb
  rw [beq_self_eq_true] at h
  exact h
theorem bel_then {a b c : World} (h : Below a.heap.size a b) (k : Below b.heap.size b c) : Below a.heap.size a c := h.trans (k.mono h.size)
theorem lit1_bs (w : World) : Bs (w.alloc (.cells #[.int .u8 1, .int .u8 1, .int .u8 1, .int .u8 97, .int .u8 0, .int .u8 1, .int .u8 7] 5)) (.slice (some ⟨w.heap.size, 0, none⟩) 7 7) lit1 := bs_litF w lit1 (0, 0) (by decide)
theorem lit2_bs (w : World) : Bs (w.alloc (.cells #[.int .u8 2, .int .u8 1, .int .u8 1, .int .u8 109, .int .u8 3, .int .u8 4] 5)) (.slice (some ⟨w.heap.size, 0, none⟩) 6 6) lit2 := bs_litF w lit2 (0, 0) (by decide)
theorem bytes_1 (w : World) : Calls Try.prog 10 #[.agg #[.bool true, .slice (some ⟨w.heap.size + 1 + 1, 0, none⟩) 1 1, .slice none 0 0, .slice none 0 0]] (((w.alloc o1).alloc o2).alloc (o3 w.heap.size)) fun e w' => ∃ v', e = .returned (.tuple #[v', .int .i64 0]) ∧ Bs w' v' lit1 ∧ Below w.heap.size w w' := by
  refine (bytes10 _ _ nd1 (nds1 w) (by rw [form1]; decide)).mono ?_
  rintro e w' ⟨v', rfl, hb, hB⟩
  refine ⟨v', ?_, ?_, bel_then (bel_then (bel_then (bel1 _ _) (bel1 _ _)) (bel1 _ _)) hB⟩
  · unfold bytesE; rw [may1, form1]; rfl
  · have := hb.bs; unfold bytesB at this; rw [may1, form1] at this; exact this
theorem bytes_2 (w : World) : Calls Try.prog 10 #[.agg #[.bool false, .slice none 0 0, .slice (some ⟨w.heap.size + 1, 0, none⟩) 1 1, .slice (some ⟨w.heap.size + 1 + 1, 0, none⟩) 2 2]] (((w.alloc p1).alloc (p2 w.heap.size)).alloc p3) fun e w' => ∃ v', e = .returned (.tuple #[v', .int .i64 0]) ∧ Bs w' v' lit2 ∧ Below w.heap.size w w' := by
  refine (bytes10 _ _ nd2 (nds2 w) (by rw [form2]; decide)).mono ?_
  rintro e w' ⟨v', rfl, hb, hB⟩
  refine ⟨v', ?_, ?_, bel_then (bel_then (bel_then (bel1 _ _) (bel1 _ _)) (bel1 _ _)) hB⟩
  · unfold bytesE; rw [may2, form2]; rfl
  · have := hb.bs; unfold bytesB at this; rw [may2, form2] at this; exact this
set_option maxHeartbeats 2000000 in
set_option maxRecDepth 20000 in
theorem begun12 (w : World) : Calls Try.prog 12 #[] w fun e w' => e = .returned (.bool true) ∧ Below w.heap.size w w' := by
  have cA := bytes_1
  have cB := bytes_2
  unfold o1 o2 o3 at cA
  unfold p1 p2 p3 at cB
  have l1 := fun w => lit1_bs w
  have l2 := fun w => lit2_bs w
  generalize lit1 = K at *
  generalize lit2 = P at *
  have hcv1 := Go.Joins.run_convert_bytes_const_at (P := Try.prog) w 27 5 #[.int .u8 97] 1 1 w.heap.size rfl Try.underlying27 Try.underlying5
  have tk1 : Hid True := trivial
  have tk2 : Hid True := trivial
  go_enter Try.func12, Try.ntmps12
  go_wp2_with (first
    | (go_at_call 10; clear tk1; refine (cA _).mono ?_; rintro e w1 ⟨v1, rfl, hs1, hb1⟩; have hcv2 := Go.Joins.run_convert_bytes_const_at (P := Try.prog) w1 27 5 #[.int .u8 109] 1 1 w1.heap.size rfl Try.underlying27 Try.underlying5; have HS1 := Lib.hid hs1; clear hs1)
    | (go_at_call 10; refine (cB _).mono ?_; rintro e w2 ⟨v2, rfl, hs2, hb2⟩; have HS2 := Lib.hid hs2; clear hs2)
    | (go_at_call 17; clear tk2; refine (equal_same _ _ _ K ((HS1.out.on hb2).on (bel1 w2 _)) (l1 w2)).mono ?_; rintro e w3 ⟨rfl, ew⟩; have hb3 := bel1 w2 (.cells #[.int .u8 1, .int .u8 1, .int .u8 1, .int .u8 97, .int .u8 0, .int .u8 1, .int .u8 7] 5); rw [← ew] at hb3; clear ew)
    | (go_at_call 17; refine (equal_same _ _ _ P ((HS2.out.on hb3).on (bel1 w3 _)) (l2 w3)).mono ?_; rintro e w4 ⟨rfl, ew⟩; have hb4 := bel1 w3 (.cells #[.int .u8 2, .int .u8 1, .int .u8 1, .int .u8 109, .int .u8 3, .int .u8 4] 5); rw [← ew] at hb4; clear ew))
  go_ret
  exact ⟨rfl, bel_then (bel_then (bel_then hb1 hb2) hb3) hb4⟩
end Go.Proofs.Ytbkpgppaahpalaa
