/-
  What the statements' own begun does: Key and Put at two examples.
-/
import Derived.Test.YtekfbijkalamkaaPutB
namespace Go.Proofs.Ytekfbijkalamkaa
open Go.RowKit
set_option linter.unusedVariables false      -- a walk need not use every condition

set_option maxHeartbeats 400000 in
theorem int34 (n : Int) (w : World) : Calls Try.prog 34 #[.int .i64 n] w fun e w' => e = .returned (.agg #[.int .i64 1, .int .i64 n, .string ⟨#[]⟩, .slice none 0 0]) ∧ Below w.heap.size w w' := by
  go_enter Try.func34, Try.ntmps34
  go_wp2
  simp [bodyPost, results, Try.results34, go_sem]
  exact bel1 w _
set_option maxHeartbeats 400000 in
theorem str35 (s : ByteArray) (w : World) : Calls Try.prog 35 #[.string s] w fun e w' => e = .returned (.agg #[.int .i64 2, .int .i64 0, .string s, .slice none 0 0]) ∧ Below w.heap.size w w' := by
  go_enter Try.func35, Try.ntmps35
  go_wp2
  simp [bodyPost, results, Try.results35, go_sem]
  exact bel1 w _
def vA : V := .mk 1 (-1) ⟨#[]⟩ []
def vB : V := .mk 2 0 ⟨#[97]⟩ []
def vC : V := .mk 1 300 ⟨#[]⟩ []
def vD : V := .mk 4 0 ⟨#[]⟩ [vC]
theorem bads_ab : bads [vA, vB] = 0 := by decide +kernel
theorem key_ab : keyL [vA, vB] = [1, 127, 255, 255, 255, 255, 255, 255, 255, 2, 97, 0, 1] := by decide +kernel
theorem may_d : vD.may 1 = true := by decide +kernel
theorem pl_d : vD.pl = [4, 1, 1, 216, 4] := by decide +kernel
theorem in_a (w : World) : vA.In w 0 (.slice none 0 0) := in_plain (by unfold I64; decide) (by unfold I64; decide) (by decide) w 0
theorem in_b (w : World) : vB.In w 0 (.slice none 0 0) := in_plain (by unfold I64; decide) (by unfold I64; decide) (by decide) w 0
theorem in_c (w : World) : vC.In w 0 (.slice none 0 0) := in_plain (by unfold I64; decide) (by unfold I64; decide) (by decide) w 0
theorem sl_ab (w : World) : Sl (w.alloc (.cells #[.int .i64 1, .int .i64 (-1), .string ⟨#[]⟩, .slice none 0 0, .int .i64 2, .int .i64 0, .string ⟨#[97]⟩, .slice none 0 0] 31)) 0 [vA, vB] (.slice (some ⟨w.heap.size, 0, none⟩) 2 2) := by
  refine ⟨_, 2, rfl, Nat.le_refl _, by unfold maxLen; omega, by decide, .inr ⟨w.heap.size, 0, rfl, Nat.zero_le _, ?_⟩⟩
  have hc := cells_new w [.int .i64 1, .int .i64 (-1), .string ⟨#[]⟩, .slice none 0 0, .int .i64 2, .int .i64 0, .string ⟨#[97]⟩, .slice none 0 0] 31
  simp only [Go.WideShapes.add_plain, Nat.zero_add] at hc
  simp only [Ls]
  exact ⟨_, hc 0 _ rfl, hc 1 _ rfl, hc 2 _ rfl, hc 3 _ rfl, in_a _, _, hc 4 _ rfl, hc 5 _ rfl, hc 6 _ rfl, hc 7 _ rfl, in_b _, trivial⟩
theorem in_d (w : World) : vD.In (w.alloc (.cells #[.int .i64 1, .int .i64 300, .string ⟨#[]⟩, .slice none 0 0] 31)) 0 (.slice (some ⟨w.heap.size, 0, none⟩) 1 1) := by
  rw [V.in_iff]
  refine ⟨by unfold I64 vD V.k; decide, by unfold I64 vD V.n; decide, by decide, _, 1, rfl, Nat.le_refl _, by unfold maxLen; omega, by decide, .inr ⟨w.heap.size, 0, rfl, Nat.zero_le _, ?_⟩⟩
  have hc := cells_new w [.int .i64 1, .int .i64 300, .string ⟨#[]⟩, .slice none 0 0] 31
  simp only [Go.WideShapes.add_plain, Nat.zero_add] at hc
  show Ls _ 0 [vC] _ _
  simp only [Ls]
  exact ⟨_, hc 0 _ rfl, hc 1 _ rfl, hc 2 _ rfl, hc 3 _ rfl, in_c _, trivial⟩
/-- Bytes that were just laid. -/
theorem bs_lit (w : World) (t : List UInt8) (ht : t.length ≤ maxLen) : Bs (w.alloc (.cells (t.map fun c => Value.int .u8 c.toNat).toArray 5)) (.slice (some ⟨w.heap.size, 0, none⟩) t.length t.length) t := by
  refine ⟨_, t.length, rfl, Nat.le_refl _, ht, fun e => (by cases e), .inr ⟨w.heap.size, 0, rfl, fun i hi => ?_⟩⟩
  have hc := cells_new w (t.map fun c => Value.int .u8 c.toNat) 5 i (.int .u8 t[i].toNat) (by simp [hi])
  rw [Go.WideShapes.add_plain] at hc
  exact hc
theorem equal_same (w : World) (a b : Value) (t : List UInt8) (ha : Bs w a t) (hb : Bs w b t) : Calls Try.prog 11 #[a, b] w fun e w' => e = .returned (.bool true) ∧ w' = w := by
  have h := equal11 w a b t t ha hb
  rw [beq_self_eq_true] at h
  exact h
def bytesK : List UInt8 := [1, 127, 255, 255, 255, 255, 255, 255, 255, 2, 97, 0, 1]
def bytesP : List UInt8 := [4, 1, 1, 216, 4]
theorem lit_k (w : World) : Bs (w.alloc (.cells #[.int .u8 1, .int .u8 127, .int .u8 255, .int .u8 255, .int .u8 255, .int .u8 255, .int .u8 255, .int .u8 255, .int .u8 255, .int .u8 2, .int .u8 97, .int .u8 0, .int .u8 1] 5)) (.slice (some ⟨w.heap.size, 0, none⟩) 13 13) bytesK :=
  bs_lit w bytesK (by unfold maxLen; decide)
theorem lit_p (w : World) : Bs (w.alloc (.cells #[.int .u8 4, .int .u8 1, .int .u8 1, .int .u8 216, .int .u8 4] 5)) (.slice (some ⟨w.heap.size, 0, none⟩) 5 5) bytesP :=
  bs_lit w bytesP (by unfold maxLen; decide)
set_option maxHeartbeats 1000000 in
set_option maxRecDepth 20000 in
theorem begun10 (w : World) : Calls Try.prog 10 #[] w fun e w' => e = .returned (.bool true) ∧ Below w.heap.size w w' := by
  have k34 := fun n w => int34 n w
  have k35 := fun s w => str35 s w
  have c8 := fun w => key8 [vA, vB] _ _ (sl_ab w) (by rw [key_ab]; decide)
  have c21 := fun w => put21 vD _ _ (in_d w) may_d (.slice none 0 0) [] (bs_nil _) (by rw [pl_d]; decide)
  unfold KeyR at c8
  rw [bads_ab, show keyL [vA, vB] = bytesK from key_ab] at c8
  rw [show vD.pl = bytesP from pl_d] at c21
  simp only [if_true] at c8
  simp only [List.nil_append] at c21
  unfold V.agg at c21
  have e1 : vD.k = 4 := rfl
  have e2 : vD.n = 0 := rfl
  have e3 : vD.s = ⟨#[]⟩ := rfl
  rw [e1, e2, e3] at c21
  have lk := fun w => lit_k w
  have lp := fun w => lit_p w
  clear e1 e2 e3
  generalize bytesK = K at *
  generalize bytesP = P at *
  have tok1 : Hid True := trivial
  have tok2 : Hid True := trivial
  go_enter Try.func10, Try.ntmps10
  go_wp2_with (first
    | (go_at_call 34; clear tok1; refine (k34 (-1) _).mono ?_; rintro e w1 ⟨rfl, hb1⟩)
    | (go_at_call 35; refine (k35 ⟨#[97]⟩ _).mono ?_; rintro e w2 ⟨rfl, hb2⟩)
    | (go_at_call 8; refine (c8 _).mono ?_; rintro e w3 ⟨b3, rfl, ht3, hb3⟩; have hB3 := bel_then (bel_then (bel_then hb1 hb2) (bel1 w2 _)) hb3; have hs3 := ht3.bs; clear ht3)
    | (go_at_call 34; refine (k34 300 _).mono ?_; rintro e w4 ⟨rfl, hb4⟩)
    | (go_at_call 21; refine (c21 _).mono ?_; rintro e w5 ⟨b5, rfl, ht5, hb5⟩; have hs5 := ht5.bs; have hB35 := bel_then (bel_then hb4 (bel1 w4 _)) hb5; have hs3' := hs3.on hB35; clear ht5))
  refine (equal_same _ _ _ K (hs3'.on (bel1 w5 _)) (lk w5)).mono ?_
  rintro e w6 ⟨rfl, rfl⟩
  have hB6 := bel1 w5 (.cells #[.int .u8 1, .int .u8 127, .int .u8 255, .int .u8 255, .int .u8 255, .int .u8 255, .int .u8 255, .int .u8 255, .int .u8 255, .int .u8 2, .int .u8 97, .int .u8 0, .int .u8 1] 5)
  have hs6 := hs5.on hB6
  have hfin := bel_then (bel_then hB3 hB35) hB6
  obtain ⟨W6, hW6⟩ : ∃ W6, W6 = w5.alloc (.cells #[.int .u8 1, .int .u8 127, .int .u8 255, .int .u8 255, .int .u8 255, .int .u8 255, .int .u8 255, .int .u8 255, .int .u8 255, .int .u8 2, .int .u8 97, .int .u8 0, .int .u8 1] 5) := ⟨_, rfl⟩
  rw [← hW6] at hs6 hfin ⊢
  have c11 := equal_same _ _ _ P (hs6.on (bel1 W6 _)) (lp W6)
  clear hW6 lk lp hB6 hs5 hs3 hs3' hB35 hB3 c8 c21 k34 k35
  go_wp2_with (go_at_call 11; refine c11.mono ?_; rintro e w7 ⟨rfl, rfl⟩)
  go_ret
  exact ⟨rfl, bel_then hfin (bel1 W6 _)⟩
end Go.Proofs.Ytekfbijkalamkaa
