/-
  A node's form: leafBytes, innerBytes and Bytes of package node.
-/
import Derived.Test.YtbkpgppaahpalaaPut
namespace Go.Proofs.Ytbkpgppaahpalaa
open Go.RowKit
set_option linter.unusedVariables false      -- a walk need not use every condition

theorem gr_node {base : Nat} {w w' : World} {g : Nat} {a b c d : Value} (h : Gr base w w') (e : w.heap[g]? = some (.cells #[a, b, c, d] 26)) : w'.heap[g]? = some (.cells #[a, b, c, d] 26) :=
  h.2 g _ e (fun c f he => by injection he with _ he; exact absurd he (by decide))
theorem cell_of {B : Nat} {w w' : World} {g o : Nat} {x : Value} (hb : Below w.heap.size w w') (h : w.cell? ⟨g, o, none⟩ = some x) : w'.cell? ⟨g, o, none⟩ = some x := cell_past hb h
set_option maxHeartbeats 4000000 in
set_option maxRecDepth 100000 in
theorem leafBytes36 (w : World) (v : Value) (n : Nd) (h : NdS w v n) (hL : n.leaf = true) (ht : (form n).length ≤ 448) :
    Calls Try.prog 36 #[v] w fun e w' => ∃ v', e = .returned v' ∧ Bts w' w.heap.size v' (form n) ∧ Below w.heap.size w w' := by
  obtain ⟨vc, vk, vi, rfl, hC, hK, hI⟩ := h
  obtain ⟨pk, ck, rfl, -, lk⟩ := hK.hdr
  obtain ⟨pi, ci, rfl, -, li⟩ := hI.hdr
  have HC := Lib.hid hC
  obtain ⟨pc, cc, rfl, -, lc⟩ := hC.hdr
  clear hC hK hI
  have hF : form n = 1 :: (vnt n.cells.length ++ n.cells.flatMap cellF) := by unfold form; rw [if_pos hL]
  rw [hF] at ht ⊢
  rw [hL]
  obtain ⟨BX, hBX⟩ : ∃ b, b = Obj.cells #[.bool true, .slice pc n.cells.length cc, .slice pk n.keys.length ck, .slice pi n.kids.length ci] 26 := ⟨_, rfl⟩
  have hb1 := bts_one (w.alloc BX) w.heap.size (by simp) 1 (x := 1) rfl
  rw [show (w.alloc BX).heap.size = w.heap.size + 1 by simp] at hb1
  have hB1 : Below w.heap.size w ((w.alloc BX).alloc (.cells #[.int .u8 1] 5)) := (bel1 _ _).alloc (by simp) _
  have c74 := putNumber74 w _ hB1 _ _ hb1 n.cells.length (by simp)
  rw [nI_nat (by omega)] at c74
  have hblk : ((w.alloc BX).alloc (.cells #[.int .u8 1] 5)).heap[w.heap.size]? = some BX := blk_on (bel1 _ _) (World.alloc_heap_new w BX)
  subst hBX
  have HBL := Lib.hid hblk
  have HT : Hid ((vnt n.cells.length).length + (n.cells.flatMap cellF).length + 1 ≤ 448) := by rw [List.length_cons, List.length_append] at ht; show _ ≤ _; omega
  have HF : Hid ([1] ++ vnt n.cells.length ++ n.cells.flatMap cellF = 1 :: (vnt n.cells.length ++ n.cells.flatMap cellF)) := by show _ = _; simp
  generalize 1 :: (vnt n.cells.length ++ n.cells.flatMap cellF) = Z at *
  generalize vnt n.cells.length = V at *
  have HB1 := Lib.hid hB1
  clear hb1 hB1 hblk hF ht hL
  generalize hN : n.cells.length = N at *
  have HN := Lib.hid hN
  clear hN
  go_enter Try.func36, Try.ntmps36
  go_wp2_with (go_at_call 74; refine c74.mono ?_; rintro e w1 ⟨v1, rfl, hb1, hG1⟩; obtain ⟨q0, q1, q2, q3⟩ := four_of (gr_node hG1 HBL.out))
  have HG1 := Lib.hid (HB1.out.trans hG1.1)
  have HO1 := Lib.hid hb1
  clear hG1 hb1 c74 HBL HB1 q0 q2 q3
  have c75 := putCell75
  go_loopg [3, 14] N (fun g s3 s14 wr => ∃ (i : Nat) (T : List UInt8), i + g = N ∧ s14 = .int .i64 i ∧ Hid (Bts wr w.heap.size s3 T) ∧ Hid (T = [1] ++ V ++ (n.cells.take i).flatMap cellF) ∧ Hid (Below w.heap.size w wr))
  case atStart => exact ⟨0, [1] ++ V, by omega, rfl, HO1.out, by show _ = _; simp, HG1.out⟩
  case round =>
    obtain ⟨i, T, hig, rfl, ho, hT, hb⟩ := hrel
    cases gk with
    | zero =>
      obtain rfl : i = N := by omega
      have hr : Hid (T = Z) := by have := hT.out; rw [← HN.out, List.take_length, HF.out] at this; exact this
      clear hT
      go_wp2
      go_ret
      exact ⟨_, rfl, by rw [← hr.out]; exact ho.out, hb.out⟩
    | succ g =>
      have hi : i < n.cells.length := by have := HN.out; omega
      have hiz : (i : Int) < (N : Int) := by omega
      have hi0 : (0 : Int) ≤ (i : Int) := by omega
      obtain ⟨g0, o0, cap0, k, x, e, z0, z1, z2, z3, hBk, hBx, hIo, hIl⟩ := HC.out.at hi
      injection e with e1 e2 e3
      subst e1 e3
      replace z0 := cell_past hb.out z0
      replace z1 := cell_past hb.out z1
      replace z2 := cell_past hb.out z2
      replace z3 := cell_past hb.out z3
      have hsu := flat_next cellF n.cells hi
      have hle := flat_le' cellF n.cells (i + 1)
      have hbd : T.length + (cellF n.cells[i]).length + 100 ≤ 140737488355000 := by
        have h1 := HT.out
        rw [hsu, List.length_append] at hle
        rw [hT.out, List.length_append, List.length_append]
        simp only [List.length_singleton]
        omega
      have hT' : Hid (T ++ cellF n.cells[i] = [1] ++ V ++ (n.cells.take (i + 1)).flatMap cellF) := by show _ = _; rw [hsu, hT.out]; simp
      generalize n.cells[i] = c at *
      have d75 := fun (o : Obj) => c75 w (wr.alloc o) (hb.out.alloc hb.out.size o) _ _ T c (ho.out.on (bel1 wr o)) ⟨k, x, rfl, hBk, hBx, hIo, hIl⟩ hbd
      obtain ⟨kp, kc, rfl, -⟩ := hBk
      obtain ⟨xp, xc, rfl, -⟩ := hBx
      generalize cellF c = A at *
      clear e2 hle hsu hT hbd
      go_wp2_with (go_at_call 75; refine (d75 _).mono ?_; rintro e w2 ⟨v2, rfl, hb2, hG2⟩)
      go_roundg g
      case measure => omega
      case rel => exact ⟨i + 1, T ++ A, by omega, by first | rfl | simp, hb2, hT', (hb.out.alloc hb.out.size _).trans hG2.1⟩
set_option maxHeartbeats 4000000 in
set_option maxRecDepth 100000 in
theorem innerBytes37 (w : World) (v : Value) (n : Nd) (h : NdS w v n) (hL : n.leaf = false) (ht : (form n).length ≤ 448) :
    Calls Try.prog 37 #[v] w fun e w' => ∃ v', e = .returned v' ∧ Bts w' w.heap.size v' (form n) ∧ Below w.heap.size w w' := by
  obtain ⟨vc, vk, vi, rfl, hC, hK, hI⟩ := h
  have HK := Lib.hid hK
  have HI := Lib.hid hI
  obtain ⟨pk, ck, rfl, -, lk⟩ := hK.hdr
  obtain ⟨pi, ci, rfl, -, li⟩ := hI.hdr
  obtain ⟨pc, cc, rfl, -, lc⟩ := hC.hdr
  clear hC hK hI
  have hF : form n = 2 :: (vnt n.keys.length ++ (n.keys.flatMap keyF ++ n.kids.flatMap nI)) := by unfold form; rw [if_neg (by rw [hL]; decide)]
  rw [hF] at ht ⊢
  rw [hL]
  obtain ⟨BX, hBX⟩ : ∃ b, b = Obj.cells #[.bool false, .slice pc n.cells.length cc, .slice pk n.keys.length ck, .slice pi n.kids.length ci] 26 := ⟨_, rfl⟩
  have hb1 := bts_one (w.alloc BX) w.heap.size (by simp) 2 (x := 2) rfl
  rw [show (w.alloc BX).heap.size = w.heap.size + 1 by simp] at hb1
  have hB1 : Below w.heap.size w ((w.alloc BX).alloc (.cells #[.int .u8 2] 5)) := (bel1 _ _).alloc (by simp) _
  have c74 := putNumber74 w _ hB1 _ _ hb1 n.keys.length (by simp)
  rw [nI_nat (by omega)] at c74
  have hblk : ((w.alloc BX).alloc (.cells #[.int .u8 2] 5)).heap[w.heap.size]? = some BX := blk_on (bel1 _ _) (World.alloc_heap_new w BX)
  subst hBX
  have HBL := Lib.hid hblk
  have HT : Hid ((vnt n.keys.length).length + ((n.keys.flatMap keyF).length + (n.kids.flatMap nI).length) + 1 ≤ 448) := by rw [List.length_cons, List.length_append, List.length_append] at ht; show _ ≤ _; omega
  have HF : Hid ([2] ++ vnt n.keys.length ++ n.keys.flatMap keyF ++ n.kids.flatMap nI = 2 :: (vnt n.keys.length ++ (n.keys.flatMap keyF ++ n.kids.flatMap nI))) := by show _ = _; simp
  generalize 2 :: (vnt n.keys.length ++ (n.keys.flatMap keyF ++ n.kids.flatMap nI)) = Z at *
  generalize vnt n.keys.length = V at *
  have HB1 := Lib.hid hB1
  clear hb1 hB1 hblk hF ht hL
  generalize hN : n.keys.length = N at *
  have HN := Lib.hid hN
  clear hN
  generalize hM : n.kids.length = M at *
  have HM := Lib.hid hM
  clear hM
  go_enter Try.func37, Try.ntmps37
  go_wp2_with (go_at_call 74; refine c74.mono ?_; rintro e w1 ⟨v1, rfl, hb1, hG1⟩; have HBL1 := Lib.hid (gr_node hG1 HBL.out); obtain ⟨-, -, q2, -⟩ := four_of HBL1.out)
  have HG1 := Lib.hid (HB1.out.trans hG1.1)
  have HO1 := Lib.hid hb1
  clear hG1 hb1 c74 HBL HB1
  have c76 := putBytes76
  have c74 := putNumber74
  go_loopg [3, 16] N (fun g s3 s16 wr => ∃ (i : Nat) (T : List UInt8), i + g = N ∧ s16 = .int .i64 i ∧ Hid (Bts wr w.heap.size s3 T) ∧ Hid (T = [2] ++ V ++ (n.keys.take i).flatMap keyF) ∧ Hid (Below w.heap.size w wr) ∧ Hid (wr.heap[w.heap.size]? = some (.cells #[.bool false, .slice pc n.cells.length cc, .slice pk N ck, .slice pi M ci] 26)))
  case atStart => exact ⟨0, [2] ++ V, by omega, rfl, HO1.out, by show _ = _; simp, HG1.out, HBL1⟩
  case round =>
    obtain ⟨i, T, hig, rfl, ho, hT, hb, hbl⟩ := hrel
    cases gk with
    | zero =>
      obtain rfl : i = N := by omega
      have hr : Hid (T = [2] ++ V ++ n.keys.flatMap keyF) := by have := hT.out; rw [← HN.out, List.take_length] at this; exact this
      have y3 := (four_of hbl.out).2.2.2
      have HO2 := Lib.hid ho.out
      have HB2 := Lib.hid hb.out
      clear hT hbl ho hb q2
      obtain ⟨wo, rfl⟩ : ∃ v, v = wr := ⟨_, rfl⟩
      go_wp2
      go_loopg [3, 27] M (fun g s3 s27 wr => ∃ (i : Nat) (T : List UInt8), i + g = M ∧ s27 = .int .i64 i ∧ Hid (Bts wr w.heap.size s3 T) ∧ Hid (T = [2] ++ V ++ n.keys.flatMap keyF ++ (n.kids.take i).flatMap nI) ∧ Hid (Below w.heap.size w wr))
      case atStart => exact ⟨0, T, by omega, rfl, HO2.out, by show _ = _; rw [hr.out]; simp, HB2.out⟩
      case round =>
        obtain ⟨j, T, hig, rfl, ho, hT, hb⟩ := hrel
        cases gk with
        | zero =>
          obtain rfl : j = M := by omega
          have hr : Hid (T = Z) := by have := hT.out; rw [← HM.out, List.take_length, HF.out] at this; exact this
          clear hT
          go_wp2
          go_ret
          exact ⟨_, rfl, by rw [← hr.out]; exact ho.out, hb.out⟩
        | succ g =>
          have hj : j < n.kids.length := by have := HM.out; omega
          have hjz : (j : Int) < (M : Int) := by omega
          have hj0 : (0 : Int) ≤ (j : Int) := by omega
          obtain ⟨g0, o0, cap0, e, z0, hIo⟩ := HI.out.at hj
          injection e with e1 e2 e3
          subst e1 e3
          replace z0 := cell_past hb.out z0
          have hsu := flat_next nI n.kids hj
          have hle := flat_le' nI n.kids (j + 1)
          have hbd : T.length ≤ 140737488355000 := by
            have h1 := HT.out
            rw [hsu, List.length_append] at hle
            rw [hT.out, List.length_append, List.length_append, List.length_append]
            simp only [List.length_singleton]
            omega
          have hT' : Hid (T ++ nI n.kids[j] = [2] ++ V ++ n.keys.flatMap keyF ++ (n.kids.take (j + 1)).flatMap nI) := by show _ = _; rw [hsu, hT.out]; simp
          generalize n.kids[j] = c at *
          have d74 := c74 w wr hb.out _ T ho.out c hbd
          obtain ⟨tp, tc, rfl, -⟩ := ho.out.bs
          generalize nI c = A at *
          clear e2 hle hsu hT hbd
          go_wp2_with (go_at_call 74; refine d74.mono ?_; rintro e w2 ⟨v2, rfl, hb2, hG2⟩)
          go_roundg g
          case measure => omega
          case rel => exact ⟨j + 1, T ++ A, by omega, by first | rfl | simp, hb2, hT', hb.out.trans hG2.1⟩
    | succ g =>
      have hi : i < n.keys.length := by have := HN.out; omega
      have hiz : (i : Int) < (N : Int) := by omega
      have hi0 : (0 : Int) ≤ (i : Int) := by omega
      obtain ⟨g0, o0, cap0, k, e, z0, hBk⟩ := HK.out.at hi
      injection e with e1 e2 e3
      subst e1 e3
      replace z0 := cell_past hb.out z0
      have hsu := flat_next keyF n.keys hi
      have hle := flat_le' keyF n.keys (i + 1)
      have hbd : T.length + n.keys[i].length + 10 ≤ 140737488355000 := by
        have h1 := HT.out
        rw [hsu, List.length_append] at hle
        rw [hT.out, List.length_append, List.length_append]
        simp only [List.length_singleton]
        have : n.keys[i].length ≤ (keyF n.keys[i]).length := by simp [keyF]
        omega
      have hT' : Hid (T ++ keyF n.keys[i] = [2] ++ V ++ (n.keys.take (i + 1)).flatMap keyF) := by show _ = _; rw [hsu, hT.out]; simp
      generalize n.keys[i] = c at *
      have d76 := c76 w wr hb.out _ _ T c ho.out hBk hbd
      obtain ⟨kp, kc, rfl, -⟩ := hBk
      obtain ⟨tp, tc, rfl, -⟩ := ho.out.bs
      generalize keyF c = A at *
      clear e2 hle hsu hT hbd
      go_wp2_with (go_at_call 76; refine d76.mono ?_; rintro e w2 ⟨v2, rfl, hb2, hG2⟩)
      have hbl' := Lib.hid (gr_node hG2 hbl.out)
      go_roundg g
      case measure => omega
      case rel => exact ⟨i + 1, T ++ A, by omega, by first | rfl | simp, hb2, hT', hb.out.trans hG2.1, hbl'⟩
end Go.Proofs.Ytbkpgppaahpalaa
