/-
  Find of package node: the place of the first cell whose key is not below a key.
-/
import Derived.Test.YtbkpgppaahpalaaBeg
namespace Go.Proofs.Ytbkpgppaahpalaa
open Go.RowKit
set_option linter.unusedVariables false      -- a walk need not use every condition

def fnd (key : List UInt8) : List C → Nat
  | [] => 0
  | c :: r => if 0 ≤ Lib.compareBytes c.key key then 0 else fnd key r + 1
def fndB (key : List UInt8) : List C → Bool
  | [] => false
  | c :: r => if 0 ≤ Lib.compareBytes c.key key then decide (Lib.compareBytes c.key key = 0) else fndB key r
theorem fnd_le (key : List UInt8) : ∀ L : List C, fnd key L ≤ L.length
  | [] => by simp [fnd]
  | c :: r => by
    have := fnd_le key r
    unfold fnd
    split <;> simp <;> omega
theorem ret_two {a b : Int} {p q : Bool} (h : a = b) (h' : p = q) : Ending.returned (.tuple #[.int .i64 a, .bool p]) = .returned (.tuple #[.int .i64 b, .bool q]) := by rw [h, h']
set_option maxHeartbeats 4000000 in
set_option maxRecDepth 100000 in
theorem find34 (w : World) (v b : Value) (n : Nd) (key : List UInt8) (h : NdS w v n) (hb : Bs w b key) :
    Calls Try.prog 34 #[v, b] w fun e w' => e = .returned (.tuple #[.int .i64 (fnd key n.cells : Nat), .bool (fndB key n.cells)]) ∧ Below w.heap.size w w' := by
  have HB := Lib.hid hb
  obtain ⟨bp, bc, rfl, -, -⟩ := hb.slice
  obtain ⟨vc, vk, vi, rfl, hC, hK, hI⟩ := h
  have HC := Lib.hid hC
  obtain ⟨pc, cc, rfl, -, lc⟩ := hC.hdr
  obtain ⟨pk, ck, rfl, -, lk⟩ := hK.hdr
  obtain ⟨pi, ci, rfl, -, li⟩ := hI.hdr
  clear hC hK hI hb
  generalize hN : n.cells.length = N at *
  have HN := Lib.hid hN
  clear hN
  obtain ⟨Re, hRe⟩ : ∃ R, fnd key n.cells = R := ⟨_, rfl⟩
  obtain ⟨Rb, hRb⟩ : ∃ R, fndB key n.cells = R := ⟨_, rfl⟩
  rw [hRe, hRb]
  have HRe := Lib.hid hRe
  have HRb := Lib.hid hRb
  clear hRe hRb
  generalize n.keys.length = M at *
  generalize n.kids.length = P at *
  generalize key.length = KL at *
  have c71 := compare71
  have HA := Lib.hid (World.alloc_heap_new w (Obj.cells #[.bool n.leaf, .slice pc N cc, .slice pk M ck, .slice pi P ci] 26))
  have HB0 := Lib.hid (bel1 w (Obj.cells #[.bool n.leaf, .slice pc N cc, .slice pk M ck, .slice pi P ci] 26))
  go_enter Try.func34, Try.ntmps34
  go_wp2
  go_loopg [6, 7, 8, 12] N (fun g s6 s7 s8 s12 wr => ∃ (i : Nat), i + g = N ∧ s12 = .int .i64 i ∧ Hid (Below w.heap.size w wr) ∧ Hid (wr.heap[w.heap.size]? = some (Obj.cells #[.bool n.leaf, .slice pc N cc, .slice pk M ck, .slice pi P ci] 26)) ∧ Hid (i + fnd key (n.cells.drop i) = Re) ∧ Hid (fndB key (n.cells.drop i) = Rb))
  case atStart => exact ⟨0, by omega, rfl, HB0.out, HA.out, by show _ = _; simpa using HRe.out, by show _ = _; simpa using HRb.out⟩
  case round =>
    clear HA HB0 HRe HRb
    obtain ⟨i, hig, rfl, hb, hA, hE, hF⟩ := hrel
    obtain ⟨a0, a1, a2, a3⟩ := four_of hA.out
    cases gk with
    | zero =>
      have hix : ¬ (i : Int) < (N : Int) := by omega
      have e1 : Hid ((N : Int) = (Re : Int)) := by
        show _ = _
        have := hE.out
        rw [List.drop_eq_nil_of_le (by have := HN.out; omega)] at this
        simp only [fnd] at this
        omega
      have e2 : Hid (false = Rb) := by
        have := hF.out
        rw [List.drop_eq_nil_of_le (by have := HN.out; omega)] at this
        exact this
      clear hE hF
      go_wp2
      go_ret2
      exact ⟨ret_two e1.out e2.out, hb.out⟩
    | succ g =>
      have hi : i < n.cells.length := by have := HN.out; omega
      have hiz : (i : Int) < (N : Int) := by omega
      have hi0 : (0 : Int) ≤ (i : Int) := by omega
      obtain ⟨g0, o0, cap0, k, x, e, z0, z1, z2, z3, hBk, hBx, hIo, hIl⟩ := (HC.out.on hb.out).at hi
      injection e with e1 e2 e3
      subst e1 e3
      clear e2
      have hE' := hE.out
      have hF' := hF.out
      rw [List.drop_eq_getElem_cons hi] at hE' hF'
      unfold fnd at hE'
      unfold fndB at hF'
      have HBk := Lib.hid hBk
      obtain ⟨kp, kc, rfl, -, -⟩ := hBk.slice
      obtain ⟨xp, xc, rfl, -, -⟩ := hBx.slice
      have d71 := c71 (wr.alloc (.cells #[.slice kp n.cells[i].key.length kc, .slice xp n.cells[i].val.length xc, .int .i64 n.cells[i].over, .int .i64 n.cells[i].len] 44)) _ _ _ _ (HBk.out.on (bel1 wr _)) ((HB.out.on hb.out).on (bel1 wr _))
      have hB' := Lib.hid (bel1 wr (.cells #[.slice kp n.cells[i].key.length kc, .slice xp n.cells[i].val.length xc, .int .i64 n.cells[i].over, .int .i64 n.cells[i].len] 44))
      clear hE hF hBk hBx HBk
      generalize Lib.compareBytes n.cells[i].key key = cv at *
      generalize n.cells[i].key.length = K1 at *
      generalize n.cells[i].val.length = K2 at *
      generalize n.cells[i].over = K3 at *
      generalize n.cells[i].len = K4 at *
      by_cases hc : 0 ≤ cv
      · rw [if_pos hc] at hE' hF'
        have e1 : Hid ((i : Int) = (Re : Int)) := by show _ = _; omega
        have e2 : Hid ((cv == 0) = Rb) := by
          show _ = _
          rw [← hF']
          by_cases h0 : cv = 0
          · simp [h0]
          · simp [h0]
        clear hE' hF'
        go_wp2_with (go_at_call 71; refine d71.mono ?_; rintro e w' ⟨rfl, ew⟩; rw [ew]; clear ew w')
        go_ret2
        exact ⟨ret_two e1.out e2.out, bel_then hb.out hB'.out⟩
      · rw [if_neg hc] at hE' hF'
        have hE2 : Hid (i + 1 + fnd key (n.cells.drop (i + 1)) = Re) := by show _ = _; omega
        have hF2 := Lib.hid hF'
        clear hE' hF'
        go_wp2_with (go_at_call 71; refine d71.mono ?_; rintro e w' ⟨rfl, ew⟩; rw [ew]; clear ew w')
        go_roundg g
        case measure => omega
        case rel => exact ⟨i + 1, by omega, by first | rfl | simp, bel_then hb.out hB'.out, blk_on hB'.out hA.out, hE2, hF2⟩
end Go.Proofs.Ytbkpgppaahpalaa
