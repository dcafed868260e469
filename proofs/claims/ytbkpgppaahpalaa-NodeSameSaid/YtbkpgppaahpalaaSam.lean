/-
  The document's Same, of two nodes that are the same.
-/
import Derived.Test.YtbkpgppaahpalaaBeg
import Derived.BigQuiet
namespace Go.Proofs.Ytbkpgppaahpalaa
open Go.RowKit
set_option linter.unusedVariables false      -- a walk need not use every condition

set_option maxHeartbeats 8000000 in
set_option maxRecDepth 100000 in
theorem same20 (w : World) (a b : Value) (n : Nd) (ha : NdS w a n) (hb : NdS w b n) :
    Calls Try.prog 20 #[a, b] w fun e w' => e = .returned (.bool true) ∧ Below w.heap.size w w' := by
  obtain ⟨vc, vk, vi, rfl, hC, hK, hI⟩ := ha
  obtain ⟨uc, uk, ui, rfl, hC', hK', hI'⟩ := hb
  have HC := Lib.hid hC
  have HK := Lib.hid hK
  have HI := Lib.hid hI
  have HC' := Lib.hid hC'
  have HK' := Lib.hid hK'
  have HI' := Lib.hid hI'
  obtain ⟨pc, cc, rfl, -, lc⟩ := hC.hdr
  obtain ⟨pk, ck, rfl, -, lk⟩ := hK.hdr
  obtain ⟨pi, ci, rfl, -, li⟩ := hI.hdr
  obtain ⟨qc, dc, rfl, -, -⟩ := hC'.hdr
  obtain ⟨qk, dk, rfl, -, -⟩ := hK'.hdr
  obtain ⟨qi, di, rfl, -, -⟩ := hI'.hdr
  clear hC hK hI hC' hK' hI'
  generalize hN : n.cells.length = N at *
  have HN := Lib.hid hN
  clear hN
  generalize hM : n.keys.length = M at *
  have HM := Lib.hid hM
  clear hM
  generalize hP : n.kids.length = P at *
  have HP := Lib.hid hP
  clear hP
  obtain ⟨A, hA⟩ : ∃ A, A = Obj.cells #[.bool n.leaf, .slice pc N cc, .slice pk M ck, .slice pi P ci] 26 := ⟨_, rfl⟩
  obtain ⟨B, hB⟩ : ∃ B, B = Obj.cells #[.bool n.leaf, .slice qc N dc, .slice qk M dk, .slice qi P di] 26 := ⟨_, rfl⟩
  have HBa : Hid (((w.alloc A).alloc B).heap[w.heap.size]? = some A) := blk_on (bel1 _ _) (World.alloc_heap_new w A)
  have HBb : Hid (((w.alloc A).alloc B).heap[w.heap.size + 1]? = some B) := by
    have := World.alloc_heap_new (w.alloc A) B
    rwa [show (w.alloc A).heap.size = w.heap.size + 1 by simp] at this
  have HB0 : Hid (Below w.heap.size w ((w.alloc A).alloc B)) := bel_then (bel1 _ _) (bel1 _ _)
  rw [hA, hB] at HBa HBb HB0
  clear hA hB A B
  go_enter Try.func20, Try.ntmps20
  go_wp2
  go_loopg [5] N (fun g s5 wr => ∃ (i : Nat), i + g = N ∧ s5 = .int .i64 i ∧ Hid (Below w.heap.size w wr) ∧ Hid (wr.heap[w.heap.size]? = some (Obj.cells #[.bool n.leaf, .slice pc N cc, .slice pk M ck, .slice pi P ci] 26)) ∧ Hid (wr.heap[w.heap.size + 1]? = some (Obj.cells #[.bool n.leaf, .slice qc N dc, .slice qk M dk, .slice qi P di] 26)))
  case atStart => exact ⟨0, by omega, rfl, HB0.out, HBa.out, HBb.out⟩
  case round =>
    obtain ⟨i, hig, rfl, hb, hba, hbb⟩ := hrel
    obtain ⟨a0, a1, a2, a3⟩ := four_of hba.out
    obtain ⟨b0, b1, b2, b3⟩ := four_of hbb.out
    cases gk with
    | succ g =>
      have hi : i < n.cells.length := by have := HN.out; omega
      have hiz : (i : Int) < (N : Int) := by omega
      have hi0 : (0 : Int) ≤ (i : Int) := by omega
      obtain ⟨g0, o0, cap0, k, x, e, z0, z1, z2, z3, hBk, hBx, hIo, hIl⟩ := (HC.out.on hb.out).at hi
      obtain ⟨g1, o1', cap1, k', x', e', y0, y1, y2, y3, hBk', hBx', -, -⟩ := (HC'.out.on hb.out).at hi
      injection e with e1 e2 e3
      injection e' with e1' e2' e3'
      subst e1 e3 e1' e3'
      have HA := Lib.hid hba.out
      have HB := Lib.hid hbb.out
      generalize n.cells[i] = c at *
      obtain ⟨kp, kc, ek, -⟩ := id hBk
      obtain ⟨xp, xc, ex, -⟩ := id hBx
      obtain ⟨kp', kc', ek', -⟩ := id hBk'
      obtain ⟨xp', xc', ex', -⟩ := id hBx'
      subst ek ex ek' ex'
      have sB : Below wr.heap.size wr ((wr.alloc (.cells #[.slice kp c.key.length kc, .slice xp c.val.length xc, .int .i64 c.over, .int .i64 c.len] 44)).alloc (.cells #[.slice kp' c.key.length kc', .slice xp' c.val.length xc', .int .i64 c.over, .int .i64 c.len] 44)) := bel_then (bel1 _ _) (bel1 _ _)
      have s1 := (hBk.on sB).str
      have s2 := (hBk'.on sB).str
      have s3 := (hBx.on sB).str
      have s4 := (hBx'.on sB).str
      have hz0 : w.heap.size < wr.heap.size := World.block_lt_of_cell? wr ⟨w.heap.size, 0, none⟩ a0
      have hz1 : w.heap.size + 1 < wr.heap.size := World.block_lt_of_cell? wr ⟨w.heap.size + 1, 0, none⟩ b0
      have hgz0 : g0 < wr.heap.size := World.block_lt_of_cell? wr ⟨g0, _, none⟩ z0
      have hgz1 : g1 < wr.heap.size := World.block_lt_of_cell? wr ⟨g1, _, none⟩ y0
      generalize (⟨c.key.toArray⟩ : ByteArray) = S1 at *
      generalize (⟨c.val.toArray⟩ : ByteArray) = S2 at *
      generalize c.key.length = K1 at *
      generalize c.val.length = K2 at *
      generalize c.over = K3 at *
      generalize c.len = K4 at *
      have HsB := Lib.hid sB
      clear e2 e2' sB hBk hBx hBk' hBx' hba hbb
      go_wp2
      go_roundg g
      case measure => omega
      case rel => exact ⟨i + 1, by omega, by first | rfl | simp, bel_then hb.out HsB.out, blk_on HsB.out HA.out, blk_on HsB.out HB.out⟩
    | zero =>
      obtain rfl : i = N := by omega
      have HA := Lib.hid hba.out
      have HB := Lib.hid hbb.out
      have Hb := Lib.hid hb.out
      clear hba hbb hb a0 b0
      obtain ⟨wo, rfl⟩ : ∃ v, v = wr := ⟨_, rfl⟩
      go_wp2
      go_loopg [8] M (fun g s8 wr => ∃ (j : Nat), j + g = M ∧ s8 = .int .i64 j ∧ Hid (Below w.heap.size w wr) ∧ Hid (wr.heap[w.heap.size]? = some (Obj.cells #[.bool n.leaf, .slice pc i cc, .slice pk M ck, .slice pi P ci] 26)) ∧ Hid (wr.heap[w.heap.size + 1]? = some (Obj.cells #[.bool n.leaf, .slice qc i dc, .slice qk M dk, .slice qi P di] 26)))
      case atStart => exact ⟨0, by omega, rfl, Hb.out, HA.out, HB.out⟩
      case round =>
        clear a1 b1 a2 a3 b2 b3
        obtain ⟨j, hjg, rfl, hb, hba, hbb⟩ := hrel
        obtain ⟨a0, a1, a2, a3⟩ := four_of hba.out
        obtain ⟨b0, b1, b2, b3⟩ := four_of hbb.out
        cases gk with
        | succ g =>
          have hj : j < n.keys.length := by have := HM.out; omega
          have hjz : (j : Int) < (M : Int) := by omega
          have hj0 : (0 : Int) ≤ (j : Int) := by omega
          obtain ⟨g0, o0, cap0, k, e, z0, hBk⟩ := (HK.out.on hb.out).at hj
          obtain ⟨g1, o1', cap1, k', e', y0, hBk'⟩ := (HK'.out.on hb.out).at hj
          injection e with e1 e2 e3
          injection e' with e1' e2' e3'
          subst e1 e3 e1' e3'
          generalize n.keys[j] = c at *
          obtain ⟨kp, kc, ek, -⟩ := id hBk
          obtain ⟨kp', kc', ek', -⟩ := id hBk'
          subst ek ek'
          have s1 := (hBk.on (Below.refl _ wr).drew).str
          have s2 := (hBk'.on (Below.refl _ wr).drew).str
          generalize (⟨c.toArray⟩ : ByteArray) = S1 at *
          generalize c.length = K1 at *
          have HA2 := Lib.hid hba.out
          have HB2 := Lib.hid hbb.out
          clear e2 e2' hBk hBk' hba hbb HA HB Hb
          go_wp2
          go_region_with (fail)
          all_goals
            go_wp2
            go_roundg g
            case measure => omega
            case rel => exact ⟨j + 1, by omega, by first | rfl | simp, hb.out.drew, HA2.out, HB2.out⟩
        | zero =>
          obtain rfl : j = M := by omega
          have HA2 := Lib.hid hba.out
          have HB2 := Lib.hid hbb.out
          have Hb2 := Lib.hid hb.out
          clear hba hbb hb a0 a1 b0 b1 HA HB Hb
          obtain ⟨wo2, rfl⟩ : ∃ v, v = wr := ⟨_, rfl⟩
          go_wp2
          go_loopg [9] P (fun g s9 wr => ∃ (m : Nat), m + g = P ∧ s9 = .int .i64 m ∧ Hid (Below w.heap.size w wr) ∧ Hid (wr.heap[w.heap.size]? = some (Obj.cells #[.bool n.leaf, .slice pc i cc, .slice pk j ck, .slice pi P ci] 26)) ∧ Hid (wr.heap[w.heap.size + 1]? = some (Obj.cells #[.bool n.leaf, .slice qc i dc, .slice qk j dk, .slice qi P di] 26)))
          case atStart => exact ⟨0, by omega, rfl, Hb2.out, HA2.out, HB2.out⟩
          case round =>
            clear a2 b2 a3 b3
            obtain ⟨m, hmg, rfl, hb, hba, hbb⟩ := hrel
            obtain ⟨a0, a1, a2, a3⟩ := four_of hba.out
            obtain ⟨b0, b1, b2, b3⟩ := four_of hbb.out
            cases gk with
            | succ g =>
              have hm : m < n.kids.length := by have := HP.out; omega
              have hmz : (m : Int) < (P : Int) := by omega
              have hm0 : (0 : Int) ≤ (m : Int) := by omega
              obtain ⟨g0, o0, cap0, e, z0, -⟩ := (HI.out.on hb.out).at hm
              obtain ⟨g1, o1', cap1, e', y0, -⟩ := (HI'.out.on hb.out).at hm
              injection e with e1 e2 e3
              injection e' with e1' e2' e3'
              subst e1 e3 e1' e3'
              generalize n.kids[m] = c at *
              have HA3 := Lib.hid hba.out
              have HB3 := Lib.hid hbb.out
              clear e2 e2' hba hbb HA2 HB2 Hb2
              go_wp2
              go_region_with (fail)
              all_goals
               go_wp2
               go_roundg g
               case measure => omega
               case rel => exact ⟨m + 1, by omega, by first | rfl | simp, hb.out.drew, HA3.out, HB3.out⟩
            | zero =>
              obtain rfl : m = P := by omega
              go_wp2
              go_ret
              exact ⟨rfl, hb.out⟩
end Go.Proofs.Ytbkpgppaahpalaa
