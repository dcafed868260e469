/-
  apart: a key stands between two halves (where it does).
-/
import Derived.Test.YtbkpgppaahpalaaSpm
import Derived.Test.YtbkpgppaahpalaaChk
namespace Go.Proofs.Ytbkpgppaahpalaa
open Go.RowKit
set_option linter.unusedVariables false      -- a walk need not use every condition

set_option maxHeartbeats 8000000 in
set_option maxRecDepth 100000 in
theorem apart32 (w : World) (va vk vb : Value) (a b : Nd) (k : List UInt8) (ha : NdS w va a) (hk : Bs w vk k) (hb : NdS w vb b)
    (q1 : ∀ c ∈ a.cells, Lib.compareBytes c.key k < 0) (q2 : ∀ x ∈ a.keys, Lib.compareBytes x k < 0) (q3 : ∀ c ∈ b.cells, 0 ≤ Lib.compareBytes c.key k) (q4 : ∀ x ∈ b.keys, 0 < Lib.compareBytes x k) :
    Calls Try.prog 32 #[va, vk, vb] w fun e w' => e = .returned (.bool true) ∧ Below w.heap.size w w' := by
  obtain ⟨vc, vk1, vi, rfl, hC, hK, hI⟩ := ha
  obtain ⟨uc, uk, ui, rfl, hC', hK', hI'⟩ := hb
  have HC := Lib.hid hC
  have HK := Lib.hid hK
  have GC := Lib.hid hC'
  have GK := Lib.hid hK'
  have HY := Lib.hid hk
  obtain ⟨pc, cc, rfl, -, lc⟩ := hC.hdr
  obtain ⟨pk, ck, rfl, -, lk⟩ := hK.hdr
  obtain ⟨pi, ci, rfl, -, li⟩ := hI.hdr
  obtain ⟨pc', cc', rfl, -, lc'⟩ := hC'.hdr
  obtain ⟨pk', ck', rfl, -, lk'⟩ := hK'.hdr
  obtain ⟨pi', ci', rfl, -, li'⟩ := hI'.hdr
  obtain ⟨kp, kc, rfl, -, -⟩ := hk.slice
  clear hC hK hI hC' hK' hI' hk
  have Q1 := Lib.hid q1
  have Q2 := Lib.hid q2
  have Q3 := Lib.hid q3
  have Q4 := Lib.hid q4
  clear q1 q2 q3 q4
  generalize k.length = KL at *
  obtain ⟨N, hN⟩ : ∃ z, a.cells.length = z := ⟨_, rfl⟩
  obtain ⟨M, hM⟩ : ∃ z, a.keys.length = z := ⟨_, rfl⟩
  obtain ⟨N', hN'⟩ : ∃ z, b.cells.length = z := ⟨_, rfl⟩
  obtain ⟨M', hM'⟩ : ∃ z, b.keys.length = z := ⟨_, rfl⟩
  rw [hN, hM, hN', hM']
  rw [hN] at lc
  rw [hM] at lk
  rw [hN'] at lc'
  rw [hM'] at lk'
  have HN := Lib.hid hN
  have HM := Lib.hid hM
  have HN' := Lib.hid hN'
  have HM' := Lib.hid hM'
  clear hN hM hN' hM'
  obtain ⟨X, hX⟩ : ∃ X, X = Obj.cells #[.bool a.leaf, .slice pc N cc, .slice pk M ck, .slice pi a.kids.length ci] 26 := ⟨_, rfl⟩
  obtain ⟨Y, hY⟩ : ∃ Y, Y = Obj.cells #[.bool b.leaf, .slice pc' N' cc', .slice pk' M' ck', .slice pi' b.kids.length ci'] 26 := ⟨_, rfl⟩
  have s1 : Hid (((w.alloc X).alloc Y).heap[w.heap.size]? = some X) := blk_on (bel1 _ _) (World.alloc_heap_new w X)
  have s2 : Hid (((w.alloc X).alloc Y).heap[w.heap.size + 1]? = some Y) := new2 w X Y
  have s3 : Hid (Below w.heap.size w ((w.alloc X).alloc Y)) := bel_then (bel1 _ _) (bel1 _ _)
  have HX := Lib.hid hX
  have HYY := Lib.hid hY
  rw [hX, hY] at s1 s2 s3
  clear hX hY
  have c71 := compare71
  go_enter Try.func32, Try.ntmps32
  go_wp2
  go_loopg [18] N (fun g s wr => ∃ i : Nat, i + g = N ∧ s = .int .i64 i ∧ Hid (Below w.heap.size w wr) ∧ Hid (wr.heap[w.heap.size]? = some (Obj.cells #[.bool a.leaf, .slice pc N cc, .slice pk M ck, .slice pi a.kids.length ci] 26)) ∧ Hid (wr.heap[w.heap.size + 1]? = some (Obj.cells #[.bool b.leaf, .slice pc' N' cc', .slice pk' M' ck', .slice pi' b.kids.length ci'] 26)))
  case atStart => exact ⟨0, by omega, rfl, s3.out, s1.out, s2.out⟩
  case round =>
    obtain ⟨i, hig, rfl, hb, hx, hy⟩ := hrel
    cases gk with
    | zero =>
      obtain ⟨a0, a1, a2, a3⟩ := four_of hx.out
      obtain ⟨b0, b1, b2, b3⟩ := four_of hy.out
      have hi9 : ¬ (i : Int) < (N : Int) := by omega
      obtain ⟨wo, rfl⟩ : ∃ v, v = wr := ⟨_, rfl⟩
      go_wp2
      clear hi9 a0 a1 a2 a3 b0 b1 b2 b3
      go_loopg [31] M (fun g s wr => ∃ i : Nat, i + g = M ∧ s = .int .i64 i ∧ Hid (Below w.heap.size w wr) ∧ Hid (wr.heap[w.heap.size]? = some (Obj.cells #[.bool a.leaf, .slice pc N cc, .slice pk M ck, .slice pi a.kids.length ci] 26)) ∧ Hid (wr.heap[w.heap.size + 1]? = some (Obj.cells #[.bool b.leaf, .slice pc' N' cc', .slice pk' M' ck', .slice pi' b.kids.length ci'] 26)))
      case atStart => exact ⟨0, by omega, rfl, hb.out, hx.out, hy.out⟩
      case round =>
        obtain ⟨i, hig, rfl, hb, hx, hy⟩ := hrel
        cases gk with
        | zero =>
          obtain ⟨a0, a1, a2, a3⟩ := four_of hx.out
          obtain ⟨b0, b1, b2, b3⟩ := four_of hy.out
          have hi9 : ¬ (i : Int) < (M : Int) := by omega
          obtain ⟨wo, rfl⟩ : ∃ v, v = wr := ⟨_, rfl⟩
          go_wp2
          clear hi9 a0 a1 a2 a3 b0 b1 b2 b3
          go_loopg [43] N' (fun g s wr => ∃ i : Nat, i + g = N' ∧ s = .int .i64 i ∧ Hid (Below w.heap.size w wr) ∧ Hid (wr.heap[w.heap.size]? = some (Obj.cells #[.bool a.leaf, .slice pc N cc, .slice pk M ck, .slice pi a.kids.length ci] 26)) ∧ Hid (wr.heap[w.heap.size + 1]? = some (Obj.cells #[.bool b.leaf, .slice pc' N' cc', .slice pk' M' ck', .slice pi' b.kids.length ci'] 26)))
          case atStart => exact ⟨0, by omega, rfl, hb.out, hx.out, hy.out⟩
          case round =>
            obtain ⟨i, hig, rfl, hb, hx, hy⟩ := hrel
            cases gk with
            | zero =>
              obtain ⟨a0, a1, a2, a3⟩ := four_of hx.out
              obtain ⟨b0, b1, b2, b3⟩ := four_of hy.out
              have hi9 : ¬ (i : Int) < (N' : Int) := by omega
              obtain ⟨wo, rfl⟩ : ∃ v, v = wr := ⟨_, rfl⟩
              go_wp2
              clear hi9 a0 a1 a2 a3 b0 b1 b2 b3
              go_loopg [56] M' (fun g s wr => ∃ i : Nat, i + g = M' ∧ s = .int .i64 i ∧ Hid (Below w.heap.size w wr) ∧ Hid (wr.heap[w.heap.size]? = some (Obj.cells #[.bool a.leaf, .slice pc N cc, .slice pk M ck, .slice pi a.kids.length ci] 26)) ∧ Hid (wr.heap[w.heap.size + 1]? = some (Obj.cells #[.bool b.leaf, .slice pc' N' cc', .slice pk' M' ck', .slice pi' b.kids.length ci'] 26)))
              case atStart => exact ⟨0, by omega, rfl, hb.out, hx.out, hy.out⟩
              case round =>
                obtain ⟨i, hig, rfl, hb, hx, hy⟩ := hrel
                cases gk with
                | zero =>
                  have hi9 : ¬ (i : Int) < (M' : Int) := by omega
                  go_wp2
                  go_ret
                  exact ⟨rfl, hb.out⟩
                | succ g =>
                  have hi : i < b.keys.length := by have := HM'.out; omega
                  have hiz : (i : Int) < (M' : Int) := by omega
                  have hi0 : (0 : Int) ≤ (i : Int) := by omega
                  obtain ⟨g0, o0, cap0, kk, e, q0, hBk⟩ := (GK.out.on hb.out).at hi
                  rw [HM'.out] at e
                  injection e with e1 e2 e3
                  subst e1 e3
                  have hq := Q4.out b.keys[i] (List.getElem_mem hi)
                  generalize b.keys[i] = c at *
                  have d71 := c71 wr _ _ c k hBk (HY.out.on hb.out)
                  generalize Lib.compareBytes c k = cv at *
                  obtain ⟨kq, kd, rfl, -⟩ := hBk
                  have hq9 : ¬ cv ≤ 0 := by omega
                  clear hq e2
                  go_wp2_with (go_at_call 71; refine d71.mono ?_; rintro e w' ⟨rfl, ew⟩; rw [ew]; clear ew w')
                  go_roundg g
                  case measure => omega
                  case rel => exact ⟨i + 1, by omega, by first | rfl | simp, hb.out, hx.out, hy.out⟩
            | succ g =>
              have hi : i < b.cells.length := by have := HN'.out; omega
              have hiz : (i : Int) < (N' : Int) := by omega
              have hi0 : (0 : Int) ≤ (i : Int) := by omega
              obtain ⟨g0, o0, cap0, kk, x, e, q0, q1, q2, q3, hBk, hBx, hIo, hIl⟩ := (GC.out.on hb.out).at hi
              rw [HN'.out] at e
              injection e with e1 e2 e3
              subst e1 e3
              have hq := Q3.out b.cells[i] (List.getElem_mem hi)
              generalize b.cells[i] = c at *
              have d71 := fun (u : World) (hu : Below wr.heap.size wr u) => c71 u _ _ c.key k (hBk.on hu) ((HY.out.on hb.out).on hu)
              generalize Lib.compareBytes c.key k = cv at *
              obtain ⟨kq, kd, rfl, -⟩ := hBk
              obtain ⟨xp, xc, rfl, -⟩ := hBx
              have hq9 : ¬ cv < 0 := by omega
              clear hq e2
              go_wp2_with (go_at_call 71; refine (d71 _ (bel1 _ _)).mono ?_; rintro e w' ⟨rfl, ew⟩; rw [ew]; clear ew w')
              have hb2 := Lib.hid (bel_then hb.out (bel1 wr (Obj.cells #[.slice kq c.key.length kd, .slice xp c.val.length xc, .int .i64 c.over, .int .i64 c.len] 44)))
              have hx2 := Lib.hid (blk_on (bel1 wr (Obj.cells #[.slice kq c.key.length kd, .slice xp c.val.length xc, .int .i64 c.over, .int .i64 c.len] 44)) hx.out)
              have hy2 := Lib.hid (blk_on (bel1 wr (Obj.cells #[.slice kq c.key.length kd, .slice xp c.val.length xc, .int .i64 c.over, .int .i64 c.len] 44)) hy.out)
              go_roundg g
              case measure => omega
              case rel => exact ⟨i + 1, by omega, by first | rfl | simp, hb2.out, hx2.out, hy2.out⟩
        | succ g =>
          have hi : i < a.keys.length := by have := HM.out; omega
          have hiz : (i : Int) < (M : Int) := by omega
          have hi0 : (0 : Int) ≤ (i : Int) := by omega
          obtain ⟨g0, o0, cap0, kk, e, q0, hBk⟩ := (HK.out.on hb.out).at hi
          rw [HM.out] at e
          injection e with e1 e2 e3
          subst e1 e3
          have hq := Q2.out a.keys[i] (List.getElem_mem hi)
          generalize a.keys[i] = c at *
          have d71 := c71 wr _ _ c k hBk (HY.out.on hb.out)
          generalize Lib.compareBytes c k = cv at *
          obtain ⟨kq, kd, rfl, -⟩ := hBk
          have hq9 : ¬ 0 ≤ cv := by omega
          clear hq e2
          go_wp2_with (go_at_call 71; refine d71.mono ?_; rintro e w' ⟨rfl, ew⟩; rw [ew]; clear ew w')
          go_roundg g
          case measure => omega
          case rel => exact ⟨i + 1, by omega, by first | rfl | simp, hb.out, hx.out, hy.out⟩
    | succ g =>
      have hi : i < a.cells.length := by have := HN.out; omega
      have hiz : (i : Int) < (N : Int) := by omega
      have hi0 : (0 : Int) ≤ (i : Int) := by omega
      obtain ⟨g0, o0, cap0, kk, x, e, q0, q1, q2, q3, hBk, hBx, hIo, hIl⟩ := (HC.out.on hb.out).at hi
      rw [HN.out] at e
      injection e with e1 e2 e3
      subst e1 e3
      have hq := Q1.out a.cells[i] (List.getElem_mem hi)
      generalize a.cells[i] = c at *
      have d71 := fun (u : World) (hu : Below wr.heap.size wr u) => c71 u _ _ c.key k (hBk.on hu) ((HY.out.on hb.out).on hu)
      generalize Lib.compareBytes c.key k = cv at *
      obtain ⟨kq, kd, rfl, -⟩ := hBk
      obtain ⟨xp, xc, rfl, -⟩ := hBx
      have hq9 : ¬ 0 ≤ cv := by omega
      clear hq e2
      go_wp2_with (go_at_call 71; refine (d71 _ (bel1 _ _)).mono ?_; rintro e w' ⟨rfl, ew⟩; rw [ew]; clear ew w')
      have hb2 := Lib.hid (bel_then hb.out (bel1 wr (Obj.cells #[.slice kq c.key.length kd, .slice xp c.val.length xc, .int .i64 c.over, .int .i64 c.len] 44)))
      have hx2 := Lib.hid (blk_on (bel1 wr (Obj.cells #[.slice kq c.key.length kd, .slice xp c.val.length xc, .int .i64 c.over, .int .i64 c.len] 44)) hx.out)
      have hy2 := Lib.hid (blk_on (bel1 wr (Obj.cells #[.slice kq c.key.length kd, .slice xp c.val.length xc, .int .i64 c.over, .int .i64 c.len] 44)) hy.out)
      go_roundg g
      case measure => omega
      case rel => exact ⟨i + 1, by omega, by first | rfl | simp, hb2.out, hx2.out, hy2.out⟩
end Go.Proofs.Ytbkpgppaahpalaa
