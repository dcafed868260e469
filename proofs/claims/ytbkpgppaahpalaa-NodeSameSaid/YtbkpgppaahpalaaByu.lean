/-
  Bytes of package node, of any node; begun.
-/
import Derived.Test.YtbkpgppaahpalaaByt
namespace Go.Proofs.Ytbkpgppaahpalaa
open Go.RowKit
set_option linter.unusedVariables false      -- a walk need not use every condition

def bytesE (n : Nd) : Int := if may n then (if (form n).length ≤ 448 then 0 else 3) else 80
def bytesB (n : Nd) : List UInt8 := if may n then (if (form n).length ≤ 448 then form n else []) else []
set_option maxHeartbeats 4000000 in
set_option maxRecDepth 100000 in
theorem bytes10 (w : World) (v : Value) (n : Nd) (h : NdS w v n) (ht : may n = true → (form n).length ≤ 4611686018427387904) :
    Calls Try.prog 10 #[v] w fun e w' => ∃ v', e = .returned (.tuple #[v', .int .i64 (bytesE n)]) ∧ Bts w' w.heap.size v' (bytesB n) ∧ Below w.heap.size w w' := by
  have c13 := fun u hu => check13 u v n (h.on hu)
  have c15 := fun u hu hm => size15 u v n (h.on hu) (ht hm)
  have c36 := fun u hu hl hm => leafBytes36 u v n (h.on hu) hl hm
  have c37 := fun u hu hl hm => innerBytes37 u v n (h.on hu) hl hm
  obtain ⟨vc, vk, vi, rfl, hC, hK, hI⟩ := h
  unfold bytesE bytesB
  obtain ⟨pc, cc, rfl, -, lc⟩ := hC.hdr
  obtain ⟨pk, ck, rfl, -, lk⟩ := hK.hdr
  obtain ⟨pi, ci, rfl, -, li⟩ := hI.hdr
  clear hC hK hI
  cases hm : may n with
  | false =>
    rw [hm] at c13
    rw [if_neg (by decide), if_neg (by decide)]
    clear c15 c36 c37 ht hm
    have e80 : chkE false = 80 := rfl
    rw [e80] at c13
    go_enter Try.func10, Try.ntmps10
    go_wp2_with (go_at_call 13; refine (c13 _ (bel1 _ _)).mono ?_; rintro e w1 ⟨rfl, hB1⟩)
    go_ret2
    exact ⟨_, rfl, bts_nil _ _, (bel1 _ _).trans (hB1.mono (by simp))⟩
  | true =>
    rw [hm] at c13
    have e0 : chkE true = 0 := rfl
    rw [e0] at c13
    replace c15 := fun u hu => c15 u hu hm
    replace ht := ht hm
    rw [if_pos rfl, if_pos rfl]
    clear hm
    by_cases hs : (form n).length ≤ 448
    · rw [if_pos hs, if_pos hs]
      have hsz : ¬ (448 : Int) < ((form n).length : Int) := by omega
      cases hl : n.leaf with
      | true =>
        replace c36 := fun u hu => c36 u hu hl hs
        rw [hl] at c13 c15 c36
        generalize form n = F at *
        clear c37 hs ht hl
        go_enter Try.func10, Try.ntmps10
        go_wp2_with (first
          | (go_at_call 13; refine (c13 _ (bel1 _ _)).mono ?_; rintro e w1 ⟨rfl, hB1⟩; obtain ⟨q0, q1, q2, q3⟩ := four_of (blk_on hB1 (World.alloc_heap_new w _)); have hb1 := (bel1 w _).trans (hB1.mono (by simp)))
          | (go_at_call 15; refine (c15 _ hb1).mono ?_; rintro e w2 ⟨rfl, hB2⟩; obtain ⟨p0, p1, p2, p3⟩ := four_of (blk_on hB2 (blk_on hB1 (World.alloc_heap_new w _))); have hb2 := hb1.trans (hB2.mono hb1.size))
          | (go_at_call 36; refine (c36 _ hb2).mono ?_; rintro e w3 ⟨v3, rfl, hb3, hB3⟩))
        go_ret2
        exact ⟨_, rfl, hb3.mono hb2.size, hb2.trans (hB3.mono hb2.size)⟩
      | false =>
        replace c37 := fun u hu => c37 u hu hl hs
        rw [hl] at c13 c15 c37
        generalize form n = F at *
        clear c36 hs ht hl
        go_enter Try.func10, Try.ntmps10
        go_wp2_with (first
          | (go_at_call 13; refine (c13 _ (bel1 _ _)).mono ?_; rintro e w1 ⟨rfl, hB1⟩; obtain ⟨q0, q1, q2, q3⟩ := four_of (blk_on hB1 (World.alloc_heap_new w _)); have hb1 := (bel1 w _).trans (hB1.mono (by simp)))
          | (go_at_call 15; refine (c15 _ hb1).mono ?_; rintro e w2 ⟨rfl, hB2⟩; obtain ⟨p0, p1, p2, p3⟩ := four_of (blk_on hB2 (blk_on hB1 (World.alloc_heap_new w _))); have hb2 := hb1.trans (hB2.mono hb1.size))
          | (go_at_call 37; refine (c37 _ hb2).mono ?_; rintro e w3 ⟨v3, rfl, hb3, hB3⟩))
        go_ret2
        exact ⟨_, rfl, hb3.mono hb2.size, hb2.trans (hB3.mono hb2.size)⟩
    · rw [if_neg hs, if_neg hs]
      have hsz : (448 : Int) < ((form n).length : Int) := by omega
      clear c36 c37
      generalize (form n).length = F at *
      go_enter Try.func10, Try.ntmps10
      go_wp2_with (first
        | (go_at_call 13; refine (c13 _ (bel1 _ _)).mono ?_; rintro e w1 ⟨rfl, hB1⟩; obtain ⟨q0, q1, q2, q3⟩ := four_of (blk_on hB1 (World.alloc_heap_new w _)); have hb1 := (bel1 w _).trans (hB1.mono (by simp)))
        | (go_at_call 15; refine (c15 _ hb1).mono ?_; rintro e w2 ⟨rfl, hB2⟩))
      go_ret2
      exact ⟨_, rfl, bts_nil _ _, hb1.trans (hB2.mono hb1.size)⟩
end Go.Proofs.Ytbkpgppaahpalaa
