/-
  What pairsByKey of package value does where there is no pair.
-/
import Derived.Test.YtbicodlclmdgaaaGreatDoorPairs
namespace Go.Proofs.YtbicodlclmdgaaaGreatDoor
open Go.RowKit Go.Shelf
open Go.Sort (HoldsK flatK get_flatK)
attribute [local go_sem] Oper.semAt_some

set_option maxRecDepth 100000 in
set_option maxHeartbeats 2000000 in
theorem chunk90z (n : Nat) (l Bs : Nat) (p : Option Addr) (cap : Nat) (J Jx : List (Fin 0) → World → Prop) (W : World)
    (hBs : W.cell? ⟨Bs, 0, none⟩ = some (.slice p 0 cap)) (h0 : J [] W) :
    CallsIn Fence.wide n Tryz.prog 90 #[.func (.yield l) #[] #[], .pointer (some ⟨Bs, 0, none⟩), .pointer (some ⟨Bs + 1, 0, none⟩)] W fun e W' => (∃ v, e = .returned v) ∧
      ((∃ ys, ys = List.finRange 0 ∧ J ys W') ∨ (∃ pre, True ∧ Jx pre W')) := by
  refine callsIn_of_wp Tryz.func90 rfl trivial ?_ rfl
  simp only [Tryz.ntmps90, List.size_toArray, List.length_cons, List.length_nil, Nat.reduceAdd, Nat.reduceSub, Array.replicate_succ, Array.replicate_zero, List.push_toArray, List.append_toArray, List.nil_append, List.cons_append]
  gi_wp2
  gi_loopw [4] (fun i wr => i = .int .i64 0 ∧ wr = W) (fun i _ => (intOf i).toNat)
  case atStart => exact ⟨rfl, rfl⟩
  case round =>
    obtain ⟨rfl, rfl⟩ := hrel
    gi_wp2
    go_end0
    exact ⟨⟨_, rfl⟩, .inl ⟨_, rfl, h0⟩⟩
theorem chunk_stopsz (n : Nat) (Bs : Nat) (p : Option Addr) (cap : Nat) (f : Fin 0 → Array Value) (w : World) (hB : Bs + 1 < w.heap.size)
    (hBs : w.cell? ⟨Bs, 0, none⟩ = some (.slice p 0 cap)) :
    SeqStopsK Fence.wide n Tryz.prog 90 #[.pointer (some ⟨Bs, 0, none⟩), .pointer (some ⟨Bs + 1, 0, none⟩)] f (KeepBox Bs)
      (fun ys => ys = List.finRange 0) (fun _ => True) 0 w := fun l J Jx W hW _ _ _ h0 =>
  chunk90z n l Bs p cap J Jx W ((hW.cell (p := ⟨Bs, 0, none⟩) (by show Bs < _; omega)).trans hBs) h0

set_option maxRecDepth 100000 in
set_option maxHeartbeats 4000000 in
theorem pairs44z (p : Option Addr) (cap : Nat) (w : World) (pr : Fin 0 → Pr w) :
    CallsIn Fence.wide 3 Tryz.prog 44 #[.slice p 0 cap] w fun e w' => Sorted44 w 0 pr e w' := by
  obtain ⟨i0, hi, hz0, hz1, hz2⟩ := info_parts info51
  obtain ⟨wm, hmk, hrow0, hg0⟩ := run_make_own (P := Tryz.prog) (w := w) w.heap.size 48 51 i0 zPair 8 Tryz.underlying48 hi hz0 hz1 .i64 .i64 0 (by rw [hz2]; omega) (by unfold maxLen; omega) (Nat.le_refl _)
  replace hmk : (Instr.makeSlice 48 (.int .i64 0) (.int .i64 0)).run Tryz.prog w = .ok (.slice (some ⟨w.heap.size, 0, none⟩) 0 0) wm := hmk
  refine callsIn_of_wp_marks Tryz.func44 rfl trivial ?_ rfl
  simp only [Tryz.ntmps44, List.size_toArray, List.length_cons, List.length_nil, Nat.reduceAdd, Nat.reduceSub, Array.replicate_succ, Array.replicate_zero, List.push_toArray, List.append_toArray, List.nil_append, List.cons_append]
  gi_wp2_with (refine ⟨trivial, ?_⟩; gi_at_call 63; refine (callsIn_wide.2 (chunk63 _ _ _ _ rfl _)).mono ?_; rintro e w' ⟨rfl, rfl⟩)
  obtain ⟨B, hB⟩ : ∃ B, wm.heap.size = B := ⟨_, rfl⟩
  have hsz0 : w.heap.size < B := by
    rw [← hB]
    rcases hrow0.lt _ rfl with ⟨_, h⟩
    exact h
  obtain ⟨W0, hW0⟩ : ∃ W0, ((wm.alloc (.cells #[.slice (some ⟨w.heap.size, 0, none⟩) 0 0] 48)).alloc (.cells #[.slice p 0 cap] 22)).alloc (.cells #[.int .i64 2] 3) = W0 := ⟨_, rfl⟩
  have hs1 : (wm.alloc (.cells #[.slice (some ⟨w.heap.size, 0, none⟩) 0 0] 48)).heap.size = B + 1 := by rw [World.size_alloc, hB]
  have bO := Boxed.new wm 48 (.slice (some ⟨w.heap.size, 0, none⟩) 0 0)
  have bS := Boxed.new (wm.alloc (.cells #[.slice (some ⟨w.heap.size, 0, none⟩) 0 0] 48)) 22 (.slice p 0 cap)
  have hB0 : Below w.heap.size w W0 := by
    rw [← hW0]
    exact ((((Below.refl _ w).grown hg0 (Nat.le_refl _) (fun k e => by cases e)).alloc (by omega) _).alloc (by rw [World.size_alloc]; omega) _).alloc (by rw [World.size_alloc, World.size_alloc]; omega) _
  have bO' := (bO.alloc (.cells #[.slice p 0 cap] 22)).alloc (.cells #[.int .i64 2] 3)
  have bS' := bS.alloc (.cells #[.int .i64 2] 3)
  have hsz : W0.heap.size = B + 3 := by rw [← hW0]; simp [hB]
  rw [hs1] at bS' 
  rw [hB] at bO'
  rw [hW0] at bO' bS'
  simp only [hW0, hB]
  clear bO bS hrow0
  refine wpIn_rangeFunc_ownG rfl (by omega) (gf := 90) (lb := #[.pointer (some ⟨B + 1, 0, none⟩), .pointer (some ⟨B + 1 + 1, 0, none⟩)]) rfl trivial (enters_of Tryz.func90 (by kernel_rfl) rfl)
    (chunk_stopsz 2 (B + 1) p cap (fun x => x.elim0) W0 (by omega) bS'.cell) (fun h k => ⟨k.1.trans h.1, k.2.trans h.2⟩) ?hKb (Below.refl _ _) (fun x => x.elim0)
    (fun _ W => Boxed W B 48 (.slice (some ⟨w.heap.size, 0, none⟩) 0 0) ∧ Below w.heap.size w W)
    (fun _ _ _ => False)
    ?hI
    (fun _ _ _ _ _ hs _ _ => hs)
    ⟨bO', hB0⟩
    (fun x => x.elim0) ?assign ?body ?done ?stop
  case hKb =>
    intro W l o o' hl _ _ _
    exact ⟨World.cell?_of_block (World.putObj_heap_other (by show B + 1 ≠ l; omega)), World.cell?_of_block (World.putObj_heap_other (by show B + 1 + 1 ≠ l; omega))⟩
  case hI =>
    exact OwnFrom.and (Own.from (boxed_own _ _ _) _) (ownFrom_below (Nat.le_refl _) (by omega))
  case assign =>
    intro l x
    exact x.elim0
  case body =>
    intro l pre x
    exact x.elim0
  case done =>
    rintro D ys W hD rfl ⟨hv, hBW⟩ hK
    have hc := hv.cell
    have hvl := hv.lt
    have hnb : B ≠ w.heap.size := by omega
    have hDl : D < W.heap.size := (Array.getElem?_eq_some_iff.1 hK).1
    have hH : HoldsK encP 8 W w.heap.size 0 (Array.ofFn pr) := fun j hj => absurd hj (by simp)
    have cs := sort_pairs W hBW w.heap.size 0 0 (Nat.le_refl _) (by omega) (Array.ofFn pr) hH (by simp)
    rw [Array.size_ofFn] at cs
    have hDg : D ≠ w.heap.size := by omega
    gi_wp2_with (refine ⟨trivial, ?_⟩; gi_at_call 64; refine (callsIn_wide.2 cs).mono ?_; rintro e w' ⟨rfl, d', nn, os, hp, hs, rfl⟩; have hcB : (sortWorldK encP 8 W w.heap.size 0 nn d' os).cell? ⟨B, 0, none⟩ = some (.slice (some ⟨w.heap.size, 0, none⟩) 0 0) := (World.cell?_of_block (heap_sortK encP 8 W w.heap.size 0 nn d' os B hnb hv.lt)).trans hc)
    refine ⟨by simp, .inl ⟨_, _, rfl, run_takeDeferred ((heap_sortK encP 8 W w.heap.size 0 nn d' os D hDg hDl).trans hK), ?_⟩⟩
    refine ⟨_, results_tmp rfl _ _ _, w.heap.size, 0, d', rfl, Nat.le_refl _, ?_, Nat.le_refl _, Nat.zero_le _, ?_, ?_, hp, hs, ?_⟩
    · have h := size_sortWorldK_c encP 8 W w.heap.size 0 nn d' os
      show w.heap.size < ((sortWorldK encP 8 W w.heap.size 0 nn d' os).putObj D _).heap.size
      rw [size_putObj]; omega
    · rw [hp.1]; simp
    · intro j hj
      have h0 : d'.size = 0 := by rw [hp.1]; simp
      have h1 : j < d'.size * 8 := by simpa using hj
      omega
    · refine (hBW.trans (below_sortK encP 8 W w.heap.size 0 nn d' os _ (Nat.le_refl _) hBW.size)).trans (belowK_b (w := w) (Nat.le_refl _) _ D _ _ (by omega) ((heap_sortK encP 8 W w.heap.size 0 nn d' os D hDg hDl).trans hK) rfl rfl)
  case stop =>
    rintro D c pre W _ _ h _
    exact h.elim
end Go.Proofs.YtbicodlclmdgaaaGreatDoor
