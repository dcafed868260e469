/-
  The disk of the document's answer, as the same plain data: how one lies in memory; may, call.
-/
import Derived.Test.YtafnelpcnfmhfaaDoorDirty
import Derived.Test.YtafnelpcnfmhfaaDoorRead
import Derived.Test.YtafnelpcnfmhfaaDoorCall
namespace Go.Proofs.YtafnelpcnfmhfaaDoor
open Go.RowKit Go.Maps
set_option linter.unusedVariables false      -- a walk need not use every condition

/-- The document's disk s lies at r: what stays at sb, what is torn at tb, the cache is cv; X: blocks that are others'. -/
structure RAt (w : World) (X : Nat → Prop) (r sb sc tb tc : Nat) (cv : Value) (s : Dsk) : Prop where
  blk : w.heap[r]? = some (.cells #[.slice (some ⟨sb, 0, none⟩) s.N sc, .slice (some ⟨tb, 0, none⟩) s.N tc, cv, .bool s.down, .int .i64 s.fuse, .int .i64 s.calls] 81)
  xr : ¬ X r
  xs : ¬ X sb ∧ sb ≠ r
  xt : ¬ X tb ∧ tb ≠ r
  pos : 1 ≤ s.N
  top : s.N ≤ 16384
  sc : s.N ≤ sc
  tc : s.N ≤ tc
  ss : ∀ i, i < s.N → w.rangeAt sb (i * 128) (enc (s.st i))
  sl : ∀ i, i < s.N → (s.st i).length = 128
  ts : ∀ i, i < s.N → w.cell? ⟨tb, i, none⟩ = some (.bool (s.tn i))
  ca : ∃ p cc, cv = .slice p s.dirty.length cc ∧ (s.dirty = [] ∨ ∃ cb, p = some ⟨cb, 0, none⟩ ∧ ¬ X cb ∧ cb ≠ r ∧ ∀ i (hi : i < s.dirty.length), ∃ bs, s.ca s.dirty[i] = some bs ∧ w.rangeAt cb (i * 129) (.int .i64 (s.dirty[i] : Nat) :: enc bs))
  le : ∀ k bs, s.ca k = some bs → bs.length = 128 ∧ k < s.N
  fu : 0 ≤ s.fuse ∧ s.fuse ≤ 9223372036854775807
  cl : -9223372036854775808 ≤ s.calls ∧ s.calls ≤ 9223372036854775807

theorem six_of {w : World} {g : Nat} {a b c d f h : Value} {t : TypeId} (e : w.heap[g]? = some (.cells #[a, b, c, d, f, h] t)) :
    w.cell? ⟨g, 0, none⟩ = some a ∧ w.cell? ⟨g, 1, none⟩ = some b ∧ w.cell? ⟨g, 2, none⟩ = some c ∧ w.cell? ⟨g, 3, none⟩ = some d ∧ w.cell? ⟨g, 4, none⟩ = some f ∧ w.cell? ⟨g, 5, none⟩ = some h ∧ ∀ i, w.frozen? ⟨g, i, none⟩ = false := by
  refine ⟨?_, ?_, ?_, ?_, ?_, ?_, fun i => ?_⟩ <;> simp [World.cell?, World.frozen?, e]
/-- All that lay in w but the block r lies so in w'. -/
structure KeptR (r : Nat) (w w' : World) : Prop where
  os : w'.os = w.os
  tape : w'.tape = w.tape
  output : w'.output = w.output
  size : w.heap.size ≤ w'.heap.size
  block : ∀ k, k < w.heap.size → k ≠ r → w'.heap[k]? = w.heap[k]?
theorem KeptR.refl (r : Nat) (w : World) : KeptR r w w := ⟨rfl, rfl, rfl, Nat.le_refl _, fun _ _ _ => rfl⟩
theorem KeptR.trans {r : Nat} {a b c : World} (h : KeptR r a b) (k : KeptR r b c) : KeptR r a c :=
  ⟨k.os.trans h.os, k.tape.trans h.tape, k.output.trans h.output, Nat.le_trans h.size k.size, fun i hi h1 => (k.block i (Nat.lt_of_lt_of_le hi h.size) h1).trans (h.block i hi h1)⟩
theorem KeptR.bel {r : Nat} {w w' : World} (h : Below w.heap.size w w') : KeptR r w w' := ⟨h.os, h.tape, h.output, h.size, fun k hk _ => h.block k hk⟩
theorem KeptR.grown {r : Nat} {w w' : World} (h : w.grownBy w' (some r)) : KeptR r w w' :=
  ⟨h.os, h.tape, h.output, h.size, fun k hk h1 => h.block k hk (fun e => h1 (by injection e))⟩
theorem RAt.lts {w : World} {X : Nat → Prop} {r sb sc tb tc : Nat} {cv : Value} {s : Dsk} (h : RAt w X r sb sc tb tc cv s) : r < w.heap.size ∧ sb < w.heap.size ∧ tb < w.heap.size := by
  refine ⟨(Array.getElem?_eq_some_iff.1 h.blk).1, ?_, ?_⟩
  · have hl := h.sl 0 h.pos
    have := h.ss 0 h.pos 0 (.int .u8 ((s.st 0)[0]'(by omega)).toNat) (by unfold enc; rw [List.getElem?_map, List.getElem?_eq_getElem (by omega)]; rfl)
    exact World.block_lt_of_cell? w _ this
  · exact World.block_lt_of_cell? w _ (h.ts 0 h.pos)
/-- Where none of its blocks has turned the disk stands. -/
theorem RAt.same {w w' : World} {X : Nat → Prop} {r sb sc tb tc : Nat} {cv : Value} {s : Dsk} (h : RAt w X r sb sc tb tc cv s) (hs : ∀ k, k < w.heap.size → ¬ X k → w'.heap[k]? = w.heap[k]?) : RAt w' X r sb sc tb tc cv s := by
  have l := h.lts
  refine { h with blk := (hs r l.1 h.xr).trans h.blk, ss := fun i hi => rangeAt_same (h.ss i hi) (hs sb l.2.1 h.xs.1), ts := fun i hi => (World.cell?_of_block (w := w) (hs tb l.2.2 h.xt.1)).trans (h.ts i hi), ca := ?_ }
  obtain ⟨p, cc, hcv, hc⟩ := h.ca
  refine ⟨p, cc, hcv, hc.imp id ?_⟩
  rintro ⟨cb, hp, hX, hr, hrow⟩
  refine ⟨cb, hp, hX, hr, fun i hi => ?_⟩
  obtain ⟨bs, hb, hra⟩ := hrow i hi
  refine ⟨bs, hb, rangeAt_same hra (hs cb ?_ hX)⟩
  exact World.block_lt_of_cell? w _ (hra 0 _ rfl)
theorem RAt.on {w w' : World} {X : Nat → Prop} {r sb sc tb tc : Nat} {cv : Value} {s : Dsk} (h : RAt w X r sb sc tb tc cv s) (hb : Below w.heap.size w w') : RAt w' X r sb sc tb tc cv s := h.same fun k hk _ => hb.block k hk
theorem may49 (w : World) (X : Nat → Prop) (r sb sc tb tc : Nat) (cv : Value) (s : Dsk) (h : RAt w X r sb sc tb tc cv s) (n : Int) :
    Calls Tryd.prog 49 #[.pointer (some ⟨r, 0, none⟩), .int .i64 n] w fun e w' => e = .returned (.int .i64 (s.reach n)) ∧ w' = w := by
  obtain ⟨c0, c1, c2, c3, c4, c5, -⟩ := six_of h.blk
  clear h
  unfold Dsk.reach Dsk.hasB
  generalize s.down = x at *
  cases x
  · by_cases h0 : 0 ≤ n
    · by_cases h1 : n < s.N
      · have t1 : ¬ n < 0 := by omega
        have t2 : ¬ (s.N : Int) ≤ n := by omega
        go_enter Tryd.func49, Tryd.ntmps49
        go_wp2
        go_ret
        exact ⟨by simp, rfl⟩
      · have t1 : ¬ n < 0 := by omega
        have t2 : (s.N : Int) ≤ n := by omega
        go_enter Tryd.func49, Tryd.ntmps49
        go_wp2
        go_ret
        exact ⟨by simp, rfl⟩
    · have t1 : n < 0 := by omega
      go_enter Tryd.func49, Tryd.ntmps49
      go_wp2
      go_ret
      exact ⟨by simp, rfl⟩
  · go_enter Tryd.func49, Tryd.ntmps49
    go_wp2
    go_ret
    exact ⟨by simp, rfl⟩
/-- Cells of the disk itself are written. -/
theorem RAt.turn {w w' : World} {X : Nat → Prop} {r sb sc tb tc : Nat} {cv : Value} {s s' : Dsk} (h : RAt w X r sb sc tb tc cv s)
    (hb : w'.heap[r]? = some (.cells #[.slice (some ⟨sb, 0, none⟩) s'.N sc, .slice (some ⟨tb, 0, none⟩) s'.N tc, cv, .bool s'.down, .int .i64 s'.fuse, .int .i64 s'.calls] 81)) (hk : KeptR r w w')
    (hN : s'.N = s.N) (hst : s'.st = s.st) (htn : s'.tn = s.tn) (hca : s'.ca = s.ca) (hf : 0 ≤ s'.fuse ∧ s'.fuse ≤ 9223372036854775807) (hc : -9223372036854775808 ≤ s'.calls ∧ s'.calls ≤ 9223372036854775807) : RAt w' X r sb sc tb tc cv s' := by
  have l := h.lts
  have hd : s'.dirty = s.dirty := by unfold Dsk.dirty; rw [hN, hca]
  refine ⟨hb, h.xr, h.xs, h.xt, hN ▸ h.pos, hN ▸ h.top, hN ▸ h.sc, hN ▸ h.tc, fun i hi => ?_, fun i hi => ?_, fun i hi => ?_, ?_, ?_, hf, hc⟩
  · rw [hst]; exact rangeAt_same (h.ss i (hN ▸ hi)) (hk.block _ l.2.1 h.xs.2)
  · rw [hst]; exact h.sl i (hN ▸ hi)
  · rw [htn]; exact (World.cell?_of_block (w := w) (hk.block _ l.2.2 h.xt.2)).trans (h.ts i (hN ▸ hi))
  · simp only [hd, hca]
    obtain ⟨p, cc, hcv, hc⟩ := h.ca
    refine ⟨p, cc, hcv, hc.imp id ?_⟩
    rintro ⟨cb, hp, hX, hr, hrow⟩
    refine ⟨cb, hp, hX, hr, fun i hi => ?_⟩
    obtain ⟨bs, hb, hra⟩ := hrow i hi
    exact ⟨bs, hb, rangeAt_same hra (hk.block cb (World.block_lt_of_cell? w _ (hra 0 _ rfl)) hr)⟩
  · rw [hca, hN]; exact h.le
set_option maxHeartbeats 800000 in
theorem call41 (w : World) (X : Nat → Prop) (r sb sc tb tc : Nat) (cv : Value) (s : Dsk) (h : RAt w X r sb sc tb tc cv s) (hd : s.down = false) :
    Calls Tryd.prog 41 #[.pointer (some ⟨r, 0, none⟩)] w fun e w' => e = .returned (.bool (decide (s.call.1 = 0))) ∧ RAt w' X r sb sc tb tc cv s.call.2 ∧ KeptR r w w' := by
  obtain ⟨c0, c1, c2, c3, c4, c5, fr⟩ := six_of h.blk
  have f3 := fr 3
  have f4 := fr 4
  have f5 := fr 5
  have hfu := h.fu
  have hb := h.blk
  rw [hd] at c3 hb
  have H : Hid (RAt w X r sb sc tb tc cv s) := h
  have HB : Hid (w.heap[r]? = some (.cells #[.slice (some ⟨sb, 0, none⟩) s.N sc, .slice (some ⟨tb, 0, none⟩) s.N tc, cv, .bool false, .int .i64 s.fuse, .int .i64 s.calls] 81)) := hb
  clear h fr hb c0 c1 c2
  unfold Dsk.call
  by_cases h1 : s.fuse = 1
  · rw [if_pos h1]
    rw [h1] at c4
    clear hfu
    go_enter Tryd.func41, Tryd.ntmps41
    go_wp2
    go_ret
    have hk := KeptR.grown ((gr_set w r 3 (.bool true)).trans (gr_set _ r 4 (.int .i64 0)))
    refine ⟨rfl, H.out.turn ?_ hk rfl rfl rfl rfl ⟨by simp, by simp⟩ H.out.cl, hk⟩
    rw [blk_set (blk_set HB.out _) _]
    rfl
  · rw [if_neg h1]
    by_cases h2 : 0 < s.fuse
    · rw [if_pos h2]
      have h3 : IntKind.i64.wrap (s.fuse - 1) = s.fuse - 1 := by
        have := hfu.2
        simp [IntKind.wrap, IntKind.signed, IntKind.bits]
        omega
      have HF : Hid (0 < s.fuse ∧ s.fuse ≤ 9223372036854775807) := ⟨h2, hfu.2⟩
      generalize hx : s.fuse = x at *
      go_enter Tryd.func41, Tryd.ntmps41
      go_wp2
      go_ret
      have hk := KeptR.grown ((gr_set w r 4 (.int .i64 (x - 1))).trans (gr_set _ r 5 (.int .i64 (wrap64 (s.calls + 1)))))
      refine ⟨rfl, H.out.turn ?_ hk rfl rfl rfl rfl ⟨by have := HF.out; simp; omega, by have := HF.out; simp; omega⟩ wrap_i64, hk⟩
      rw [blk_set (blk_set HB.out _) _]
      simp [hd]
    · rw [if_neg h2]
      have h0 : s.fuse = 0 := by omega
      rw [h0] at c4
      clear hfu h1 h2
      go_enter Tryd.func41, Tryd.ntmps41
      go_wp2
      go_ret
      have hk := KeptR.grown (gr_set w r 5 (.int .i64 (wrap64 (s.calls + 1))))
      refine ⟨rfl, H.out.turn ?_ hk rfl rfl rfl rfl H.out.fu wrap_i64, hk⟩
      rw [blk_set HB.out _]
      simp [hd]
end Go.Proofs.YtafnelpcnfmhfaaDoor
