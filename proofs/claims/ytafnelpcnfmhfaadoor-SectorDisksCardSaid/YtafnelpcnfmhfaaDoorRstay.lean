/-
  What stays of the document's disk: a sector of the cache is written to where it belongs.
-/
import Derived.Test.YtafnelpcnfmhfaaDoorRnew
import Derived.Test.YtafnelpcnfmhfaaDoorArr
import Derived.Deep.AppendLies
import Derived.Lib.Hide
namespace Go.Proofs.YtafnelpcnfmhfaaDoor
open Go.RowKit Go.Maps
set_option linter.unusedVariables false      -- a walk need not use every condition

theorem RAt.whole {w : World} {X : Nat → Prop} {r sb sc tb tc : Nat} {cv : Value} {s : Dsk} (h : RAt w X r sb sc tb tc cv s) : w.rangeAt sb 0 (secs s.st s.N) := fun j v hv => by
  have hj : j < s.N * 128 := by have := (List.getElem?_eq_some_iff.1 hv).1; rwa [len_secs h.sl] at this
  have hk : j / 128 < s.N := by omega
  have e : (j / 128) * 128 + j % 128 = j := by omega
  rw [← e, secs_at h.sl _ hk _ (Nat.mod_lt _ (by decide))] at hv
  have := h.ss (j / 128) hk (j % 128) v hv
  rwa [show (j / 128) * 128 + j % 128 = 0 + j by omega] at this
def bools (f : Nat → Bool) (n : Nat) : List Value := (List.range n).map fun i => .bool (f i)
/-- A row of one's own, and where it lies. -/
theorem row_there {w : World} {base e size n cap g : Nat} {xs : List Value} (h : w.ownsRow base e size (.slice (some ⟨g, 0, none⟩) n cap) n xs) : base ≤ g ∧ n ≤ cap ∧ w.rangeAt g 0 xs ∧ w.there g 0 xs.length := by
  obtain ⟨-, h⟩ := h
  rcases h with ⟨e0, -⟩ | ⟨g', cap', cur, e0, hb, hg, hn, hm, hs, ht⟩
  · cases e0
  · injection e0 with e1 e2 e3
    injection e1 with e1
    injection e1 with e1
    subst e1; subst e3
    have hle : xs.length ≤ cur.size := by
      rw [← ht, List.length_take, Array.length_toList]; omega
    refine ⟨hb, hn, fun j v hv => ?_, fun j hj => ?_⟩
    · have hj := (List.getElem?_eq_some_iff.1 hv).1
      rw [Nat.zero_add, cell_of_row _ _ j _ _ _ hg, ← Array.getElem?_toList, ← hv, ← ht, List.getElem?_take_of_lt]
      rw [← ht, List.length_take] at hj
      omega
    · rw [Nat.zero_add, cell_of_row _ _ j _ _ _ hg]
      refine ⟨by rw [Array.getElem?_eq_getElem (by omega)]; rfl, ?_⟩
      simp only [World.frozen?, hg]
      simp
theorem rangeAt_grown {w w' : World} {g : Nat} {r : Option Nat} {o : Nat} {l : List Value} (h : w.rangeAt g o l) (hg : w.grownBy w' r) (hlt : g < w.heap.size) (hr : r ≠ some g) : w'.rangeAt g o l :=
  rangeAt_same h (hg.block g hlt (fun e => hr e.symm))
theorem RAt.newS {w w' : World} {X : Nat → Prop} {r sb sc tb tc g cap : Nat} {cv : Value} {s : Dsk} {st' : Nat → List UInt8} (h : RAt w X r sb sc tb tc cv s)
    (hb : w'.heap[r]? = some (.cells #[.slice (some ⟨g, 0, none⟩) s.N cap, .slice (some ⟨tb, 0, none⟩) s.N tc, cv, .bool s.down, .int .i64 s.fuse, .int .i64 s.calls] 81))
    (hk : ∀ b, b < w.heap.size → b ≠ r → w'.heap[b]? = w.heap[b]?) (hx : ¬ X g ∧ g ≠ r) (hc : s.N ≤ cap) (hs : ∀ i, i < s.N → w'.rangeAt g (i * 128) (enc (st' i))) (hl : ∀ i, i < s.N → (st' i).length = 128) : RAt w' X r g cap tb tc cv { s with st := st' } := by
  have l := h.lts
  refine ⟨hb, h.xr, hx, h.xt, h.pos, h.top, hc, h.tc, hs, hl, fun i hi => ?_, ?_, h.le, h.fu, h.cl⟩
  · exact (World.cell?_of_block (w := w) (hk _ l.2.2 h.xt.2)).trans (h.ts i hi)
  · obtain ⟨p, cc, hcv, hc⟩ := h.ca
    refine ⟨p, cc, hcv, hc.imp id ?_⟩
    rintro ⟨cb, hp, hX, hr, hrow⟩
    refine ⟨cb, hp, hX, hr, fun i hi => ?_⟩
    obtain ⟨bs, hb, hra⟩ := hrow i hi
    exact ⟨bs, hb, rangeAt_same hra (hk cb (World.block_lt_of_cell? w _ (hra 0 _ rfl)) hr)⟩
theorem RAt.newT {w w' : World} {X : Nat → Prop} {r sb sc tb tc g cap : Nat} {cv : Value} {s : Dsk} {tn' : Nat → Bool} (h : RAt w X r sb sc tb tc cv s)
    (hb : w'.heap[r]? = some (.cells #[.slice (some ⟨sb, 0, none⟩) s.N sc, .slice (some ⟨g, 0, none⟩) s.N cap, cv, .bool s.down, .int .i64 s.fuse, .int .i64 s.calls] 81))
    (hk : ∀ b, b < w.heap.size → b ≠ r → w'.heap[b]? = w.heap[b]?) (hx : ¬ X g ∧ g ≠ r) (hc : s.N ≤ cap) (hs : ∀ i, i < s.N → w'.cell? ⟨g, i, none⟩ = some (.bool (tn' i))) : RAt w' X r sb sc g cap cv { s with tn := tn' } := by
  have l := h.lts
  refine ⟨hb, h.xr, h.xs, hx, h.pos, h.top, h.sc, hc, fun i hi => rangeAt_same (h.ss i hi) (hk _ l.2.1 h.xs.2), h.sl, hs, ?_, h.le, h.fu, h.cl⟩
  obtain ⟨p, cc, hcv, hc⟩ := h.ca
  refine ⟨p, cc, hcv, hc.imp id ?_⟩
  rintro ⟨cb, hp, hX, hr, hrow⟩
  refine ⟨cb, hp, hX, hr, fun i hi => ?_⟩
  obtain ⟨bs, hb, hra⟩ := hrow i hi
  exact ⟨bs, hb, rangeAt_same hra (hk cb (World.block_lt_of_cell? w _ (hra 0 _ rfl)) hr)⟩
theorem size_setsR (b : Nat) : ∀ (vs : List Value) (o : Nat) (w : World), (w.setCells b o vs).heap.size = w.heap.size
  | [], _, _ => rfl
  | v :: vs, o, w => by rw [World.setCells, size_setsR b vs]; simp [World.setCell]
theorem secs_part {w : World} {g N : Nat} {st : Nat → List UInt8} (h : w.rangeAt g 0 (secs st N)) (hl : ∀ i, i < N → (st i).length = 128) : ∀ i, i < N → w.rangeAt g (i * 128) (enc (st i)) := fun i hi j v hv => by
  have hj : j < 128 := by have := (List.getElem?_eq_some_iff.1 hv).1; rwa [len_enc, hl i hi] at this
  have := h (i * 128 + j) v (by rw [secs_at hl i hi j hj]; exact hv)
  rwa [Nat.zero_add] at this
theorem secs_set {w : World} {g N k : Nat} {st : Nat → List UInt8} (h : w.rangeAt g 0 (secs st N)) (ht : w.there g 0 (N * 128)) (hl : ∀ i, i < N → (st i).length = 128) (hk : k < N) {bs : List UInt8} (hb : bs.length = 128) :
    ∀ i, i < N → (w.setCells g (k * 128) (enc bs)).rangeAt g (i * 128) (enc (upd st k bs i)) := fun i hi => by
  by_cases e : i = k
  · subst e
    rw [upd_same]
    exact World.rangeAt_setCells_same w g (i * 128) (enc bs) (fun j hj => by have := ht (i * 128 + j) (by rw [len_enc, hb] at hj; omega); simpa using this)
  · rw [upd_other _ _ e]
    refine World.rangeAt_setCells_apart (secs_part h hl i hi) g (k * 128) (enc bs) (.inr ?_)
    rw [len_enc, len_enc, hl i hi, hb]
    omega
/-- What stays is laid anew, one sector of it turned. -/
theorem stay_S {W1 W2 : World} {X : Nat → Prop} {r sb sc tb tc g cap k : Nat} {cv : Value} {s : Dsk} {bs : List UInt8} (h : RAt W1 X r sb sc tb tc cv s) (hX : ∀ k, X k → k < W1.heap.size) (hB : Below W1.heap.size W1 W2) (hg : g = W1.heap.size) (hlt : g < W2.heap.size) (hcap : s.N ≤ cap)
    (hrow : W2.rangeAt g 0 (secs s.st s.N)) (hth : W2.there g 0 (s.N * 128)) (hk : k < s.N) (hl : bs.length = 128) :
    RAt ((W2.setCells g (k * 128) (encA bs).toList).setCell ⟨r, 0, none⟩ (.slice (some ⟨g, 0, none⟩) s.N cap)) X r g cap tb tc cv { s with st := upd s.st k bs } ∧
    KeptR r W1 ((W2.setCells g (k * 128) (encA bs).toList).setCell ⟨r, 0, none⟩ (.slice (some ⟨g, 0, none⟩) s.N cap)) ∧
    ((W2.setCells g (k * 128) (encA bs).toList).setCell ⟨r, 0, none⟩ (.slice (some ⟨g, 0, none⟩) s.N cap)).heap.size = W2.heap.size ∧
    (W2.setCells g (k * 128) (encA bs).toList).cell? ⟨r, 0, none⟩ = some (.slice (some ⟨sb, 0, none⟩) s.N sc) ∧ (W2.setCells g (k * 128) (encA bs).toList).frozen? ⟨r, 0, none⟩ = false := by
  subst hg
  have l := h.lts
  have hs := hB.size
  have hg3 := gr_sets W1.heap.size (encA bs).toList (k * 128) W2
  have hz3 := size_setsR W1.heap.size (encA bs).toList (k * 128) W2
  have hra3 := secs_set hrow hth h.sl hk hl
  have hb3 : (W2.setCells W1.heap.size (k * 128) (encA bs).toList).heap[r]? = W2.heap[r]? := hg3.block r (by omega) (fun e => by injection e with e; omega)
  have H2 := h.on hB
  obtain ⟨d0, -, -, -, -, -, dr⟩ := six_of H2.blk
  have hg4 := gr_set (W2.setCells W1.heap.size (k * 128) (encA bs).toList) r 0 (.slice (some ⟨W1.heap.size, 0, none⟩) s.N cap)
  have hblk : ∀ b, b < W1.heap.size → b ≠ r → ((W2.setCells W1.heap.size (k * 128) (encA bs).toList).setCell ⟨r, 0, none⟩ (.slice (some ⟨W1.heap.size, 0, none⟩) s.N cap)).heap[b]? = W1.heap[b]? := fun b hb hbr => by
    rw [hg4.block b (by omega) (fun e => hbr (by injection e)), hg3.block b (by omega) (fun e => by injection e with e; omega)]
    exact hB.block b hb
  refine ⟨?_, ⟨hg4.os.trans (hg3.os.trans hB.os), hg4.tape.trans (hg3.tape.trans hB.tape), hg4.output.trans (hg3.output.trans hB.output), ?_, hblk⟩, ?_, (World.cell?_of_block (w := W2) (a := ⟨r, 0, none⟩) hb3).trans d0, (World.frozen?_of_block (w := W2) (a := ⟨r, 0, none⟩) hb3).trans (dr 0)⟩
  · refine h.newS ?_ hblk ⟨fun h' => ?_, by omega⟩ hcap (fun i hi => ?_) (fun i hi => ?_)
    · rw [blk_set (hb3.trans H2.blk) _]; rfl
    · have := hX _ h'; omega
    · exact rangeAt_grown (hra3 i hi) hg4 (by show W1.heap.size < (W2.setCells W1.heap.size (k * 128) (encA bs).toList).heap.size; rw [hz3]; omega) (fun e => by injection e with e; omega)
    · unfold upd; split
      · exact hl
      · exact h.sl i hi
  · have := hg4.size; omega
  · simp [World.setCell, hz3]
theorem bools_at {f : Nat → Bool} {n i : Nat} (hi : i < n) : (bools f n)[i]? = some (.bool (f i)) := by
  unfold bools
  rw [List.getElem?_map, List.getElem?_range hi]; rfl
/-- What is torn is laid anew, one of them not. -/
theorem stay_T {W1 W2 : World} {X : Nat → Prop} {r sb sc tb tc g cap k : Nat} {cv : Value} {s : Dsk} (h : RAt W1 X r sb sc tb tc cv s) (hX : ∀ k, X k → k < W1.heap.size) (hB : Below W1.heap.size W1 W2) (hg : g = W1.heap.size) (hlt : g < W2.heap.size) (hcap : s.N ≤ cap)
    (hrow : W2.rangeAt g 0 (bools s.tn s.N)) (hth : W2.there g 0 s.N) (hk : k < s.N) :
    RAt ((W2.setCell ⟨g, k, none⟩ (.bool false)).setCell ⟨r, 1, none⟩ (.slice (some ⟨g, 0, none⟩) s.N cap)) X r sb sc g cap cv { s with tn := upd s.tn k false } ∧
    KeptR r W1 ((W2.setCell ⟨g, k, none⟩ (.bool false)).setCell ⟨r, 1, none⟩ (.slice (some ⟨g, 0, none⟩) s.N cap)) ∧
    (W2.setCell ⟨g, k, none⟩ (.bool false)).cell? ⟨r, 1, none⟩ = some (.slice (some ⟨tb, 0, none⟩) s.N tc) ∧ (W2.setCell ⟨g, k, none⟩ (.bool false)).frozen? ⟨r, 1, none⟩ = false := by
  subst hg
  have l := h.lts
  have hs := hB.size
  have hg3 := gr_set W2 W1.heap.size k (.bool false)
  have hz3 : (W2.setCell ⟨W1.heap.size, k, none⟩ (.bool false)).heap.size = W2.heap.size := by simp [World.setCell]
  have hb3 : (W2.setCell ⟨W1.heap.size, k, none⟩ (.bool false)).heap[r]? = W2.heap[r]? := hg3.block r (by omega) (fun e => by injection e with e; omega)
  have H2 := h.on hB
  obtain ⟨-, d1, -, -, -, -, dr⟩ := six_of H2.blk
  have hg4 := gr_set (W2.setCell ⟨W1.heap.size, k, none⟩ (.bool false)) r 1 (.slice (some ⟨W1.heap.size, 0, none⟩) s.N cap)
  have hblk : ∀ b, b < W1.heap.size → b ≠ r → ((W2.setCell ⟨W1.heap.size, k, none⟩ (.bool false)).setCell ⟨r, 1, none⟩ (.slice (some ⟨W1.heap.size, 0, none⟩) s.N cap)).heap[b]? = W1.heap[b]? := fun b hb hbr => by
    rw [hg4.block b (by omega) (fun e => hbr (by injection e)), hg3.block b (by omega) (fun e => by injection e with e; omega)]
    exact hB.block b hb
  refine ⟨?_, ⟨hg4.os.trans (hg3.os.trans hB.os), hg4.tape.trans (hg3.tape.trans hB.tape), hg4.output.trans (hg3.output.trans hB.output), ?_, hblk⟩, (World.cell?_of_block (w := W2) (a := ⟨r, 1, none⟩) hb3).trans d1, (World.frozen?_of_block (w := W2) (a := ⟨r, 1, none⟩) hb3).trans (dr 1)⟩
  · refine h.newT ?_ hblk ⟨fun h' => ?_, by omega⟩ hcap (fun i hi => ?_)
    · rw [blk_set (hb3.trans H2.blk) _]; rfl
    · have := hX _ h'; omega
    · rw [World.cell?_of_block (w := W2.setCell ⟨W1.heap.size, k, none⟩ (.bool false)) (a := ⟨W1.heap.size, i, none⟩) (hg4.block W1.heap.size (by rw [hz3]; omega) (fun e => by injection e with e; omega))]
      by_cases e : i = k
      · subst e
        rw [upd_same, World.cell?_setCell_same' _ _ _ (by have := (hth i hi).1; rwa [Nat.zero_add] at this)]
      · rw [upd_other _ _ e, World.cell?_setCell_other _ _ _ _ (fun e2 => e (by injection e2 with _ e2; omega))]
        have := hrow i _ (bools_at hi)
        rwa [Nat.zero_add] at this
  · have := hg4.size; omega
set_option maxHeartbeats 1600000 in
set_option maxRecDepth 100000 in
theorem rstay42 (w : World) (X : Nat → Prop) (hX : ∀ k, X k → k < w.heap.size) (r sb sc tb tc : Nat) (cv : Value) (s : Dsk) (h : RAt w X r sb sc tb tc cv s) (k : Nat) (hk : k < s.N) (bs : List UInt8) (hl : bs.length = 128) :
    Calls Tryd.prog 42 #[.pointer (some ⟨r, 0, none⟩), .agg (Value.int .i64 k :: enc bs).toArray] w fun e w' => (∃ v, e = .returned v) ∧ (∃ sb' sc' tb' tc', RAt w' X r sb' sc' tb' tc' cv { s with st := upd s.st k bs, tn := upd s.tn k false }) ∧ KeptR r w w' := by
  have l := h.lts
  have hb1 : Below w.heap.size w (w.alloc (.cells (Value.int .i64 k :: enc bs).toArray 86)) := bel1 w _
  have h1 := h.on hb1
  obtain ⟨c0, c1, c2, c3, c4, c5, fr⟩ := six_of h1.blk
  have HH : Hid (RAt (w.alloc (.cells (Value.int .i64 k :: enc bs).toArray 86)) X r sb sc tb tc cv s) := h1
  have hrc := range_new w (Value.int .i64 k :: enc bs) 86
  have hh0 : (w.alloc (.cells (Value.int .i64 k :: enc bs).toArray 86)).cell? ⟨w.heap.size, 0, none⟩ = some (.int .i64 k) := hrc 0 _ rfl
  have hh1 : (w.alloc (.cells (Value.int .i64 k :: enc bs).toArray 86)).rangeAt w.heap.size 1 (enc bs) := fun j v hv => by
    have := hrc (j + 1) v (by simpa using hv)
    rwa [show 0 + (j + 1) = 1 + j by omega] at this
  obtain ⟨i0, hi0, hzz⟩ := Option.map_eq_some_iff.1 info26
  simp only [Prod.mk.injEq] at hzz
  obtain ⟨hz0, hs0, hy0⟩ := hzz
  obtain ⟨i4, hi4, hzz⟩ := Option.map_eq_some_iff.1 info4
  simp only [Prod.mk.injEq] at hzz
  obtain ⟨hz4, hs4, hy4⟩ := hzz
  have hzs0 : (Value.agg (encA zer)).cells.size = 128 := by show (encA zer).size = 128; rw [size_encA, len_zer]
  have hls : (secs s.st s.N).length = s.N * 128 := len_secs h.sl
  have htop := h.top
  have hpos := h.pos
  have hnews : ∀ j u, (secs s.st s.N)[j]? = some u → (w.alloc (.cells (Value.int .i64 k :: enc bs).toArray 86)).cell? ((⟨sb, 0, none⟩ : Addr).add j) = some u := fun j u hu => by
    have := h1.whole j u hu
    by_cases hj : j = 0 <;> simpa [Addr.add, hj] using this
  have hi48 : (Tryd.prog.info? 26).map (·.size) = some (enc bs).length := by rw [size26, len_enc, hl]
  have hkz : (0 : Int) ≤ (k : Int) := by omega
  have hkN : (k : Int) < (s.N : Int) := by omega
  have HX : Hid (∀ k, X k → k < w.heap.size) := hX
  have hse : (encA bs).size = 128 := by rw [size_encA, hl]
  clear h h1 hrc c2 c3 c4 c5 hX hb1
  go_enter Tryd.func42, Tryd.ntmps42
  go_wp2_with (first
    | (show wpList _ _ _ (Oper.mk _ (Op.call { callee := .builtin .append, args := #[_, _], argTypes := #[77, 77] }) _ _ _ _ :: _) _ _
       refine wpList_append_lies _ rfl _ _ 77 rfl (w.heap.size + 1) 26 i0 (.agg (encA zer)) 128 128 Tryd.underlying77 hi0 hz0 hs0 hy0 hzs0 (by decide) (.slice none 0 0) 0 [] rfl (World.ownsRow_nil _ _ _ _) ⟨sb, 0, none⟩ s.N sc (secs s.st s.N) rfl hls hnews (one_secs _ _) hpos (by unfold maxLen; omega) (by omega) (by simp) (w.heap.size + 1) (by simp) ?_
       intro g cap W2 hown hgrow hat hlt
       obtain rfl : g = w.heap.size + 1 := hat.resolve_left (fun e => by cases e)
       have hB2 : Below (w.alloc (.cells (Value.int .i64 k :: enc bs).toArray 86)).heap.size (w.alloc (.cells (Value.int .i64 k :: enc bs).toArray 86)) W2 := ⟨hgrow.os, hgrow.tape, hgrow.output, hgrow.size, fun k hk => hgrow.block k hk (fun e => by cases e)⟩
       rw [Nat.zero_add, List.nil_append] at hown
       obtain ⟨-, hcap, hrow2, hth2⟩ := row_there hown
       have H2 := HH.out.on hB2
       have HB2 : Hid (Below (w.alloc (.cells (Value.int .i64 k :: enc bs).toArray 86)).heap.size (w.alloc (.cells (Value.int .i64 k :: enc bs).toArray 86)) W2) := hB2
       obtain ⟨d0, d1, -, -, -, -, dr⟩ := six_of H2.blk
       have e0 : W2.cell? ⟨w.heap.size, 0, none⟩ = some (.int .i64 k) := (World.cell?_of_block (w := w.alloc (.cells (Value.int .i64 k :: enc bs).toArray 86)) (a := ⟨w.heap.size, 0, none⟩) (hB2.block w.heap.size (by simp))).trans hh0
       have e1 := rangeAt_same hh1 (hB2.block w.heap.size (by simp))
       rw [hls] at hth2
       have ht2 : W2.there (w.heap.size + 1) (k * 128) 128 := fun j hj => by have := hth2 (k * 128 + j) (by omega); simpa using this
       have HR2 : Hid (W2.rangeAt (w.heap.size + 1) 0 (secs s.st s.N)) := hrow2
       have HT2 : Hid (W2.there (w.heap.size + 1) 0 (s.N * 128)) := hth2
       have H2H : Hid (RAt W2 X r sb sc tb tc cv s) := H2
       have HH0 : Hid ((w.alloc (.cells (Value.int .i64 k :: enc bs).toArray 86)).cell? ⟨w.heap.size, 0, none⟩ = some (.int .i64 k)) := hh0
       clear hown hgrow hat hB2 H2 hrow2 hth2 hh0 hh1 hnews)
    | (show wpList _ _ _ (Oper.mk _ (Op.load 26 (Operand.tmp 14)) _ _ _ _ :: _) _ _
       refine wpList_load_mid rfl 26 _ rfl _ _ rfl _ _ e1 Tryd.underlying26 rfl hi48 ?_)
    | (show wpList _ _ _ (Oper.mk _ (Op.store 26 (Operand.tmp 16) _) _ _ _ _ :: _) _ _
       refine wpList_store_mid rfl 26 _ _ rfl (w.heap.size + 1) (k * 128) (encA bs) rfl rfl (by rw [hse]; exact ht2) (by rw [size26, hse]) (one_encA bs) ?_
       obtain ⟨H4, K4, Z4, f0, fz⟩ := stay_S HH.out (fun k h => by have := HX.out k h; simp; omega) HB2.out (by simp) hlt hcap HR2.out HT2.out hk hl
       have e4 := (World.cell?_of_block (w := w.alloc (.cells (Value.int .i64 k :: enc bs).toArray 86)) (a := ⟨w.heap.size, 0, none⟩) (K4.block w.heap.size (by simp) (by omega))).trans HH0.out
       have q1 := (six_of H4.blk).2.1
       have q1z := (six_of H4.blk).2.2.2.2.2.2 1
       have htn : ∀ j u, (bools s.tn s.N)[j]? = some u → ((W2.setCells (w.heap.size + 1) (k * 128) (encA bs).toList).setCell ⟨r, 0, none⟩ (.slice (some ⟨w.heap.size + 1, 0, none⟩) s.N cap)).cell? ((⟨tb, 0, none⟩ : Addr).add j) = some u := fun j u hu => by
         have hj : j < s.N := by have := (List.getElem?_eq_some_iff.1 hu).1; simpa [bools] using this
         have := H4.ts j hj
         have e : u = .bool (s.tn j) := by
           unfold bools at hu
           rw [List.getElem?_map, List.getElem?_range hj] at hu
           injection hu with hu
           exact hu.symm
         rw [e]
         by_cases hj : j = 0 <;> simpa [Addr.add, hj] using this
       have H4H := Lib.hid H4
       have K4H := Lib.hid K4
       have Z4H := Lib.hid Z4
       have HT := Lib.hid htn
       clear H4 K4 Z4 htn d0 d1 dr e0 e1 ht2
       generalize W2.setCells (w.heap.size + 1) (k * 128) (encA bs).toList = W3 at *)
    | (show wpList _ _ _ (Oper.mk _ (Op.call { callee := .builtin .append, args := #[_, _], argTypes := #[78, 78] }) _ _ _ _ :: _) _ _
       generalize W3.setCell ⟨r, 0, none⟩ (.slice (some ⟨w.heap.size + 1, 0, none⟩) s.N cap) = W4 at *
       refine wpList_append_lies _ rfl _ _ 78 rfl W2.heap.size 4 i4 (.bool false) 1 1 Tryd.underlying78 hi4 hz4 hs4 hy4 rfl (by decide) (.slice none 0 0) 0 [] rfl (World.ownsRow_nil _ _ _ _) ⟨tb, 0, none⟩ s.N tc (bools s.tn s.N) rfl (by simp [bools]) HT.out (by intro u hu; obtain ⟨j, -, rfl⟩ := List.mem_map.1 hu; rfl) hpos (by unfold maxLen; omega) (by omega) (by rw [Z4H.out]; exact Nat.le_refl _) W2.heap.size Z4H.out ?_
       intro g2 cap2 W5 hown hgrow hat hlt2
       obtain rfl : g2 = W2.heap.size := hat.resolve_left (fun e => by cases e)
       have hB5 : Below W4.heap.size W4 W5 := ⟨hgrow.os, hgrow.tape, hgrow.output, hgrow.size, fun k hk => hgrow.block k hk (fun e => by cases e)⟩
       rw [Nat.zero_add, List.nil_append] at hown
       obtain ⟨-, hcap2, hrow5, hth5⟩ := row_there hown
       rw [show (bools s.tn s.N).length = s.N by simp [bools]] at hth5
       obtain ⟨H7, K7, p1, pz⟩ := stay_T H4H.out (fun k h => by have := HX.out k h; have := K4H.out.size; rw [World.size_alloc] at this; omega) hB5 Z4H.out.symm hlt2 hcap2 hrow5 hth5 hk
       have e5 := (World.cell?_of_block (w := W4) (a := ⟨w.heap.size, 0, none⟩) (hB5.block w.heap.size (by rw [Z4H.out]; omega))).trans e4
       have ck := hrow5 k _ (bools_at hk)
       have cz := (hth5 k hk).2
       rw [Nat.zero_add] at ck cz
       have H7H := Lib.hid H7
       have K7H := Lib.hid K7
       clear H7 K7 hown hgrow hat hB5 hrow5 hth5 e4 q1 q1z f0 fz))
  go_end0
  exact ⟨⟨_, rfl⟩, ⟨w.heap.size + 1, cap, W2.heap.size, cap2, H7H.out⟩, (KeptR.bel (bel1 w _)).trans (K4H.out.trans K7H.out)⟩
end Go.Proofs.YtafnelpcnfmhfaaDoor
