/-
  The document's reader in memory, and a node that is being read by it. No walk.
-/
import Derived.Test.YtbkpgppaahpalaaRdp
import Derived.Test.YtbkpgppaahpalaaQdm
namespace Go.Proofs.Ytbkpgppaahpalaa
open Go.RowKit
set_option linter.unusedVariables false      -- a walk need not use every condition
/-- A reader at block r, with what is left of bytes that lay in w0. -/
def Qd (w0 w : World) (r : Nat) (s : RS) : Prop := ∃ v, w.heap[r]? = some (.cells #[v, .bool s.2] 69) ∧ Bs w0 v s.1 ∧ Below w0.heap.size w0 w ∧ w0.heap.size ≤ r
/-- What a call leaves: the reader alone has turned. -/
def Qq (w0 : World) (r : Nat) (s : RS) (w w' : World) : Prop := Qd w0 w' r s ∧ w.grownBy w' (some r)
theorem Qd.set {w0 w : World} {r : Nat} {s s' : RS} {v : Value} (h : Qd w0 w r s) (hv : Bs w0 v s'.1) (w' : World) (hg : w.grownBy w' (some r)) (hw : w'.heap[r]? = some (.cells #[v, .bool s'.2] 69)) : Qq w0 r s' w w' := by
  obtain ⟨u, h1, h2, h3, h4⟩ := h
  exact ⟨⟨v, hw, hv, bel_put' h3 hg h4, h4⟩, hg⟩
where bel_put' {w0 w w' : World} {g : Nat} (h : Below w0.heap.size w0 w) (hg : w.grownBy w' (some g)) (hb : w0.heap.size ≤ g) : Below w0.heap.size w0 w' := h.grown hg h.size (fun k e => by injection e with e; omega)
theorem Qq.refl {w0 w : World} {r : Nat} {s : RS} (h : Qd w0 w r s) : Qq w0 r s w w := ⟨h, ⟨rfl, rfl, rfl, Nat.le_refl _, fun _ _ _ => rfl⟩⟩
theorem Qq.trans {w0 a b c : World} {r : Nat} {s s' : RS} (h : Qq w0 r s a b) (k : Qq w0 r s' b c) : Qq w0 r s' a c := ⟨k.1, h.2.trans k.2⟩
theorem Qd.on {w0 w w' : World} {r : Nat} {s : RS} (h : Qd w0 w r s) (hb : Below w.heap.size w w') : Qd w0 w' r s := by
  obtain ⟨u, h1, h2, h3, h4⟩ := h
  exact ⟨u, blk_on hb h1, h2, bel_then h3 hb, h4⟩
/-- What is read leaves nothing behind but the reader. -/
theorem Qq.bel {w0 w w' w2 : World} {r : Nat} {s : RS} (h : Qq w0 r s w w') (hb : Below w'.heap.size w' w2) : Qq w0 r s w w2 :=
  ⟨h.1.on hb, h.2.trans (gr_bel hb _)⟩
theorem Qd.lt {w0 w : World} {r : Nat} {s : RS} (h : Qd w0 w r s) : r < w.heap.size := by
  obtain ⟨u, h1, -⟩ := h
  exact (Array.getElem?_eq_some_iff.1 h1).1
theorem Bts.grq {w w' : World} {base r : Nat} {v : Value} {t : List UInt8} {c : Array Value} (h : Bts w base v t) (hg : w.grownBy w' (some r)) (hr : w.heap[r]? = some (.cells c 69)) : Bts w' base v t := own_other h hg hr (by decide)
theorem Qd.blk {w0 w : World} {r : Nat} {s : RS} (h : Qd w0 w r s) : ∃ c, w.heap[r]? = some (.cells c 69) := by
  obtain ⟨u, h1, -⟩ := h
  exact ⟨_, h1⟩
/-- Things of one's own, and boxes, behind what is read. -/
theorem Qq.bts {w0 w w' : World} {r base : Nat} {s s' : RS} {v : Value} {t : List UInt8} (hd : Qd w0 w r s) (h : Qq w0 r s' w w') (hb : Bts w base v t) : Bts w' base v t := by
  obtain ⟨c, hc⟩ := hd.blk
  exact hb.grq h.2 hc
/-- A block of one's own is turned. -/
theorem Qq.put {w0 w u u' : World} {r g : Nat} {s : RS} (h : Qq w0 r s w u) (hg : u.grownBy u' (some g)) (hge : w.heap.size ≤ g) (hr : r < w.heap.size) : Qq w0 r s w u' := by
  obtain ⟨⟨v, k1, k2, k3, k4⟩, h2⟩ := h
  refine ⟨⟨v, blk_gr k1 hg (by omega), k2, bel_put k3 hg (by omega), k4⟩, ⟨hg.os.trans h2.os, hg.tape.trans h2.tape, hg.output.trans h2.output, Nat.le_trans h2.size hg.size, fun k hk hne => (hg.block k (Nat.lt_of_lt_of_le hk h2.size) (fun e => by injection e with e; omega)).trans (h2.block k hk hne)⟩⟩
/-- Between the calls of cell: the reader, the cell's box, the result's. -/
def Qk (w0 w u : World) (r : Nat) (s : RS) (bc : Nat) (k : Value) (o l : Int) (K : List UInt8) : Prop :=
  Qq w0 r s w u ∧ u.heap[bc]? = some (.cells #[k, .slice none 0 0, .int .i64 o, .int .i64 l] 44) ∧ u.heap[w.heap.size]? = some (.cells #[.slice none 0 0, .slice none 0 0, .int .i64 0, .int .i64 0] 44) ∧ Bts u (w.heap.size + 1) k K ∧ w.heap.size < bc ∧ r < w.heap.size
theorem Qk.step {w0 w u u' : World} {r : Nat} {s s' : RS} {bc : Nat} {k : Value} {o l : Int} {K : List UInt8} (h : Qk w0 w u r s bc k o l K) (hq : Qq w0 r s' u u') : Qk w0 w u' r s' bc k o l K := by
  obtain ⟨h1, h2, h3, h4, h5, h6⟩ := h
  exact ⟨h1.trans hq, blk_gr h2 hq.2 (by omega), blk_gr h3 hq.2 (by omega), Qq.bts h1.1 hq h4, h5, h6⟩
theorem Qk.over {w0 w u : World} {r : Nat} {s : RS} {bc : Nat} {k : Value} {o l : Int} {K : List UInt8} (h : Qk w0 w u r s bc k o l K) (o' : Int) : Qk w0 w (u.setCell ⟨bc, 2, none⟩ (.int .i64 o')) r s bc k o' l K := by
  obtain ⟨h1, h2, h3, h4, h5, h6⟩ := h
  have g := gr_set u bc 2 (.int .i64 o')
  exact ⟨h1.put g (by omega) h6, blk_setc h2 _, blk_gr h3 g (by omega), own_other h4 g h2 (by decide), h5, h6⟩
theorem Qk.len {w0 w u : World} {r : Nat} {s : RS} {bc : Nat} {k : Value} {o l : Int} {K : List UInt8} (h : Qk w0 w u r s bc k o l K) (l' : Int) : Qk w0 w (u.setCell ⟨bc, 3, none⟩ (.int .i64 l')) r s bc k o l' K := by
  obtain ⟨h1, h2, h3, h4, h5, h6⟩ := h
  have g := gr_set u bc 3 (.int .i64 l')
  exact ⟨h1.put g (by omega) h6, blk_setc h2 _, blk_gr h3 g (by omega), own_other h4 g h2 (by decide), h5, h6⟩
/-- The cell is stored into the result's box. -/
theorem Qk.done {w0 w u : World} {r : Nat} {s : RS} {bc : Nat} {k : Value} {o l : Int} {K : List UInt8} (h : Qk w0 w u r s bc k o l K) (ho : I64 o) (hl : I64 l) :
    let U := (((u.setCell ⟨w.heap.size, 0, none⟩ k).setCell ⟨w.heap.size, 1, none⟩ (.slice none 0 0)).setCell ⟨w.heap.size, 2, none⟩ (.int .i64 o)).setCell ⟨w.heap.size, 3, none⟩ (.int .i64 l)
    U.heap[w.heap.size]? = some (.cells #[k, .slice none 0 0, .int .i64 o, .int .i64 l] 44) ∧ CeO w.heap.size U (.agg #[k, .slice none 0 0, .int .i64 o, .int .i64 l]) ⟨K, [], o, l⟩ ∧ Qq w0 r s w U := by
  obtain ⟨h1, h2, h3, h4, h5, h6⟩ := h
  have g := gr_four u w.heap.size k (.slice none 0 0) (.int .i64 o) (.int .i64 l)
  exact ⟨blk_four h3 _ _ _ _, ⟨_, _, rfl, (own_other h4 g h3 (by decide)).mono (by omega), bts_nil _ _, ho, hl⟩, h1.put g (Nat.le_refl _) h6⟩
theorem Qk.facts {w0 w u : World} {r : Nat} {s : RS} {bc : Nat} {k : Value} {o l : Int} {K : List UInt8} (h : Qk w0 w u r s bc k o l K) :
    (u.cell? ⟨bc, 0, none⟩ = some k ∧ u.cell? ⟨bc, 1, none⟩ = some (.slice none 0 0) ∧ u.cell? ⟨bc, 2, none⟩ = some (.int .i64 o) ∧ u.cell? ⟨bc, 3, none⟩ = some (.int .i64 l)) ∧ u.frozen? ⟨bc, 2, none⟩ = false ∧ u.frozen? ⟨bc, 3, none⟩ = false ∧
      (u.cell? ⟨w.heap.size, 0, none⟩ = some (.slice none 0 0) ∧ u.cell? ⟨w.heap.size, 1, none⟩ = some (.slice none 0 0) ∧ u.cell? ⟨w.heap.size, 2, none⟩ = some (.int .i64 0) ∧ u.cell? ⟨w.heap.size, 3, none⟩ = some (.int .i64 0)) ∧
      (∀ i, u.frozen? ⟨w.heap.size, i, none⟩ = false) := ⟨four_of h.2.1, four_fr h.2.1 2, four_fr h.2.1 3, four_of h.2.2.1, fun i => four_fr h.2.2.1 i⟩
/-- A node that is being read. -/
def Qn (w0 w u : World) (r : Nat) (s : RS) (vc vk vi : Value) (n : Nd) : Prop :=
  Qq w0 r s w u ∧ u.heap[w.heap.size]? = some (.cells #[.bool n.leaf, vc, vk, vi] 26) ∧
    CsO w.heap.size u vc n.cells ∧ KsO w.heap.size u vk n.keys ∧ IsO w.heap.size u vi n.kids ∧ r < w.heap.size
theorem Qn.step {w0 w u u' : World} {r : Nat} {s s' : RS} {vc vk vi : Value} {n : Nd} (h : Qn w0 w u r s vc vk vi n) (hq : Qq w0 r s' u u') : Qn w0 w u' r s' vc vk vi n := by
  obtain ⟨h1, h2, h4, h5, h6, h7⟩ := h
  obtain ⟨c, hc⟩ := h1.1.blk
  exact ⟨h1.trans hq, blk_gr h2 hq.2 (by omega), h4.gr hq.2 hc (by decide) (by decide), h5.gr hq.2 hc (by decide) (by decide), h6.gr hq.2 hc (by decide), h7⟩
theorem Qn.on {w0 w u u' : World} {r : Nat} {s : RS} {vc vk vi : Value} {n : Nd} (h : Qn w0 w u r s vc vk vi n) (hb : Below u.heap.size u u') : Qn w0 w u' r s vc vk vi n := by
  obtain ⟨h1, h2, h4, h5, h6, h7⟩ := h
  exact ⟨h1.bel hb, blk_on hb h2, h4.on hb, h5.on hb, h6.on hb, h7⟩
theorem Qn.size {w0 w u : World} {r : Nat} {s : RS} {vc vk vi : Value} {n : Nd} (h : Qn w0 w u r s vc vk vi n) : w.heap.size < u.heap.size := (Array.getElem?_eq_some_iff.1 h.2.1).1
theorem Qq.row {w0 w u u' : World} {r : Nat} {s : RS} {b1 : Nat} {e1 : TypeId} {s1 : Nat} {v1 : Value} {n1 : Nat} {x1 : List Value} (h : Qq w0 r s w u) (ho : u.ownsRow b1 e1 s1 v1 n1 x1) (hg : u.grownBy u' v1.ownBlock) (he : 69 ≠ e1) (hb : w.heap.size ≤ b1) (hr : r < w.heap.size) : Qq w0 r s w u' := by
  obtain ⟨⟨v, k1, k2, k3, k4⟩, h2⟩ := h
  refine ⟨⟨v, blk_keep ho hg k1 he, k2, k3.grown hg k3.size (fun k e => by have := (World.ownsRow.lt ho k e).1; omega), k4⟩, ⟨hg.os.trans h2.os, hg.tape.trans h2.tape, hg.output.trans h2.output, Nat.le_trans h2.size hg.size, fun k hk hne => (hg.block k (Nat.lt_of_lt_of_le hk h2.size) (fun e => by have := (World.ownsRow.lt ho k e.symm).1; omega)).trans (h2.block k hk hne)⟩⟩
/-- One more cell is put behind, and stored. -/
theorem Qn.cell {w0 w u u' : World} {r : Nat} {s : RS} {vc vk vi : Value} {n : Nd} (h : Qn w0 w u r s vc vk vi n) {vs : List Value} (ho : u.ownsRow w.heap.size 44 4 vc n.cells.length vs) (he : Enc (cellO w.heap.size) 4 u n.cells vs) {c : C} {x : List Value} (hc : cellO w.heap.size u c x)
    {g cap : Nat} (ho' : u'.ownsRow w.heap.size 44 4 (.slice (some ⟨g, 0, none⟩) (n.cells.length + 1) cap) (n.cells.length + 1) (vs ++ x)) (hg : u.grownBy u' vc.ownBlock) :
    Qn w0 w (u'.setCell ⟨w.heap.size, 1, none⟩ (.slice (some ⟨g, 0, none⟩) (n.cells.length + 1) cap)) r s (.slice (some ⟨g, 0, none⟩) (n.cells.length + 1) cap) vk vi ⟨n.leaf, n.cells ++ [c], n.keys, n.kids⟩ := by
  obtain ⟨h1, h2, h4, ⟨ks, k1, k2⟩, ⟨is, i1, i2⟩, h7⟩ := h
  have hx : x.length = 4 := by obtain ⟨k, v, rfl, -⟩ := hc; rfl
  have b2 := blk_keep ho hg h2 (by decide)
  have g2 := gr_set u' (w.heap.size) 1 (.slice (some ⟨g, 0, none⟩) (n.cells.length + 1) cap)
  have hq := h1.row ho hg (by decide) (Nat.le_refl _) h7
  refine ⟨hq.put g2 (by omega) h7, blk_setc b2 _, ⟨vs ++ x, by rw [List.length_append]; exact own_other ho' g2 b2 (by decide), ?_⟩, ⟨ks, own_other (row_keep ho hg k1 (by decide)) g2 b2 (by decide), k2.on fun a x hx => (hx.keep ho hg (by decide)).other g2 b2 (by decide)⟩, ⟨is, own_other (row_keep ho hg i1 (by decide)) g2 b2 (by decide), i2.on fun a x hx => hx⟩, h7⟩
  exact ((he.on fun a x hx => (hx.keep ho hg (by decide)).other g2 b2 (by decide))).app (enc_one ((hc.keep ho hg (by decide)).other g2 b2 (by decide)) hx)
theorem Qn.key {w0 w u u' : World} {r : Nat} {s : RS} {vc vk vi : Value} {n : Nd} (h : Qn w0 w u r s vc vk vi n) {vs : List Value} (ho : u.ownsRow w.heap.size 27 1 vk n.keys.length vs) (he : Enc (keyO w.heap.size) 1 u n.keys vs) {c : List UInt8} {x : List Value} (hc : keyO w.heap.size u c x)
    {g cap : Nat} (ho' : u'.ownsRow w.heap.size 27 1 (.slice (some ⟨g, 0, none⟩) (n.keys.length + 1) cap) (n.keys.length + 1) (vs ++ x)) (hg : u.grownBy u' vk.ownBlock) :
    Qn w0 w (u'.setCell ⟨w.heap.size, 2, none⟩ (.slice (some ⟨g, 0, none⟩) (n.keys.length + 1) cap)) r s vc (.slice (some ⟨g, 0, none⟩) (n.keys.length + 1) cap) vi ⟨n.leaf, n.cells, n.keys ++ [c], n.kids⟩ := by
  obtain ⟨h1, h2, ⟨cs, c1, c2⟩, h5, ⟨is, i1, i2⟩, h7⟩ := h
  have hx : x.length = 1 := by obtain ⟨k, rfl, -⟩ := hc; rfl
  have b2 := blk_keep ho hg h2 (by decide)
  have g2 := gr_set u' (w.heap.size) 2 (.slice (some ⟨g, 0, none⟩) (n.keys.length + 1) cap)
  have hq := h1.row ho hg (by decide) (Nat.le_refl _) h7
  refine ⟨hq.put g2 (by omega) h7, blk_setc b2 _, ⟨cs, own_other (row_keep ho hg c1 (by decide)) g2 b2 (by decide), c2.on fun a x hx => (hx.keep ho hg (by decide)).other g2 b2 (by decide)⟩, ⟨vs ++ x, by rw [List.length_append]; exact own_other ho' g2 b2 (by decide), ?_⟩, ⟨is, own_other (row_keep ho hg i1 (by decide)) g2 b2 (by decide), i2.on fun a x hx => hx⟩, h7⟩
  exact ((he.on fun a x hx => (hx.keep ho hg (by decide)).other g2 b2 (by decide))).app (enc_one ((hc.keep ho hg (by decide)).other g2 b2 (by decide)) hx)
theorem Qn.kid {w0 w u u' : World} {r : Nat} {s : RS} {vc vk vi : Value} {n : Nd} (h : Qn w0 w u r s vc vk vi n) {vs : List Value} (ho : u.ownsRow w.heap.size 3 1 vi n.kids.length vs) (he : Enc kidV 1 u n.kids vs) {c : Int} (hc : I64 c)
    {g cap : Nat} (ho' : u'.ownsRow w.heap.size 3 1 (.slice (some ⟨g, 0, none⟩) (n.kids.length + 1) cap) (n.kids.length + 1) (vs ++ [.int .i64 c])) (hg : u.grownBy u' vi.ownBlock) :
    Qn w0 w (u'.setCell ⟨w.heap.size, 3, none⟩ (.slice (some ⟨g, 0, none⟩) (n.kids.length + 1) cap)) r s vc vk (.slice (some ⟨g, 0, none⟩) (n.kids.length + 1) cap) ⟨n.leaf, n.cells, n.keys, n.kids ++ [c]⟩ := by
  obtain ⟨h1, h2, ⟨cs, c1, c2⟩, ⟨ks, k1, k2⟩, h6, h7⟩ := h
  have b2 := blk_keep ho hg h2 (by decide)
  have g2 := gr_set u' (w.heap.size) 3 (.slice (some ⟨g, 0, none⟩) (n.kids.length + 1) cap)
  have hq := h1.row ho hg (by decide) (Nat.le_refl _) h7
  refine ⟨hq.put g2 (by omega) h7, blk_setc b2 _, ⟨cs, own_other (row_keep ho hg c1 (by decide)) g2 b2 (by decide), c2.on fun a x hx => (hx.keep ho hg (by decide)).other g2 b2 (by decide)⟩, ⟨ks, own_other (row_keep ho hg k1 (by decide)) g2 b2 (by decide), k2.on fun a x hx => (hx.keep ho hg (by decide)).other g2 b2 (by decide)⟩, ⟨vs ++ [.int .i64 c], by rw [List.length_append]; exact own_other ho' g2 b2 (by decide), ?_⟩, h7⟩
  exact (he.on fun a x hx => hx).app (enc_one ⟨rfl, hc⟩ rfl)
theorem Qn.box {w0 w u : World} {r : Nat} {s : RS} {vc vk vi : Value} {n : Nd} (h : Qn w0 w u r s vc vk vi n) :
    (u.cell? ⟨w.heap.size, 0, none⟩ = some (.bool n.leaf) ∧ u.cell? ⟨w.heap.size, 1, none⟩ = some vc ∧ u.cell? ⟨w.heap.size, 2, none⟩ = some vk ∧ u.cell? ⟨w.heap.size, 3, none⟩ = some vi) ∧ (∀ i, u.frozen? ⟨w.heap.size, i, none⟩ = false) :=
  ⟨four_of h.2.1, fun i => four_fr h.2.1 i⟩
theorem Qn.rdr {w0 w u : World} {r : Nat} {s : RS} {vc vk vi : Value} {n : Nd} (h : Qn w0 w u r s vc vk vi n) : ∃ v, u.cell? ⟨r, 0, none⟩ = some v ∧ u.cell? ⟨r, 1, none⟩ = some (.bool s.2) := by
  obtain ⟨⟨⟨v, k1, -⟩, -⟩, -⟩ := h
  exact ⟨v, (two_of k1).1, (two_of k1).2⟩
end Go.Proofs.Ytbkpgppaahpalaa
