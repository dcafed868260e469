/-
  A node that is being read: what lies where. No walk.
-/
import Derived.Test.YtbkpgppaahpalaaRdb
namespace Go.Proofs.Ytbkpgppaahpalaa
open Go.RowKit
set_option linter.unusedVariables false      -- a walk need not use every condition

theorem row_keep {w w' : World} {b1 b2 : Nat} {e1 e2 : TypeId} {s1 s2 : Nat} {v1 v2 : Value} {n1 n2 : Nat} {x1 x2 : List Value} (h : w.ownsRow b1 e1 s1 v1 n1 x1) (hg : w.grownBy w' v1.ownBlock) (h' : w.ownsRow b2 e2 s2 v2 n2 x2) (hne : e2 ≠ e1) : w'.ownsRow b2 e2 s2 v2 n2 x2 :=
  h'.kept hg (own_types h' h hne)
theorem blk_keep {w w' : World} {b1 : Nat} {e1 : TypeId} {s1 : Nat} {v1 : Value} {n1 : Nat} {x1 : List Value} {b : Nat} {c : Array Value} {t : TypeId} {f : Nat × Nat} (h : w.ownsRow b1 e1 s1 v1 n1 x1) (hg : w.grownBy w' v1.ownBlock) (hb : w.heap[b]? = some (.cells c t f)) (hne : t ≠ e1) : w'.heap[b]? = some (.cells c t f) := by
  refine (hg.block b (Array.getElem?_eq_some_iff.1 hb).1 fun e' => ?_).trans hb
  rcases h.2 with ⟨rfl, h0⟩ | ⟨g, cap, cur, rfl, hbg, hgb, -⟩
  · cases e'
  · have : g = b := by injection e'.symm
    subst this
    rw [hgb] at hb
    injection hb with hb
    injection hb with _ hb
    exact hne hb.symm
/-- One more thing put behind a row of one's own, as it runs. -/
theorem app_one (ST ET s by_ : Nat) (i0 : TypeInfo) (z : Value) (hst : Try.prog.underlying ST = some (.slice ET)) (hi : Try.prog.info? ET = some i0) (hz0 : i0.zero = some z) (hz1 : i0.size = s) (hz2 : i0.bytes = by_) (hzc : z.cells.size = s) (hs : 0 < s) (hby : 0 < by_) (hby2 : by_ ≤ 64)
    (w : World) (base g0 : Nat) (v : Value) (n : Nat) (vs xs : List Value) (ty : TypeId) (h : w.ownsRow base ET s v n vs) (hx : w.rangeAt g0 0 xs) (hxl : xs.length = s) (h1 : ∀ u ∈ xs, u.oneCell' = true) (hbase : base ≤ w.heap.size) (hn : n ≤ 1000000) :
    ∃ g cap w', (Builtin.append_ #[ST, ST] ty #[v, .slice (some ⟨g0, 0, none⟩) 1 1]).run Try.prog w = .ok (.slice (some ⟨g, 0, none⟩) (n + 1) cap) w' ∧ w'.ownsRow base ET s (.slice (some ⟨g, 0, none⟩) (n + 1) cap) (n + 1) (vs ++ xs) ∧ w.grownBy w' v.ownBlock := by
  have hb2 : (n + 1) * by_ ≤ 1000001 * 64 := Nat.mul_le_mul (by omega) hby2
  obtain ⟨g, cap, w', hr, hown', hg, -, -⟩ := run_append_lies (P := Try.prog) w ST ty base ET i0 z s by_ hst hi hz0 hz1 hz2 hzc hs v n vs h ⟨g0, 0, none⟩ 1 1 xs (by omega)
    (fun j u hu => by rw [Go.WideShapes.add_plain]; exact hx j u hu) h1 (by decide) (by unfold maxLen; omega) (by omega) hbase w.heap.size rfl
  exact ⟨g, cap, w', hr, hown', hg⟩
theorem CsO.gr {base : Nat} {w w' : World} {v : Value} {L : List C} {b : Nat} {c : Array Value} {t : TypeId} {f : Nat × Nat} (h : CsO base w v L) (hg : w.grownBy w' (some b)) (hb : w.heap[b]? = some (.cells c t f)) (h5 : 5 ≠ t) (h44 : 44 ≠ t) : CsO base w' v L := by
  obtain ⟨vs, h1, h2⟩ := h
  exact ⟨vs, own_other h1 hg hb h44, h2.on fun a x hx => hx.other hg hb h5⟩
theorem KsO.gr {base : Nat} {w w' : World} {v : Value} {L : List (List UInt8)} {b : Nat} {c : Array Value} {t : TypeId} {f : Nat × Nat} (h : KsO base w v L) (hg : w.grownBy w' (some b)) (hb : w.heap[b]? = some (.cells c t f)) (h5 : 5 ≠ t) (h27 : 27 ≠ t) : KsO base w' v L := by
  obtain ⟨vs, h1, h2⟩ := h
  exact ⟨vs, own_other h1 hg hb h27, h2.on fun a x hx => hx.other hg hb h5⟩
theorem IsO.gr {base : Nat} {w w' : World} {v : Value} {L : List Int} {b : Nat} {c : Array Value} {t : TypeId} {f : Nat × Nat} (h : IsO base w v L) (hg : w.grownBy w' (some b)) (hb : w.heap[b]? = some (.cells c t f)) (h3 : 3 ≠ t) : IsO base w' v L := by
  obtain ⟨vs, h1, h2⟩ := h
  exact ⟨vs, own_other h1 hg hb h3, h2.on fun a x hx => hx⟩
theorem cellO.keep {base b1 : Nat} {w w' : World} {c : C} {x : List Value} {e1 : TypeId} {s1 : Nat} {v1 : Value} {n1 : Nat} {x1 : List Value} (h : cellO base w c x) (ho : w.ownsRow b1 e1 s1 v1 n1 x1) (hg : w.grownBy w' v1.ownBlock) (hne : 5 ≠ e1) : cellO base w' c x := by
  obtain ⟨k, v, e, h1, h2, h3⟩ := h
  exact ⟨k, v, e, row_keep ho hg h1 hne, row_keep ho hg h2 hne, h3⟩
theorem keyO.keep {base b1 : Nat} {w w' : World} {c : List UInt8} {x : List Value} {e1 : TypeId} {s1 : Nat} {v1 : Value} {n1 : Nat} {x1 : List Value} (h : keyO base w c x) (ho : w.ownsRow b1 e1 s1 v1 n1 x1) (hg : w.grownBy w' v1.ownBlock) (hne : 5 ≠ e1) : keyO base w' c x := by
  obtain ⟨k, e, h1⟩ := h
  exact ⟨k, e, row_keep ho hg h1 hne⟩

/-- A node that is being read. -/
def Pn (w0 w u : World) (r : Nat) (s : RS) (vc vk vi : Value) (n : Nd) : Prop :=
  Rq w0 r s w u ∧ u.heap[w.heap.size + 1]? = some (.cells #[.bool n.leaf, vc, vk, vi] 26) ∧ u.heap[w.heap.size]? = some (.cells #[.bool false, .slice none 0 0, .slice none 0 0, .slice none 0 0] 26) ∧
    CsO w.heap.size u vc n.cells ∧ KsO w.heap.size u vk n.keys ∧ IsO w.heap.size u vi n.kids ∧ r < w.heap.size
theorem Pn.step {w0 w u u' : World} {r : Nat} {s s' : RS} {vc vk vi : Value} {n : Nd} (h : Pn w0 w u r s vc vk vi n) (hq : Rq w0 r s' u u') : Pn w0 w u' r s' vc vk vi n := by
  obtain ⟨h1, h2, h3, h4, h5, h6, h7⟩ := h
  obtain ⟨c, hc⟩ := h1.1.blk
  exact ⟨h1.trans hq, blk_gr h2 hq.2 (by omega), blk_gr h3 hq.2 (by omega), h4.gr hq.2 hc (by decide) (by decide), h5.gr hq.2 hc (by decide) (by decide), h6.gr hq.2 hc (by decide), h7⟩
theorem Pn.on {w0 w u u' : World} {r : Nat} {s : RS} {vc vk vi : Value} {n : Nd} (h : Pn w0 w u r s vc vk vi n) (hb : Below u.heap.size u u') : Pn w0 w u' r s vc vk vi n := by
  obtain ⟨h1, h2, h3, h4, h5, h6, h7⟩ := h
  exact ⟨h1.bel hb, blk_on hb h2, blk_on hb h3, h4.on hb, h5.on hb, h6.on hb, h7⟩
theorem Pn.size {w0 w u : World} {r : Nat} {s : RS} {vc vk vi : Value} {n : Nd} (h : Pn w0 w u r s vc vk vi n) : w.heap.size + 1 < u.heap.size := (Array.getElem?_eq_some_iff.1 h.2.1).1
theorem Rq.row {w0 w u u' : World} {r : Nat} {s : RS} {b1 : Nat} {e1 : TypeId} {s1 : Nat} {v1 : Value} {n1 : Nat} {x1 : List Value} (h : Rq w0 r s w u) (ho : u.ownsRow b1 e1 s1 v1 n1 x1) (hg : u.grownBy u' v1.ownBlock) (he : 65 ≠ e1) (hb : w.heap.size ≤ b1) (hr : r < w.heap.size) : Rq w0 r s w u' := by
  obtain ⟨⟨v, k1, k2, k3, k4⟩, h2⟩ := h
  refine ⟨⟨v, blk_keep ho hg k1 he, k2, k3.grown hg k3.size (fun k e => by have := (World.ownsRow.lt ho k e).1; omega), k4⟩, ⟨hg.os.trans h2.os, hg.tape.trans h2.tape, hg.output.trans h2.output, Nat.le_trans h2.size hg.size, fun k hk hne => (hg.block k (Nat.lt_of_lt_of_le hk h2.size) (fun e => by have := (World.ownsRow.lt ho k e.symm).1; omega)).trans (h2.block k hk hne)⟩⟩
/-- One more cell is put behind, and stored. -/
theorem Pn.cell {w0 w u u' : World} {r : Nat} {s : RS} {vc vk vi : Value} {n : Nd} (h : Pn w0 w u r s vc vk vi n) {vs : List Value} (ho : u.ownsRow w.heap.size 44 4 vc n.cells.length vs) (he : Enc (cellO w.heap.size) 4 u n.cells vs) {c : C} {x : List Value} (hc : cellO w.heap.size u c x)
    {g cap : Nat} (ho' : u'.ownsRow w.heap.size 44 4 (.slice (some ⟨g, 0, none⟩) (n.cells.length + 1) cap) (n.cells.length + 1) (vs ++ x)) (hg : u.grownBy u' vc.ownBlock) :
    Pn w0 w (u'.setCell ⟨w.heap.size + 1, 1, none⟩ (.slice (some ⟨g, 0, none⟩) (n.cells.length + 1) cap)) r s (.slice (some ⟨g, 0, none⟩) (n.cells.length + 1) cap) vk vi ⟨n.leaf, n.cells ++ [c], n.keys, n.kids⟩ := by
  obtain ⟨h1, h2, h3, h4, ⟨ks, k1, k2⟩, ⟨is, i1, i2⟩, h7⟩ := h
  have hx : x.length = 4 := by obtain ⟨k, v, rfl, -⟩ := hc; rfl
  have b2 := blk_keep ho hg h2 (by decide)
  have b3 := blk_keep ho hg h3 (by decide)
  have g2 := gr_set u' (w.heap.size + 1) 1 (.slice (some ⟨g, 0, none⟩) (n.cells.length + 1) cap)
  have hq := h1.row ho hg (by decide) (Nat.le_refl _) h7
  refine ⟨hq.put g2 (by omega) h7, blk_setc b2 _, blk_gr b3 g2 (by omega), ⟨vs ++ x, by rw [List.length_append]; exact own_other ho' g2 b2 (by decide), ?_⟩, ⟨ks, own_other (row_keep ho hg k1 (by decide)) g2 b2 (by decide), k2.on fun a x hx => (hx.keep ho hg (by decide)).other g2 b2 (by decide)⟩, ⟨is, own_other (row_keep ho hg i1 (by decide)) g2 b2 (by decide), i2.on fun a x hx => hx⟩, h7⟩
  exact ((he.on fun a x hx => (hx.keep ho hg (by decide)).other g2 b2 (by decide))).app (enc_one ((hc.keep ho hg (by decide)).other g2 b2 (by decide)) hx)
theorem Pn.key {w0 w u u' : World} {r : Nat} {s : RS} {vc vk vi : Value} {n : Nd} (h : Pn w0 w u r s vc vk vi n) {vs : List Value} (ho : u.ownsRow w.heap.size 27 1 vk n.keys.length vs) (he : Enc (keyO w.heap.size) 1 u n.keys vs) {c : List UInt8} {x : List Value} (hc : keyO w.heap.size u c x)
    {g cap : Nat} (ho' : u'.ownsRow w.heap.size 27 1 (.slice (some ⟨g, 0, none⟩) (n.keys.length + 1) cap) (n.keys.length + 1) (vs ++ x)) (hg : u.grownBy u' vk.ownBlock) :
    Pn w0 w (u'.setCell ⟨w.heap.size + 1, 2, none⟩ (.slice (some ⟨g, 0, none⟩) (n.keys.length + 1) cap)) r s vc (.slice (some ⟨g, 0, none⟩) (n.keys.length + 1) cap) vi ⟨n.leaf, n.cells, n.keys ++ [c], n.kids⟩ := by
  obtain ⟨h1, h2, h3, ⟨cs, c1, c2⟩, h5, ⟨is, i1, i2⟩, h7⟩ := h
  have hx : x.length = 1 := by obtain ⟨k, rfl, -⟩ := hc; rfl
  have b2 := blk_keep ho hg h2 (by decide)
  have b3 := blk_keep ho hg h3 (by decide)
  have g2 := gr_set u' (w.heap.size + 1) 2 (.slice (some ⟨g, 0, none⟩) (n.keys.length + 1) cap)
  have hq := h1.row ho hg (by decide) (Nat.le_refl _) h7
  refine ⟨hq.put g2 (by omega) h7, blk_setc b2 _, blk_gr b3 g2 (by omega), ⟨cs, own_other (row_keep ho hg c1 (by decide)) g2 b2 (by decide), c2.on fun a x hx => (hx.keep ho hg (by decide)).other g2 b2 (by decide)⟩, ⟨vs ++ x, by rw [List.length_append]; exact own_other ho' g2 b2 (by decide), ?_⟩, ⟨is, own_other (row_keep ho hg i1 (by decide)) g2 b2 (by decide), i2.on fun a x hx => hx⟩, h7⟩
  exact ((he.on fun a x hx => (hx.keep ho hg (by decide)).other g2 b2 (by decide))).app (enc_one ((hc.keep ho hg (by decide)).other g2 b2 (by decide)) hx)
theorem Pn.kid {w0 w u u' : World} {r : Nat} {s : RS} {vc vk vi : Value} {n : Nd} (h : Pn w0 w u r s vc vk vi n) {vs : List Value} (ho : u.ownsRow w.heap.size 3 1 vi n.kids.length vs) (he : Enc kidV 1 u n.kids vs) {c : Int} (hc : I64 c)
    {g cap : Nat} (ho' : u'.ownsRow w.heap.size 3 1 (.slice (some ⟨g, 0, none⟩) (n.kids.length + 1) cap) (n.kids.length + 1) (vs ++ [.int .i64 c])) (hg : u.grownBy u' vi.ownBlock) :
    Pn w0 w (u'.setCell ⟨w.heap.size + 1, 3, none⟩ (.slice (some ⟨g, 0, none⟩) (n.kids.length + 1) cap)) r s vc vk (.slice (some ⟨g, 0, none⟩) (n.kids.length + 1) cap) ⟨n.leaf, n.cells, n.keys, n.kids ++ [c]⟩ := by
  obtain ⟨h1, h2, h3, ⟨cs, c1, c2⟩, ⟨ks, k1, k2⟩, h6, h7⟩ := h
  have b2 := blk_keep ho hg h2 (by decide)
  have b3 := blk_keep ho hg h3 (by decide)
  have g2 := gr_set u' (w.heap.size + 1) 3 (.slice (some ⟨g, 0, none⟩) (n.kids.length + 1) cap)
  have hq := h1.row ho hg (by decide) (Nat.le_refl _) h7
  refine ⟨hq.put g2 (by omega) h7, blk_setc b2 _, blk_gr b3 g2 (by omega), ⟨cs, own_other (row_keep ho hg c1 (by decide)) g2 b2 (by decide), c2.on fun a x hx => (hx.keep ho hg (by decide)).other g2 b2 (by decide)⟩, ⟨ks, own_other (row_keep ho hg k1 (by decide)) g2 b2 (by decide), k2.on fun a x hx => (hx.keep ho hg (by decide)).other g2 b2 (by decide)⟩, ⟨vs ++ [.int .i64 c], by rw [List.length_append]; exact own_other ho' g2 b2 (by decide), ?_⟩, h7⟩
  exact (he.on fun a x hx => hx).app (enc_one ⟨rfl, hc⟩ rfl)
/-- The node is stored into the result's box. -/
theorem Pn.done {w0 w u : World} {r : Nat} {s : RS} {vc vk vi : Value} {n : Nd} (h : Pn w0 w u r s vc vk vi n) :
    let U := (((u.setCell ⟨w.heap.size, 0, none⟩ (.bool n.leaf)).setCell ⟨w.heap.size, 1, none⟩ vc).setCell ⟨w.heap.size, 2, none⟩ vk).setCell ⟨w.heap.size, 3, none⟩ vi
    U.heap[w.heap.size]? = some (.cells #[.bool n.leaf, vc, vk, vi] 26) ∧ NdO w.heap.size U (.agg #[.bool n.leaf, vc, vk, vi]) n ∧ Rq w0 r s w U := by
  obtain ⟨h1, h2, h3, h4, h5, h6, h7⟩ := h
  have g := gr_four u w.heap.size (.bool n.leaf) vc vk vi
  exact ⟨blk_four h3 _ _ _ _, ⟨_, _, _, rfl, h4.gr g h3 (by decide) (by decide), h5.gr g h3 (by decide) (by decide), h6.gr g h3 (by decide)⟩, h1.put g (Nat.le_refl _) h7⟩
theorem Pn.box {w0 w u : World} {r : Nat} {s : RS} {vc vk vi : Value} {n : Nd} (h : Pn w0 w u r s vc vk vi n) :
    (u.cell? ⟨w.heap.size + 1, 0, none⟩ = some (.bool n.leaf) ∧ u.cell? ⟨w.heap.size + 1, 1, none⟩ = some vc ∧ u.cell? ⟨w.heap.size + 1, 2, none⟩ = some vk ∧ u.cell? ⟨w.heap.size + 1, 3, none⟩ = some vi) ∧ (∀ i, u.frozen? ⟨w.heap.size + 1, i, none⟩ = false) :=
  ⟨four_of h.2.1, fun i => four_fr h.2.1 i⟩
theorem Pn.res {w0 w u : World} {r : Nat} {s : RS} {vc vk vi : Value} {n : Nd} (h : Pn w0 w u r s vc vk vi n) :
    (u.cell? ⟨w.heap.size, 0, none⟩ = some (.bool false) ∧ u.cell? ⟨w.heap.size, 1, none⟩ = some (.slice none 0 0) ∧ u.cell? ⟨w.heap.size, 2, none⟩ = some (.slice none 0 0) ∧ u.cell? ⟨w.heap.size, 3, none⟩ = some (.slice none 0 0)) ∧ (∀ i, u.frozen? ⟨w.heap.size, i, none⟩ = false) :=
  ⟨four_of h.2.2.1, fun i => four_fr h.2.2.1 i⟩
theorem Pn.rdr {w0 w u : World} {r : Nat} {s : RS} {vc vk vi : Value} {n : Nd} (h : Pn w0 w u r s vc vk vi n) : ∃ v, u.cell? ⟨r, 0, none⟩ = some v ∧ u.cell? ⟨r, 1, none⟩ = some (.bool s.2) := by
  obtain ⟨⟨⟨v, k1, -⟩, -⟩, -⟩ := h
  exact ⟨v, (two_of k1).1, (two_of k1).2⟩
theorem rVal_len {s : RS} {k : List UInt8} : (rVal k s).2.1.length ≤ s.1.length := by
  have h1 := rNum_len (s := s)
  have h2 := rBytes_len (s := (rNum s).2)
  have h3 := rNum_len (s := (rNum s).2)
  have h4 := rNum_len (s := (rNum (rNum s).2).2)
  unfold rVal
  split
  · simp only; omega
  · split
    · simp only
      split
      · simp [bad]
      · omega
    · simp [bad]
theorem rCell_len {s : RS} : (rCell s).2.1.length ≤ s.1.length := Nat.le_trans rVal_len rBytes_len
/-- The first cells' type. -/
theorem infoC : (Try.prog.info? 44).map (fun i => (i.zero, i.size, i.bytes)) = some (some (.agg #[.slice none 0 0, .slice none 0 0, .int .i64 0, .int .i64 0]), 4, 64) := infoE44
end Go.Proofs.Ytbkpgppaahpalaa
