/-
  A clone under way, as the document's Clone makes it: what lies where. No walk.
-/
import Derived.Test.YtbkpgppaahpalaaSpm
namespace Go.Proofs.Ytbkpgppaahpalaa
open Go.RowKit
set_option linter.unusedVariables false      -- a walk need not use every condition

theorem app_one' (ST ET s by_ : Nat) (i0 : TypeInfo) (z : Value) (hst : Try.prog.underlying ST = some (.slice ET)) (hi : Try.prog.info? ET = some i0) (hz0 : i0.zero = some z) (hz1 : i0.size = s) (hz2 : i0.bytes = by_) (hzc : z.cells.size = s) (hs : 0 < s) (hby : 0 < by_)
    (w : World) (base g0 : Nat) (v : Value) (n : Nat) (vs xs : List Value) (ty : TypeId) (h : w.ownsRow base ET s v n vs) (hx : w.rangeAt g0 0 xs) (hxl : xs.length = s) (h1 : ∀ u ∈ xs, u.oneCell' = true) (hbase : base ≤ w.heap.size) (hn : (n + 1) * by_ ≤ 140737488355328) :
    ∃ g cap w', (Builtin.append_ #[ST, ST] ty #[v, .slice (some ⟨g0, 0, none⟩) 1 1]).run Try.prog w = .ok (.slice (some ⟨g, 0, none⟩) (n + 1) cap) w' ∧ w'.ownsRow base ET s (.slice (some ⟨g, 0, none⟩) (n + 1) cap) (n + 1) (vs ++ xs) ∧ w.grownBy w' v.ownBlock := by
  have hn1 : n + 1 ≤ (n + 1) * by_ := Nat.le_mul_of_pos_right _ hby
  obtain ⟨g, cap, w', hr, hown', hg, -, -⟩ := run_append_lies (P := Try.prog) w ST ty base ET i0 z s by_ hst hi hz0 hz1 hz2 hzc hs v n vs h ⟨g0, 0, none⟩ 1 1 xs (by omega)
    (fun j u hu => by rw [Go.WideShapes.add_plain]; exact hx j u hu) h1 (by decide) (by unfold maxLen; omega) (by omega) hbase w.heap.size rfl
  exact ⟨g, cap, w', hr, hown', hg⟩
/-- A clone under way. -/
def Kn (w u : World) (T : Nat) (A : Array Value) (vc vk vi : Value) (n : Nd) : Prop :=
  Below w.heap.size w u ∧ u.heap[w.heap.size]? = some (.cells A 26) ∧ u.heap[w.heap.size + 1]? = some (.cells #[.bool false, .slice none 0 0, .slice none 0 0, .slice none 0 0] 26) ∧ u.heap[T]? = some (.cells #[.bool n.leaf, vc, vk, vi] 26) ∧
    CsO w.heap.size u vc n.cells ∧ KsO w.heap.size u vk n.keys ∧ IsO w.heap.size u vi n.kids ∧ w.heap.size + 2 ≤ T
theorem Kn.on {w u u' : World} {T : Nat} {A : Array Value} {vc vk vi : Value} {n : Nd} (h : Kn w u T A vc vk vi n) (hb : Below u.heap.size u u') : Kn w u' T A vc vk vi n := by
  obtain ⟨h1, h2, h3, h4, h5, h6, h7, h8⟩ := h
  exact ⟨bel_then h1 hb, blk_on hb h2, blk_on hb h3, blk_on hb h4, h5.on hb, h6.on hb, h7.on hb, h8⟩
theorem Kn.cell {w u u' : World} {T : Nat} {A : Array Value} {vc vk vi : Value} {n : Nd} (h : Kn w u T A vc vk vi n) {vs : List Value} (ho : u.ownsRow w.heap.size 44 4 vc n.cells.length vs) (he : Enc (cellO w.heap.size) 4 u n.cells vs) {c : C} {x : List Value} (hc : cellO w.heap.size u c x)
    {g cap : Nat} (ho' : u'.ownsRow w.heap.size 44 4 (.slice (some ⟨g, 0, none⟩) (n.cells.length + 1) cap) (n.cells.length + 1) (vs ++ x)) (hg : u.grownBy u' vc.ownBlock) :
    Kn w (u'.setCell ⟨T, 1, none⟩ (.slice (some ⟨g, 0, none⟩) (n.cells.length + 1) cap)) T A (.slice (some ⟨g, 0, none⟩) (n.cells.length + 1) cap) vk vi ⟨n.leaf, n.cells ++ [c], n.keys, n.kids⟩ := by
  obtain ⟨h1, h2, h3, h4, h5, ⟨ks, k1, k2⟩, ⟨is, i1, i2⟩, h8⟩ := h
  have hx : x.length = 4 := by obtain ⟨k, v, rfl, -⟩ := hc; rfl
  have b2 := blk_keep ho hg h2 (by decide)
  have b3 := blk_keep ho hg h3 (by decide)
  have b4 := blk_keep ho hg h4 (by decide)
  have g2 := gr_set u' T 1 (.slice (some ⟨g, 0, none⟩) (n.cells.length + 1) cap)
  have hb' : Below w.heap.size w u' := by
    rcases ho.2 with ⟨rfl, -⟩ | ⟨g', cap', cur, rfl, hbg, -⟩
    · exact bel_then h1 ⟨hg.os, hg.tape, hg.output, hg.size, fun k hk => hg.block k hk (by intro e; cases e)⟩
    · exact bel_put h1 hg hbg
  refine ⟨bel_put hb' g2 (by omega), blk_gr b2 g2 (by omega), blk_gr b3 g2 (by omega), blk_setc b4 _, ⟨vs ++ x, by rw [List.length_append]; exact own_other ho' g2 b4 (by decide), ?_⟩, ⟨ks, own_other (row_keep ho hg k1 (by decide)) g2 b4 (by decide), k2.on fun a x hx => (hx.keep ho hg (by decide)).other g2 b4 (by decide)⟩, ⟨is, own_other (row_keep ho hg i1 (by decide)) g2 b4 (by decide), i2.on fun a x hx => hx⟩, h8⟩
  exact ((he.on fun a x hx => (hx.keep ho hg (by decide)).other g2 b4 (by decide))).app (enc_one ((hc.keep ho hg (by decide)).other g2 b4 (by decide)) hx)
theorem Kn.key {w u u' : World} {T : Nat} {A : Array Value} {vc vk vi : Value} {n : Nd} (h : Kn w u T A vc vk vi n) {vs : List Value} (ho : u.ownsRow w.heap.size 27 1 vk n.keys.length vs) (he : Enc (keyO w.heap.size) 1 u n.keys vs) {c : List UInt8} {x : List Value} (hc : keyO w.heap.size u c x)
    {g cap : Nat} (ho' : u'.ownsRow w.heap.size 27 1 (.slice (some ⟨g, 0, none⟩) (n.keys.length + 1) cap) (n.keys.length + 1) (vs ++ x)) (hg : u.grownBy u' vk.ownBlock) :
    Kn w (u'.setCell ⟨T, 2, none⟩ (.slice (some ⟨g, 0, none⟩) (n.keys.length + 1) cap)) T A vc (.slice (some ⟨g, 0, none⟩) (n.keys.length + 1) cap) vi ⟨n.leaf, n.cells, n.keys ++ [c], n.kids⟩ := by
  obtain ⟨h1, h2, h3, h4, ⟨cs, c1, c2⟩, h6, ⟨is, i1, i2⟩, h8⟩ := h
  have hx : x.length = 1 := by obtain ⟨k, rfl, -⟩ := hc; rfl
  have b2 := blk_keep ho hg h2 (by decide)
  have b3 := blk_keep ho hg h3 (by decide)
  have b4 := blk_keep ho hg h4 (by decide)
  have g2 := gr_set u' T 2 (.slice (some ⟨g, 0, none⟩) (n.keys.length + 1) cap)
  have hb' : Below w.heap.size w u' := by
    rcases ho.2 with ⟨rfl, -⟩ | ⟨g', cap', cur, rfl, hbg, -⟩
    · exact bel_then h1 ⟨hg.os, hg.tape, hg.output, hg.size, fun k hk => hg.block k hk (by intro e; cases e)⟩
    · exact bel_put h1 hg hbg
  refine ⟨bel_put hb' g2 (by omega), blk_gr b2 g2 (by omega), blk_gr b3 g2 (by omega), blk_setc b4 _, ⟨cs, own_other (row_keep ho hg c1 (by decide)) g2 b4 (by decide), c2.on fun a x hx => (hx.keep ho hg (by decide)).other g2 b4 (by decide)⟩, ⟨vs ++ x, by rw [List.length_append]; exact own_other ho' g2 b4 (by decide), ?_⟩, ⟨is, own_other (row_keep ho hg i1 (by decide)) g2 b4 (by decide), i2.on fun a x hx => hx⟩, h8⟩
  exact ((he.on fun a x hx => (hx.keep ho hg (by decide)).other g2 b4 (by decide))).app (enc_one ((hc.keep ho hg (by decide)).other g2 b4 (by decide)) hx)
/-- Bytes put behind nothing. -/
theorem app_nil (w : World) (y : Value) (u : List UInt8) (hy : Bs w y u) (hl : u.length ≤ 140737488355328) (ty : TypeId) :
    ∃ v' w', (Builtin.append_ #[27, 27] ty #[.slice none 0 0, y]).run Try.prog w = .ok v' w' ∧ Bts w' w.heap.size v' u ∧ Below w.heap.size w w' := by
  have hn : Bts w w.heap.size (.slice none 0 0) [] := World.ownsRow_nil _ _ _ _
  obtain ⟨v', w', h1, h2, h3⟩ := app_run w w.heap.size _ y [] u hn hy (by simp; omega) (Nat.le_refl _) ty
  exact ⟨v', w', h1, h2, hn.below h3 (Nat.le_refl _)⟩
/-- Kids put behind nothing. -/
theorem app_kids (w : World) (y : Value) (L : List Int) (hy : Is w y L) (hl : L.length * 8 ≤ 140737488355328) (ty : TypeId) :
    ∃ v' w', (Builtin.append_ #[24, 24] ty #[.slice none 0 0, y]).run Try.prog w = .ok v' w' ∧ IsO w.heap.size w' v' L ∧ Below w.heap.size w w' := by
  obtain ⟨i0, hi, hz0, hz1, hz2⟩ := info_parts infoE3
  obtain ⟨vs, hf, he⟩ := hy
  obtain ⟨v', w', h1, h2, h3, h4, h5⟩ := app_fl 24 3 1 8 i0 _ Try.underlying24 hi hz0 hz1 hz2 rfl (by decide) w none 0 L.length y [] vs ty (fl_nil w 1) hf (enc_ones (by decide) he (fun a x h => h.ones)) (by omega) (by unfold maxLen; omega)
  refine ⟨v', w', h1, ⟨vs, ?_, he.on fun a x hx => hx⟩, h3⟩
  by_cases h0 : L.length = 0
  · rw [h5 h0, h0]
    have hv := he.1
    rw [h0, Nat.zero_mul] at hv
    rw [List.eq_nil_of_length_eq_zero hv]
    exact World.ownsRow_nil _ _ _ _
  · have := h4 (by omega)
    rwa [Nat.zero_add, List.nil_append] at this
/-- An append whose outcome is known. -/
theorem wpList_run {ops : Array Oper} {rest : List Oper} {o : Oper} {a : Act} {w : World} {Q : Exit → Act → World → Prop} (hgd : o.guard = none) (s x : Operand) (T : TypeId)
    (ho : o.op = .call { callee := .builtin .append, args := #[s, x], argTypes := #[T, T] }) (v y v' : Value) (w' : World) (hs : a.eval s = v) (hy : a.eval x = y) (hr : (Builtin.append_ #[T, T] o.type #[v, y]).run Try.prog w = .ok v' w')
    (h : wpList Try.prog ops Q rest (a.put o.dst v') w') : wpList Try.prog ops Q (o :: rest) a w :=
  wpList_plain hgd fun _ hK => by
    unfold Oper.wp execOp
    simp only [ho, resolve, invoke, builtin, Sem.run_bind, Sem.run_pure, Result.andThen_ok, List.map_toArray, List.map_cons, List.map_nil, hs, hy, hr]
    exact hK _ _ h
/-- A cell is taken into a box, its key and its value are copied. -/
theorem cell_steps (wr : World) (k x : Value) (c : C) (hk : Bs wr k c.key) (hx : Bs wr x c.val) (h1 : c.key.length ≤ 140737488355328) (h2 : c.val.length ≤ 140737488355328) :
    ∃ k1 l1 v1 k2 l2 v2, (Builtin.append_ #[27, 27] 27 #[.slice none 0 0, k]).run Try.prog (wr.alloc (.cells #[k, x, .int .i64 c.over, .int .i64 c.len] 44)) = .ok (.slice k1 c.key.length l1) v1 ∧
      (Builtin.append_ #[27, 27] 27 #[.slice none 0 0, x]).run Try.prog (v1.setCell ⟨wr.heap.size, 0, none⟩ (.slice k1 c.key.length l1)) = .ok (.slice k2 c.val.length l2) v2 ∧
      v1.heap[wr.heap.size]? = some (.cells #[k, x, .int .i64 c.over, .int .i64 c.len] 44) ∧ (v1.setCell ⟨wr.heap.size, 0, none⟩ (.slice k1 c.key.length l1)).heap[wr.heap.size]? = some (.cells #[.slice k1 c.key.length l1, x, .int .i64 c.over, .int .i64 c.len] 44) ∧
      v2.heap[wr.heap.size]? = some (.cells #[.slice k1 c.key.length l1, x, .int .i64 c.over, .int .i64 c.len] 44) ∧ (v2.setCell ⟨wr.heap.size, 1, none⟩ (.slice k2 c.val.length l2)).heap[wr.heap.size]? = some (.cells #[.slice k1 c.key.length l1, .slice k2 c.val.length l2, .int .i64 c.over, .int .i64 c.len] 44) ∧
      Below wr.heap.size wr v1 ∧ Below wr.heap.size wr (v1.setCell ⟨wr.heap.size, 0, none⟩ (.slice k1 c.key.length l1)) ∧ Below wr.heap.size wr v2 ∧ Below wr.heap.size wr (v2.setCell ⟨wr.heap.size, 1, none⟩ (.slice k2 c.val.length l2)) ∧
      Bts (v2.setCell ⟨wr.heap.size, 1, none⟩ (.slice k2 c.val.length l2)) wr.heap.size (.slice k1 c.key.length l1) c.key ∧ Bts (v2.setCell ⟨wr.heap.size, 1, none⟩ (.slice k2 c.val.length l2)) wr.heap.size (.slice k2 c.val.length l2) c.val := by
  have ba := bel1 wr (.cells #[k, x, .int .i64 c.over, .int .i64 c.len] 44)
  obtain ⟨u1, v1, p1, o1, b1⟩ := app_nil _ k c.key (hk.on ba) h1 27
  obtain ⟨k1, l1, rfl, -⟩ := own_hdr o1
  have x1 := blk_on b1 (World.alloc_heap_new wr (.cells #[k, x, .int .i64 c.over, .int .i64 c.len] 44))
  have g1 := gr_set v1 wr.heap.size 0 (.slice k1 c.key.length l1)
  have bw1 := bel_then ba b1
  have bw2 := bel_put bw1 g1 (Nat.le_refl _)
  have x2 : (v1.setCell ⟨wr.heap.size, 0, none⟩ (.slice k1 c.key.length l1)).heap[wr.heap.size]? = some (.cells #[.slice k1 c.key.length l1, x, .int .i64 c.over, .int .i64 c.len] 44) := blk_setc x1 _
  obtain ⟨u2, v2, p2, o2, b2⟩ := app_nil _ x c.val (hx.on bw2) h2 27
  obtain ⟨k2, l2, rfl, -⟩ := own_hdr o2
  have x3 := blk_on b2 x2
  have bw3 := bel_then bw2 b2
  have g2 := gr_set v2 wr.heap.size 1 (.slice k2 c.val.length l2)
  have x4 : (v2.setCell ⟨wr.heap.size, 1, none⟩ (.slice k2 c.val.length l2)).heap[wr.heap.size]? = some (.cells #[.slice k1 c.key.length l1, .slice k2 c.val.length l2, .int .i64 c.over, .int .i64 c.len] 44) := blk_setc x3 _
  refine ⟨k1, l1, v1, k2, l2, v2, p1, p2, x1, x2, x3, x4, bw1, bw2, bw3, bel_put bw3 g2 (Nat.le_refl _), ?_, ?_⟩
  · have m1 : Bts v1 wr.heap.size (.slice k1 c.key.length l1) c.key := o1.mono (by simp)
    have m2 : Bts _ wr.heap.size (.slice k1 c.key.length l1) c.key := own_other m1 g1 x1 (by decide)
    exact own_other (m2.on b2) g2 x3 (by decide)
  · have m1 : Bts v2 wr.heap.size (.slice k2 c.val.length l2) c.val := o2.mono (by have := bw2.size; omega)
    exact own_other m1 g2 x3 (by decide)
/-- A key is copied, and laid by itself. -/
theorem key_steps (wr : World) (k : Value) (c : List UInt8) (hk : Bs wr k c) (h1 : c.length ≤ 140737488355328) :
    ∃ k1 l1 v1, (Builtin.append_ #[27, 27] 27 #[.slice none 0 0, k]).run Try.prog wr = .ok (.slice k1 c.length l1) v1 ∧ Below wr.heap.size wr v1 ∧ Bts v1 wr.heap.size (.slice k1 c.length l1) c := by
  obtain ⟨u1, v1, p1, o1, b1⟩ := app_nil _ k c hk h1 27
  obtain ⟨k1, l1, rfl, -⟩ := own_hdr o1
  exact ⟨k1, l1, v1, p1, b1, o1⟩
end Go.Proofs.Ytbkpgppaahpalaa
