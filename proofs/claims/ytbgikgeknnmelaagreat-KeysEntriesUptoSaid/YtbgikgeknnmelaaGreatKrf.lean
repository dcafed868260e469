/-
  The reader of package keys: one, found, form, where all goes well.
-/
import Derived.Test.YtbgikgeknnmelaaGreatKrd
namespace Go.Proofs.YtbgikgeknnmelaaGreat
open Go.RowKit
set_option linter.unusedVariables false      -- a walk need not use every condition

theorem EQ.far {w w1 w2 : World} {E : Nat} {kt vt : List UInt8} (h : EQ E kt vt w w1) {row : Option Nat} (hg : w1.grownBy w2 row) (hr : E < w.heap.size) (hrow : ∀ j, row = some j → w.heap.size ≤ j) : EQ E kt vt w w2 :=
  ⟨h.1.andThen hg fun j hj => .inl (hrow j hj), h.2.grown hg fun j hj => by have := hrow j hj; omega⟩
theorem EQ.low {w w' : World} {E : Nat} {kt vt : List UInt8} {ob : Obj} (h : EQ E kt vt (w.alloc ob) w') : EQ E kt vt w w' := ⟨(World.grownBy_alloc w ob (some E)).trans h.1, h.2⟩
theorem EQ.lowb {w w1 w' : World} {E : Nat} {kt vt : List UInt8} (hb : Below w.heap.size w w1) (h : EQ E kt vt w1 w') : EQ E kt vt w w' := ⟨(gr_bel hb (some E)).trans h.1, h.2⟩
/-- A block other than the reader's stays. -/
theorem EQ.blk {w w' : World} {E : Nat} {kt vt : List UInt8} (h : EQ E kt vt w w') {g : Nat} {o : Obj} (hg : w.heap[g]? = some o) (hne : g ≠ E) : w'.heap[g]? = some o :=
  (h.1.block g (Array.getElem?_eq_some_iff.1 hg).1 (by intro e; injection e with e; exact hne e)).trans hg
def zC : Array Value := #[.int .i64 0, .int .i64 0, .string ⟨#[]⟩, .slice none 0 0]
set_option maxHeartbeats 1000000 in
set_option maxRecDepth 20000 in
theorem one87k (w : World) (E : Nat) (c : UInt8) (kt vt : List UInt8) (h : ER w E (c :: kt) vt) :
    Calls Tryz.prog 87 #[.pointer (some ⟨E, 0, none⟩)] w fun e w' => e = .returned (.int .u8 c.toNat) ∧ EQ E kt vt w w' := by
  have c91 := pass91k w E (c :: kt) vt h 1 (by simp)
  simp only [List.take_succ_cons, List.take_zero, List.drop_succ_cons, List.drop_zero] at c91
  go_enter Tryz.func87, Tryz.ntmps87
  go_wp2_with (go_at_call 91; refine c91.mono ?_; rintro e w' ⟨v, rfl, hb, hq⟩; obtain ⟨g, o, cap, rfl, hc0⟩ := hb.1.at0)
  go_ret
  exact ⟨rfl, hq⟩
set_option maxHeartbeats 1000000 in
set_option maxRecDepth 20000 in
theorem found89k (w : World) (E : Nat) (kt vt : List UInt8) (h : ER w E kt vt) (k m : Int) (s : ByteArray) (p1 : Option Addr) (n1 q1 : Nat) (n : Nat) (hn : n ≤ kt.length) :
    Calls Tryz.prog 89 #[.pointer (some ⟨E, 0, none⟩), .agg #[.int .i64 k, .int .i64 m, .string s, .slice p1 n1 q1], .int .i64 n, .int .i64 0] w fun e w' => e = .returned (.agg #[.int .i64 k, .int .i64 m, .string s, .slice p1 n1 q1]) ∧ EQ E (kt.drop n) vt w w' := by
  have hE := h.lt
  have hb0 := bel2 w (.cells #[.int .i64 k, .int .i64 m, .string s, .slice p1 n1 q1] 29) (.cells #[.int .i64 0, .int .i64 0, .string ⟨#[]⟩, .slice none 0 0] 29)
  have k0 := blk_old (o' := .cells #[.int .i64 0, .int .i64 0, .string ⟨#[]⟩, .slice none 0 0] 29) (blk_new w (.cells #[.int .i64 k, .int .i64 m, .string s, .slice p1 n1 q1] 29))
  have k1 := blk_new (w.alloc (.cells #[.int .i64 k, .int .i64 m, .string s, .slice p1 n1 q1] 29)) (.cells #[.int .i64 0, .int .i64 0, .string ⟨#[]⟩, .slice none 0 0] 29)
  rw [World.size_alloc] at k1
  have c91 := pass91k _ E kt vt (h.on hb0) n hn
  generalize kt.drop n = T at *
  clear h
  go_enter Tryz.func89, Tryz.ntmps89
  go_wp2_with (go_at_call 91; refine c91.mono ?_; rintro e w1 ⟨v, rfl, hb, hq⟩; obtain ⟨x0, x1, x2, x3, xf⟩ := four_of (hq.blk k0 (by omega)); obtain ⟨y0, y1, y2, y3, yf⟩ := four_of (hq.blk k1 (by omega)))
  have hfin := (EQ.lowb hb0 hq).far (gr_put4 w1 (w.heap.size + 1) 0 (.int .i64 k) (.int .i64 m) (.string s) (.slice p1 n1 q1)) hE (fun j hj => by injection hj with hj; omega)
  unfold put4 at hfin
  simp [bodyPost, results, Tryz.results89, go_sem, y0, y1, y2, y3]
  exact hfin
end Go.Proofs.YtbgikgeknnmelaaGreat
