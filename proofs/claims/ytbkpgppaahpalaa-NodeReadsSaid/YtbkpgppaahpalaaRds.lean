/-
  The node of any bytes: NodeReads' walk.
-/
import Derived.Test.YtbkpgppaahpalaaQpa
import Derived.Test.YtbkpgppaahpalaaSam
namespace Go.Proofs.Ytbkpgppaahpalaa
open Go.RowKit
set_option linter.unusedVariables false      -- a walk need not use every condition

set_option maxHeartbeats 4000000 in
set_option maxRecDepth 100000 in
theorem reads4 (w : World) (v : Value) (t : List UInt8) (h : Bs w v t) :
    Calls Try.prog 4 #[v] w fun e w' => e = .returned (.bool true) ∧ Below w.heap.size w w' := by
  have HT := Lib.hid h
  obtain ⟨bp, bc, rfl, -⟩ := h.slice
  have c18 := fun (u : World) (hx : Bs u (.slice bp t.length bc) t) => parse18 u _ t hx
  have c19 := fun (u : World) (hx : Bs u (.slice bp t.length bc) t) => parse19 u _ t hx
  generalize chkE (okP t) = E at *
  generalize parN t = n at *
  have c20 := fun (u : World) (x y : Value) (hx : NdS u x n) (hy : NdS u y n) => same20 u x y n hx hy
  have c12 := begun12
  clear h
  go_enter Try.func4, Try.ntmps4
  go_wp2_with (first
    | (go_at_call 18; refine (c18 _ HT.out).mono ?_; rintro e w1 ⟨v1, rfl, hn1, hb1⟩
       have HN1 := Lib.hid hn1; obtain ⟨q1, d1, q2, d2, q3, d3, rfl⟩ := hn1.hdr
       have HB1 := Lib.hid (bel_then hb1 (bel1 w1 (.cells #[.bool n.leaf, .slice q1 n.cells.length d1, .slice q2 n.keys.length d2, .slice q3 n.kids.length d3] 26)))
       have HX1 := Lib.hid (World.alloc_heap_new w1 (.cells #[.bool n.leaf, .slice q1 n.cells.length d1, .slice q2 n.keys.length d2, .slice q3 n.kids.length d3] 26))
       clear hn1 hb1)
    | (go_at_call 19; refine (c19 _ (HT.out.on HB1.out)).mono ?_; rintro e w2 ⟨v2, rfl, hn2, hb2⟩
       have HN2 := Lib.hid hn2; obtain ⟨r1, f1, r2, f2, r3, f3, rfl⟩ := hn2.hdr
       have HB2 := Lib.hid (bel_then hb2 (bel1 w2 (.cells #[.bool n.leaf, .slice r1 n.cells.length f1, .slice r2 n.keys.length f2, .slice r3 n.kids.length f3] 26)))
       have HX2 := Lib.hid (World.alloc_heap_new w2 (.cells #[.bool n.leaf, .slice r1 n.cells.length f1, .slice r2 n.keys.length f2, .slice r3 n.kids.length f3] 26))
       clear hn2 hb2)
    | (go_at_call 12; refine (c12 _).mono ?_; rintro e w3 ⟨rfl, hb3⟩
       have HB3 := Lib.hid hb3
       obtain ⟨x0, x1, x2, x3⟩ := four_of (blk_on hb3 (blk_on HB2.out HX1.out))
       obtain ⟨y0, y1, y2, y3⟩ := four_of (blk_on hb3 HX2.out)
       clear hb3)
    | (go_at_call 20; refine (c20 w3 _ _ (((HN1.out.s.on (bel1 w1 _)).on HB2.out).on HB3.out) ((HN2.out.s.on (bel1 w2 _)).on HB3.out)).mono ?_; rintro e w4 ⟨rfl, hb4⟩))
  go_ret
  exact ⟨rfl, bel_then (bel_then (bel_then HB1.out HB2.out) HB3.out) hb4⟩
end Go.Proofs.Ytbkpgppaahpalaa
