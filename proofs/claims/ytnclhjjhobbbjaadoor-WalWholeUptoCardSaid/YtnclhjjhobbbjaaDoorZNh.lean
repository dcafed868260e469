/-
  What newestHead of package wal does.
-/
import Derived.Test.YtnclhjjhobbbjaaDoorZRh
namespace Go.Proofs.YtnclhjjhobbbjaaDoor
open Go.RowKit Go.Maps
set_option linter.unusedVariables false      -- a walk need not use every condition
attribute [local go_sem ↓] Go.wp_at_zero Go.wp_at_succ

/-- The head that holds. -/
def newest (a b : Hd) : Hd := if b.1 < a.1 then a else b
def Dsk.head (s : Dsk) : Hd := newest (hdOf (frO (s.con 0)) 0 s.N) (hdOf (frO (s.con 1)) 1 s.N)
theorem six_of {w : World} {g : Nat} {a b c d e f : Value} {t : TypeId} (hb : w.heap[g]? = some (.cells #[a, b, c, d, e, f] t)) :
    w.cell? ⟨g, 0, none⟩ = some a ∧ w.cell? ⟨g, 1, none⟩ = some b ∧ w.cell? ⟨g, 2, none⟩ = some c ∧ w.cell? ⟨g, 3, none⟩ = some d ∧ w.cell? ⟨g, 4, none⟩ = some e ∧ w.cell? ⟨g, 5, none⟩ = some f ∧ ∀ i, w.frozen? ⟨g, i, none⟩ = false := by
  refine ⟨?_, ?_, ?_, ?_, ?_, ?_, fun i => ?_⟩ <;> simp [World.cell?, World.frozen?, hb]
/-- Two heads lie in an array. -/
def NhI (w wr : World) (A B : Hd) : Prop := wr.heap[w.heap.size]? = some (.cells #[.int .i64 0, .int .i64 0, .slice none 0 0] 52) ∧ Below w.heap.size w wr ∧
  ∃ p0 c0 p1 c1, wr.heap[w.heap.size + 1]? = some (.cells #[.int .i64 A.1, .int .i64 A.2.1, .slice p0 A.2.2.length c0, .int .i64 B.1, .int .i64 B.2.1, .slice p1 B.2.2.length c1] 89) ∧
    Bs wr (.slice p0 A.2.2.length c0) A.2.2 ∧ Bs wr (.slice p1 B.2.2.length c1) B.2.2 ∧ Fresh (w.heap.size + 2) (.slice p0 A.2.2.length c0) ∧ Fresh (w.heap.size + 2) (.slice p1 B.2.2.length c1)
theorem nh_start (w : World) : NhI w ((w.alloc (.cells #[.int .i64 0, .int .i64 0, .slice none 0 0] 52)).alloc (.cells #[.int .i64 0, .int .i64 0, .slice none 0 0, .int .i64 0, .int .i64 0, .slice none 0 0] 89)) (0, 0, []) (0, 0, []) := by
  refine ⟨blk_on (bel1 _ _) (heap_alloc_last w _), bel_then (bel1 w _) (bel1 _ _), none, 0, none, 0, ?_, bs_nil _, bs_nil _, fun _ _ _ _ e => (by cases e), fun _ _ _ _ e => (by cases e)⟩
  have := heap_alloc_last (w.alloc (.cells #[.int .i64 0, .int .i64 0, .slice none 0 0] 52)) (.cells #[.int .i64 0, .int .i64 0, .slice none 0 0, .int .i64 0, .int .i64 0, .slice none 0 0] 89)
  rw [World.size_alloc] at this
  exact this
set_option maxHeartbeats 4000000 in
set_option maxRecDepth 100000 in
theorem newest36 (w : World) (d pb mb : Nat) (s : Dsk) (h0 : At w d pb mb s) (hT0 : TabOk w) (hd : s.down = false) (hN : 2 ≤ s.N) :
    Calls Tryd.prog 36 #[.pointer (some ⟨d, 0, none⟩)] w (HdR s.head w) := by
  have h := Lib.hid h0
  have hT := Lib.hid hT0
  have HS := Lib.hid (nh_start w)
  clear h0 hT0
  unfold Dsk.head
  obtain ⟨H0, hH0⟩ : ∃ H, hdOf (frO (s.con 0)) 0 s.N = H := ⟨_, rfl⟩
  obtain ⟨H1, hH1⟩ : ∃ H, hdOf (frO (s.con 1)) 1 s.N = H := ⟨_, rfl⟩
  rw [hH0, hH1]
  go_enter Tryd.func36, Tryd.ntmps36
  go_wp2
  go_loopg [5] 2 (fun gk s5 wr => ∃ x : Nat, x + gk = 2 ∧ s5 = .int .i64 x ∧ Hid (NhI w wr (if 1 ≤ x then H0 else (0, 0, [])) (if 2 ≤ x then H1 else (0, 0, []))))
  case atStart => exact ⟨0, rfl, rfl, HS.out⟩
  case round =>
    obtain ⟨x, hx, rfl, hI⟩ := hrel
    have hx3 : x = 0 ∨ x = 1 ∨ x = 2 := by omega
    rcases hx3 with rfl | rfl | rfl
    · obtain rfl : gk = 2 := by omega
      simp only [show ¬ (1 ≤ 0) by decide, show ¬ (2 ≤ 0) by decide, if_false] at hI
      obtain ⟨k0, hB, p0, c0, p1, c1, k1, b0, b1, f0, f1⟩ := hI.out
      obtain ⟨z0, z1, z2, z3, z4, z5, zf⟩ := six_of k1
      have HB := Lib.hid hB
      have HK0 := Lib.hid k0
      have HK1 := Lib.hid k1
      have HB0 := Lib.hid b0
      have HB1 := Lib.hid b1
      have cR := readHead55 wr d pb mb s (h.out.on hB) (tab_on hT.out hB) hd 0 (by decide) (by omega)
      rw [hH0] at cR
      clear k0 hB k1 b0 b1 z0 z1 z2 z3 z4 z5 zf
      go_wp2_with (first
        | (go_at_call 55; refine cR.mono ?_
           rintro e w2 ⟨p, c, rfl, hbs, hfr, hb2⟩
           have HBS := Lib.hid hbs
           have HFR := Lib.hid (show Fresh (w.heap.size + 2) (.slice p H0.2.2.length c) from hfr.mono (by have := (Array.getElem?_eq_some_iff.1 HK1.out).1; omega))
           have k3 := blk_on hb2 HK1.out
           obtain ⟨y0, y1, y2, y3, y4, y5, yf⟩ := six_of k3
           have yf0 := yf 0
           have yf1 := yf 1
           have yf2 := yf 2
           have Hb2 := Lib.hid hb2
           have HK3 := Lib.hid k3
           clear hbs hfr hb2 yf k3))
      go_roundg 1
      case measure => decide
      case rel =>
        refine ⟨1, by decide, by first | rfl | simp, ?_⟩
        show NhI w _ _ _
        have hg : w2.grownBy (((w2.setCell ⟨w.heap.size + 1, 0, none⟩ (.int .i64 H0.1)).setCell ⟨w.heap.size + 1, 1, none⟩ (.int .i64 H0.2.1)).setCell ⟨w.heap.size + 1, 2, none⟩ (.slice p H0.2.2.length c)) (some (w.heap.size + 1)) := ((gr_set _ _ _ _).trans (gr_set _ _ _ _)).trans (gr_set _ _ _ _)
        refine ⟨?_, ?_, p, c, p1, c1, ?_, ?_, ?_, ?_, ?_⟩
        · exact (hg.block _ (by have := (Array.getElem?_eq_some_iff.1 HK3.out).1; omega) (fun e => by injection e with e; omega)).trans (blk_on Hb2.out HK0.out)
        · exact (HB.out.trans (Hb2.out.mono HB.out.size)).grown hg (Nat.le_trans HB.out.size Hb2.out.size) (fun j e => by injection e with e; omega)
        · rw [blk_set (blk_set (blk_set HK3.out _) _) _]
          rfl
        · exact HBS.out.grownB hg (fun g o n c' e => by have := HFR.out g o n c' e; omega)
        · exact (HB1.out.on Hb2.out).grownB hg (fun g o n c' e => by have := f1 g o n c' e; omega)
        · exact HFR.out
        · exact f1
    · obtain rfl : gk = 1 := by omega
      simp only [show (1 ≤ 1) by decide, show ¬ (2 ≤ 1) by decide, if_false, if_true] at hI
      obtain ⟨k0, hB, p0, c0, p1, c1, k1, b0, b1, f0, f1⟩ := hI.out
      obtain ⟨z0, z1, z2, z3, z4, z5, zf⟩ := six_of k1
      have HB := Lib.hid hB
      have HK0 := Lib.hid k0
      have HK1 := Lib.hid k1
      have HB0 := Lib.hid b0
      have HB1 := Lib.hid b1
      have cR := readHead55 wr d pb mb s (h.out.on hB) (tab_on hT.out hB) hd 1 (by decide) (by omega)
      rw [hH1] at cR
      clear k0 hB k1 b0 b1 z0 z1 z2 z3 z4 z5 zf
      go_wp2_with (first
        | (go_at_call 55; refine cR.mono ?_
           rintro e w2 ⟨p, c, rfl, hbs, hfr, hb2⟩
           have HBS := Lib.hid hbs
           have HFR := Lib.hid (show Fresh (w.heap.size + 2) (.slice p H1.2.2.length c) from hfr.mono (by have := (Array.getElem?_eq_some_iff.1 HK1.out).1; omega))
           have k3 := blk_on hb2 HK1.out
           obtain ⟨y0, y1, y2, y3, y4, y5, yf⟩ := six_of k3
           have yf0 := yf 3
           have yf1 := yf 4
           have yf2 := yf 5
           have Hb2 := Lib.hid hb2
           have HK3 := Lib.hid k3
           clear hbs hfr hb2 yf k3))
      go_roundg 0
      case measure => decide
      case rel =>
        refine ⟨2, by decide, by first | rfl | simp, ?_⟩
        show NhI w _ _ _
        have hg : w2.grownBy (((w2.setCell ⟨w.heap.size + 1, 3, none⟩ (.int .i64 H1.1)).setCell ⟨w.heap.size + 1, 4, none⟩ (.int .i64 H1.2.1)).setCell ⟨w.heap.size + 1, 5, none⟩ (.slice p H1.2.2.length c)) (some (w.heap.size + 1)) := ((gr_set _ _ _ _).trans (gr_set _ _ _ _)).trans (gr_set _ _ _ _)
        refine ⟨?_, ?_, p0, c0, p, c, ?_, ?_, ?_, ?_, ?_⟩
        · exact (hg.block _ (by have := (Array.getElem?_eq_some_iff.1 HK3.out).1; omega) (fun e => by injection e with e; omega)).trans (blk_on Hb2.out HK0.out)
        · exact (HB.out.trans (Hb2.out.mono HB.out.size)).grown hg (Nat.le_trans HB.out.size Hb2.out.size) (fun j e => by injection e with e; omega)
        · rw [blk_set (blk_set (blk_set HK3.out _) _) _]
          rfl
        · exact (HB0.out.on Hb2.out).grownB hg (fun g o n c' e => by have := f0 g o n c' e; omega)
        · exact HBS.out.grownB hg (fun g o n c' e => by have := HFR.out g o n c' e; omega)
        · exact f0
        · exact HFR.out
    · obtain rfl : gk = 0 := by omega
      simp only [show (1 ≤ 2) by decide, show (2 ≤ 2) by decide, if_true] at hI
      obtain ⟨k0, hB, p0, c0, p1, c1, k1, b0, b1, f0, f1⟩ := hI.out
      obtain ⟨z0, z1, z2, z3, z4, z5, zf⟩ := six_of k1
      obtain ⟨y0, y1, y2, yf⟩ := three_of k0
      have yf0 := yf 0
      have yf1 := yf 1
      have yf2 := yf 2
      have HB := Lib.hid hB
      have HK0 := Lib.hid k0
      have HB0 := Lib.hid b0
      have HB1 := Lib.hid b1
      clear k0 hB k1 b0 b1 zf yf
      by_cases hlt : H1.1 < H0.1
      · have hNw : newest H0 H1 = H0 := if_pos hlt
        go_wp2
        refine bodyPost_ret (v := .agg #[.int .i64 H0.1, .int .i64 H0.2.1, .slice p0 H0.2.2.length c0]) (results52 Tryd.results36 _ _ w.heap.size _ _ _ rfl (blk_put3 HK0.out _ _ _)) rfl ?_
        refine ⟨p0, c0, rfl, ?_, Fresh.mono (b := w.heap.size + 2) f0 (by omega), ?_⟩
        · exact HB0.out.grownB (gr_put3 _ _ _ _ _) (fun g o n c' e => by have := f0 g o n c' e; omega)
        · exact HB.out.grown (gr_put3 _ _ _ _ _) HB.out.size (fun j e => by injection e with e; omega)
      · have hNw : newest H0 H1 = H1 := if_neg hlt
        go_wp2
        refine bodyPost_ret (v := .agg #[.int .i64 H1.1, .int .i64 H1.2.1, .slice p1 H1.2.2.length c1]) (results52 Tryd.results36 _ _ w.heap.size _ _ _ rfl (blk_put3 HK0.out _ _ _)) rfl ?_
        refine ⟨p1, c1, rfl, ?_, Fresh.mono (b := w.heap.size + 2) f1 (by omega), ?_⟩
        · exact HB1.out.grownB (gr_put3 _ _ _ _ _) (fun g o n c' e => by have := f1 g o n c' e; omega)
        · exact HB.out.grown (gr_put3 _ _ _ _ _) HB.out.size (fun j e => by injection e with e; omega)
end Go.Proofs.YtnclhjjhobbbjaaDoor
