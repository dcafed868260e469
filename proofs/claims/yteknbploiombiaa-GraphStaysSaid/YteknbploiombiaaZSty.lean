/-
  GraphStays: its walk.
-/
import Derived.Test.YteknbploiombiaaZRopDos
import Derived.Test.YteknbploiombiaaZBgn
namespace Go.Proofs.Yteknbploiombiaa
open Go.RowKit
set_option linter.unusedVariables false      -- a walk need not use every condition

theorem does7 (g : Gg) (sv se : Value) (dk : Int) (lb : ByteArray) (io ii : Int) (xk xn : Int) (xs : ByteArray) (xl : List V) (r : Option Addr) (m d : Nat) (v : V) (p3 : Option Addr) (n3 c3 : Nat) (w : World) (hg : Gg.In w 0 g sv se) (hm : gMay g = true) (hio : I64 io) (hii : I64 ii) (hx : (V.mk xk xn xs xl).In w 0 (.slice r m d)) (hv : v.In w 0 (.slice p3 n3 c3)) :
    Calls Try.prog 7 #[g.agg sv se, .agg #[.int .i64 dk, .string lb, .int .i64 io, .int .i64 ii, .int .i64 xk, .int .i64 xn, .string xs, .slice r m d, .int .i64 v.k, .int .i64 v.n, .string v.s, .slice p3 n3 c3]] w fun e w' => RDo g w e w' := by
  by_cases h0 : dk = 0
  · exact does_addV g sv se dk lb io ii xk xn xs xl r m d v p3 n3 c3 w hg hm hio hii hx hv h0
  by_cases h1 : dk = 1
  · exact does_addE g sv se dk lb io ii xk xn xs xl r m d v p3 n3 c3 w hg hm hio hii hx hv h1
  by_cases h2 : dk = 2
  · exact does_sets g sv se dk lb io ii xk xn xs xl r m d v p3 n3 c3 w hg hm hio hii hx hv h2
  by_cases h3 : dk = 3
  · exact does_unss g sv se dk lb io ii xk xn xs xl r m d v p3 n3 c3 w hg hm hio hii hx hv h3
  exact does_drop g sv se dk lb io ii xk xn xs xl r m d v p3 n3 c3 w hg hm hio hii hx hv (by simpa using h0) (by simpa using h1) (by simpa using h2) (by simpa using h3)
theorem ats12 {w : World} {b o : Nat} {c0 c1 c2 c3 c4 c5 c6 c7 c8 c9 c10 c11 : Value} (h : Ats w b o [c0, c1, c2, c3, c4, c5, c6, c7, c8, c9, c10, c11]) : (w.cell? ⟨b, o, none⟩ = some c0 ∧ w.cell? ⟨b, o + 1, none⟩ = some c1 ∧ w.cell? ⟨b, o + 2, none⟩ = some c2 ∧ w.cell? ⟨b, o + 3, none⟩ = some c3) ∧ (w.cell? ⟨b, o + 4, none⟩ = some c4 ∧ w.cell? ⟨b, o + 5, none⟩ = some c5 ∧ w.cell? ⟨b, o + 6, none⟩ = some c6 ∧ w.cell? ⟨b, o + 7, none⟩ = some c7) ∧ (w.cell? ⟨b, o + 8, none⟩ = some c8 ∧ w.cell? ⟨b, o + 9, none⟩ = some c9 ∧ w.cell? ⟨b, o + 10, none⟩ = some c10 ∧ w.cell? ⟨b, o + 11, none⟩ = some c11) := by
  refine ⟨⟨?_, ?_, ?_, ?_⟩, ⟨?_, ?_, ?_, ?_⟩, ?_, ?_, ?_, ?_⟩
  · exact h 0 _ rfl
  · exact h 1 _ rfl
  · exact h 2 _ rfl
  · exact h 3 _ rfl
  · exact h 4 _ rfl
  · exact h 5 _ rfl
  · exact h 6 _ rfl
  · exact h 7 _ rfl
  · exact h 8 _ rfl
  · exact h 9 _ rfl
  · exact h 10 _ rfl
  · exact h 11 _ rfl
set_option maxRecDepth 100000 in
set_option maxHeartbeats 16000000 in
theorem stays3 (l : List Od) (sl : Value) (w : World) (hs : Sq RO w 0 l sl) : Calls Try.prog 3 #[sl] w fun e w' => e = .returned (.bool true) ∧ Below w.heap.size w w' := by
  obtain ⟨p, cap, rfl, hc, hcm, hby, hx⟩ := hs
  unfold maxLen at hcm
  replace hx := Lib.hid hx
  obtain ⟨N, hN⟩ : ∃ n, l.length = n := ⟨_, rfl⟩
  rw [hN] at hc hby ⊢
  have hby : N * 152 ≤ 140737488351232 := hby
  have hlen := Lib.hid hN
  clear hN
  have c6 := begun6 w
  go_enter Try.func3, Try.ntmps3
  go_wp2_with (fail)
  refine c6.mono ?_
  rintro e w1 ⟨rfl, hb1⟩
  have HB1 := Lib.hid hb1
  clear hb1 c6
  go_wp2
  go_loopg [13, 5, 6, 7, 8] N (fun c s13 s5 s6 s7 s8 wr => ∃ (i : Nat) (g : Gg) (p1 : Option Addr) (m1 : Nat) (q1 : Option Addr) (d1 : Nat), i + c = N ∧ s13 = .int .i64 i ∧ Hid (gMay g = true) ∧ Hid (Below w1.heap.size w1 wr ∧ w1.heap.size + 1 ≤ wr.heap.size) ∧ Hid (wr.heap[w1.heap.size]? = some (.cells #[.slice p1 g.vs.length m1, .slice q1 g.es.length d1, .int .i64 g.last] 27)) ∧ Hid (Gg.In wr (w1.heap.size + 1) g (.slice p1 g.vs.length m1) (.slice q1 g.es.length d1)))
  case atStart => exact ⟨0, ⟨[], [], 0⟩, none, 0, none, 0, by omega, rfl, (by rfl : gMay ⟨[], [], 0⟩ = true), ⟨bel1 w1 _, by simp⟩, blk_new0 w1 _, ⟨by show I64 (0 : Int); unfold I64; omega, Sq.nil _ _, Sq.nil _ _⟩⟩
  case round =>
    obtain ⟨i, g, p1, m1, q1, d1, hic, rfl, HM, HB, HD, HG⟩ := hrel
    cases gk with
    | succ c =>
      have hi : i < l.length := by have := hlen.out; omega
      have hiN : (i : Int) < (N : Int) := by omega
      have hi0 : (0 : Int) ≤ (i : Int) := by omega
      have BW := Lib.hid (bel_then HB1.out HB.out.1)
      obtain ⟨b, o, rfl, -, hx1⟩ := hx.out.resolve_left (by intro e; rw [e] at hi; simp at hi)
      obtain ⟨sl1, hat, hin⟩ := (hx1.on' BW.out).at i hi
      clear hx hx1
      generalize l[i] = op at *
      obtain ⟨dk, lb, io, ii, ⟨xk, xn, xs, xl⟩, ⟨vk, vn, vs, vl⟩, hx', hv'⟩ := op
      obtain ⟨hio, hii, hxi, hvi⟩ := hin
      obtain ⟨r, m, d, rfl⟩ := hxi.header
      obtain ⟨p3, n3, c3, rfl⟩ := hvi.header
      obtain ⟨⟨a0, a1, a2, a3⟩, ⟨a4, a5, a6, a7⟩, a8, a9, aa, ab⟩ := ats12 hat
      simp only [show RO.n = 12 from rfl, V.k, V.n, V.s] at a0 a1 a2 a3 a4 a5 a6 a7 a8 a9 aa ab
      obtain ⟨z0, z1, z2, fz⟩ := three_of HD.out
      have hb6 := bel1 wr (.cells #[.int .i64 dk, .string lb, .int .i64 io, .int .i64 ii, .int .i64 xk, .int .i64 xn, .string xs, .slice r m d, .int .i64 vk, .int .i64 vn, .string vs, .slice p3 n3 c3] 32)
      have c7 := does7 g _ _ dk lb io ii xk xn xs xl r m d (.mk vk vn vs vl) p3 n3 c3 _ ((HG.out.low (Nat.zero_le _)).on hb6) HM.out hio hii (hxi.on hb6) (hvi.on hb6)
      have hD6 := blk_on hb6 HD.out
      have e6 := blk_new0 wr (.cells #[.int .i64 dk, .string lb, .int .i64 io, .int .i64 ii, .int .i64 xk, .int .i64 xn, .string xs, .slice r m d, .int .i64 vk, .int .i64 vn, .string vs, .slice p3 n3 c3] 32)
      have hs6 : (wr.alloc (.cells #[.int .i64 dk, .string lb, .int .i64 io, .int .i64 ii, .int .i64 xk, .int .i64 xn, .string xs, .slice r m d, .int .i64 vk, .int .i64 vn, .string vs, .slice p3 n3 c3] 32)).heap.size = wr.heap.size + 1 := by simp
      clear hat hxi hvi HG
      replace hb6 := Lib.hid hb6
      replace hD6 := Lib.hid hD6
      replace hs6 := Lib.hid hs6
      unfold RDo Gg.agg at c7
      simp only [V.k, V.n, V.s] at c7
      obtain ⟨y0, y1, y2, fy⟩ := three_of hD6.out
      go_wp2_with (fail)
      generalize wr.alloc (.cells #[.int .i64 dk, .string lb, .int .i64 io, .int .i64 ii, .int .i64 xk, .int .i64 xn, .string xs, .slice r m d, .int .i64 vk, .int .i64 vn, .string vs, .slice p3 n3 c3] 32) = W6 at *
      refine c7.mono ?_
      rintro e w2 ⟨X, t1, t2, bb, rfl, hinX, hb2, hst⟩
      obtain ⟨p4, m4, rfl⟩ := hinX.2.1.header
      obtain ⟨q4, d4, rfl⟩ := hinX.2.2.header
      have HST := Lib.hid hst
      have b27 := bel1 w2 (.cells #[.slice p4 X.vs.length m4, .slice q4 X.es.length d4, .int .i64 X.last] 27)
      have c8 := check8 X _ _ _ ((hinX.low (Nat.zero_le _)).on b27)
      rw [err_yes hst.1] at c8
      have B7 := Lib.hid (bel_then (bel_then (HB.out.1.trans (hb6.out.mono HB.out.1.size)) hb2) b27)
      have e7 := blk_new0 w2 (.cells #[.slice p4 X.vs.length m4, .slice q4 X.es.length d4, .int .i64 X.last] 27)
      have HX7 := (hinX.low (show w1.heap.size + 1 ≤ W6.heap.size by have := hs6.out; have := HB.out.2; omega)).on b27
      have hD7 := blk_on b27 (blk_on hb2 hD6.out)
      have hs2 := hb2.size
      replace hD7 := Lib.hid hD7
      replace e7 := Lib.hid e7
      replace HX7 := Lib.hid HX7
      clear hinX hb2 b27 hst y0 y1 y2 fy z0 z1 z2 fz hD6 e6 c7
      unfold Gg.agg at c8
      go_wp2_with (fail)
      generalize w2.alloc (.cells #[.slice p4 X.vs.length m4, .slice q4 X.es.length d4, .int .i64 X.last] 27) = W7 at *
      refine c8.mono ?_
      rintro e w3 ⟨rfl, hb3⟩
      obtain ⟨x0, x1, x2, fx⟩ := three_of (blk_on hb3 e7.out)
      obtain ⟨z0, z1, z2, fz⟩ := three_of (blk_on hb3 hD7.out)
      have hlt : decide (X.last < g.last) = false := decide_eq_false (by have := HST.out.2; omega)
      have B8 := Lib.hid (bel_then B7.out hb3)
      have HX8 := Lib.hid (HX7.out.on hb3)
      have hD8 := Lib.hid (blk_on hb3 hD7.out)
      have hs8 := B8.out.size
      have hlB : w1.heap.size < w3.heap.size := (Array.getElem?_eq_some_iff.1 hD8.out).1
      clear c8 hb3
      go_wp2
      go_roundg c
      case measure => omega
      case rel => exact ⟨i + 1, X, p4, m4, q4, d4, by omega, by first | rfl | simp, HST.out.1, ⟨bel_s3 B8.out (Nat.le_refl _) _ _ _, by simp only [World.setCell, Array.size_modify]; omega⟩, blk_put3 hD8.out, HX8.out.keep (((keepB_set (Nat.lt_succ_self _)).trans (keepB_set (Nat.lt_succ_self _))).trans (keepB_set (Nat.lt_succ_self _))).keep (Nat.le_refl _)⟩
    | zero =>
      clear hx
      obtain rfl : N = i := by omega
      go_wp2
      go_ret
      exact ⟨rfl, bel_then HB1.out HB.out.1⟩
end Go.Proofs.Yteknbploiombiaa
