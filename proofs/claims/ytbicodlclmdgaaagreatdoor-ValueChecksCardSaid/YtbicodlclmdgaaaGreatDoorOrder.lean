/-
  The walk of ValueOrder.
-/
import Derived.Test.YtbicodlclmdgaaaGreatDoorBegun
namespace Go.Proofs.YtbicodlclmdgaaaGreatDoor
open Go.RowKit

theorem twelve {u : World} {a b c : Nat} {a0 a1 a2 a3 b0 b1 b2 b3 c0 c1 c2 c3 : Value} {t : TypeId} (h1 : u.heap[a]? = some (.cells #[a0, a1, a2, a3] t)) (h2 : u.heap[b]? = some (.cells #[b0, b1, b2, b3] t)) (h3 : u.heap[c]? = some (.cells #[c0, c1, c2, c3] t)) :
    u.cell? ⟨a, 0, none⟩ = some a0 ∧ u.cell? ⟨a, 1, none⟩ = some a1 ∧ u.cell? ⟨a, 2, none⟩ = some a2 ∧ u.cell? ⟨a, 3, none⟩ = some a3 ∧
    u.cell? ⟨b, 0, none⟩ = some b0 ∧ u.cell? ⟨b, 1, none⟩ = some b1 ∧ u.cell? ⟨b, 2, none⟩ = some b2 ∧ u.cell? ⟨b, 3, none⟩ = some b3 ∧
    u.cell? ⟨c, 0, none⟩ = some c0 ∧ u.cell? ⟨c, 1, none⟩ = some c1 ∧ u.cell? ⟨c, 2, none⟩ = some c2 ∧ u.cell? ⟨c, 3, none⟩ = some c3 := by
  obtain ⟨x0, x1, x2, x3, -⟩ := four_of h1
  obtain ⟨y0, y1, y2, y3, -⟩ := four_of h2
  obtain ⟨z0, z1, z2, z3, -⟩ := four_of h3
  exact ⟨x0, x1, x2, x3, y0, y1, y2, y3, z0, z1, z2, z3⟩

set_option maxRecDepth 20000 in
set_option maxHeartbeats 4000000 in
theorem order6 (X Y Z : V) (sx sy sz : Value) (w : World) (hx : X.In w 0 sx) (hy : Y.In w 0 sy) (hz : Z.In w 0 sz) :
    Calls Tryz.prog 6 #[X.agg sx, Y.agg sy, Z.agg sz] w fun e w' => e = .returned (.bool true) ∧ Below w.heap.size w w' := by
  have cab := fun w hx hy => cmp_any X Y sx sy w hx hy
  have cba := fun w hx hy => cmp_any Y X sy sx w hx hy
  have cbc := fun w hx hy => cmp_any Y Z sy sz w hx hy
  have cac := fun w hx hy => cmp_any X Z sx sz w hx hy
  have caa := fun w hx hy => cmp_any X X sx sx w hx hy
  have c30 := fun w hx hy => same_any X Y sx sy w hx hy
  have htri := tri_cmp X Y Z
  have hsab := sgn_cmp X Y
  have hanti := anti_cmp X Y
  rw [cmp_self] at caa
  generalize X.cmp Y = ab at *
  generalize Y.cmp X = ba at *
  generalize Y.cmp Z = bc at *
  generalize X.cmp Z = ac at *
  have hneg : IntKind.i64.wrap (-ba) = ab := by rw [IntKind.wrap_i64]; unfold Sgn at hsab; omega
  have hT : Hid (Tri ab bc ac) := htri
  clear htri hsab hanti
  obtain ⟨px, nx, qx, rfl⟩ := hx.header
  obtain ⟨py, ny, qy, rfl⟩ := hy.header
  obtain ⟨pz, nz, qz, rfl⟩ := hz.header
  unfold V.agg at cab cba cbc cac caa c30 ⊢
  obtain ⟨W, hW⟩ : ∃ W, W = ((w.alloc (.cells #[.int .i64 X.k, .int .i64 X.n, .string X.s, .slice px nx qx] 24)).alloc (.cells #[.int .i64 Y.k, .int .i64 Y.n, .string Y.s, .slice py ny qy] 24)).alloc (.cells #[.int .i64 Z.k, .int .i64 Z.n, .string Z.s, .slice pz nz qz] 24) := ⟨_, rfl⟩
  have hA0 : W.heap[w.heap.size]? = some (.cells #[.int .i64 X.k, .int .i64 X.n, .string X.s, .slice px nx qx] 24) := by rw [hW]; exact blk_old (blk_old (blk_new w _))
  have hB0 : W.heap[w.heap.size + 1]? = some (.cells #[.int .i64 Y.k, .int .i64 Y.n, .string Y.s, .slice py ny qy] 24) := by
    have := blk_new (w.alloc (.cells #[.int .i64 X.k, .int .i64 X.n, .string X.s, .slice px nx qx] 24)) (.cells #[.int .i64 Y.k, .int .i64 Y.n, .string Y.s, .slice py ny qy] 24)
    rw [World.size_alloc] at this
    rw [hW]; exact blk_old this
  have hC0 : W.heap[w.heap.size + 1 + 1]? = some (.cells #[.int .i64 Z.k, .int .i64 Z.n, .string Z.s, .slice pz nz qz] 24) := by
    have := blk_new ((w.alloc (.cells #[.int .i64 X.k, .int .i64 X.n, .string X.s, .slice px nx qx] 24)).alloc (.cells #[.int .i64 Y.k, .int .i64 Y.n, .string Y.s, .slice py ny qy] 24)) (.cells #[.int .i64 Z.k, .int .i64 Z.n, .string Z.s, .slice pz nz qz] 24)
    rw [World.size_alloc, World.size_alloc] at this
    rw [hW]; exact this
  have hbW : Below w.heap.size w W := by rw [hW]; exact (bel2 w _ _).alloc (by simp; omega) _
  have hx0 := (hx.on hbW).on (Below.refl _ _).drew
  have hy0 := (hy.on hbW).on (Below.refl _ _).drew
  have hz0 := (hz.on hbW).on (Below.refl _ _).drew
  have tok1 : Hid True := trivial
  have tok2 : Hid True := trivial
  have tok3 : Hid True := trivial
  go_enter Tryz.func6, Tryz.ntmps6
  go_wp2
  rw [← hW]
  clear hW
  go_region_held3 (fun u => u.cell? ⟨w.heap.size, 0, none⟩ = some (.int .i64 X.k) ∧ u.cell? ⟨w.heap.size, 1, none⟩ = some (.int .i64 X.n) ∧ u.cell? ⟨w.heap.size, 2, none⟩ = some (.string X.s) ∧ u.cell? ⟨w.heap.size, 3, none⟩ = some (.slice px nx qx) ∧
      u.cell? ⟨w.heap.size + 1, 0, none⟩ = some (.int .i64 Y.k) ∧ u.cell? ⟨w.heap.size + 1, 1, none⟩ = some (.int .i64 Y.n) ∧ u.cell? ⟨w.heap.size + 1, 2, none⟩ = some (.string Y.s) ∧ u.cell? ⟨w.heap.size + 1, 3, none⟩ = some (.slice py ny qy) ∧
      u.cell? ⟨w.heap.size + 1 + 1, 0, none⟩ = some (.int .i64 Z.k) ∧ u.cell? ⟨w.heap.size + 1 + 1, 1, none⟩ = some (.int .i64 Z.n) ∧ u.cell? ⟨w.heap.size + 1 + 1, 2, none⟩ = some (.string Z.s) ∧ u.cell? ⟨w.heap.size + 1 + 1, 3, none⟩ = some (.slice pz nz qz))
    (first | exact twelve hA4 hB4 hC4 | exact twelve hA3 hB3 hC3 | exact twelve hA2 hB2 hC2 | exact twelve hA1 hB1 hC1 | exact twelve hA0 hB0 hC0)
    (first
      | (go_at_call 28; clear tok1; refine (cab W.drew hx0 hy0).mono ?_; rintro e w1 ⟨rfl, hb1⟩; have hA1 := blk_on hb1 hA0; have hB1 := blk_on hb1 hB0; have hC1 := blk_on hb1 hC0; have hx1 := hx0.on hb1; have hy1 := hy0.on hb1; have hz1 := hz0.on hb1)
      | (go_at_call 28; clear tok2; refine (cba w1 hy1 hx1).mono ?_; rintro e w2 ⟨rfl, hb2⟩; have hA2 := blk_on hb2 hA1; have hB2 := blk_on hb2 hB1; have hC2 := blk_on hb2 hC1; have hx2 := hx1.on hb2; have hy2 := hy1.on hb2; have hz2 := hz1.on hb2)
      | (go_at_call 28; clear tok3; refine (cbc w2 hy2 hz2).mono ?_; rintro e w3 ⟨rfl, hb3⟩; have hA3 := blk_on hb3 hA2; have hB3 := blk_on hb3 hB2; have hC3 := blk_on hb3 hC2; have hx3 := hx2.on hb3; have hy3 := hy2.on hb3; have hz3 := hz2.on hb3)
      | (go_at_call 28; refine (cac w3 hx3 hz3).mono ?_; rintro e w4 ⟨rfl, hb4⟩; have hA4 := blk_on hb4 hA3; have hB4 := blk_on hb4 hB3; have hC4 := blk_on hb4 hC3; have hx4 := hx3.on hb4; have hy4 := hy3.on hb4; have hz4 := hz3.on hb4))
  have hb4' : Below w.heap.size w w4 := bel_then (bel_then (bel_then (bel_then (bel_then hbW (Below.refl _ _).drew) hb1) hb2) hb3) hb4
  clear hA0 hB0 hC0 hA1 hB1 hC1 hA2 hB2 hC2 hA3 hB3 hC3 hx0 hy0 hz0 hx1 hy1 hz1 hx2 hy2 hz2 hx3 hy3 hz3 hb1 hb2 hb3 hb4 hbW cab cba cbc cac
  obtain ⟨x0, x1, x2, x3, y0, y1, y2, y3, -⟩ := twelve hA4 hB4 hC4
  have hcases : (0 < ab) ∨ (¬ 0 < ab ∧ 0 < bc) ∨ (¬ 0 < ab ∧ ¬ 0 < bc ∧ ac < 0 ∧ ac ≤ 0) ∨ (ab = 0 ∧ bc = 0 ∧ ac = 0) := by
    by_cases h1 : 0 < ab
    · exact .inl h1
    · by_cases h2 : 0 < bc
      · exact .inr (.inl ⟨h1, h2⟩)
      · obtain ⟨h3, h4⟩ := hT.out (by omega) (by omega)
        by_cases h5 : ac < 0
        · exact .inr (.inr (.inl ⟨h1, h2, h5, h3⟩))
        · obtain ⟨h6, h7⟩ := h4 (by omega)
          exact .inr (.inr (.inr ⟨h6, h7, by omega⟩))
  clear hT
  rcases hcases with h1 | ⟨h1, h2⟩ | ⟨h1, h2, h3, h4⟩ | ⟨rfl, rfl, rfl⟩
  all_goals
    go_wp2_with (first
      | (go_at_call 12; refine (begun12 w4).mono ?_; rintro e w5 ⟨rfl, hb5⟩; obtain ⟨x0, x1, x2, x3, y0, y1, y2, y3, -⟩ := twelve (blk_on hb5 hA4) (blk_on hb5 hB4) (blk_on hb5 hC4); have hx5 := hx4.on hb5; have hy5 := hy4.on hb5)
      | (go_at_call 28; refine (caa w5 hx5 hx5).mono ?_; rintro e w6 ⟨rfl, hb6⟩; obtain ⟨x0, x1, x2, x3, y0, y1, y2, y3, -⟩ := twelve (blk_on hb6 (blk_on hb5 hA4)) (blk_on hb6 (blk_on hb5 hB4)) (blk_on hb6 (blk_on hb5 hC4)); have hx6 := hx5.on hb6; have hy6 := hy5.on hb6)
      | (go_at_call 30; refine (c30 w6 hx6 hy6).mono ?_; rintro e w7 ⟨rfl, hg7⟩; have hb7 := hg7.bel))
    have hfin : Below w.heap.size w w7 := bel_then (bel_then (bel_then hb4' hb5) hb6) hb7
    go_ret
    exact ⟨rfl, hfin⟩
end Go.Proofs.YtbicodlclmdgaaaGreatDoor
