/-
  The walk of ValueCompares.
-/
import Derived.Test.YtbicodlclmdgaaaGreatDoorGet
namespace Go.Proofs.YtbicodlclmdgaaaGreatDoor
open Go.RowKit

theorem eight_of {u : World} {a b : Nat} {a0 a1 a2 a3 b0 b1 b2 b3 : Value} {t : TypeId} (h1 : u.heap[a]? = some (.cells #[a0, a1, a2, a3] t)) (h2 : u.heap[b]? = some (.cells #[b0, b1, b2, b3] t)) :
    u.cell? ⟨a, 0, none⟩ = some a0 ∧ u.cell? ⟨a, 1, none⟩ = some a1 ∧ u.cell? ⟨a, 2, none⟩ = some a2 ∧ u.cell? ⟨a, 3, none⟩ = some a3 ∧
    u.cell? ⟨b, 0, none⟩ = some b0 ∧ u.cell? ⟨b, 1, none⟩ = some b1 ∧ u.cell? ⟨b, 2, none⟩ = some b2 ∧ u.cell? ⟨b, 3, none⟩ = some b3 := by
  obtain ⟨x0, x1, x2, x3, -⟩ := four_of h1
  obtain ⟨y0, y1, y2, y3, -⟩ := four_of h2
  exact ⟨x0, x1, x2, x3, y0, y1, y2, y3⟩
theorem sixteen {u : World} {a b c d : Nat} {a0 a1 a2 a3 b0 b1 b2 b3 c0 c1 c2 c3 d0 d1 d2 d3 : Value} {t : TypeId} (h1 : u.heap[a]? = some (.cells #[a0, a1, a2, a3] t)) (h2 : u.heap[b]? = some (.cells #[b0, b1, b2, b3] t)) (h3 : u.heap[c]? = some (.cells #[c0, c1, c2, c3] t)) (h4 : u.heap[d]? = some (.cells #[d0, d1, d2, d3] t)) :
    u.cell? ⟨a, 0, none⟩ = some a0 ∧ u.cell? ⟨a, 1, none⟩ = some a1 ∧ u.cell? ⟨a, 2, none⟩ = some a2 ∧ u.cell? ⟨a, 3, none⟩ = some a3 ∧
    u.cell? ⟨b, 0, none⟩ = some b0 ∧ u.cell? ⟨b, 1, none⟩ = some b1 ∧ u.cell? ⟨b, 2, none⟩ = some b2 ∧ u.cell? ⟨b, 3, none⟩ = some b3 ∧
    u.cell? ⟨c, 0, none⟩ = some c0 ∧ u.cell? ⟨c, 1, none⟩ = some c1 ∧ u.cell? ⟨c, 2, none⟩ = some c2 ∧ u.cell? ⟨c, 3, none⟩ = some c3 ∧
    u.cell? ⟨d, 0, none⟩ = some d0 ∧ u.cell? ⟨d, 1, none⟩ = some d1 ∧ u.cell? ⟨d, 2, none⟩ = some d2 ∧ u.cell? ⟨d, 3, none⟩ = some d3 := by
  obtain ⟨x0, x1, x2, x3, y0, y1, y2, y3, z0, z1, z2, z3⟩ := twelve h1 h2 h3
  obtain ⟨v0, v1, v2, v3, -⟩ := four_of h4
  exact ⟨x0, x1, x2, x3, y0, y1, y2, y3, z0, z1, z2, z3, v0, v1, v2, v3⟩

def Alike (v v' : Value) : Prop := v' = v ∨ ∃ n n', v = .int .i64 n ∧ v' = .int .i64 n'
theorem alike_int {n : Int} {v : Value} (h : Alike (.int .i64 n) v) : ∃ n', v = .int .i64 n' := by
  rcases h with rfl | ⟨_, n', _, h⟩
  · exact ⟨n, rfl⟩
  · exact ⟨n', h⟩
theorem alike_slice {p : Option Addr} {n c : Nat} {v : Value} (h : Alike (.slice p n c) v) : v = .slice p n c := by
  rcases h with rfl | ⟨_, _, h, _⟩
  · rfl
  · cases h
/-- The clone's numbers may have turned, and nothing below it; c's own cells stand. -/
def Inv (lo : Nat) (w9 : World) (cells : Array Value) (wr : World) : Prop :=
  Below lo w9 wr ∧ (∀ (a : Addr) v, lo ≤ a.block → w9.cell? a = some v → (∃ v', wr.cell? a = some v' ∧ Alike v v') ∧ wr.frozen? a = false) ∧ wr.heap[w9.heap.size]? = some (.cells cells 24)
theorem Inv.set {lo : Nat} {w9 wr : World} {cells : Array Value} (h : Inv lo w9 cells wr) {g i : Nat} {n : Int} (hg : lo ≤ g) (hc : w9.cell? ⟨g, i, none⟩ = some (.int .i64 n)) (m : Int) : Inv lo w9 cells (wr.setCell ⟨g, i, none⟩ (.int .i64 m)) := by
  obtain ⟨h1, h2, h3⟩ := h
  have hlt : g < w9.heap.size := cell_lt hc
  refine ⟨h1.setCell (p := ⟨g, i, none⟩) hg _, fun a v ha hv => ?_, ?_⟩
  · obtain ⟨⟨v', h4, h5⟩, h6⟩ := h2 a v ha hv
    refine ⟨?_, by rw [World.frozen?_setCell]; exact h6⟩
    by_cases e : a = ⟨g, i, none⟩
    · subst e
      rw [hc] at hv
      injection hv with hv
      subst hv
      exact ⟨.int .i64 m, World.cell?_setCell_same' _ _ _ (by rw [h4]; rfl), .inr ⟨n, m, rfl, rfl⟩⟩
    · exact ⟨v', (World.cell?_setCell_other wr _ _ _ (fun e' => e e'.symm)).trans h4, h5⟩
  · rw [Below.heap_setCell _ _ _ _ (by show w9.heap.size ≠ g; omega)]; exact h3

theorem Inv.start {lo : Nat} {wA wB : World} {cells : Array Value} (hnf : NF lo wA) (hb : Below wA.heap.size wA wB) (hc : wB.heap[wA.heap.size]? = some (.cells cells 24)) (hlo : lo ≤ wA.heap.size) : Inv lo wA cells wB :=
  ⟨hb.mono hlo, fun a v ha hv => ⟨⟨v, some_on hb hv, .inl rfl⟩, by rw [hb.frozen (cell_lt hv)]; exact hnf a ha⟩, hc⟩
theorem Inv.int {lo : Nat} {wA wr : World} {cells : Array Value} (h : Inv lo wA cells wr) {g i : Nat} {n : Int} (hg : lo ≤ g) (hc : wA.cell? ⟨g, i, none⟩ = some (.int .i64 n)) : ∃ m, wr.cell? ⟨g, i, none⟩ = some (.int .i64 m) ∧ wr.frozen? ⟨g, i, none⟩ = false := by
  obtain ⟨⟨v', h1, h2⟩, h3⟩ := h.2.1 ⟨g, i, none⟩ _ hg hc
  obtain ⟨m, rfl⟩ := alike_int h2
  exact ⟨m, h1, h3⟩
theorem Inv.slice {lo : Nat} {wA wr : World} {cells : Array Value} (h : Inv lo wA cells wr) {g i : Nat} {p : Option Addr} {n c : Nat} (hg : lo ≤ g) (hc : wA.cell? ⟨g, i, none⟩ = some (.slice p n c)) : wr.cell? ⟨g, i, none⟩ = some (.slice p n c) := by
  obtain ⟨⟨v', h1, h2⟩, h3⟩ := h.2.1 ⟨g, i, none⟩ _ hg hc
  rw [alike_slice h2] at h1
  exact h1

set_option maxRecDepth 20000 in
set_option maxHeartbeats 8000000 in
theorem compares4 (k n : Int) (s : ByteArray) (l : List V) (Y : V) (sx sy : Value) (w : World) (hx : (V.mk k n s l).In w 0 sx) (hy : Y.In w 0 sy) :
    Calls Tryz.prog 4 #[.agg #[.int .i64 k, .int .i64 n, .string s, sx], Y.agg sy] w fun e w' => e = .returned (.bool true) ∧ Below w.heap.size w w' := by
  have c26 := fun w hx hy => get26 k n s l Y sx sy w hx hy
  have c27 := fun w hx hy => get27 k n s l Y sx sy w hx hy
  obtain ⟨R, hR⟩ : ∃ R, getR (V.mk k n s l) Y = R := ⟨_, rfl⟩
  rw [hR] at c26 c27
  clear hR
  obtain ⟨U, t⟩ := R
  unfold Got at c26 c27
  have c28 := fun w hx hy => cmp_any (.mk k n s l) Y sx sy w hx hy
  have c29 := fun w hx hy => refCmp_any (.mk k n s l) Y sx sy w hx hy
  have c30 := fun w hx hy => same_any (.mk k n s l) Y sx sy w hx hy
  have c15 := fun w hx hy => refSame_any (.mk k n s l) Y sx sy w hx hy
  have cU := fun s1 s2 w hx hy => refSame_any U U s1 s2 w hx hy
  have cX := fun s1 s2 w hx hy => refSame_any (.mk k n s l) (.mk k n s l) s1 s2 w hx hy
  have c31 := fun w hx => clone_any (.mk k n s l) sx w hx
  rw [cmp_self] at cU cX
  generalize V.cmp (.mk k n s l) Y = ab at *
  unfold Cl at c31
  obtain ⟨px, nx, qx, rfl⟩ := hx.header
  obtain ⟨py, ny, qy, rfl⟩ := hy.header
  unfold V.agg at c26 c27 c28 c29 c30 c15 cU cX c31 ⊢
  have ek : (V.mk k n s l).k = k := rfl
  have en : (V.mk k n s l).n = n := rfl
  have es : (V.mk k n s l).s = s := rfl
  simp only [ek, en, es] at c26 c27 c28 c29 c30 c15 cX c31
  clear ek en es
  have hS := ((V.in_iff _ _ _ _).1 hx).2.2.2
  obtain ⟨W, hW⟩ : ∃ W, W = (w.alloc (.cells #[.int .i64 k, .int .i64 n, .string s, .slice px nx qx] 24)).alloc (.cells #[.int .i64 Y.k, .int .i64 Y.n, .string Y.s, .slice py ny qy] 24) := ⟨_, rfl⟩
  have hA0 : W.heap[w.heap.size]? = some (.cells #[.int .i64 k, .int .i64 n, .string s, .slice px nx qx] 24) := by rw [hW]; exact blk_old (blk_new w _)
  have hB0 : W.heap[w.heap.size + 1]? = some (.cells #[.int .i64 Y.k, .int .i64 Y.n, .string Y.s, .slice py ny qy] 24) := by
    have := blk_new (w.alloc (.cells #[.int .i64 k, .int .i64 n, .string s, .slice px nx qx] 24)) (.cells #[.int .i64 Y.k, .int .i64 Y.n, .string Y.s, .slice py ny qy] 24)
    rw [World.size_alloc] at this
    rw [hW]; exact this
  have hbW : Below w.heap.size w W := by rw [hW]; exact bel2 w _ _
  have hszW : W.heap.size = w.heap.size + 1 + 1 := by rw [hW]; simp
  have hx0 := hx.on hbW
  have hy0 := hy.on hbW
  have tok1 : Hid True := trivial
  go_enter Tryz.func4, Tryz.ntmps4
  go_wp2_with (first
    | (go_at_call 26; rw [← hW]; clear hW; refine (c26 W hx0 hy0).mono ?_; rintro e w1 ⟨s1, rfl, hu1, hb1⟩; obtain ⟨p1, n1, q1, rfl⟩ := hu1.header; have hA1 := blk_old (o' := .cells #[.int .i64 U.k, .int .i64 U.n, .string U.s, .slice p1 n1 q1] 24) (blk_on hb1 hA0); have hB1 := blk_old (o' := .cells #[.int .i64 U.k, .int .i64 U.n, .string U.s, .slice p1 n1 q1] 24) (blk_on hb1 hB0); have hs1 := hb1.size; have hx1 := (hx0.on hb1).on (bel1 w1 (.cells #[.int .i64 U.k, .int .i64 U.n, .string U.s, .slice p1 n1 q1] 24)); have hy1 := (hy0.on hb1).on (bel1 w1 (.cells #[.int .i64 U.k, .int .i64 U.n, .string U.s, .slice p1 n1 q1] 24)); have hC1 := blk_new w1 (.cells #[.int .i64 U.k, .int .i64 U.n, .string U.s, .slice p1 n1 q1] 24); have hu1' := hu1.on (bel1 w1 (.cells #[.int .i64 U.k, .int .i64 U.n, .string U.s, .slice p1 n1 q1] 24)); obtain ⟨x0, x1, x2, x3, y0, y1, y2, y3⟩ := eight_of (blk_on hb1 hA0) (blk_on hb1 hB0); have hlA : w.heap.size < w1.heap.size := (by omega); have hlB : w.heap.size + 1 < w1.heap.size := (by omega))
    | (go_at_call 27; refine (c27 _ hx1 hy1).mono ?_; rintro e w2 ⟨s2, rfl, hv2, hb2⟩; obtain ⟨p2, n2, q2, rfl⟩ := hv2.header; have hA2 := blk_on hb2 hA1; have hB2 := blk_on hb2 hB1; have hC2 := blk_on hb2 hC1; have hx2 := hx1.on hb2; have hy2 := hy1.on hb2; have hu2 := hu1'.on hb2))
  have hA3 := blk_old (o' := .cells #[.int .i64 U.k, .int .i64 U.n, .string U.s, .slice p2 n2 q2] 24) hA2
  have hB3 := blk_old (o' := .cells #[.int .i64 U.k, .int .i64 U.n, .string U.s, .slice p2 n2 q2] 24) hB2
  have hC3 := blk_old (o' := .cells #[.int .i64 U.k, .int .i64 U.n, .string U.s, .slice p2 n2 q2] 24) hC2
  have hD3 := blk_new w2 (.cells #[.int .i64 U.k, .int .i64 U.n, .string U.s, .slice p2 n2 q2] 24)
  have hb3 := bel1 w2 (.cells #[.int .i64 U.k, .int .i64 U.n, .string U.s, .slice p2 n2 q2] 24)
  have hx3 := (hx2.on hb3).on (Below.refl _ _).drew
  have hy3 := (hy2.on hb3).on (Below.refl _ _).drew
  have hu3 := (hu2.on hb3).on (Below.refl _ _).drew
  have hv3 := (hv2.on hb3).on (Below.refl _ _).drew
  have hbw3 : Below w.heap.size w (w2.alloc (.cells #[.int .i64 U.k, .int .i64 U.n, .string U.s, .slice p2 n2 q2] 24)) := bel_then (bel_then (bel_then (bel_then hbW hb1) (bel1 w1 _)) hb2) hb3
  generalize w2.alloc (.cells #[.int .i64 U.k, .int .i64 U.n, .string U.s, .slice p2 n2 q2] 24) = w3 at *
  clear hA0 hB0 hA1 hB1 hC1 hA2 hB2 hC2 hx0 hy0 hx1 hy1 hx2 hy2 hu1 hu1' hu2 hv2 hb1 hb2 hb3 hbW x0 x1 x2 x3 y0 y1 y2 y3 c26 c27 hlA hlB
  have nx1 : (ab != ab) = false := by simp
  go_region_held3 (fun u => u.cell? ⟨w.heap.size, 0, none⟩ = some (.int .i64 k) ∧ u.cell? ⟨w.heap.size, 1, none⟩ = some (.int .i64 n) ∧ u.cell? ⟨w.heap.size, 2, none⟩ = some (.string s) ∧ u.cell? ⟨w.heap.size, 3, none⟩ = some (.slice px nx qx) ∧
      u.cell? ⟨w.heap.size + 1, 0, none⟩ = some (.int .i64 Y.k) ∧ u.cell? ⟨w.heap.size + 1, 1, none⟩ = some (.int .i64 Y.n) ∧ u.cell? ⟨w.heap.size + 1, 2, none⟩ = some (.string Y.s) ∧ u.cell? ⟨w.heap.size + 1, 3, none⟩ = some (.slice py ny qy) ∧
      u.cell? ⟨w1.heap.size, 0, none⟩ = some (.int .i64 U.k) ∧ u.cell? ⟨w1.heap.size, 1, none⟩ = some (.int .i64 U.n) ∧ u.cell? ⟨w1.heap.size, 2, none⟩ = some (.string U.s) ∧ u.cell? ⟨w1.heap.size, 3, none⟩ = some (.slice p1 n1 q1) ∧
      u.cell? ⟨w2.heap.size, 0, none⟩ = some (.int .i64 U.k) ∧ u.cell? ⟨w2.heap.size, 1, none⟩ = some (.int .i64 U.n) ∧ u.cell? ⟨w2.heap.size, 2, none⟩ = some (.string U.s) ∧ u.cell? ⟨w2.heap.size, 3, none⟩ = some (.slice p2 n2 q2))
    (first | exact sixteen hA9 hB9 hC9 hD9 | exact sixteen hA8 hB8 hC8 hD8 | exact sixteen hA7 hB7 hC7 hD7 | exact sixteen hA6 hB6 hC6 hD6 | exact sixteen hA5 hB5 hC5 hD5 | exact sixteen hA4 hB4 hC4 hD4 | exact sixteen hA3 hB3 hC3 hD3)
    (first
      | (go_at_call 12; refine (begun12 _).mono ?_; rintro e w4 ⟨rfl, hb4⟩; have hA4 := blk_on hb4 hA3; have hB4 := blk_on hb4 hB3; have hC4 := blk_on hb4 hC3; have hD4 := blk_on hb4 hD3; have hx4 := hx3.on hb4; have hy4 := hy3.on hb4; have hu4 := hu3.on hb4; have hv4 := hv3.on hb4)
      | (go_at_call 28; refine (c28 _ hx4 hy4).mono ?_; rintro e w5 ⟨rfl, hb5⟩; have hA5 := blk_on hb5 hA4; have hB5 := blk_on hb5 hB4; have hC5 := blk_on hb5 hC4; have hD5 := blk_on hb5 hD4; have hx5 := hx4.on hb5; have hy5 := hy4.on hb5; have hu5 := hu4.on hb5; have hv5 := hv4.on hb5)
      | (go_at_call 29; refine (c29 _ hx5 hy5).mono ?_; rintro e w6 ⟨rfl, hb6⟩; have hA6 := blk_on hb6 hA5; have hB6 := blk_on hb6 hB5; have hC6 := blk_on hb6 hC5; have hD6 := blk_on hb6 hD5; have hx6 := hx5.on hb6; have hy6 := hy5.on hb6; have hu6 := hu5.on hb6; have hv6 := hv5.on hb6)
      | (go_at_call 30; refine (c30 _ hx6 hy6).mono ?_; rintro e w7 ⟨rfl, hg7⟩; have hb7 := hg7.bel; have hA7 := blk_on hb7 hA6; have hB7 := blk_on hb7 hB6; have hC7 := blk_on hb7 hC6; have hD7 := blk_on hb7 hD6; have hx7 := hx6.on hb7; have hy7 := hy6.on hb7; have hu7 := hu6.on hb7; have hv7 := hv6.on hb7)
      | (go_at_call 15; clear tok1; refine (c15 _ hx7 hy7).mono ?_; rintro e w8 ⟨rfl, hb8⟩; have hA8 := blk_on hb8 hA7; have hB8 := blk_on hb8 hB7; have hC8 := blk_on hb8 hC7; have hD8 := blk_on hb8 hD7; have hx8 := hx7.on hb8; have hy8 := hy7.on hb8; have hu8 := hu7.on hb8; have hv8 := hv7.on hb8)
      | (go_at_call 15; refine (cU _ _ _ hu8 hv8).mono ?_; rintro e w9 ⟨rfl, hb9⟩; have hA9 := blk_on hb9 hA8; have hB9 := blk_on hb9 hB8; have hC9 := blk_on hb9 hC8; have hD9 := blk_on hb9 hD8; have hx9 := hx8.on hb9; have hy9 := hy8.on hb9; have hu9 := hu8.on hb9; have hv9 := hv8.on hb9))
  have hb9' : Below w.heap.size w w9 := bel_then (bel_then (bel_then (bel_then (bel_then (bel_then (bel_then hbw3 (Below.refl _ _).drew) hb4) hb5) hb6) hb7) hb8) hb9
  clear hA3 hB3 hC3 hD3 hA4 hB4 hC4 hD4 hA5 hB5 hC5 hD5 hA6 hB6 hC6 hD6 hA7 hB7 hC7 hD7 hA8 hB8 hC8 hD8 hB9 hC9 hD9 hx3 hy3 hu3 hv3 hx4 hy4 hu4 hv4 hx5 hy5 hu5 hv5 hx6 hy6 hu6 hv6 hx7 hy7 hu7 hv7 hx8 hy8 hu8 hv8 hy9 hu9 hv9 hb4 hb5 hb6 hb7 hb8 hb9 hg7 hbw3 c28 c29 c30 c15 cU
  obtain ⟨x0, x1, x2, x3, -⟩ := four_of hA9
  have hlw : w.heap.size < w9.heap.size := (Array.getElem?_eq_some_iff.1 hA9).1
  go_wp2_with (first
    | (go_at_call 31; refine (c31 _ hx9).mono ?_; rintro e wA ⟨sc, rfl, hinA, hbA, hnfA⟩; obtain ⟨pc, qc, hsc, hcc, hccm, hc56, hcx⟩ := ((V.in_iff _ _ _ _).1 hinA).2.2.2; change sc = .slice pc l.length qc at hsc; change l = [] ∨ ∃ b o, pc = some ⟨b, o, none⟩ ∧ w9.heap.size ≤ b ∧ Ls wA w9.heap.size l b o at hcx; change l.length * 56 ≤ _ at hc56; subst hsc; obtain ⟨z0, z1, z2, z3, -⟩ := four_of (blk_on hbA hA9); have hlA : w.heap.size < wA.heap.size := (by have := hbA.size; omega); have hxA := (hx9.on hbA).on (bel1 wA (.cells #[.int .i64 k, .int .i64 n, .string s, .slice pc l.length qc] 24)); have hcA := (hinA.low (Nat.zero_le _)).on (bel1 wA (.cells #[.int .i64 k, .int .i64 n, .string s, .slice pc l.length qc] 24)))
    | (go_at_call 15; refine (cX _ _ _ hxA hcA).mono ?_; rintro e wB ⟨rfl, hbB⟩; have kB := blk_on hbB (blk_new wA _); obtain ⟨v0, v1, v2, v3, -⟩ := four_of kB))
  have hI0 := Inv.start hnfA (bel_then (bel1 wA _) hbB) kB hbA.size
  have hbB9 : Below w9.heap.size w9 wB := bel_then hbA (bel_then (bel1 wA _) hbB)
  clear hnfA hinA hxA hcA hbB kB v0 v1 v2 v3 z0 z1 z2 z3 x0 x1 x2 x3 cX hcc hccm
  generalize hCells : #[Value.int .i64 k, .int .i64 n, .string s, .slice pc l.length qc] = C at hI0
  have hC3 : C[3]? = some (.slice pc l.length qc) := by rw [← hCells]; rfl
  clear hCells
  go_loopg [64] l.length (fun c i wr => ∃ j : Nat, c + j = l.length ∧ i = .int .i64 j ∧ Hid (Inv w9.heap.size wA C wr))
  case atStart => exact ⟨0, rfl, rfl, hI0⟩
  case round =>
    obtain ⟨j, hj, rfl, hI⟩ := hrel
    have hcc : wr.cell? ⟨wA.heap.size, 3, none⟩ = some (.slice pc l.length qc) := by
      have := hI.out.2.2
      simp [World.cell?, this, hC3]
    by_cases hlt : j < l.length
    · obtain ⟨bC, oC, rfl, hloC, hLs⟩ := hcx.resolve_left (by rintro rfl; simp at hlt)
      obtain ⟨se, e0, e1, e2, e3, he⟩ := hLs.at j hlt
      obtain ⟨pe, qe, hse, hec, hecm, he56, hex⟩ := ((V.in_iff _ _ _ _).1 he).2.2.2
      subst hse
      obtain ⟨le, hle⟩ : ∃ le, le = l[j].l := ⟨_, rfl⟩
      rw [← hle] at e3 hex hec he56
      clear hle
      have hltC : bC < wA.heap.size := cell_lt e0
      obtain ⟨n1, f1, g1⟩ := hI.out.int hloC e1
      have f3 := hI.out.slice hloC e3
      have hI1 := fun m => hI.out.set hloC e1 m
      have i2 : (j : Int) < (l.length : Int) := by omega
      generalize l[j] = xj at *
      clear hLs he e0 e2 hI
      go_wp2
      have hI2 : ∀ m, Hid (Inv w9.heap.size wA C (wr.setCell ⟨bC, oC + j * 4 + 1, none⟩ (.int .i64 m))) := hI1
      clear hI1 f3 f1 g1 hcc
      generalize gk = G at *
      go_loopg [83] le.length (fun c i wq => ∃ m : Nat, c + m = le.length ∧ i = .int .i64 m ∧ Hid (Inv w9.heap.size wA C wq))
      case atStart => exact ⟨0, rfl, rfl, hI2 _⟩
      case round =>
        obtain ⟨m, hm, rfl, hI⟩ := hrel
        clear hI2
        rename World => wq
        have hcq : wq.cell? ⟨wA.heap.size, 3, none⟩ = some (.slice (some ⟨bC, oC, none⟩) l.length qc) := by
          have := hI.out.2.2
          simp [World.cell?, this, hC3]
        have f3 := hI.out.slice hloC e3
        by_cases hm' : m < le.length
        · obtain ⟨bE, oE, rfl, hloE, hLE⟩ := hex.resolve_left (by rintro rfl; simp at hm')
          obtain ⟨sE, k0, k1, k2, k3, hE⟩ := hLE.at m hm'
          obtain ⟨m1, f0, g0⟩ := hI.out.int hloE k0
          have hI3 := fun v => hI.out.set hloE k0 v
          have i3 : (m : Int) < (le.length : Int) := by omega
          generalize le[m] = xe at *
          clear hLE hE k0 k1 k2 k3 hex
          go_wp2
          go_roundg (gk - 1)
          case rel => exact ⟨m + 1, by omega, by go_num, hI3 _⟩
          case measure => omega
        · have i3 : ¬ (m : Int) < (le.length : Int) := by omega
          clear hex
          go_wp2
          go_roundg (G - 1)
          case rel => exact ⟨j + 1, by omega, by go_num, hI⟩
          case measure => omega
    · have i2 : ¬ (j : Int) < (l.length : Int) := by omega
      have hbr : Below w.heap.size w wr := hb9'.trans ((hbA.mono (Nat.le_of_lt hlw)).trans (hI.out.1.mono (Nat.le_of_lt hlw)))
      have hAr := ((hbA.trans hI.out.1).block w.heap.size hlw).trans hA9
      have hxr := (hx.on hbr).on (Below.refl _ _).drew
      obtain ⟨z0, z1, z2, z3, -⟩ := four_of hAr
      have cX := fun s1 s2 w hx hy => refSame_any (.mk k n s l) (.mk k n s l) s1 s2 w hx hy
      rw [cmp_self] at cX
      unfold V.agg at cX
      have ek : (V.mk k n s l).k = k := rfl
      have en : (V.mk k n s l).n = n := rfl
      have es : (V.mk k n s l).s = s := rfl
      simp only [ek, en, es] at cX
      clear ek en es hcx hI hI0 hcc
      go_wp2
      go_region_held3 (fun u => u.cell? ⟨w.heap.size, 0, none⟩ = some (.int .i64 k) ∧ u.cell? ⟨w.heap.size, 1, none⟩ = some (.int .i64 n) ∧ u.cell? ⟨w.heap.size, 2, none⟩ = some (.string s) ∧ u.cell? ⟨w.heap.size, 3, none⟩ = some (.slice px nx qx))
        (first | exact ⟨z0, z1, z2, z3⟩ | exact ⟨y0, y1, y2, y3⟩ | exact ⟨q0, q1, q2, q3⟩)
        (first
          | (go_at_call 31; refine (c31 _ hxr).mono ?_; rintro e wD ⟨sd, rfl, hinD, hbD, -⟩; obtain ⟨pd, nd, qd, rfl⟩ := hinD.header; obtain ⟨y0, y1, y2, y3, -⟩ := four_of (blk_on hbD hAr); have hxD := hxr.on hbD)
          | (go_at_call 15; refine (cX _ _ _ hxD (hinD.low (Nat.zero_le _))).mono ?_; rintro e wE ⟨rfl, hbE⟩; obtain ⟨q0, q1, q2, q3, -⟩ := four_of (blk_on hbE (blk_on hbD hAr))))
      have hfin : Below w.heap.size w wE := bel_then (bel_then (bel_then hbr (Below.refl _ _).drew) hbD) hbE
      go_wp2
      go_ret
      exact ⟨rfl, hfin⟩
end Go.Proofs.YtbicodlclmdgaaaGreatDoor
