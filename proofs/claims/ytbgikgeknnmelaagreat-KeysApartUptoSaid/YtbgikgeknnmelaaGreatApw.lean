/-
  The walk of KeysApart.
-/
import Derived.Test.YtbgikgeknnmelaaGreatBgn
import Derived.Test.YtbgikgeknnmelaaGreatApm
import Derived.Maps.OwnSet
import Derived.Maps.OwnOps
namespace Go.Proofs.YtbgikgeknnmelaaGreat
open Go.RowKit Go.Maps
set_option linter.unusedVariables false      -- a walk need not use every condition

/-- All cells are kept. -/
def CK (w w' : World) : Prop := ∀ (a : Addr) v, w.cell? a = some v → w'.cell? a = some v
theorem CK.trans {a b c : World} (h : CK a b) (k : CK b c) : CK a c := fun x v e => k x v (h x v e)
theorem ck_bel {w w' : World} (h : Below w.heap.size w w') : CK w w' := fun a v e => some_on h e
theorem Bs.ck {w w' : World} {v : Value} {t : List UInt8} (h : Bs w v t) (k : CK w w') : Bs w' v t := by
  obtain ⟨p, cap, rfl, h1, h2, h3, h4⟩ := h
  refine ⟨p, cap, rfl, h1, h2, h3, ?_⟩
  rcases h4 with h4 | ⟨g, o, rfl, hc⟩
  · exact .inl h4
  · exact .inr ⟨g, o, rfl, fun i hi => k _ _ (hc i hi)⟩
theorem Es.ck {w w' : World} {v : Value} {l : List En} (h : Es w v l) (k : CK w w') : Es w' v l := by
  obtain ⟨p, cap, rfl, h1, h2, h4⟩ := h
  refine ⟨p, cap, rfl, h1, h2, ?_⟩
  rcases h4 with h4 | ⟨g, o, rfl, hc⟩
  · exact .inl h4
  · refine .inr ⟨g, o, rfl, fun i hi => ?_⟩
    obtain ⟨kh, vh, c0, c1, k0, k1⟩ := hc i hi
    exact ⟨kh, vh, k _ _ c0, k _ _ c1, k0.ck k, k1.ck k⟩
theorem ck_map {w w' : World} {M n : Nat} {H : Type} {P : Program} {k : TypeId} {R : Value → Option (DataW H × List MemPlace)} {D : DataW H} (h : w.ownsMap P k R M n D) (hg : w.grownBy w' (some M)) : CK w w' := fun a v e => by
  obtain ⟨es, ck, hb, -⟩ := h
  have hne : a.block ≠ M := by
    rintro rfl
    unfold World.cell? at e
    rw [hb] at e
    simp at e
  exact (hg.cell_far a (cell_lt e) (fun e' => hne (by injection e'))).trans e
def HH := DataW Unit
/-- What the map says: each key's number is one of the lists up to i, which has an entry with that key. -/
def TieK (x y : Vx) (z : Lk) (i : Nat) (D : DataW Unit) : Prop := IsMap D ∧ ∀ s : List UInt8, Maps.has D (.string s) = true → ∃ j : Nat, j ≤ i ∧ j < 3 ∧ (∀ zd, D.atKey (.string s) zd = .lit (.int .i64 j)) ∧ ∃ d ∈ L3 x y z j, d.key = s
theorem tieK_none (x y : Vx) (z : Lk) : TieK x y z 0 (.map []) := ⟨⟨_, rfl⟩, fun s h => by simp [Maps.has] at h⟩
theorem TieK.up {x y : Vx} {z : Lk} {i i' : Nat} {D : DataW Unit} (h : TieK x y z i D) (hi : i ≤ i') : TieK x y z i' D := ⟨h.1, fun s hs => by obtain ⟨j, h1, h2, h3⟩ := h.2 s hs; exact ⟨j, by omega, h2, h3⟩⟩
theorem TieK.put {x y : Vx} {z : Lk} {i : Nat} {D : DataW Unit} (h : TieK x y z i D) (hi : i < 3) {e : En} (he : e ∈ L3 x y z i) : TieK x y z i (D.put (.string e.key) (.lit (.int .i64 i))) := by
  refine ⟨?_, fun s hs => ?_⟩
  · obtain ⟨m, rfl⟩ := h.1; exact ⟨_, rfl⟩
  · by_cases hse : s = e.key
    · subst hse
      exact ⟨i, Nat.le_refl _, hi, fun zd => atKey_put_same h.1 (show WideAt.IsKeyLit (.string _) from trivial) _ _, e, he, rfl⟩
    · have hne : (Lit.string s) ≠ .string e.key := fun e' => hse (by injection e')
      rw [has_put_other hne] at hs
      obtain ⟨j, h1, h2, h3, h4⟩ := h.2 s hs
      exact ⟨j, h1, h2, fun zd => (atKey_put_other hne _ _).trans (h3 zd), h4⟩
theorem keyedS : Keyed Tryz.prog 9 := string_keyed Tryz.underlying9
theorem wf3 {i : Nat} (h : i < 3) : (Lit.int .i64 (i : Int)).wf = true := by
  rcases (by omega : i = 0 ∨ i = 1 ∨ i = 2) with rfl | rfl | rfl <;> decide
theorem zero3 (w : World) : (zeroValue 3).run Tryz.prog w = .ok (.int .i64 0) w := by kernel_rfl
theorem two_of {w : World} {g : Nat} {a b : Value} {t : TypeId} (h : w.heap[g]? = some (.cells #[a, b] t)) : w.cell? ⟨g, 0, none⟩ = some a ∧ w.cell? ⟨g, 1, none⟩ = some b ∧ ∀ i, w.frozen? ⟨g, i, none⟩ = false := by
  refine ⟨?_, ?_, fun i => ?_⟩ <;> simp [World.cell?, World.frozen?, h]
theorem ele_S {u : World} {A B C : Nat} {a0 a1 a2 b0 b1 b2 c0 c1 c2 c3 c4 : Value} {s t r : TypeId} (hA : u.heap[A]? = some (.cells #[a0, a1, a2] s)) (hB : u.heap[B]? = some (.cells #[b0, b1, b2] t)) (hC : u.heap[C]? = some (.cells #[c0, c1, c2, c3, c4] r)) : u.cell? ⟨A, 0, none⟩ = some a0 ∧ u.cell? ⟨A, 1, none⟩ = some a1 ∧ u.cell? ⟨A, 2, none⟩ = some a2 ∧ u.cell? ⟨B, 0, none⟩ = some b0 ∧ u.cell? ⟨B, 1, none⟩ = some b1 ∧ u.cell? ⟨B, 2, none⟩ = some b2 ∧ u.cell? ⟨C, 0, none⟩ = some c0 ∧ u.cell? ⟨C, 1, none⟩ = some c1 ∧ u.cell? ⟨C, 2, none⟩ = some c2 ∧ u.cell? ⟨C, 3, none⟩ = some c3 ∧ u.cell? ⟨C, 4, none⟩ = some c4 :=
  let ⟨h0, h1, h2, _⟩ := three_of hA; let ⟨h3, h4, h5, _⟩ := three_of hB; let ⟨h6, h7, h8, h9, h10, _⟩ := five_of hC; ⟨h0, h1, h2, h3, h4, h5, h6, h7, h8, h9, h10⟩
theorem ele_ck {u u' : World} (k : CK u u') {A B C : Nat} {a0 a1 a2 b0 b1 b2 c0 c1 c2 c3 c4 : Value} (h : u.cell? ⟨A, 0, none⟩ = some a0 ∧ u.cell? ⟨A, 1, none⟩ = some a1 ∧ u.cell? ⟨A, 2, none⟩ = some a2 ∧ u.cell? ⟨B, 0, none⟩ = some b0 ∧ u.cell? ⟨B, 1, none⟩ = some b1 ∧ u.cell? ⟨B, 2, none⟩ = some b2 ∧ u.cell? ⟨C, 0, none⟩ = some c0 ∧ u.cell? ⟨C, 1, none⟩ = some c1 ∧ u.cell? ⟨C, 2, none⟩ = some c2 ∧ u.cell? ⟨C, 3, none⟩ = some c3 ∧ u.cell? ⟨C, 4, none⟩ = some c4) : u'.cell? ⟨A, 0, none⟩ = some a0 ∧ u'.cell? ⟨A, 1, none⟩ = some a1 ∧ u'.cell? ⟨A, 2, none⟩ = some a2 ∧ u'.cell? ⟨B, 0, none⟩ = some b0 ∧ u'.cell? ⟨B, 1, none⟩ = some b1 ∧ u'.cell? ⟨B, 2, none⟩ = some b2 ∧ u'.cell? ⟨C, 0, none⟩ = some c0 ∧ u'.cell? ⟨C, 1, none⟩ = some c1 ∧ u'.cell? ⟨C, 2, none⟩ = some c2 ∧ u'.cell? ⟨C, 3, none⟩ = some c3 ∧ u'.cell? ⟨C, 4, none⟩ = some c4 :=
  let ⟨h0, h1, h2, h3, h4, h5, h6, h7, h8, h9, h10⟩ := h; ⟨k _ _ h0, k _ _ h1, k _ _ h2, k _ _ h3, k _ _ h4, k _ _ h5, k _ _ h6, k _ _ h7, k _ _ h8, k _ _ h9, k _ _ h10⟩
theorem es_len {w : World} {v : Value} {l : List En} (h : Es w v l) : ∃ p cap, v = .slice p l.length cap ∧ l.length ≤ cap ∧ cap ≤ 9223372036854775807 := by
  obtain ⟨p, cap, e, h1, h2, -⟩ := h
  unfold maxLen at h2
  exact ⟨p, cap, e, h1, by omega⟩
theorem vxQ_len (x : Vx) (h : manyP x.ps ≤ 1048570) : (vxQ x).length ≤ 1048580 := by
  have := manyP_len x.ps
  unfold vxQ; split
  · simp [ixQ]; omega
  · simp
theorem lkQ_len (x : Lk) (h : manyP x.ps ≤ 1048570) : (lkQ x).length ≤ 1048580 := by
  have := manyP_len x.ps
  unfold lkQ; split
  · simp [ixQ]; omega
  · simp
set_option maxHeartbeats 8000000 in
set_option maxRecDepth 20000 in
theorem apart6 (x y : Vx) (z : Lk) (sx sy sz : Value) (w : World) (hx : RV.In w 0 x sx) (hy : RV.In w 0 y sy) (hz : RL.In w 0 z sz) (mx : manyP x.ps ≤ 1048570) (my : manyP y.ps ≤ 1048570) (mz : manyP z.ps ≤ 1048570) (lx : x.lb.size ≤ 1048570) (ly : y.lb.size ≤ 1048570) (lz : z.lb.size ≤ 1048570) :
    Calls Tryz.prog 6 #[x.agg sx, y.agg sy, z.agg sz] w fun e w' => e = .returned (.bool true) ∧ Below w.heap.size w w' := by
  have cx := fun W h => vertex10 x sx W h lx mx
  have cy := fun W h => vertex10 y sy W h ly my
  have cz := fun W h => edge12 z sz W h lz mz
  have hIx := hx.1
  have hIy := hy.1
  obtain ⟨px, nx, qx, rfl⟩ := hx.2.2.hdr
  obtain ⟨py, ny, qy, rfl⟩ := hy.2.2.hdr
  obtain ⟨pz, nz, qz, rfl⟩ := hz.2.2.2.2.hdr
  have hll : ∀ i, (L3 x y z i).length ≤ 1048580 := fun i => by
    unfold L3; split
    · exact vxQ_len x mx
    · exact vxQ_len y my
    · exact lkQ_len z mz
  have hmm := @run_makeMap Tryz.prog
  unfold Vx.agg at cx cy ⊢
  unfold Lk.agg at cz ⊢
  go_enter Tryz.func6, Tryz.ntmps6
  go_wp2_with (fail)
  refine (begun8 _).mono ?_
  rintro e w1 ⟨rfl, hB1⟩
  have hb0 : Below w.heap.size w (((w.alloc (.cells #[.int .i64 x.id, .string x.lb, .slice px nx qx] 24)).alloc (.cells #[.int .i64 y.id, .string y.lb, .slice py ny qy] 24)).alloc (.cells #[.int .i64 z.id, .string z.lb, .int .i64 z.out, .int .i64 z.inn, .slice pz nz qz] 26)) := bel_al (bel_al (bel1 w _) _) _
  have EA := blk_on hB1 (blk_old (o' := .cells #[.int .i64 z.id, .string z.lb, .int .i64 z.out, .int .i64 z.inn, .slice pz nz qz] 26) (blk_old (o' := .cells #[.int .i64 y.id, .string y.lb, .slice py ny qy] 24) (blk_new w (.cells #[.int .i64 x.id, .string x.lb, .slice px nx qx] 24))))
  have EB := blk_on hB1 (blk_old (o' := .cells #[.int .i64 z.id, .string z.lb, .int .i64 z.out, .int .i64 z.inn, .slice pz nz qz] 26) (blk_new (w.alloc (.cells #[.int .i64 x.id, .string x.lb, .slice px nx qx] 24)) (.cells #[.int .i64 y.id, .string y.lb, .slice py ny qy] 24)))
  have EC := blk_on hB1 (blk_new ((w.alloc (.cells #[.int .i64 x.id, .string x.lb, .slice px nx qx] 24)).alloc (.cells #[.int .i64 y.id, .string y.lb, .slice py ny qy] 24)) (.cells #[.int .i64 z.id, .string z.lb, .int .i64 z.out, .int .i64 z.inn, .slice pz nz qz] 26))
  have B1 := bel_then hb0 hB1
  simp only [World.size_alloc] at EB EC
  clear hB1 hb0
  go_wp2
  have hmp : (w1.alloc (.map #[] 0)).ownsMap (H := Unit) Tryz.prog 9 (plainElem Tryz.prog 3) w1.heap.size 0 (.map []) := World.ownsMap_made _ _ _ _
  have N0 := ele_ck (ck_bel (bel1 w1 (.map #[] 0))) (ele_S EA EB EC)
  have B2 := bel_al B1 (.map #[] 0)
  have hMw : w.heap.size ≤ w1.heap.size := B1.size
  clear EA EB EC B1 hmm
  generalize w1.alloc (.map #[] 0) = W2 at *
  generalize w1.heap.size = M at *
  have N1 := N0
  have N2 := N0
  have N3 := N0
  have N0d := ele_ck (ck_bel (Below.refl _ W2).drew) N0
  have B2d : Below w.heap.size w W2.drew := bel_drew B2
  have HM := Lib.hid hmp
  clear hmp
  go_region_held3 (fun u => u.cell? ⟨w.heap.size, 0, none⟩ = some (.int .i64 x.id) ∧ u.cell? ⟨w.heap.size, 1, none⟩ = some (.string x.lb) ∧ u.cell? ⟨w.heap.size, 2, none⟩ = some (.slice px nx qx) ∧ u.cell? ⟨w.heap.size + 1, 0, none⟩ = some (.int .i64 y.id) ∧ u.cell? ⟨w.heap.size + 1, 1, none⟩ = some (.string y.lb) ∧ u.cell? ⟨w.heap.size + 1, 2, none⟩ = some (.slice py ny qy) ∧ u.cell? ⟨w.heap.size + 1 + 1, 0, none⟩ = some (.int .i64 z.id) ∧ u.cell? ⟨w.heap.size + 1 + 1, 1, none⟩ = some (.string z.lb) ∧ u.cell? ⟨w.heap.size + 1 + 1, 2, none⟩ = some (.int .i64 z.out) ∧ u.cell? ⟨w.heap.size + 1 + 1, 3, none⟩ = some (.int .i64 z.inn) ∧ u.cell? ⟨w.heap.size + 1 + 1, 4, none⟩ = some (.slice pz nz qz))
    (first | with_reducible exact N0d | with_reducible exact N1 | with_reducible exact N2 | with_reducible exact N3 | with_reducible exact ele_ck (ck_bel (bel1 _ _)) N3)
    (first
      | (go_at_call 10; (with_reducible refine (cx W2.drew (RV.keep (keep_below B2d) (Nat.le_refl _) _ _ hx)).mono ?_); rintro e w3 ⟨v3, rfl, hr3, hb3⟩; have N1 := ele_ck (ck_bel hb3) N0d; have B3 : Below w.heap.size w w3 := bel_then B2d hb3; have R3 := Lib.hid hr3.es; have Q3 := Lib.hid (bel_then (Below.refl _ W2).drew hb3); clear hr3 hb3)
      | (go_at_call 10; (with_reducible refine (cy w3 (RV.keep (keep_below B3) (Nat.le_refl _) _ _ hy)).mono ?_); rintro e w4 ⟨v4, rfl, hr4, hb4⟩; have N2 := ele_ck (ck_bel hb4) N1; have B4 : Below w.heap.size w w4 := bel_then B3 hb4; have R4 := Lib.hid (And.intro (R3.out.on hb4) hr4.es); have Q4 := Lib.hid (bel_then Q3.out hb4); clear hr4 hb4)
      | (go_at_call 12; (with_reducible refine (cz w4 (RL.keep (keep_below B4) (Nat.le_refl _) _ _ hz)).mono ?_); rintro e w5 ⟨v5, rfl, hr5, hb5⟩; have N3 := ele_ck (ck_bel hb5) N2; have B5 : Below w.heap.size w w5 := bel_then B4 hb5; have R5 := Lib.hid (And.intro (R4.out.1.on hb5) (And.intro (R4.out.2.on hb5) hr5.es)); have Q5 := Lib.hid (bel_then Q4.out hb5); obtain ⟨p5, d5, rfl, e5⟩ := es_len R5.out.2.2; obtain ⟨p4, d4, rfl, e4⟩ := es_len R5.out.2.1; obtain ⟨p3, d3, rfl, e3⟩ := es_len R5.out.1; clear hr5 hb5))
  all_goals go_wp2
  have K6 : CK W2 (w5.alloc (.cells #[.slice p3 (vxQ x).length d3, .slice p4 (vxQ y).length d4, .slice p5 (lkQ z).length d5] 32)) := ck_bel (bel_then Q5.out (bel1 w5 _))
  have hM6 := Lib.hid (HM.out.kept (gr_bel (bel_then Q5.out (bel1 w5 (.cells #[.slice p3 (vxQ x).length d3, .slice p4 (vxQ y).length d4, .slice p5 (lkQ z).length d5] 32))) none) (by simp))
  have N6 := ele_ck K6 N0
  have g6 := blk_new w5 (.cells #[.slice p3 (vxQ x).length d3, .slice p4 (vxQ y).length d4, .slice p5 (lkQ z).length d5] 32)
  obtain ⟨q0, q1, q2, -⟩ := three_of g6
  have B6 := Lib.hid (bel_al B5 (.cells #[.slice p3 (vxQ x).length d3, .slice p4 (vxQ y).length d4, .slice p5 (lkQ z).length d5] 32))
  have hrow : Hid (∀ i, i < 3 → ∃ p cap, (w5.alloc (.cells #[.slice p3 (vxQ x).length d3, .slice p4 (vxQ y).length d4, .slice p5 (lkQ z).length d5] 32)).cell? ⟨w5.heap.size, i, none⟩ = some (.slice p (L3 x y z i).length cap) ∧ (L3 x y z i).length ≤ cap ∧ cap ≤ 9223372036854775807 ∧ Es (w5.alloc (.cells #[.slice p3 (vxQ x).length d3, .slice p4 (vxQ y).length d4, .slice p5 (lkQ z).length d5] 32)) (.slice p (L3 x y z i).length cap) (L3 x y z i)) := fun i hi => by
    rcases (by omega : i = 0 ∨ i = 1 ∨ i = 2) with rfl | rfl | rfl
    · exact ⟨p3, d3, q0, e3.1, e3.2, R5.out.1.on (bel1 w5 _)⟩
    · exact ⟨p4, d4, q1, e4.1, e4.2, R5.out.2.1.on (bel1 w5 _)⟩
    · exact ⟨p5, d5, q2, e5.1, e5.2, R5.out.2.2.on (bel1 w5 _)⟩
  have hx0 := N6.1
  have hy0 := N6.2.2.2.1
  clear K6 N6 g6 q0 q1 q2 e3 e4 e5 R3 R4 R5 Q3 Q4 Q5 HM B2d N0d N0 N1 N2 N3 B2 B3 B4 B5 cx cy cz hx hy hz
  generalize w5.alloc (.cells #[.slice p3 (vxQ x).length d3, .slice p4 (vxQ y).length d4, .slice p5 (lkQ z).length d5] 32) = W6 at *
  generalize w5.heap.size = G at *
  go_loopg [25] 3 (fun c i25 wr => ∃ (i n : Nat) (D : DataW Unit), c + i = 3 ∧ i25 = .int .i64 i ∧ n ≤ i * 1048580 ∧ Hid (CK W6 wr) ∧ Hid (wr.ownsMap Tryz.prog 9 (plainElem Tryz.prog 3) M n D) ∧ Hid (TieK x y z i D) ∧ Hid (Below w.heap.size w wr))
  case atStart => exact ⟨0, 0, _, rfl, rfl, Nat.le_refl _, fun _ _ h => h, hM6.out, tieK_none x y z, B6.out⟩
  case round =>
    obtain ⟨i, n, D, hi, rfl, hn, hck, hmap, htie, hB⟩ := hrel
    by_cases hlt : i < 3
    · obtain ⟨p, cap, c0, h1, h2, hes⟩ := hrow.out i hlt
      have c0' := hck.out _ _ c0
      have hle := hll i
      obtain ⟨L, hL⟩ : ∃ L, Hid (L3 x y z i = L) := ⟨L3 x y z i, (rfl : _ = _)⟩
      rw [hL.out] at c0' h1 hes hle
      clear c0
      have HES := Lib.hid hes
      obtain ⟨wo, hwo⟩ : ∃ v, v = wr := ⟨_, rfl⟩
      subst hwo
      obtain ⟨gO, hgO⟩ : ∃ v, v = gk := ⟨_, rfl⟩
      subst hgO
      clear hes
      clear hrow hM6 B6
      go_wp2
      rw [show decide ((i : Int) < 3) = true from decide_eq_true (by omega)]
      go_loopg [32] L.length (fun c k32 wr => ∃ (k n' : Nat) (D' : DataW Unit), c + k = L.length ∧ k32 = .int .i64 k ∧ n' ≤ n + k ∧ Hid (CK W6 wr) ∧ Hid (wr.ownsMap Tryz.prog 9 (plainElem Tryz.prog 3) M n' D') ∧ Hid (TieK x y z i D') ∧ Hid (Below w.heap.size w wr))
      case atStart => exact ⟨0, n, D, rfl, rfl, Nat.le_refl _, hck.out, hmap.out, htie.out, hB.out⟩
      case round =>
        clear hck hmap htie hB c0'
        obtain ⟨k, n', D', hk, rfl, hn', hck, hmap, htie, hB⟩ := hrel
        by_cases hkl : k < L.length
        · obtain ⟨p', cap', e, -, -, hx4⟩ := HES.out
          injection e with e1 _ e3
          subst e1 e3
          obtain ⟨g, o, rfl, hcell⟩ := hx4.resolve_left (by intro e; rw [e] at hkl; simp at hkl)
          obtain ⟨kh, vh, d0, d1, k0, k1⟩ := hcell k hkl
          have z0 := hck.out _ _ d0
          have z1 := hck.out _ _ d1
          have hmem : Hid (L[k] ∈ L3 x y z i) := by show _ ∈ _; rw [hL.out]; exact List.getElem_mem hkl
          have hap := fun (j : Nat) (hj : j ≤ i) (d : En) (hd : d ∈ L3 x y z j) (he : d.key = (L[k]).key) (hne : j ≠ i) => apart3 hj hlt hd hmem.out he hne
          have hap := Lib.hid hap
          have hkl' := k0.len
          generalize L[k] = e at *
          have bk := k0.ck (hck.out.trans (ck_bel (bel1 wr (.cells #[kh, vh] 39))))
          have hm1 := hmap.out.alloc (.cells #[kh, vh] 39)
          have hkey : keyOf Tryz.prog 9 (.string ⟨e.key.toArray⟩) = some (.string e.key) := by
            have := WideMaps.keyOf_string_mk (P := Tryz.prog) (k := 9) Tryz.underlying9 (s := ⟨e.key.toArray⟩) (show e.key.toArray.size ≤ maxLen by simpa using hkl')
            simpa using this
          obtain ⟨v, ps, hlook, hR⟩ := hm1.look_ok keyedS Tryz.underlying60 (zero3 _) (plainElem_int Tryz.underlying3 (by decide)) hkey
          obtain ⟨c, rfl, hc, hcw⟩ := plainElem_int_inv Tryz.underlying3 hR
          have hconv := bk.str
          obtain ⟨pk, nk, ck, rfl⟩ : ∃ p n c, kh = .slice p n c := by obtain ⟨p, c, e, -⟩ := k0.slice; exact ⟨_, _, _, e⟩
          obtain ⟨pv, nv, cv, rfl⟩ : ∃ p n c, vh = .slice p n c := by obtain ⟨p, c, e, -⟩ := k1.slice; exact ⟨_, _, _, e⟩
          have eb := blk_new wr (.cells #[.slice pk nk ck, .slice pv nv cv] 39)
          have hx1 := hck.out.trans (ck_bel (bel1 wr (.cells #[.slice pk nk ck, .slice pv nv cv] 39))) _ _ hx0
          have hy1 := hck.out.trans (ck_bel (bel1 wr (.cells #[.slice pk nk ck, .slice pv nv cv] 39))) _ _ hy0
          have B1 := Lib.hid (bel_al hB.out (.cells #[.slice pk nk ck, .slice pv nv cv] 39))
          have C1 := Lib.hid (hck.out.trans (ck_bel (bel1 wr (.cells #[.slice pk nk ck, .slice pv nv cv] 39))))
          have HM1 := Lib.hid hm1
          have hput := Lib.hid (htie.out.put hlt hmem.out)
          have hkeyH := Lib.hid hkey
          have hcH := Lib.hid hc
          clear bk k0 k1 d0 d1 hR hm1 hcell hx4 hkey hc hcw hmem hB hck hmap hkl' HES
          generalize (⟨e.key.toArray⟩ : ByteArray) = KS at *
          obtain ⟨y0, y1, yf⟩ := two_of eb
          clear eb
          cases hh : Maps.has D' (.string e.key) with
          | false =>
            rw [hh] at hlook
            clear hh htie hap hcH
            go_wp2_with (at_mapUpdate; refine wpList_mapUpdate_own _ rfl _ _ _ 60 rfl 9 3 keyedS Tryz.underlying60 _ M n' _ rfl HM1.out (by unfold maxLen; omega) _ _ _ rfl rfl hkeyH.out _ [] (plainElem_int Tryz.underlying3 (wf3 hlt)) ?_; intro w2 hown2 hgrow2; have C2 := Lib.hid (C1.out.trans (ck_map HM1.out hgrow2)); have B2 := Lib.hid (B1.out.grown hgrow2 B1.out.size (fun k e => by injection e with e; omega)); have H2 := Lib.hid hown2; clear hgrow2 hown2)
            go_roundg (gk - 1)
            case rel => exact ⟨k + 1, n' + 1, _, by omega, by go_num, by omega, C2.out, H2.out, hput.out, B2.out⟩
            case measure => omega
          | true =>
            rw [hh] at hlook
            obtain ⟨j, hj1, hj2, hj3, d, hd, hde⟩ := htie.out.2 e.key hh
            have hcj : c = (j : Int) := by
              have h1 := congrArg Prod.fst hcH.out
              simp only at h1
              rw [hj3] at h1
              injection h1 with h1
              injection h1 with _ h1
              exact h1.symm
            subst hcj
            by_cases hji : j = i
            · subst hji
              clear hh htie hap hcH hj3 hd hde
              go_wp2_with (at_mapUpdate; refine wpList_mapUpdate_own _ rfl _ _ _ 60 rfl 9 3 keyedS Tryz.underlying60 _ M n' _ rfl HM1.out (by unfold maxLen; omega) _ _ _ rfl rfl hkeyH.out _ [] (plainElem_int Tryz.underlying3 (wf3 hlt)) ?_; intro w2 hown2 hgrow2; have C2 := Lib.hid (C1.out.trans (ck_map HM1.out hgrow2)); have B2 := Lib.hid (B1.out.grown hgrow2 B1.out.size (fun k e => by injection e with e; omega)); have H2 := Lib.hid hown2; clear hgrow2 hown2)
              go_roundg (gk - 1)
              case rel => exact ⟨k + 1, n' + 1, _, by omega, by go_num, by omega, C2.out, H2.out, hput.out, B2.out⟩
              case measure => omega
            · obtain ⟨rfl, hxy⟩ := hap.out j hj1 d hd hde hji
              rw [← hxy] at hy1
              obtain rfl : j = 0 := by omega
              clear hh htie hap hcH hj3 hd hde hxy
              go_wp2_with (at_mapUpdate; refine wpList_mapUpdate_own _ rfl _ _ _ 60 rfl 9 3 keyedS Tryz.underlying60 _ M n' _ rfl HM1.out (by unfold maxLen; omega) _ _ _ rfl rfl hkeyH.out _ [] (plainElem_int Tryz.underlying3 (wf3 hlt)) ?_; intro w2 hown2 hgrow2; have C2 := Lib.hid (C1.out.trans (ck_map HM1.out hgrow2)); have B2 := Lib.hid (B1.out.grown hgrow2 B1.out.size (fun k e => by injection e with e; omega)); have H2 := Lib.hid hown2; clear hgrow2 hown2)
              go_roundg (gk - 1)
              case rel => exact ⟨k + 1, n' + 1, _, by omega, by go_num, by omega, C2.out, H2.out, hput.out, B2.out⟩
              case measure => omega
        · obtain rfl : k = L.length := by omega
          go_wp2
          go_roundg (gO - 1)
          case rel => exact ⟨i + 1, n', D', by omega, by go_num, by omega, hck.out, hmap.out, htie.out.up (by omega), hB.out⟩
          case measure => omega
    · go_wp2
      go_ret
      exact ⟨rfl, hB.out⟩
end Go.Proofs.YtbgikgeknnmelaaGreat
