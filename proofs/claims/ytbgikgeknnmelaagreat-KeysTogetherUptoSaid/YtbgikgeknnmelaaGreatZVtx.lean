/-
  Vertex of package keys.
-/
import Derived.Test.YtbgikgeknnmelaaGreatZEnrIxs
namespace Go.Proofs.YtbgikgeknnmelaaGreat
open Go.RowKit
set_option linter.unusedVariables false      -- a walk need not use every condition

theorem three_of {w : World} {g : Nat} {a b c : Value} {t : TypeId} (h : w.heap[g]? = some (.cells #[a, b, c] t)) :
    w.cell? ⟨g, 0, none⟩ = some a ∧ w.cell? ⟨g, 1, none⟩ = some b ∧ w.cell? ⟨g, 2, none⟩ = some c ∧ ∀ i, w.frozen? ⟨g, i, none⟩ = false := by
  refine ⟨?_, ?_, ?_, fun i => ?_⟩ <;> simp [World.cell?, World.frozen?, h]
theorem sev_S {u : World} {A B : Nat} {a b c p q r s : Value} {ty ty' : TypeId} (hA : u.heap[A]? = some (.cells #[a, b, c] ty)) (hB : u.heap[B]? = some (.cells #[p, q, r, s] ty')) : u.cell? ⟨A, 0, none⟩ = some a ∧ u.cell? ⟨A, 1, none⟩ = some b ∧ u.cell? ⟨A, 2, none⟩ = some c ∧ u.cell? ⟨B, 0, none⟩ = some p ∧ u.cell? ⟨B, 1, none⟩ = some q ∧ u.cell? ⟨B, 2, none⟩ = some r ∧ u.cell? ⟨B, 3, none⟩ = some s :=
  let ⟨h0, h1, h2, _⟩ := three_of hA; let ⟨k0, k1, k2, k3, _⟩ := four_of hB; ⟨h0, h1, h2, k0, k1, k2, k3⟩
theorem sev_dr {u : World} {A B : Nat} {a b c p q r s : Value} (h : u.cell? ⟨A, 0, none⟩ = some a ∧ u.cell? ⟨A, 1, none⟩ = some b ∧ u.cell? ⟨A, 2, none⟩ = some c ∧ u.cell? ⟨B, 0, none⟩ = some p ∧ u.cell? ⟨B, 1, none⟩ = some q ∧ u.cell? ⟨B, 2, none⟩ = some r ∧ u.cell? ⟨B, 3, none⟩ = some s) : u.drew.cell? ⟨A, 0, none⟩ = some a ∧ u.drew.cell? ⟨A, 1, none⟩ = some b ∧ u.drew.cell? ⟨A, 2, none⟩ = some c ∧ u.drew.cell? ⟨B, 0, none⟩ = some p ∧ u.drew.cell? ⟨B, 1, none⟩ = some q ∧ u.drew.cell? ⟨B, 2, none⟩ = some r ∧ u.drew.cell? ⟨B, 3, none⟩ = some s := h
theorem sev_bel {u u' : World} (hb : Below u.heap.size u u') {A B : Nat} {a b c p q r s : Value} (h : u.cell? ⟨A, 0, none⟩ = some a ∧ u.cell? ⟨A, 1, none⟩ = some b ∧ u.cell? ⟨A, 2, none⟩ = some c ∧ u.cell? ⟨B, 0, none⟩ = some p ∧ u.cell? ⟨B, 1, none⟩ = some q ∧ u.cell? ⟨B, 2, none⟩ = some r ∧ u.cell? ⟨B, 3, none⟩ = some s) : u'.cell? ⟨A, 0, none⟩ = some a ∧ u'.cell? ⟨A, 1, none⟩ = some b ∧ u'.cell? ⟨A, 2, none⟩ = some c ∧ u'.cell? ⟨B, 0, none⟩ = some p ∧ u'.cell? ⟨B, 1, none⟩ = some q ∧ u'.cell? ⟨B, 2, none⟩ = some r ∧ u'.cell? ⟨B, 3, none⟩ = some s :=
  let ⟨h0, h1, h2, k0, k1, k2, k3⟩ := h; ⟨some_on hb h0, some_on hb h1, some_on hb h2, some_on hb k0, some_on hb k1, some_on hb k2, some_on hb k3⟩
theorem sev_al {u : World} (o : Obj) {A B : Nat} {a b c p q r s : Value} (h : u.cell? ⟨A, 0, none⟩ = some a ∧ u.cell? ⟨A, 1, none⟩ = some b ∧ u.cell? ⟨A, 2, none⟩ = some c ∧ u.cell? ⟨B, 0, none⟩ = some p ∧ u.cell? ⟨B, 1, none⟩ = some q ∧ u.cell? ⟨B, 2, none⟩ = some r ∧ u.cell? ⟨B, 3, none⟩ = some s) : (u.alloc o).cell? ⟨A, 0, none⟩ = some a ∧ (u.alloc o).cell? ⟨A, 1, none⟩ = some b ∧ (u.alloc o).cell? ⟨A, 2, none⟩ = some c ∧ (u.alloc o).cell? ⟨B, 0, none⟩ = some p ∧ (u.alloc o).cell? ⟨B, 1, none⟩ = some q ∧ (u.alloc o).cell? ⟨B, 2, none⟩ = some r ∧ (u.alloc o).cell? ⟨B, 3, none⟩ = some s := sev_bel (bel1 u o) h
theorem Sq.hdr {α : Type} {R : El α} {w : World} {lo : Nat} {l : List α} {v : Value} (h : Sq R w lo l v) : ∃ p n c, v = .slice p n c := by obtain ⟨p, c, e, -⟩ := h; exact ⟨p, _, c, e⟩
theorem may_v {n : Int} (h : idB n = true) : (vEl n).may 1 = true := by
  unfold idB at h
  simp only [Bool.and_eq_true, decide_eq_true_eq] at h
  simp [vEl, V.may, onlyB]
  exact ⟨rfl, h⟩
theorem idB_i64 {n : Int} (h : idB n = true) : I64 n := by
  unfold idB at h
  simp only [Bool.and_eq_true, decide_eq_true_eq] at h
  unfold I64; omega
set_option maxHeartbeats 4000000 in
set_option maxRecDepth 20000 in
theorem vertex10 (x : Vx) (sp : Value) (w : World) (hx : RV.In w 0 x sp) (hlb : x.lb.size ≤ 1048570) (hmp : manyP x.ps ≤ 1048570) :
    Calls Tryz.prog 10 #[x.agg sp] w fun e w' => ∃ v, e = .returned v ∧ RowE w' w.heap.size v (vxQ x) ∧ Below w.heap.size w w' := by
  obtain ⟨id, lb, ps⟩ := x
  obtain ⟨hid, -, hps⟩ := hx
  simp only at hlb hmp hid hps
  obtain ⟨p1, n1, q1, rfl⟩ := hps.hdr
  unfold Vx.agg
  have c40 := fun w => isId40 id w
  cases hI : idB id with
  | false =>
    rw [hI] at c40
    have hq : vxQ ⟨id, lb, ps⟩ = [] := by unfold vxQ; rw [if_neg (by simp [hI])]
    rw [hq]
    go_enter Tryz.func10, Tryz.ntmps10
    go_wp2_with (go_at_call 40; refine (c40 _).mono ?_; rintro e w1 ⟨rfl, rfl⟩)
    go_ret
    exact ⟨_, rfl, rowE_nil _ _, bel1 w _⟩
  | true =>
    rw [hI] at c40
    have hII := Lib.hid hI
    have hq : Hid (vxQ ⟨id, lb, ps⟩ = [⟨keyQ (vEl id), textQ lb ++ propsQ ps⟩] ++ ixQ (vEl id) lb ps) := by show _ = _; unfold vxQ; rw [if_pos hI]; rfl
    rw [hq.out]
    have hvin : ∀ W, (vEl id).In W 0 (.slice none 0 0) := fun W => in_plain (by unfold I64; omega) (idB_i64 hI) (by decide) W 0
    have hvm : (vEl id).many ≤ 1048570 := by simp [vEl, V.many, manyL]; exact Nat.zero_le _
    have c19 := fun W => key19 (vEl id) (.slice none 0 0) W (hvin W) (by omega)
    have c43 := fun W => putText43 lb hlb W W (.slice none 0 0) [] (Below.refl _ _) (World.ownsRow_nil _ _ _ _) (by simp)
    have c42 := fun W1 W b hB hb (h : Sq RP W1 0 ps (.slice p1 n1 q1)) => putProps42 ps _ W1 W b (textQ lb) h hmp hB hb (by have := textQ_len lb; omega)
    have c44 := fun W h => ix_start (vEl id) (.slice none 0 0) lb ps (.slice p1 n1 q1) W (hvin W) hvm hlb h hmp
    unfold V.agg at c19 c44
    simp only [vEl, V.k, V.n, V.s] at c19 c44
    have hixp : 0 < (ixQ (vEl id) lb ps).length := by simp [ixQ]
    have hixl : (ixQ (vEl id) lb ps).length ≤ 1048572 := by have := manyP_len ps; simp [ixQ]; omega
    simp only [List.nil_append] at c43
    have hK : Hid (keyQ (vEl id) = keyQ (.mk 6 id ⟨#[]⟩ [])) := (rfl : _ = _)
    have hX : Hid (ixQ (vEl id) lb ps = ixQ (.mk 6 id ⟨#[]⟩ []) lb ps) := (rfl : _ = _)
    rw [hX.out] at hixp hixl ⊢
    rw [hK.out]
    generalize keyQ (.mk 6 id ⟨#[]⟩ []) = KQ at *
    generalize ixQ (.mk 6 id ⟨#[]⟩ []) lb ps = IX at *
    generalize propsQ ps = PQ at *
    generalize textQ lb = TQ at *
    clear hq hK hX hvin hvm hI
    go_enter Tryz.func10, Tryz.ntmps10
    go_wp2_with (fail)
    refine (c40 _).mono ?_
    rintro e w1 ⟨rfl, rfl⟩
    go_wp2_with (fail)
    refine (vertex41 id _).mono ?_
    rintro e w2 ⟨rfl, hB2⟩
    have A2 := blk_on hB2 (blk_new w (.cells #[.int .i64 id, .string lb, .slice p1 n1 q1] 24))
    have B2 := bel_then (bel1 w (.cells #[.int .i64 id, .string lb, .slice p1 n1 q1] 24)) hB2
    obtain ⟨x0, x1, x2, xf⟩ := three_of A2
    go_wp2
    have A4 := blk_old (o' := .cells #[.int .i64 6, .int .i64 id, .string ⟨#[]⟩, .slice none 0 0] 29) A2
    have Bk4 := blk_new w2 (.cells #[.int .i64 6, .int .i64 id, .string ⟨#[]⟩, .slice none 0 0] 29)
    have B4 := bel_al B2 (.cells #[.int .i64 6, .int .i64 id, .string ⟨#[]⟩, .slice none 0 0] 29)
    clear A2 B2 x0 x1 x2 xf hB2
    generalize w2.alloc (.cells #[.int .i64 6, .int .i64 id, .string ⟨#[]⟩, .slice none 0 0] 29) = W4 at *
    generalize w2.heap.size = G at *
    have N0 := sev_S A4 Bk4
    have N1 := N0
    have N2 := N0
    have N3 := N0
    have HF := Lib.hid (And.intro A4 (And.intro Bk4 B4))
    have QX : Below W4.heap.size W4 W4.drew := (Below.refl _ W4).drew
    clear A4 Bk4 B4
    go_region_held3 (fun u => u.cell? ⟨w.heap.size, 0, none⟩ = some (.int .i64 id) ∧ u.cell? ⟨w.heap.size, 1, none⟩ = some (.string lb) ∧ u.cell? ⟨w.heap.size, 2, none⟩ = some (.slice p1 n1 q1) ∧ u.cell? ⟨G, 0, none⟩ = some (.int .i64 6) ∧ u.cell? ⟨G, 1, none⟩ = some (.int .i64 id) ∧ u.cell? ⟨G, 2, none⟩ = some (.string ⟨#[]⟩) ∧ u.cell? ⟨G, 3, none⟩ = some (.slice none 0 0))
      (first | with_reducible exact sev_dr N0 | with_reducible exact N1 | with_reducible exact sev_dr N1 | with_reducible exact N2 | with_reducible exact sev_dr N2 | with_reducible exact N3 | with_reducible exact sev_al _ N3 | with_reducible exact sev_dr (sev_al _ N3))
      (first
        | (go_at_call 19; refine (c19 _).mono ?_; rintro e w5 ⟨b5, rfl, hb5, hB5⟩; have Q5 : Below W4.heap.size W4 w5 := bel_then QX hB5; have N1 := sev_bel Q5 N0; obtain ⟨p5, n5, c5, rfl⟩ := bts_hdr hb5; have H5 := Lib.hid (And.intro hb5.zero Q5); clear hb5 hB5)
        | (go_at_call 43; refine (c43 _).mono ?_; rintro e w6 ⟨b6, rfl, hb6, hB6⟩; have N2 := sev_bel hB6 N1; obtain ⟨p6, n6, c6, rfl⟩ := bts_hdr hb6; have H6 := Lib.hid (And.intro hb6 hB6); clear hb6 hB6)
        | (go_at_call 42; refine (c42 w5 _ _ H6.out.2 H6.out.1 (hps.on (HF.out.2.2.trans (H5.out.2.mono HF.out.2.2.size)))).mono ?_; rintro e w7 ⟨b7, rfl, hb7, hB7⟩; have N3 := sev_bel hB7 N1; obtain ⟨p7, n7, c7, rfl⟩ := bts_hdr hb7; have H7 := Lib.hid (And.intro hb7 hB7); clear hb7 hB7))
    all_goals go_wp2_with (fail)
    have B5 : Below w.heap.size w w5 := bel_then HF.out.2.2 (H5.out.2)
    have B7 := B5.trans (H7.out.2.mono B5.size)
    have hr7 : RowE (w7.alloc (.cells #[.slice p5 n5 c5, .slice p7 n7 c7] 39)) w.heap.size (.slice (some ⟨w7.heap.size, 0, none⟩) 1 1) [⟨KQ, TQ ++ PQ⟩] :=
      rowE_lit w7 w.heap.size B7.size [(.slice p5 n5 c5, .slice p7 n7 c7)] [⟨KQ, TQ ++ PQ⟩] ⟨own_bel H5.out.1 H7.out.2, H7.out.1.zero, trivial⟩ (by simp) _ rfl _ rfl
    have B7' := bel_al B7 (.cells #[.slice p5 n5 c5, .slice p7 n7 c7] 39)
    refine (c44 _ (hps.on B7')).mono ?_
    rintro e w8 ⟨v8, rfl, hr8, hB8⟩
    have B8 := bel_then B7' hB8
    obtain ⟨g8, cap8, hs8, rfl, -, -, -, he8, -, hc8⟩ := hr8.told hixp
    have hr78 := hr7.on hB8
    clear hr7 hr8 H5 H6 H7 N1 N2 N3 HF hB8 B7' B7 B5
    go_wp2_with (at_builtin; refine wpList_app_en _ rfl _ _ rfl w.heap.size _ [⟨KQ, TQ ++ PQ⟩] rfl hr78 ⟨g8, 0, none⟩ cap8 hs8 IX rfl hc8 he8 (by simp; omega) B8.size ?_; intro v9 w9 hr9 hg9)
    go_ret
    exact ⟨_, rfl, hr9, belowE_app B8 hr78 hg9⟩
end Go.Proofs.YtbgikgeknnmelaaGreat
