/-
  The document's entries (rambleref11): Vertex.
  The document's entries (rambleref11): Edge.
-/
import Derived.Test.YtbgikgeknnmelaaGreatZRenRpsRix
import Derived.Test.YtbgikgeknnmelaaGreatEdf
namespace Go.Proofs.YtbgikgeknnmelaaGreat
open Go.RowKit
set_option linter.unusedVariables false      -- a walk need not use every condition

set_option maxHeartbeats 4000000 in
set_option maxRecDepth 20000 in
theorem rvertex11 (x : Vx) (sp : Value) (w : World) (hx : RV.In w 0 x sp) (hlb : x.lb.size ≤ 1048570) (hmp : manyP x.ps ≤ 1048570) :
    Calls Tryz.prog 11 #[x.agg sp] w fun e w' => ∃ v, e = .returned v ∧ RowE w' w.heap.size v (vxQ x) ∧ Below w.heap.size w w' := by
  obtain ⟨id, lb, ps⟩ := x
  obtain ⟨hid, -, hps⟩ := hx
  simp only at hlb hmp hid hps
  obtain ⟨p1, n1, q1, rfl⟩ := hps.hdr
  unfold Vx.agg
  have c40 := fun w => rid45 id w
  cases hI : idB id with
  | false =>
    rw [hI] at c40
    have hq : vxQ ⟨id, lb, ps⟩ = [] := by unfold vxQ; rw [if_neg (by simp [hI])]
    rw [hq]
    go_enter Tryz.func11, Tryz.ntmps11
    go_wp2_with (go_at_call 45; refine (c40 _).mono ?_; rintro e w1 ⟨rfl, rfl⟩)
    go_ret
    exact ⟨_, rfl, rowE_nil _ _, bel1 w _⟩
  | true =>
    rw [hI] at c40
    have hII := Lib.hid hI
    have hq : Hid (vxQ ⟨id, lb, ps⟩ = [⟨keyQ (vEl id), textQ lb ++ propsQ ps⟩] ++ ixQ (vEl id) lb ps) := by show _ = _; unfold vxQ; rw [if_pos hI]; rfl
    rw [hq.out]
    have hvin : ∀ W, (vEl id).In W 0 (.slice none 0 0) := fun W => in_plain (by unfold I64; omega) (idB_i64 hI) (by decide) W 0
    have hvm : (vEl id).many ≤ 1048570 := by simp [vEl, V.many, manyL]; exact Nat.zero_le _
    have c19 := fun W => rkey20 (vEl id) (.slice none 0 0) W (hvin W) (by omega)
    have c43 := fun W => rlabel47 lb hlb W (.slice none 0 0) [] (bs_nil _) (by simp)
    have c42 := fun W b hb (h : Sq RP W 0 ps (.slice p1 n1 q1)) => rprops46 ps _ W b (textQ lb) h hmp hb (by have := textQ_len lb; omega)
    have c44 := fun W h => rix48 (vEl id) (.slice none 0 0) lb ps (.slice p1 n1 q1) W (hvin W) hvm hlb h hmp
    unfold V.agg at c19 c44
    simp only [vEl, V.k, V.n, V.s] at c19 c44
    have hixp : 0 < (ixQ (vEl id) lb ps).length := by simp [ixQ]
    have hixl : (ixQ (vEl id) lb ps).length ≤ 1048572 := by have := manyP_len ps; simp [ixQ]; omega
    simp only [List.nil_append] at c43
    have hK : Hid (keyQ (vEl id) = keyQ (.mk 6 id ⟨#[]⟩ [])) := (rfl : _ = _)
    have hX : Hid (ixQ (vEl id) lb ps = ixQ (.mk 6 id ⟨#[]⟩ []) lb ps) := (rfl : _ = _)
    rw [hX.out] at hixp hixl ⊢
    rw [hK.out]
    generalize keyQ (.mk 6 id ⟨#[]⟩ []) = KQ at *
    generalize ixQ (.mk 6 id ⟨#[]⟩ []) lb ps = IX at *
    generalize propsQ ps = PQ at *
    generalize textQ lb = TQ at *
    clear hq hK hX hvin hvm hI
    go_enter Tryz.func11, Tryz.ntmps11
    go_wp2_with (fail)
    refine (c40 _).mono ?_
    rintro e w1 ⟨rfl, rfl⟩
    go_wp2_with (fail)
    refine (refVertex35 id _).mono ?_
    rintro e w2 ⟨rfl, hB2⟩
    have A2 := blk_on hB2 (blk_new w (.cells #[.int .i64 id, .string lb, .slice p1 n1 q1] 24))
    have B2 := bel_then (bel1 w (.cells #[.int .i64 id, .string lb, .slice p1 n1 q1] 24)) hB2
    obtain ⟨x0, x1, x2, xf⟩ := three_of A2
    go_wp2
    have A4 := blk_old (o' := .cells #[.int .i64 6, .int .i64 id, .string ⟨#[]⟩, .slice none 0 0] 29) A2
    have Bk4 := blk_new w2 (.cells #[.int .i64 6, .int .i64 id, .string ⟨#[]⟩, .slice none 0 0] 29)
    have B4 := bel_al B2 (.cells #[.int .i64 6, .int .i64 id, .string ⟨#[]⟩, .slice none 0 0] 29)
    clear A2 B2 x0 x1 x2 xf hB2
    generalize w2.alloc (.cells #[.int .i64 6, .int .i64 id, .string ⟨#[]⟩, .slice none 0 0] 29) = W4 at *
    generalize w2.heap.size = G at *
    have N0 := sev_S A4 Bk4
    have N1 := N0
    have N2 := N0
    have N3 := N0
    have HF := Lib.hid (And.intro A4 (And.intro Bk4 B4))
    have QX : Below W4.heap.size W4 W4.drew := (Below.refl _ W4).drew
    clear A4 Bk4 B4
    go_region_held3 (fun u => u.cell? ⟨w.heap.size, 0, none⟩ = some (.int .i64 id) ∧ u.cell? ⟨w.heap.size, 1, none⟩ = some (.string lb) ∧ u.cell? ⟨w.heap.size, 2, none⟩ = some (.slice p1 n1 q1) ∧ u.cell? ⟨G, 0, none⟩ = some (.int .i64 6) ∧ u.cell? ⟨G, 1, none⟩ = some (.int .i64 id) ∧ u.cell? ⟨G, 2, none⟩ = some (.string ⟨#[]⟩) ∧ u.cell? ⟨G, 3, none⟩ = some (.slice none 0 0))
      (first | with_reducible exact sev_dr N0 | with_reducible exact N1 | with_reducible exact sev_dr N1 | with_reducible exact N2 | with_reducible exact sev_dr N2 | with_reducible exact N3 | with_reducible exact sev_al _ N3 | with_reducible exact sev_dr (sev_al _ N3))
      (first
        | (go_at_call 20; refine (c19 _).mono ?_; rintro e w5 ⟨b5, rfl, hb5, hB5⟩; have Q5 : Below W4.heap.size W4 w5 := bel_then QX hB5; have N1 := sev_bel Q5 N0; obtain ⟨p5, n5, c5, rfl⟩ := bts_hdr hb5; have H5 := Lib.hid (And.intro hb5.zero Q5); clear hb5 hB5)
        | (go_at_call 47; refine (c43 _).mono ?_; rintro e w6 ⟨b6, rfl, hb6, hB6⟩; have N2 := sev_bel hB6 N1; obtain ⟨p6, n6, c6, rfl⟩ := bts_hdr hb6; have H6 := Lib.hid (And.intro hb6 hB6); clear hb6 hB6)
        | (go_at_call 46; refine (c42 _ _ H6.out.1.bs (hps.on (bel_then (bel_then HF.out.2.2 H5.out.2) H6.out.2))).mono ?_; rintro e w7 ⟨b7, rfl, hb7, hB7⟩; have N3 := sev_bel hB7 N2; obtain ⟨p7, n7, c7, rfl⟩ := bts_hdr hb7; have H7 := Lib.hid (And.intro hb7 (bel_then H6.out.2 hB7)); clear hb7 hB7))
    all_goals
      obtain ⟨y0, y1, y2, y3, y4, y5, y6⟩ := sev_al (.cells #[.slice p5 n5 c5, .slice p7 n7 c7] 39) N3
    all_goals go_wp2_with (fail)
    have B5 : Below w.heap.size w w5 := bel_then HF.out.2.2 (H5.out.2)
    have B7 := B5.trans (H7.out.2.mono B5.size)
    have hr7 : RowE (w7.alloc (.cells #[.slice p5 n5 c5, .slice p7 n7 c7] 39)) w.heap.size (.slice (some ⟨w7.heap.size, 0, none⟩) 1 1) [⟨KQ, TQ ++ PQ⟩] :=
      rowE_lit w7 w.heap.size B7.size [(.slice p5 n5 c5, .slice p7 n7 c7)] [⟨KQ, TQ ++ PQ⟩] ⟨own_bel H5.out.1 H7.out.2, H7.out.1.zero, trivial⟩ (by simp) _ rfl _ rfl
    have B7' := bel_al B7 (.cells #[.slice p5 n5 c5, .slice p7 n7 c7] 39)
    refine (c44 _ (hps.on B7')).mono ?_
    rintro e w8 ⟨v8, rfl, hr8, hB8⟩
    have B8 := bel_then B7' hB8
    obtain ⟨g8, cap8, hs8, rfl, -, -, -, he8, -, hc8⟩ := hr8.told hixp
    have hr78 := hr7.on hB8
    clear hr7 hr8 H5 H6 H7 N1 N2 N3 HF hB8 B7' B7 B5
    go_wp2_with (at_builtin; refine wpList_app_en _ rfl _ _ rfl w.heap.size _ [⟨KQ, TQ ++ PQ⟩] rfl hr78 ⟨g8, 0, none⟩ cap8 hs8 IX rfl hc8 he8 (by simp; omega) B8.size ?_; intro v9 w9 hr9 hg9)
    go_ret
    exact ⟨_, rfl, hr9, belowE_app B8 hr78 hg9⟩
end Go.Proofs.YtbgikgeknnmelaaGreat
namespace Go.Proofs.YtbgikgeknnmelaaGreat
open Go.RowKit
set_option linter.unusedVariables false      -- a walk need not use every condition

set_option maxHeartbeats 8000000 in
set_option maxRecDepth 20000 in
theorem redge13 (x : Lk) (sp : Value) (w : World) (hx : RL.In w 0 x sp) (hlb : x.lb.size ≤ 1048570) (hmp : manyP x.ps ≤ 1048570) :
    Calls Tryz.prog 13 #[x.agg sp] w fun e w' => ∃ v, e = .returned v ∧ RowE w' w.heap.size v (lkQ x) ∧ Below w.heap.size w w' := by
  obtain ⟨id, lb, out, inn, ps⟩ := x
  obtain ⟨hid, -, ho, hi, hps⟩ := hx
  simp only at hlb hmp hid hps ho hi
  obtain ⟨p0, n0, q0, rfl⟩ := hps.hdr
  unfold Lk.agg
  have c45 := fun n w => rid45 n w
  by_cases hall : idB id = true ∧ idB out = true ∧ idB inn = true
  · obtain ⟨i1, i2, i3⟩ := hall
    have d1 := c45 id
    have d2 := c45 out
    have d3 := c45 inn
    rw [i1] at d1
    rw [i2] at d2
    rw [i3] at d3
    have hq : Hid (lkQ ⟨id, lb, out, inn, ps⟩ = [⟨keyQ (eEl id), numQ out ++ numQ inn ++ textQ lb ++ propsQ ps⟩, ⟨[3] ++ kq (vEl out) ++ kq (strV lb) ++ kq (eEl id), numQ inn⟩, ⟨[4] ++ kq (vEl inn) ++ kq (strV lb) ++ kq (eEl id), numQ out⟩] ++ ixQ (eEl id) lb ps) := by
      show _ = _
      unfold lkQ
      rw [if_pos ⟨i1, i2, i3⟩]
      simp [numsQ, outQ, inQ, firstQ]
    rw [hq.out]
    have hein : ∀ W, (eEl id).In W 0 (.slice none 0 0) := fun W => in_plain (by unfold I64; omega) hid (by decide) W 0
    have hem : (eEl id).many ≤ 1048570 := by simp [eEl, V.many, manyL]; exact Nat.zero_le _
    have c20 := fun W => rkey20 (eEl id) (.slice none 0 0) W (hein W) (by omega)
    have l1 := numQ_len out
    have l2 := numQ_len inn
    have l3 := textQ_len lb
    have c52o := fun W b hb => rnum52 out ho W b [] hb (by simp)
    have c52i := fun W b hb => rnum52 inn hi W b [] hb (by simp)
    have c52b := fun W b hb => rnum52 inn hi W b (numQ out) hb (by omega)
    have c47 := fun W b hb => rlabel47 lb hlb W b (numQ out ++ numQ inn) hb (by simp; omega)
    have c46 := fun W b hb (h : Sq RP W 0 ps (.slice p0 n0 q0)) => rprops46 ps _ W b (numQ out ++ numQ inn ++ textQ lb) h hmp hb (by simp; omega)
    have c53a := fun W => rbeside53 3 out ho lb hlb id hid W
    have c53b := fun W => rbeside53 4 inn hi lb hlb id hid W
    have c48 := fun W h => rix48 (eEl id) (.slice none 0 0) lb ps (.slice p0 n0 q0) W (hein W) hem hlb h hmp
    have hixp : 0 < (ixQ (eEl id) lb ps).length := by simp [ixQ]
    have hixl : (ixQ (eEl id) lb ps).length ≤ 1048572 := by have := manyP_len ps; simp [ixQ]; omega
    simp only [List.nil_append] at c52o c52i
    unfold V.agg at c20 c48
    generalize hKQ : keyQ (eEl id) = KQ at *
    generalize hIX : ixQ (eEl id) lb ps = IX at *
    generalize [3] ++ kq (vEl out) ++ kq (strV lb) ++ kq (eEl id) = OK at *
    generalize [4] ++ kq (vEl inn) ++ kq (strV lb) ++ kq (eEl id) = IK at *
    simp only [eEl, V.k, V.n, V.s] at c20 c48
    generalize numQ out = NO at *
    generalize numQ inn = NI at *
    generalize propsQ ps = PQ at *
    generalize textQ lb = TQ at *
    clear hq hein hem c45 i1 i2 i3 hKQ hIX
    have tk1 : True := trivial
    have tk2 : True := trivial
    have tk : True := trivial
    have tk3 : True := trivial
    have tk6 : True := trivial
    have tk7 : True := trivial
    go_enter Tryz.func13, Tryz.ntmps13
    go_wp2_with (first
      | (go_at_call 45; clear tk1; refine (d1 _).mono ?_; rintro e w1 ⟨rfl, rfl⟩; clear d1)
      | (go_at_call 45; clear tk2; refine (d2 _).mono ?_; rintro e w1 ⟨rfl, rfl⟩; clear d2)
      | (go_at_call 45; refine (d3 _).mono ?_; rintro e w1 ⟨rfl, rfl⟩; clear d3)
      | (go_at_call 36; refine (refEdge36 id _).mono ?_; rintro e w2 ⟨rfl, hB2⟩; have A2 := blk_on hB2 (blk_new w (.cells #[.int .i64 id, .string lb, .int .i64 out, .int .i64 inn, .slice p0 n0 q0] 26)); have B2 := bel_then (bel1 w (.cells #[.int .i64 id, .string lb, .int .i64 out, .int .i64 inn, .slice p0 n0 q0] 26)) hB2; obtain ⟨x0, x1, x2, x3, x4, xf⟩ := five_of A2))
    have A4 := blk_old (o' := .cells #[.int .i64 7, .int .i64 id, .string ⟨#[]⟩, .slice none 0 0] 29) A2
    have Bk4 := blk_new w2 (.cells #[.int .i64 7, .int .i64 id, .string ⟨#[]⟩, .slice none 0 0] 29)
    have B4 := bel_al B2 (.cells #[.int .i64 7, .int .i64 id, .string ⟨#[]⟩, .slice none 0 0] 29)
    clear A2 B2 hB2 x0 x1 x2 x3 x4 xf
    generalize w2.alloc (.cells #[.int .i64 7, .int .i64 id, .string ⟨#[]⟩, .slice none 0 0] 29) = W4 at *
    generalize w2.heap.size = G at *
    have N0 := nine_S Bk4 A4
    have Q0 := bel_drew B4
    clear A4 Bk4 B4
    go_region_held3 (fun u => u.cell? ⟨G, 0, none⟩ = some (.int .i64 7) ∧ u.cell? ⟨G, 1, none⟩ = some (.int .i64 id) ∧ u.cell? ⟨G, 2, none⟩ = some (.string ⟨#[]⟩) ∧ u.cell? ⟨G, 3, none⟩ = some (.slice none 0 0) ∧ u.cell? ⟨w.heap.size, 0, none⟩ = some (.int .i64 id) ∧ u.cell? ⟨w.heap.size, 1, none⟩ = some (.string lb) ∧ u.cell? ⟨w.heap.size, 2, none⟩ = some (.int .i64 out) ∧ u.cell? ⟨w.heap.size, 3, none⟩ = some (.int .i64 inn) ∧ u.cell? ⟨w.heap.size, 4, none⟩ = some (.slice p0 n0 q0))
      (first | with_reducible exact nine_dr N0 | with_reducible exact N1 | with_reducible exact N2 | with_reducible exact N3 | with_reducible exact N4 | with_reducible exact N5 | with_reducible exact N6 | with_reducible exact N7 | with_reducible exact N8 | with_reducible exact N9 | with_reducible exact nine_al _ N9)
      (first
        | (go_at_call 20; refine (c20 _).mono ?_; rintro e w1 ⟨b1, rfl, hb1, hB1⟩; have N1 := nine_bel hB1 (nine_dr N0); have Q1 := bel_then Q0 hB1; obtain ⟨p1, n1, q1, rfl⟩ := bts_hdr hb1; have X1 := hb1.zero; clear hB1)
        | (go_at_call 52; clear tk; refine (c52o _ _ (bs_nil _)).mono ?_; rintro e w2 ⟨b2, rfl, hb2, hB2⟩; have N2 := nine_bel hB2 N1; have Q2 := bel_then Q1 hB2; have X1 := own_bel X1 hB2; clear hB2)
        | (go_at_call 52; clear tk3; refine (c52b _ _ hb2.bs).mono ?_; rintro e w3 ⟨b3, rfl, hb3, hB3⟩; have N3 := nine_bel hB3 N2; have Q3 := bel_then Q2 hB3; have X1 := own_bel X1 hB3; clear hB3)
        | (go_at_call 47; refine (c47 _ _ hb3.bs).mono ?_; rintro e w4 ⟨b4, rfl, hb4, hB4⟩; have N4 := nine_bel hB4 N3; have Q4 := bel_then Q3 hB4; have X1 := own_bel X1 hB4; clear hB4)
        | (go_at_call 46; refine (c46 _ _ hb4.bs (hps.on Q4)).mono ?_; rintro e w5 ⟨b5, rfl, hb5, hB5⟩; have N5 := nine_bel hB5 N4; have Q5 := bel_then Q4 hB5; have X1 := own_bel X1 hB5; obtain ⟨p5, n5, q5, rfl⟩ := bts_hdr hb5; have X5 := hb5.zero; clear hB5)
        | (go_at_call 53; clear tk6; refine (c53a _).mono ?_; rintro e w6 ⟨b6, rfl, hb6, hB6⟩; have N6 := nine_bel hB6 N5; have Q6 := bel_then Q5 hB6; have X1 := own_bel X1 hB6; have X5 := own_bel X5 hB6; obtain ⟨p6, n6, q6, rfl⟩ := bts_hdr hb6; have X6 := hb6.zero; clear hB6)
        | (go_at_call 52; clear tk7; refine (c52i _ _ (bs_nil _)).mono ?_; rintro e w7 ⟨b7, rfl, hb7, hB7⟩; have N7 := nine_bel hB7 N6; have Q7 := bel_then Q6 hB7; have X1 := own_bel X1 hB7; have X5 := own_bel X5 hB7; have X6 := own_bel X6 hB7; obtain ⟨p7, n7, q7, rfl⟩ := bts_hdr hb7; have X7 := hb7.zero; clear hB7)
        | (go_at_call 53; refine (c53b _).mono ?_; rintro e w8 ⟨b8, rfl, hb8, hB8⟩; have N8 := nine_bel hB8 N7; have Q8 := bel_then Q7 hB8; have X1 := own_bel X1 hB8; have X5 := own_bel X5 hB8; have X6 := own_bel X6 hB8; have X7 := own_bel X7 hB8; obtain ⟨p8, n8, q8, rfl⟩ := bts_hdr hb8; have X8 := hb8.zero; clear hB8)
        | (go_at_call 52; refine (c52o _ _ (bs_nil _)).mono ?_; rintro e w9 ⟨b9, rfl, hb9, hB9⟩; have N9 := nine_bel hB9 N8; have Q9 := bel_then Q8 hB9; have X1 := own_bel X1 hB9; have X5 := own_bel X5 hB9; have X6 := own_bel X6 hB9; have X7 := own_bel X7 hB9; have X8 := own_bel X8 hB9; obtain ⟨p9, n9, q9, rfl⟩ := bts_hdr hb9; have X9 := hb9.zero; clear hB9))
    all_goals
      obtain ⟨y0, y1, y2, y3, y4, y5, y6, y7, y8⟩ := nine_al (.cells #[.slice p1 n1 q1, .slice p5 n5 q5, .slice p6 n6 q6, .slice p7 n7 q7, .slice p8 n8 q8, .slice p9 n9 q9] 39) N9
      have B9 := bel_al Q9 (.cells #[.slice p1 n1 q1, .slice p5 n5 q5, .slice p6 n6 q6, .slice p7 n7 q7, .slice p8 n8 q8, .slice p9 n9 q9] 39)
      have hr9 : RowE (w9.alloc (.cells #[.slice p1 n1 q1, .slice p5 n5 q5, .slice p6 n6 q6, .slice p7 n7 q7, .slice p8 n8 q8, .slice p9 n9 q9] 39)) w.heap.size (.slice (some ⟨w9.heap.size, 0, none⟩) 3 3) [⟨KQ, NO ++ NI ++ TQ ++ PQ⟩, ⟨OK, NI⟩, ⟨IK, NO⟩] :=
        row_three Q9.size (blk_new w9 _) (World.ownsRow.alloc X1 _) (World.ownsRow.alloc X5 _) (World.ownsRow.alloc X6 _) (World.ownsRow.alloc X7 _) (World.ownsRow.alloc X8 _) (World.ownsRow.alloc X9 _)
      go_wp2_with (fail)
      refine (c48 _ (hps.on B9)).mono ?_
      rintro e w10 ⟨v10, rfl, hr10, hB10⟩
      have B10 := bel_then B9 hB10
      obtain ⟨g10, cap10, hs10, rfl, -, -, -, he10, -, hc10⟩ := hr10.told hixp
      have hr910 := hr9.on hB10
      clear hr9 hr10 X1 X5 X6 X7 X8 X9 hB10
      go_wp2_with (at_builtin; go_loud (refine wpList_app_en _ rfl _ _ rfl w.heap.size _ [⟨KQ, NO ++ NI ++ TQ ++ PQ⟩, ⟨OK, NI⟩, ⟨IK, NO⟩] rfl hr910 ⟨g10, 0, none⟩ cap10 hs10 IX rfl hc10 he10 (by simp; omega) B10.size ?_); intro v11 w11 hr11 hg11)
      go_ret
      exact ⟨_, rfl, hr11, belowE_app B10 hr910 hg11⟩
  · have hq : lkQ ⟨id, lb, out, inn, ps⟩ = [] := by unfold lkQ; rw [if_neg hall]
    rw [hq]
    have hnil : ∃ v, Ending.returned (.slice none 0 0) = Ending.returned v ∧ RowE (w.alloc (.cells #[.int .i64 id, .string lb, .int .i64 out, .int .i64 inn, .slice p0 n0 q0] 26)) w.heap.size v [] ∧ Below w.heap.size w (w.alloc (.cells #[.int .i64 id, .string lb, .int .i64 out, .int .i64 inn, .slice p0 n0 q0] 26)) := ⟨_, rfl, rowE_nil _ _, bel1 w _⟩
    have d1 := c45 id
    have d2 := c45 out
    have d3 := c45 inn
    have tk1 : True := trivial
    have tk2 : True := trivial
    cases i1 : idB id with
    | false =>
      rw [i1] at d1
      clear d2 d3 c45
      go_enter Tryz.func13, Tryz.ntmps13
      go_wp2_with (go_at_call 45; refine (d1 _).mono ?_; rintro e w1 ⟨rfl, rfl⟩)
      go_ret
      exact hnil
    | true =>
      rw [i1] at d1
      cases i2 : idB out with
      | false =>
        rw [i2] at d2
        clear d3 c45
        go_enter Tryz.func13, Tryz.ntmps13
        go_wp2_with (first
          | (go_at_call 45; clear tk1; refine (d1 _).mono ?_; rintro e w1 ⟨rfl, rfl⟩; clear d1)
          | (go_at_call 45; refine (d2 _).mono ?_; rintro e w1 ⟨rfl, rfl⟩; clear d2))
        go_ret
        exact hnil
      | true =>
        have i3 : idB inn = false := by
          cases h : idB inn with
          | false => rfl
          | true => exact absurd ⟨i1, i2, h⟩ hall
        rw [i2] at d2
        rw [i3] at d3
        clear c45
        go_enter Tryz.func13, Tryz.ntmps13
        go_wp2_with (first
          | (go_at_call 45; clear tk1; refine (d1 _).mono ?_; rintro e w1 ⟨rfl, rfl⟩; clear d1)
          | (go_at_call 45; clear tk2; refine (d2 _).mono ?_; rintro e w1 ⟨rfl, rfl⟩; clear d2)
          | (go_at_call 45; refine (d3 _).mono ?_; rintro e w1 ⟨rfl, rfl⟩; clear d3))
        go_ret
        exact hnil
end Go.Proofs.YtbgikgeknnmelaaGreat
