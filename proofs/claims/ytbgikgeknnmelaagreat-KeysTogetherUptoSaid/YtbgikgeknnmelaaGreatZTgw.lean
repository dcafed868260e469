/-
  The walk of KeysTogether.
-/
import Derived.Test.YtbgikgeknnmelaaGreatZApmTgm
import Derived.Test.YtbgikgeknnmelaaGreatZStn
import Derived.Test.YtbgikgeknnmelaaGreatZRch
import Derived.Test.YtbgikgeknnmelaaGreatZBgn
import Derived.Test.YtbgikgeknnmelaaGreatZRenRps
namespace Go.Proofs.YtbgikgeknnmelaaGreat
open Go.RowKit
set_option linter.unusedVariables false      -- a walk need not use every condition

theorem ss_nil0 (w : World) : Ss w (.slice none 0 0) [] := ⟨none, 0, rfl, Nat.le_refl _, by unfold maxLen; omega, by simp, .inl rfl⟩
theorem manyP_mem {l : List Pr} {p : Pr} (h : p ∈ l) : p.nm.size + p.v.many + 1 ≤ manyP l := by
  unfold manyP
  induction l with
  | nil => cases h
  | cons a l ih =>
    simp only [List.map_cons, List.sum_cons]
    rcases List.mem_cons.1 h with rfl | h
    · omega
    · have := ih h; omega
theorem els_id {top : Int} {x : Ee} {r : List Ee} (h : elsFrom top 0 (x :: r) = true) (ht : top = 281474976710656) : idB x.1 = true := by
  subst ht
  simp only [elsFrom, elOk, Bool.and_eq_true, decide_eq_true_eq] at h
  obtain ⟨⟨⟨⟨h1, h2⟩, -⟩, -⟩, -⟩ := h
  simp [idB]
  omega
theorem stand_ids {x : Vx} {z : Lk} (h : standB Gg.err x z = true) : idB x.id = true ∧ idB z.id = true := by
  simp only [standB, Bool.and_eq_true, decide_eq_true_eq] at h
  have h2 := h.2
  have hm : gMay (oneE x z) = true := by
    cases hg : gMay (oneE x z) with
    | true => rfl
    | false => rw [err_no hg] at h2; exact absurd h2 (by decide)
  unfold gMay oneE at hm
  simp only [Bool.and_eq_true, List.map_cons, List.map_nil] at hm
  exact ⟨els_id hm.1.1.2 rfl, els_id hm.1.2 rfl⟩
set_option maxHeartbeats 16000000 in
set_option maxRecDepth 200000 in
theorem together7 (z o : Lk) (sz so : Value) (w : World) (hz : RL.In w 0 z sz) (ho : RL.In w 0 o so) (mz : manyP z.ps ≤ 1048570) (mo : manyP o.ps ≤ 1048570) (lz : z.lb.size ≤ 1048570) (lo : o.lb.size ≤ 1048570) :
    Calls Tryz.prog 7 #[z.agg sz, o.agg so] w fun e w' => e = .returned (.bool true) ∧ Below w.heap.size w w' := by
  have C29 := Lib.hid (fun W (hB : Below w.heap.size w W) => stands29 Gg.err check63 ⟨z.out, z.lb, []⟩ ⟨z.id, z.lb, z.out, z.out, z.ps⟩ (.slice none 0 0) sz W ⟨hz.2.2.1, hz.2.1, Sq.nil _ _⟩ ⟨hz.1, hz.2.1, hz.2.2.1, hz.2.2.1, (RL.on hB hz).2.2.2.2⟩)
  have CZ := Lib.hid (fun W (hB : Below w.heap.size w W) => edge12 z sz W (RL.on hB hz) lz mz)
  have CO := Lib.hid (fun W (hB : Below w.heap.size w W) => edge12 o so W (RL.on hB ho) lo mo)
  obtain ⟨SB, hSB⟩ : ∃ b, standB Gg.err ⟨z.out, z.lb, []⟩ ⟨z.id, z.lb, z.out, z.out, z.ps⟩ = b := ⟨_, rfl⟩
  rw [hSB] at C29
  have HID : Hid (SB = true → idB z.out = true ∧ idB z.id = true) := fun h => stand_ids (hSB.trans h)
  have I1 := hz.1
  have I2 := hz.2.2.1
  have I3 := hz.2.2.2.1
  have J1 := ho.1
  have J2 := ho.2.2.1
  have J3 := ho.2.2.2.1
  have HZ := Lib.hid hz
  obtain ⟨pz, qz, rfl, hzc, hzm, -, hzx⟩ := hz.2.2.2.2
  obtain ⟨po, no, qo, rfl⟩ := ho.2.2.2.2.hdr
  obtain ⟨N, hN⟩ : ∃ n, z.ps.length = n := ⟨_, rfl⟩
  have HN : Hid (z.ps.length = N) := hN
  have hN6 : N ≤ 1048570 := by rw [← hN]; exact Nat.le_trans (manyP_len z.ps) mz
  rw [hN] at C29 CZ hzc HZ ⊢
  have MZ := Lib.hid mz
  have MO := Lib.hid mo
  have LZ := Lib.hid lz
  have LO := Lib.hid lo
  unfold Lk.agg Vx.agg at C29
  unfold Lk.agg at CZ CO ⊢
  unfold maxLen at hzm
  have HI2 := Lib.hid I2
  have HI3 := Lib.hid I3
  have HJ2 := Lib.hid J2
  have HJ3 := Lib.hid J3
  unfold I64 at I2 I3 J2 J3
  have HZX := Lib.hid hzx
  clear hz ho mz mo lz lo hSB hN hzx
  have hB0 := bel2 w (.cells #[.int .i64 z.id, .string z.lb, .int .i64 z.out, .int .i64 z.inn, .slice pz N qz] 26) (.cells #[.int .i64 o.id, .string o.lb, .int .i64 o.out, .int .i64 o.inn, .slice po no qo] 26)
  have kA := blk_old (o' := .cells #[.int .i64 o.id, .string o.lb, .int .i64 o.out, .int .i64 o.inn, .slice po no qo] 26) (blk_new w (.cells #[.int .i64 z.id, .string z.lb, .int .i64 z.out, .int .i64 z.inn, .slice pz N qz] 26))
  have kB := blk_new (w.alloc (.cells #[.int .i64 z.id, .string z.lb, .int .i64 z.out, .int .i64 z.inn, .slice pz N qz] 26)) (.cells #[.int .i64 o.id, .string o.lb, .int .i64 o.out, .int .i64 o.inn, .slice po no qo] 26)
  simp only [World.size_alloc] at kB
  go_enter Tryz.func7, Tryz.ntmps7
  go_wp2_with (fail)
  refine (begun8 _).mono ?_
  rintro e w1 ⟨rfl, hB1⟩
  have HB1 := Lib.hid (bel_then hB0 hB1)
  have KA := Lib.hid (blk_on hB1 kA)
  have KB := Lib.hid (blk_on hB1 kB)
  obtain ⟨a0, a1, a2, a3, a4, af⟩ := five_of KA.out
  obtain ⟨b0, b1, b2, b3, b4, bf⟩ := five_of KB.out
  clear kA kB hB0 hB1
  go_wp2_with (fail)
  refine (C29.out _ HB1.out).mono ?_
  rintro e w2 ⟨rfl, hB2⟩
  have HB2 := Lib.hid (bel_then HB1.out hB2)
  have KA := Lib.hid (blk_on hB2 KA.out)
  have KB := Lib.hid (blk_on hB2 KB.out)
  obtain ⟨a0, a1, a2, a3, a4, af⟩ := five_of KA.out
  obtain ⟨b0, b1, b2, b3, b4, bf⟩ := five_of KB.out
  clear hB2 C29
  cases SB with
  | false =>
    go_wp2_with (fail)
    refine (begun8 _).mono ?_
    rintro e w3 ⟨rfl, hB3⟩
    have HB3 := Lib.hid (bel_then HB2.out hB3)
    go_wp2
    go_ret
    exact ⟨rfl, HB3.out⟩
  | true =>
    obtain ⟨ido, idz⟩ := HID.out rfl
    by_cases h1 : z.inn < 1
    · have h1' : decide (z.inn < 1) = true := decide_eq_true h1
      go_wp2_with (fail)
      refine (begun8 _).mono ?_
      rintro e w3 ⟨rfl, hB3⟩
      have HB3 := Lib.hid (bel_then HB2.out hB3)
      go_wp2
      go_ret
      exact ⟨rfl, HB3.out⟩
    have h1' : decide (z.inn < 1) = false := decide_eq_false h1
    by_cases h2 : 281474976710656 < z.inn
    · have h2' : decide (281474976710656 < z.inn) = true := decide_eq_true h2
      go_wp2_with (fail)
      refine (begun8 _).mono ?_
      rintro e w3 ⟨rfl, hB3⟩
      have HB3 := Lib.hid (bel_then HB2.out hB3)
      go_wp2
      go_ret
      exact ⟨rfl, HB3.out⟩
    have h2' : decide (281474976710656 < z.inn) = false := decide_eq_false h2
    have idn : idB z.inn = true := by simp [idB]; omega
    have hids : lkIds z := ⟨idz, ido, idn⟩
    have hS := lkQ_size hids
    have K1 := Lib.hid (lkQ_key1 hids)
    have K2 := Lib.hid (lkQ_key2 hids)
    have K3 := Lib.hid (lkQ_key3 hids)
    have KP := Lib.hid (lkQ_keyP hids)
    have IDO := Lib.hid ido
    have IDN := Lib.hid idn
    rw [HN.out] at hS
    obtain ⟨L, hL⟩ : ∃ l, lkQ z = l := ⟨_, rfl⟩
    rw [hL] at hS K1 K2 K3 KP CZ
    clear hL hids idn ido idz h1 h2
    go_wp2_with (fail)
    refine (CZ.out _ HB2.out).mono ?_
    rintro e w4 ⟨v4, rfl, hr4, hB4⟩
    obtain ⟨p4, c4, rfl, hcl, hcm, hcx⟩ := hr4.es
    obtain ⟨g4, o4, rfl, hc⟩ := hcx.resolve_left (by intro e; rw [e] at hS; simp at hS; omega)
    obtain ⟨k1, u1, d1, -, q1, -⟩ := hc 1 (by omega)
    obtain ⟨k2, u2, d2, -, q2, -⟩ := hc 2 (by omega)
    obtain ⟨k3, u3, d3, -, q3, -⟩ := hc 3 (by omega)
    rw [K1.out (by omega)] at q1
    rw [K2.out (by omega)] at q2
    rw [K3.out (by omega)] at q3
    have HC := Lib.hid hc
    have HS := Lib.hid hS
    have HB4 := Lib.hid (bel_then HB2.out hB4)
    have KA := Lib.hid (blk_on hB4 KA.out)
    have KB := Lib.hid (blk_on hB4 KB.out)
    obtain ⟨M, hM⟩ : ∃ m, L.length = m := ⟨_, rfl⟩
    have HM := Lib.hid hM
    rw [hM] at hcl ⊢
    have j1 : (1 : Int) < (M : Int) := by omega
    have j2 : (2 : Int) < (M : Int) := by omega
    have j3 : (3 : Int) < (M : Int) := by omega
    have jw : IntKind.i64.wrap (4 + (N : Int)) = (M : Int) := by rw [IntKind.wrap_i64]; omega
    obtain ⟨T, hT⟩ : ∃ t, kq (eEl z.id) = t := ⟨_, rfl⟩
    rw [hT] at q1 q2 q3 KP
    have hM8 : M < 1048580 := by omega
    have SALL : Hid (∀ u, Below w4.heap.size w4 u → (u.cell? ⟨w.heap.size, 0, none⟩ = some (.int .i64 z.id) ∧ u.cell? ⟨w.heap.size, 1, none⟩ = some (.string z.lb) ∧ u.cell? ⟨w.heap.size, 2, none⟩ = some (.int .i64 z.out) ∧ u.cell? ⟨w.heap.size, 3, none⟩ = some (.int .i64 z.inn) ∧ u.cell? ⟨w.heap.size, 4, none⟩ = some (.slice pz N qz)) ∧ (u.cell? ⟨g4, o4 + 1 * 2, none⟩ = some k1 ∧ u.cell? ⟨g4, o4 + 2 * 2, none⟩ = some k2 ∧ u.cell? ⟨g4, o4 + 3 * 2, none⟩ = some k3)) := fun u hu => by
      obtain ⟨a0, a1, a2, a3, a4, -⟩ := five_of (blk_on hu KA.out)
      exact ⟨⟨a0, a1, a2, a3, a4⟩, some_on hu d1, some_on hu d2, some_on hu d3⟩
    have Q1 := Lib.hid q1
    have Q2 := Lib.hid q2
    have Q3 := Lib.hid q3
    clear hc hcx hr4 hB4 hT hM d1 d2 d3 q1 q2 q3 K1 K2 K3 CZ HB2 hS a0 a1 a2 a3 a4 af b0 b1 b2 b3 b4 bf
    obtain ⟨⟨a0, a1, a2, a3, a4⟩, y1, y2, y3⟩ := SALL.out w4 (Below.refl _ _)
    have hL62 : Hid (L.length = 4 + N) := HS.out
    have HR4 := Lib.hid (Below.refl w4.heap.size w4)
    have B4 : Below w4.heap.size w4 w4.drew := (Below.refl _ w4).drew
    have t21a : True := trivial
    have t21b : True := trivial
    have t23a : True := trivial
    have t23b : True := trivial
    have t25a : True := trivial
    have t25b : True := trivial
    go_wp2
    clear a0 a1 a2 a3 a4 y1 y2 y3 HR4
    go_cut [121] from 44 to 122 (fun s121 wx => s121 = .bool false ∧ Hid (Below w4.heap.size w4 wx))
    case first =>
      simp only [List.append_eq, List.cons_append, List.nil_append]
      go_region_held3 (fun u => (u.cell? ⟨w.heap.size, 0, none⟩ = some (.int .i64 z.id) ∧ u.cell? ⟨w.heap.size, 1, none⟩ = some (.string z.lb) ∧ u.cell? ⟨w.heap.size, 2, none⟩ = some (.int .i64 z.out) ∧ u.cell? ⟨w.heap.size, 3, none⟩ = some (.int .i64 z.inn) ∧ u.cell? ⟨w.heap.size, 4, none⟩ = some (.slice pz N qz)) ∧ (u.cell? ⟨g4, o4 + 1 * 2, none⟩ = some k1 ∧ u.cell? ⟨g4, o4 + 2 * 2, none⟩ = some k2 ∧ u.cell? ⟨g4, o4 + 3 * 2, none⟩ = some k3))
        (first | with_reducible exact SALL.out _ B4 | with_reducible exact SALL.out _ (bel_al B4 _) | with_reducible exact SALL.out _ B5 | with_reducible exact SALL.out _ (bel_al B5 _) | with_reducible exact SALL.out _ B6 | with_reducible exact SALL.out _ (bel_al B6 _) | with_reducible exact SALL.out _ B7 | with_reducible exact SALL.out _ (bel_al B7 _) | with_reducible exact SALL.out _ B8 | with_reducible exact SALL.out _ (bel_al B8 _) | with_reducible exact SALL.out _ B9 | with_reducible exact SALL.out _ (bel_al B9 _) | with_reducible exact SALL.out _ B10 | with_reducible exact SALL.out _ (bel_al B10 _))
        (first
          | (go_at_call 21; clear t21a; refine (out21 z.out HI2.out [] _ _ (ss_nil0 _)).mono ?_; rintro e w5 ⟨v5, rfl, hr5, hB5⟩; obtain ⟨p5, n5, c5, rfl⟩ := bts_hdr hr5; have B5 := bel_then B4 hB5; have cp := hasPrefix37 w5 k1 _ _ _ (Q1.out.on B5) hr5.bs; rw [begins_out0] at cp; clear hr5 hB5)
          | (go_at_call 21; clear t21b; refine (out21 z.out HI2.out [z.lb] _ _ (ss_one _ z.lb LZ.out)).mono ?_; rintro e w6 ⟨v6, rfl, hr6, hB6⟩; obtain ⟨p6, n6, c6, rfl⟩ := bts_hdr hr6; have B6 := bel_then (bel_al B5 _) hB6; have cp := hasPrefix37 w6 k1 _ _ _ (Q1.out.on B6) hr6.bs; rw [begins_out1] at cp; clear hr6 hB6)
          | (go_at_call 23; clear t23a; refine (in23 z.inn HI3.out [] _ _ (ss_nil0 _)).mono ?_; rintro e w7 ⟨v7, rfl, hr7, hB7⟩; obtain ⟨p7, n7, c7, rfl⟩ := bts_hdr hr7; have B7 := bel_then B6 hB7; have cp := hasPrefix37 w7 k2 _ _ _ (Q2.out.on B7) hr7.bs; rw [begins_in0] at cp; clear hr7 hB7)
          | (go_at_call 23; clear t23b; refine (in23 z.inn HI3.out [z.lb] _ _ (ss_one _ z.lb LZ.out)).mono ?_; rintro e w8 ⟨v8, rfl, hr8, hB8⟩; obtain ⟨p8, n8, c8, rfl⟩ := bts_hdr hr8; have B8 := bel_then (bel_al B7 _) hB8; have cp := hasPrefix37 w8 k2 _ _ _ (Q2.out.on B8) hr8.bs; rw [begins_in1] at cp; clear hr8 hB8)
          | (go_at_call 25; clear t25a; refine (label25 7 [z.lb] _ _ (ss_one _ z.lb LZ.out)).mono ?_; rintro e w9 ⟨v9, rfl, hr9, hB9⟩; obtain ⟨p9, n9, c9, rfl⟩ := bts_hdr hr9; have B9 := bel_then (bel_al B8 _) hB9; have cp := hasPrefix37 w9 k3 _ _ _ (Q3.out.on B9) hr9.bs; rw [begins_label1] at cp; clear hr9 hB9)
          | (go_at_call 25; clear t25b; refine (label25 7 [] _ _ (ss_nil0 _)).mono ?_; rintro e w10 ⟨v10, rfl, hr10, hB10⟩; obtain ⟨p10, n10, c10, rfl⟩ := bts_hdr hr10; have B10 := bel_then B9 hB10; have cp := hasPrefix37 w10 k3 _ _ _ (Q3.out.on B10) hr10.bs; rw [begins_label0] at cp; clear hr10 hB10)
          | (go_at_call 37; refine cp.mono ?_; rintro e x ⟨rfl, rfl⟩; clear cp))
      all_goals go_wp2
      all_goals go_meet
      all_goals (case rel => exact ⟨rfl, B10⟩)
    case rest =>
      obtain ⟨rfl, HR5⟩ := hcut
      have HW := Lib.hid (bel_then HB4.out HR5.out)
      have KB5 := Lib.hid (blk_on HR5.out KB.out)
      obtain ⟨⟨a0, a1, a2, a3, a4⟩, y1, y2, y3⟩ := SALL.out wc HR5.out
      clear y1 y2 y3 j1 j2 j3 jw Q1 Q2 Q3 KA KB LZ HB1
      go_wp2
      clear a0 a1 a2 a3 a4
      go_loopg [125] N (fun c s125 wr => ∃ i : Nat, i + c = N ∧ s125 = .int .i64 i ∧ Hid (Below wc.heap.size wc wr))
      case atStart => exact ⟨0, by omega, rfl, Below.refl _ _⟩
      case round =>
        obtain ⟨i, hic, rfl, hB⟩ := hrel
        cases gk with
        | succ c =>
          have hi : i < z.ps.length := by have := HN.out; omega
          have hiN : i < N := by omega
          obtain ⟨b, o', rfl, -, hx1⟩ := HZX.out.resolve_left (by intro e; rw [e] at hi; simp at hi)
          have BW := Lib.hid (bel_then HW.out hB.out)
          obtain ⟨sl, hat, hin⟩ := (hx1.on' BW.out).at i hi
          obtain ⟨x0, x1, x2, x3, x4⟩ := ats5 hat
          simp only [show RP.n = 5 from rfl] at x0 x1 x2 x3 x4
          have B9 := Lib.hid (bel_then HR5.out hB.out)
          obtain ⟨kh, vh, d0, -, q0, -⟩ := HC.out (4 + i) (by have := HM.out; have := HS.out; omega)
          rw [KP.out i hi (by have := HM.out; have := HS.out; omega)] at q0
          have D0 := some_on B9.out d0
          have Q0 := Lib.hid (q0.on B9.out)
          have mnm : Hid ((z.ps[i]).nm.size ≤ 1048570 ∧ (z.ps[i]).v.many ≤ 1048576) := by
            have h1 : (z.ps[i]).nm.size + (z.ps[i]).v.many + 1 ≤ manyP z.ps := manyP_mem (List.getElem_mem hi)
            have := MZ.out
            exact ⟨by omega, by omega⟩
          have hv := Lib.hid hin.2
          clear hat hin hx1 d0 q0 HZX
          generalize z.ps[i] = pp at *
          obtain ⟨pn, ⟨vk, vn, vs, vl⟩⟩ := pp
          simp only [V.k, V.n, V.s] at x0 x1 x2 x3 x4
          obtain ⟨s1, s2, s3, rfl⟩ := hv.out.header
          have jM : (4 : Int) + (i : Int) < (M : Int) := by have := HM.out; have := HS.out; omega
          have jw : IntKind.i64.wrap (4 + (i : Int)) = 4 + (i : Int) := by rw [IntKind.wrap_i64]; omega
          have j0 : (0 : Int) ≤ 4 + (i : Int) := by omega
          have ji : (i : Int) < (N : Int) := by omega
          have ji0 : (0 : Int) ≤ (i : Int) := by omega
          have kP := blk_new wr (.cells #[.string pn, .int .i64 vk, .int .i64 vn, .string vs, .slice s1 s2 s3] 65)
          have hBp := bel1 wr (.cells #[.string pn, .int .i64 vk, .int .i64 vn, .string vs, .slice s1 s2 s3] 65)
          have QP := Lib.hid (Q0.out.on hBp)
          have VP := Lib.hid (hv.out.on hBp)
          have BP := Lib.hid (bel_then hB.out hBp)
          rw [show 4 + i = ((4 : Int) + (i : Int)).toNat by omega] at D0
          have DP := some_on hBp D0
          have SF : Hid (∀ u, Below (wr.alloc (.cells #[.string pn, .int .i64 vk, .int .i64 vn, .string vs, .slice s1 s2 s3] 65)).heap.size (wr.alloc (.cells #[.string pn, .int .i64 vk, .int .i64 vn, .string vs, .slice s1 s2 s3] 65)) u → (u.cell? ⟨wr.heap.size, 0, none⟩ = some (.string pn) ∧ u.cell? ⟨wr.heap.size, 1, none⟩ = some (.int .i64 vk) ∧ u.cell? ⟨wr.heap.size, 2, none⟩ = some (.int .i64 vn) ∧ u.cell? ⟨wr.heap.size, 3, none⟩ = some (.string vs) ∧ u.cell? ⟨wr.heap.size, 4, none⟩ = some (.slice s1 s2 s3)) ∧ u.cell? ⟨g4, o4 + ((4 : Int) + (i : Int)).toNat * 2, none⟩ = some kh) := fun u hu => by
            obtain ⟨a0, a1, a2, a3, a4, -⟩ := five_of (blk_on hu kP)
            exact ⟨⟨a0, a1, a2, a3, a4⟩, some_on hu DP⟩
          go_wp2
          clear kP hBp D0 DP x0 x1 x2 x3 x4 hv Q0 hB B9 BW
          generalize wr.alloc (.cells #[.string pn, .int .i64 vk, .int .i64 vn, .string vs, .slice s1 s2 s3] 65) = WP at *
          generalize wr.heap.size = G at *
          have B4 : Below WP.heap.size WP WP.drew := (Below.refl _ WP).drew
          have t27a : True := trivial
          have t27b : True := trivial
          go_region_held3 (fun u => (u.cell? ⟨G, 0, none⟩ = some (.string pn) ∧ u.cell? ⟨G, 1, none⟩ = some (.int .i64 vk) ∧ u.cell? ⟨G, 2, none⟩ = some (.int .i64 vn) ∧ u.cell? ⟨G, 3, none⟩ = some (.string vs) ∧ u.cell? ⟨G, 4, none⟩ = some (.slice s1 s2 s3)) ∧ u.cell? ⟨g4, o4 + ((4 : Int) + (i : Int)).toNat * 2, none⟩ = some kh)
            (first | with_reducible exact SF.out _ B4 | with_reducible exact SF.out _ B5 | with_reducible exact SF.out _ (bel_al B4 _) | with_reducible exact SF.out _ (bel_al B5 _) | with_reducible exact SF.out _ B6)
            (first
              | (go_at_call 27; clear t27a; refine (prop0_27 7 pn mnm.out.1 _ none 0).mono ?_; rintro e w5 ⟨v5, rfl, hr5, hB5⟩; obtain ⟨p5, n5, c5, rfl⟩ := bts_hdr hr5; have B5 := bel_then B4 hB5; have cp := hasPrefix37 w5 kh _ _ _ (QP.out.on B5) hr5.bs; rw [begins_prop0] at cp; clear hr5 hB5)
              | (go_at_call 27; clear t27b; refine (prop1_27 7 pn mnm.out.1 ⟨vk, vn, vs, vl⟩ mnm.out.2 [] _ _ (sl_one _ ⟨vk, vn, vs, vl⟩ _ (VP.out.on B5))).mono ?_; rintro e w6 ⟨v6, rfl, hr6, hB6⟩; obtain ⟨p6, n6, c6, rfl⟩ := bts_hdr hr6; have B6 := bel_then (bel_al B5 _) hB6; have cp := hasPrefix37 w6 kh _ _ _ (QP.out.on B6) hr6.bs; rw [begins_prop1] at cp; clear hr6 hB6)
              | (go_at_call 37; refine cp.mono ?_; rintro e x ⟨rfl, rfl⟩; clear cp))
          all_goals go_wp2
          all_goals go_roundg c
          all_goals first
            | omega
            | exact ⟨i + 1, by omega, by first | rfl | simp, bel_then BP.out B6⟩
        | zero =>
          have hiN : i = N := by omega
          subst hiN
          have BW := Lib.hid (bel_then HW.out hB.out)
          have KBw := Lib.hid (blk_on hB.out KB5.out)
          obtain ⟨b0, b1, b2, b3, b4, bf⟩ := five_of KBw.out
          clear HZX KP HC KB5
          go_wp2_with (fail)
          refine (CO.out _ BW.out).mono ?_
          rintro e w5 ⟨v5, rfl, hr5, hB5⟩
          obtain ⟨p5, c5, rfl, hcl5, hcm5, hcx5⟩ := hr5.es
          have B5 := Lib.hid (bel_then BW.out hB5)
          by_cases hid : lkIds o
          rotate_left
          · rw [lkQ_no hid]
            simp only [List.length_nil]
            clear hcx5 hr5 hcl5
            go_wp2
            go_ret
            exact ⟨rfl, B5.out⟩
          have hS := lkQ_size hid
          have K1 := Lib.hid (lkQ_key1 hid)
          have K2 := Lib.hid (lkQ_key2 hid)
          have JO := hid.2.1
          have JN := hid.2.2
          obtain ⟨L', hL'⟩ : ∃ l, lkQ o = l := ⟨_, rfl⟩
          rw [hL'] at hS K1 K2 hcl5 hcx5 ⊢
          obtain ⟨g5, o5, rfl, hc⟩ := hcx5.resolve_left (by intro e; rw [e] at hS; simp at hS; omega)
          obtain ⟨k1', u1, d1, -, q1, -⟩ := hc 1 (by omega)
          obtain ⟨k2', u2, d2, -, q2, -⟩ := hc 2 (by omega)
          rw [K1.out (by omega)] at q1
          rw [K2.out (by omega)] at q2
          obtain ⟨M', hM'⟩ : ∃ m, L'.length = m := ⟨_, rfl⟩
          rw [hM'] at hcl5 ⊢
          have j4 : decide ((M' : Int) < 4) = false := decide_eq_false (by omega)
          have j1 : (1 : Int) < (M' : Int) := by omega
          have j2 : (2 : Int) < (M' : Int) := by omega
          have BEG1 : Hid (∀ r, begins (outQ o.out [o.lb] ++ r) (outQ z.out []) = decide (o.out = z.out)) := fun r => begins_outId JO IDO.out _ r
          have BEG2 : Hid (∀ r, begins (inQ o.inn [o.lb] ++ r) (inQ z.inn []) = decide (o.inn = z.inn)) := fun r => begins_inId JN IDN.out _ r
          have SF : Hid (∀ u, Below w5.heap.size w5 u → (u.cell? ⟨w.heap.size, 2, none⟩ = some (.int .i64 z.out) ∧ u.cell? ⟨w.heap.size, 3, none⟩ = some (.int .i64 z.inn)) ∧ (u.cell? ⟨w.heap.size + 1, 2, none⟩ = some (.int .i64 o.out) ∧ u.cell? ⟨w.heap.size + 1, 3, none⟩ = some (.int .i64 o.inn)) ∧ (u.cell? ⟨g5, o5 + 1 * 2, none⟩ = some k1' ∧ u.cell? ⟨g5, o5 + 2 * 2, none⟩ = some k2')) := fun u hu => by
            obtain ⟨⟨a0, a1, a2, a3, a4⟩, -⟩ := SALL.out u (bel_then (bel_then HR5.out hB.out) (bel_then hB5 hu))
            obtain ⟨b0, b1, b2, b3, b4, bf⟩ := five_of (blk_on (bel_then hB5 hu) KBw.out)
            exact ⟨⟨a2, a3⟩, ⟨b2, b3⟩, some_on hu d1, some_on hu d2⟩
          have Q1' := Lib.hid q1
          have Q2' := Lib.hid q2
          clear hid hS K1 K2 hL' hM' hc hcx5 hr5 hB5 d1 d2 q1 q2 b0 b1 b2 b3 b4 bf JO JN
          have c4 : Below w5.heap.size w5 w5.drew := (Below.refl _ w5).drew
          obtain ⟨t1, ht1⟩ : ∃ t, decide (o.out = z.out) = t := ⟨_, rfl⟩
          obtain ⟨t2, ht2⟩ : ∃ t, decide (o.inn = z.inn) = t := ⟨_, rfl⟩
          have e1 : (o.out == z.out) = t1 := by rw [← ht1]; rfl
          have e2 : (o.inn == z.inn) = t2 := by rw [← ht2]; rfl
          rw [ht1] at BEG1
          rw [ht2] at BEG2
          have f1 : (t1 == t1) = true := beq_self_eq_true t1
          have f2 : (t2 == t2) = true := beq_self_eq_true t2
          have HT1 := Lib.hid ht1
          have HT2 := Lib.hid ht2
          clear ht1 ht2
          go_wp2
          have t21 : True := trivial
          have t23 : True := trivial
          go_region_held3 (fun u => (u.cell? ⟨w.heap.size, 2, none⟩ = some (.int .i64 z.out) ∧ u.cell? ⟨w.heap.size, 3, none⟩ = some (.int .i64 z.inn)) ∧ (u.cell? ⟨w.heap.size + 1, 2, none⟩ = some (.int .i64 o.out) ∧ u.cell? ⟨w.heap.size + 1, 3, none⟩ = some (.int .i64 o.inn)) ∧ (u.cell? ⟨g5, o5 + 1 * 2, none⟩ = some k1' ∧ u.cell? ⟨g5, o5 + 2 * 2, none⟩ = some k2'))
            (first | with_reducible exact SF.out _ c4 | with_reducible exact SF.out _ c5 | with_reducible exact SF.out _ c6)
            (first
              | (go_at_call 21; clear t21; refine (out21 z.out HI2.out [] _ _ (ss_nil0 _)).mono ?_; rintro e w6 ⟨v6, rfl, hr6, hB6⟩; obtain ⟨p6, n6, c6', rfl⟩ := bts_hdr hr6; have c5 := bel_then c4 hB6; have cp := hasPrefix37 w6 k1' _ _ _ (Q1'.out.on c5) hr6.bs; rw [BEG1.out] at cp; clear hr6 hB6)
              | (go_at_call 23; clear t23; refine (in23 z.inn HI3.out [] _ _ (ss_nil0 _)).mono ?_; rintro e w7 ⟨v7, rfl, hr7, hB7⟩; obtain ⟨p7, n7, c7', rfl⟩ := bts_hdr hr7; have c6 := bel_then c5 hB7; have cp := hasPrefix37 w7 k2' _ _ _ (Q2'.out.on c6) hr7.bs; rw [BEG2.out] at cp; clear hr7 hB7)
              | (go_at_call 37; refine cp.mono ?_; rintro e x ⟨rfl, rfl⟩; clear cp))
          all_goals go_wp2
          all_goals go_ret
          all_goals exact ⟨rfl, bel_then B5.out c6⟩
end Go.Proofs.YtbgikgeknnmelaaGreat
