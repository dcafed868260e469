/-
  The document's keys (rambleref11): k, str, first, Key, Sign.
  The document's keys (rambleref11): Sign, Out, In, Label, Prop.
-/
import Derived.Test.YtbgikgeknnmelaaGreatRpt
import Derived.Test.YtbgikgeknnmelaaGreatKey3
import Derived.Test.YtbgikgeknnmelaaGreatZBgn
namespace Go.Proofs.YtbgikgeknnmelaaGreat
open Go.RowKit
set_option linter.unusedVariables false      -- a walk need not use every condition

/-- The document's Key of one value. -/
theorem rkeyOne79 (v : V) (sl : Value) (W : World) (g : Nat) (hg : W.heap.size = g) (h : v.In W 0 sl) (hm : v.many ≤ 1048576) :
    Calls Tryz.prog 79 #[.slice (some ⟨g, 0, none⟩) 1 1] (W.alloc (.cells #[.int .i64 v.k, .int .i64 v.n, .string v.s, sl] 29)) fun e w' => ∃ b n, e = .returned (.tuple #[b, .int .i64 n]) ∧ Bts w' W.heap.size b (kq v) ∧ Below W.heap.size W w' := by
  subst hg
  have hk := keyL_one v
  refine (refKey79 [v] _ _ (sl_one W v sl h) (by omega)).mono ?_
  rintro e w' ⟨b, rfl, hb, hB⟩
  exact ⟨b, _, rfl, hb.mono (by simp), bel_then (bel1 W _) hB⟩
set_option maxHeartbeats 1000000 in
set_option maxRecDepth 20000 in
theorem rk55 (v : V) (sl : Value) (w : World) (hin : v.In w 0 sl) (hm : v.many ≤ 1048576) : Calls Tryz.prog 55 #[v.agg sl] w (AppR w (kq v)) := by
  obtain ⟨p1, n1, q1, rfl⟩ := hin.header
  have hbel := bel1 w (.cells #[.int .i64 v.k, .int .i64 v.n, .string v.s, .slice p1 n1 q1] 29)
  have c79 := fun g hg => rkeyOne79 v _ _ g hg (hin.on hbel) hm
  generalize kq v = K at *
  unfold V.agg
  go_enter Tryz.func55, Tryz.ntmps55
  go_wp2_with (go_at_call 79; go_loud (refine (c79 _ (by simp)).mono ?_; rintro e w1 ⟨b1, n, rfl, hb, hB⟩))
  go_ret
  exact ⟨b1, rfl, hb.mono (by simp), bel_then hbel hB⟩
theorem rkS55 (s : ByteArray) (hs : s.size ≤ 1048570) (w : World) : Calls Tryz.prog 55 #[.agg #[.int .i64 2, .int .i64 0, .string s, .slice none 0 0]] w (AppR w (kq (strV s))) := by
  have h := rk55 (strV s) (.slice none 0 0) w (in_plain (by unfold I64; omega) (by unfold I64; omega) (by omega) w 0) (by simp [strV, V.many, manyL]; omega)
  exact h
theorem rkV55 (n : Int) (hn : I64 n) (w : World) : Calls Tryz.prog 55 #[.agg #[.int .i64 6, .int .i64 n, .string ⟨#[]⟩, .slice none 0 0]] w (AppR w (kq (vEl n))) := by
  have h := rk55 (vEl n) (.slice none 0 0) w (in_plain (by unfold I64; omega) hn (by decide) w 0) (by simp [vEl, V.many, manyL]; exact Nat.zero_le _)
  exact h
set_option maxHeartbeats 400000 in
theorem rstr83 (s : ByteArray) (w : World) : Calls Tryz.prog 83 #[.string s] w fun e w' => e = .returned (.agg #[.int .i64 2, .int .i64 0, .string s, .slice none 0 0]) ∧ Below w.heap.size w w' := by
  go_enter Tryz.func83, Tryz.ntmps83
  go_wp2
  simp [bodyPost, results, Tryz.results83, go_sem]
  exact bel1 w _
set_option maxHeartbeats 400000 in
theorem rstr62 (s : ByteArray) (hs : s.size ≤ 1048570) (w : World) : Calls Tryz.prog 62 #[.string s] w (AppR w (kq (strV s))) := by
  have c55 := rkS55 s hs
  generalize kq (strV s) = K at *
  go_enter Tryz.func62, Tryz.ntmps62
  go_wp2_with (first
    | (go_at_call 83; refine (rstr83 s _).mono ?_; rintro e w1 ⟨rfl, hB1⟩)
    | (go_at_call 55; refine (c55 _).mono ?_; rintro e w2 ⟨b2, rfl, hb2, hB2⟩))
  go_ret
  exact ⟨b2, rfl, hb2.mono hB1.size, bel_then hB1 hB2⟩
set_option maxHeartbeats 1000000 in
set_option maxRecDepth 20000 in
theorem rfirst60 (l : List ByteArray) (sl : Value) (w : World) (hs : Ss w sl l) : Calls Tryz.prog 60 #[sl] w (AppR w (firstQ l)) := by
  obtain ⟨p, cap, rfl, h1, h2, h3, h4⟩ := hs
  cases l with
  | nil =>
    go_enter Tryz.func60, Tryz.ntmps60
    go_wp2
    go_ret
    exact ⟨_, rfl, World.ownsRow_nil _ _ _ _, Below.refl _ _⟩
  | cons s r =>
    obtain ⟨g, o, rfl, hc⟩ := h4.resolve_left (by simp)
    have c0 := hc 0 (by simp)
    have hs0 := h3 s (by simp)
    simp only [Nat.add_zero, List.getElem_cons_zero] at c0
    rw [List.length_cons] at *
    generalize r.length = m at *
    unfold maxLen at h2
    have e0 : firstQ (s :: r) = kq (strV s) := rfl
    rw [e0]
    have c62 := rstr62 s hs0
    generalize kq (strV s) = K at *
    clear e0 hc h4 h3
    go_enter Tryz.func60, Tryz.ntmps60
    go_wp2_with (go_at_call 62; refine (c62 _).mono ?_; rintro e w1 ⟨b1, rfl, hb1, hB1⟩)
    go_ret
    exact ⟨b1, rfl, hb1, hB1⟩
set_option maxHeartbeats 1000000 in
set_option maxRecDepth 20000 in
theorem rkey20 (v : V) (sl : Value) (w : World) (hin : v.In w 0 sl) (hm : v.many ≤ 1048576) : Calls Tryz.prog 20 #[v.agg sl] w (AppR w (keyQ v)) := by
  obtain ⟨p1, n1, q1, rfl⟩ := hin.header
  have c58 := fun u h => refCheck14 v (.slice p1 n1 q1) u h
  have c55 := fun W h => rk55 v (.slice p1 n1 q1) W h hm
  have hl := kq_len v
  unfold V.err at c58
  have hbel := bel1 w (.cells #[.int .i64 v.k, .int .i64 v.n, .string v.s, .slice p1 n1 q1] 29)
  have hnew := blk_new w (.cells #[.int .i64 v.k, .int .i64 v.n, .string v.s, .slice p1 n1 q1] 29)
  have hin1 := hin.on hbel
  unfold V.agg at c58 c55 ⊢
  cases hmay : v.may 1 with
  | false =>
    have e0 : keyQ v = [] := by unfold keyQ; rw [hmay]; rfl
    rw [e0]
    rw [hmay] at c58
    simp only [Bool.false_eq_true, if_false] at c58
    go_enter Tryz.func20, Tryz.ntmps20
    go_wp2_with (go_at_call 58; refine (c58 _ hin1).mono ?_; rintro e w2 ⟨rfl, hB2⟩)
    go_ret
    exact ⟨_, rfl, World.ownsRow_nil _ _ _ _, bel_then hbel hB2⟩
  | true =>
    rw [hmay] at c58
    simp only [if_true] at c58
    have hkq : keyQ v = if v.k = 6 then [1] ++ kq v else if v.k = 7 then [2] ++ kq v else [] := by unfold keyQ; rw [if_pos hmay]; rfl
    rw [hkq]
    generalize kq v = K at *
    clear hmay hkq
    by_cases h6 : v.k = 6
    · rw [if_pos h6]
      have e6 : (v.k == 6) = true := by simp [h6]
      clear h6
      go_enter Tryz.func20, Tryz.ntmps20
      go_wp2_with (first
        | (go_at_call 58; go_loud (refine (c58 _ hin1).mono ?_; rintro e w2 ⟨rfl, hB2⟩; obtain ⟨x0, x1, x2, x3, xf⟩ := four_of (blk_on hB2 hnew); have hB3 := bel_then hbel hB2; obtain ⟨y0, y1, y2, y3, yf⟩ := four_of (blk_old (o' := .cells #[.int .u8 1] 5) (blk_on hB2 hnew)); have hlit := bts_lit1 w2 w.heap.size hB3.size 1; have hB4 := hB3.trans ((bel1 w2 (.cells #[.int .u8 (1 : UInt8).toNat] 5)).mono hB3.size)))
        | (go_at_call 55; go_loud (refine (c55 _ (hin.on hB4)).mono ?_; rintro e w3 ⟨b3, rfl, hb3, hB5⟩; have hB6 := hB4.trans (hB5.mono hB4.size); have hO : Bts w3 w.heap.size _ [1] := own_bel hlit hB5; have hbs := hb3.bs))
        | (at_builtin; refine wpList_app_bs _ rfl _ _ rfl w.heap.size _ _ rfl hO _ K rfl hbs (by simp; omega) hB6.size ?_; intro v4 w4 hb4 hg4; have hB7 := below_app hB6 hO hg4; clear hg4))
      go_ret
      exact ⟨v4, rfl, hb4, hB7⟩
    · rw [if_neg h6]
      have e6 : (v.k == 6) = false := by simp [h6]
      by_cases h7 : v.k = 7
      · rw [if_pos h7]
        have e7 : (v.k == 7) = true := by simp [h7]
        clear h6 h7
        go_enter Tryz.func20, Tryz.ntmps20
        go_wp2_with (first
          | (go_at_call 58; go_loud (refine (c58 _ hin1).mono ?_; rintro e w2 ⟨rfl, hB2⟩; obtain ⟨x0, x1, x2, x3, xf⟩ := four_of (blk_on hB2 hnew); have hB3 := bel_then hbel hB2; obtain ⟨y0, y1, y2, y3, yf⟩ := four_of (blk_old (o' := .cells #[.int .u8 2] 5) (blk_on hB2 hnew)); have hlit := bts_lit1 w2 w.heap.size hB3.size 2; have hB4 := hB3.trans ((bel1 w2 (.cells #[.int .u8 (2 : UInt8).toNat] 5)).mono hB3.size)))
          | (go_at_call 55; go_loud (refine (c55 _ (hin.on hB4)).mono ?_; rintro e w3 ⟨b3, rfl, hb3, hB5⟩; have hB6 := hB4.trans (hB5.mono hB4.size); have hO : Bts w3 w.heap.size _ [2] := own_bel hlit hB5; have hbs := hb3.bs))
          | (at_builtin; refine wpList_app_bs _ rfl _ _ rfl w.heap.size _ _ rfl hO _ K rfl hbs (by simp; omega) hB6.size ?_; intro v4 w4 hb4 hg4; have hB7 := below_app hB6 hO hg4; clear hg4))
        go_ret
        exact ⟨v4, rfl, hb4, hB7⟩
      · rw [if_neg h7]
        have e7 : (v.k == 7) = false := by simp [h7]
        clear h6 h7
        go_enter Tryz.func20, Tryz.ntmps20
        go_wp2_with (go_at_call 58; refine (c58 _ hin1).mono ?_; rintro e w2 ⟨rfl, hB2⟩; obtain ⟨x0, x1, x2, x3, xf⟩ := four_of (blk_on hB2 hnew))
        go_ret
        exact ⟨_, rfl, World.ownsRow_nil _ _ _ _, bel_then hbel hB2⟩
end Go.Proofs.YtbgikgeknnmelaaGreat
namespace Go.Proofs.YtbgikgeknnmelaaGreat
open Go.RowKit
set_option linter.unusedVariables false      -- a walk need not use every condition

theorem cut_of {w : World} {base : Nat} {b : Value} {P S : List UInt8} (hb : Bts w base b P) (hS : S = P.take 40) : ∃ p cap, b = .slice p P.length cap ∧ P.length ≤ cap ∧ cap ≤ 9223372036854775807 ∧ (P.length ≤ 40 → Bs w (.slice p P.length cap) S) ∧ (40 ≤ P.length → Bs w (.slice p 40 cap) S) := by
  obtain ⟨p, cap, e2, hc1, hc2⟩ := hb.bs.slice
  have hcm : cap ≤ maxLen := by obtain ⟨p', cap', e', h1, h2, -⟩ := hb.bs; rw [e2] at e'; injection e' with _ _ e3; omega
  unfold maxLen at hcm
  refine ⟨p, cap, e2, hc1, by omega, fun h => ?_, fun h => ?_⟩
  · have := Bs.own_take hb e2 P.length (Nat.le_refl _)
    rw [hS, List.take_of_length_le h]
    rwa [List.take_length] at this
  · rw [hS]
    exact Bs.own_take hb e2 40 h
set_option maxHeartbeats 2000000 in
set_option maxRecDepth 20000 in
theorem rsign16 (v : V) (sl : Value) (w : World) (hin : v.In w 0 sl) (hm : v.many ≤ 1048576) : Calls Tryz.prog 16 #[v.agg sl] w (AppR w (sgn v)) := by
  obtain ⟨p1, n1, q1, rfl⟩ := hin.header
  have hbel := bel1 w (.cells #[.int .i64 v.k, .int .i64 v.n, .string v.s, .slice p1 n1 q1] 29)
  have hnew := blk_new w (.cells #[.int .i64 v.k, .int .i64 v.n, .string v.s, .slice p1 n1 q1] 29)
  have hin1 := hin.on hbel
  have c55 := rk55 v _ _ hin1 hm
  have c56 := fun W h => rput56 v (.slice p1 n1 q1) W h hm
  have l1 := plq_len v
  have l2 := kq_len v
  have hl := stem_len v
  have hq : sgn v = [UInt8.ofNat (stem v).length] ++ stem v := rfl
  rw [hq]
  obtain ⟨S, hS⟩ : ∃ S, stem v = S := ⟨_, rfl⟩
  rw [hS] at hl ⊢
  obtain ⟨c, hc⟩ : ∃ c : UInt8, UInt8.ofNat S.length = c := ⟨_, rfl⟩
  have hcn : (S.length : Int) = (c.toNat : Int) := by rw [← hc, toNat_of (by omega)]
  rw [hc]
  clear hc hq
  by_cases h45 : v.k = 4 ∨ v.k = 5
  · have hS' : Hid (S = (plq v).take 40) := by show _ = _; rw [← hS]; unfold stem stemF; rw [if_pos h45]
    clear hS
    unfold V.agg at c55 c56 ⊢
    generalize plq v = P at *
    go_enter Tryz.func16, Tryz.ntmps16
    go_wp2_with (fail)
    refine c55.mono ?_
    rintro e w1 ⟨b1, rfl, -, hB1⟩
    obtain ⟨x0, x1, x2, x3, xf⟩ := four_of (blk_on hB1 hnew)
    have hB2 := bel_then hbel hB1
    have c56 := c56 w1 (hin.on hB2)
    have e45 : (v.k == 4) = true ∨ (v.k == 4) = false ∧ (v.k == 5) = true := by
      by_cases h4 : v.k = 4
      · exact .inl (by simp [h4])
      · exact .inr ⟨by simp [h4], by simp [show v.k = 5 by omega]⟩
    clear h45 hin hin1 c55
    rcases e45 with e4 | ⟨e4, e5⟩
    · go_wp2_with (fail)
      refine c56.mono ?_
      rintro e w2 ⟨b2, rfl, hb2, hBx⟩
      have hB3 := hB2.trans (hBx.mono hB2.size)
      clear hBx c56
      obtain ⟨p, cap, rfl, h1, h2, hT1, hT2⟩ := cut_of hb2 hS'.out
      have hLen : S.length = min P.length 40 := by rw [hS'.out, List.length_take]; omega
      have hlit := bts_lit1 w2 w.heap.size hB3.size c
      have hB4 := hB3.trans ((bel1 w2 (.cells #[.int .u8 (c.toNat : Int)] 5)).mono hB3.size)
      rw [← hcn] at hlit hB4
      clear hb2 hS' hcn
      generalize P.length = N at *
      by_cases hN : N ≤ 40
      · have hT := Lib.hid (hT1 hN)
        have hmin : min (N : Int) 40 = N := by omega
        rw [show S.length = N by omega] at hlit hB4 hl
        have HB := Lib.hid (hT.out.on (bel1 w2 (.cells #[.int .u8 (N : Int)] 5)))
        have hSl : S.length = N := by omega
        clear hT1 hT2 hT hLen
        go_wp2_with (at_builtin; go_loud (refine wpList_app_bs _ rfl _ _ rfl w.heap.size _ [c] rfl hlit _ S rfl HB.out (by simp; omega) hB4.size ?_); intro v5 w5 hb5 hg5; have hB5 := below_app hB4 hlit hg5)
        go_ret
        exact ⟨v5, rfl, hb5, hB5⟩
      · have hT := Lib.hid (hT2 (by omega))
        have hmin : min (N : Int) 40 = 40 := by omega
        rw [show S.length = 40 by omega] at hlit hB4 hl
        have HB := Lib.hid (hT.out.on (bel1 w2 (.cells #[.int .u8 ((40 : Nat) : Int)] 5)))
        have hSl : S.length = 40 := by omega
        clear hT1 hT2 hT hLen
        go_wp2_with (at_builtin; go_loud (refine wpList_app_bs _ rfl _ _ rfl w.heap.size _ [c] rfl hlit _ S rfl HB.out (by simp; omega) hB4.size ?_); intro v5 w5 hb5 hg5; have hB5 := below_app hB4 hlit hg5)
        go_ret
        exact ⟨v5, rfl, hb5, hB5⟩
    · go_wp2_with (fail)
      refine c56.mono ?_
      rintro e w2 ⟨b2, rfl, hb2, hBx⟩
      have hB3 := hB2.trans (hBx.mono hB2.size)
      clear hBx c56
      obtain ⟨p, cap, rfl, h1, h2, hT1, hT2⟩ := cut_of hb2 hS'.out
      have hLen : S.length = min P.length 40 := by rw [hS'.out, List.length_take]; omega
      have hlit := bts_lit1 w2 w.heap.size hB3.size c
      have hB4 := hB3.trans ((bel1 w2 (.cells #[.int .u8 (c.toNat : Int)] 5)).mono hB3.size)
      rw [← hcn] at hlit hB4
      clear hb2 hS' hcn
      generalize P.length = N at *
      by_cases hN : N ≤ 40
      · have hT := Lib.hid (hT1 hN)
        have hmin : min (N : Int) 40 = N := by omega
        rw [show S.length = N by omega] at hlit hB4 hl
        have HB := Lib.hid (hT.out.on (bel1 w2 (.cells #[.int .u8 (N : Int)] 5)))
        have hSl : S.length = N := by omega
        clear hT1 hT2 hT hLen
        go_wp2_with (at_builtin; go_loud (refine wpList_app_bs _ rfl _ _ rfl w.heap.size _ [c] rfl hlit _ S rfl HB.out (by simp; omega) hB4.size ?_); intro v5 w5 hb5 hg5; have hB5 := below_app hB4 hlit hg5)
        go_ret
        exact ⟨v5, rfl, hb5, hB5⟩
      · have hT := Lib.hid (hT2 (by omega))
        have hmin : min (N : Int) 40 = 40 := by omega
        rw [show S.length = 40 by omega] at hlit hB4 hl
        have HB := Lib.hid (hT.out.on (bel1 w2 (.cells #[.int .u8 ((40 : Nat) : Int)] 5)))
        have hSl : S.length = 40 := by omega
        clear hT1 hT2 hT hLen
        go_wp2_with (at_builtin; go_loud (refine wpList_app_bs _ rfl _ _ rfl w.heap.size _ [c] rfl hlit _ S rfl HB.out (by simp; omega) hB4.size ?_); intro v5 w5 hb5 hg5; have hB5 := below_app hB4 hlit hg5)
        go_ret
        exact ⟨v5, rfl, hb5, hB5⟩
  · have hS' : Hid (S = (kq v).take 40) := by show _ = _; rw [← hS]; unfold stem stemF; rw [if_neg h45]
    clear hS c56
    unfold V.agg at c55 ⊢
    have e4 : (v.k == 4) = false := by simp; omega
    have e5 : (v.k == 5) = false := by simp; omega
    generalize kq v = P at *
    go_enter Tryz.func16, Tryz.ntmps16
    go_wp2_with (fail)
    refine c55.mono ?_
    rintro e w2 ⟨b2, rfl, hb2, hBx⟩
    obtain ⟨x0, x1, x2, x3, xf⟩ := four_of (blk_on hBx hnew)
    have hB3 := bel_then hbel hBx
    clear hBx h45
    obtain ⟨p, cap, rfl, h1, h2, hT1, hT2⟩ := cut_of hb2 hS'.out
    have hLen : S.length = min P.length 40 := by rw [hS'.out, List.length_take]; omega
    have hlit := bts_lit1 w2 w.heap.size hB3.size c
    have hB4 := hB3.trans ((bel1 w2 (.cells #[.int .u8 (c.toNat : Int)] 5)).mono hB3.size)
    rw [← hcn] at hlit hB4
    clear hb2 hS' hcn
    generalize P.length = N at *
    by_cases hN : N ≤ 40
    · have hT := Lib.hid (hT1 hN)
      have hmin : min (N : Int) 40 = N := by omega
      rw [show S.length = N by omega] at hlit hB4 hl
      have HB := Lib.hid (hT.out.on (bel1 w2 (.cells #[.int .u8 (N : Int)] 5)))
      have hSl : S.length = N := by omega
      clear hT1 hT2 hT hLen
      go_wp2_with (at_builtin; go_loud (refine wpList_app_bs _ rfl _ _ rfl w.heap.size _ [c] rfl hlit _ S rfl HB.out (by simp; omega) hB4.size ?_); intro v5 w5 hb5 hg5; have hB5 := below_app hB4 hlit hg5)
      go_ret
      exact ⟨v5, rfl, hb5, hB5⟩
    · have hT := Lib.hid (hT2 (by omega))
      have hmin : min (N : Int) 40 = 40 := by omega
      rw [show S.length = 40 by omega] at hlit hB4 hl
      have HB := Lib.hid (hT.out.on (bel1 w2 (.cells #[.int .u8 ((40 : Nat) : Int)] 5)))
      have hSl : S.length = 40 := by omega
      clear hT1 hT2 hT hLen
      go_wp2_with (at_builtin; go_loud (refine wpList_app_bs _ rfl _ _ rfl w.heap.size _ [c] rfl hlit _ S rfl HB.out (by simp; omega) hB4.size ?_); intro v5 w5 hb5 hg5; have hB5 := below_app hB4 hlit hg5)
      go_ret
      exact ⟨v5, rfl, hb5, hB5⟩
set_option maxHeartbeats 1000000 in
set_option maxRecDepth 20000 in
theorem rout22 (n : Int) (hn : I64 n) (l : List ByteArray) (sl : Value) (w : World) (hs : Ss w sl l) : Calls Tryz.prog 22 #[.int .i64 n, sl] w (AppR w (outQ n l)) := by
  have c55 := rkV55 n hn
  have c60 := fun W (hB : Below w.heap.size w W) => rfirst60 l sl W (hs.on hB)
  have l1 := kq_len (vEl n)
  have l2 : (firstQ l).length ≤ 300 := by cases l with
    | nil => simp [firstQ]
    | cons s r => exact kq_len _
  have hq : outQ n l = [3] ++ kq (vEl n) ++ firstQ l := rfl
  rw [hq]
  generalize kq (vEl n) = K at *
  generalize firstQ l = F at *
  obtain ⟨p, cap, rfl, -⟩ := hs
  have hlit := bts_lit1 w w.heap.size (Nat.le_refl _) 3
  have hB0 := bel1 w (.cells #[.int .u8 (3 : UInt8).toNat] 5)
  go_enter Tryz.func22, Tryz.ntmps22
  go_wp2_with (first
    | (go_at_call 35; refine (refVertex35 n _).mono ?_; rintro e w1 ⟨rfl, hB1⟩; have hB2 := hB0.trans (hB1.mono hB0.size); have hO : Bts w1 w.heap.size _ [3] := own_bel hlit hB1)
    | (go_at_call 55; refine (c55 _).mono ?_; rintro e w2 ⟨b2, rfl, hb2, hB3⟩; have hB4 := hB2.trans (hB3.mono hB2.size); have hO2 : Bts w2 w.heap.size _ [3] := own_bel hO hB3; have hbs := hb2.bs)
    | (at_builtin; refine wpList_app_bs _ rfl _ _ rfl w.heap.size _ [3] rfl hO2 _ K rfl hbs (by simp; omega) hB4.size ?_; intro v4 w4 hb4 hg4; have hB5 := below_app hB4 hO2 hg4; clear hg4 hO2 hbs)
    | (go_at_call 60; refine (c60 _ hB5).mono ?_; rintro e w5 ⟨b5, rfl, hb5, hB6⟩; have hB7 := hB5.trans (hB6.mono hB5.size); have hO5 : Bts w5 w.heap.size _ ([3] ++ K) := own_bel hb4 hB6; have hbs5 := hb5.bs)
    | (at_builtin; refine wpList_app_bs _ rfl _ _ rfl w.heap.size _ ([3] ++ K) rfl hO5 _ F rfl hbs5 (by simp; omega) hB7.size ?_; intro v6 w6 hb6 hg6; have hB8 := below_app hB7 hO5 hg6; clear hg6))
  go_ret
  exact ⟨v6, rfl, hb6, hB8⟩
set_option maxHeartbeats 1000000 in
set_option maxRecDepth 20000 in
theorem rin24 (n : Int) (hn : I64 n) (l : List ByteArray) (sl : Value) (w : World) (hs : Ss w sl l) : Calls Tryz.prog 24 #[.int .i64 n, sl] w (AppR w (inQ n l)) := by
  have c55 := rkV55 n hn
  have c60 := fun W (hB : Below w.heap.size w W) => rfirst60 l sl W (hs.on hB)
  have l1 := kq_len (vEl n)
  have l2 : (firstQ l).length ≤ 300 := by cases l with
    | nil => simp [firstQ]
    | cons s r => exact kq_len _
  have hq : inQ n l = [4] ++ kq (vEl n) ++ firstQ l := rfl
  rw [hq]
  generalize kq (vEl n) = K at *
  generalize firstQ l = F at *
  obtain ⟨p, cap, rfl, -⟩ := hs
  have hlit := bts_lit1 w w.heap.size (Nat.le_refl _) 4
  have hB0 := bel1 w (.cells #[.int .u8 (4 : UInt8).toNat] 5)
  go_enter Tryz.func24, Tryz.ntmps24
  go_wp2_with (first
    | (go_at_call 35; refine (refVertex35 n _).mono ?_; rintro e w1 ⟨rfl, hB1⟩; have hB2 := hB0.trans (hB1.mono hB0.size); have hO : Bts w1 w.heap.size _ [4] := own_bel hlit hB1)
    | (go_at_call 55; refine (c55 _).mono ?_; rintro e w2 ⟨b2, rfl, hb2, hB3⟩; have hB4 := hB2.trans (hB3.mono hB2.size); have hO2 : Bts w2 w.heap.size _ [4] := own_bel hO hB3; have hbs := hb2.bs)
    | (at_builtin; refine wpList_app_bs _ rfl _ _ rfl w.heap.size _ [4] rfl hO2 _ K rfl hbs (by simp; omega) hB4.size ?_; intro v4 w4 hb4 hg4; have hB5 := below_app hB4 hO2 hg4; clear hg4 hO2 hbs)
    | (go_at_call 60; refine (c60 _ hB5).mono ?_; rintro e w5 ⟨b5, rfl, hb5, hB6⟩; have hB7 := hB5.trans (hB6.mono hB5.size); have hO5 : Bts w5 w.heap.size _ ([4] ++ K) := own_bel hb4 hB6; have hbs5 := hb5.bs)
    | (at_builtin; refine wpList_app_bs _ rfl _ _ rfl w.heap.size _ ([4] ++ K) rfl hO5 _ F rfl hbs5 (by simp; omega) hB7.size ?_; intro v6 w6 hb6 hg6; have hB8 := below_app hB7 hO5 hg6; clear hg6))
  go_ret
  exact ⟨v6, rfl, hb6, hB8⟩
set_option maxHeartbeats 1000000 in
set_option maxRecDepth 20000 in
theorem rlabel26 (k : Int) (l : List ByteArray) (sl : Value) (w : World) (hs : Ss w sl l) : Calls Tryz.prog 26 #[.int .i64 k, sl] w (AppR w (labelQ k l)) := by
  have c60 := fun W (hB : Below w.heap.size w W) => rfirst60 l sl W (hs.on hB)
  have l2 : (firstQ l).length ≤ 300 := by cases l with
    | nil => simp [firstQ]
    | cons s r => exact kq_len _
  have hq : labelQ k l = [5, byteB k] ++ firstQ l := rfl
  rw [hq]
  have hk := byteB_of k
  generalize firstQ l = F at *
  generalize byteB k = B at *
  obtain ⟨p, cap, rfl, -⟩ := hs
  have hlit := bts_lit2 w w.heap.size (Nat.le_refl _) 5 B
  have hB0 := bel1 w (.cells #[.int .u8 (5 : UInt8).toNat, .int .u8 B.toNat] 5)
  go_enter Tryz.func26, Tryz.ntmps26
  go_wp2_with (first
    | (go_at_call 60; refine (c60 _ hB0).mono ?_; rintro e w5 ⟨b5, rfl, hb5, hB6⟩; have hB7 := hB0.trans (hB6.mono hB0.size); have hO5 : Bts w5 w.heap.size _ [5, B] := own_bel hlit hB6; have hbs5 := hb5.bs)
    | (at_builtin; refine wpList_app_bs _ rfl _ _ rfl w.heap.size _ [5, B] rfl hO5 _ F rfl hbs5 (by simp; omega) hB7.size ?_; intro v6 w6 hb6 hg6; have hB8 := below_app hB7 hO5 hg6; clear hg6))
  go_ret
  exact ⟨v6, rfl, hb6, hB8⟩
set_option maxHeartbeats 1000000 in
set_option maxRecDepth 20000 in
/-- The document's Prop: of no value. -/
theorem rprop0_28 (k : Int) (nm : ByteArray) (hn : nm.size ≤ 1048570) (w : World) (p : Option Addr) (cap : Nat) : Calls Tryz.prog 28 #[.int .i64 k, .string nm, .slice p 0 cap] w (AppR w (propK k nm [])) := by
  have hq : propK k nm [] = [6, byteB k] ++ kq (strV nm) := by simp [propK, firstS]
  rw [hq]
  have hk := byteB_of k
  have c62 := rstr62 nm hn
  have l1 := kq_len (strV nm)
  generalize kq (strV nm) = K at *
  generalize byteB k = B at *
  have hlit := bts_lit2 w w.heap.size (Nat.le_refl _) 6 B
  have hB0 := bel1 w (.cells #[.int .u8 (6 : UInt8).toNat, .int .u8 B.toNat] 5)
  go_enter Tryz.func28, Tryz.ntmps28
  go_wp2_with (first
    | (go_at_call 62; refine (c62 _).mono ?_; rintro e w5 ⟨b5, rfl, hb5, hB6⟩; have hB7 := hB0.trans (hB6.mono hB0.size); have hO5 : Bts w5 w.heap.size _ [6, B] := own_bel hlit hB6; have hbs5 := hb5.bs)
    | (at_builtin; refine wpList_app_bs _ rfl _ _ rfl w.heap.size _ [6, B] rfl hO5 _ K rfl hbs5 (by simp; omega) hB7.size ?_; intro v6 w6 hb6 hg6; have hB8 := below_app hB7 hO5 hg6; clear hg6))
  go_ret
  exact ⟨v6, rfl, hb6, hB8⟩
set_option maxHeartbeats 1000000 in
set_option maxRecDepth 20000 in
/-- The document's Prop: of a first value that lies somewhere. -/
theorem rprop1_28 (k : Int) (nm : ByteArray) (hn : nm.size ≤ 1048570) (v : V) (hm : v.many ≤ 1048576) (r : List V) (w : World) (sl : Value) (hs : Sl w 0 (v :: r) sl) : Calls Tryz.prog 28 #[.int .i64 k, .string nm, sl] w (AppR w (propK k nm (v :: r))) := by
  have hq : propK k nm (v :: r) = [6, byteB k] ++ kq (strV nm) ++ sgn v := by simp [propK, firstS]
  rw [hq]
  have hk := byteB_of k
  have c62 := rstr62 nm hn
  have l1 := kq_len (strV nm)
  have l2 := sgn_len v
  obtain ⟨p, cap, rfl, hc, hcm, h56, hx⟩ := hs
  obtain ⟨bx, ox, rfl, -, hx1⟩ := hx.resolve_left (by simp)
  obtain ⟨sk, k0, k1, k2, k3, hin⟩ := hx1.at 0 (by simp)
  simp only [Nat.zero_mul, Nat.add_zero, List.getElem_cons_zero] at k0 k1 k2 k3 hin
  have c16 := fun W h => rsign16 v sk W h hm
  rw [List.length_cons] at *
  generalize r.length = m at *
  generalize kq (strV nm) = K at *
  generalize sgn v = S at *
  generalize byteB k = B at *
  unfold V.agg at c16
  obtain ⟨p1, n1, q1, rfl⟩ := hin.header
  have hlit := bts_lit2 w w.heap.size (Nat.le_refl _) 6 B
  have hB0 := bel1 w (.cells #[.int .u8 (6 : UInt8).toNat, .int .u8 B.toNat] 5)
  unfold maxLen at hcm
  clear hx1 hx h56
  go_enter Tryz.func28, Tryz.ntmps28
  go_wp2_with (first
    | (go_at_call 62; refine (c62 _).mono ?_; rintro e w2 ⟨b2, rfl, hb2, hB2⟩; have hB3 := hB0.trans (hB2.mono hB0.size); have hO2 : Bts w2 w.heap.size _ [6, B] := own_bel hlit hB2; have hbs2 := hb2.bs)
    | (at_builtin; refine wpList_app_bs _ rfl _ _ rfl w.heap.size _ [6, B] rfl hO2 _ K rfl hbs2 (by simp; omega) hB3.size ?_; intro v4 w4 hb4 hg4; have hB4 := below_app hB3 hO2 hg4; clear hg4 hO2 hbs2; have z0 := some_on hB4 k0; have z1 := some_on hB4 k1; have z2 := some_on hB4 k2; have z3 := some_on hB4 k3)
    | (go_at_call 16; refine (c16 _ (hin.on hB4)).mono ?_; rintro e w5 ⟨b5, rfl, hb5, hB5⟩; have hB6 := hB4.trans (hB5.mono hB4.size); have hO5 : Bts w5 w.heap.size v4 ([6, B] ++ K) := own_bel hb4 hB5; have hbs5 := hb5.bs)
    | (at_builtin; refine wpList_app_bs _ rfl _ _ rfl w.heap.size _ ([6, B] ++ K) rfl hO5 _ S rfl hbs5 (by simp; omega) hB6.size ?_; intro v6 w6 hb6 hg6; have hB8 := below_app hB6 hO5 hg6; clear hg6))
  go_ret
  exact ⟨v6, rfl, hb6, hB8⟩
end Go.Proofs.YtbgikgeknnmelaaGreat
