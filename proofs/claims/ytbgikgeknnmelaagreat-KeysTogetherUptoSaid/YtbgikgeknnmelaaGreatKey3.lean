/-
  Sign, Key, Prop of package keys.
-/
import Derived.Test.YtbgikgeknnmelaaGreatKey2
namespace Go.Proofs.YtbgikgeknnmelaaGreat
open Go.RowKit
set_option linter.unusedVariables false      -- a walk need not use every condition

set_option maxHeartbeats 1000000 in
set_option maxRecDepth 20000 in
theorem sign15 (v : V) (sl : Value) (w : World) (hin : v.In w 0 sl) (hm : v.many ≤ 1048576) : Calls Tryz.prog 15 #[v.agg sl] w (AppR w (sgn v)) := by
  obtain ⟨p1, n1, q1, rfl⟩ := hin.header
  have hbel := bel1 w (.cells #[.int .i64 v.k, .int .i64 v.n, .string v.s, .slice p1 n1 q1] 29)
  have c54 := stem54 v _ _ (hin.on hbel) hm
  have hl := stem_len v
  have hq : sgn v = [UInt8.ofNat (stem v).length] ++ stem v := rfl
  rw [hq]
  generalize stem v = S at *
  obtain ⟨c, hc⟩ : ∃ c : UInt8, UInt8.ofNat S.length = c := ⟨_, rfl⟩
  have hcn : (S.length : Int) = (c.toNat : Int) := by rw [← hc, toNat_of (by omega)]
  rw [hc]
  unfold V.agg at c54 ⊢
  clear hc hq
  go_enter Tryz.func15, Tryz.ntmps15
  go_wp2_with (fail)
  refine c54.mono ?_
  rintro e w1 ⟨b, rfl, hb, hB1⟩
  have hB2 := bel_then hbel hB1
  obtain ⟨p, cap, rfl, h1, h2⟩ := hb.slice
  have hlit := bts_lit1 w1 w.heap.size hB2.size c
  rw [← hcn] at hlit
  clear hcn
  have hB3 := hB2.trans ((bel1 w1 (.cells #[.int .u8 S.length] 5)).mono hB2.size)
  have hb2 := hb.on (bel1 w1 (.cells #[.int .u8 S.length] 5))
  have HB := Lib.hid hb2
  go_wp2_with (at_builtin; refine wpList_app_bs _ rfl _ _ rfl w.heap.size _ [c] rfl hlit _ S rfl HB.out (by simp; omega) hB3.size ?_; intro v3 w3 hb3 hg3; have hB4 := below_app hB3 hlit hg3)
  go_ret
  exact ⟨v3, rfl, hb3, hB4⟩

set_option maxHeartbeats 1000000 in
set_option maxRecDepth 20000 in
theorem key19 (v : V) (sl : Value) (w : World) (hin : v.In w 0 sl) (hm : v.many ≤ 1048576) : Calls Tryz.prog 19 #[v.agg sl] w (AppR w (keyQ v)) := by
  obtain ⟨p1, n1, q1, rfl⟩ := hin.header
  have c57 := fun u h => check_any v (.slice p1 n1 q1) u h
  have c51 := fun W b t g hg hB hb ht => putNew51 v (.slice p1 n1 q1) w W b t g hg hin hm hB hb ht
  unfold V.err at c57
  have hbel := bel1 w (.cells #[.int .i64 v.k, .int .i64 v.n, .string v.s, .slice p1 n1 q1] 29)
  have hnew := blk_new w (.cells #[.int .i64 v.k, .int .i64 v.n, .string v.s, .slice p1 n1 q1] 29)
  have hin1 := hin.on hbel
  unfold V.agg at c57 ⊢
  cases hmay : v.may 1 with
  | false =>
    have e0 : keyQ v = [] := by unfold keyQ; rw [hmay]; rfl
    rw [e0]
    rw [hmay] at c57
    simp only [Bool.false_eq_true, if_false] at c57
    go_enter Tryz.func19, Tryz.ntmps19
    go_wp2_with (first
      | (go_at_call 57; refine (c57 _ hin1).mono ?_; rintro e w2 ⟨rfl, hB2⟩))
    go_ret
    exact ⟨_, rfl, World.ownsRow_nil _ _ _ _, bel_then hbel hB2⟩
  | true =>
    rw [hmay] at c57
    simp only [if_true] at c57
    have hkq : keyQ v = if v.k = 6 then [1] ++ kq v else if v.k = 7 then [2] ++ kq v else [] := by unfold keyQ; rw [if_pos hmay]; rfl
    rw [hkq]
    generalize kq v = K at *
    clear hmay hkq
    by_cases h6 : v.k = 6
    · rw [if_pos h6]
      have e6 : (v.k == 6) = true := by simp [h6]
      clear h6
      go_enter Tryz.func19, Tryz.ntmps19
      go_wp2_with (first
        | (go_at_call 57; go_loud (refine (c57 _ hin1).mono ?_; rintro e w2 ⟨rfl, hB2⟩; obtain ⟨x0, x1, x2, x3, xf⟩ := four_of (blk_on hB2 hnew); have hB3 := bel_then hbel hB2; obtain ⟨y0, y1, y2, y3, yf⟩ := four_of (blk_old (o' := .cells #[.int .u8 1] 5) (blk_on hB2 hnew)); have hlit := bts_lit1 w2 w.heap.size hB3.size 1; have hB4 := hB3.trans ((bel1 w2 (.cells #[.int .u8 (1 : UInt8).toNat] 5)).mono hB3.size)))
        | (go_at_call 51; go_loud (refine (c51 _ _ _ _ (by simp) hB4 hlit (by simp)).mono ?_; rintro e w3 ⟨b3, rfl, hb3, hB5⟩)))
      go_ret
      exact ⟨b3, rfl, hb3, hB5⟩
    · rw [if_neg h6]
      have e6 : (v.k == 6) = false := by simp [h6]
      by_cases h7 : v.k = 7
      · rw [if_pos h7]
        have e7 : (v.k == 7) = true := by simp [h7]
        clear h6 h7
        go_enter Tryz.func19, Tryz.ntmps19
        go_wp2_with (first
          | (go_at_call 57; go_loud (refine (c57 _ hin1).mono ?_; rintro e w2 ⟨rfl, hB2⟩; obtain ⟨x0, x1, x2, x3, xf⟩ := four_of (blk_on hB2 hnew); have hB3 := bel_then hbel hB2; obtain ⟨y0, y1, y2, y3, yf⟩ := four_of (blk_old (o' := .cells #[.int .u8 2] 5) (blk_on hB2 hnew)); have hlit := bts_lit1 w2 w.heap.size hB3.size 2; have hB4 := hB3.trans ((bel1 w2 (.cells #[.int .u8 (2 : UInt8).toNat] 5)).mono hB3.size)))
          | (go_at_call 51; go_loud (refine (c51 _ _ _ _ (by simp) hB4 hlit (by simp)).mono ?_; rintro e w3 ⟨b3, rfl, hb3, hB5⟩)))
        go_ret
        exact ⟨b3, rfl, hb3, hB5⟩
      · rw [if_neg h7]
        have e7 : (v.k == 7) = false := by simp [h7]
        clear h6 h7
        go_enter Tryz.func19, Tryz.ntmps19
        go_wp2_with (first
          | (go_at_call 57; refine (c57 _ hin1).mono ?_; rintro e w2 ⟨rfl, hB2⟩; obtain ⟨x0, x1, x2, x3, xf⟩ := four_of (blk_on hB2 hnew)))
        go_ret
        exact ⟨_, rfl, World.ownsRow_nil _ _ _ _, bel_then hbel hB2⟩
set_option maxHeartbeats 1000000 in
set_option maxRecDepth 20000 in
/-- Prop: of no value. -/
theorem prop0_27 (k : Int) (nm : ByteArray) (hn : nm.size ≤ 1048570) (w : World) (p : Option Addr) (cap : Nat) : Calls Tryz.prog 27 #[.int .i64 k, .string nm, .slice p 0 cap] w (AppR w (propK k nm [])) := by
  have hq : propK k nm [] = [6, byteB k] ++ kq (strV nm) := by simp [propK, firstS]
  rw [hq]
  have hk := byteB_of k
  have c51 := fun W b t g hg hB hb ht => putS51 nm hn w W b t g hg hB hb ht
  generalize kq (strV nm) = K at *
  generalize byteB k = B at *
  have hlit := bts_lit2 w w.heap.size (Nat.le_refl _) 6 B
  have hB0 := bel1 w (.cells #[.int .u8 (6 : UInt8).toNat, .int .u8 B.toNat] 5)
  go_enter Tryz.func27, Tryz.ntmps27
  go_wp2_with (first
    | (go_at_call 61; refine (str61 nm _).mono ?_; rintro e w1 ⟨rfl, hB1⟩; have hB2 := hB0.trans (hB1.mono hB0.size); have hO : Bts w1 w.heap.size _ [6, B] := own_bel hlit hB1)
    | (go_at_call 51; refine (c51 _ _ _ _ (by simp) hB2 hO (by simp)).mono ?_; rintro e w2 ⟨b2, rfl, hb2, hB3⟩))
  go_ret
  exact ⟨b2, rfl, hb2, hB3⟩
set_option maxHeartbeats 1000000 in
set_option maxRecDepth 20000 in
/-- Prop: of a first value that lies somewhere. -/
theorem prop1_27 (k : Int) (nm : ByteArray) (hn : nm.size ≤ 1048570) (v : V) (hm : v.many ≤ 1048576) (r : List V) (w : World) (sl : Value) (hs : Sl w 0 (v :: r) sl) : Calls Tryz.prog 27 #[.int .i64 k, .string nm, sl] w (AppR w (propK k nm (v :: r))) := by
  have hq : propK k nm (v :: r) = [6, byteB k] ++ kq (strV nm) ++ sgn v := by simp [propK, firstS]
  rw [hq]
  have hk := byteB_of k
  have c51 := fun W b t g hg hB hb ht => putS51 nm hn w W b t g hg hB hb ht
  have l1 := kq_len (strV nm)
  have l2 := sgn_len v
  obtain ⟨p, cap, rfl, hc, hcm, h56, hx⟩ := hs
  obtain ⟨bx, ox, rfl, -, hx1⟩ := hx.resolve_left (by simp)
  obtain ⟨sk, k0, k1, k2, k3, hin⟩ := hx1.at 0 (by simp)
  simp only [Nat.zero_mul, Nat.add_zero, List.getElem_cons_zero] at k0 k1 k2 k3 hin
  have c15 := fun W h => sign15 v sk W h hm
  rw [List.length_cons] at *
  generalize r.length = m at *
  generalize kq (strV nm) = K at *
  generalize sgn v = S at *
  generalize byteB k = B at *
  unfold V.agg at c15
  obtain ⟨p1, n1, q1, rfl⟩ := hin.header
  have hlit := bts_lit2 w w.heap.size (Nat.le_refl _) 6 B
  have hB0 := bel1 w (.cells #[.int .u8 (6 : UInt8).toNat, .int .u8 B.toNat] 5)
  unfold maxLen at hcm
  clear hx1 hx h56
  go_enter Tryz.func27, Tryz.ntmps27
  go_wp2_with (first
    | (go_at_call 61; refine (str61 nm _).mono ?_; rintro e w1 ⟨rfl, hB1⟩; have hB2 := hB0.trans (hB1.mono hB0.size); have hO : Bts w1 w.heap.size _ [6, B] := own_bel hlit hB1)
    | (go_at_call 51; refine (c51 _ _ _ _ (by simp) hB2 hO (by simp)).mono ?_; rintro e w2 ⟨b2, rfl, hb2, hB3⟩; have z0 := some_on hB3 k0; have z1 := some_on hB3 k1; have z2 := some_on hB3 k2; have z3 := some_on hB3 k3)
    | (go_at_call 15; refine (c15 _ (hin.on hB3)).mono ?_; rintro e w3 ⟨b3, rfl, hb3, hB4⟩; have hB5 := hB3.trans (hB4.mono hB3.size); have hO5 : Bts w3 w.heap.size b2 ([6, B] ++ K) := own_bel hb2 hB4; have hbs := hb3.bs)
    | (at_builtin; refine wpList_app_bs _ rfl _ _ rfl w.heap.size _ _ rfl hO5 _ S rfl hbs (by simp; omega) hB5.size ?_; intro v4 w4 hb4 hg4; have hB6 := below_app hB5 hO5 hg4; clear hg4))
  go_ret
  exact ⟨v4, rfl, hb4, hB6⟩
end Go.Proofs.YtbgikgeknnmelaaGreat
