/-
  The document's keys (rambleref11): k, str, first, Key, Sign.
-/
import Derived.Test.YtbgikgeknnmelaaGreatRpt
import Derived.Test.YtbgikgeknnmelaaGreatKey3
import Derived.Test.YtbgikgeknnmelaaGreatBgn
namespace Go.Proofs.YtbgikgeknnmelaaGreat
open Go.RowKit
set_option linter.unusedVariables false      -- a walk need not use every condition

/-- The document's Key of one value. -/
theorem rkeyOne79 (v : V) (sl : Value) (W : World) (g : Nat) (hg : W.heap.size = g) (h : v.In W 0 sl) (hm : v.many ≤ 1048576) :
    Calls Tryz.prog 79 #[.slice (some ⟨g, 0, none⟩) 1 1] (W.alloc (.cells #[.int .i64 v.k, .int .i64 v.n, .string v.s, sl] 29)) fun e w' => ∃ b n, e = .returned (.tuple #[b, .int .i64 n]) ∧ Bts w' W.heap.size b (kq v) ∧ Below W.heap.size W w' := by
  subst hg
  have hk := keyL_one v
  refine (refKey79 [v] _ _ (sl_one W v sl h) (by omega)).mono ?_
  rintro e w' ⟨b, rfl, hb, hB⟩
  exact ⟨b, _, rfl, hb.mono (by simp), bel_then (bel1 W _) hB⟩
set_option maxHeartbeats 1000000 in
set_option maxRecDepth 20000 in
theorem rk55 (v : V) (sl : Value) (w : World) (hin : v.In w 0 sl) (hm : v.many ≤ 1048576) : Calls Tryz.prog 55 #[v.agg sl] w (AppR w (kq v)) := by
  obtain ⟨p1, n1, q1, rfl⟩ := hin.header
  have hbel := bel1 w (.cells #[.int .i64 v.k, .int .i64 v.n, .string v.s, .slice p1 n1 q1] 29)
  have c79 := fun g hg => rkeyOne79 v _ _ g hg (hin.on hbel) hm
  generalize kq v = K at *
  unfold V.agg
  go_enter Tryz.func55, Tryz.ntmps55
  go_wp2_with (go_at_call 79; go_loud (refine (c79 _ (by simp)).mono ?_; rintro e w1 ⟨b1, n, rfl, hb, hB⟩))
  go_ret
  exact ⟨b1, rfl, hb.mono (by simp), bel_then hbel hB⟩
theorem rkS55 (s : ByteArray) (hs : s.size ≤ 1048570) (w : World) : Calls Tryz.prog 55 #[.agg #[.int .i64 2, .int .i64 0, .string s, .slice none 0 0]] w (AppR w (kq (strV s))) := by
  have h := rk55 (strV s) (.slice none 0 0) w (in_plain (by unfold I64; omega) (by unfold I64; omega) (by omega) w 0) (by simp [strV, V.many, manyL]; omega)
  exact h
theorem rkV55 (n : Int) (hn : I64 n) (w : World) : Calls Tryz.prog 55 #[.agg #[.int .i64 6, .int .i64 n, .string ⟨#[]⟩, .slice none 0 0]] w (AppR w (kq (vEl n))) := by
  have h := rk55 (vEl n) (.slice none 0 0) w (in_plain (by unfold I64; omega) hn (by decide) w 0) (by simp [vEl, V.many, manyL]; exact Nat.zero_le _)
  exact h
set_option maxHeartbeats 400000 in
theorem rstr83 (s : ByteArray) (w : World) : Calls Tryz.prog 83 #[.string s] w fun e w' => e = .returned (.agg #[.int .i64 2, .int .i64 0, .string s, .slice none 0 0]) ∧ Below w.heap.size w w' := by
  go_enter Tryz.func83, Tryz.ntmps83
  go_wp2
  simp [bodyPost, results, Tryz.results83, go_sem]
  exact bel1 w _
set_option maxHeartbeats 400000 in
theorem rstr62 (s : ByteArray) (hs : s.size ≤ 1048570) (w : World) : Calls Tryz.prog 62 #[.string s] w (AppR w (kq (strV s))) := by
  have c55 := rkS55 s hs
  generalize kq (strV s) = K at *
  go_enter Tryz.func62, Tryz.ntmps62
  go_wp2_with (first
    | (go_at_call 83; refine (rstr83 s _).mono ?_; rintro e w1 ⟨rfl, hB1⟩)
    | (go_at_call 55; refine (c55 _).mono ?_; rintro e w2 ⟨b2, rfl, hb2, hB2⟩))
  go_ret
  exact ⟨b2, rfl, hb2.mono hB1.size, bel_then hB1 hB2⟩
set_option maxHeartbeats 1000000 in
set_option maxRecDepth 20000 in
theorem rfirst60 (l : List ByteArray) (sl : Value) (w : World) (hs : Ss w sl l) : Calls Tryz.prog 60 #[sl] w (AppR w (firstQ l)) := by
  obtain ⟨p, cap, rfl, h1, h2, h3, h4⟩ := hs
  cases l with
  | nil =>
    go_enter Tryz.func60, Tryz.ntmps60
    go_wp2
    go_ret
    exact ⟨_, rfl, World.ownsRow_nil _ _ _ _, Below.refl _ _⟩
  | cons s r =>
    obtain ⟨g, o, rfl, hc⟩ := h4.resolve_left (by simp)
    have c0 := hc 0 (by simp)
    have hs0 := h3 s (by simp)
    simp only [Nat.add_zero, List.getElem_cons_zero] at c0
    rw [List.length_cons] at *
    generalize r.length = m at *
    unfold maxLen at h2
    have e0 : firstQ (s :: r) = kq (strV s) := rfl
    rw [e0]
    have c62 := rstr62 s hs0
    generalize kq (strV s) = K at *
    clear e0 hc h4 h3
    go_enter Tryz.func60, Tryz.ntmps60
    go_wp2_with (go_at_call 62; refine (c62 _).mono ?_; rintro e w1 ⟨b1, rfl, hb1, hB1⟩)
    go_ret
    exact ⟨b1, rfl, hb1, hB1⟩
set_option maxHeartbeats 1000000 in
set_option maxRecDepth 20000 in
theorem rkey20 (v : V) (sl : Value) (w : World) (hin : v.In w 0 sl) (hm : v.many ≤ 1048576) : Calls Tryz.prog 20 #[v.agg sl] w (AppR w (keyQ v)) := by
  obtain ⟨p1, n1, q1, rfl⟩ := hin.header
  have c58 := fun u h => refCheck14 v (.slice p1 n1 q1) u h
  have c55 := fun W h => rk55 v (.slice p1 n1 q1) W h hm
  have hl := kq_len v
  unfold V.err at c58
  have hbel := bel1 w (.cells #[.int .i64 v.k, .int .i64 v.n, .string v.s, .slice p1 n1 q1] 29)
  have hnew := blk_new w (.cells #[.int .i64 v.k, .int .i64 v.n, .string v.s, .slice p1 n1 q1] 29)
  have hin1 := hin.on hbel
  unfold V.agg at c58 c55 ⊢
  cases hmay : v.may 1 with
  | false =>
    have e0 : keyQ v = [] := by unfold keyQ; rw [hmay]; rfl
    rw [e0]
    rw [hmay] at c58
    simp only [Bool.false_eq_true, if_false] at c58
    go_enter Tryz.func20, Tryz.ntmps20
    go_wp2_with (go_at_call 58; refine (c58 _ hin1).mono ?_; rintro e w2 ⟨rfl, hB2⟩)
    go_ret
    exact ⟨_, rfl, World.ownsRow_nil _ _ _ _, bel_then hbel hB2⟩
  | true =>
    rw [hmay] at c58
    simp only [if_true] at c58
    have hkq : keyQ v = if v.k = 6 then [1] ++ kq v else if v.k = 7 then [2] ++ kq v else [] := by unfold keyQ; rw [if_pos hmay]; rfl
    rw [hkq]
    generalize kq v = K at *
    clear hmay hkq
    by_cases h6 : v.k = 6
    · rw [if_pos h6]
      have e6 : (v.k == 6) = true := by simp [h6]
      clear h6
      go_enter Tryz.func20, Tryz.ntmps20
      go_wp2_with (first
        | (go_at_call 58; go_loud (refine (c58 _ hin1).mono ?_; rintro e w2 ⟨rfl, hB2⟩; obtain ⟨x0, x1, x2, x3, xf⟩ := four_of (blk_on hB2 hnew); have hB3 := bel_then hbel hB2; obtain ⟨y0, y1, y2, y3, yf⟩ := four_of (blk_old (o' := .cells #[.int .u8 1] 5) (blk_on hB2 hnew)); have hlit := bts_lit1 w2 w.heap.size hB3.size 1; have hB4 := hB3.trans ((bel1 w2 (.cells #[.int .u8 (1 : UInt8).toNat] 5)).mono hB3.size)))
        | (go_at_call 55; go_loud (refine (c55 _ (hin.on hB4)).mono ?_; rintro e w3 ⟨b3, rfl, hb3, hB5⟩; have hB6 := hB4.trans (hB5.mono hB4.size); have hO : Bts w3 w.heap.size _ [1] := own_bel hlit hB5; have hbs := hb3.bs))
        | (at_builtin; refine wpList_app_bs _ rfl _ _ rfl w.heap.size _ _ rfl hO _ K rfl hbs (by simp; omega) hB6.size ?_; intro v4 w4 hb4 hg4; have hB7 := below_app hB6 hO hg4; clear hg4))
      go_ret
      exact ⟨v4, rfl, hb4, hB7⟩
    · rw [if_neg h6]
      have e6 : (v.k == 6) = false := by simp [h6]
      by_cases h7 : v.k = 7
      · rw [if_pos h7]
        have e7 : (v.k == 7) = true := by simp [h7]
        clear h6 h7
        go_enter Tryz.func20, Tryz.ntmps20
        go_wp2_with (first
          | (go_at_call 58; go_loud (refine (c58 _ hin1).mono ?_; rintro e w2 ⟨rfl, hB2⟩; obtain ⟨x0, x1, x2, x3, xf⟩ := four_of (blk_on hB2 hnew); have hB3 := bel_then hbel hB2; obtain ⟨y0, y1, y2, y3, yf⟩ := four_of (blk_old (o' := .cells #[.int .u8 2] 5) (blk_on hB2 hnew)); have hlit := bts_lit1 w2 w.heap.size hB3.size 2; have hB4 := hB3.trans ((bel1 w2 (.cells #[.int .u8 (2 : UInt8).toNat] 5)).mono hB3.size)))
          | (go_at_call 55; go_loud (refine (c55 _ (hin.on hB4)).mono ?_; rintro e w3 ⟨b3, rfl, hb3, hB5⟩; have hB6 := hB4.trans (hB5.mono hB4.size); have hO : Bts w3 w.heap.size _ [2] := own_bel hlit hB5; have hbs := hb3.bs))
          | (at_builtin; refine wpList_app_bs _ rfl _ _ rfl w.heap.size _ _ rfl hO _ K rfl hbs (by simp; omega) hB6.size ?_; intro v4 w4 hb4 hg4; have hB7 := below_app hB6 hO hg4; clear hg4))
        go_ret
        exact ⟨v4, rfl, hb4, hB7⟩
      · rw [if_neg h7]
        have e7 : (v.k == 7) = false := by simp [h7]
        clear h6 h7
        go_enter Tryz.func20, Tryz.ntmps20
        go_wp2_with (go_at_call 58; refine (c58 _ hin1).mono ?_; rintro e w2 ⟨rfl, hB2⟩; obtain ⟨x0, x1, x2, x3, xf⟩ := four_of (blk_on hB2 hnew))
        go_ret
        exact ⟨_, rfl, World.ownsRow_nil _ _ _ _, bel_then hbel hB2⟩
end Go.Proofs.YtbgikgeknnmelaaGreat
