/-
  The walk of CodecKeys.
-/
import Derived.Test.YtekfbijkalamkaaRefQ
namespace Go.Proofs.Ytekfbijkalamkaa
open Go.RowKit
set_option linter.unusedVariables false      -- a walk need not use every condition

/-- Take's three answers. -/
def takeV : R V → V | .ok (v, _) => v | .error _ => .mk 0 0 ⟨#[]⟩ []
def takeN (t : List UInt8) : R V → Int | .ok (_, q) => (t.length : Int) - (q.length : Int) | .error _ => 0
def takeE : R V → Int | .ok _ => 0 | .error n => n
theorem TakeR.one {spec : R V} {t : List UInt8} {w : World} {e : Ending} {w' : World} (h : TakeR spec t w e w') :
    ∃ p n c, e = .returned (.tuple #[.agg #[.int .i64 (takeV spec).k, .int .i64 (takeV spec).n, .string (takeV spec).s, .slice p n c], .int .i64 (takeN t spec), .int .i64 (takeE spec)]) ∧ (takeV spec).In w' 0 (.slice p n c) ∧ Below w.heap.size w w' := by
  rcases h with ⟨v, q, sl, rfl, rfl, h1, h2⟩ | ⟨n, rfl, -, rfl, h2⟩
  · obtain ⟨p, n, c, rfl⟩ := h1.header
    exact ⟨p, n, c, rfl, h1.low (Nat.zero_le _), h2⟩
  · exact ⟨none, 0, 0, rfl, in_plain (by unfold I64; omega) (by unfold I64; omega) (Nat.zero_le _) _ _, h2⟩
/-- The two of Values. -/
def valsL (t : List UInt8) : List V := match pValues t.length t with | .ok l => l | .error _ => []
def valsE (t : List UInt8) : Int := match pValues t.length t with | .ok _ => 0 | .error n => n
theorem ValsR.one {t : List UInt8} {w : World} {e : Ending} {w' : World} (h : ValsR t w e w') : ∃ sl, e = .returned (.tuple #[sl, .int .i64 (valsE t)]) ∧ Sl w' 0 (valsL t) sl ∧ Below w.heap.size w w' := by
  unfold valsE valsL
  rcases h with ⟨l, sl, h0, rfl, h1, h2⟩ | ⟨n, h0, -, rfl, h2⟩
  · rw [h0]; exact ⟨sl, rfl, h1.keep (fun _ _ _ h => h) (Nat.zero_le _), h2⟩
  · rw [h0]; exact ⟨_, rfl, ⟨none, 0, rfl, Nat.le_refl _, by unfold maxLen; omega, by simp, .inl rfl⟩, h2⟩
/-- The two of After. -/
theorem AfterR.one {t : List UInt8} {w : World} {e : Ending} {w' : World} (h : AfterR t w e w') : ∃ v, e = .returned (.tuple #[v, .bool (aft t).isSome]) ∧ Bs w' v ((aft t).getD []) ∧ Below w.heap.size w w' := by
  rcases h with ⟨h0, rfl, h2⟩ | ⟨a, v, h0, rfl, h1, h2⟩
  · rw [h0]; exact ⟨_, rfl, bs_nil _, h2⟩
  · rw [h0]; exact ⟨_, rfl, h1.bs, h2⟩
theorem same_bytes (t : List UInt8) : (t == t) = true := by simp
set_option maxHeartbeats 2000000 in
set_option maxRecDepth 20000 in
theorem keys3 (l : List V) (sl b : Value) (t : List UInt8) (w : World) (hl : Sl w 0 l sl) (hb : Bs w b t) (kl : (keyL l).length ≤ 140737488355328) (ht : t.length ≤ 1073741824) :
    Calls Try.prog 3 #[sl, b] w fun e w' => e = .returned (.bool true) ∧ Below w.heap.size w w' := by
  have c8 := key8 l sl w hl kl
  have c9 := fun w' (hB : Below w.heap.size w w') => refKey9 l sl w' (hl.on hB) kl
  have c10 := fun w => begun10 w
  have c12 := fun w' (hB : Below w.heap.size w w') => take12 w' b t (hb.on hB) (by omega)
  have c13 := fun w' (hB : Below w.heap.size w w') => refTake13 w' b t (hb.on hB) (by omega)
  have c15 := fun w' (hB : Below w.heap.size w w') => values15 w' b t (hb.on hB) (by omega)
  have c16 := fun w' (hB : Below w.heap.size w w') => refValues16 w' b t (hb.on hB) (by omega)
  have c17 := fun w' (hB : Below w.heap.size w w') => after17 w' b t (hb.on hB) (by omega)
  have c18 := fun w' (hB : Below w.heap.size w w') => refAfter18 w' b t (hb.on hB) (by omega)
  unfold KeyR at c8 c9
  generalize bads l = A at *
  generalize (if A = 0 then keyL l else []) = K at *
  generalize pTake t = S at *
  obtain ⟨p, cap, rfl, -⟩ := hl
  obtain ⟨p', cap', rfl, -, -⟩ := hb.slice
  clear hb kl ht
  have tk : True := trivial
  go_enter Try.func3, Try.ntmps3
  go_wp2_with (first
    | (go_at_call 8; refine c8.mono ?_; rintro e w1 ⟨b1, rfl, hb1, hB1⟩)
    | (go_at_call 9; refine (c9 _ hB1).mono ?_; rintro e w2 ⟨b2, rfl, hb2, hB2⟩; have hB2' := bel_then hB1 hB2)
    | (go_at_call 10; refine (c10 _).mono ?_; rintro e w3 ⟨rfl, hB3⟩; have hB3' := bel_then hB2' hB3; have c11 := equal11 w3 _ _ _ _ ((hb1.bs.on hB2).on hB3) (hb2.bs.on hB3); rw [same_bytes] at c11; clear hb1 hb2)
    | (go_at_call 11; clear tk; refine c11.mono ?_; rintro e w' ⟨rfl, rfl⟩; clear c11)
    | (go_at_call 12; refine (c12 _ hB3').mono ?_; rintro e w4 hrr; obtain ⟨p1, n1, q1, rfl, hi1, hB4⟩ := hrr.one; clear hrr; have hB4' := bel_then hB3' hB4; have hz1 := bel1 w4 (.cells #[.int .i64 (takeV S).k, .int .i64 (takeV S).n, .string (takeV S).s, .slice p1 n1 q1] 31); have kz1 := blk_new w4 (.cells #[.int .i64 (takeV S).k, .int .i64 (takeV S).n, .string (takeV S).s, .slice p1 n1 q1] 31); have hi1' := hi1.on hz1; have hB4a := bel_then hB4' hz1)
    | (go_at_call 13; refine (c13 _ hB4a).mono ?_; rintro e w5 hrr; obtain ⟨p2, n2, q2, rfl, hi2, hB5⟩ := hrr.one; clear hrr; have hB5' := bel_then hB4a hB5; have hz2 := bel1 w5 (.cells #[.int .i64 (takeV S).k, .int .i64 (takeV S).n, .string (takeV S).s, .slice p2 n2 q2] 31); have kz2 := blk_new w5 (.cells #[.int .i64 (takeV S).k, .int .i64 (takeV S).n, .string (takeV S).s, .slice p2 n2 q2] 31); have hi2' := hi2.on hz2; have hi3 := (hi1'.on hB5).on hz2; have hB5a := bel_then hB5' hz2; obtain ⟨x0, x1, x2, x3, xf⟩ := four_of (blk_on hz2 (blk_on hB5 kz1)); obtain ⟨y0, y1, y2, y3, yf⟩ := four_of kz2; have c14 := refSame_any (takeV S) (takeV S) _ _ _ hi3 hi2'; rw [show (V.cmp (takeV S) (takeV S) == 0) = true by rw [cmp_self]; rfl] at c14; unfold V.agg at c14; clear hi1 hi2 hi1' hi2' hi3 kz1 kz2)
    | (go_at_call 14; refine c14.mono ?_; rintro e w6 ⟨rfl, hB6⟩; have hB6' := bel_then hB5a hB6; clear c14)
    | (go_at_call 15; refine (c15 _ hB6').mono ?_; rintro e w7 hrr; obtain ⟨s7, rfl, hs7, hB7⟩ := hrr.one; clear hrr; have hB7' := bel_then hB6' hB7)
    | (go_at_call 16; refine (c16 _ hB7').mono ?_; rintro e w8 hrr; obtain ⟨s8, rfl, hs8, hB8⟩ := hrr.one; clear hrr; have hB8' := bel_then hB7' hB8; have hs7 := hs7.on hB8)
    | (go_at_call 17; refine (c17 _ hB8').mono ?_; rintro e w9 hrr; obtain ⟨s9, rfl, hs9, hB9⟩ := hrr.one; clear hrr; have hB9' := bel_then hB8' hB9; have hs7 := hs7.on hB9; have hs8 := hs8.on hB9)
    | (go_at_call 18; refine (c18 _ hB9').mono ?_; rintro e w10 hrr; obtain ⟨s10, rfl, hs10, hB10⟩ := hrr.one; clear hrr; have hB10' := bel_then hB9' hB10; have hs9 := hs9.on hB10; have c19 := refSameAll19 _ _ _ _ (hs7.on hB10) (hs8.on hB10); clear hs7 hs8)
    | (go_at_call 19; refine c19.mono ?_; rintro e w11 ⟨rfl, hB11⟩; have hB11' := bel_then hB10' hB11; have c11 := equal11 w11 _ _ _ _ (hs9.on hB11) (hs10.on hB11); rw [same_bytes] at c11)
    | (go_at_call 11; refine c11.mono ?_; rintro e w' ⟨rfl, rfl⟩))
  go_ret
  exact ⟨by simp, hB11'⟩
end Go.Proofs.Ytekfbijkalamkaa
