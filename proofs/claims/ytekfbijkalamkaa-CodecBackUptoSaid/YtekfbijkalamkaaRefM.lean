/-
  The document's Take, Values, After and SameAll (rambleref03, rambleref02).
-/
import Derived.Test.YtekfbijkalamkaaRdrE
import Derived.Test.YtekfbijkalamkaaRefL
import Derived.Test.YtekfbijkalamkaaAfter
namespace Go.Proofs.Ytekfbijkalamkaa
open Go.RowKit
set_option linter.unusedVariables false      -- a walk need not use every condition

/-- What checked comes to. -/
def ChkR (v : V) (n : Int) (w : World) (e : Ending) (w' : World) : Prop :=
  (v.may 1 = true ∧ ∃ sl, e = .returned (.tuple #[v.agg sl, .int .i64 n, .int .i64 0]) ∧ v.In w' w.heap.size sl ∧ Below w.heap.size w w') ∨
    (v.may 1 = false ∧ e = .returned (.tuple #[zAgg, .int .i64 0, .int .i64 30]) ∧ Below w.heap.size w w')
set_option maxHeartbeats 1000000 in
set_option maxRecDepth 20000 in
/-- checked, of a value with no list. -/
theorem checked38 (v : V) (n : Int) (w : World) (hin : ∀ (w : World) (lo : Nat), v.In w lo (.slice none 0 0)) : Calls Try.prog 38 #[v.agg (.slice none 0 0), .int .i64 n] w (ChkR v n w) := by
  have c30 := refCheck14 v (.slice none 0 0) _ (hin ((w.alloc (.cells #[.int .i64 v.k, .int .i64 v.n, .string v.s, .slice none 0 0] 31)).alloc (.cells #[.int .i64 0, .int .i64 0, .string ⟨#[]⟩, .slice none 0 0] 31)) 0)
  have hB2 := bel2 w (.cells #[.int .i64 v.k, .int .i64 v.n, .string v.s, .slice none 0 0] 31) (.cells #[.int .i64 0, .int .i64 0, .string ⟨#[]⟩, .slice none 0 0] 31)
  have kb := blk_old (o' := (.cells #[.int .i64 0, .int .i64 0, .string ⟨#[]⟩, .slice none 0 0] 31)) (blk_new w (.cells #[.int .i64 v.k, .int .i64 v.n, .string v.s, .slice none 0 0] 31))
  have kz := blk_new (w.alloc (.cells #[.int .i64 v.k, .int .i64 v.n, .string v.s, .slice none 0 0] 31)) (.cells #[.int .i64 0, .int .i64 0, .string ⟨#[]⟩, .slice none 0 0] 31)
  rw [World.size_alloc] at kz
  obtain ⟨W, hW⟩ : ∃ W, W = (w.alloc (.cells #[.int .i64 v.k, .int .i64 v.n, .string v.s, .slice none 0 0] 31)).alloc (.cells #[.int .i64 0, .int .i64 0, .string ⟨#[]⟩, .slice none 0 0] 31) := ⟨_, rfl⟩
  rw [← hW] at c30 hB2 kb kz
  unfold V.err at c30
  unfold V.agg at c30 ⊢
  cases hm : v.may 1 with
  | true =>
    rw [hm] at c30
    simp only [if_true] at c30
    have hM := Lib.hid hm
    clear hm
    go_enter Try.func38, Try.ntmps38
    go_wp2_with (go_at_call 30; rw [← hW]; refine c30.mono ?_; rintro e w1 ⟨rfl, hB1⟩; obtain ⟨x0, x1, x2, x3, xf⟩ := four_of (blk_on hB1 kb); obtain ⟨y0, y1, y2, y3, yf⟩ := four_of (blk_on hB1 kz))
    have hfin := (bel_then hB2 hB1).trans (below_put4 (g := w.heap.size + 1) (i := 0) (by omega) (.int .i64 v.k) (.int .i64 v.n) (.string v.s) (.slice none 0 0))
    unfold put4 at hfin
    simp [bodyPost, results, Try.results38, go_sem, y0, y1, y2, y3]
    exact .inl ⟨hM.out, _, rfl, hin _ _, hfin⟩
  | false =>
    rw [hm] at c30
    simp only [Bool.false_eq_true, if_false] at c30
    have hM := Lib.hid hm
    clear hm
    go_enter Try.func38, Try.ntmps38
    go_wp2_with (go_at_call 30; rw [← hW]; refine c30.mono ?_; rintro e w1 ⟨rfl, hB1⟩; obtain ⟨x0, x1, x2, x3, xf⟩ := four_of (blk_on hB1 kb); obtain ⟨y0, y1, y2, y3, yf⟩ := four_of (blk_on hB1 kz))
    have hfin := (bel_then hB2 hB1).trans (below_put4 (g := w.heap.size + 1) (i := 0) (by omega) (.int .i64 0) (.int .i64 0) (.string ⟨#[]⟩) (.slice none 0 0))
    unfold put4 at hfin
    simp [bodyPost, results, Try.results38, go_sem, y0, y1, y2, y3]
    exact .inr ⟨hM.out, rfl, hfin⟩
/-- checked's answer as Take's. -/
theorem chkR_take {v : V} {q t : List UInt8} {n : Int} {w : World} {e : Ending} {w' : World} (h : ChkR v n w e w') (hn : n = (t.length : Int) - (q.length : Int)) : TakeR (chk (.ok (v, q))) t w e w' := by
  rcases h with ⟨hm, sl, rfl, hin, hB⟩ | ⟨hm, rfl, hB⟩
  · exact .inl ⟨v, q, sl, chk_ok rfl hm, by rw [hn], hin, hB⟩
  · exact .inr ⟨30, chk_no rfl hm, by decide, rfl, hB⟩
/-- A value is put into the result's cell. -/
theorem TakeR.kept {spec : R V} {t : List UInt8} {W : World} {e : Ending} {w1 : World} (h : TakeR spec t W e w1) : (∃ v q pv nv cv, spec = .ok (v, q) ∧ e = .returned (.tuple #[.agg #[.int .i64 v.k, .int .i64 v.n, .string v.s, .slice pv nv cv], .int .i64 ((t.length : Int) - (q.length : Int)), .int .i64 0]) ∧ v.In w1 W.heap.size (.slice pv nv cv) ∧ Below W.heap.size W w1) ∨
    (∃ n, spec = .error n ∧ n ≠ 0 ∧ e = .returned (.tuple #[.agg #[.int .i64 0, .int .i64 0, .string ⟨#[]⟩, .slice none 0 0], .int .i64 0, .int .i64 n]) ∧ Below W.heap.size W w1) := by
  rcases h with ⟨v, q, sl, h1, h2, h3, h4⟩ | ⟨n, h1, h2, h3, h4⟩
  · obtain ⟨pv, nv, cv, rfl⟩ := h3.header
    exact .inl ⟨v, q, pv, nv, cv, h1, h2, h3, h4⟩
  · exact .inr ⟨n, h1, h2, h3, h4⟩
theorem TakeR.put_ok {spec : R V} {t : List UInt8} {w w1 : World} {v : V} {q : List UInt8} {pv : Option Addr} {nv cv : Nat} (hs : spec = .ok (v, q)) (hin : v.In w1 (w.heap.size + 1) (.slice pv nv cv)) (hB : Below w.heap.size w w1) :
    TakeR spec t w (.returned (.tuple #[.agg #[.int .i64 v.k, .int .i64 v.n, .string v.s, .slice pv nv cv], .int .i64 ((t.length : Int) - (q.length : Int)), .int .i64 0])) (put4 w1 w.heap.size 0 (.int .i64 v.k) (.int .i64 v.n) (.string v.s) (.slice pv nv cv)) := by
  have hin5 := V.In.keep (lo := w.heap.size + 1) (lo' := w.heap.size) (w' := put4 w1 w.heap.size 0 (.int .i64 v.k) (.int .i64 v.n) (.string v.s) (.slice pv nv cv)) (fun a u ha hc => set_other (set_other (set_other (set_other hc (.inl (by omega))) (.inl (by omega))) (.inl (by omega))) (.inl (by omega))) (by omega) v _ hin
  exact .inl ⟨v, q, _, hs, rfl, hin5, hB.trans (below_put4 (g := w.heap.size) (i := 0) (Nat.le_refl _) _ _ _ _)⟩
theorem TakeR.put_no {spec : R V} {t : List UInt8} {w w1 : World} {n : Int} (hs : spec = .error n) (hn : n ≠ 0) (hB : Below w.heap.size w w1) :
    TakeR spec t w (.returned (.tuple #[.agg #[.int .i64 0, .int .i64 0, .string ⟨#[]⟩, .slice none 0 0], .int .i64 0, .int .i64 n])) (put4 w1 w.heap.size 0 (.int .i64 0) (.int .i64 0) (.string ⟨#[]⟩) (.slice none 0 0)) :=
  .inr ⟨n, hs, hn, rfl, hB.trans (below_put4 (g := w.heap.size) (i := 0) (Nat.le_refl _) _ _ _ _)⟩
end Go.Proofs.Ytekfbijkalamkaa
