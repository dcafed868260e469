/-
  first of package codec, with either way of reading; Take.
-/
import Derived.Test.YtbgikgeknnmelaaGreatRdrC
namespace Go.Proofs.YtbgikgeknnmelaaGreat
open Go.RowKit
set_option linter.unusedVariables false      -- a walk need not use every condition

def zAgg : Value := .agg #[.int .i64 0, .int .i64 0, .string ⟨#[]⟩, .slice none 0 0]
/-- What first comes to. -/
def TakeR (spec : R V) (t : List UInt8) (w : World) (e : Ending) (w' : World) : Prop :=
  (∃ v q sl, spec = .ok (v, q) ∧ e = .returned (.tuple #[v.agg sl, .int .i64 ((t.length : Int) - (q.length : Int)), .int .i64 0]) ∧ v.In w' w.heap.size sl ∧ Below w.heap.size w w') ∨
    (∃ n, spec = .error n ∧ n ≠ 0 ∧ e = .returned (.tuple #[zAgg, .int .i64 0, .int .i64 n]) ∧ Below w.heap.size w w')
theorem chk_ok {x : R V} {v : V} {q : List UInt8} (h : x = .ok (v, q)) (hm : v.may 1 = true) : chk x = .ok (v, q) := by unfold chk; rw [h, thn_ok, if_pos hm]
theorem chk_no {x : R V} {v : V} {q : List UInt8} (h : x = .ok (v, q)) (hm : v.may 1 = false) : chk x = .error 30 := by unfold chk; rw [h, thn_ok, if_neg (by rw [hm]; decide)]
theorem chk_err {x : R V} {n : Int} (h : x = .error n) : chk x = .error n := by unfold chk; rw [h, thn_err]
theorem bel_grown {w w1 w2 : World} {r : Nat} (h : Below w.heap.size w w1) (hg : w1.grownBy w2 (some r)) (hr : w.heap.size ≤ r) : Below w.heap.size w w2 := h.grown hg h.size fun k e => by injection e with e; omega
theorem readR_ok {v : V} {q : List UInt8} {r : Nat} {w : World} {e : Ending} {w' : World} (h : ReadR (.ok (v, q)) r w e w') : ∃ sl, e = .returned (.tuple #[v.agg sl, .int .i64 0]) ∧ v.In w' w.heap.size sl ∧ Rq r q w w' := by
  rcases h with ⟨v', q', sl, h1, h2⟩ | ⟨n, a, b, s, p, c, d, h1, -⟩
  · injection h1 with h1; injection h1 with h1 h3
    subst h1 h3
    exact ⟨sl, h2⟩
  · cases h1
theorem readR_err {n : Int} {r : Nat} {w : World} {e : Ending} {w' : World} (h : ReadR (.error n) r w e w') : n ≠ 0 ∧ ∃ a b s p c d, e = .returned (.tuple #[.agg #[.int .i64 a, .int .i64 b, .string s, .slice p c d], .int .i64 n]) ∧ w.grownBy w' (some r) := by
  rcases h with ⟨v', q', sl, h1, h2⟩ | ⟨n, a, b, s, p, c, d, h1, hn, h2⟩
  · cases h1
  · injection h1 with h1
    subst h1
    exact ⟨hn, a, b, s, p, c, d, h2⟩
set_option maxHeartbeats 1000000 in
set_option maxRecDepth 20000 in
theorem first37_ok (v : V) (q : List UInt8) (hm : v.may 1 = true) (t : List UInt8) (hF : ∀ (w : World) (r : Nat), Rd w r t → Calls Tryz.prog 113 #[.pointer (some ⟨r, 0, none⟩)] w (ReadR (.ok (v, q)) r w)) (w : World) (b : Value) (hb : Bs w b t) :
    Calls Tryz.prog 112 #[b, .func (.func 113) #[] #[]] w (TakeR (chk (.ok (v, q))) t w) := by
  obtain ⟨p, cap, rfl, hpc, ht⟩ := hb.slice
  have hB2 := bel2 w (.cells #[.int .i64 0, .int .i64 0, .string ⟨#[]⟩, .slice none 0 0] 29) (.cells #[.slice p t.length cap] 146)
  have hk0 := blk_old (o' := .cells #[.slice p t.length cap] 146) (blk_new w (.cells #[.int .i64 0, .int .i64 0, .string ⟨#[]⟩, .slice none 0 0] 29))
  have hr0 := blk_new (w.alloc (.cells #[.int .i64 0, .int .i64 0, .string ⟨#[]⟩, .slice none 0 0] 29)) (.cells #[.slice p t.length cap] 146)
  rw [World.size_alloc] at hr0
  obtain ⟨W, hW⟩ : ∃ W, W = (w.alloc (.cells #[.int .i64 0, .int .i64 0, .string ⟨#[]⟩, .slice none 0 0] 29)).alloc (.cells #[.slice p t.length cap] 146) := ⟨_, rfl⟩
  have hWs : W.heap.size = w.heap.size + 1 + 1 := by rw [hW]; simp
  rw [← hW] at hB2 hk0 hr0
  have hRd : Rd W (w.heap.size + 1) t := by
    refine ⟨_, hr0, hb.on hB2, ?_⟩
    rcases hb.low.2 with h | ⟨g, o, n, c, e, hlt⟩
    · exact .inl h
    · exact .inr ⟨g, o, n, c, e, by omega⟩
  have cF := hF W (w.heap.size + 1) hRd
  clear hF hRd hb
  have c31 := fun sl u h => check_any v sl u h
  unfold V.err V.agg at c31
  rw [hm] at c31
  simp only [if_true] at c31
  have hE := Lib.hid (chk_ok (rfl : (Except.ok (v, q) : R V) = .ok (v, q)) hm)
  clear hm
  go_enter Tryz.func112, Tryz.ntmps112
  go_wp2_with (first
    | (go_at_call 113; rw [← hW]; refine cF.mono ?_; rintro e w3 hrr; obtain ⟨sl, rfl, hin, hq⟩ := readR_ok hrr; clear hrr; unfold V.agg; obtain ⟨pv, nv, cv, rfl⟩ := hin.header; have hs3 := hq.1.size; have k3 := (hq.1.block w.heap.size (by omega) (by intro e; injection e with e; omega)).trans hk0; obtain ⟨pq, capq, hr3, hpq, hql, hbq, -, -⟩ := hq.2.cell; have hB4 := bel1 w3 (.cells #[.int .i64 v.k, .int .i64 v.n, .string v.s, .slice pv nv cv] 29); have hbox := blk_new w3 (.cells #[.int .i64 v.k, .int .i64 v.n, .string v.s, .slice pv nv cv] 29); have hin4 := hin.on hB4; have c31v := c31 (.slice pv nv cv) _ (hin4.low (Nat.zero_le _)); have k4 := blk_on hB4 k3; have hr4 := blk_on hB4 hr3; have hB3 := (bel_grown hB2 hq.1 (by omega)).trans (hB4.mono (by omega)); rw [hWs] at hin4; clear hin hbq)
    | (go_at_call 57; refine c31v.mono ?_; rintro e w5 ⟨rfl, hB5⟩; have k5 := blk_on hB5 k4; obtain ⟨x0, x1, x2, x3, xf⟩ := four_of k5; obtain ⟨y0, y1, y2, y3, yf⟩ := four_of (blk_on hB5 hbox); obtain ⟨z0, zf⟩ := one_of (blk_on hB5 hr4)))
  have hin5 := V.In.keep (lo := w.heap.size + 1 + 1) (lo' := w.heap.size) (w' := (put4 w5 w.heap.size 0 (.int .i64 v.k) (.int .i64 v.n) (.string v.s) (.slice pv nv cv)).drew) (fun a u ha hc => set_other (set_other (set_other (set_other hc (.inl (by omega))) (.inl (by omega))) (.inl (by omega))) (.inl (by omega))) (by omega) v _ (hin4.on hB5)
  have hfin := ((hB3.trans (hB5.mono hB3.size)).trans (below_put4 (g := w.heap.size) (i := 0) (Nat.le_refl _) (.int .i64 v.k) (.int .i64 v.n) (.string v.s) (.slice pv nv cv))).drew
  unfold put4 at hin5 hfin
  clear c31 c31v cF hin4 hbox k4 hr4 hB4
  go_region
  go_wp2
  simp [bodyPost, results, Tryz.results112, go_sem, x0, x1, x2, x3]
  exact .inl ⟨v, q, _, hE.out, rfl, hin5, hfin⟩
set_option maxHeartbeats 1000000 in
set_option maxRecDepth 20000 in
theorem first37_bad (v : V) (q : List UInt8) (hm : v.may 1 = false) (t : List UInt8) (hF : ∀ (w : World) (r : Nat), Rd w r t → Calls Tryz.prog 113 #[.pointer (some ⟨r, 0, none⟩)] w (ReadR (.ok (v, q)) r w)) (w : World) (b : Value) (hb : Bs w b t) :
    Calls Tryz.prog 112 #[b, .func (.func 113) #[] #[]] w (TakeR (chk (.ok (v, q))) t w) := by
  obtain ⟨p, cap, rfl, hpc, ht⟩ := hb.slice
  have hB2 := bel2 w (.cells #[.int .i64 0, .int .i64 0, .string ⟨#[]⟩, .slice none 0 0] 29) (.cells #[.slice p t.length cap] 146)
  have hk0 := blk_old (o' := .cells #[.slice p t.length cap] 146) (blk_new w (.cells #[.int .i64 0, .int .i64 0, .string ⟨#[]⟩, .slice none 0 0] 29))
  have hr0 := blk_new (w.alloc (.cells #[.int .i64 0, .int .i64 0, .string ⟨#[]⟩, .slice none 0 0] 29)) (.cells #[.slice p t.length cap] 146)
  rw [World.size_alloc] at hr0
  obtain ⟨W, hW⟩ : ∃ W, W = (w.alloc (.cells #[.int .i64 0, .int .i64 0, .string ⟨#[]⟩, .slice none 0 0] 29)).alloc (.cells #[.slice p t.length cap] 146) := ⟨_, rfl⟩
  have hWs : W.heap.size = w.heap.size + 1 + 1 := by rw [hW]; simp
  rw [← hW] at hB2 hk0 hr0
  have hRd : Rd W (w.heap.size + 1) t := by
    refine ⟨_, hr0, hb.on hB2, ?_⟩
    rcases hb.low.2 with h | ⟨g, o, n, c, e, hlt⟩
    · exact .inl h
    · exact .inr ⟨g, o, n, c, e, by omega⟩
  have cF := hF W (w.heap.size + 1) hRd
  clear hF hRd hb
  have c31 := fun sl u h => check_any v sl u h
  unfold V.err V.agg at c31
  rw [hm] at c31
  simp only [Bool.false_eq_true, if_false] at c31
  have hE := Lib.hid (chk_no (rfl : (Except.ok (v, q) : R V) = .ok (v, q)) hm)
  clear hm
  go_enter Tryz.func112, Tryz.ntmps112
  go_wp2_with (first
    | (go_at_call 113; rw [← hW]; refine cF.mono ?_; rintro e w3 hrr; obtain ⟨sl, rfl, hin, hq⟩ := readR_ok hrr; clear hrr; unfold V.agg; obtain ⟨pv, nv, cv, rfl⟩ := hin.header; have hs3 := hq.1.size; have k3 := (hq.1.block w.heap.size (by omega) (by intro e; injection e with e; omega)).trans hk0; obtain ⟨pq, capq, hr3, hpq, hql, hbq, -, -⟩ := hq.2.cell; have hB4 := bel1 w3 (.cells #[.int .i64 v.k, .int .i64 v.n, .string v.s, .slice pv nv cv] 29); have hbox := blk_new w3 (.cells #[.int .i64 v.k, .int .i64 v.n, .string v.s, .slice pv nv cv] 29); have hin4 := hin.on hB4; have c31v := c31 (.slice pv nv cv) _ (hin4.low (Nat.zero_le _)); have k4 := blk_on hB4 k3; have hr4 := blk_on hB4 hr3; have hB3 := (bel_grown hB2 hq.1 (by omega)).trans (hB4.mono (by omega)); rw [hWs] at hin4; clear hin hbq)
    | (go_at_call 57; refine c31v.mono ?_; rintro e w5 ⟨rfl, hB5⟩; have k5 := blk_on hB5 k4; obtain ⟨x0, x1, x2, x3, xf⟩ := four_of k5))
  have hfin := (hB3.trans (hB5.mono hB3.size)).trans (below_put4 (g := w.heap.size) (i := 0) (Nat.le_refl _) (.int .i64 0) (.int .i64 0) (.string ⟨#[]⟩) (.slice none 0 0))
  unfold put4 at hfin
  simp [bodyPost, results, Tryz.results112, go_sem, x0, x1, x2, x3]
  exact .inr ⟨30, hE.out, by decide, rfl, hfin⟩
set_option maxHeartbeats 1000000 in
set_option maxRecDepth 20000 in
theorem first37_err (n : Int) (t : List UInt8) (hF : ∀ (w : World) (r : Nat), Rd w r t → Calls Tryz.prog 113 #[.pointer (some ⟨r, 0, none⟩)] w (ReadR (.error n) r w)) (w : World) (b : Value) (hb : Bs w b t) :
    Calls Tryz.prog 112 #[b, .func (.func 113) #[] #[]] w (TakeR (chk (.error n)) t w) := by
  obtain ⟨p, cap, rfl, hpc, ht⟩ := hb.slice
  have hB2 := bel2 w (.cells #[.int .i64 0, .int .i64 0, .string ⟨#[]⟩, .slice none 0 0] 29) (.cells #[.slice p t.length cap] 146)
  have hk0 := blk_old (o' := .cells #[.slice p t.length cap] 146) (blk_new w (.cells #[.int .i64 0, .int .i64 0, .string ⟨#[]⟩, .slice none 0 0] 29))
  have hr0 := blk_new (w.alloc (.cells #[.int .i64 0, .int .i64 0, .string ⟨#[]⟩, .slice none 0 0] 29)) (.cells #[.slice p t.length cap] 146)
  rw [World.size_alloc] at hr0
  obtain ⟨W, hW⟩ : ∃ W, W = (w.alloc (.cells #[.int .i64 0, .int .i64 0, .string ⟨#[]⟩, .slice none 0 0] 29)).alloc (.cells #[.slice p t.length cap] 146) := ⟨_, rfl⟩
  have hWs : W.heap.size = w.heap.size + 1 + 1 := by rw [hW]; simp
  rw [← hW] at hB2 hk0 hr0
  have hRd : Rd W (w.heap.size + 1) t := by
    refine ⟨_, hr0, hb.on hB2, ?_⟩
    rcases hb.low.2 with h | ⟨g, o, n, c, e, hlt⟩
    · exact .inl h
    · exact .inr ⟨g, o, n, c, e, by omega⟩
  have cF := hF W (w.heap.size + 1) hRd
  clear hF hRd hb
  have hE := Lib.hid (chk_err (rfl : (Except.error n : R V) = .error n))
  go_enter Tryz.func112, Tryz.ntmps112
  go_wp2_with (go_at_call 113; rw [← hW]; refine cF.mono ?_; rintro e w3 hrr; obtain ⟨hn0, a, b, s, p', c, d, rfl, hg⟩ := readR_err hrr; clear hrr; have hs3 := hg.size; have k3 := (hg.block w.heap.size (by omega) (by intro e; injection e with e; omega)).trans hk0; have hn' : (n == 0) = false := (by simp; omega); have hn'' : (n != 0) = true := (by simp; omega); have hB3 := (bel_grown hB2 hg (by omega)).alloc (by omega) (.cells #[.int .i64 a, .int .i64 b, .string s, .slice p' c d] 29); obtain ⟨x0, x1, x2, x3, xf⟩ := four_of (blk_old (o' := .cells #[.int .i64 a, .int .i64 b, .string s, .slice p' c d] 29) k3))
  have hfin := hB3.trans (below_put4 (g := w.heap.size) (i := 0) (Nat.le_refl _) (.int .i64 0) (.int .i64 0) (.string ⟨#[]⟩) (.slice none 0 0))
  unfold put4 at hfin
  simp [bodyPost, results, Tryz.results112, go_sem, x0, x1, x2, x3]
  exact .inr ⟨n, hE.out, hn0, rfl, hfin⟩
theorem first113 (spec : R V) (t : List UInt8) (hF : ∀ (w : World) (r : Nat), Rd w r t → Calls Tryz.prog 113 #[.pointer (some ⟨r, 0, none⟩)] w (ReadR spec r w)) (w : World) (b : Value) (hb : Bs w b t) :
    Calls Tryz.prog 112 #[b, .func (.func 113) #[] #[]] w (TakeR (chk spec) t w) := by
  cases spec with
  | error n => exact first37_err n t hF w b hb
  | ok x =>
    obtain ⟨v, q⟩ := x
    cases hm : v.may 1 with
    | true => exact first37_ok v q hm t hF w b hb
    | false => exact first37_bad v q hm t hF w b hb
set_option maxHeartbeats 1000000 in
set_option maxRecDepth 20000 in
/-- Take. -/
theorem take90 (w : World) (b : Value) (t : List UInt8) (hb : Bs w b t) (ht : t.length ≤ 140737488351232) : Calls Tryz.prog 90 #[b] w (TakeR (pTake t) t w) := by
  have c36 := first113 (pForm t) t (fun w r h => form113 w r t h ht) _ b (hb.on (bel1 w (.cells #[.int .i64 0, .int .i64 0, .string ⟨#[]⟩, .slice none 0 0] 29)))
  have hnew := blk_new w (.cells #[.int .i64 0, .int .i64 0, .string ⟨#[]⟩, .slice none 0 0] 29)
  have hbel := bel1 w (.cells #[.int .i64 0, .int .i64 0, .string ⟨#[]⟩, .slice none 0 0] 29)
  have hsz : (w.alloc (.cells #[.int .i64 0, .int .i64 0, .string ⟨#[]⟩, .slice none 0 0] 29)).heap.size = w.heap.size + 1 := by simp
  obtain ⟨W, hW⟩ : ∃ W, W = w.alloc (.cells #[.int .i64 0, .int .i64 0, .string ⟨#[]⟩, .slice none 0 0] 29) := ⟨_, rfl⟩
  rw [← hW] at c36 hnew hbel hsz
  change Calls Tryz.prog 112 _ W (TakeR (pTake t) t W) at c36
  cases hp : pTake t with
  | error n =>
    rw [hp] at c36
    go_enter Tryz.func90, Tryz.ntmps90
    go_wp2_with (go_at_call 112; rw [← hW]; refine c36.mono ?_; rintro e w1 (⟨v, q, sl, hh, -⟩ | ⟨n', hh, hn0, rfl, hB1⟩); (focus (cases hh)); obtain rfl : n = n' := Except.error.inj hh; clear hh; unfold zAgg; obtain ⟨x0, x1, x2, x3, xf⟩ := four_of (blk_on hB1 hnew))
    have hfin := (hbel.trans (hB1.mono (by omega))).trans (below_put4 (g := w.heap.size) (i := 0) (Nat.le_refl _) (.int .i64 0) (.int .i64 0) (.string ⟨#[]⟩) (.slice none 0 0))
    unfold put4 at hfin
    simp [bodyPost, results, Tryz.results90, go_sem, x0, x1, x2, x3]
    exact .inr ⟨n, rfl, hn0, rfl, hfin⟩
  | ok x =>
    obtain ⟨v, q⟩ := x
    rw [hp] at c36
    go_enter Tryz.func90, Tryz.ntmps90
    go_wp2_with (go_at_call 112; rw [← hW]; refine c36.mono ?_; rintro e w1 (⟨v', q', sl, hh, rfl, hin, hB1⟩ | ⟨n', hh, -⟩); rotate_left; (focus (cases hh)); go_must (obtain ⟨rfl, rfl⟩ : v = v' ∧ q = q' := by have := Except.ok.inj hh; exact ⟨congrArg Prod.fst this, congrArg Prod.snd this⟩); clear hh; unfold V.agg; obtain ⟨pv, nv, cv, rfl⟩ := hin.header; obtain ⟨x0, x1, x2, x3, xf⟩ := four_of (blk_on hB1 hnew))
    rw [hsz] at hin
    have hin5 := V.In.keep (lo := w.heap.size + 1) (lo' := w.heap.size) (w' := put4 w1 w.heap.size 0 (.int .i64 v.k) (.int .i64 v.n) (.string v.s) (.slice pv nv cv)) (fun a u ha hc => set_other (set_other (set_other (set_other hc (.inl (by omega))) (.inl (by omega))) (.inl (by omega))) (.inl (by omega))) (by omega) v _ hin
    have hfin := (hbel.trans (hB1.mono (by omega))).trans (below_put4 (g := w.heap.size) (i := 0) (Nat.le_refl _) (.int .i64 v.k) (.int .i64 v.n) (.string v.s) (.slice pv nv cv))
    unfold put4 at hfin hin5
    simp [bodyPost, results, Tryz.results90, go_sem, x0, x1, x2, x3]
    exact .inl ⟨v, q, _, rfl, rfl, hin5, hfin⟩
end Go.Proofs.YtbgikgeknnmelaaGreat
