/-
  The reader of plain bytes: a value.
-/
import Derived.Test.YtekfbijkalamkaaPlL
namespace Go.Proofs.Ytekfbijkalamkaa
open Go.RowKit
set_option linter.unusedVariables false      -- a walk need not use every condition

theorem numR_ok {u : Nat} {q : List UInt8} {r : Nat} {w : World} {e : Ending} {w' : World} (h : NumR (.ok (u, q)) r w e w') : e = .returned (.tuple #[.int .u64 u, .int .i64 0]) ∧ Rq r q w w' := by
  rcases h with ⟨u', q', hh, -, h⟩ | ⟨n', hh, -⟩
  · have := Except.ok.inj hh
    obtain ⟨rfl, rfl⟩ : u = u' ∧ q = q' := ⟨congrArg Prod.fst this, congrArg Prod.snd this⟩
    exact h
  · cases hh
theorem numR_err {n : Int} {r : Nat} {w : World} {e : Ending} {w' : World} (h : NumR (.error n) r w e w') : n ≠ 0 ∧ e = .returned (.tuple #[.int .u64 0, .int .i64 n]) ∧ w.grownBy w' (some r) := by
  rcases h with ⟨u, q, hh, -⟩ | ⟨n', hh, h0, h1, rfl⟩
  · cases hh
  · obtain rfl := Except.error.inj hh
    exact ⟨h0, h1, World.grownBy.refl _ _⟩
theorem idR_ok {u : Nat} {q : List UInt8} {r : Nat} {w : World} {e : Ending} {w' : World} (h : IdR (.ok (u, q)) r w e w') : e = .returned (.tuple #[.int .i64 (min u 9223372036854775807 : Nat), .int .i64 0]) ∧ Rq r q w w' := by
  rcases h with ⟨u', q', hh, h⟩ | ⟨n', hh, -⟩
  · have := Except.ok.inj hh
    obtain ⟨rfl, rfl⟩ : u = u' ∧ q = q' := ⟨congrArg Prod.fst this, congrArg Prod.snd this⟩
    exact h
  · cases hh
theorem idR_err {n : Int} {r : Nat} {w : World} {e : Ending} {w' : World} (h : IdR (.error n) r w e w') : n ≠ 0 ∧ e = .returned (.tuple #[.int .i64 0, .int .i64 n]) ∧ w.grownBy w' (some r) := by
  rcases h with ⟨u, q, hh, -⟩ | ⟨n', hh, h0, h1, rfl⟩
  · cases hh
  · obtain rfl := Except.error.inj hh
    exact ⟨h0, h1, World.grownBy.refl _ _⟩
theorem txtR_ok {s q : List UInt8} {r : Nat} {w : World} {e : Ending} {w' : World} (h : TxtR (.ok (s, q)) r w e w') : e = .returned (.tuple #[.string ⟨s.toArray⟩, .int .i64 0]) ∧ Rq r q w w' := by
  rcases h with ⟨u', q', hh, h⟩ | ⟨n', x, hh, -⟩
  · have := Except.ok.inj hh
    obtain ⟨rfl, rfl⟩ : s = u' ∧ q = q' := ⟨congrArg Prod.fst this, congrArg Prod.snd this⟩
    exact h
  · cases hh
theorem txtR_err {n : Int} {r : Nat} {w : World} {e : Ending} {w' : World} (h : TxtR (.error n) r w e w') : n ≠ 0 ∧ ∃ x, e = .returned (.tuple #[.string x, .int .i64 n]) ∧ w.grownBy w' (some r) := by
  rcases h with ⟨u, q, hh, -⟩ | ⟨n', x, hh, h0, h1⟩
  · cases hh
  · obtain rfl := Except.error.inj hh
    exact ⟨h0, x, h1⟩
theorem lstR_ok {l : List V} {q : List UInt8} {r : Nat} {w : World} {e : Ending} {w' : World} (h : LstR (.ok (l, q)) r w e w') : ∃ pv nv cv, e = .returned (.tuple #[.slice pv nv cv, .int .i64 0]) ∧ RowV w' w.heap.size (.slice pv nv cv) l ∧ l.length ≤ 512 ∧ Rq r q w w' := by
  rcases h with ⟨u', q', sl, hh, h1, h2, h3⟩ | ⟨n', hh, -⟩
  · have := Except.ok.inj hh
    obtain ⟨rfl, rfl⟩ : l = u' ∧ q = q' := ⟨congrArg Prod.fst this, congrArg Prod.snd this⟩
    obtain ⟨pv, cv, rfl, -, -⟩ := h2.len
    exact ⟨pv, _, cv, h1, h2, h3⟩
  · cases hh
theorem lstR_err {n : Int} {r : Nat} {w : World} {e : Ending} {w' : World} (h : LstR (.error n) r w e w') : n ≠ 0 ∧ e = .returned (.tuple #[.slice none 0 0, .int .i64 n]) ∧ w.grownBy w' (some r) := by
  rcases h with ⟨u, q, sl, hh, -⟩ | ⟨n', hh, h⟩
  · cases hh
  · obtain rfl := Except.error.inj hh
    exact h
set_option maxHeartbeats 1000000 in
set_option maxRecDepth 20000 in
theorem within_nil (d : Nat) (w : World) (r : Nat) (h : Rd w r []) : Calls Try.prog 60 #[.pointer (some ⟨r, 0, none⟩), .int .i64 d] w (ReadR (.error 11) r w) := by
  have hrl := h.lt
  have c52 := begin_no _ r (h.alloc (.cells #[.int .i64 0, .int .i64 0, .string ⟨#[]⟩, .slice none 0 0] 31))
  go_enter Try.func60, Try.ntmps60
  go_wp2_with (go_at_call 52; refine c52.mono ?_; rintro e w1 ⟨rfl, hB1⟩; have k1 := blk_on hB1 (blk_new w _); have hs1 := hB1.size; rw [World.size_alloc] at hs1; obtain ⟨x0, x1, x2, x3, xf⟩ := four_of (blk_old (o' := .cells #[.int .i64 0, .int .i64 0, .string ⟨#[]⟩, .slice none 0 0] 31) k1))
  have hg1 : w.grownBy (w1.alloc (.cells #[.int .i64 0, .int .i64 0, .string ⟨#[]⟩, .slice none 0 0] 31)) (some r) := ((World.grownBy_alloc w _ (some r)).trans (gr_bel hB1 (some r))).trans (World.grownBy_alloc w1 _ (some r))
  have hfin := grown_put hg1 (Nat.le_refl _) (.int .i64 0) (.int .i64 0) (.string ⟨#[]⟩) (.slice none 0 0)
  unfold put4 at hfin
  simp [bodyPost, results, Try.results60, go_sem, x0, x1, x2, x3]
  exact ReadR.no rfl (by decide) hfin
set_option maxHeartbeats 2000000 in
set_option maxRecDepth 20000 in
theorem within_deep (d : Nat) (w : World) (r : Nat) (c : UInt8) (t : List UInt8) (h : Rd w r (c :: t)) (hd : 8 < d) : Calls Try.prog 60 #[.pointer (some ⟨r, 0, none⟩), .int .i64 d] w (ReadR (.error 30) r w) := by
  have hrl := h.lt
  have c52 := begin_yes _ r c t (h.alloc (.cells #[.int .i64 0, .int .i64 0, .string ⟨#[]⟩, .slice none 0 0] 31))
  have hc := c.toNat_lt
  go_enter Try.func60, Try.ntmps60
  go_wp2_with (first
    | (go_at_call 52; refine c52.mono ?_; rintro e w1 ⟨rfl, hq1⟩; have k1 := (hq1.1.block w.heap.size (by simp) (by intro e; injection e with e; omega)).trans (blk_new w _); have hs1 := hq1.1.size; rw [World.size_alloc] at hs1; have k2 := blk_old (o' := (.cells #[.int .i64 c.toNat, .int .i64 0, .string ⟨#[]⟩, .slice none 0 0] 31)) k1; have kb := blk_new w1 (.cells #[.int .i64 c.toNat, .int .i64 0, .string ⟨#[]⟩, .slice none 0 0] 31); have hq2 := hq1.low.bel (bel1 w1 (.cells #[.int .i64 c.toNat, .int .i64 0, .string ⟨#[]⟩, .slice none 0 0] 31)); obtain ⟨x0, x1, x2, x3, xf⟩ := four_of k2; obtain ⟨y0, y1, y2, y3, yf⟩ := four_of kb))
  have hfin := grown_put hq2.1 (Nat.le_refl _) (.int .i64 c.toNat) (.int .i64 0) (.string ⟨#[]⟩) (.slice none 0 0)
  unfold put4 at hfin
  simp [bodyPost, results, Try.results60, go_sem, x0, x1, x2, x3]
  exact ReadR.no rfl (by decide) hfin
set_option maxHeartbeats 2000000 in
set_option maxRecDepth 20000 in
theorem within_other (d : Nat) (w : World) (r : Nat) (c : UInt8) (t : List UInt8) (h : Rd w r (c :: t)) (hd : d ≤ 8) (pe : List UInt8 → R V) (hk : c.toNat ≠ 1 ∧ c.toNat ≠ 6 ∧ c.toNat ≠ 7 ∧ c.toNat ≠ 3 ∧ c.toNat ≠ 2 ∧ c.toNat ≠ 4 ∧ c.toNat ≠ 5) : Calls Try.prog 60 #[.pointer (some ⟨r, 0, none⟩), .int .i64 d] w (ReadR (pBody pe c.toNat t) r w) := by
  have hrl := h.lt
  have c52 := begin_yes _ r c t (h.alloc (.cells #[.int .i64 0, .int .i64 0, .string ⟨#[]⟩, .slice none 0 0] 31))
  have hc := c.toNat_lt
  have hE : Hid (pBody pe c.toNat t = .error 30) := by show _ = _; unfold pBody; rw [if_neg (by omega), if_neg (by omega), if_neg (by omega), if_neg (by omega), if_neg (by omega), if_neg (by omega)]
  generalize pBody pe c.toNat t = S at *
  have k1f : ((c.toNat : Int) == 1) = false := by simp; omega
  have k6f : ((c.toNat : Int) == 6) = false := by simp; omega
  have k7f : ((c.toNat : Int) == 7) = false := by simp; omega
  have k3f : ((c.toNat : Int) == 3) = false := by simp; omega
  have k2f : ((c.toNat : Int) == 2) = false := by simp; omega
  have k4f : ((c.toNat : Int) == 4) = false := by simp; omega
  have k5f : ((c.toNat : Int) == 5) = false := by simp; omega
  clear hk
  go_enter Try.func60, Try.ntmps60
  go_wp2_with (first
    | (go_at_call 52; refine c52.mono ?_; rintro e w1 ⟨rfl, hq1⟩; have k1 := (hq1.1.block w.heap.size (by simp) (by intro e; injection e with e; omega)).trans (blk_new w _); have hs1 := hq1.1.size; rw [World.size_alloc] at hs1; have k2 := blk_old (o' := (.cells #[.int .i64 c.toNat, .int .i64 0, .string ⟨#[]⟩, .slice none 0 0] 31)) k1; have kb := blk_new w1 (.cells #[.int .i64 c.toNat, .int .i64 0, .string ⟨#[]⟩, .slice none 0 0] 31); have hq2 := hq1.low.bel (bel1 w1 (.cells #[.int .i64 c.toNat, .int .i64 0, .string ⟨#[]⟩, .slice none 0 0] 31)); obtain ⟨x0, x1, x2, x3, xf⟩ := four_of k2; obtain ⟨y0, y1, y2, y3, yf⟩ := four_of kb))
  have hfin := grown_put hq2.1 (Nat.le_refl _) (.int .i64 c.toNat) (.int .i64 0) (.string ⟨#[]⟩) (.slice none 0 0)
  unfold put4 at hfin
  simp [bodyPost, results, Try.results60, go_sem, x0, x1, x2, x3]
  exact ReadR.no hE.out (by decide) hfin
set_option maxHeartbeats 2000000 in
set_option maxRecDepth 20000 in
theorem within_bool_no (d : Nat) (w : World) (r : Nat) (c : UInt8) (t : List UInt8) (h : Rd w r (c :: t)) (hd : d ≤ 8) (pe : List UInt8 → R V) (hk : c.toNat = 3) (ht : t = []) : Calls Try.prog 60 #[.pointer (some ⟨r, 0, none⟩), .int .i64 d] w (ReadR (pBody pe c.toNat t) r w) := by
  have hrl := h.lt
  have c52 := begin_yes _ r c t (h.alloc (.cells #[.int .i64 0, .int .i64 0, .string ⟨#[]⟩, .slice none 0 0] 31))
  have hc := c.toNat_lt
  have hE : Hid (pBody pe c.toNat t = .error 11) := by show _ = _; subst ht; unfold pBody; rw [if_neg (by omega), if_neg (by omega), if_pos (by omega)]
  generalize pBody pe c.toNat t = S at *
  have c54 := fun w h => small_no w r h
  have k1f : ((c.toNat : Int) == 1) = false := by simp; omega
  have k6f : ((c.toNat : Int) == 6) = false := by simp; omega
  have k7f : ((c.toNat : Int) == 7) = false := by simp; omega
  have k3f : ((c.toNat : Int) == 3) = true := by simp; omega
  subst ht
  clear hk
  go_enter Try.func60, Try.ntmps60
  go_wp2_with (first
    | (go_at_call 52; refine c52.mono ?_; rintro e w1 ⟨rfl, hq1⟩; have k1 := (hq1.1.block w.heap.size (by simp) (by intro e; injection e with e; omega)).trans (blk_new w _); have hs1 := hq1.1.size; rw [World.size_alloc] at hs1; have k2 := blk_old (o' := (.cells #[.int .i64 c.toNat, .int .i64 0, .string ⟨#[]⟩, .slice none 0 0] 31)) k1; have kb := blk_new w1 (.cells #[.int .i64 c.toNat, .int .i64 0, .string ⟨#[]⟩, .slice none 0 0] 31); have hq2 := hq1.low.bel (bel1 w1 (.cells #[.int .i64 c.toNat, .int .i64 0, .string ⟨#[]⟩, .slice none 0 0] 31)); obtain ⟨x0, x1, x2, x3, xf⟩ := four_of k2; obtain ⟨y0, y1, y2, y3, yf⟩ := four_of kb)
    | (go_at_call 54; refine (c54 _ hq2.2).mono ?_; rintro e w3 ⟨rfl, rfl⟩))
  have hfin := grown_put hq2.1 (Nat.le_refl _) (.int .i64 c.toNat) (.int .i64 0) (.string ⟨#[]⟩) (.slice none 0 0)
  unfold put4 at hfin
  simp [bodyPost, results, Try.results60, go_sem, x0, x1, x2, x3]
  exact ReadR.no hE.out (by decide) hfin
set_option maxHeartbeats 2000000 in
set_option maxRecDepth 20000 in
theorem within_bool_yes (d : Nat) (w : World) (r : Nat) (c : UInt8) (t : List UInt8) (h : Rd w r (c :: t)) (hd : d ≤ 8) (pe : List UInt8 → R V) (x : UInt8) (s : List UInt8) (hk : c.toNat = 3) (ht : t = x :: s) : Calls Try.prog 60 #[.pointer (some ⟨r, 0, none⟩), .int .i64 d] w (ReadR (pBody pe c.toNat t) r w) := by
  have hrl := h.lt
  have c52 := begin_yes _ r c t (h.alloc (.cells #[.int .i64 0, .int .i64 0, .string ⟨#[]⟩, .slice none 0 0] 31))
  have hc := c.toNat_lt
  have hE : Hid (pBody pe c.toNat t = .ok (.mk c.toNat x.toNat ⟨#[]⟩ [], s)) := by show _ = _; subst ht; unfold pBody; rw [if_neg (by omega), if_neg (by omega), if_pos (by omega), show (c.toNat : Int) = 3 by omega]
  generalize pBody pe c.toNat t = S at *
  have c54 := fun w h => small_yes w r x s h
  have hx := x.toNat_lt
  have k1f : ((c.toNat : Int) == 1) = false := by simp; omega
  have k6f : ((c.toNat : Int) == 6) = false := by simp; omega
  have k7f : ((c.toNat : Int) == 7) = false := by simp; omega
  have k3f : ((c.toNat : Int) == 3) = true := by simp; omega
  subst ht
  clear hk
  go_enter Try.func60, Try.ntmps60
  go_wp2_with (first
    | (go_at_call 52; refine c52.mono ?_; rintro e w1 ⟨rfl, hq1⟩; have k1 := (hq1.1.block w.heap.size (by simp) (by intro e; injection e with e; omega)).trans (blk_new w _); have hs1 := hq1.1.size; rw [World.size_alloc] at hs1; have k2 := blk_old (o' := (.cells #[.int .i64 c.toNat, .int .i64 0, .string ⟨#[]⟩, .slice none 0 0] 31)) k1; have kb := blk_new w1 (.cells #[.int .i64 c.toNat, .int .i64 0, .string ⟨#[]⟩, .slice none 0 0] 31); have hq2 := hq1.low.bel (bel1 w1 (.cells #[.int .i64 c.toNat, .int .i64 0, .string ⟨#[]⟩, .slice none 0 0] 31)); obtain ⟨x0, x1, x2, x3, xf⟩ := four_of k2; obtain ⟨y0, y1, y2, y3, yf⟩ := four_of kb)
    | (go_at_call 54; refine (c54 _ hq2.2).mono ?_; rintro e w3 ⟨rfl, hq3⟩; have hs3 := hq3.1.size; rw [World.size_alloc] at hs3; have k3 := (hq3.1.block w.heap.size (by simp; omega) (by intro e; injection e with e; omega)).trans k2; have kb3 := (hq3.1.block w1.heap.size (by simp) (by intro e; injection e with e; omega)).trans kb; obtain ⟨u0, u1, u2, u3, uf⟩ := four_of k3; obtain ⟨z0, z1, z2, z3, zf⟩ := four_of kb3; have hq4 := hq2.trans hq3; clear x0 x1 x2 x3 xf y0 y1 y2 y3 yf))
  have hfin := (hq4.far (gr_set w3 w1.heap.size 1 (.int .i64 x.toNat)) hrl (fun j hj => by injection hj with hj; omega)).far (gr_put4 _ w.heap.size 0 (.int .i64 c.toNat) (.int .i64 x.toNat) (.string ⟨#[]⟩) (.slice none 0 0)) hrl (fun j hj => by injection hj with hj; omega)
  unfold put4 at hfin
  simp [bodyPost, results, Try.results60, go_sem, u0, u1, u2, u3]
  exact ReadR.yes (v := .mk c.toNat x.toNat ⟨#[]⟩ []) hE.out (in_plain (by unfold I64; omega) (by unfold I64; omega) (by decide) _ _) hfin
set_option maxHeartbeats 2000000 in
set_option maxRecDepth 20000 in
theorem within_num1_yes (d : Nat) (w : World) (r : Nat) (c : UInt8) (t : List UInt8) (h : Rd w r (c :: t)) (hd : d ≤ 8) (pe : List UInt8 → R V) (hk : c.toNat = 1) (u : Nat) (q : List UInt8) (hp : pNum t = .ok (u, q)) : Calls Try.prog 60 #[.pointer (some ⟨r, 0, none⟩), .int .i64 d] w (ReadR (pBody pe c.toNat t) r w) := by
  have hrl := h.lt
  have c52 := begin_yes _ r c t (h.alloc (.cells #[.int .i64 0, .int .i64 0, .string ⟨#[]⟩, .slice none 0 0] 31))
  have hc := c.toNat_lt
  have hE : Hid (pBody pe c.toNat t = .ok (.mk c.toNat (zagN u) ⟨#[]⟩ [], q)) := by show _ = _; unfold pBody; rw [if_pos (by omega), hp, thn_ok, show (c.toNat : Int) = 1 by omega]
  generalize pBody pe c.toNat t = S at *
  have hu := (num_back hp).2
  have c75 := fun w h => number75 w r t h
  rw [hp] at c75
  have c76 := fun w => zag76 u hu w
  have hI := zag_i64 hu
  generalize zagN u = N at *
  have k1f : ((c.toNat : Int) == 1) = true := by simp; omega
  clear hk hp
  go_enter Try.func60, Try.ntmps60
  go_wp2_with (first
    | (go_at_call 52; refine c52.mono ?_; rintro e w1 ⟨rfl, hq1⟩; have k1 := (hq1.1.block w.heap.size (by simp) (by intro e; injection e with e; omega)).trans (blk_new w _); have hs1 := hq1.1.size; rw [World.size_alloc] at hs1; have k2 := blk_old (o' := (.cells #[.int .i64 c.toNat, .int .i64 0, .string ⟨#[]⟩, .slice none 0 0] 31)) k1; have kb := blk_new w1 (.cells #[.int .i64 c.toNat, .int .i64 0, .string ⟨#[]⟩, .slice none 0 0] 31); have hq2 := hq1.low.bel (bel1 w1 (.cells #[.int .i64 c.toNat, .int .i64 0, .string ⟨#[]⟩, .slice none 0 0] 31)); obtain ⟨x0, x1, x2, x3, xf⟩ := four_of k2; obtain ⟨y0, y1, y2, y3, yf⟩ := four_of kb)
    | (go_at_call 75; refine (c75 _ hq2.2).mono ?_; rintro e w3 hrr; obtain ⟨rfl, hq3⟩ := numR_ok hrr; clear hrr; have hs3 := hq3.1.size; rw [World.size_alloc] at hs3; have k3 := (hq3.1.block w.heap.size (by simp; omega) (by intro e; injection e with e; omega)).trans k2; have kb3 := (hq3.1.block w1.heap.size (by simp) (by intro e; injection e with e; omega)).trans kb; obtain ⟨u0, u1, u2, u3, uf⟩ := four_of k3; obtain ⟨z0, z1, z2, z3, zf⟩ := four_of kb3; have hq4 := hq2.trans hq3; clear x0 x1 x2 x3 xf y0 y1 y2 y3 yf)
    | (go_at_call 76; refine (c76 _).mono ?_; rintro e w4 ⟨rfl, rfl⟩))
  have hfin := (hq4.far (gr_set w4 w1.heap.size 1 (.int .i64 N)) hrl (fun j hj => by injection hj with hj; omega)).far (gr_put4 _ w.heap.size 0 (.int .i64 c.toNat) (.int .i64 N) (.string ⟨#[]⟩) (.slice none 0 0)) hrl (fun j hj => by injection hj with hj; omega)
  unfold put4 at hfin
  simp [bodyPost, results, Try.results60, go_sem, u0, u1, u2, u3]
  exact ReadR.yes (v := .mk c.toNat N ⟨#[]⟩ []) hE.out (in_plain (by unfold I64; omega) hI (by decide) _ _) hfin
set_option maxHeartbeats 2000000 in
set_option maxRecDepth 20000 in
theorem within_num1_no (d : Nat) (w : World) (r : Nat) (c : UInt8) (t : List UInt8) (h : Rd w r (c :: t)) (hd : d ≤ 8) (pe : List UInt8 → R V) (hk : c.toNat = 1) (n : Int) (hp : pNum t = .error n) : Calls Try.prog 60 #[.pointer (some ⟨r, 0, none⟩), .int .i64 d] w (ReadR (pBody pe c.toNat t) r w) := by
  have hrl := h.lt
  have c52 := begin_yes _ r c t (h.alloc (.cells #[.int .i64 0, .int .i64 0, .string ⟨#[]⟩, .slice none 0 0] 31))
  have hc := c.toNat_lt
  have hE : Hid (pBody pe c.toNat t = .error n) := by show _ = _; unfold pBody; rw [if_pos (by omega), hp, thn_err]
  generalize pBody pe c.toNat t = S at *
  have c75 := fun w h => number75 w r t h
  rw [hp] at c75
  have c76 : ∀ w, Calls Try.prog 76 #[.int .u64 0] w fun e w' => e = .returned (.int .i64 0) ∧ w' = w := fun w => zag76 0 (by decide) w
  have k1f : ((c.toNat : Int) == 1) = true := by simp; omega
  clear hk hp
  go_enter Try.func60, Try.ntmps60
  go_wp2_with (first
    | (go_at_call 52; refine c52.mono ?_; rintro e w1 ⟨rfl, hq1⟩; have k1 := (hq1.1.block w.heap.size (by simp) (by intro e; injection e with e; omega)).trans (blk_new w _); have hs1 := hq1.1.size; rw [World.size_alloc] at hs1; have k2 := blk_old (o' := (.cells #[.int .i64 c.toNat, .int .i64 0, .string ⟨#[]⟩, .slice none 0 0] 31)) k1; have kb := blk_new w1 (.cells #[.int .i64 c.toNat, .int .i64 0, .string ⟨#[]⟩, .slice none 0 0] 31); have hq2 := hq1.low.bel (bel1 w1 (.cells #[.int .i64 c.toNat, .int .i64 0, .string ⟨#[]⟩, .slice none 0 0] 31)); obtain ⟨x0, x1, x2, x3, xf⟩ := four_of k2; obtain ⟨y0, y1, y2, y3, yf⟩ := four_of kb)
    | (go_at_call 75; refine (c75 _ hq2.2).mono ?_; rintro e w3 hrr; obtain ⟨hn0, rfl, hg3⟩ := numR_err hrr; clear hrr; have hs3 := hg3.size; rw [World.size_alloc] at hs3; have k3 := (hg3.block w.heap.size (by simp; omega) (by intro e; injection e with e; omega)).trans k2; have kb3 := (hg3.block w1.heap.size (by simp) (by intro e; injection e with e; omega)).trans kb; obtain ⟨u0, u1, u2, u3, uf⟩ := four_of k3; obtain ⟨z0, z1, z2, z3, zf⟩ := four_of kb3; have hg4 := hq2.1.trans hg3; clear x0 x1 x2 x3 xf y0 y1 y2 y3 yf)
    | (go_at_call 76; refine (c76 _).mono ?_; rintro e w4 ⟨rfl, rfl⟩))
  have hfin := grown_put (hg4.andThen (gr_set w4 w1.heap.size 1 (.int .i64 0)) fun j hj => .inl (by injection hj with hj; omega)) (Nat.le_refl _) (.int .i64 c.toNat) (.int .i64 0) (.string ⟨#[]⟩) (.slice none 0 0)
  unfold put4 at hfin
  simp [bodyPost, results, Try.results60, go_sem, u0, u1, u2, u3]
  exact ReadR.no hE.out hn0 hfin
set_option maxHeartbeats 2000000 in
set_option maxRecDepth 20000 in
theorem within_num6_yes (d : Nat) (w : World) (r : Nat) (c : UInt8) (t : List UInt8) (h : Rd w r (c :: t)) (hd : d ≤ 8) (pe : List UInt8 → R V) (hk : c.toNat = 6) (u : Nat) (q : List UInt8) (hp : pNum t = .ok (u, q)) : Calls Try.prog 60 #[.pointer (some ⟨r, 0, none⟩), .int .i64 d] w (ReadR (pBody pe c.toNat t) r w) := by
  have hrl := h.lt
  have c52 := begin_yes _ r c t (h.alloc (.cells #[.int .i64 0, .int .i64 0, .string ⟨#[]⟩, .slice none 0 0] 31))
  have hc := c.toNat_lt
  have hE : Hid (pBody pe c.toNat t = .ok (.mk c.toNat (min u 9223372036854775807 : Nat) ⟨#[]⟩ [], q)) := by show _ = _; unfold pBody; rw [if_neg (by omega), if_pos (by omega), hp, thn_ok]
  generalize pBody pe c.toNat t = S at *
  have c77 := fun w h => id77 w r t h
  rw [hp] at c77
  have hI : I64 ((min u 9223372036854775807 : Nat) : Int) := by unfold I64; omega
  clear hp
  have k1f : ((c.toNat : Int) == 1) = false := by simp; omega
  have k6f : ((c.toNat : Int) == 6) = true := by simp; omega
  clear hk
  go_enter Try.func60, Try.ntmps60
  go_wp2_with (first
    | (go_at_call 52; refine c52.mono ?_; rintro e w1 ⟨rfl, hq1⟩; have k1 := (hq1.1.block w.heap.size (by simp) (by intro e; injection e with e; omega)).trans (blk_new w _); have hs1 := hq1.1.size; rw [World.size_alloc] at hs1; have k2 := blk_old (o' := (.cells #[.int .i64 c.toNat, .int .i64 0, .string ⟨#[]⟩, .slice none 0 0] 31)) k1; have kb := blk_new w1 (.cells #[.int .i64 c.toNat, .int .i64 0, .string ⟨#[]⟩, .slice none 0 0] 31); have hq2 := hq1.low.bel (bel1 w1 (.cells #[.int .i64 c.toNat, .int .i64 0, .string ⟨#[]⟩, .slice none 0 0] 31)); obtain ⟨x0, x1, x2, x3, xf⟩ := four_of k2; obtain ⟨y0, y1, y2, y3, yf⟩ := four_of kb)
    | (go_at_call 77; refine (c77 _ hq2.2).mono ?_; rintro e w3 hrr; obtain ⟨rfl, hq3⟩ := idR_ok hrr; clear hrr; generalize ((min u 9223372036854775807 : Nat) : Int) = N at *; have hs3 := hq3.1.size; rw [World.size_alloc] at hs3; have k3 := (hq3.1.block w.heap.size (by simp; omega) (by intro e; injection e with e; omega)).trans k2; have kb3 := (hq3.1.block w1.heap.size (by simp) (by intro e; injection e with e; omega)).trans kb; obtain ⟨u0, u1, u2, u3, uf⟩ := four_of k3; obtain ⟨z0, z1, z2, z3, zf⟩ := four_of kb3; have hq4 := hq2.trans hq3; clear x0 x1 x2 x3 xf y0 y1 y2 y3 yf))
  have hfin := (hq4.far (gr_set w3 w1.heap.size 1 (.int .i64 N)) hrl (fun j hj => by injection hj with hj; omega)).far (gr_put4 _ w.heap.size 0 (.int .i64 c.toNat) (.int .i64 N) (.string ⟨#[]⟩) (.slice none 0 0)) hrl (fun j hj => by injection hj with hj; omega)
  unfold put4 at hfin
  simp [bodyPost, results, Try.results60, go_sem, u0, u1, u2, u3]
  exact ReadR.yes (v := .mk c.toNat N ⟨#[]⟩ []) hE.out (in_plain (by unfold I64; omega) hI (by decide) _ _) hfin
set_option maxHeartbeats 2000000 in
set_option maxRecDepth 20000 in
theorem within_num6_no (d : Nat) (w : World) (r : Nat) (c : UInt8) (t : List UInt8) (h : Rd w r (c :: t)) (hd : d ≤ 8) (pe : List UInt8 → R V) (hk : c.toNat = 6) (n : Int) (hp : pNum t = .error n) : Calls Try.prog 60 #[.pointer (some ⟨r, 0, none⟩), .int .i64 d] w (ReadR (pBody pe c.toNat t) r w) := by
  have hrl := h.lt
  have c52 := begin_yes _ r c t (h.alloc (.cells #[.int .i64 0, .int .i64 0, .string ⟨#[]⟩, .slice none 0 0] 31))
  have hc := c.toNat_lt
  have hE : Hid (pBody pe c.toNat t = .error n) := by show _ = _; unfold pBody; rw [if_neg (by omega), if_pos (by omega), hp, thn_err]
  generalize pBody pe c.toNat t = S at *
  have c77 := fun w h => id77 w r t h
  rw [hp] at c77
  have k1f : ((c.toNat : Int) == 1) = false := by simp; omega
  have k6f : ((c.toNat : Int) == 6) = true := by simp; omega
  clear hk hp
  go_enter Try.func60, Try.ntmps60
  go_wp2_with (first
    | (go_at_call 52; refine c52.mono ?_; rintro e w1 ⟨rfl, hq1⟩; have k1 := (hq1.1.block w.heap.size (by simp) (by intro e; injection e with e; omega)).trans (blk_new w _); have hs1 := hq1.1.size; rw [World.size_alloc] at hs1; have k2 := blk_old (o' := (.cells #[.int .i64 c.toNat, .int .i64 0, .string ⟨#[]⟩, .slice none 0 0] 31)) k1; have kb := blk_new w1 (.cells #[.int .i64 c.toNat, .int .i64 0, .string ⟨#[]⟩, .slice none 0 0] 31); have hq2 := hq1.low.bel (bel1 w1 (.cells #[.int .i64 c.toNat, .int .i64 0, .string ⟨#[]⟩, .slice none 0 0] 31)); obtain ⟨x0, x1, x2, x3, xf⟩ := four_of k2; obtain ⟨y0, y1, y2, y3, yf⟩ := four_of kb)
    | (go_at_call 77; refine (c77 _ hq2.2).mono ?_; rintro e w3 hrr; obtain ⟨hn0, rfl, hg3⟩ := idR_err hrr; clear hrr; have hs3 := hg3.size; rw [World.size_alloc] at hs3; have k3 := (hg3.block w.heap.size (by simp; omega) (by intro e; injection e with e; omega)).trans k2; have kb3 := (hg3.block w1.heap.size (by simp) (by intro e; injection e with e; omega)).trans kb; obtain ⟨u0, u1, u2, u3, uf⟩ := four_of k3; obtain ⟨z0, z1, z2, z3, zf⟩ := four_of kb3; have hg4 := hq2.1.trans hg3; clear x0 x1 x2 x3 xf y0 y1 y2 y3 yf))
  have hfin := grown_put (hg4.andThen (gr_set w3 w1.heap.size 1 (.int .i64 0)) fun j hj => .inl (by injection hj with hj; omega)) (Nat.le_refl _) (.int .i64 c.toNat) (.int .i64 0) (.string ⟨#[]⟩) (.slice none 0 0)
  unfold put4 at hfin
  simp [bodyPost, results, Try.results60, go_sem, u0, u1, u2, u3]
  exact ReadR.no hE.out hn0 hfin
set_option maxHeartbeats 2000000 in
set_option maxRecDepth 20000 in
theorem within_num7_yes (d : Nat) (w : World) (r : Nat) (c : UInt8) (t : List UInt8) (h : Rd w r (c :: t)) (hd : d ≤ 8) (pe : List UInt8 → R V) (hk : c.toNat = 7) (u : Nat) (q : List UInt8) (hp : pNum t = .ok (u, q)) : Calls Try.prog 60 #[.pointer (some ⟨r, 0, none⟩), .int .i64 d] w (ReadR (pBody pe c.toNat t) r w) := by
  have hrl := h.lt
  have c52 := begin_yes _ r c t (h.alloc (.cells #[.int .i64 0, .int .i64 0, .string ⟨#[]⟩, .slice none 0 0] 31))
  have hc := c.toNat_lt
  have hE : Hid (pBody pe c.toNat t = .ok (.mk c.toNat (min u 9223372036854775807 : Nat) ⟨#[]⟩ [], q)) := by show _ = _; unfold pBody; rw [if_neg (by omega), if_pos (by omega), hp, thn_ok]
  generalize pBody pe c.toNat t = S at *
  have c77 := fun w h => id77 w r t h
  rw [hp] at c77
  have hI : I64 ((min u 9223372036854775807 : Nat) : Int) := by unfold I64; omega
  clear hp
  have k1f : ((c.toNat : Int) == 1) = false := by simp; omega
  have k6f : ((c.toNat : Int) == 6) = false := by simp; omega
  have k7f : ((c.toNat : Int) == 7) = true := by simp; omega
  clear hk
  go_enter Try.func60, Try.ntmps60
  go_wp2_with (first
    | (go_at_call 52; refine c52.mono ?_; rintro e w1 ⟨rfl, hq1⟩; have k1 := (hq1.1.block w.heap.size (by simp) (by intro e; injection e with e; omega)).trans (blk_new w _); have hs1 := hq1.1.size; rw [World.size_alloc] at hs1; have k2 := blk_old (o' := (.cells #[.int .i64 c.toNat, .int .i64 0, .string ⟨#[]⟩, .slice none 0 0] 31)) k1; have kb := blk_new w1 (.cells #[.int .i64 c.toNat, .int .i64 0, .string ⟨#[]⟩, .slice none 0 0] 31); have hq2 := hq1.low.bel (bel1 w1 (.cells #[.int .i64 c.toNat, .int .i64 0, .string ⟨#[]⟩, .slice none 0 0] 31)); obtain ⟨x0, x1, x2, x3, xf⟩ := four_of k2; obtain ⟨y0, y1, y2, y3, yf⟩ := four_of kb)
    | (go_at_call 77; refine (c77 _ hq2.2).mono ?_; rintro e w3 hrr; obtain ⟨rfl, hq3⟩ := idR_ok hrr; clear hrr; generalize ((min u 9223372036854775807 : Nat) : Int) = N at *; have hs3 := hq3.1.size; rw [World.size_alloc] at hs3; have k3 := (hq3.1.block w.heap.size (by simp; omega) (by intro e; injection e with e; omega)).trans k2; have kb3 := (hq3.1.block w1.heap.size (by simp) (by intro e; injection e with e; omega)).trans kb; obtain ⟨u0, u1, u2, u3, uf⟩ := four_of k3; obtain ⟨z0, z1, z2, z3, zf⟩ := four_of kb3; have hq4 := hq2.trans hq3; clear x0 x1 x2 x3 xf y0 y1 y2 y3 yf))
  have hfin := (hq4.far (gr_set w3 w1.heap.size 1 (.int .i64 N)) hrl (fun j hj => by injection hj with hj; omega)).far (gr_put4 _ w.heap.size 0 (.int .i64 c.toNat) (.int .i64 N) (.string ⟨#[]⟩) (.slice none 0 0)) hrl (fun j hj => by injection hj with hj; omega)
  unfold put4 at hfin
  simp [bodyPost, results, Try.results60, go_sem, u0, u1, u2, u3]
  exact ReadR.yes (v := .mk c.toNat N ⟨#[]⟩ []) hE.out (in_plain (by unfold I64; omega) hI (by decide) _ _) hfin
set_option maxHeartbeats 2000000 in
set_option maxRecDepth 20000 in
theorem within_num7_no (d : Nat) (w : World) (r : Nat) (c : UInt8) (t : List UInt8) (h : Rd w r (c :: t)) (hd : d ≤ 8) (pe : List UInt8 → R V) (hk : c.toNat = 7) (n : Int) (hp : pNum t = .error n) : Calls Try.prog 60 #[.pointer (some ⟨r, 0, none⟩), .int .i64 d] w (ReadR (pBody pe c.toNat t) r w) := by
  have hrl := h.lt
  have c52 := begin_yes _ r c t (h.alloc (.cells #[.int .i64 0, .int .i64 0, .string ⟨#[]⟩, .slice none 0 0] 31))
  have hc := c.toNat_lt
  have hE : Hid (pBody pe c.toNat t = .error n) := by show _ = _; unfold pBody; rw [if_neg (by omega), if_pos (by omega), hp, thn_err]
  generalize pBody pe c.toNat t = S at *
  have c77 := fun w h => id77 w r t h
  rw [hp] at c77
  have k1f : ((c.toNat : Int) == 1) = false := by simp; omega
  have k6f : ((c.toNat : Int) == 6) = false := by simp; omega
  have k7f : ((c.toNat : Int) == 7) = true := by simp; omega
  clear hk hp
  go_enter Try.func60, Try.ntmps60
  go_wp2_with (first
    | (go_at_call 52; refine c52.mono ?_; rintro e w1 ⟨rfl, hq1⟩; have k1 := (hq1.1.block w.heap.size (by simp) (by intro e; injection e with e; omega)).trans (blk_new w _); have hs1 := hq1.1.size; rw [World.size_alloc] at hs1; have k2 := blk_old (o' := (.cells #[.int .i64 c.toNat, .int .i64 0, .string ⟨#[]⟩, .slice none 0 0] 31)) k1; have kb := blk_new w1 (.cells #[.int .i64 c.toNat, .int .i64 0, .string ⟨#[]⟩, .slice none 0 0] 31); have hq2 := hq1.low.bel (bel1 w1 (.cells #[.int .i64 c.toNat, .int .i64 0, .string ⟨#[]⟩, .slice none 0 0] 31)); obtain ⟨x0, x1, x2, x3, xf⟩ := four_of k2; obtain ⟨y0, y1, y2, y3, yf⟩ := four_of kb)
    | (go_at_call 77; refine (c77 _ hq2.2).mono ?_; rintro e w3 hrr; obtain ⟨hn0, rfl, hg3⟩ := idR_err hrr; clear hrr; have hs3 := hg3.size; rw [World.size_alloc] at hs3; have k3 := (hg3.block w.heap.size (by simp; omega) (by intro e; injection e with e; omega)).trans k2; have kb3 := (hg3.block w1.heap.size (by simp) (by intro e; injection e with e; omega)).trans kb; obtain ⟨u0, u1, u2, u3, uf⟩ := four_of k3; obtain ⟨z0, z1, z2, z3, zf⟩ := four_of kb3; have hg4 := hq2.1.trans hg3; clear x0 x1 x2 x3 xf y0 y1 y2 y3 yf))
  have hfin := grown_put (hg4.andThen (gr_set w3 w1.heap.size 1 (.int .i64 0)) fun j hj => .inl (by injection hj with hj; omega)) (Nat.le_refl _) (.int .i64 c.toNat) (.int .i64 0) (.string ⟨#[]⟩) (.slice none 0 0)
  unfold put4 at hfin
  simp [bodyPost, results, Try.results60, go_sem, u0, u1, u2, u3]
  exact ReadR.no hE.out hn0 hfin
theorem body_str {pe : List UInt8 → R V} {c : UInt8} (hk : c.toNat = 2) (t : List UInt8) : pBody pe c.toNat t = thn (pText t) fun s q => .ok (.mk 2 0 ⟨s.toArray⟩ [], q) := by
  unfold pBody pText pCount
  rw [if_neg (by omega), if_neg (by omega), if_neg (by omega), if_pos (by omega)]
  cases pNum t with
  | error e => rfl
  | ok y =>
    obtain ⟨u, s⟩ := y
    simp only [thn_ok]
    by_cases h1 : 128 < u
    · rw [if_pos h1, if_pos h1]; rfl
    · rw [if_neg h1, if_neg h1, thn_ok]
      by_cases h2 : s.length < u
      · rw [if_pos h2, if_pos h2]; rfl
      · rw [if_neg h2, if_neg h2]; rfl
theorem text_le {t s q : List UInt8} (h : pText t = .ok (s, q)) : s.length ≤ 128 := by
  unfold pText at h
  obtain ⟨u, x, h1, h2⟩ := thn_is h
  have := count_le h1
  by_cases hl : x.length < u
  · rw [if_pos hl] at h2; cases h2
  · rw [if_neg hl] at h2
    have := congrArg Prod.fst (Except.ok.inj h2)
    simp at this
    rw [← this, List.length_take]
    omega
set_option maxHeartbeats 2000000 in
set_option maxRecDepth 20000 in
theorem within_str_yes (d : Nat) (w : World) (r : Nat) (c : UInt8) (t : List UInt8) (h : Rd w r (c :: t)) (hd : d ≤ 8) (pe : List UInt8 → R V) (hk : c.toNat = 2) (s q : List UInt8) (hp : pText t = .ok (s, q)) : Calls Try.prog 60 #[.pointer (some ⟨r, 0, none⟩), .int .i64 d] w (ReadR (pBody pe c.toNat t) r w) := by
  have hrl := h.lt
  have c52 := begin_yes _ r c t (h.alloc (.cells #[.int .i64 0, .int .i64 0, .string ⟨#[]⟩, .slice none 0 0] 31))
  have hc := c.toNat_lt
  have hE : Hid (pBody pe c.toNat t = .ok (.mk c.toNat 0 ⟨s.toArray⟩ [], q)) := by show _ = _; rw [body_str hk, hp, thn_ok, show (c.toNat : Int) = 2 by omega]
  generalize pBody pe c.toNat t = S at *
  have hs : (⟨s.toArray⟩ : ByteArray).size ≤ 140737488351232 := by have := text_le hp; show s.toArray.size ≤ _; simp; omega
  have c78 := fun w h => text78 w r t h
  rw [hp] at c78
  have c78' := fun w h => (c78 w h).mono fun e w' h => txtR_ok h
  generalize (⟨s.toArray⟩ : ByteArray) = X at *
  have k1f : ((c.toNat : Int) == 1) = false := by simp; omega
  have k6f : ((c.toNat : Int) == 6) = false := by simp; omega
  have k7f : ((c.toNat : Int) == 7) = false := by simp; omega
  have k3f : ((c.toNat : Int) == 3) = false := by simp; omega
  have k2f : ((c.toNat : Int) == 2) = true := by simp; omega
  clear hk hp c78
  go_enter Try.func60, Try.ntmps60
  go_wp2_with (first
    | (go_at_call 52; refine c52.mono ?_; rintro e w1 ⟨rfl, hq1⟩; have k1 := (hq1.1.block w.heap.size (by simp) (by intro e; injection e with e; omega)).trans (blk_new w _); have hs1 := hq1.1.size; rw [World.size_alloc] at hs1; have k2 := blk_old (o' := (.cells #[.int .i64 c.toNat, .int .i64 0, .string ⟨#[]⟩, .slice none 0 0] 31)) k1; have kb := blk_new w1 (.cells #[.int .i64 c.toNat, .int .i64 0, .string ⟨#[]⟩, .slice none 0 0] 31); have hq2 := hq1.low.bel (bel1 w1 (.cells #[.int .i64 c.toNat, .int .i64 0, .string ⟨#[]⟩, .slice none 0 0] 31)); obtain ⟨x0, x1, x2, x3, xf⟩ := four_of k2; obtain ⟨y0, y1, y2, y3, yf⟩ := four_of kb)
    | (go_at_call 78; refine (c78' _ hq2.2).mono ?_; rintro e w3 ⟨rfl, hq3⟩; have hs3 := hq3.1.size; rw [World.size_alloc] at hs3; have k3 := (hq3.1.block w.heap.size (by simp; omega) (by intro e; injection e with e; omega)).trans k2; have kb3 := (hq3.1.block w1.heap.size (by simp) (by intro e; injection e with e; omega)).trans kb; obtain ⟨u0, u1, u2, u3, uf⟩ := four_of k3; obtain ⟨z0, z1, z2, z3, zf⟩ := four_of kb3; have hq4 := hq2.trans hq3; clear x0 x1 x2 x3 xf y0 y1 y2 y3 yf))
  have hfin := (hq4.far (gr_set w3 w1.heap.size 2 (.string X)) hrl (fun j hj => by injection hj with hj; omega)).far (gr_put4 _ w.heap.size 0 (.int .i64 c.toNat) (.int .i64 0) (.string X) (.slice none 0 0)) hrl (fun j hj => by injection hj with hj; omega)
  unfold put4 at hfin
  simp [bodyPost, results, Try.results60, go_sem, u0, u1, u2, u3]
  exact ReadR.yes (v := .mk c.toNat 0 X []) hE.out (in_plain (by unfold I64; omega) (by unfold I64; omega) hs _ _) hfin
set_option maxHeartbeats 2000000 in
set_option maxRecDepth 20000 in
theorem within_str_no (d : Nat) (w : World) (r : Nat) (c : UInt8) (t : List UInt8) (h : Rd w r (c :: t)) (hd : d ≤ 8) (pe : List UInt8 → R V) (hk : c.toNat = 2) (n : Int) (hp : pText t = .error n) : Calls Try.prog 60 #[.pointer (some ⟨r, 0, none⟩), .int .i64 d] w (ReadR (pBody pe c.toNat t) r w) := by
  have hrl := h.lt
  have c52 := begin_yes _ r c t (h.alloc (.cells #[.int .i64 0, .int .i64 0, .string ⟨#[]⟩, .slice none 0 0] 31))
  have hc := c.toNat_lt
  have hE : Hid (pBody pe c.toNat t = .error n) := by show _ = _; rw [body_str hk, hp, thn_err]
  generalize pBody pe c.toNat t = S at *
  have c78 := fun w h => text78 w r t h
  rw [hp] at c78
  have k1f : ((c.toNat : Int) == 1) = false := by simp; omega
  have k6f : ((c.toNat : Int) == 6) = false := by simp; omega
  have k7f : ((c.toNat : Int) == 7) = false := by simp; omega
  have k3f : ((c.toNat : Int) == 3) = false := by simp; omega
  have k2f : ((c.toNat : Int) == 2) = true := by simp; omega
  clear hk hp
  go_enter Try.func60, Try.ntmps60
  go_wp2_with (first
    | (go_at_call 52; refine c52.mono ?_; rintro e w1 ⟨rfl, hq1⟩; have k1 := (hq1.1.block w.heap.size (by simp) (by intro e; injection e with e; omega)).trans (blk_new w _); have hs1 := hq1.1.size; rw [World.size_alloc] at hs1; have k2 := blk_old (o' := (.cells #[.int .i64 c.toNat, .int .i64 0, .string ⟨#[]⟩, .slice none 0 0] 31)) k1; have kb := blk_new w1 (.cells #[.int .i64 c.toNat, .int .i64 0, .string ⟨#[]⟩, .slice none 0 0] 31); have hq2 := hq1.low.bel (bel1 w1 (.cells #[.int .i64 c.toNat, .int .i64 0, .string ⟨#[]⟩, .slice none 0 0] 31)); obtain ⟨x0, x1, x2, x3, xf⟩ := four_of k2; obtain ⟨y0, y1, y2, y3, yf⟩ := four_of kb)
    | (go_at_call 78; refine (c78 _ hq2.2).mono ?_; rintro e w3 hrr; obtain ⟨hn0, X, rfl, hg3⟩ := txtR_err hrr; clear hrr; have hs3 := hg3.size; rw [World.size_alloc] at hs3; have k3 := (hg3.block w.heap.size (by simp; omega) (by intro e; injection e with e; omega)).trans k2; have kb3 := (hg3.block w1.heap.size (by simp) (by intro e; injection e with e; omega)).trans kb; obtain ⟨u0, u1, u2, u3, uf⟩ := four_of k3; obtain ⟨z0, z1, z2, z3, zf⟩ := four_of kb3; have hg4 := hq2.1.trans hg3; clear x0 x1 x2 x3 xf y0 y1 y2 y3 yf))
  have hfin := grown_put (hg4.andThen (gr_set w3 w1.heap.size 2 (.string X)) fun j hj => .inl (by injection hj with hj; omega)) (Nat.le_refl _) (.int .i64 c.toNat) (.int .i64 0) (.string X) (.slice none 0 0)
  unfold put4 at hfin
  simp [bodyPost, results, Try.results60, go_sem, u0, u1, u2, u3]
  exact ReadR.no hE.out hn0 hfin
theorem body_list4 {pe : List UInt8 → R V} {c : UInt8} (hk : c.toNat = 4) (t : List UInt8) : pBody pe c.toNat t = thn (pList pe 256 t) fun l q => .ok (.mk 4 0 ⟨#[]⟩ l, q) := by
  unfold pBody pList pCount
  rw [if_neg (by omega), if_neg (by omega), if_neg (by omega), if_neg (by omega), if_pos (by omega)]
  cases pNum t with
  | error e => rfl
  | ok y =>
    obtain ⟨u, s⟩ := y
    simp only [thn_ok]
    by_cases h1 : 256 < u
    · rw [if_pos h1, if_pos h1]; rfl
    · rw [if_neg h1, if_neg h1, thn_ok]
set_option maxHeartbeats 2000000 in
set_option maxRecDepth 20000 in
theorem within_list4_yes (d : Nat) (w : World) (r : Nat) (c : UInt8) (t : List UInt8) (h : Rd w r (c :: t)) (hd : d ≤ 8) (pe : List UInt8 → R V) (h60 : ∀ (w : World) (r : Nat) (t : List UInt8), Rd w r t → Calls Try.prog 60 #[.pointer (some ⟨r, 0, none⟩), .int .i64 ((d + 1 : Nat) : Int)] w (ReadR (pe t) r w)) (hk : c.toNat = 4) (l : List V) (q : List UInt8) (hp : pList pe 256 t = .ok (l, q)) : Calls Try.prog 60 #[.pointer (some ⟨r, 0, none⟩), .int .i64 d] w (ReadR (pBody pe c.toNat t) r w) := by
  have hrl := h.lt
  have c52 := begin_yes _ r c t (h.alloc (.cells #[.int .i64 0, .int .i64 0, .string ⟨#[]⟩, .slice none 0 0] 31))
  have hc := c.toNat_lt
  have hE : Hid (pBody pe c.toNat t = .ok (.mk c.toNat 0 ⟨#[]⟩ l, q)) := by show _ = _; rw [body_list4 hk, hp, thn_ok, show (c.toNat : Int) = 4 by omega]
  generalize pBody pe c.toNat t = S at *
  have c79 := fun w h => list79 pe (d + 1) h60 256 (by decide) w r t h
  rw [hp, show ((d + 1 : Nat) : Int) = (d : Int) + 1 by omega, show ((256 : Nat) : Int) = 256 from rfl] at c79
  have k1f : ((c.toNat : Int) == 1) = false := by simp; omega
  have k6f : ((c.toNat : Int) == 6) = false := by simp; omega
  have k7f : ((c.toNat : Int) == 7) = false := by simp; omega
  have k3f : ((c.toNat : Int) == 3) = false := by simp; omega
  have k2f : ((c.toNat : Int) == 2) = false := by simp; omega
  have k4f : ((c.toNat : Int) == 4) = true := by simp; omega
  clear hk hp h60
  go_enter Try.func60, Try.ntmps60
  go_wp2_with (first
    | (go_at_call 52; refine c52.mono ?_; rintro e w1 ⟨rfl, hq1⟩; have k1 := (hq1.1.block w.heap.size (by simp) (by intro e; injection e with e; omega)).trans (blk_new w _); have hs1 := hq1.1.size; rw [World.size_alloc] at hs1; have k2 := blk_old (o' := (.cells #[.int .i64 c.toNat, .int .i64 0, .string ⟨#[]⟩, .slice none 0 0] 31)) k1; have kb := blk_new w1 (.cells #[.int .i64 c.toNat, .int .i64 0, .string ⟨#[]⟩, .slice none 0 0] 31); have hq2 := hq1.low.bel (bel1 w1 (.cells #[.int .i64 c.toNat, .int .i64 0, .string ⟨#[]⟩, .slice none 0 0] 31)); obtain ⟨x0, x1, x2, x3, xf⟩ := four_of k2; obtain ⟨y0, y1, y2, y3, yf⟩ := four_of kb)
    | (go_at_call 79; refine (c79 _ hq2.2).mono ?_; rintro e w3 hrr; obtain ⟨pv, nv, cv, rfl, hrow, hl, hq3⟩ := lstR_ok hrr; clear hrr; have hs3 := hq3.1.size; rw [World.size_alloc] at hs3; have k3 := (hq3.1.block w.heap.size (by simp; omega) (by intro e; injection e with e; omega)).trans k2; have kb3 := (hq3.1.block w1.heap.size (by simp) (by intro e; injection e with e; omega)).trans kb; obtain ⟨u0, u1, u2, u3, uf⟩ := four_of k3; obtain ⟨z0, z1, z2, z3, zf⟩ := four_of kb3; have hq4 := hq2.trans hq3; clear x0 x1 x2 x3 xf y0 y1 y2 y3 yf))
  have hin := hrow.val c.toNat (by unfold I64; omega) (by omega)
  rw [World.size_alloc] at hin
  have hin5 := V.In.keep (lo := w1.heap.size + 1) (lo' := w.heap.size) (w' := put4 (w3.setCell ⟨w1.heap.size, 3, none⟩ (.slice pv nv cv)) w.heap.size 0 (.int .i64 c.toNat) (.int .i64 0) (.string ⟨#[]⟩) (.slice pv nv cv)) (fun a u ha hc => set_other (set_other (set_other (set_other (set_other hc (.inl (by omega))) (.inl (by omega))) (.inl (by omega))) (.inl (by omega))) (.inl (by omega))) (by omega) _ _ hin
  have hfin := (hq4.far (gr_set w3 w1.heap.size 3 (.slice pv nv cv)) hrl (fun j hj => by injection hj with hj; omega)).far (gr_put4 _ w.heap.size 0 (.int .i64 c.toNat) (.int .i64 0) (.string ⟨#[]⟩) (.slice pv nv cv)) hrl (fun j hj => by injection hj with hj; omega)
  unfold put4 at hfin hin5
  simp [bodyPost, results, Try.results60, go_sem, u0, u1, u2, u3]
  exact .inl ⟨_, q, _, hE.out, rfl, hin5, hfin⟩
set_option maxHeartbeats 2000000 in
set_option maxRecDepth 20000 in
theorem within_list4_no (d : Nat) (w : World) (r : Nat) (c : UInt8) (t : List UInt8) (h : Rd w r (c :: t)) (hd : d ≤ 8) (pe : List UInt8 → R V) (h60 : ∀ (w : World) (r : Nat) (t : List UInt8), Rd w r t → Calls Try.prog 60 #[.pointer (some ⟨r, 0, none⟩), .int .i64 ((d + 1 : Nat) : Int)] w (ReadR (pe t) r w)) (hk : c.toNat = 4) (n : Int) (hp : pList pe 256 t = .error n) : Calls Try.prog 60 #[.pointer (some ⟨r, 0, none⟩), .int .i64 d] w (ReadR (pBody pe c.toNat t) r w) := by
  have hrl := h.lt
  have c52 := begin_yes _ r c t (h.alloc (.cells #[.int .i64 0, .int .i64 0, .string ⟨#[]⟩, .slice none 0 0] 31))
  have hc := c.toNat_lt
  have hE : Hid (pBody pe c.toNat t = .error n) := by show _ = _; rw [body_list4 hk, hp, thn_err]
  generalize pBody pe c.toNat t = S at *
  have c79 := fun w h => list79 pe (d + 1) h60 256 (by decide) w r t h
  rw [hp, show ((d + 1 : Nat) : Int) = (d : Int) + 1 by omega, show ((256 : Nat) : Int) = 256 from rfl] at c79
  have k1f : ((c.toNat : Int) == 1) = false := by simp; omega
  have k6f : ((c.toNat : Int) == 6) = false := by simp; omega
  have k7f : ((c.toNat : Int) == 7) = false := by simp; omega
  have k3f : ((c.toNat : Int) == 3) = false := by simp; omega
  have k2f : ((c.toNat : Int) == 2) = false := by simp; omega
  have k4f : ((c.toNat : Int) == 4) = true := by simp; omega
  clear hk hp h60
  go_enter Try.func60, Try.ntmps60
  go_wp2_with (first
    | (go_at_call 52; refine c52.mono ?_; rintro e w1 ⟨rfl, hq1⟩; have k1 := (hq1.1.block w.heap.size (by simp) (by intro e; injection e with e; omega)).trans (blk_new w _); have hs1 := hq1.1.size; rw [World.size_alloc] at hs1; have k2 := blk_old (o' := (.cells #[.int .i64 c.toNat, .int .i64 0, .string ⟨#[]⟩, .slice none 0 0] 31)) k1; have kb := blk_new w1 (.cells #[.int .i64 c.toNat, .int .i64 0, .string ⟨#[]⟩, .slice none 0 0] 31); have hq2 := hq1.low.bel (bel1 w1 (.cells #[.int .i64 c.toNat, .int .i64 0, .string ⟨#[]⟩, .slice none 0 0] 31)); obtain ⟨x0, x1, x2, x3, xf⟩ := four_of k2; obtain ⟨y0, y1, y2, y3, yf⟩ := four_of kb)
    | (go_at_call 79; refine (c79 _ hq2.2).mono ?_; rintro e w3 hrr; obtain ⟨hn0, rfl, hg3⟩ := lstR_err hrr; clear hrr; have hs3 := hg3.size; rw [World.size_alloc] at hs3; have k3 := (hg3.block w.heap.size (by simp; omega) (by intro e; injection e with e; omega)).trans k2; have kb3 := (hg3.block w1.heap.size (by simp) (by intro e; injection e with e; omega)).trans kb; obtain ⟨u0, u1, u2, u3, uf⟩ := four_of k3; obtain ⟨z0, z1, z2, z3, zf⟩ := four_of kb3; have hg4 := hq2.1.trans hg3; clear x0 x1 x2 x3 xf y0 y1 y2 y3 yf))
  have hfin := grown_put (hg4.andThen (gr_set w3 w1.heap.size 3 (.slice none 0 0)) fun j hj => .inl (by injection hj with hj; omega)) (Nat.le_refl _) (.int .i64 c.toNat) (.int .i64 0) (.string ⟨#[]⟩) (.slice none 0 0)
  unfold put4 at hfin
  simp [bodyPost, results, Try.results60, go_sem, u0, u1, u2, u3]
  exact ReadR.no hE.out hn0 hfin
theorem body_list5 {pe : List UInt8 → R V} {c : UInt8} (hk : c.toNat = 5) (t : List UInt8) : pBody pe c.toNat t = thn (pList pe 512 t) fun l q => .ok (.mk 5 0 ⟨#[]⟩ l, q) := by
  unfold pBody pList pCount
  rw [if_neg (by omega), if_neg (by omega), if_neg (by omega), if_neg (by omega), if_neg (by omega), if_pos (by omega)]
  cases pNum t with
  | error e => rfl
  | ok y =>
    obtain ⟨u, s⟩ := y
    simp only [thn_ok]
    by_cases h1 : 512 < u
    · rw [if_pos h1, if_pos h1]; rfl
    · rw [if_neg h1, if_neg h1, thn_ok]
set_option maxHeartbeats 2000000 in
set_option maxRecDepth 20000 in
theorem within_list5_yes (d : Nat) (w : World) (r : Nat) (c : UInt8) (t : List UInt8) (h : Rd w r (c :: t)) (hd : d ≤ 8) (pe : List UInt8 → R V) (h60 : ∀ (w : World) (r : Nat) (t : List UInt8), Rd w r t → Calls Try.prog 60 #[.pointer (some ⟨r, 0, none⟩), .int .i64 ((d + 1 : Nat) : Int)] w (ReadR (pe t) r w)) (hk : c.toNat = 5) (l : List V) (q : List UInt8) (hp : pList pe 512 t = .ok (l, q)) : Calls Try.prog 60 #[.pointer (some ⟨r, 0, none⟩), .int .i64 d] w (ReadR (pBody pe c.toNat t) r w) := by
  have hrl := h.lt
  have c52 := begin_yes _ r c t (h.alloc (.cells #[.int .i64 0, .int .i64 0, .string ⟨#[]⟩, .slice none 0 0] 31))
  have hc := c.toNat_lt
  have hE : Hid (pBody pe c.toNat t = .ok (.mk c.toNat 0 ⟨#[]⟩ l, q)) := by show _ = _; rw [body_list5 hk, hp, thn_ok, show (c.toNat : Int) = 5 by omega]
  generalize pBody pe c.toNat t = S at *
  have c79 := fun w h => list79 pe (d + 1) h60 512 (by decide) w r t h
  rw [hp, show ((d + 1 : Nat) : Int) = (d : Int) + 1 by omega, show ((512 : Nat) : Int) = 512 from rfl] at c79
  have k1f : ((c.toNat : Int) == 1) = false := by simp; omega
  have k6f : ((c.toNat : Int) == 6) = false := by simp; omega
  have k7f : ((c.toNat : Int) == 7) = false := by simp; omega
  have k3f : ((c.toNat : Int) == 3) = false := by simp; omega
  have k2f : ((c.toNat : Int) == 2) = false := by simp; omega
  have k4f : ((c.toNat : Int) == 4) = false := by simp; omega
  have k5f : ((c.toNat : Int) == 5) = true := by simp; omega
  clear hk hp h60
  go_enter Try.func60, Try.ntmps60
  go_wp2_with (first
    | (go_at_call 52; refine c52.mono ?_; rintro e w1 ⟨rfl, hq1⟩; have k1 := (hq1.1.block w.heap.size (by simp) (by intro e; injection e with e; omega)).trans (blk_new w _); have hs1 := hq1.1.size; rw [World.size_alloc] at hs1; have k2 := blk_old (o' := (.cells #[.int .i64 c.toNat, .int .i64 0, .string ⟨#[]⟩, .slice none 0 0] 31)) k1; have kb := blk_new w1 (.cells #[.int .i64 c.toNat, .int .i64 0, .string ⟨#[]⟩, .slice none 0 0] 31); have hq2 := hq1.low.bel (bel1 w1 (.cells #[.int .i64 c.toNat, .int .i64 0, .string ⟨#[]⟩, .slice none 0 0] 31)); obtain ⟨x0, x1, x2, x3, xf⟩ := four_of k2; obtain ⟨y0, y1, y2, y3, yf⟩ := four_of kb)
    | (go_at_call 79; refine (c79 _ hq2.2).mono ?_; rintro e w3 hrr; obtain ⟨pv, nv, cv, rfl, hrow, hl, hq3⟩ := lstR_ok hrr; clear hrr; have hs3 := hq3.1.size; rw [World.size_alloc] at hs3; have k3 := (hq3.1.block w.heap.size (by simp; omega) (by intro e; injection e with e; omega)).trans k2; have kb3 := (hq3.1.block w1.heap.size (by simp) (by intro e; injection e with e; omega)).trans kb; obtain ⟨u0, u1, u2, u3, uf⟩ := four_of k3; obtain ⟨z0, z1, z2, z3, zf⟩ := four_of kb3; have hq4 := hq2.trans hq3; clear x0 x1 x2 x3 xf y0 y1 y2 y3 yf))
  have hin := hrow.val c.toNat (by unfold I64; omega) (by omega)
  rw [World.size_alloc] at hin
  have hin5 := V.In.keep (lo := w1.heap.size + 1) (lo' := w.heap.size) (w' := put4 (w3.setCell ⟨w1.heap.size, 3, none⟩ (.slice pv nv cv)) w.heap.size 0 (.int .i64 c.toNat) (.int .i64 0) (.string ⟨#[]⟩) (.slice pv nv cv)) (fun a u ha hc => set_other (set_other (set_other (set_other (set_other hc (.inl (by omega))) (.inl (by omega))) (.inl (by omega))) (.inl (by omega))) (.inl (by omega))) (by omega) _ _ hin
  have hfin := (hq4.far (gr_set w3 w1.heap.size 3 (.slice pv nv cv)) hrl (fun j hj => by injection hj with hj; omega)).far (gr_put4 _ w.heap.size 0 (.int .i64 c.toNat) (.int .i64 0) (.string ⟨#[]⟩) (.slice pv nv cv)) hrl (fun j hj => by injection hj with hj; omega)
  unfold put4 at hfin hin5
  simp [bodyPost, results, Try.results60, go_sem, u0, u1, u2, u3]
  exact .inl ⟨_, q, _, hE.out, rfl, hin5, hfin⟩
set_option maxHeartbeats 2000000 in
set_option maxRecDepth 20000 in
theorem within_list5_no (d : Nat) (w : World) (r : Nat) (c : UInt8) (t : List UInt8) (h : Rd w r (c :: t)) (hd : d ≤ 8) (pe : List UInt8 → R V) (h60 : ∀ (w : World) (r : Nat) (t : List UInt8), Rd w r t → Calls Try.prog 60 #[.pointer (some ⟨r, 0, none⟩), .int .i64 ((d + 1 : Nat) : Int)] w (ReadR (pe t) r w)) (hk : c.toNat = 5) (n : Int) (hp : pList pe 512 t = .error n) : Calls Try.prog 60 #[.pointer (some ⟨r, 0, none⟩), .int .i64 d] w (ReadR (pBody pe c.toNat t) r w) := by
  have hrl := h.lt
  have c52 := begin_yes _ r c t (h.alloc (.cells #[.int .i64 0, .int .i64 0, .string ⟨#[]⟩, .slice none 0 0] 31))
  have hc := c.toNat_lt
  have hE : Hid (pBody pe c.toNat t = .error n) := by show _ = _; rw [body_list5 hk, hp, thn_err]
  generalize pBody pe c.toNat t = S at *
  have c79 := fun w h => list79 pe (d + 1) h60 512 (by decide) w r t h
  rw [hp, show ((d + 1 : Nat) : Int) = (d : Int) + 1 by omega, show ((512 : Nat) : Int) = 512 from rfl] at c79
  have k1f : ((c.toNat : Int) == 1) = false := by simp; omega
  have k6f : ((c.toNat : Int) == 6) = false := by simp; omega
  have k7f : ((c.toNat : Int) == 7) = false := by simp; omega
  have k3f : ((c.toNat : Int) == 3) = false := by simp; omega
  have k2f : ((c.toNat : Int) == 2) = false := by simp; omega
  have k4f : ((c.toNat : Int) == 4) = false := by simp; omega
  have k5f : ((c.toNat : Int) == 5) = true := by simp; omega
  clear hk hp h60
  go_enter Try.func60, Try.ntmps60
  go_wp2_with (first
    | (go_at_call 52; refine c52.mono ?_; rintro e w1 ⟨rfl, hq1⟩; have k1 := (hq1.1.block w.heap.size (by simp) (by intro e; injection e with e; omega)).trans (blk_new w _); have hs1 := hq1.1.size; rw [World.size_alloc] at hs1; have k2 := blk_old (o' := (.cells #[.int .i64 c.toNat, .int .i64 0, .string ⟨#[]⟩, .slice none 0 0] 31)) k1; have kb := blk_new w1 (.cells #[.int .i64 c.toNat, .int .i64 0, .string ⟨#[]⟩, .slice none 0 0] 31); have hq2 := hq1.low.bel (bel1 w1 (.cells #[.int .i64 c.toNat, .int .i64 0, .string ⟨#[]⟩, .slice none 0 0] 31)); obtain ⟨x0, x1, x2, x3, xf⟩ := four_of k2; obtain ⟨y0, y1, y2, y3, yf⟩ := four_of kb)
    | (go_at_call 79; refine (c79 _ hq2.2).mono ?_; rintro e w3 hrr; obtain ⟨hn0, rfl, hg3⟩ := lstR_err hrr; clear hrr; have hs3 := hg3.size; rw [World.size_alloc] at hs3; have k3 := (hg3.block w.heap.size (by simp; omega) (by intro e; injection e with e; omega)).trans k2; have kb3 := (hg3.block w1.heap.size (by simp) (by intro e; injection e with e; omega)).trans kb; obtain ⟨u0, u1, u2, u3, uf⟩ := four_of k3; obtain ⟨z0, z1, z2, z3, zf⟩ := four_of kb3; have hg4 := hq2.1.trans hg3; clear x0 x1 x2 x3 xf y0 y1 y2 y3 yf))
  have hfin := grown_put (hg4.andThen (gr_set w3 w1.heap.size 3 (.slice none 0 0)) fun j hj => .inl (by injection hj with hj; omega)) (Nat.le_refl _) (.int .i64 c.toNat) (.int .i64 0) (.string ⟨#[]⟩) (.slice none 0 0)
  unfold put4 at hfin
  simp [bodyPost, results, Try.results60, go_sem, u0, u1, u2, u3]
  exact ReadR.no hE.out hn0 hfin
/-- A value so deep. -/
theorem within60 : ∀ (n d : Nat), d + n = 9 → ∀ (w : World) (r : Nat) (t : List UInt8), Rd w r t → Calls Try.prog 60 #[.pointer (some ⟨r, 0, none⟩), .int .i64 d] w (ReadR (pVal n t) r w)
  | n, d, _, w, r, [], h => by
    have : pVal n [] = .error 11 := by cases n <;> rfl
    rw [this]
    exact within_nil d w r h
  | 0, d, hd, w, r, c :: t, h => within_deep d w r c t h (by omega)
  | n + 1, d, hd, w, r, c :: t, h => by
    have hd8 : d ≤ 8 := by omega
    have h60 := within60 n (d + 1) (by omega)
    show Calls Try.prog 60 _ w (ReadR (pBody (pVal n) c.toNat t) r w)
    by_cases h1 : c.toNat = 1
    · cases hp : pNum t with
      | error m => exact within_num1_no d w r c t h hd8 _ h1 m hp
      | ok y => obtain ⟨u, q⟩ := y; exact within_num1_yes d w r c t h hd8 _ h1 u q hp
    by_cases h6 : c.toNat = 6
    · cases hp : pNum t with
      | error m => exact within_num6_no d w r c t h hd8 _ h6 m hp
      | ok y => obtain ⟨u, q⟩ := y; exact within_num6_yes d w r c t h hd8 _ h6 u q hp
    by_cases h7 : c.toNat = 7
    · cases hp : pNum t with
      | error m => exact within_num7_no d w r c t h hd8 _ h7 m hp
      | ok y => obtain ⟨u, q⟩ := y; exact within_num7_yes d w r c t h hd8 _ h7 u q hp
    by_cases h3 : c.toNat = 3
    · cases t with
      | nil => exact within_bool_no d w r c [] h hd8 _ h3 rfl
      | cons x s => exact within_bool_yes d w r c (x :: s) h hd8 _ x s h3 rfl
    by_cases h2 : c.toNat = 2
    · cases hp : pText t with
      | error m => exact within_str_no d w r c t h hd8 _ h2 m hp
      | ok y => obtain ⟨s, q⟩ := y; exact within_str_yes d w r c t h hd8 _ h2 s q hp
    by_cases h4 : c.toNat = 4
    · cases hp : pList (pVal n) 256 t with
      | error m => exact within_list4_no d w r c t h hd8 _ h60 h4 m hp
      | ok y => obtain ⟨l, q⟩ := y; exact within_list4_yes d w r c t h hd8 _ h60 h4 l q hp
    by_cases h5 : c.toNat = 5
    · cases hp : pList (pVal n) 512 t with
      | error m => exact within_list5_no d w r c t h hd8 _ h60 h5 m hp
      | ok y => obtain ⟨l, q⟩ := y; exact within_list5_yes d w r c t h hd8 _ h60 h5 l q hp
    exact within_other d w r c t h hd8 _ ⟨h1, h6, h7, h3, h2, h4, h5⟩
end Go.Proofs.Ytekfbijkalamkaa
