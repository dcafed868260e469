/-
  The reader of package codec: a value as it stands in a key; Take, Values.
-/
import Derived.Test.YtbgikgeknnmelaaGreatRdrB
namespace Go.Proofs.YtbgikgeknnmelaaGreat
open Go.RowKit
set_option linter.unusedVariables false      -- a walk need not use every condition

theorem Bs.at8 {w : World} {v : Value} {x0 x1 x2 x3 x4 x5 x6 x7 : UInt8} (h : Bs w v [x0, x1, x2, x3, x4, x5, x6, x7]) : ∃ g o cap, v = .slice (some ⟨g, o, none⟩) 8 cap ∧
    w.cell? ⟨g, o, none⟩ = some (.int .u8 x0.toNat) ∧ w.cell? ⟨g, o + 1, none⟩ = some (.int .u8 x1.toNat) ∧ w.cell? ⟨g, o + 2, none⟩ = some (.int .u8 x2.toNat) ∧ w.cell? ⟨g, o + 3, none⟩ = some (.int .u8 x3.toNat) ∧
    w.cell? ⟨g, o + 4, none⟩ = some (.int .u8 x4.toNat) ∧ w.cell? ⟨g, o + 5, none⟩ = some (.int .u8 x5.toNat) ∧ w.cell? ⟨g, o + 6, none⟩ = some (.int .u8 x6.toNat) ∧ w.cell? ⟨g, o + 7, none⟩ = some (.int .u8 x7.toNat) := by
  obtain ⟨p, cap, rfl, h1, h2, h3, h4⟩ := h
  rcases h4 with h4 | ⟨g, o, rfl, hc⟩
  · cases h4
  · exact ⟨g, o, cap, rfl, hc 0 (by simp), hc 1 (by simp), hc 2 (by simp), hc 3 (by simp), hc 4 (by simp), hc 5 (by simp), hc 6 (by simp), hc 7 (by simp)⟩
theorem eight_list {l : List UInt8} (h : l.length = 8) : ∃ x0 x1 x2 x3 x4 x5 x6 x7, l = [x0, x1, x2, x3, x4, x5, x6, x7] := by
  match l, h with
  | [x0, x1, x2, x3, x4, x5, x6, x7], _ => exact ⟨x0, x1, x2, x3, x4, x5, x6, x7, rfl⟩
set_option maxHeartbeats 1000000 in
theorem word_no (w : World) (r : Nat) (t : List UInt8) (h : Rd w r t) (ht : t.length < 8) :
    Calls Tryz.prog 127 #[.pointer (some ⟨r, 0, none⟩)] w fun e w' => e = .returned (.tuple #[.int .i64 0, .int .i64 11]) ∧ w' = w := by
  have c69 := pass_no w r t h 8 ht
  go_enter Tryz.func127, Tryz.ntmps127
  go_wp2_with (go_at_call 141; refine c69.mono ?_; rintro e w' ⟨rfl, rfl⟩)
  go_ret2
  exact ⟨rfl, rfl⟩
theorem arrayAt8 (g o cap : Nat) (w : World) : (Instr.arrayAt 142 (.slice (some ⟨g, o, none⟩) 8 cap)).run Tryz.prog w = .ok (.pointer (some ⟨g, o, none⟩)) w := by
  simp [Instr.arrayAt, run_underlying Tryz.underlying142]
set_option maxHeartbeats 1000000 in
set_option maxRecDepth 20000 in
theorem word_yes (w : World) (r : Nat) (t : List UInt8) (h : Rd w r t) (ht : 8 ≤ t.length) :
    Calls Tryz.prog 127 #[.pointer (some ⟨r, 0, none⟩)] w fun e w' => e = .returned (.tuple #[.int .i64 (wordI (deN (t.take 8))), .int .i64 0]) ∧ Rq r (t.drop 8) w w' := by
  have c69 := pass_yes w r t h 8 ht
  obtain ⟨x0, x1, x2, x3, x4, x5, x6, x7, hx⟩ := eight_list (l := t.take 8) (by simp; omega)
  have c70 := fun w => number142 [x0, x1, x2, x3, x4, x5, x6, x7] rfl w
  rw [hx] at c69 ⊢
  unfold arr8 at c70
  simp only [List.map_cons, List.map_nil] at c70
  generalize wordI (deN [x0, x1, x2, x3, x4, x5, x6, x7]) = N at *
  have hat := fun g o cap w => arrayAt8 g o cap w
  clear hx
  go_enter Tryz.func127, Tryz.ntmps127
  go_wp2_with (first
    | (go_at_call 141; refine c69.mono ?_; rintro e w1 ⟨v, rfl, hb, hq⟩; obtain ⟨g, o, cap, rfl, y0, y1, y2, y3, y4, y5, y6, y7⟩ := hb.1.at8)
    | (go_at_call 142; refine (c70 _).mono ?_; rintro e w2 ⟨rfl, hB2⟩))
  go_ret2
  exact ⟨rfl, hq.bel hB2⟩

/-- What a method that reads a value comes to. -/
def ReadR (spec : R V) (r : Nat) (w : World) (e : Ending) (w' : World) : Prop :=
  (∃ v q sl, spec = .ok (v, q) ∧ e = .returned (.tuple #[v.agg sl, .int .i64 0]) ∧ v.In w' w.heap.size sl ∧ Rq r q w w') ∨
    (∃ n a b s p c d, spec = .error n ∧ n ≠ 0 ∧ e = .returned (.tuple #[.agg #[.int .i64 a, .int .i64 b, .string s, .slice p c d], .int .i64 n]) ∧ w.grownBy w' (some r))
theorem ReadR.yes {spec : R V} {r : Nat} {w w' : World} {v : V} {q : List UInt8} (hs : spec = .ok (v, q)) (hin : v.In w' w.heap.size (.slice none 0 0)) (hq : Rq r q w w') : ReadR spec r w (.returned (.tuple #[.agg #[.int .i64 v.k, .int .i64 v.n, .string v.s, .slice none 0 0], .int .i64 0])) w' :=
  .inl ⟨v, q, _, hs, rfl, hin, hq⟩
theorem ReadR.no {spec : R V} {r : Nat} {w w' : World} {n : Int} (hs : spec = .error n) (hn : n ≠ 0) {a b : Int} {s : ByteArray} {p : Option Addr} {c d : Nat} (hq : w.grownBy w' (some r)) : ReadR spec r w (.returned (.tuple #[.agg #[.int .i64 a, .int .i64 b, .string s, .slice p c d], .int .i64 n])) w' :=
  .inr ⟨n, a, b, s, p, c, d, hs, hn, rfl, hq⟩
theorem grown_put {w w1 : World} {r g : Nat} (h : w.grownBy w1 (some r)) (hg : w.heap.size ≤ g) (a b c d : Value) : w.grownBy (put4 w1 g 0 a b c d) (some r) :=
  h.andThen (gr_put4 w1 g 0 a b c d) fun j hj => .inl (by injection hj with hj; omega)

/-- The kind's byte told. -/
theorem kind_ne {c : UInt8} {n : Nat} (h : c.toNat ≠ n) : ((c.toNat : Int) == (n : Int)) = false := by simp; omega
theorem kind_eq {c : UInt8} {n : Nat} (h : c.toNat = n) : ((c.toNat : Int) == (n : Int)) = true := by simp; omega
set_option maxHeartbeats 1000000 in
set_option maxRecDepth 20000 in
theorem form_nil (w : World) (r : Nat) (h : Rd w r []) : Calls Tryz.prog 113 #[.pointer (some ⟨r, 0, none⟩)] w (ReadR (pForm []) r w) := by
  have hrl := h.lt
  have c52 := begin_no _ r (h.alloc (.cells #[.int .i64 0, .int .i64 0, .string ⟨#[]⟩, .slice none 0 0] 29))
  go_enter Tryz.func113, Tryz.ntmps113
  go_wp2_with (go_at_call 126; refine c52.mono ?_; rintro e w1 ⟨rfl, hB1⟩; have k1 := blk_on hB1 (blk_new w _); have hs1 := hB1.size; rw [World.size_alloc] at hs1; obtain ⟨x0, x1, x2, x3, xf⟩ := four_of (blk_old (o' := .cells #[.int .i64 0, .int .i64 0, .string ⟨#[]⟩, .slice none 0 0] 29) k1))
  have hg1 : w.grownBy (w1.alloc (.cells #[.int .i64 0, .int .i64 0, .string ⟨#[]⟩, .slice none 0 0] 29)) (some r) := ((World.grownBy_alloc w _ (some r)).trans (gr_bel hB1 (some r))).trans (World.grownBy_alloc w1 _ (some r))
  have hfin := grown_put hg1 (Nat.le_refl _) (.int .i64 0) (.int .i64 0) (.string ⟨#[]⟩) (.slice none 0 0)
  unfold put4 at hfin
  simp [bodyPost, results, Tryz.results113, go_sem, x0, x1, x2, x3]
  exact ReadR.no rfl (by decide) hfin
set_option maxHeartbeats 1000000 in
set_option maxRecDepth 20000 in
theorem form_num1_no (w : World) (r : Nat) (c : UInt8) (t : List UInt8) (h : Rd w r (c :: t)) (hk : c.toNat = 1) (ht : t.length < 8) : Calls Tryz.prog 113 #[.pointer (some ⟨r, 0, none⟩)] w (ReadR (pForm (c :: t)) r w) := by
  have hrl := h.lt
  have c52 := begin_yes _ r c t (h.alloc (.cells #[.int .i64 0, .int .i64 0, .string ⟨#[]⟩, .slice none 0 0] 29))
  have hc := c.toNat_lt
  have hE : Hid (pForm (c :: t) = .error 11) := by show _ = _; simp only [pForm]; rw [if_pos (by omega), if_pos ht]
  have c53 := fun w h => word_no w r t h ht
  have k1f : ((c.toNat : Int) == 1) = true := by simp; omega
  clear hk
  go_enter Tryz.func113, Tryz.ntmps113
  go_wp2_with (first
    | (go_at_call 126; refine c52.mono ?_; rintro e w1 ⟨rfl, hq1⟩; have k1 := (hq1.1.block w.heap.size (by simp) (by intro e; injection e with e; omega)).trans (blk_new w _); have hs1 := hq1.1.size; rw [World.size_alloc] at hs1; have k2 := blk_old (o' := (.cells #[.int .i64 c.toNat, .int .i64 0, .string ⟨#[]⟩, .slice none 0 0] 29)) k1; have kb := blk_new w1 (.cells #[.int .i64 c.toNat, .int .i64 0, .string ⟨#[]⟩, .slice none 0 0] 29); have hq2 := hq1.low.bel (bel1 w1 (.cells #[.int .i64 c.toNat, .int .i64 0, .string ⟨#[]⟩, .slice none 0 0] 29)); obtain ⟨x0, x1, x2, x3, xf⟩ := four_of k2; obtain ⟨y0, y1, y2, y3, yf⟩ := four_of kb)
    | (go_at_call 127; refine (c53 _ hq2.2).mono ?_; rintro e w3 ⟨rfl, rfl⟩))
  have hfin := grown_put hq2.1 (Nat.le_refl _) (.int .i64 c.toNat) (.int .i64 0) (.string ⟨#[]⟩) (.slice none 0 0)
  unfold put4 at hfin
  simp [bodyPost, results, Tryz.results113, go_sem, x0, x1, x2, x3]
  exact ReadR.no hE.out (by decide) hfin
set_option maxHeartbeats 1000000 in
set_option maxRecDepth 20000 in
theorem form_num1_yes (w : World) (r : Nat) (c : UInt8) (t : List UInt8) (h : Rd w r (c :: t)) (hk : c.toNat = 1) (ht : 8 ≤ t.length) : Calls Tryz.prog 113 #[.pointer (some ⟨r, 0, none⟩)] w (ReadR (pForm (c :: t)) r w) := by
  have hrl := h.lt
  have c52 := begin_yes _ r c t (h.alloc (.cells #[.int .i64 0, .int .i64 0, .string ⟨#[]⟩, .slice none 0 0] 29))
  have hc := c.toNat_lt
  have hE : Hid (pForm (c :: t) = .ok (.mk c.toNat (wordI (deN (t.take 8))) ⟨#[]⟩ [], t.drop 8)) := by show _ = _; simp only [pForm]; rw [if_pos (by omega), if_neg (by omega)]
  have c53 := fun w h => word_yes w r t h ht
  have hI : I64 (wordI (deN (t.take 8))) := wordI_i64 (by have := deN_lt (t.take 8); rwa [List.length_take, Nat.min_eq_left ht] at this)
  generalize wordI (deN (t.take 8)) = N at *
  generalize t.drop 8 = T at *
  have k1f : ((c.toNat : Int) == 1) = true := by simp; omega
  clear hk
  go_enter Tryz.func113, Tryz.ntmps113
  go_wp2_with (first
    | (go_at_call 126; refine c52.mono ?_; rintro e w1 ⟨rfl, hq1⟩; have k1 := (hq1.1.block w.heap.size (by simp) (by intro e; injection e with e; omega)).trans (blk_new w _); have hs1 := hq1.1.size; rw [World.size_alloc] at hs1; have k2 := blk_old (o' := (.cells #[.int .i64 c.toNat, .int .i64 0, .string ⟨#[]⟩, .slice none 0 0] 29)) k1; have kb := blk_new w1 (.cells #[.int .i64 c.toNat, .int .i64 0, .string ⟨#[]⟩, .slice none 0 0] 29); have hq2 := hq1.low.bel (bel1 w1 (.cells #[.int .i64 c.toNat, .int .i64 0, .string ⟨#[]⟩, .slice none 0 0] 29)); obtain ⟨x0, x1, x2, x3, xf⟩ := four_of k2; obtain ⟨y0, y1, y2, y3, yf⟩ := four_of kb)
    | (go_at_call 127; refine (c53 _ hq2.2).mono ?_; rintro e w3 ⟨rfl, hq3⟩; have hs3 := hq3.1.size; rw [World.size_alloc] at hs3; have k3 := (hq3.1.block w.heap.size (by simp; omega) (by intro e; injection e with e; omega)).trans k2; have kb3 := (hq3.1.block w1.heap.size (by simp) (by intro e; injection e with e; omega)).trans kb; obtain ⟨u0, u1, u2, u3, uf⟩ := four_of k3; obtain ⟨z0, z1, z2, z3, zf⟩ := four_of kb3; have hq4 := hq2.trans hq3; clear x0 x1 x2 x3 xf y0 y1 y2 y3 yf))
  have hfin := (hq4.far (gr_set w3 w1.heap.size 1 (.int .i64 N)) hrl (fun j hj => by injection hj with hj; omega)).far (gr_put4 _ w.heap.size 0 (.int .i64 c.toNat) (.int .i64 N) (.string ⟨#[]⟩) (.slice none 0 0)) hrl (fun j hj => by injection hj with hj; omega)
  unfold put4 at hfin
  simp [bodyPost, results, Tryz.results113, go_sem, u0, u1, u2, u3]
  exact ReadR.yes (v := .mk c.toNat N ⟨#[]⟩ []) hE.out (in_plain (by unfold I64; omega) hI (by decide) _ _) hfin
set_option maxHeartbeats 1000000 in
set_option maxRecDepth 20000 in
theorem form_num6_no (w : World) (r : Nat) (c : UInt8) (t : List UInt8) (h : Rd w r (c :: t)) (hk : c.toNat = 6) (ht : t.length < 8) : Calls Tryz.prog 113 #[.pointer (some ⟨r, 0, none⟩)] w (ReadR (pForm (c :: t)) r w) := by
  have hrl := h.lt
  have c52 := begin_yes _ r c t (h.alloc (.cells #[.int .i64 0, .int .i64 0, .string ⟨#[]⟩, .slice none 0 0] 29))
  have hc := c.toNat_lt
  have hE : Hid (pForm (c :: t) = .error 11) := by show _ = _; simp only [pForm]; rw [if_pos (by omega), if_pos ht]
  have c53 := fun w h => word_no w r t h ht
  have k1f : ((c.toNat : Int) == 1) = false := by simp; omega
  have k6f : ((c.toNat : Int) == 6) = true := by simp; omega
  clear hk
  go_enter Tryz.func113, Tryz.ntmps113
  go_wp2_with (first
    | (go_at_call 126; refine c52.mono ?_; rintro e w1 ⟨rfl, hq1⟩; have k1 := (hq1.1.block w.heap.size (by simp) (by intro e; injection e with e; omega)).trans (blk_new w _); have hs1 := hq1.1.size; rw [World.size_alloc] at hs1; have k2 := blk_old (o' := (.cells #[.int .i64 c.toNat, .int .i64 0, .string ⟨#[]⟩, .slice none 0 0] 29)) k1; have kb := blk_new w1 (.cells #[.int .i64 c.toNat, .int .i64 0, .string ⟨#[]⟩, .slice none 0 0] 29); have hq2 := hq1.low.bel (bel1 w1 (.cells #[.int .i64 c.toNat, .int .i64 0, .string ⟨#[]⟩, .slice none 0 0] 29)); obtain ⟨x0, x1, x2, x3, xf⟩ := four_of k2; obtain ⟨y0, y1, y2, y3, yf⟩ := four_of kb)
    | (go_at_call 127; refine (c53 _ hq2.2).mono ?_; rintro e w3 ⟨rfl, rfl⟩))
  have hfin := grown_put hq2.1 (Nat.le_refl _) (.int .i64 c.toNat) (.int .i64 0) (.string ⟨#[]⟩) (.slice none 0 0)
  unfold put4 at hfin
  simp [bodyPost, results, Tryz.results113, go_sem, x0, x1, x2, x3]
  exact ReadR.no hE.out (by decide) hfin
set_option maxHeartbeats 1000000 in
set_option maxRecDepth 20000 in
theorem form_num6_yes (w : World) (r : Nat) (c : UInt8) (t : List UInt8) (h : Rd w r (c :: t)) (hk : c.toNat = 6) (ht : 8 ≤ t.length) : Calls Tryz.prog 113 #[.pointer (some ⟨r, 0, none⟩)] w (ReadR (pForm (c :: t)) r w) := by
  have hrl := h.lt
  have c52 := begin_yes _ r c t (h.alloc (.cells #[.int .i64 0, .int .i64 0, .string ⟨#[]⟩, .slice none 0 0] 29))
  have hc := c.toNat_lt
  have hE : Hid (pForm (c :: t) = .ok (.mk c.toNat (wordI (deN (t.take 8))) ⟨#[]⟩ [], t.drop 8)) := by show _ = _; simp only [pForm]; rw [if_pos (by omega), if_neg (by omega)]
  have c53 := fun w h => word_yes w r t h ht
  have hI : I64 (wordI (deN (t.take 8))) := wordI_i64 (by have := deN_lt (t.take 8); rwa [List.length_take, Nat.min_eq_left ht] at this)
  generalize wordI (deN (t.take 8)) = N at *
  generalize t.drop 8 = T at *
  have k1f : ((c.toNat : Int) == 1) = false := by simp; omega
  have k6f : ((c.toNat : Int) == 6) = true := by simp; omega
  clear hk
  go_enter Tryz.func113, Tryz.ntmps113
  go_wp2_with (first
    | (go_at_call 126; refine c52.mono ?_; rintro e w1 ⟨rfl, hq1⟩; have k1 := (hq1.1.block w.heap.size (by simp) (by intro e; injection e with e; omega)).trans (blk_new w _); have hs1 := hq1.1.size; rw [World.size_alloc] at hs1; have k2 := blk_old (o' := (.cells #[.int .i64 c.toNat, .int .i64 0, .string ⟨#[]⟩, .slice none 0 0] 29)) k1; have kb := blk_new w1 (.cells #[.int .i64 c.toNat, .int .i64 0, .string ⟨#[]⟩, .slice none 0 0] 29); have hq2 := hq1.low.bel (bel1 w1 (.cells #[.int .i64 c.toNat, .int .i64 0, .string ⟨#[]⟩, .slice none 0 0] 29)); obtain ⟨x0, x1, x2, x3, xf⟩ := four_of k2; obtain ⟨y0, y1, y2, y3, yf⟩ := four_of kb)
    | (go_at_call 127; refine (c53 _ hq2.2).mono ?_; rintro e w3 ⟨rfl, hq3⟩; have hs3 := hq3.1.size; rw [World.size_alloc] at hs3; have k3 := (hq3.1.block w.heap.size (by simp; omega) (by intro e; injection e with e; omega)).trans k2; have kb3 := (hq3.1.block w1.heap.size (by simp) (by intro e; injection e with e; omega)).trans kb; obtain ⟨u0, u1, u2, u3, uf⟩ := four_of k3; obtain ⟨z0, z1, z2, z3, zf⟩ := four_of kb3; have hq4 := hq2.trans hq3; clear x0 x1 x2 x3 xf y0 y1 y2 y3 yf))
  have hfin := (hq4.far (gr_set w3 w1.heap.size 1 (.int .i64 N)) hrl (fun j hj => by injection hj with hj; omega)).far (gr_put4 _ w.heap.size 0 (.int .i64 c.toNat) (.int .i64 N) (.string ⟨#[]⟩) (.slice none 0 0)) hrl (fun j hj => by injection hj with hj; omega)
  unfold put4 at hfin
  simp [bodyPost, results, Tryz.results113, go_sem, u0, u1, u2, u3]
  exact ReadR.yes (v := .mk c.toNat N ⟨#[]⟩ []) hE.out (in_plain (by unfold I64; omega) hI (by decide) _ _) hfin
set_option maxHeartbeats 1000000 in
set_option maxRecDepth 20000 in
theorem form_num7_no (w : World) (r : Nat) (c : UInt8) (t : List UInt8) (h : Rd w r (c :: t)) (hk : c.toNat = 7) (ht : t.length < 8) : Calls Tryz.prog 113 #[.pointer (some ⟨r, 0, none⟩)] w (ReadR (pForm (c :: t)) r w) := by
  have hrl := h.lt
  have c52 := begin_yes _ r c t (h.alloc (.cells #[.int .i64 0, .int .i64 0, .string ⟨#[]⟩, .slice none 0 0] 29))
  have hc := c.toNat_lt
  have hE : Hid (pForm (c :: t) = .error 11) := by show _ = _; simp only [pForm]; rw [if_pos (by omega), if_pos ht]
  have c53 := fun w h => word_no w r t h ht
  have k1f : ((c.toNat : Int) == 1) = false := by simp; omega
  have k6f : ((c.toNat : Int) == 6) = false := by simp; omega
  have k7f : ((c.toNat : Int) == 7) = true := by simp; omega
  clear hk
  go_enter Tryz.func113, Tryz.ntmps113
  go_wp2_with (first
    | (go_at_call 126; refine c52.mono ?_; rintro e w1 ⟨rfl, hq1⟩; have k1 := (hq1.1.block w.heap.size (by simp) (by intro e; injection e with e; omega)).trans (blk_new w _); have hs1 := hq1.1.size; rw [World.size_alloc] at hs1; have k2 := blk_old (o' := (.cells #[.int .i64 c.toNat, .int .i64 0, .string ⟨#[]⟩, .slice none 0 0] 29)) k1; have kb := blk_new w1 (.cells #[.int .i64 c.toNat, .int .i64 0, .string ⟨#[]⟩, .slice none 0 0] 29); have hq2 := hq1.low.bel (bel1 w1 (.cells #[.int .i64 c.toNat, .int .i64 0, .string ⟨#[]⟩, .slice none 0 0] 29)); obtain ⟨x0, x1, x2, x3, xf⟩ := four_of k2; obtain ⟨y0, y1, y2, y3, yf⟩ := four_of kb)
    | (go_at_call 127; refine (c53 _ hq2.2).mono ?_; rintro e w3 ⟨rfl, rfl⟩))
  have hfin := grown_put hq2.1 (Nat.le_refl _) (.int .i64 c.toNat) (.int .i64 0) (.string ⟨#[]⟩) (.slice none 0 0)
  unfold put4 at hfin
  simp [bodyPost, results, Tryz.results113, go_sem, x0, x1, x2, x3]
  exact ReadR.no hE.out (by decide) hfin
set_option maxHeartbeats 1000000 in
set_option maxRecDepth 20000 in
theorem form_num7_yes (w : World) (r : Nat) (c : UInt8) (t : List UInt8) (h : Rd w r (c :: t)) (hk : c.toNat = 7) (ht : 8 ≤ t.length) : Calls Tryz.prog 113 #[.pointer (some ⟨r, 0, none⟩)] w (ReadR (pForm (c :: t)) r w) := by
  have hrl := h.lt
  have c52 := begin_yes _ r c t (h.alloc (.cells #[.int .i64 0, .int .i64 0, .string ⟨#[]⟩, .slice none 0 0] 29))
  have hc := c.toNat_lt
  have hE : Hid (pForm (c :: t) = .ok (.mk c.toNat (wordI (deN (t.take 8))) ⟨#[]⟩ [], t.drop 8)) := by show _ = _; simp only [pForm]; rw [if_pos (by omega), if_neg (by omega)]
  have c53 := fun w h => word_yes w r t h ht
  have hI : I64 (wordI (deN (t.take 8))) := wordI_i64 (by have := deN_lt (t.take 8); rwa [List.length_take, Nat.min_eq_left ht] at this)
  generalize wordI (deN (t.take 8)) = N at *
  generalize t.drop 8 = T at *
  have k1f : ((c.toNat : Int) == 1) = false := by simp; omega
  have k6f : ((c.toNat : Int) == 6) = false := by simp; omega
  have k7f : ((c.toNat : Int) == 7) = true := by simp; omega
  clear hk
  go_enter Tryz.func113, Tryz.ntmps113
  go_wp2_with (first
    | (go_at_call 126; refine c52.mono ?_; rintro e w1 ⟨rfl, hq1⟩; have k1 := (hq1.1.block w.heap.size (by simp) (by intro e; injection e with e; omega)).trans (blk_new w _); have hs1 := hq1.1.size; rw [World.size_alloc] at hs1; have k2 := blk_old (o' := (.cells #[.int .i64 c.toNat, .int .i64 0, .string ⟨#[]⟩, .slice none 0 0] 29)) k1; have kb := blk_new w1 (.cells #[.int .i64 c.toNat, .int .i64 0, .string ⟨#[]⟩, .slice none 0 0] 29); have hq2 := hq1.low.bel (bel1 w1 (.cells #[.int .i64 c.toNat, .int .i64 0, .string ⟨#[]⟩, .slice none 0 0] 29)); obtain ⟨x0, x1, x2, x3, xf⟩ := four_of k2; obtain ⟨y0, y1, y2, y3, yf⟩ := four_of kb)
    | (go_at_call 127; refine (c53 _ hq2.2).mono ?_; rintro e w3 ⟨rfl, hq3⟩; have hs3 := hq3.1.size; rw [World.size_alloc] at hs3; have k3 := (hq3.1.block w.heap.size (by simp; omega) (by intro e; injection e with e; omega)).trans k2; have kb3 := (hq3.1.block w1.heap.size (by simp) (by intro e; injection e with e; omega)).trans kb; obtain ⟨u0, u1, u2, u3, uf⟩ := four_of k3; obtain ⟨z0, z1, z2, z3, zf⟩ := four_of kb3; have hq4 := hq2.trans hq3; clear x0 x1 x2 x3 xf y0 y1 y2 y3 yf))
  have hfin := (hq4.far (gr_set w3 w1.heap.size 1 (.int .i64 N)) hrl (fun j hj => by injection hj with hj; omega)).far (gr_put4 _ w.heap.size 0 (.int .i64 c.toNat) (.int .i64 N) (.string ⟨#[]⟩) (.slice none 0 0)) hrl (fun j hj => by injection hj with hj; omega)
  unfold put4 at hfin
  simp [bodyPost, results, Tryz.results113, go_sem, u0, u1, u2, u3]
  exact ReadR.yes (v := .mk c.toNat N ⟨#[]⟩ []) hE.out (in_plain (by unfold I64; omega) hI (by decide) _ _) hfin
set_option maxHeartbeats 1000000 in
set_option maxRecDepth 20000 in
theorem form_bool_no (w : World) (r : Nat) (c : UInt8) (t : List UInt8) (h : Rd w r (c :: t)) (hk : c.toNat = 3) (ht : t = []) : Calls Tryz.prog 113 #[.pointer (some ⟨r, 0, none⟩)] w (ReadR (pForm (c :: t)) r w) := by
  have hrl := h.lt
  have c52 := begin_yes _ r c t (h.alloc (.cells #[.int .i64 0, .int .i64 0, .string ⟨#[]⟩, .slice none 0 0] 29))
  have hc := c.toNat_lt
  have hE : Hid (pForm (c :: t) = .error 11) := by show _ = _; subst ht; simp only [pForm]; rw [if_neg (by omega), if_pos hk]
  have c54 := fun w h => small_no w r h
  have k1f : ((c.toNat : Int) == 1) = false := by simp; omega
  have k6f : ((c.toNat : Int) == 6) = false := by simp; omega
  have k7f : ((c.toNat : Int) == 7) = false := by simp; omega
  have k3f : ((c.toNat : Int) == 3) = true := by simp; omega
  subst ht
  clear hk
  go_enter Tryz.func113, Tryz.ntmps113
  go_wp2_with (first
    | (go_at_call 126; refine c52.mono ?_; rintro e w1 ⟨rfl, hq1⟩; have k1 := (hq1.1.block w.heap.size (by simp) (by intro e; injection e with e; omega)).trans (blk_new w _); have hs1 := hq1.1.size; rw [World.size_alloc] at hs1; have k2 := blk_old (o' := (.cells #[.int .i64 c.toNat, .int .i64 0, .string ⟨#[]⟩, .slice none 0 0] 29)) k1; have kb := blk_new w1 (.cells #[.int .i64 c.toNat, .int .i64 0, .string ⟨#[]⟩, .slice none 0 0] 29); have hq2 := hq1.low.bel (bel1 w1 (.cells #[.int .i64 c.toNat, .int .i64 0, .string ⟨#[]⟩, .slice none 0 0] 29)); obtain ⟨x0, x1, x2, x3, xf⟩ := four_of k2; obtain ⟨y0, y1, y2, y3, yf⟩ := four_of kb)
    | (go_at_call 128; refine (c54 _ hq2.2).mono ?_; rintro e w3 ⟨rfl, rfl⟩))
  have hfin := grown_put hq2.1 (Nat.le_refl _) (.int .i64 c.toNat) (.int .i64 0) (.string ⟨#[]⟩) (.slice none 0 0)
  unfold put4 at hfin
  simp [bodyPost, results, Tryz.results113, go_sem, x0, x1, x2, x3]
  exact ReadR.no hE.out (by decide) hfin
set_option maxHeartbeats 1000000 in
set_option maxRecDepth 20000 in
theorem form_bool_yes (w : World) (r : Nat) (c : UInt8) (t : List UInt8) (h : Rd w r (c :: t)) (d : UInt8) (s : List UInt8) (hk : c.toNat = 3) (ht : t = d :: s) : Calls Tryz.prog 113 #[.pointer (some ⟨r, 0, none⟩)] w (ReadR (pForm (c :: t)) r w) := by
  have hrl := h.lt
  have c52 := begin_yes _ r c t (h.alloc (.cells #[.int .i64 0, .int .i64 0, .string ⟨#[]⟩, .slice none 0 0] 29))
  have hc := c.toNat_lt
  have hE : Hid (pForm (c :: t) = .ok (.mk c.toNat d.toNat ⟨#[]⟩ [], s)) := by show _ = _; subst ht; simp only [pForm]; rw [if_neg (by omega), if_pos hk, hk]; rfl
  have c54 := fun w h => small_yes w r d s h
  have hd := d.toNat_lt
  have k1f : ((c.toNat : Int) == 1) = false := by simp; omega
  have k6f : ((c.toNat : Int) == 6) = false := by simp; omega
  have k7f : ((c.toNat : Int) == 7) = false := by simp; omega
  have k3f : ((c.toNat : Int) == 3) = true := by simp; omega
  subst ht
  clear hk
  go_enter Tryz.func113, Tryz.ntmps113
  go_wp2_with (first
    | (go_at_call 126; refine c52.mono ?_; rintro e w1 ⟨rfl, hq1⟩; have k1 := (hq1.1.block w.heap.size (by simp) (by intro e; injection e with e; omega)).trans (blk_new w _); have hs1 := hq1.1.size; rw [World.size_alloc] at hs1; have k2 := blk_old (o' := (.cells #[.int .i64 c.toNat, .int .i64 0, .string ⟨#[]⟩, .slice none 0 0] 29)) k1; have kb := blk_new w1 (.cells #[.int .i64 c.toNat, .int .i64 0, .string ⟨#[]⟩, .slice none 0 0] 29); have hq2 := hq1.low.bel (bel1 w1 (.cells #[.int .i64 c.toNat, .int .i64 0, .string ⟨#[]⟩, .slice none 0 0] 29)); obtain ⟨x0, x1, x2, x3, xf⟩ := four_of k2; obtain ⟨y0, y1, y2, y3, yf⟩ := four_of kb)
    | (go_at_call 128; refine (c54 _ hq2.2).mono ?_; rintro e w3 ⟨rfl, hq3⟩; have hs3 := hq3.1.size; rw [World.size_alloc] at hs3; have k3 := (hq3.1.block w.heap.size (by simp; omega) (by intro e; injection e with e; omega)).trans k2; have kb3 := (hq3.1.block w1.heap.size (by simp) (by intro e; injection e with e; omega)).trans kb; obtain ⟨u0, u1, u2, u3, uf⟩ := four_of k3; obtain ⟨z0, z1, z2, z3, zf⟩ := four_of kb3; have hq4 := hq2.trans hq3; clear x0 x1 x2 x3 xf y0 y1 y2 y3 yf))
  have hfin := (hq4.far (gr_set w3 w1.heap.size 1 (.int .i64 d.toNat)) hrl (fun j hj => by injection hj with hj; omega)).far (gr_put4 _ w.heap.size 0 (.int .i64 c.toNat) (.int .i64 d.toNat) (.string ⟨#[]⟩) (.slice none 0 0)) hrl (fun j hj => by injection hj with hj; omega)
  unfold put4 at hfin
  simp [bodyPost, results, Tryz.results113, go_sem, u0, u1, u2, u3]
  exact ReadR.yes (v := .mk c.toNat d.toNat ⟨#[]⟩ []) hE.out (in_plain (by unfold I64; omega) (by unfold I64; omega) (by decide) _ _) hfin
set_option maxHeartbeats 1000000 in
set_option maxRecDepth 20000 in
theorem form_other (w : World) (r : Nat) (c : UInt8) (t : List UInt8) (h : Rd w r (c :: t)) (hk : c.toNat ≠ 1 ∧ c.toNat ≠ 6 ∧ c.toNat ≠ 7 ∧ c.toNat ≠ 3 ∧ c.toNat ≠ 2) : Calls Tryz.prog 113 #[.pointer (some ⟨r, 0, none⟩)] w (ReadR (pForm (c :: t)) r w) := by
  have hrl := h.lt
  have c52 := begin_yes _ r c t (h.alloc (.cells #[.int .i64 0, .int .i64 0, .string ⟨#[]⟩, .slice none 0 0] 29))
  have hc := c.toNat_lt
  have hE : Hid (pForm (c :: t) = .error 30) := by show _ = _; simp only [pForm]; rw [if_neg (by omega), if_neg (by omega), if_neg (by omega)]
  have k1f : ((c.toNat : Int) == 1) = false := by simp; omega
  have k6f : ((c.toNat : Int) == 6) = false := by simp; omega
  have k7f : ((c.toNat : Int) == 7) = false := by simp; omega
  have k3f : ((c.toNat : Int) == 3) = false := by simp; omega
  have k2f : ((c.toNat : Int) == 2) = false := by simp; omega
  clear hk
  go_enter Tryz.func113, Tryz.ntmps113
  go_wp2_with (first
    | (go_at_call 126; refine c52.mono ?_; rintro e w1 ⟨rfl, hq1⟩; have k1 := (hq1.1.block w.heap.size (by simp) (by intro e; injection e with e; omega)).trans (blk_new w _); have hs1 := hq1.1.size; rw [World.size_alloc] at hs1; have k2 := blk_old (o' := (.cells #[.int .i64 c.toNat, .int .i64 0, .string ⟨#[]⟩, .slice none 0 0] 29)) k1; have kb := blk_new w1 (.cells #[.int .i64 c.toNat, .int .i64 0, .string ⟨#[]⟩, .slice none 0 0] 29); have hq2 := hq1.low.bel (bel1 w1 (.cells #[.int .i64 c.toNat, .int .i64 0, .string ⟨#[]⟩, .slice none 0 0] 29)); obtain ⟨x0, x1, x2, x3, xf⟩ := four_of k2; obtain ⟨y0, y1, y2, y3, yf⟩ := four_of kb))
  have hfin := grown_put hq2.1 (Nat.le_refl _) (.int .i64 c.toNat) (.int .i64 0) (.string ⟨#[]⟩) (.slice none 0 0)
  unfold put4 at hfin
  simp [bodyPost, results, Tryz.results113, go_sem, x0, x1, x2, x3]
  exact ReadR.no hE.out (by decide) hfin
set_option maxHeartbeats 1000000 in
set_option maxRecDepth 20000 in
theorem form_str (w : World) (r : Nat) (c : UInt8) (t : List UInt8) (h : Rd w r (c :: t)) (hk : c.toNat = 2) (ht : t.length ≤ 140737488351232) : Calls Tryz.prog 113 #[.pointer (some ⟨r, 0, none⟩)] w (ReadR (pForm (c :: t)) r w) := by
  have hrl := h.lt
  have c52 := begin_yes _ r c t (h.alloc (.cells #[.int .i64 0, .int .i64 0, .string ⟨#[]⟩, .slice none 0 0] 29))
  have hc := c.toNat_lt
  have hE : Hid (pForm (c :: t) = thn (pMarked t) fun s q => .ok (.mk 2 0 ⟨s.toArray⟩ [], q)) := by show _ = _; simp only [pForm]; rw [if_neg (by omega), if_neg (by omega), if_pos hk]
  have c55 := fun w h => marked129 w r t h (by omega)
  unfold MkR at c55
  have hc2 : Hid ((c.toNat : Int) = 2) := by show _ = _; omega
  have k1f : ((c.toNat : Int) == 1) = false := by simp; omega
  have k6f : ((c.toNat : Int) == 6) = false := by simp; omega
  have k7f : ((c.toNat : Int) == 7) = false := by simp; omega
  have k3f : ((c.toNat : Int) == 3) = false := by simp; omega
  have k2f : ((c.toNat : Int) == 2) = true := by simp; omega
  clear hk
  go_enter Tryz.func113, Tryz.ntmps113
  go_wp2_with (first
    | (go_at_call 126; refine c52.mono ?_; rintro e w1 ⟨rfl, hq1⟩; have k1 := (hq1.1.block w.heap.size (by simp) (by intro e; injection e with e; omega)).trans (blk_new w _); have hs1 := hq1.1.size; rw [World.size_alloc] at hs1; have k2 := blk_old (o' := (.cells #[.int .i64 c.toNat, .int .i64 0, .string ⟨#[]⟩, .slice none 0 0] 29)) k1; have kb := blk_new w1 (.cells #[.int .i64 c.toNat, .int .i64 0, .string ⟨#[]⟩, .slice none 0 0] 29); have hq2 := hq1.low.bel (bel1 w1 (.cells #[.int .i64 c.toNat, .int .i64 0, .string ⟨#[]⟩, .slice none 0 0] 29)); obtain ⟨x0, x1, x2, x3, xf⟩ := four_of k2; obtain ⟨y0, y1, y2, y3, yf⟩ := four_of kb)
    | (go_at_call 129; refine (c55 _ hq2.2).mono ?_; rintro e w3 (⟨s, q, hpm, rfl, hq3⟩ | ⟨n, x, hpm, hn0, rfl, hg3⟩); rotate_left; (focus (go_must (skip; have hs3 := hg3.size; rw [World.size_alloc] at hs3; have k3 := (hg3.block w.heap.size (by simp; omega) (by intro e; injection e with e; omega)).trans k2; have kb3 := (hg3.block w1.heap.size (by simp) (by intro e; injection e with e; omega)).trans kb; obtain ⟨u0, u1, u2, u3, uf⟩ := four_of k3; obtain ⟨z0, zf⟩ := four_of kb3; have hg4 := hq2.1.trans hg3; clear x0 x1 x2 x3 xf y0 y1 y2 y3 yf); go_wp2; (have hfin := grown_put (hg4.andThen (gr_set w3 w1.heap.size 2 (.string x)) fun j hj => .inl (by injection hj with hj; omega)) (Nat.le_refl _) (.int .i64 c.toNat) (.int .i64 0) (.string x) (.slice none 0 0)); unfold put4 at hfin; simp [bodyPost, results, Tryz.results113, go_sem, u0, u1, u2, u3]; exact ReadR.no (by rw [hE.out, hpm]; rfl) hn0 hfin)); have hs3 := hq3.1.size; rw [World.size_alloc] at hs3; have k3 := (hq3.1.block w.heap.size (by simp; omega) (by intro e; injection e with e; omega)).trans k2; have kb3 := (hq3.1.block w1.heap.size (by simp) (by intro e; injection e with e; omega)).trans kb; obtain ⟨u0, u1, u2, u3, uf⟩ := four_of k3; obtain ⟨z0, zf⟩ := four_of kb3; have hq4 := hq2.trans hq3; clear x0 x1 x2 x3 xf y0 y1 y2 y3 yf))
  have hfin := (hq4.far (gr_set w3 w1.heap.size 2 (.string ⟨s.toArray⟩)) hrl (fun j hj => by injection hj with hj; omega)).far (gr_put4 _ w.heap.size 0 (.int .i64 c.toNat) (.int .i64 0) (.string ⟨s.toArray⟩) (.slice none 0 0)) hrl (fun j hj => by injection hj with hj; omega)
  have hsl : s.length ≤ t.length := by have := marked_back hpm; have h2 := flat1_ge s; rw [this]; unfold marked; simp only [List.length_append, List.length_cons, List.length_nil]; omega
  unfold put4 at hfin
  simp [bodyPost, results, Tryz.results113, go_sem, u0, u1, u2, u3]
  rw [hc2.out] at hfin ⊢
  exact ReadR.yes (v := .mk 2 0 ⟨s.toArray⟩ []) (by rw [hE.out, hpm]; rfl) (in_plain (by unfold I64; omega) (by unfold I64; omega) (by show s.toArray.size ≤ _; simp; omega) _ _) hfin
theorem form113 (w : World) (r : Nat) (t : List UInt8) (h : Rd w r t) (ht : t.length ≤ 140737488351232) : Calls Tryz.prog 113 #[.pointer (some ⟨r, 0, none⟩)] w (ReadR (pForm t) r w) := by
  cases t with
  | nil => exact form_nil w r h
  | cons c t =>
    simp only [List.length_cons] at ht
    by_cases h1 : c.toNat = 1
    · rcases Nat.lt_or_ge t.length 8 with h8 | h8
      · exact form_num1_no w r c t h h1 h8
      · exact form_num1_yes w r c t h h1 h8
    · by_cases h6 : c.toNat = 6
      · rcases Nat.lt_or_ge t.length 8 with h8 | h8
        · exact form_num6_no w r c t h h6 h8
        · exact form_num6_yes w r c t h h6 h8
      · by_cases h7 : c.toNat = 7
        · rcases Nat.lt_or_ge t.length 8 with h8 | h8
          · exact form_num7_no w r c t h h7 h8
          · exact form_num7_yes w r c t h h7 h8
        · by_cases h3 : c.toNat = 3
          · cases t with
            | nil => exact form_bool_no w r c [] h h3 rfl
            | cons d s => exact form_bool_yes w r c (d :: s) h d s h3 rfl
          · by_cases h2 : c.toNat = 2
            · exact form_str w r c t h h2 (by omega)
            · exact form_other w r c t h ⟨h1, h6, h7, h3, h2⟩
end Go.Proofs.YtbgikgeknnmelaaGreat
