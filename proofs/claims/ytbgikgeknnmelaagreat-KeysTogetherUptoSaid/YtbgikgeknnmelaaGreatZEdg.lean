/-
  Edge of package keys: its literal of entries draws the order of 45 operations; by its states.
-/
import Derived.Test.YtbgikgeknnmelaaGreatZStw
namespace Go.Proofs.YtbgikgeknnmelaaGreat
open Go.RowKit
set_option linter.unusedVariables false      -- a walk need not use every condition

theorem ns_at {W : World} {g : Nat} {l : List Int} (hI : ∀ n ∈ l, I64 n) (hl : l.length ≤ 100) (cs : Array Value) (hcs : cs = (l.map fun n => Value.int .i64 n).toArray) (h : W.heap[g]? = some (.cells cs 2)) (n : Nat) (hn : n = l.length) : Ns W (.slice (some ⟨g, 0, none⟩) n n) l := by
  subst hn hcs
  refine ⟨_, l.length, rfl, Nat.le_refl _, by unfold maxLen; omega, hI, .inr ⟨g, 0, rfl, fun i hi => ?_⟩⟩
  simp [World.cell?, h, hi]
section
variable {P : Program} {ops : Array Oper} {Q : Exit → Act → World → Prop} {md : Region.Mode} {S : World → Prop}
theorem gen_ops {fuel : Nat} {l : Array Bool} {a : Act} {w : World} (h : ∀ OPS QQ, OPS = ops → QQ = Q → wpAnyH P md OPS QQ S fuel l a w) : wpAnyH P md ops Q S fuel l a w := h _ _ rfl rfl
theorem ready_of {i : Nat} {l : Array Bool} {o : Oper} (ho : ops[i]? = some o) (h0 : l.getD i true = false) (h : ∀ e ∈ o.after, Region.binds md e = true → l.getD e.on false = true) (hr : Region.ready md ops l = []) : False := by
  have : i ∈ Region.ready md ops l := mem_ready.2 ⟨h0, o, ho, h⟩
  rw [hr] at this; cases this
end
theorem row_three {w : World} {base g : Nat} {a b c d e f : Value} {x y z : En} (hb : base ≤ g) (hg : w.heap[g]? = some (.cells #[a, b, c, d, e, f] 39)) (h1 : Bts w 0 a x.key) (h2 : Bts w 0 b x.val) (h3 : Bts w 0 c y.key) (h4 : Bts w 0 d y.val) (h5 : Bts w 0 e z.key) (h6 : Bts w 0 f z.val) : RowE w base (.slice (some ⟨g, 0, none⟩) 3 3) [x, y, z] := by
  refine ⟨[(a, b), (c, d), (e, f)], ⟨h1, h2, h3, h4, h5, h6, trivial⟩, rfl, .inr ⟨g, 3, _, rfl, hb, hg, Nat.le_refl _, by unfold maxLen; omega, rfl, rfl⟩⟩
structure EdSt where
  p : Nat
  F4 : Bool
  F30 : Bool
  F38 : Bool
  F43 : Bool
  F46 : Bool
  F50 : Bool
  F52 : Bool
  F57 : Bool
  F60 : Bool
  F64 : Bool
  F66 : Bool
  F67 : Bool
  U4 : Value
  U25 : Value
  U30 : Value
  U31 : Value
  U34 : Value
  U37 : Value
  U38 : Value
  U43 : Value
  U44 : Value
  U46 : Value
  U47 : Value
  U50 : Value
  U51 : Value
  U52 : Value
  U57 : Value
  U58 : Value
  U60 : Value
  U61 : Value
  U64 : Value
  U65 : Value
  U66 : Value
  U67 : Value
structure EdFx (w : World) (SS : World → Prop) (id : Int) (lb : ByteArray) (out inn : Int) (KQ NQ TQ PQ OQ K IQ NI NO : List UInt8) (s : EdSt) (u : World) : Prop where
  hS : SS u
  hB : Below w.heap.size w u
  hp : s.p ≤ 10
  b30 : BSf u s.F30 s.U30 2 #[.int .i64 out, .int .i64 inn] 2
  b43 : BSf u s.F43 s.U43 1 #[.string lb] 9
  b46 : BSf u s.F46 s.U46 1 #[.int .i64 7, .int .i64 id, .string ⟨#[]⟩, .slice none 0 0] 29
  b50 : BSf u s.F50 s.U50 1 #[.int .i64 inn] 2
  b57 : BSf u s.F57 s.U57 1 #[.string lb] 9
  b60 : BSf u s.F60 s.U60 1 #[.int .i64 7, .int .i64 id, .string ⟨#[]⟩, .slice none 0 0] 29
  b64 : BSf u s.F64 s.U64 1 #[.int .i64 out] 2
  f25 : FIf u (0 < s.p) s.U25 KQ
  f37 : FIf u (3 < s.p) s.U37 (NQ ++ TQ ++ PQ)
  f47 : FIf u (5 < s.p) s.U47 (OQ ++ K)
  f51 : FIf u (6 < s.p) s.U51 NI
  f61 : FIf u (8 < s.p) s.U61 (IQ ++ K)
  f65 : FIf u (9 < s.p) s.U65 NO
  k31 : CHf w u (s.p = 2) s.U31 NQ (fun wA => Bts wA 0 s.U25 KQ)
  k34 : CHf w u (s.p = 3) s.U34 (NQ ++ TQ) (fun wA => Bts wA 0 s.U25 KQ)
  k44 : CHf w u (s.p = 5) s.U44 OQ (fun wA => Bts wA 0 s.U25 KQ ∧ Bts wA 0 s.U37 (NQ ++ TQ ++ PQ))
  k58 : CHf w u (s.p = 8) s.U58 IQ (fun wA => Bts wA 0 s.U25 KQ ∧ Bts wA 0 s.U37 (NQ ++ TQ ++ PQ) ∧ Bts wA 0 s.U47 (OQ ++ K) ∧ Bts wA 0 s.U51 NI)
  z38 : (s.F38 = true → 3 < s.p ∧ s.U38 = .agg #[s.U25, s.U37])
  z52 : (s.F52 = true → 6 < s.p ∧ s.U52 = .agg #[s.U47, s.U51])
  z66 : (s.F66 = true → 9 < s.p ∧ s.U66 = .agg #[s.U61, s.U65])
  z67 : (s.F67 = true → s.p = 10 ∧ ∃ g, w.heap.size ≤ g ∧ s.U67 = .slice (some ⟨g, 0, none⟩) 3 3 ∧ u.heap[g]? = some (.cells #[s.U25, s.U37, s.U47, s.U51, s.U61, s.U65] 39))
  z4 : (s.F4 = true → s.F67 = true ∧ s.U4 = s.U67)
set_option maxHeartbeats 16000000 in
set_option maxRecDepth 20000 in
theorem edge_start (id : Int) (lb : ByteArray) (out inn : Int) (ps : List Pr) (p1 : Option Addr) (n1 q1 : Nat) (w : World) (hI1 : idB id = true) (hI2 : idB out = true) (hI3 : idB inn = true) (hps : Sq RP w 0 ps (.slice p1 n1 q1)) (hlb : lb.size ≤ 1048570) (hmp : manyP ps ≤ 1048570) :
    Calls Tryz.prog 12 #[.agg #[.int .i64 id, .string lb, .int .i64 out, .int .i64 inn, .slice p1 n1 q1]] w fun e w' => ∃ v, e = .returned v ∧ RowE w' w.heap.size v (lkQ ⟨id, lb, out, inn, ps⟩) ∧ Below w.heap.size w w' := by
  have c40 : ∀ n, idB n = true → ∀ w, Calls Tryz.prog 40 #[.int .i64 n] w fun e w' => e = .returned (.bool true) ∧ w' = w := fun n h w => by have := isId40 n w; rw [h] at this; exact this
  have d1 := c40 id hI1
  have d2 := c40 out hI2
  have d3 := c40 inn hI3
  have hJ1 := idB_i64 hI1
  have hJ2 := idB_i64 hI2
  have hJ3 := idB_i64 hI3
  have hein : ∀ W, (eEl id).In W 0 (.slice none 0 0) := fun W => in_plain (by unfold I64; omega) hJ1 (by decide) W 0
  have hem : (eEl id).many ≤ 1048570 := by simp [eEl, V.many, manyL]; exact Nat.zero_le _
  have hq : Hid (lkQ ⟨id, lb, out, inn, ps⟩ = [⟨keyQ (.mk 7 id ⟨#[]⟩ []), numsQ [out, inn] ++ textQ lb ++ propsQ ps⟩, ⟨outQ out [lb] ++ kq (.mk 7 id ⟨#[]⟩ []), numsQ [inn]⟩, ⟨inQ inn [lb] ++ kq (.mk 7 id ⟨#[]⟩ []), numsQ [out]⟩] ++ ixQ (.mk 7 id ⟨#[]⟩ []) lb ps) := by show _ = _; unfold lkQ; rw [if_pos ⟨hI1, hI2, hI3⟩]; rfl
  rw [hq.out]
  have c19 : ∀ W, Calls Tryz.prog 19 #[.agg #[.int .i64 7, .int .i64 id, .string ⟨#[]⟩, .slice none 0 0]] W (AppR W (keyQ (.mk 7 id ⟨#[]⟩ []))) := fun W => key19 (eEl id) (.slice none 0 0) W (hein W) (by omega)
  have c50a : ∀ (W : World) (g : Nat), W.heap[g]? = some (.cells #[.int .i64 out, .int .i64 inn] 2) → Calls Tryz.prog 50 #[.slice (some ⟨g, 0, none⟩) 2 2] W (AppR W (numsQ [out, inn])) := fun W g h => numbers50 [out, inn] (by simp) _ W (ns_at (by intro n hn; simp at hn; rcases hn with rfl | rfl <;> assumption) (by simp) _ rfl h 2 rfl)
  have c50b : ∀ (W : World) (g : Nat), W.heap[g]? = some (.cells #[.int .i64 inn] 2) → Calls Tryz.prog 50 #[.slice (some ⟨g, 0, none⟩) 1 1] W (AppR W (numsQ [inn])) := fun W g h => numbers50 [inn] (by simp) _ W (ns_at (by intro n hn; simp at hn; subst hn; assumption) (by simp) _ rfl h 1 rfl)
  have c50c : ∀ (W : World) (g : Nat), W.heap[g]? = some (.cells #[.int .i64 out] 2) → Calls Tryz.prog 50 #[.slice (some ⟨g, 0, none⟩) 1 1] W (AppR W (numsQ [out])) := fun W g h => numbers50 [out] (by simp) _ W (ns_at (by intro n hn; simp at hn; subst hn; assumption) (by simp) _ rfl h 1 rfl)
  have l1 := numsQ_len [out, inn]
  have l2 := textQ_len lb
  simp only [List.length_cons, List.length_nil] at l1
  have c43 : ∀ (wA W : World) (b : Value), Below wA.heap.size wA W → Bts W wA.heap.size b (numsQ [out, inn]) → Calls Tryz.prog 43 #[b, .string lb] W fun e w' => AppR wA (numsQ [out, inn] ++ textQ lb) e w' ∧ KT W w' := fun wA W b hB hb => putTextT43 lb hlb wA W b _ hB hb (by omega)
  have c42 : ∀ (wA W : World) (b : Value), Below w.heap.size w wA → Below wA.heap.size wA W → Bts W wA.heap.size b (numsQ [out, inn] ++ textQ lb) → Calls Tryz.prog 42 #[b, .slice p1 n1 q1] W fun e w' => AppR wA (numsQ [out, inn] ++ textQ lb ++ propsQ ps) e w' ∧ KT W w' := fun wA W b h0 hB hb => putPropsT42 ps _ wA W b _ (hps.on h0) hmp hB hb (by rw [List.length_append]; omega)
  have c21 : ∀ (W : World) (g : Nat), W.heap[g]? = some (.cells #[.string lb] 9) → Calls Tryz.prog 21 #[.int .i64 out, .slice (some ⟨g, 0, none⟩) 1 1] W (AppR W (outQ out [lb])) := fun W g h => out21 out hJ2 [lb] _ W (ss_at hlb h)
  have c23 : ∀ (W : World) (g : Nat), W.heap[g]? = some (.cells #[.string lb] 9) → Calls Tryz.prog 23 #[.int .i64 inn, .slice (some ⟨g, 0, none⟩) 1 1] W (AppR W (inQ inn [lb])) := fun W g h => in23 inn hJ3 [lb] _ W (ss_at hlb h)
  have l3 := outQ_len out [lb]
  have l4 := inQ_len inn [lb]
  have c51 : ∀ (wA W : World) (b : Value) (t : List UInt8) (g : Nat), t.length ≤ 601 → Below wA.heap.size wA W → Bts W wA.heap.size b t → W.heap[g]? = some (.cells #[.int .i64 7, .int .i64 id, .string ⟨#[]⟩, .slice none 0 0] 29) → Calls Tryz.prog 51 #[b, .slice (some ⟨g, 0, none⟩) 1 1] W fun e w' => AppR wA (t ++ kq (.mk 7 id ⟨#[]⟩ [])) e w' ∧ KT W w' := fun wA W b t g ht hB hb hg => putFormsK51 (eEl id) (.slice none 0 0) wA W b t g (hein wA) (by omega) hg hB hb (by omega)
  have c44 : ∀ W, Sq RP W 0 ps (.slice p1 n1 q1) → Calls Tryz.prog 44 #[.agg #[.int .i64 7, .int .i64 id, .string ⟨#[]⟩, .slice none 0 0], .string lb, .slice p1 n1 q1] W fun e w' => ∃ v, e = .returned v ∧ RowE w' W.heap.size v (ixQ (.mk 7 id ⟨#[]⟩ []) lb ps) ∧ Below W.heap.size W w' := fun W h => ix_start (eEl id) (.slice none 0 0) lb ps (.slice p1 n1 q1) W (hein W) hem hlb h hmp
  have hixp : 0 < (ixQ (.mk 7 id ⟨#[]⟩ []) lb ps).length := by simp [ixQ]
  have hixl : (ixQ (.mk 7 id ⟨#[]⟩ []) lb ps).length ≤ 1048572 := by have := manyP_len ps; simp [ixQ]; omega
  generalize keyQ (.mk 7 id ⟨#[]⟩ []) = KQ at *
  generalize kq (.mk 7 id ⟨#[]⟩ []) = K at *
  generalize ixQ (.mk 7 id ⟨#[]⟩ []) lb ps = IX at *
  generalize numsQ [out, inn] = NQ at *
  generalize numsQ [inn] = NI at *
  generalize numsQ [out] = NO at *
  generalize outQ out [lb] = OQ at *
  generalize inQ inn [lb] = IQ at *
  generalize textQ lb = TQ at *
  generalize propsQ ps = PQ at *
  clear c40 hI1 hI2 hI3 hq hein hem hJ1 hJ2 hJ3 l1 l2
  have tk1 : True := trivial
  have tk2 : True := trivial
  go_enter Tryz.func12, Tryz.ntmps12
  go_wp2_with (first
    | (go_at_call 40; clear tk1; refine (d1 _).mono ?_; rintro e w1 ⟨rfl, rfl⟩; clear d1)
    | (go_at_call 40; clear tk2; refine (d2 _).mono ?_; rintro e w1 ⟨rfl, rfl⟩; clear d2)
    | (go_at_call 40; refine (d3 _).mono ?_; rintro e w1 ⟨rfl, rfl⟩; clear d3)
    | (go_at_call 49; refine (edge49 id _).mono ?_; rintro e w2 ⟨rfl, hB2⟩; have A2 := blk_on hB2 (blk_new w (.cells #[.int .i64 id, .string lb, .int .i64 out, .int .i64 inn, .slice p1 n1 q1] 26)); have B2 := bel_then (bel1 w (.cells #[.int .i64 id, .string lb, .int .i64 out, .int .i64 inn, .slice p1 n1 q1] 26)) hB2))
  have A4 := blk_old (o' := .cells #[.int .i64 7, .int .i64 id, .string ⟨#[]⟩, .slice none 0 0] 29) A2
  have Bk4 := blk_new w2 (.cells #[.int .i64 7, .int .i64 id, .string ⟨#[]⟩, .slice none 0 0] 29)
  have B4 := bel_al B2 (.cells #[.int .i64 7, .int .i64 id, .string ⟨#[]⟩, .slice none 0 0] 29)
  clear A2 B2 hB2
  generalize w2.alloc (.cells #[.int .i64 7, .int .i64 id, .string ⟨#[]⟩, .slice none 0 0] 29) = W4 at *
  generalize w2.heap.size = G at *
  obtain ⟨SS, hSS⟩ : ∃ SS : World → Prop, SS = fun u => u.heap[w.heap.size]? = some (.cells #[.int .i64 id, .string lb, .int .i64 out, .int .i64 inn, .slice p1 n1 q1] 26) ∧ u.heap[G]? = some (.cells #[.int .i64 7, .int .i64 id, .string ⟨#[]⟩, .slice none 0 0] 29) := ⟨_, rfl⟩
  have hcell : ∀ u, SS u → u.cell? ⟨w.heap.size, 0, none⟩ = some (.int .i64 id) ∧ u.cell? ⟨w.heap.size, 1, none⟩ = some (.string lb) ∧ u.cell? ⟨w.heap.size, 2, none⟩ = some (.int .i64 out) ∧ u.cell? ⟨w.heap.size, 3, none⟩ = some (.int .i64 inn) ∧ u.cell? ⟨w.heap.size, 4, none⟩ = some (.slice p1 n1 q1) ∧ u.cell? ⟨G, 0, none⟩ = some (.int .i64 7) ∧ u.cell? ⟨G, 1, none⟩ = some (.int .i64 id) ∧ u.cell? ⟨G, 2, none⟩ = some (.string ⟨#[]⟩) ∧ u.cell? ⟨G, 3, none⟩ = some (.slice none 0 0) := fun u h => by
    subst hSS
    obtain ⟨h0, h1, h2, h3, h4, -⟩ := five_of h.1
    obtain ⟨k0, k1, k2, k3, -⟩ := four_of h.2
    exact ⟨h0, h1, h2, h3, h4, k0, k1, k2, k3⟩
  have hss : ∀ u u', SS u → KT u u' → SS u' := fun u u' h k => by subst hSS; exact ⟨k _ _ _ (by decide) h.1, k _ _ _ (by decide) h.2⟩
  have hs0 : SS W4.drew := by subst hSS; exact ⟨A4, Bk4⟩
  have HS0 := Lib.hid hs0
  have HB4 := Lib.hid (bel_drew B4)
  clear A4 Bk4 hSS hs0 B4
  refine wp_region_held_drew (S := SS) (by kernel_rfl) HS0.out (fun hHeld => ?_)
  refine take_at (i := 0) (oi := _) (v := .agg #[.int .i64 7, .int .i64 id, .string ⟨#[]⟩, .slice none 0 0]) 24 rfl rfl (by kernel_rfl) (by kernel_rfl) (by kernel_rfl) (fun _ _ _ h => h) (Or.inl ⟨by kernel_rfl, ?_⟩) hHeld ?_
  · intro u hSu
    obtain ⟨x0, x1, x2, x3, x4, y0, y1, y2, y3⟩ := hcell u hSu
    go_simp
    try with_reducible rfl
  simp only [Act.put, List.setIfInBounds_toArray, List.set_cons_zero, List.set_cons_succ]
  refine take_at (i := 2) (oi := _) (v := .pointer (some ⟨w.heap.size, 2, none⟩)) 26 rfl rfl (by kernel_rfl) (by kernel_rfl) (by kernel_rfl) (fun _ _ _ h => h) (Or.inl ⟨by kernel_rfl, ?_⟩) hHeld ?_
  · intro u hSu
    obtain ⟨x0, x1, x2, x3, x4, y0, y1, y2, y3⟩ := hcell u hSu
    go_simp
    try with_reducible rfl
  simp only [Act.put, List.setIfInBounds_toArray, List.set_cons_zero, List.set_cons_succ]
  refine take_at (i := 3) (oi := _) (v := .int .i64 out) 27 rfl rfl (by kernel_rfl) (by kernel_rfl) (by kernel_rfl) (fun _ _ _ h => h) (Or.inl ⟨by kernel_rfl, ?_⟩) hHeld ?_
  · intro u hSu
    obtain ⟨x0, x1, x2, x3, x4, y0, y1, y2, y3⟩ := hcell u hSu
    go_simp
    try with_reducible rfl
  simp only [Act.put, List.setIfInBounds_toArray, List.set_cons_zero, List.set_cons_succ]
  refine take_at (i := 4) (oi := _) (v := .pointer (some ⟨w.heap.size, 3, none⟩)) 28 rfl rfl (by kernel_rfl) (by kernel_rfl) (by kernel_rfl) (fun _ _ _ h => h) (Or.inl ⟨by kernel_rfl, ?_⟩) hHeld ?_
  · intro u hSu
    obtain ⟨x0, x1, x2, x3, x4, y0, y1, y2, y3⟩ := hcell u hSu
    go_simp
    try with_reducible rfl
  simp only [Act.put, List.setIfInBounds_toArray, List.set_cons_zero, List.set_cons_succ]
  refine take_at (i := 5) (oi := _) (v := .int .i64 inn) 29 rfl rfl (by kernel_rfl) (by kernel_rfl) (by kernel_rfl) (fun _ _ _ h => h) (Or.inl ⟨by kernel_rfl, ?_⟩) hHeld ?_
  · intro u hSu
    obtain ⟨x0, x1, x2, x3, x4, y0, y1, y2, y3⟩ := hcell u hSu
    go_simp
    try with_reducible rfl
  simp only [Act.put, List.setIfInBounds_toArray, List.set_cons_zero, List.set_cons_succ]
  refine take_at (i := 8) (oi := _) (v := .pointer (some ⟨w.heap.size, 1, none⟩)) 32 rfl rfl (by kernel_rfl) (by kernel_rfl) (by kernel_rfl) (fun _ _ _ h => h) (Or.inl ⟨by kernel_rfl, ?_⟩) hHeld ?_
  · intro u hSu
    obtain ⟨x0, x1, x2, x3, x4, y0, y1, y2, y3⟩ := hcell u hSu
    go_simp
    try with_reducible rfl
  simp only [Act.put, List.setIfInBounds_toArray, List.set_cons_zero, List.set_cons_succ]
  refine take_at (i := 9) (oi := _) (v := .string lb) 33 rfl rfl (by kernel_rfl) (by kernel_rfl) (by kernel_rfl) (fun _ _ _ h => h) (Or.inl ⟨by kernel_rfl, ?_⟩) hHeld ?_
  · intro u hSu
    obtain ⟨x0, x1, x2, x3, x4, y0, y1, y2, y3⟩ := hcell u hSu
    go_simp
    try with_reducible rfl
  simp only [Act.put, List.setIfInBounds_toArray, List.set_cons_zero, List.set_cons_succ]
  refine take_at (i := 11) (oi := _) (v := .pointer (some ⟨w.heap.size, 4, none⟩)) 35 rfl rfl (by kernel_rfl) (by kernel_rfl) (by kernel_rfl) (fun _ _ _ h => h) (Or.inl ⟨by kernel_rfl, ?_⟩) hHeld ?_
  · intro u hSu
    obtain ⟨x0, x1, x2, x3, x4, y0, y1, y2, y3⟩ := hcell u hSu
    go_simp
    try with_reducible rfl
  simp only [Act.put, List.setIfInBounds_toArray, List.set_cons_zero, List.set_cons_succ]
  refine take_at (i := 12) (oi := _) (v := .slice p1 n1 q1) 36 rfl rfl (by kernel_rfl) (by kernel_rfl) (by kernel_rfl) (fun _ _ _ h => h) (Or.inl ⟨by kernel_rfl, ?_⟩) hHeld ?_
  · intro u hSu
    obtain ⟨x0, x1, x2, x3, x4, y0, y1, y2, y3⟩ := hcell u hSu
    go_simp
    try with_reducible rfl
  simp only [Act.put, List.setIfInBounds_toArray, List.set_cons_zero, List.set_cons_succ]
  refine take_at (i := 15) (oi := _) (v := .pointer (some ⟨w.heap.size, 2, none⟩)) 39 rfl rfl (by kernel_rfl) (by kernel_rfl) (by kernel_rfl) (fun _ _ _ h => h) (Or.inl ⟨by kernel_rfl, ?_⟩) hHeld ?_
  · intro u hSu
    obtain ⟨x0, x1, x2, x3, x4, y0, y1, y2, y3⟩ := hcell u hSu
    go_simp
    try with_reducible rfl
  simp only [Act.put, List.setIfInBounds_toArray, List.set_cons_zero, List.set_cons_succ]
  refine take_at (i := 16) (oi := _) (v := .int .i64 out) 40 rfl rfl (by kernel_rfl) (by kernel_rfl) (by kernel_rfl) (fun _ _ _ h => h) (Or.inl ⟨by kernel_rfl, ?_⟩) hHeld ?_
  · intro u hSu
    obtain ⟨x0, x1, x2, x3, x4, y0, y1, y2, y3⟩ := hcell u hSu
    go_simp
    try with_reducible rfl
  simp only [Act.put, List.setIfInBounds_toArray, List.set_cons_zero, List.set_cons_succ]
  refine take_at (i := 17) (oi := _) (v := .pointer (some ⟨w.heap.size, 1, none⟩)) 41 rfl rfl (by kernel_rfl) (by kernel_rfl) (by kernel_rfl) (fun _ _ _ h => h) (Or.inl ⟨by kernel_rfl, ?_⟩) hHeld ?_
  · intro u hSu
    obtain ⟨x0, x1, x2, x3, x4, y0, y1, y2, y3⟩ := hcell u hSu
    go_simp
    try with_reducible rfl
  simp only [Act.put, List.setIfInBounds_toArray, List.set_cons_zero, List.set_cons_succ]
  refine take_at (i := 18) (oi := _) (v := .string lb) 42 rfl rfl (by kernel_rfl) (by kernel_rfl) (by kernel_rfl) (fun _ _ _ h => h) (Or.inl ⟨by kernel_rfl, ?_⟩) hHeld ?_
  · intro u hSu
    obtain ⟨x0, x1, x2, x3, x4, y0, y1, y2, y3⟩ := hcell u hSu
    go_simp
    try with_reducible rfl
  simp only [Act.put, List.setIfInBounds_toArray, List.set_cons_zero, List.set_cons_succ]
  refine take_at (i := 21) (oi := _) (v := .agg #[.int .i64 7, .int .i64 id, .string ⟨#[]⟩, .slice none 0 0]) 45 rfl rfl (by kernel_rfl) (by kernel_rfl) (by kernel_rfl) (fun _ _ _ h => h) (Or.inl ⟨by kernel_rfl, ?_⟩) hHeld ?_
  · intro u hSu
    obtain ⟨x0, x1, x2, x3, x4, y0, y1, y2, y3⟩ := hcell u hSu
    go_simp
    try with_reducible rfl
  simp only [Act.put, List.setIfInBounds_toArray, List.set_cons_zero, List.set_cons_succ]
  refine take_at (i := 24) (oi := _) (v := .pointer (some ⟨w.heap.size, 3, none⟩)) 48 rfl rfl (by kernel_rfl) (by kernel_rfl) (by kernel_rfl) (fun _ _ _ h => h) (Or.inl ⟨by kernel_rfl, ?_⟩) hHeld ?_
  · intro u hSu
    obtain ⟨x0, x1, x2, x3, x4, y0, y1, y2, y3⟩ := hcell u hSu
    go_simp
    try with_reducible rfl
  simp only [Act.put, List.setIfInBounds_toArray, List.set_cons_zero, List.set_cons_succ]
  refine take_at (i := 25) (oi := _) (v := .int .i64 inn) 49 rfl rfl (by kernel_rfl) (by kernel_rfl) (by kernel_rfl) (fun _ _ _ h => h) (Or.inl ⟨by kernel_rfl, ?_⟩) hHeld ?_
  · intro u hSu
    obtain ⟨x0, x1, x2, x3, x4, y0, y1, y2, y3⟩ := hcell u hSu
    go_simp
    try with_reducible rfl
  simp only [Act.put, List.setIfInBounds_toArray, List.set_cons_zero, List.set_cons_succ]
  refine take_at (i := 29) (oi := _) (v := .pointer (some ⟨w.heap.size, 3, none⟩)) 53 rfl rfl (by kernel_rfl) (by kernel_rfl) (by kernel_rfl) (fun _ _ _ h => h) (Or.inl ⟨by kernel_rfl, ?_⟩) hHeld ?_
  · intro u hSu
    obtain ⟨x0, x1, x2, x3, x4, y0, y1, y2, y3⟩ := hcell u hSu
    go_simp
    try with_reducible rfl
  simp only [Act.put, List.setIfInBounds_toArray, List.set_cons_zero, List.set_cons_succ]
  refine take_at (i := 30) (oi := _) (v := .int .i64 inn) 54 rfl rfl (by kernel_rfl) (by kernel_rfl) (by kernel_rfl) (fun _ _ _ h => h) (Or.inl ⟨by kernel_rfl, ?_⟩) hHeld ?_
  · intro u hSu
    obtain ⟨x0, x1, x2, x3, x4, y0, y1, y2, y3⟩ := hcell u hSu
    go_simp
    try with_reducible rfl
  simp only [Act.put, List.setIfInBounds_toArray, List.set_cons_zero, List.set_cons_succ]
  refine take_at (i := 31) (oi := _) (v := .pointer (some ⟨w.heap.size, 1, none⟩)) 55 rfl rfl (by kernel_rfl) (by kernel_rfl) (by kernel_rfl) (fun _ _ _ h => h) (Or.inl ⟨by kernel_rfl, ?_⟩) hHeld ?_
  · intro u hSu
    obtain ⟨x0, x1, x2, x3, x4, y0, y1, y2, y3⟩ := hcell u hSu
    go_simp
    try with_reducible rfl
  simp only [Act.put, List.setIfInBounds_toArray, List.set_cons_zero, List.set_cons_succ]
  refine take_at (i := 32) (oi := _) (v := .string lb) 56 rfl rfl (by kernel_rfl) (by kernel_rfl) (by kernel_rfl) (fun _ _ _ h => h) (Or.inl ⟨by kernel_rfl, ?_⟩) hHeld ?_
  · intro u hSu
    obtain ⟨x0, x1, x2, x3, x4, y0, y1, y2, y3⟩ := hcell u hSu
    go_simp
    try with_reducible rfl
  simp only [Act.put, List.setIfInBounds_toArray, List.set_cons_zero, List.set_cons_succ]
  refine take_at (i := 35) (oi := _) (v := .agg #[.int .i64 7, .int .i64 id, .string ⟨#[]⟩, .slice none 0 0]) 59 rfl rfl (by kernel_rfl) (by kernel_rfl) (by kernel_rfl) (fun _ _ _ h => h) (Or.inl ⟨by kernel_rfl, ?_⟩) hHeld ?_
  · intro u hSu
    obtain ⟨x0, x1, x2, x3, x4, y0, y1, y2, y3⟩ := hcell u hSu
    go_simp
    try with_reducible rfl
  simp only [Act.put, List.setIfInBounds_toArray, List.set_cons_zero, List.set_cons_succ]
  refine take_at (i := 38) (oi := _) (v := .pointer (some ⟨w.heap.size, 2, none⟩)) 62 rfl rfl (by kernel_rfl) (by kernel_rfl) (by kernel_rfl) (fun _ _ _ h => h) (Or.inl ⟨by kernel_rfl, ?_⟩) hHeld ?_
  · intro u hSu
    obtain ⟨x0, x1, x2, x3, x4, y0, y1, y2, y3⟩ := hcell u hSu
    go_simp
    try with_reducible rfl
  simp only [Act.put, List.setIfInBounds_toArray, List.set_cons_zero, List.set_cons_succ]
  refine take_at (i := 39) (oi := _) (v := .int .i64 out) 63 rfl rfl (by kernel_rfl) (by kernel_rfl) (by kernel_rfl) (fun _ _ _ h => h) (Or.inl ⟨by kernel_rfl, ?_⟩) hHeld ?_
  · intro u hSu
    obtain ⟨x0, x1, x2, x3, x4, y0, y1, y2, y3⟩ := hcell u hSu
    go_simp
    try with_reducible rfl
  simp only [Act.put, List.setIfInBounds_toArray, List.set_cons_zero, List.set_cons_succ]
  refine gen_ops (fun OPS QQ hOPS hQQ => ?_)
  have HO := Lib.hid hOPS
  have HQ := Lib.hid hQQ
  have hsz : OPS.size = 45 := by rw [hOPS]; rfl
  clear hOPS hQQ
  refine wpAnyH_inv (Inv := fun l a u => ∃ s : EdSt, l = #[true, decide (0 < s.p), true, true, true, true, s.F30, decide (1 < s.p), true, true, decide (2 < s.p), true, true, decide (3 < s.p), s.F38, true, true, true, true, s.F43, decide (4 < s.p), true, s.F46, decide (5 < s.p), true, true, s.F50, decide (6 < s.p), s.F52, true, true, true, true, s.F57, decide (7 < s.p), true, s.F60, decide (8 < s.p), true, true, s.F64, decide (9 < s.p), s.F66, s.F67, s.F4] ∧ a = ⟨#[.agg #[.int .i64 id, .string lb, .int .i64 out, .int .i64 inn, .slice p1 n1 q1], .pointer (some ⟨w.heap.size, 0, none⟩), .slice none 0 0, .pointer (some ⟨G, 0, none⟩), s.U4, .pointer (some ⟨w.heap.size, 0, none⟩), .int .i64 id, .bool true, .bool false, .bool false, .pointer (some ⟨w.heap.size, 2, none⟩), .int .i64 out, .bool true, .bool false, .bool false, .bool false, .pointer (some ⟨w.heap.size, 3, none⟩), .int .i64 inn, .bool true, .bool false, .bool false, .pointer (some ⟨w.heap.size, 0, none⟩), .int .i64 id, .agg #[.int .i64 7, .int .i64 id, .string ⟨#[]⟩, .slice none 0 0], .agg #[.int .i64 7, .int .i64 id, .string ⟨#[]⟩, .slice none 0 0], s.U25, .pointer (some ⟨w.heap.size, 2, none⟩), .int .i64 out, .pointer (some ⟨w.heap.size, 3, none⟩), .int .i64 inn, s.U30, s.U31, .pointer (some ⟨w.heap.size, 1, none⟩), .string lb, s.U34, .pointer (some ⟨w.heap.size, 4, none⟩), .slice p1 n1 q1, s.U37, s.U38, .pointer (some ⟨w.heap.size, 2, none⟩), .int .i64 out, .pointer (some ⟨w.heap.size, 1, none⟩), .string lb, s.U43, s.U44, .agg #[.int .i64 7, .int .i64 id, .string ⟨#[]⟩, .slice none 0 0], s.U46, s.U47, .pointer (some ⟨w.heap.size, 3, none⟩), .int .i64 inn, s.U50, s.U51, s.U52, .pointer (some ⟨w.heap.size, 3, none⟩), .int .i64 inn, .pointer (some ⟨w.heap.size, 1, none⟩), .string lb, s.U57, s.U58, .agg #[.int .i64 7, .int .i64 id, .string ⟨#[]⟩, .slice none 0 0], s.U60, s.U61, .pointer (some ⟨w.heap.size, 2, none⟩), .int .i64 out, s.U64, s.U65, s.U66, s.U67, undef, undef, undef, undef, undef, undef, undef, undef], []⟩ ∧ EdFx w SS id lb out inn KQ NQ TQ PQ OQ K IQ NI NO s u) ?hstep ?hend _ _ _ _ ?hinit ?hcount
  case hinit => exact ⟨⟨0, false, false, false, false, false, false, false, false, false, false, false, false, _, _, _, _, _, _, _, _, _, _, _, _, _, _, _, _, _, _, _, _, _, _⟩, rfl, rfl, ⟨HS0.out, HB4.out, by dsimp only; omega, fun h => (by cases h), fun h => (by cases h), fun h => (by cases h), fun h => (by cases h), fun h => (by cases h), fun h => (by cases h), fun h => (by cases h), fun h => absurd h (by dsimp only; omega), fun h => absurd h (by dsimp only; omega), fun h => absurd h (by dsimp only; omega), fun h => absurd h (by dsimp only; omega), fun h => absurd h (by dsimp only; omega), fun h => absurd h (by dsimp only; omega), fun h => absurd h (by dsimp only; omega), fun h => absurd h (by dsimp only; omega), fun h => absurd h (by dsimp only; omega), fun h => absurd h (by dsimp only; omega), fun h => (by cases h), fun h => (by cases h), fun h => (by cases h), fun h => (by cases h), fun h => (by cases h)⟩⟩
  case hcount => exact of_decide_eq_true (by kernel_rfl)
  case hstep =>
    rintro l a u ⟨⟨p, F4, F30, F38, F43, F46, F50, F52, F57, F60, F64, F66, F67, U4, U25, U30, U31, U34, U37, U38, U43, U44, U46, U47, U50, U51, U52, U57, U58, U60, U61, U64, U65, U66, U67⟩, rfl, rfl, ⟨hS, hB, hp, b30, b43, b46, b50, b57, b60, b64, f25, f37, f47, f51, f61, f65, k31, k34, k44, k58, z38, z52, z66, z67, z4⟩⟩ i hi
    dsimp only at hS hB hp b30 b43 b46 b50 b57 b60 b64 f25 f37 f47 f51 f61 f65 k31 k34 k44 k58 z38 z52 z66 z67 z4
    obtain ⟨h0, o, ho, hall⟩ := mem_ready.1 hi
    have hlt : i < 45 := by have := (Array.getElem?_eq_some_iff.1 ho).1; omega
    clear hi
    have hc : i = 0 ∨ i = 1 ∨ i = 2 ∨ i = 3 ∨ i = 4 ∨ i = 5 ∨ i = 6 ∨ i = 7 ∨ i = 8 ∨ i = 9 ∨ i = 10 ∨ i = 11 ∨ i = 12 ∨ i = 13 ∨ i = 14 ∨ i = 15 ∨ i = 16 ∨ i = 17 ∨ i = 18 ∨ i = 19 ∨ i = 20 ∨ i = 21 ∨ i = 22 ∨ i = 23 ∨ i = 24 ∨ i = 25 ∨ i = 26 ∨ i = 27 ∨ i = 28 ∨ i = 29 ∨ i = 30 ∨ i = 31 ∨ i = 32 ∨ i = 33 ∨ i = 34 ∨ i = 35 ∨ i = 36 ∨ i = 37 ∨ i = 38 ∨ i = 39 ∨ i = 40 ∨ i = 41 ∨ i = 42 ∨ i = 43 ∨ i = 44 := by omega
    rcases hc with rfl | rfl | rfl | rfl | rfl | rfl | rfl | rfl | rfl | rfl | rfl | rfl | rfl | rfl | rfl | rfl | rfl | rfl | rfl | rfl | rfl | rfl | rfl | rfl | rfl | rfl | rfl | rfl | rfl | rfl | rfl | rfl | rfl | rfl | rfl | rfl | rfl | rfl | rfl | rfl | rfl | rfl | rfl | rfl | rfl
    · exact absurd (show true = false from h0) (by decide)
    · have hp0 : ¬ 0 < p := of_decide_eq_false h0
      rw [HO.out] at ho
      cases ho
      have hpk : p = 0 := by omega
      subst hpk
      clear hall h0 hp0
      rw [HO.out]
      refine wpOp_step (o := _) rfl (fun K hK => ?_)
      replace hK := Lib.hid hK
      dsimp only
      go_simp
      go_at_call 19
      refine (c19 u).mono ?_
      rintro e u' ⟨b, rfl, hb, hBA⟩
      have hkt := kt_bel hBA
      try go_wp2_with fail
      exact hK.out _ _ ⟨hss _ _ hS hkt, ⟨1, F4, F30, F38, F43, F46, F50, F52, F57, F60, F64, F66, F67, _, _, _, _, _, _, _, _, _, _, _, _, _, _, _, _, _, _, _, _, _, _⟩, rfl, rfl, ⟨hss _ _ hS hkt, bel_then hB hBA, by dsimp only; omega, b30.kt hkt, b43.kt hkt, b46.kt hkt, b50.kt hkt, b57.kt hkt, b60.kt hkt, b64.kt hkt, fun _ => hb.zero, fun h => absurd h (by dsimp only; omega), fun h => absurd h (by dsimp only; omega), fun h => absurd h (by dsimp only; omega), fun h => absurd h (by dsimp only; omega), fun h => absurd h (by dsimp only; omega), fun h => absurd h (by dsimp only; omega), fun h => absurd h (by dsimp only; omega), fun h => absurd h (by dsimp only; omega), fun h => absurd h (by dsimp only; omega), fun h => absurd (z38 h).1 (by omega), fun h => absurd (z52 h).1 (by omega), fun h => absurd (z66 h).1 (by omega), fun h => absurd (z67 h).1 (by omega), fun h => absurd (z67 (z4 h).1).1 (by omega)⟩⟩
    · exact absurd (show true = false from h0) (by decide)
    · exact absurd (show true = false from h0) (by decide)
    · exact absurd (show true = false from h0) (by decide)
    · exact absurd (show true = false from h0) (by decide)
    · clear h0
      clear ho hall
      rw [HO.out]
      refine wpOp_step (o := _) rfl (fun K hK => ?_)
      replace hK := Lib.hid hK
      dsimp only
      go_simp
      have hal := bel1 u (.cells #[.int .i64 out, .int .i64 inn] 2)
      exact hK.out _ _ ⟨hss _ _ hS (kt_bel hal), ⟨p, F4, true, F38, F43, F46, F50, F52, F57, F60, F64, F66, F67, _, _, _, _, _, _, _, _, _, _, _, _, _, _, _, _, _, _, _, _, _, _⟩, rfl, rfl, ⟨hss _ _ hS (kt_bel hal), bel_then hB hal, hp, BSf.new (by decide) _, b43.kt (kt_bel hal), b46.kt (kt_bel hal), b50.kt (kt_bel hal), b57.kt (kt_bel hal), b60.kt (kt_bel hal), b64.kt (kt_bel hal), f25.on hal, f37.on hal, f47.on hal, f51.on hal, f61.on hal, f65.on hal, k31.on hal, k34.on hal, k44.on hal, k58.on hal, z38, z52, z66, fun h => by obtain ⟨y1, y2, y4, y5, y6⟩ := z67 h; exact ⟨y1, y2, y4, y5, blk_on hal y6⟩, z4⟩⟩
    · have hp0 : ¬ 1 < p := of_decide_eq_false h0
      rw [HO.out] at ho
      cases ho
      have hp1 : 0 < p := of_decide_eq_true (hall ⟨1, .chain⟩ (by simp) rfl)
      have hpk : p = 1 := by omega
      subst hpk
      obtain ⟨-, g, rfl, hg⟩ := b30 (hall ⟨6, .data⟩ (by simp) rfl)
      clear hall h0 hp0 hp1
      rw [HO.out]
      refine wpOp_step (o := _) rfl (fun K hK => ?_)
      replace hK := Lib.hid hK
      dsimp only
      go_simp
      go_at_call 50
      refine (c50a u g hg).mono ?_
      rintro e u' ⟨b, rfl, hb, hBA⟩
      have hkt := kt_bel hBA
      try go_wp2_with fail
      exact hK.out _ _ ⟨hss _ _ hS hkt, ⟨2, F4, F30, F38, F43, F46, F50, F52, F57, F60, F64, F66, F67, _, _, _, _, _, _, _, _, _, _, _, _, _, _, _, _, _, _, _, _, _, _⟩, rfl, rfl, ⟨hss _ _ hS hkt, bel_then hB hBA, by dsimp only; omega, fun hf => ⟨by decide, g, rfl, hkt _ _ _ (by decide) hg⟩, b43.kt hkt, b46.kt hkt, b50.kt hkt, b57.kt hkt, b60.kt hkt, b64.kt hkt, fun _ => own_bel (f25 (by omega)) hBA, fun h => absurd h (by dsimp only; omega), fun h => absurd h (by dsimp only; omega), fun h => absurd h (by dsimp only; omega), fun h => absurd h (by dsimp only; omega), fun h => absurd h (by dsimp only; omega), fun _ => ⟨u, hB, hBA, f25 (by omega), hb⟩, fun h => absurd h (by dsimp only; omega), fun h => absurd h (by dsimp only; omega), fun h => absurd h (by dsimp only; omega), fun h => absurd (z38 h).1 (by omega), fun h => absurd (z52 h).1 (by omega), fun h => absurd (z66 h).1 (by omega), fun h => absurd (z67 h).1 (by omega), fun h => absurd (z67 (z4 h).1).1 (by omega)⟩⟩
    · exact absurd (show true = false from h0) (by decide)
    · exact absurd (show true = false from h0) (by decide)
    · have hp0 : ¬ 2 < p := of_decide_eq_false h0
      rw [HO.out] at ho
      cases ho
      have hp1 : 1 < p := of_decide_eq_true (hall ⟨7, .chain⟩ (by simp) rfl)
      have hpk : p = 2 := by omega
      subst hpk
      obtain ⟨wA, hA1, hA2, hA3, hA4⟩ := k31 rfl
      clear hall h0 hp0 hp1
      rw [HO.out]
      refine wpOp_step (o := _) rfl (fun K hK => ?_)
      replace hK := Lib.hid hK
      dsimp only
      go_simp
      go_at_call 43
      refine (c43 wA u _ hA2 hA4).mono ?_
      rintro e u' ⟨⟨b, rfl, hb, hBA⟩, hkt⟩
      try go_wp2_with fail
      exact hK.out _ _ ⟨hss _ _ hS hkt, ⟨3, F4, F30, F38, F43, F46, F50, F52, F57, F60, F64, F66, F67, _, _, _, _, _, _, _, _, _, _, _, _, _, _, _, _, _, _, _, _, _, _⟩, rfl, rfl, ⟨hss _ _ hS hkt, hA1.trans (hBA.mono hA1.size), by dsimp only; omega, b30.kt hkt, b43.kt hkt, b46.kt hkt, b50.kt hkt, b57.kt hkt, b60.kt hkt, b64.kt hkt, fun _ => own_bel hA3 hBA, fun h => absurd h (by dsimp only; omega), fun h => absurd h (by dsimp only; omega), fun h => absurd h (by dsimp only; omega), fun h => absurd h (by dsimp only; omega), fun h => absurd h (by dsimp only; omega), fun h => absurd h (by dsimp only; omega), fun _ => ⟨wA, hA1, hBA, hA3, hb⟩, fun h => absurd h (by dsimp only; omega), fun h => absurd h (by dsimp only; omega), fun h => absurd (z38 h).1 (by omega), fun h => absurd (z52 h).1 (by omega), fun h => absurd (z66 h).1 (by omega), fun h => absurd (z67 h).1 (by omega), fun h => absurd (z67 (z4 h).1).1 (by omega)⟩⟩
    · exact absurd (show true = false from h0) (by decide)
    · exact absurd (show true = false from h0) (by decide)
    · have hp0 : ¬ 3 < p := of_decide_eq_false h0
      rw [HO.out] at ho
      cases ho
      have hp1 : 2 < p := of_decide_eq_true (hall ⟨10, .chain⟩ (by simp) rfl)
      have hpk : p = 3 := by omega
      subst hpk
      obtain ⟨wA, hA1, hA2, hA3, hA4⟩ := k34 rfl
      clear hall h0 hp0 hp1
      rw [HO.out]
      refine wpOp_step (o := _) rfl (fun K hK => ?_)
      replace hK := Lib.hid hK
      dsimp only
      go_simp
      go_at_call 42
      refine (c42 wA u _ hA1 hA2 hA4).mono ?_
      rintro e u' ⟨⟨b, rfl, hb, hBA⟩, hkt⟩
      try go_wp2_with fail
      exact hK.out _ _ ⟨hss _ _ hS hkt, ⟨4, F4, F30, F38, F43, F46, F50, F52, F57, F60, F64, F66, F67, _, _, _, _, _, _, _, _, _, _, _, _, _, _, _, _, _, _, _, _, _, _⟩, rfl, rfl, ⟨hss _ _ hS hkt, hA1.trans (hBA.mono hA1.size), by dsimp only; omega, b30.kt hkt, b43.kt hkt, b46.kt hkt, b50.kt hkt, b57.kt hkt, b60.kt hkt, b64.kt hkt, fun _ => own_bel hA3 hBA, fun _ => hb.zero, fun h => absurd h (by dsimp only; omega), fun h => absurd h (by dsimp only; omega), fun h => absurd h (by dsimp only; omega), fun h => absurd h (by dsimp only; omega), fun h => absurd h (by dsimp only; omega), fun h => absurd h (by dsimp only; omega), fun h => absurd h (by dsimp only; omega), fun h => absurd h (by dsimp only; omega), fun h => absurd (z38 h).1 (by omega), fun h => absurd (z52 h).1 (by omega), fun h => absurd (z66 h).1 (by omega), fun h => absurd (z67 h).1 (by omega), fun h => absurd (z67 (z4 h).1).1 (by omega)⟩⟩
    · rw [HO.out] at ho
      cases ho
      have e1 : 3 < p := of_decide_eq_true (hall ⟨13, .data⟩ (by simp) rfl)
      obtain ⟨ra, ma, oa, rfl⟩ := bts_hdr (f25 (by omega))
      obtain ⟨rb, mb, ob, rfl⟩ := bts_hdr (f37 (by omega))
      have g0 : F38 = false := h0
      clear hall h0
      rw [HO.out]
      refine wpOp_step (o := _) rfl (fun K hK => ?_)
      replace hK := Lib.hid hK
      dsimp only
      go_simp
      exact hK.out _ _ ⟨hS, ⟨p, F4, F30, true, F43, F46, F50, F52, F57, F60, F64, F66, F67, _, _, _, _, _, _, _, _, _, _, _, _, _, _, _, _, _, _, _, _, _, _⟩, rfl, rfl, ⟨hS, hB, hp, b30, b43, b46, b50, b57, b60, b64, f25, f37, f47, f51, f61, f65, k31, k34, k44, k58, fun _ => ⟨e1, rfl⟩, z52, z66, z67, z4⟩⟩
    · exact absurd (show true = false from h0) (by decide)
    · exact absurd (show true = false from h0) (by decide)
    · exact absurd (show true = false from h0) (by decide)
    · exact absurd (show true = false from h0) (by decide)
    · clear h0
      clear ho hall
      rw [HO.out]
      refine wpOp_step (o := _) rfl (fun K hK => ?_)
      replace hK := Lib.hid hK
      dsimp only
      go_simp
      have hal := bel1 u (.cells #[.string lb] 9)
      exact hK.out _ _ ⟨hss _ _ hS (kt_bel hal), ⟨p, F4, F30, F38, true, F46, F50, F52, F57, F60, F64, F66, F67, _, _, _, _, _, _, _, _, _, _, _, _, _, _, _, _, _, _, _, _, _, _⟩, rfl, rfl, ⟨hss _ _ hS (kt_bel hal), bel_then hB hal, hp, b30.kt (kt_bel hal), BSf.new (by decide) _, b46.kt (kt_bel hal), b50.kt (kt_bel hal), b57.kt (kt_bel hal), b60.kt (kt_bel hal), b64.kt (kt_bel hal), f25.on hal, f37.on hal, f47.on hal, f51.on hal, f61.on hal, f65.on hal, k31.on hal, k34.on hal, k44.on hal, k58.on hal, z38, z52, z66, fun h => by obtain ⟨y1, y2, y4, y5, y6⟩ := z67 h; exact ⟨y1, y2, y4, y5, blk_on hal y6⟩, z4⟩⟩
    · have hp0 : ¬ 4 < p := of_decide_eq_false h0
      rw [HO.out] at ho
      cases ho
      have hp1 : 3 < p := of_decide_eq_true (hall ⟨13, .chain⟩ (by simp) rfl)
      have hpk : p = 4 := by omega
      subst hpk
      obtain ⟨-, g, rfl, hg⟩ := b43 (hall ⟨19, .data⟩ (by simp) rfl)
      clear hall h0 hp0 hp1
      rw [HO.out]
      refine wpOp_step (o := _) rfl (fun K hK => ?_)
      replace hK := Lib.hid hK
      dsimp only
      go_simp
      go_at_call 21
      refine (c21 u g hg).mono ?_
      rintro e u' ⟨b, rfl, hb, hBA⟩
      have hkt := kt_bel hBA
      try go_wp2_with fail
      exact hK.out _ _ ⟨hss _ _ hS hkt, ⟨5, F4, F30, F38, F43, F46, F50, F52, F57, F60, F64, F66, F67, _, _, _, _, _, _, _, _, _, _, _, _, _, _, _, _, _, _, _, _, _, _⟩, rfl, rfl, ⟨hss _ _ hS hkt, bel_then hB hBA, by dsimp only; omega, b30.kt hkt, fun hf => ⟨by decide, g, rfl, hkt _ _ _ (by decide) hg⟩, b46.kt hkt, b50.kt hkt, b57.kt hkt, b60.kt hkt, b64.kt hkt, fun _ => own_bel (f25 (by omega)) hBA, fun _ => own_bel (f37 (by omega)) hBA, fun h => absurd h (by dsimp only; omega), fun h => absurd h (by dsimp only; omega), fun h => absurd h (by dsimp only; omega), fun h => absurd h (by dsimp only; omega), fun h => absurd h (by dsimp only; omega), fun h => absurd h (by dsimp only; omega), fun _ => ⟨u, hB, hBA, ⟨f25 (by omega), f37 (by omega)⟩, hb⟩, fun h => absurd h (by dsimp only; omega), fun h => ⟨by dsimp only; omega, (z38 h).2⟩, fun h => absurd (z52 h).1 (by omega), fun h => absurd (z66 h).1 (by omega), fun h => absurd (z67 h).1 (by omega), fun h => absurd (z67 (z4 h).1).1 (by omega)⟩⟩
    · exact absurd (show true = false from h0) (by decide)
    · clear h0
      clear ho hall
      rw [HO.out]
      refine wpOp_step (o := _) rfl (fun K hK => ?_)
      replace hK := Lib.hid hK
      dsimp only
      go_simp
      have hal := bel1 u (.cells #[.int .i64 7, .int .i64 id, .string ⟨#[]⟩, .slice none 0 0] 29)
      exact hK.out _ _ ⟨hss _ _ hS (kt_bel hal), ⟨p, F4, F30, F38, F43, true, F50, F52, F57, F60, F64, F66, F67, _, _, _, _, _, _, _, _, _, _, _, _, _, _, _, _, _, _, _, _, _, _⟩, rfl, rfl, ⟨hss _ _ hS (kt_bel hal), bel_then hB hal, hp, b30.kt (kt_bel hal), b43.kt (kt_bel hal), BSf.new (by decide) _, b50.kt (kt_bel hal), b57.kt (kt_bel hal), b60.kt (kt_bel hal), b64.kt (kt_bel hal), f25.on hal, f37.on hal, f47.on hal, f51.on hal, f61.on hal, f65.on hal, k31.on hal, k34.on hal, k44.on hal, k58.on hal, z38, z52, z66, fun h => by obtain ⟨y1, y2, y4, y5, y6⟩ := z67 h; exact ⟨y1, y2, y4, y5, blk_on hal y6⟩, z4⟩⟩
    · have hp0 : ¬ 5 < p := of_decide_eq_false h0
      rw [HO.out] at ho
      cases ho
      have hp1 : 4 < p := of_decide_eq_true (hall ⟨20, .chain⟩ (by simp) rfl)
      have hpk : p = 5 := by omega
      subst hpk
      obtain ⟨-, g, rfl, hg⟩ := b46 (hall ⟨22, .data⟩ (by simp) rfl)
      obtain ⟨wA, hA1, hA2, hA3, hA4⟩ := k44 rfl
      clear hall h0 hp0 hp1
      rw [HO.out]
      refine wpOp_step (o := _) rfl (fun K hK => ?_)
      replace hK := Lib.hid hK
      dsimp only
      go_simp
      go_at_call 51
      refine (c51 wA u _ _ g (by omega) hA2 hA4 hg).mono ?_
      rintro e u' ⟨⟨b, rfl, hb, hBA⟩, hkt⟩
      try go_wp2_with fail
      exact hK.out _ _ ⟨hss _ _ hS hkt, ⟨6, F4, F30, F38, F43, F46, F50, F52, F57, F60, F64, F66, F67, _, _, _, _, _, _, _, _, _, _, _, _, _, _, _, _, _, _, _, _, _, _⟩, rfl, rfl, ⟨hss _ _ hS hkt, hA1.trans (hBA.mono hA1.size), by dsimp only; omega, b30.kt hkt, b43.kt hkt, fun hf => ⟨by decide, g, rfl, hkt _ _ _ (by decide) hg⟩, b50.kt hkt, b57.kt hkt, b60.kt hkt, b64.kt hkt, fun _ => own_bel hA3.1 hBA, fun _ => own_bel hA3.2 hBA, fun _ => hb.zero, fun h => absurd h (by dsimp only; omega), fun h => absurd h (by dsimp only; omega), fun h => absurd h (by dsimp only; omega), fun h => absurd h (by dsimp only; omega), fun h => absurd h (by dsimp only; omega), fun h => absurd h (by dsimp only; omega), fun h => absurd h (by dsimp only; omega), fun h => ⟨by dsimp only; omega, (z38 h).2⟩, fun h => absurd (z52 h).1 (by omega), fun h => absurd (z66 h).1 (by omega), fun h => absurd (z67 h).1 (by omega), fun h => absurd (z67 (z4 h).1).1 (by omega)⟩⟩
    · exact absurd (show true = false from h0) (by decide)
    · exact absurd (show true = false from h0) (by decide)
    · clear h0
      clear ho hall
      rw [HO.out]
      refine wpOp_step (o := _) rfl (fun K hK => ?_)
      replace hK := Lib.hid hK
      dsimp only
      go_simp
      have hal := bel1 u (.cells #[.int .i64 inn] 2)
      exact hK.out _ _ ⟨hss _ _ hS (kt_bel hal), ⟨p, F4, F30, F38, F43, F46, true, F52, F57, F60, F64, F66, F67, _, _, _, _, _, _, _, _, _, _, _, _, _, _, _, _, _, _, _, _, _, _⟩, rfl, rfl, ⟨hss _ _ hS (kt_bel hal), bel_then hB hal, hp, b30.kt (kt_bel hal), b43.kt (kt_bel hal), b46.kt (kt_bel hal), BSf.new (by decide) _, b57.kt (kt_bel hal), b60.kt (kt_bel hal), b64.kt (kt_bel hal), f25.on hal, f37.on hal, f47.on hal, f51.on hal, f61.on hal, f65.on hal, k31.on hal, k34.on hal, k44.on hal, k58.on hal, z38, z52, z66, fun h => by obtain ⟨y1, y2, y4, y5, y6⟩ := z67 h; exact ⟨y1, y2, y4, y5, blk_on hal y6⟩, z4⟩⟩
    · have hp0 : ¬ 6 < p := of_decide_eq_false h0
      rw [HO.out] at ho
      cases ho
      have hp1 : 5 < p := of_decide_eq_true (hall ⟨23, .chain⟩ (by simp) rfl)
      have hpk : p = 6 := by omega
      subst hpk
      obtain ⟨-, g, rfl, hg⟩ := b50 (hall ⟨26, .data⟩ (by simp) rfl)
      clear hall h0 hp0 hp1
      rw [HO.out]
      refine wpOp_step (o := _) rfl (fun K hK => ?_)
      replace hK := Lib.hid hK
      dsimp only
      go_simp
      go_at_call 50
      refine (c50b u g hg).mono ?_
      rintro e u' ⟨b, rfl, hb, hBA⟩
      have hkt := kt_bel hBA
      try go_wp2_with fail
      exact hK.out _ _ ⟨hss _ _ hS hkt, ⟨7, F4, F30, F38, F43, F46, F50, F52, F57, F60, F64, F66, F67, _, _, _, _, _, _, _, _, _, _, _, _, _, _, _, _, _, _, _, _, _, _⟩, rfl, rfl, ⟨hss _ _ hS hkt, bel_then hB hBA, by dsimp only; omega, b30.kt hkt, b43.kt hkt, b46.kt hkt, fun hf => ⟨by decide, g, rfl, hkt _ _ _ (by decide) hg⟩, b57.kt hkt, b60.kt hkt, b64.kt hkt, fun _ => own_bel (f25 (by omega)) hBA, fun _ => own_bel (f37 (by omega)) hBA, fun _ => own_bel (f47 (by omega)) hBA, fun _ => hb.zero, fun h => absurd h (by dsimp only; omega), fun h => absurd h (by dsimp only; omega), fun h => absurd h (by dsimp only; omega), fun h => absurd h (by dsimp only; omega), fun h => absurd h (by dsimp only; omega), fun h => absurd h (by dsimp only; omega), fun h => ⟨by dsimp only; omega, (z38 h).2⟩, fun h => absurd (z52 h).1 (by omega), fun h => absurd (z66 h).1 (by omega), fun h => absurd (z67 h).1 (by omega), fun h => absurd (z67 (z4 h).1).1 (by omega)⟩⟩
    · rw [HO.out] at ho
      cases ho
      have e1 : 6 < p := of_decide_eq_true (hall ⟨27, .data⟩ (by simp) rfl)
      obtain ⟨ra, ma, oa, rfl⟩ := bts_hdr (f47 (by omega))
      obtain ⟨rb, mb, ob, rfl⟩ := bts_hdr (f51 (by omega))
      have g0 : F52 = false := h0
      clear hall h0
      rw [HO.out]
      refine wpOp_step (o := _) rfl (fun K hK => ?_)
      replace hK := Lib.hid hK
      dsimp only
      go_simp
      exact hK.out _ _ ⟨hS, ⟨p, F4, F30, F38, F43, F46, F50, true, F57, F60, F64, F66, F67, _, _, _, _, _, _, _, _, _, _, _, _, _, _, _, _, _, _, _, _, _, _⟩, rfl, rfl, ⟨hS, hB, hp, b30, b43, b46, b50, b57, b60, b64, f25, f37, f47, f51, f61, f65, k31, k34, k44, k58, z38, fun _ => ⟨e1, rfl⟩, z66, z67, z4⟩⟩
    · exact absurd (show true = false from h0) (by decide)
    · exact absurd (show true = false from h0) (by decide)
    · exact absurd (show true = false from h0) (by decide)
    · exact absurd (show true = false from h0) (by decide)
    · clear h0
      clear ho hall
      rw [HO.out]
      refine wpOp_step (o := _) rfl (fun K hK => ?_)
      replace hK := Lib.hid hK
      dsimp only
      go_simp
      have hal := bel1 u (.cells #[.string lb] 9)
      exact hK.out _ _ ⟨hss _ _ hS (kt_bel hal), ⟨p, F4, F30, F38, F43, F46, F50, F52, true, F60, F64, F66, F67, _, _, _, _, _, _, _, _, _, _, _, _, _, _, _, _, _, _, _, _, _, _⟩, rfl, rfl, ⟨hss _ _ hS (kt_bel hal), bel_then hB hal, hp, b30.kt (kt_bel hal), b43.kt (kt_bel hal), b46.kt (kt_bel hal), b50.kt (kt_bel hal), BSf.new (by decide) _, b60.kt (kt_bel hal), b64.kt (kt_bel hal), f25.on hal, f37.on hal, f47.on hal, f51.on hal, f61.on hal, f65.on hal, k31.on hal, k34.on hal, k44.on hal, k58.on hal, z38, z52, z66, fun h => by obtain ⟨y1, y2, y4, y5, y6⟩ := z67 h; exact ⟨y1, y2, y4, y5, blk_on hal y6⟩, z4⟩⟩
    · have hp0 : ¬ 7 < p := of_decide_eq_false h0
      rw [HO.out] at ho
      cases ho
      have hp1 : 6 < p := of_decide_eq_true (hall ⟨27, .chain⟩ (by simp) rfl)
      have hpk : p = 7 := by omega
      subst hpk
      obtain ⟨-, g, rfl, hg⟩ := b57 (hall ⟨33, .data⟩ (by simp) rfl)
      clear hall h0 hp0 hp1
      rw [HO.out]
      refine wpOp_step (o := _) rfl (fun K hK => ?_)
      replace hK := Lib.hid hK
      dsimp only
      go_simp
      go_at_call 23
      refine (c23 u g hg).mono ?_
      rintro e u' ⟨b, rfl, hb, hBA⟩
      have hkt := kt_bel hBA
      try go_wp2_with fail
      exact hK.out _ _ ⟨hss _ _ hS hkt, ⟨8, F4, F30, F38, F43, F46, F50, F52, F57, F60, F64, F66, F67, _, _, _, _, _, _, _, _, _, _, _, _, _, _, _, _, _, _, _, _, _, _⟩, rfl, rfl, ⟨hss _ _ hS hkt, bel_then hB hBA, by dsimp only; omega, b30.kt hkt, b43.kt hkt, b46.kt hkt, b50.kt hkt, fun hf => ⟨by decide, g, rfl, hkt _ _ _ (by decide) hg⟩, b60.kt hkt, b64.kt hkt, fun _ => own_bel (f25 (by omega)) hBA, fun _ => own_bel (f37 (by omega)) hBA, fun _ => own_bel (f47 (by omega)) hBA, fun _ => own_bel (f51 (by omega)) hBA, fun h => absurd h (by dsimp only; omega), fun h => absurd h (by dsimp only; omega), fun h => absurd h (by dsimp only; omega), fun h => absurd h (by dsimp only; omega), fun h => absurd h (by dsimp only; omega), fun _ => ⟨u, hB, hBA, ⟨f25 (by omega), f37 (by omega), f47 (by omega), f51 (by omega)⟩, hb⟩, fun h => ⟨by dsimp only; omega, (z38 h).2⟩, fun h => ⟨by dsimp only; omega, (z52 h).2⟩, fun h => absurd (z66 h).1 (by omega), fun h => absurd (z67 h).1 (by omega), fun h => absurd (z67 (z4 h).1).1 (by omega)⟩⟩
    · exact absurd (show true = false from h0) (by decide)
    · clear h0
      clear ho hall
      rw [HO.out]
      refine wpOp_step (o := _) rfl (fun K hK => ?_)
      replace hK := Lib.hid hK
      dsimp only
      go_simp
      have hal := bel1 u (.cells #[.int .i64 7, .int .i64 id, .string ⟨#[]⟩, .slice none 0 0] 29)
      exact hK.out _ _ ⟨hss _ _ hS (kt_bel hal), ⟨p, F4, F30, F38, F43, F46, F50, F52, F57, true, F64, F66, F67, _, _, _, _, _, _, _, _, _, _, _, _, _, _, _, _, _, _, _, _, _, _⟩, rfl, rfl, ⟨hss _ _ hS (kt_bel hal), bel_then hB hal, hp, b30.kt (kt_bel hal), b43.kt (kt_bel hal), b46.kt (kt_bel hal), b50.kt (kt_bel hal), b57.kt (kt_bel hal), BSf.new (by decide) _, b64.kt (kt_bel hal), f25.on hal, f37.on hal, f47.on hal, f51.on hal, f61.on hal, f65.on hal, k31.on hal, k34.on hal, k44.on hal, k58.on hal, z38, z52, z66, fun h => by obtain ⟨y1, y2, y4, y5, y6⟩ := z67 h; exact ⟨y1, y2, y4, y5, blk_on hal y6⟩, z4⟩⟩
    · have hp0 : ¬ 8 < p := of_decide_eq_false h0
      rw [HO.out] at ho
      cases ho
      have hp1 : 7 < p := of_decide_eq_true (hall ⟨34, .chain⟩ (by simp) rfl)
      have hpk : p = 8 := by omega
      subst hpk
      obtain ⟨-, g, rfl, hg⟩ := b60 (hall ⟨36, .data⟩ (by simp) rfl)
      obtain ⟨wA, hA1, hA2, hA3, hA4⟩ := k58 rfl
      clear hall h0 hp0 hp1
      rw [HO.out]
      refine wpOp_step (o := _) rfl (fun K hK => ?_)
      replace hK := Lib.hid hK
      dsimp only
      go_simp
      go_at_call 51
      refine (c51 wA u _ _ g (by omega) hA2 hA4 hg).mono ?_
      rintro e u' ⟨⟨b, rfl, hb, hBA⟩, hkt⟩
      try go_wp2_with fail
      exact hK.out _ _ ⟨hss _ _ hS hkt, ⟨9, F4, F30, F38, F43, F46, F50, F52, F57, F60, F64, F66, F67, _, _, _, _, _, _, _, _, _, _, _, _, _, _, _, _, _, _, _, _, _, _⟩, rfl, rfl, ⟨hss _ _ hS hkt, hA1.trans (hBA.mono hA1.size), by dsimp only; omega, b30.kt hkt, b43.kt hkt, b46.kt hkt, b50.kt hkt, b57.kt hkt, fun hf => ⟨by decide, g, rfl, hkt _ _ _ (by decide) hg⟩, b64.kt hkt, fun _ => own_bel hA3.1 hBA, fun _ => own_bel hA3.2.1 hBA, fun _ => own_bel hA3.2.2.1 hBA, fun _ => own_bel hA3.2.2.2 hBA, fun _ => hb.zero, fun h => absurd h (by dsimp only; omega), fun h => absurd h (by dsimp only; omega), fun h => absurd h (by dsimp only; omega), fun h => absurd h (by dsimp only; omega), fun h => absurd h (by dsimp only; omega), fun h => ⟨by dsimp only; omega, (z38 h).2⟩, fun h => ⟨by dsimp only; omega, (z52 h).2⟩, fun h => absurd (z66 h).1 (by omega), fun h => absurd (z67 h).1 (by omega), fun h => absurd (z67 (z4 h).1).1 (by omega)⟩⟩
    · exact absurd (show true = false from h0) (by decide)
    · exact absurd (show true = false from h0) (by decide)
    · clear h0
      clear ho hall
      rw [HO.out]
      refine wpOp_step (o := _) rfl (fun K hK => ?_)
      replace hK := Lib.hid hK
      dsimp only
      go_simp
      have hal := bel1 u (.cells #[.int .i64 out] 2)
      exact hK.out _ _ ⟨hss _ _ hS (kt_bel hal), ⟨p, F4, F30, F38, F43, F46, F50, F52, F57, F60, true, F66, F67, _, _, _, _, _, _, _, _, _, _, _, _, _, _, _, _, _, _, _, _, _, _⟩, rfl, rfl, ⟨hss _ _ hS (kt_bel hal), bel_then hB hal, hp, b30.kt (kt_bel hal), b43.kt (kt_bel hal), b46.kt (kt_bel hal), b50.kt (kt_bel hal), b57.kt (kt_bel hal), b60.kt (kt_bel hal), BSf.new (by decide) _, f25.on hal, f37.on hal, f47.on hal, f51.on hal, f61.on hal, f65.on hal, k31.on hal, k34.on hal, k44.on hal, k58.on hal, z38, z52, z66, fun h => by obtain ⟨y1, y2, y4, y5, y6⟩ := z67 h; exact ⟨y1, y2, y4, y5, blk_on hal y6⟩, z4⟩⟩
    · have hp0 : ¬ 9 < p := of_decide_eq_false h0
      rw [HO.out] at ho
      cases ho
      have hp1 : 8 < p := of_decide_eq_true (hall ⟨37, .chain⟩ (by simp) rfl)
      have hpk : p = 9 := by omega
      subst hpk
      obtain ⟨-, g, rfl, hg⟩ := b64 (hall ⟨40, .data⟩ (by simp) rfl)
      clear hall h0 hp0 hp1
      rw [HO.out]
      refine wpOp_step (o := _) rfl (fun K hK => ?_)
      replace hK := Lib.hid hK
      dsimp only
      go_simp
      go_at_call 50
      refine (c50c u g hg).mono ?_
      rintro e u' ⟨b, rfl, hb, hBA⟩
      have hkt := kt_bel hBA
      try go_wp2_with fail
      exact hK.out _ _ ⟨hss _ _ hS hkt, ⟨10, F4, F30, F38, F43, F46, F50, F52, F57, F60, F64, F66, F67, _, _, _, _, _, _, _, _, _, _, _, _, _, _, _, _, _, _, _, _, _, _⟩, rfl, rfl, ⟨hss _ _ hS hkt, bel_then hB hBA, by dsimp only; omega, b30.kt hkt, b43.kt hkt, b46.kt hkt, b50.kt hkt, b57.kt hkt, b60.kt hkt, fun hf => ⟨by decide, g, rfl, hkt _ _ _ (by decide) hg⟩, fun _ => own_bel (f25 (by omega)) hBA, fun _ => own_bel (f37 (by omega)) hBA, fun _ => own_bel (f47 (by omega)) hBA, fun _ => own_bel (f51 (by omega)) hBA, fun _ => own_bel (f61 (by omega)) hBA, fun _ => hb.zero, fun h => absurd h (by dsimp only; omega), fun h => absurd h (by dsimp only; omega), fun h => absurd h (by dsimp only; omega), fun h => absurd h (by dsimp only; omega), fun h => ⟨by dsimp only; omega, (z38 h).2⟩, fun h => ⟨by dsimp only; omega, (z52 h).2⟩, fun h => absurd (z66 h).1 (by omega), fun h => absurd (z67 h).1 (by omega), fun h => absurd (z67 (z4 h).1).1 (by omega)⟩⟩
    · rw [HO.out] at ho
      cases ho
      have e1 : 9 < p := of_decide_eq_true (hall ⟨41, .data⟩ (by simp) rfl)
      obtain ⟨ra, ma, oa, rfl⟩ := bts_hdr (f61 (by omega))
      obtain ⟨rb, mb, ob, rfl⟩ := bts_hdr (f65 (by omega))
      have g0 : F66 = false := h0
      clear hall h0
      rw [HO.out]
      refine wpOp_step (o := _) rfl (fun K hK => ?_)
      replace hK := Lib.hid hK
      dsimp only
      go_simp
      exact hK.out _ _ ⟨hS, ⟨p, F4, F30, F38, F43, F46, F50, F52, F57, F60, F64, true, F67, _, _, _, _, _, _, _, _, _, _, _, _, _, _, _, _, _, _, _, _, _, _⟩, rfl, rfl, ⟨hS, hB, hp, b30, b43, b46, b50, b57, b60, b64, f25, f37, f47, f51, f61, f65, k31, k34, k44, k58, z38, z52, fun _ => ⟨e1, rfl⟩, z67, z4⟩⟩
    · have g67 : F67 = false := h0
      clear h0
      rw [HO.out] at ho
      cases ho
      have e38 : F38 = true := hall ⟨14, .data⟩ (by simp) rfl
      have e52 : F52 = true := hall ⟨28, .data⟩ (by simp) rfl
      have e66 : F66 = true := hall ⟨42, .data⟩ (by simp) rfl
      obtain ⟨-, rfl⟩ := z38 e38
      obtain ⟨-, rfl⟩ := z52 e52
      obtain ⟨h9, rfl⟩ := z66 e66
      have hp10 : p = 10 := by omega
      subst hp10
      obtain ⟨r25, m25, o25, rfl⟩ := bts_hdr (f25 (by omega))
      obtain ⟨r37, m37, o37, rfl⟩ := bts_hdr (f37 (by omega))
      obtain ⟨r47, m47, o47, rfl⟩ := bts_hdr (f47 (by omega))
      obtain ⟨r51, m51, o51, rfl⟩ := bts_hdr (f51 (by omega))
      obtain ⟨r61, m61, o61, rfl⟩ := bts_hdr (f61 (by omega))
      obtain ⟨r65, m65, o65, rfl⟩ := bts_hdr (f65 (by omega))
      clear hall
      rw [HO.out]
      refine wpOp_step (o := _) rfl (fun K hK => ?_)
      replace hK := Lib.hid hK
      dsimp only
      go_simp
      have hal := bel1 u (.cells #[.slice r25 m25 o25, .slice r37 m37 o37, .slice r47 m47 o47, .slice r51 m51 o51, .slice r61 m61 o61, .slice r65 m65 o65] 39)
      exact hK.out _ _ ⟨hss _ _ hS (kt_bel hal), ⟨10, F4, F30, F38, F43, F46, F50, F52, F57, F60, F64, F66, true, _, _, _, _, _, _, _, _, _, _, _, _, _, _, _, _, _, _, _, _, _, _⟩, rfl, rfl, ⟨hss _ _ hS (kt_bel hal), bel_then hB hal, hp, b30.kt (kt_bel hal), b43.kt (kt_bel hal), b46.kt (kt_bel hal), b50.kt (kt_bel hal), b57.kt (kt_bel hal), b60.kt (kt_bel hal), b64.kt (kt_bel hal), f25.on hal, f37.on hal, f47.on hal, f51.on hal, f61.on hal, f65.on hal, k31.on hal, k34.on hal, k44.on hal, k58.on hal, z38, z52, z66, fun _ => ⟨rfl, _, hB.size, rfl, blk_new u _⟩, fun h => absurd (z4 h).1 (by rw [g67]; decide)⟩⟩
    · rw [HO.out] at ho
      cases ho
      have e67 : F67 = true := hall ⟨43, .data⟩ (by simp) rfl
      clear hall h0
      rw [HO.out]
      refine wpOp_step (o := _) rfl (fun K hK => ?_)
      replace hK := Lib.hid hK
      dsimp only
      go_simp
      exact hK.out _ _ ⟨hS, ⟨p, true, F30, F38, F43, F46, F50, F52, F57, F60, F64, F66, F67, _, _, _, _, _, _, _, _, _, _, _, _, _, _, _, _, _, _, _, _, _, _⟩, rfl, rfl, ⟨hS, hB, hp, b30, b43, b46, b50, b57, b60, b64, f25, f37, f47, f51, f61, f65, k31, k34, k44, k58, z38, z52, z66, z67, fun _ => ⟨e67, rfl⟩⟩⟩
  case hend =>
    rintro l a u ⟨⟨p, F4, F30, F38, F43, F46, F50, F52, F57, F60, F64, F66, F67, U4, U25, U30, U31, U34, U37, U38, U43, U44, U46, U47, U50, U51, U52, U57, U58, U60, U61, U64, U65, U66, U67⟩, rfl, rfl, ⟨hS, hB, hp, b30, b43, b46, b50, b57, b60, b64, f25, f37, f47, f51, f61, f65, k31, k34, k44, k58, z38, z52, z66, z67, z4⟩⟩ hr
    dsimp only at hS hB hp b30 b43 b46 b50 b57 b60 b64 f25 f37 f47 f51 f61 f65 k31 k34 k44 k58 z38 z52 z66 z67 z4
    have nope : ∀ (i : Nat) (o : Oper), OPS[i]? = some o → _ → _ → False := fun i o ho h0 h => ready_of ho h0 h hr
    rw [HO.out] at nope
    obtain rfl : F30 = true := by
      cases F30 with
      | false => exact (nope 6 _ rfl rfl (by simp)).elim
      | true => rfl
    obtain rfl : F43 = true := by
      cases F43 with
      | false => exact (nope 19 _ rfl rfl (by simp)).elim
      | true => rfl
    obtain rfl : F46 = true := by
      cases F46 with
      | false => exact (nope 22 _ rfl rfl (by simp)).elim
      | true => rfl
    obtain rfl : F50 = true := by
      cases F50 with
      | false => exact (nope 26 _ rfl rfl (by simp)).elim
      | true => rfl
    obtain rfl : F57 = true := by
      cases F57 with
      | false => exact (nope 33 _ rfl rfl (by simp)).elim
      | true => rfl
    obtain rfl : F60 = true := by
      cases F60 with
      | false => exact (nope 36 _ rfl rfl (by simp)).elim
      | true => rfl
    obtain rfl : F64 = true := by
      cases F64 with
      | false => exact (nope 40 _ rfl rfl (by simp)).elim
      | true => rfl
    have hpp : p = 10 := by
      rcases (by omega : p = 10 ∨ p = 0 ∨ p = 1 ∨ p = 2 ∨ p = 3 ∨ p = 4 ∨ p = 5 ∨ p = 6 ∨ p = 7 ∨ p = 8 ∨ p = 9) with rfl | rfl | rfl | rfl | rfl | rfl | rfl | rfl | rfl | rfl | rfl
      · rfl
      · exact (nope 1 _ rfl rfl (by simp)).elim
      · exact (nope 7 _ rfl rfl (by simp)).elim
      · exact (nope 10 _ rfl rfl (by simp)).elim
      · exact (nope 13 _ rfl rfl (by simp)).elim
      · exact (nope 20 _ rfl rfl (by simp)).elim
      · exact (nope 23 _ rfl rfl (by simp)).elim
      · exact (nope 27 _ rfl rfl (by simp)).elim
      · exact (nope 34 _ rfl rfl (by simp)).elim
      · exact (nope 37 _ rfl rfl (by simp)).elim
      · exact (nope 41 _ rfl rfl (by simp)).elim
    subst hpp
    obtain rfl : F38 = true := by
      cases F38 with
      | false => exact (nope 14 _ rfl rfl (by simp)).elim
      | true => rfl
    obtain rfl : F52 = true := by
      cases F52 with
      | false => exact (nope 28 _ rfl rfl (by simp)).elim
      | true => rfl
    obtain rfl : F66 = true := by
      cases F66 with
      | false => exact (nope 42 _ rfl rfl (by simp)).elim
      | true => rfl
    obtain rfl : F67 = true := by
      cases F67 with
      | false => exact (nope 43 _ rfl rfl (by simp)).elim
      | true => rfl
    obtain rfl : F4 = true := by
      cases F4 with
      | false => exact (nope 44 _ rfl rfl (by simp)).elim
      | true => rfl
    obtain ⟨-, g, hwg, rfl, hg⟩ := z67 rfl
    obtain ⟨-, rfl⟩ := z4 rfl
    obtain ⟨x0, x1, x2, x3, x4, y0, y1, y2, y3⟩ := hcell u hS
    have hr7 : RowE u w.heap.size (.slice (some ⟨g, 0, none⟩) 3 3) [⟨KQ, NQ ++ TQ ++ PQ⟩, ⟨OQ ++ K, NI⟩, ⟨IQ ++ K, NO⟩] := row_three hwg hg (f25 (by omega)) (f37 (by omega)) (f47 (by omega)) (f51 (by omega)) (f61 (by omega)) (f65 (by omega))
    have HR := Lib.hid hr7
    have HB := Lib.hid hB
    rw [HQ.out]
    clear nope hr hg hr7 hB HQ HO hwg
    clear b30 b43 b46 b50 b57 b60 b64 f25 f37 f47 f51 f61 f65 k31 k34 k44 k58 z38 z52 z66 z67 z4
    go_wp2_with (fail)
    refine (c44 _ (hps.on HB.out)).mono ?_
    rintro e w8 ⟨v8, rfl, hr8, hB8⟩
    have B8 := bel_then HB.out hB8
    obtain ⟨g8, cap8, hs8, rfl, -, -, -, he8, -, hc8⟩ := hr8.told hixp
    have hr78 := HR.out.on hB8
    clear hr8 HR HB hB8
    go_wp2_with (at_builtin; refine wpList_app_en _ rfl _ _ rfl w.heap.size _ _ rfl hr78 ⟨g8, 0, none⟩ cap8 hs8 IX rfl hc8 he8 (by simp; omega) B8.size ?_; intro v9 w9 hr9 hg9)
    go_ret
    exact ⟨_, rfl, hr9, belowE_app B8 hr78 hg9⟩
end Go.Proofs.YtbgikgeknnmelaaGreat
