/-
  putProps of package keys.
-/
import Derived.Test.YtbgikgeknnmelaaGreatPps
namespace Go.Proofs.YtbgikgeknnmelaaGreat
open Go.RowKit
set_option linter.unusedVariables false      -- a walk need not use every condition

theorem manyP_at {ps : List Pr} {j : Nat} (hj : j < ps.length) : ps[j].nm.size + ps[j].v.many + 1 ≤ manyP ps := by
  unfold manyP
  induction ps generalizing j with
  | nil => exact absurd hj (Nat.not_lt_zero _)
  | cons p ps ih =>
    cases j with
    | zero => simp
    | succ j => have := ih (j := j) (by simpa using hj); simp at this ⊢; omega
theorem props_take {ps : List Pr} {j : Nat} (hj : j < ps.length) : (ps.take (j + 1)).flatMap propQ = (ps.take j).flatMap propQ ++ textQ ps[j].nm ++ plq ps[j].v := by
  rw [List.take_succ_eq_append_getElem hj, List.flatMap_append]; simp [propQ]
theorem props_split {ps : List Pr} {j : Nat} (hj : j < ps.length) : ((ps.take j).flatMap propQ).length + (textQ ps[j].nm).length + (plq ps[j].v).length ≤ (ps.flatMap propQ).length := by
  have h : ps.flatMap propQ = (ps.take (j + 1)).flatMap propQ ++ (ps.drop (j + 1)).flatMap propQ := by rw [← List.flatMap_append, List.take_append_drop]
  rw [h, List.length_append, props_take hj]; simp; omega
theorem five_of {w : World} {g : Nat} {a b c d e : Value} {t : TypeId} (h : w.heap[g]? = some (.cells #[a, b, c, d, e] t)) :
    w.cell? ⟨g, 0, none⟩ = some a ∧ w.cell? ⟨g, 1, none⟩ = some b ∧ w.cell? ⟨g, 2, none⟩ = some c ∧ w.cell? ⟨g, 3, none⟩ = some d ∧ w.cell? ⟨g, 4, none⟩ = some e ∧ ∀ i, w.frozen? ⟨g, i, none⟩ = false := by
  refine ⟨?_, ?_, ?_, ?_, ?_, fun i => ?_⟩ <;> simp [World.cell?, World.frozen?, h]
/-- A block that is no row of bytes stays. -/
theorem blk_gr {w w' : World} {base : Nat} {v : Value} {t : List UInt8} (h : Bts w base v t) {g : Nat} {cs : Array Value} {ty : TypeId} (hty : ty ≠ 5) (hg : w.heap[g]? = some (.cells cs ty)) (hgr : w.grownBy w' v.ownBlock) : w'.heap[g]? = some (.cells cs ty) := by
  refine (hgr.block g (Array.getElem?_eq_some_iff.1 hg).1 ?_).trans hg
  unfold Bts at h
  rcases h.2 with ⟨rfl, -⟩ | ⟨g', cap, cur, rfl, -, hg', -⟩
  · intro e; cases e
  · intro e
    simp only [Value.ownBlock, Option.some.injEq] at e
    subst e
    rw [hg] at hg'
    simp at hg'
    exact hty hg'.2
set_option maxHeartbeats 1000000 in
set_option maxRecDepth 20000 in
/-- putText keeps what is no row of bytes. -/
theorem putTextT43 (s : ByteArray) (hs : s.size ≤ 1048570) (w0 w : World) (b : Value) (t0 : List UInt8) (hB : Below w0.heap.size w0 w) (hb : Bts w w0.heap.size b t0) (ht : t0.length ≤ 140737478355328) :
    Calls Tryz.prog 43 #[b, .string s] w fun e w' => AppR w0 (t0 ++ textQ s) e w' ∧ KT w w' := by
  have hs0 : s.size ≤ 1048570 := hs
  have hlit := ns_lit w [(s.size : Int)] (by intro n hn; simp at hn; subst hn; unfold I64; omega) (by unfold maxLen; simp)
  have c50 := numbers50 [(s.size : Int)] (by simp) _ _ hlit
  have hq : t0 ++ textQ s = t0 ++ numsQ [(s.size : Int)] ++ s.data.toList := by simp [textQ, numsQ]
  rw [hq]
  have hp : 0 < (numsQ [(s.size : Int)]).length := by have := numQ_pos s.size; simpa [numsQ] using this
  have hl := numsQ_len [(s.size : Int)]
  simp only [List.length_cons, List.length_nil] at hl
  generalize numsQ [(s.size : Int)] = Q at *
  have hB0 := hB.trans ((bel1 w (.cells #[.int .i64 (s.size : Int)] 2)).mono hB.size)
  have hb0 := World.ownsRow.alloc hb (.cells #[.int .i64 (s.size : Int)] 2)
  clear hlit
  go_enter Tryz.func43, Tryz.ntmps43
  go_wp2_with (first
    | (go_at_call 50; refine c50.mono ?_; rintro e w1 ⟨b1, rfl, hb1, hB1⟩; have hB2 := hB0.trans (hB1.mono hB0.size); have hO1 : Bts w1 w0.heap.size b t0 := own_bel hb0 hB1; have hbs := hb1.bs; have HG1 := Lib.hid ((kt_bel (bel1 w _)).trans (kt_bel hB1)))
    | (at_builtin; refine wpList_app_bs _ rfl _ _ rfl w0.heap.size _ t0 rfl hO1 _ Q rfl hbs (by omega) hB2.size ?_; intro v3 w3 hb3 hg3; have hB3 := below_app hB2 hO1 hg3; have HG3 := Lib.hid (HG1.out.trans (kt_gr hO1 hg3)); clear hg3)
    | (at_builtin; refine wpList_app_str _ rfl _ _ rfl rfl w0.heap.size _ (t0 ++ Q) rfl hb3 s rfl (.inr (by simp; omega)) (by simp; omega) hB3.size ?_; intro v4 w4 hb4 hg4; have hB4 := below_app hB3 hb3 hg4; have HG4 := Lib.hid (HG3.out.trans (kt_gr hb3 hg4)); clear hg4))
  go_ret
  exact ⟨⟨v4, rfl, hb4, hB4⟩, HG4.out⟩
set_option maxHeartbeats 1000000 in
set_option maxRecDepth 20000 in
theorem putPropsT42 (ps : List Pr) (sp : Value) (w0 w : World) (b : Value) (t0 : List UInt8) (hps : Sq RP w0 0 ps sp) (hm : manyP ps ≤ 1048570) (hB : Below w0.heap.size w0 w) (hb : Bts w w0.heap.size b t0) (ht : t0.length ≤ 10000000) :
    Calls Tryz.prog 42 #[b, sp] w fun e w' => AppR w0 (t0 ++ propsQ ps) e w' ∧ KT w w' := by
  have hlen0 := manyP_len ps
  have hlit := ns_lit w [(ps.length : Int)] (by intro n hn; simp at hn; subst hn; unfold I64; omega) (by unfold maxLen; simp)
  have c50 := numbers50 [(ps.length : Int)] (by simp) _ _ hlit
  have hq : propsQ ps = numsQ [(ps.length : Int)] ++ ps.flatMap propQ := by simp [propsQ, numsQ]
  rw [hq]
  have hl := numsQ_len [(ps.length : Int)]
  simp only [List.length_cons, List.length_nil] at hl
  generalize numsQ [(ps.length : Int)] = Q at *
  have hB0 := hB.trans ((bel1 w (.cells #[.int .i64 (ps.length : Int)] 2)).mono hB.size)
  have hb0 := World.ownsRow.alloc hb (.cells #[.int .i64 (ps.length : Int)] 2)
  have hall := props_len ps
  obtain ⟨p, cap, rfl, hc, hcm, h56, hx⟩ := hps
  unfold maxLen at hcm
  clear hlit hq h56
  go_enter Tryz.func42, Tryz.ntmps42
  go_wp2_with (first
    | (go_at_call 50; refine c50.mono ?_; rintro e w1 ⟨b1, rfl, hb1, hB1⟩; have hB2 := hB0.trans (hB1.mono hB0.size); have hO1 : Bts w1 w0.heap.size b t0 := own_bel hb0 hB1; have hbs := hb1.bs; have HK1 := Lib.hid ((kt_bel (bel1 w _)).trans (kt_bel hB1)))
    | (at_builtin; refine wpList_app_bs _ rfl _ _ rfl w0.heap.size _ t0 rfl hO1 _ Q rfl hbs (by omega) hB2.size ?_; intro v3 w3 hb3 hg3; have hB3 := below_app hB2 hO1 hg3; have HK3 := Lib.hid (HK1.out.trans (kt_gr hO1 hg3)); clear hg3))
  have HB3 := Lib.hid hB3
  clear hB3 hB2 hB1 hB0 hb0 hO1 hbs hb1 c50 hB hb
  go_loopg [0, 15] ps.length (fun c v i wr => ∃ (j : Nat) (tc : List UInt8), c + j = ps.length ∧ i = .int .i64 j ∧ Hid (tc = t0 ++ (Q ++ (ps.take j).flatMap propQ)) ∧ Hid (Bts wr w0.heap.size v tc) ∧ Hid (Below w0.heap.size w0 wr) ∧ Hid (KT w wr))
  case atStart => exact ⟨0, t0 ++ Q, rfl, rfl, by show _ = _; simp, hb3, HB3.out, HK3.out⟩
  case round =>
    clear hb3 HB3
    obtain ⟨j, tc, hj, rfl, htc, hbr, hBr, hKr⟩ := hrel
    by_cases hlt : j < ps.length
    · obtain ⟨g, o, rfl, -, hcell⟩ := hx.resolve_left (by intro e; rw [e] at hlt; simp at hlt)
      obtain ⟨sk, hats, hin⟩ := hcell.at j hlt
      rw [show RP.n = 5 from rfl] at hats
      obtain ⟨k0, k1, k2, k3, k4⟩ := ats5 hats
      have hpt := props_take hlt
      have hpsp := props_split hlt
      have hma := manyP_at hlt
      generalize ps[j] = P at *
      obtain ⟨nm, v⟩ := P
      obtain ⟨hnm, hvin⟩ := hin
      simp only at k0 k1 k2 k3 k4 hpt hpsp hma hvin
      have hB := hBr.out
      have y0 := some_on hB k0
      have y1 := some_on hB k1
      have y2 := some_on hB k2
      have y3 := some_on hB k3
      have y4 := some_on hB k4
      have hl1 := textQ_len nm
      have hl2 := plq_len v
      have hlen : tc.length + (textQ nm).length + (plq v).length ≤ 140737478355328 := by rw [htc.out]; simp at hpsp hall ⊢; omega
      have c74 := fun W h => putQ74 v sk W h (by omega)
      have c43 := fun W b t0 hB hb ht => putTextT43 nm (by omega) w0 W b t0 hB hb ht
      have hnew : Hid (tc ++ textQ nm ++ plq v = t0 ++ (Q ++ (ps.take (j + 1)).flatMap propQ)) := by show _ = _; rw [hpt, htc.out]; simp
      obtain ⟨p1, n1, q1, rfl⟩ := hvin.header
      unfold V.agg at c74
      have hpos : 0 < (textQ nm).length := by have := numQ_pos nm.size; simp [textQ]; omega
      generalize textQ nm = T at *
      generalize plq v = L at *
      have hbx := blk_new wr (.cells #[.string nm, .int .i64 v.k, .int .i64 v.n, .string v.s, .slice p1 n1 q1] 65)
      have hBx := hB.trans ((bel1 wr (.cells #[.string nm, .int .i64 v.k, .int .i64 v.n, .string v.s, .slice p1 n1 q1] 65)).mono hB.size)
      have hOx := World.ownsRow.alloc hbr.out (.cells #[.string nm, .int .i64 v.k, .int .i64 v.n, .string v.s, .slice p1 n1 q1] 65)
      clear k0 k1 k2 k3 k4 hats hx hcell htc hpt hpsp hma hbr hBr hall
      go_wp2_with (first
        | (go_at_call 43; refine (c43 _ _ _ hBx hOx (by omega)).mono ?_; rintro e w1 ⟨⟨b1, rfl, hb1, hB1⟩, hg1⟩; obtain ⟨z0, z1, z2, z3, z4, zf⟩ := five_of (hg1 _ _ 65 (by decide) hbx); have HK1 := Lib.hid (hKr.out.trans ((kt_bel (bel1 wr _)).trans hg1)); clear hg1)
        | (go_at_call 74; refine (c74 _ (hvin.on hB1)).mono ?_; rintro e w2 ⟨b2, rfl, hb2, hB2⟩; have hB3 := hB1.trans (hB2.mono hB1.size); have hO2 : Bts w2 w0.heap.size b1 (tc ++ T) := own_bel hb1 hB2; have hbs := hb2.bs; have HK2 := Lib.hid (HK1.out.trans (kt_bel hB2)))
        | (at_builtin; refine wpList_app_bs _ rfl _ _ rfl w0.heap.size _ (tc ++ T) rfl hO2 _ L rfl hbs (by simp; omega) hB3.size ?_; intro v3 w3 hb3 hg3; have hB4 := below_app hB3 hO2 hg3; have HK3 := Lib.hid (HK2.out.trans (kt_gr hO2 hg3)); clear hg3))
      go_roundg (gk - 1)
      case rel => exact ⟨j + 1, tc ++ T ++ L, by omega, by go_num, hnew, hb3, hB4, HK3⟩
      case measure => omega
    · obtain rfl : j = ps.length := by omega
      rw [List.take_length] at htc
      go_wp2
      go_ret
      exact ⟨⟨_, rfl, by rw [← htc.out]; exact hbr.out, hBr.out⟩, hKr.out⟩
theorem putProps42 (ps : List Pr) (sp : Value) (w0 w : World) (b : Value) (t0 : List UInt8) (hps : Sq RP w0 0 ps sp) (hm : manyP ps ≤ 1048570) (hB : Below w0.heap.size w0 w) (hb : Bts w w0.heap.size b t0) (ht : t0.length ≤ 10000000) :
    Calls Tryz.prog 42 #[b, sp] w (AppR w0 (t0 ++ propsQ ps)) := (putPropsT42 ps sp w0 w b t0 hps hm hB hb ht).mono fun _ _ h => h.1
end Go.Proofs.YtbgikgeknnmelaaGreat
