/-
  The walk of CodecBack.
-/
import Derived.Test.YtekfbijkalamkaaPlR
import Derived.Test.YtekfbijkalamkaaKeys
namespace Go.Proofs.Ytekfbijkalamkaa
open Go.RowKit
set_option linter.unusedVariables false      -- a walk need not use every condition

/-! ### Bytes appended, be they none or some -/

theorem run_append_zero {P : Program} (w : World) (t ty e : TypeId) (i : TypeInfo) (ht : P.underlying t = some (.slice e)) (hi : P.info? e = some i) (b q : Option Addr) (n c c2 : Nat) (hn : n ≤ c) :
    (Builtin.append_ #[t, t] ty #[.slice b n c, .slice q 0 c2]).run P w = .ok (.slice b n c) w := by
  cases b <;> cases q <;> simp [Builtin.append_, run_underlying ht, sizeOf, typeInfo, hi, Builtin.lenOf, Builtin.firstCells, hn, storeCells, loadCells, loadCellsFrom]
theorem wpList_append_zero {P : Program} {w : World} {ops : Array Oper} {rest : List Oper} {o : Oper} {a : Act} {Q : Exit → Act → World → Prop} (hgd : o.guard = none) (s x : Operand) (t : TypeId)
    (ho : o.op = .call { callee := .builtin .append, args := #[s, x], argTypes := #[t, t] })
    (e : TypeId) (i : TypeInfo) (ht : P.underlying t = some (.slice e)) (hi : P.info? e = some i) (b q : Option Addr) (n c c2 : Nat) (hn : n ≤ c)
    (hs : a.eval s = .slice b n c) (hx : a.eval x = .slice q 0 c2)
    (h : wpList P ops Q rest (a.put o.dst (.slice b n c)) w) : wpList P ops Q (o :: rest) a w := by
  refine wpList_plain hgd fun K hK => ?_
  have hrun := run_append_zero (P := P) w t o.type e i ht hi b q n c c2 hn
  unfold Oper.wp
  simp [execOp, ho, resolve, invoke, builtin, hs, hx, hrun, Result.andThen]
  exact hK _ _ h
theorem wpList_app_bs (w : World) {ops : Array Oper} {rest : List Oper} {o : Oper} {a : Act} {Q : Exit → Act → World → Prop} (hgd : o.guard = none) (s x : Operand)
    (ho : o.op = .call { callee := .builtin .append, args := #[s, x], argTypes := #[23, 23] }) (base : Nat) (v : Value) (t : List UInt8) (hs : a.eval s = v) (hb : Bts w base v t) (b : Value) (u : List UInt8)
    (hx : a.eval x = b) (hu : Bs w b u) (hlen : t.length + u.length ≤ 140737488355328) (hbase : base ≤ w.heap.size)
    (h : ∀ v' w', Bts w' base v' (t ++ u) → w.grownBy w' v.ownBlock → wpList Try.prog ops Q rest (a.put o.dst v') w') : wpList Try.prog ops Q (o :: rest) a w := by
  by_cases h0 : u = []
  · subst h0
    obtain ⟨i, hi, hz0, hz1, hz2⟩ := info_parts info5
    obtain ⟨p, cap, rfl, h1, -⟩ := hb.bs.slice
    obtain ⟨q, cap', rfl, -, -⟩ := hu.slice
    refine wpList_append_zero hgd s x 23 ho 5 i Try.underlying23 hi p q t.length cap cap' h1 hs hx (h _ _ ?_ (World.grownBy.refl _ _))
    rw [List.append_nil]; exact hb
  · obtain ⟨g, o', cap, rfl, h1, h2, hc⟩ := hu.cells h0
    refine wpList_app_byts w hgd s x ho base v t hs hb ⟨g, o', none⟩ cap u hx (fun j y hy => ?_) hlen hbase h
    rw [List.getElem?_map] at hy
    obtain ⟨d, hd, rfl⟩ := Option.map_eq_some_iff.1 hy
    obtain ⟨hjl, rfl⟩ := List.getElem?_eq_some_iff.1 hd
    rw [Go.WideShapes.add_plain]; exact hc j hjl

/-! ### Answers told apart -/

theorem valsR_ok {t : List UInt8} {m : List V} {w : World} {e : Ending} {w' : World} (hm : pValues t.length t = .ok m) (h : ValsR t w e w') : ∃ sl, e = .returned (.tuple #[sl, .int .i64 0]) ∧ Sl w' 0 m sl ∧ Below w.heap.size w w' := by
  rcases h with ⟨l, sl, h0, h1, h2, h3⟩ | ⟨n, h0, -⟩
  · rw [hm] at h0
    obtain rfl := Except.ok.inj h0
    exact ⟨sl, h1, h2.keep (fun _ _ _ h => h) (Nat.zero_le _), h3⟩
  · rw [hm] at h0; cases h0
theorem valsR_err {t : List UInt8} {n : Int} {w : World} {e : Ending} {w' : World} (hm : pValues t.length t = .error n) (h : ValsR t w e w') : n ≠ 0 ∧ e = .returned (.tuple #[.slice none 0 0, .int .i64 n]) ∧ Below w.heap.size w w' := by
  rcases h with ⟨l, sl, h0, -⟩ | ⟨n', h0, h1, h2, h3⟩
  · rw [hm] at h0; cases h0
  · rw [hm] at h0
    obtain rfl := Except.error.inj h0
    exact ⟨h1, h2, h3⟩
theorem parR_ok {S : R V} {x : V} {w : World} {e : Ending} {w' : World} (hm : S = .ok (x, [])) (h : ParR S w e w') : ∃ p n c, e = .returned (.tuple #[.agg #[.int .i64 x.k, .int .i64 x.n, .string x.s, .slice p n c], .int .i64 0]) ∧ x.In w' 0 (.slice p n c) ∧ Below w.heap.size w w' := by
  subst hm
  rcases h with ⟨v, sl, h0, h1, h2, h3⟩ | ⟨n, h0, -⟩
  · obtain rfl : x = v := congrArg Prod.fst (Except.ok.inj h0)
    obtain ⟨p, n, c, rfl⟩ := h2.header
    exact ⟨p, n, c, h1, h2.low (Nat.zero_le _), h3⟩
  · exact absurd rfl (h0 x)
theorem parR_no {S : R V} {w : World} {e : Ending} {w' : World} (hm : ∀ x, S ≠ .ok (x, [])) (h : ParR S w e w') : ∃ n, n ≠ 0 ∧ e = .returned (.tuple #[.agg #[.int .i64 0, .int .i64 0, .string ⟨#[]⟩, .slice none 0 0], .int .i64 n]) ∧ Below w.heap.size w w' := by
  rcases h with ⟨v, sl, h0, -⟩ | ⟨n, -, h1, h2, h3⟩
  · exact absurd h0 (hm v)
  · exact ⟨n, h1, h2, h3⟩
theorem keyL_more : ∀ l : List V, l.length ≤ (keyL l).length
  | [] => by simp
  | v :: l => by
    have := keyL_more l
    have := kForm_pos v
    simp only [keyL, List.flatMap_cons, List.length_append, List.length_cons] at *
    omega
set_option maxHeartbeats 4000000 in
set_option maxRecDepth 20000 in
theorem back_1111 (l : List V) (sl : Value) (v : V) (pv : Option Addr) (nv cv : Nat) (b : Value) (t : List UInt8) (w : World) (hl : Sl w 0 l sl) (hv : v.In w 0 (.slice pv nv cv)) (hb : Bs w b t) (kl : (keyL l).length ≤ 1073741824) (kv : v.pl.length ≤ 1073741824) (ht : t.length ≤ 1073741824) (hA : bads l = 0) (hM : v.may 1 = true) (x : V) (hC : pRead t = .ok (x, [])) (m : List V) (hD : pValues t.length t = .ok m) :
    Calls Try.prog 6 #[sl, v.agg (.slice pv nv cv), b] w fun e w' => e = .returned (.bool true) ∧ Below w.heap.size w w' := by
  have c10 := fun w => begun10 w
  have c8 := fun w' (hB : Below w.heap.size w w') => key8 l sl w' (hl.on hB) (by omega)
  unfold KeyR at c8
  rw [hA] at c8
  simp only [if_true] at c8
  have hvals := Lib.hid (values_there l (keyL l).length (fun v hv => ⟨bads_mem hA v hv, wideL_mem hl.wideL v hv⟩) (keyL_more l))
  have c15a := fun w' b h => values15 w' b (keyL l) h (by omega)
  have c19 := fun w' s1 s2 h1 h2 => refSameAll19 l s1 s2 w' h1 h2
  generalize keyL l = K at *
  have c30 := fun w' (hB : Below w.heap.size w w') => refCheck14 v (.slice pv nv cv) w' (hv.on hB)
  unfold V.err V.agg at c30
  rw [hM] at c30
  simp only [if_true] at c30
  have c21 := fun w' (hB : Below w.heap.size w w') => put21 v (.slice pv nv cv) w' (hv.on hB) hM (.slice none 0 0) [] (bs_nil w') (by simp; omega)
  unfold V.agg at c21
  simp only [List.nil_append] at c21
  have c20 := fun w' b h => clone20 w' b v.pl h (by omega)
  have hRd : pRead (v.pl ++ t) = .ok (v, t) := chk_ok (val_there 8 1 rfl v hv.wide hM t) hM
  have c23 := fun w' b h => readP23 w' b (v.pl ++ t) h
  rw [hRd] at c23
  have hlen : Hid ((((v.pl ++ t).length : Nat) : Int) - (t.length : Int) = (v.pl.length : Int)) := by show _ = _; rw [List.length_append]; omega
  clear hRd
  generalize v.pl = P at *
  have c25 := fun w' (hB : Below w.heap.size w w') => parse25 w' b t (hb.on hB)
  have hC' := Lib.hid hC
  obtain ⟨hx1, hx2⟩ := chk_is hC
  have hxt := val_back 8 1 rfl t x [] hx1 hx2
  rw [List.append_nil] at hxt
  have c21x := fun w' s h => put21 x s w' h hx2 (.slice none 0 0) [] (bs_nil w') (by rw [← hxt]; simp; omega)
  unfold V.agg at c21x
  simp only [List.nil_append] at c21x
  rw [← hxt] at c21x
  clear hx1 hx2 hxt
  have c11 := fun w' b1 h1 (hB : Below w.heap.size w w') => equal11 w' b1 b t t h1 (hb.on hB)
  rw [same_bytes] at c11
  have c15b := fun w' (hB : Below w.heap.size w w') => values15 w' b t (hb.on hB) ht
  have hD' := Lib.hid hD
  obtain ⟨hm1, hm2⟩ := values_back hD
  have c8b := fun w' s h => key8 m s w' h (by rw [← hm1]; omega)
  unfold KeyR at c8b
  rw [bads_of hm2] at c8b
  simp only [if_true] at c8b
  rw [← hm1] at c8b
  clear hm1 hm2
  clear hA hM hC hD
  have HB := bel1 w (.cells #[.int .i64 v.k, .int .i64 v.n, .string v.s, .slice pv nv cv] 31)
  have KB := blk_new w (.cells #[.int .i64 v.k, .int .i64 v.n, .string v.s, .slice pv nv cv] 31)
  unfold V.agg
  have tkA : True := trivial
  have tkV : True := trivial
  have tkP : True := trivial
  have tkE : True := trivial
  obtain ⟨pl, capl, rfl, -⟩ := id hl
  obtain ⟨pb, capb, rfl, -, -⟩ := hb.slice
  go_enter Try.func6, Try.ntmps6
  go_wp2_with (first
    | (go_at_call 10; refine (c10 _).mono ?_; rintro e w1 ⟨rfl, hB1⟩; replace HB := bel_then HB hB1; replace KB := blk_on hB1 KB)
    | (go_at_call 8; clear tkA; refine (c8 _ HB).mono ?_; rintro e w2 ⟨b1, rfl, hb1, hB2⟩; replace HB := bel_then HB hB2; replace KB := blk_on hB2 KB; skip)
    | (go_at_call 15; clear tkV; refine (c15a _ _ hb1.bs).mono ?_; rintro e w3 hrr; obtain ⟨s3, rfl, hs3, hB3⟩ := valsR_ok hvals.out hrr; clear hrr; replace HB := bel_then HB hB3; replace KB := blk_on hB3 KB)
    | (go_at_call 19; refine (c19 _ _ _ hs3 (hl.on HB)).mono ?_; rintro e w4 ⟨rfl, hB4⟩; replace HB := bel_then HB hB4; replace KB := blk_on hB4 KB; obtain ⟨x0, x1, x2, x3, xf⟩ := four_of KB)
    | (go_at_call 30; refine (c30 _ HB).mono ?_; rintro e w5 ⟨rfl, hB5⟩; replace HB := bel_then HB hB5; replace KB := blk_on hB5 KB; obtain ⟨x0, x1, x2, x3, xf⟩ := four_of KB)
    | (go_at_call 21; clear tkP; refine (c21 _ HB).mono ?_; rintro e w6 ⟨b2, rfl, hb2, hB6⟩; replace HB := bel_then HB hB6; replace KB := blk_on hB6 KB; obtain ⟨p2, cap2, rfl, -, -⟩ := hb2.bs.slice)
    | (go_at_call 20; refine (c20 _ _ hb2.bs).mono ?_; rintro e w7 ⟨b3, rfl, hb3, hB7⟩)
    | (at_builtin; refine wpList_app_bs _ rfl _ _ rfl w6.heap.size b3 P rfl hb3 _ t rfl ((hb.on HB).on hB7) (by omega) hB7.size ?_; intro b4 w8 hb4 hg8; have hB8 := below_app hB7 hb3 hg8; clear hg8 hb3 hB7; replace HB := bel_then HB hB8; replace KB := blk_on hB8 KB)
    | (go_at_call 23; refine (c23 _ _ hb4.bs).mono ?_; rintro e w9 hrr; obtain ⟨s9, rfl, hin9, hB9⟩ := takeR_ok hrr; clear hrr; rw [hlen.out]; unfold V.agg; obtain ⟨p9, n9, q9, rfl⟩ := hin9.header; replace HB := bel_then HB hB9; replace KB := blk_on hB9 KB; have hbx := bel1 w9 (.cells #[.int .i64 v.k, .int .i64 v.n, .string v.s, .slice p9 n9 q9] 31); replace HB := bel_then HB hbx; replace KB := blk_on hbx KB; obtain ⟨x0, x1, x2, x3, xf⟩ := four_of KB; obtain ⟨y0, y1, y2, y3, yf⟩ := four_of (blk_new w9 (.cells #[.int .i64 v.k, .int .i64 v.n, .string v.s, .slice p9 n9 q9] 31)); have c14 := refSame_any v v _ _ _ ((hin9.low (Nat.zero_le _)).on hbx) (hv.on HB); rw [show (V.cmp v v == 0) = true by rw [cmp_self]; rfl] at c14; unfold V.agg at c14; clear hin9)
    | (go_at_call 14; refine c14.mono ?_; rintro e w10 ⟨rfl, hB10⟩; replace HB := bel_then HB hB10; replace KB := blk_on hB10 KB; clear c14 x0 x1 x2 x3 xf y0 y1 y2 y3 yf)
    | (go_at_call 25; refine (c25 _ HB).mono ?_; rintro e w11 hrr; obtain ⟨p11, n11, q11, rfl, hin11, hB11⟩ := parR_ok hC'.out hrr; clear hrr; have hbz := bel1 w11 (.cells #[.int .i64 x.k, .int .i64 x.n, .string x.s, .slice p11 n11 q11] 31); replace HB := bel_then (bel_then HB hB11) hbz; clear KB; obtain ⟨z0, z1, z2, z3, zf⟩ := four_of (blk_new w11 (.cells #[.int .i64 x.k, .int .i64 x.n, .string x.s, .slice p11 n11 q11] 31)); have hin12 := hin11.on hbz; clear hin11)
    | (go_at_call 21; refine (c21x _ _ hin12).mono ?_; rintro e w12 ⟨b12, rfl, hb12, hB12⟩; replace HB := bel_then HB hB12; clear hin12)
    | (go_at_call 11; clear tkE; refine (c11 _ _ hb12.bs HB).mono ?_; rintro e w' ⟨rfl, hw⟩; subst hw)
    | (go_at_call 15; refine (c15b _ HB).mono ?_; rintro e w13 hrr; obtain ⟨s13, rfl, hs13, hB13⟩ := valsR_ok hD'.out hrr; clear hrr; replace HB := bel_then HB hB13)
    | (go_at_call 8; refine (c8b _ _ hs13).mono ?_; rintro e w14 ⟨b14, rfl, hb14, hB14⟩; replace HB := bel_then HB hB14)
    | (go_at_call 11; refine (c11 _ _ hb14.bs HB).mono ?_; rintro e w' ⟨rfl, hw⟩; subst hw))
  go_ret
  exact ⟨by simp, HB⟩
set_option maxHeartbeats 4000000 in
set_option maxRecDepth 20000 in
theorem back_1110 (l : List V) (sl : Value) (v : V) (pv : Option Addr) (nv cv : Nat) (b : Value) (t : List UInt8) (w : World) (hl : Sl w 0 l sl) (hv : v.In w 0 (.slice pv nv cv)) (hb : Bs w b t) (kl : (keyL l).length ≤ 1073741824) (kv : v.pl.length ≤ 1073741824) (ht : t.length ≤ 1073741824) (hA : bads l = 0) (hM : v.may 1 = true) (x : V) (hC : pRead t = .ok (x, [])) (n : Int) (hD : pValues t.length t = .error n) :
    Calls Try.prog 6 #[sl, v.agg (.slice pv nv cv), b] w fun e w' => e = .returned (.bool true) ∧ Below w.heap.size w w' := by
  have c10 := fun w => begun10 w
  have c8 := fun w' (hB : Below w.heap.size w w') => key8 l sl w' (hl.on hB) (by omega)
  unfold KeyR at c8
  rw [hA] at c8
  simp only [if_true] at c8
  have hvals := Lib.hid (values_there l (keyL l).length (fun v hv => ⟨bads_mem hA v hv, wideL_mem hl.wideL v hv⟩) (keyL_more l))
  have c15a := fun w' b h => values15 w' b (keyL l) h (by omega)
  have c19 := fun w' s1 s2 h1 h2 => refSameAll19 l s1 s2 w' h1 h2
  generalize keyL l = K at *
  have c30 := fun w' (hB : Below w.heap.size w w') => refCheck14 v (.slice pv nv cv) w' (hv.on hB)
  unfold V.err V.agg at c30
  rw [hM] at c30
  simp only [if_true] at c30
  have c21 := fun w' (hB : Below w.heap.size w w') => put21 v (.slice pv nv cv) w' (hv.on hB) hM (.slice none 0 0) [] (bs_nil w') (by simp; omega)
  unfold V.agg at c21
  simp only [List.nil_append] at c21
  have c20 := fun w' b h => clone20 w' b v.pl h (by omega)
  have hRd : pRead (v.pl ++ t) = .ok (v, t) := chk_ok (val_there 8 1 rfl v hv.wide hM t) hM
  have c23 := fun w' b h => readP23 w' b (v.pl ++ t) h
  rw [hRd] at c23
  have hlen : Hid ((((v.pl ++ t).length : Nat) : Int) - (t.length : Int) = (v.pl.length : Int)) := by show _ = _; rw [List.length_append]; omega
  clear hRd
  generalize v.pl = P at *
  have c25 := fun w' (hB : Below w.heap.size w w') => parse25 w' b t (hb.on hB)
  have hC' := Lib.hid hC
  obtain ⟨hx1, hx2⟩ := chk_is hC
  have hxt := val_back 8 1 rfl t x [] hx1 hx2
  rw [List.append_nil] at hxt
  have c21x := fun w' s h => put21 x s w' h hx2 (.slice none 0 0) [] (bs_nil w') (by rw [← hxt]; simp; omega)
  unfold V.agg at c21x
  simp only [List.nil_append] at c21x
  rw [← hxt] at c21x
  clear hx1 hx2 hxt
  have c11 := fun w' b1 h1 (hB : Below w.heap.size w w') => equal11 w' b1 b t t h1 (hb.on hB)
  rw [same_bytes] at c11
  have c15b := fun w' (hB : Below w.heap.size w w') => values15 w' b t (hb.on hB) ht
  have hD' := Lib.hid hD
  clear hA hM hC hD
  have HB := bel1 w (.cells #[.int .i64 v.k, .int .i64 v.n, .string v.s, .slice pv nv cv] 31)
  have KB := blk_new w (.cells #[.int .i64 v.k, .int .i64 v.n, .string v.s, .slice pv nv cv] 31)
  unfold V.agg
  have tkA : True := trivial
  have tkV : True := trivial
  have tkP : True := trivial
  have tkE : True := trivial
  obtain ⟨pl, capl, rfl, -⟩ := id hl
  obtain ⟨pb, capb, rfl, -, -⟩ := hb.slice
  go_enter Try.func6, Try.ntmps6
  go_wp2_with (first
    | (go_at_call 10; refine (c10 _).mono ?_; rintro e w1 ⟨rfl, hB1⟩; replace HB := bel_then HB hB1; replace KB := blk_on hB1 KB)
    | (go_at_call 8; clear tkA; refine (c8 _ HB).mono ?_; rintro e w2 ⟨b1, rfl, hb1, hB2⟩; replace HB := bel_then HB hB2; replace KB := blk_on hB2 KB; skip)
    | (go_at_call 15; clear tkV; refine (c15a _ _ hb1.bs).mono ?_; rintro e w3 hrr; obtain ⟨s3, rfl, hs3, hB3⟩ := valsR_ok hvals.out hrr; clear hrr; replace HB := bel_then HB hB3; replace KB := blk_on hB3 KB)
    | (go_at_call 19; refine (c19 _ _ _ hs3 (hl.on HB)).mono ?_; rintro e w4 ⟨rfl, hB4⟩; replace HB := bel_then HB hB4; replace KB := blk_on hB4 KB; obtain ⟨x0, x1, x2, x3, xf⟩ := four_of KB)
    | (go_at_call 30; refine (c30 _ HB).mono ?_; rintro e w5 ⟨rfl, hB5⟩; replace HB := bel_then HB hB5; replace KB := blk_on hB5 KB; obtain ⟨x0, x1, x2, x3, xf⟩ := four_of KB)
    | (go_at_call 21; clear tkP; refine (c21 _ HB).mono ?_; rintro e w6 ⟨b2, rfl, hb2, hB6⟩; replace HB := bel_then HB hB6; replace KB := blk_on hB6 KB; obtain ⟨p2, cap2, rfl, -, -⟩ := hb2.bs.slice)
    | (go_at_call 20; refine (c20 _ _ hb2.bs).mono ?_; rintro e w7 ⟨b3, rfl, hb3, hB7⟩)
    | (at_builtin; refine wpList_app_bs _ rfl _ _ rfl w6.heap.size b3 P rfl hb3 _ t rfl ((hb.on HB).on hB7) (by omega) hB7.size ?_; intro b4 w8 hb4 hg8; have hB8 := below_app hB7 hb3 hg8; clear hg8 hb3 hB7; replace HB := bel_then HB hB8; replace KB := blk_on hB8 KB)
    | (go_at_call 23; refine (c23 _ _ hb4.bs).mono ?_; rintro e w9 hrr; obtain ⟨s9, rfl, hin9, hB9⟩ := takeR_ok hrr; clear hrr; rw [hlen.out]; unfold V.agg; obtain ⟨p9, n9, q9, rfl⟩ := hin9.header; replace HB := bel_then HB hB9; replace KB := blk_on hB9 KB; have hbx := bel1 w9 (.cells #[.int .i64 v.k, .int .i64 v.n, .string v.s, .slice p9 n9 q9] 31); replace HB := bel_then HB hbx; replace KB := blk_on hbx KB; obtain ⟨x0, x1, x2, x3, xf⟩ := four_of KB; obtain ⟨y0, y1, y2, y3, yf⟩ := four_of (blk_new w9 (.cells #[.int .i64 v.k, .int .i64 v.n, .string v.s, .slice p9 n9 q9] 31)); have c14 := refSame_any v v _ _ _ ((hin9.low (Nat.zero_le _)).on hbx) (hv.on HB); rw [show (V.cmp v v == 0) = true by rw [cmp_self]; rfl] at c14; unfold V.agg at c14; clear hin9)
    | (go_at_call 14; refine c14.mono ?_; rintro e w10 ⟨rfl, hB10⟩; replace HB := bel_then HB hB10; replace KB := blk_on hB10 KB; clear c14 x0 x1 x2 x3 xf y0 y1 y2 y3 yf)
    | (go_at_call 25; refine (c25 _ HB).mono ?_; rintro e w11 hrr; obtain ⟨p11, n11, q11, rfl, hin11, hB11⟩ := parR_ok hC'.out hrr; clear hrr; have hbz := bel1 w11 (.cells #[.int .i64 x.k, .int .i64 x.n, .string x.s, .slice p11 n11 q11] 31); replace HB := bel_then (bel_then HB hB11) hbz; clear KB; obtain ⟨z0, z1, z2, z3, zf⟩ := four_of (blk_new w11 (.cells #[.int .i64 x.k, .int .i64 x.n, .string x.s, .slice p11 n11 q11] 31)); have hin12 := hin11.on hbz; clear hin11)
    | (go_at_call 21; refine (c21x _ _ hin12).mono ?_; rintro e w12 ⟨b12, rfl, hb12, hB12⟩; replace HB := bel_then HB hB12; clear hin12)
    | (go_at_call 11; refine (c11 _ _ hb12.bs HB).mono ?_; rintro e w' ⟨rfl, hw⟩; subst hw)
    | (go_at_call 15; refine (c15b _ HB).mono ?_; rintro e w13 hrr; obtain ⟨hn13, rfl, hB13⟩ := valsR_err hD'.out hrr; clear hrr; have hn13' : (n != 0) = true := (by simp; omega); replace HB := bel_then HB hB13))
  go_ret
  exact ⟨by simp, HB⟩
set_option maxHeartbeats 4000000 in
set_option maxRecDepth 20000 in
theorem back_1101 (l : List V) (sl : Value) (v : V) (pv : Option Addr) (nv cv : Nat) (b : Value) (t : List UInt8) (w : World) (hl : Sl w 0 l sl) (hv : v.In w 0 (.slice pv nv cv)) (hb : Bs w b t) (kl : (keyL l).length ≤ 1073741824) (kv : v.pl.length ≤ 1073741824) (ht : t.length ≤ 1073741824) (hA : bads l = 0) (hM : v.may 1 = true) (hC : ∀ x, pRead t ≠ .ok (x, [])) (m : List V) (hD : pValues t.length t = .ok m) :
    Calls Try.prog 6 #[sl, v.agg (.slice pv nv cv), b] w fun e w' => e = .returned (.bool true) ∧ Below w.heap.size w w' := by
  have c10 := fun w => begun10 w
  have c8 := fun w' (hB : Below w.heap.size w w') => key8 l sl w' (hl.on hB) (by omega)
  unfold KeyR at c8
  rw [hA] at c8
  simp only [if_true] at c8
  have hvals := Lib.hid (values_there l (keyL l).length (fun v hv => ⟨bads_mem hA v hv, wideL_mem hl.wideL v hv⟩) (keyL_more l))
  have c15a := fun w' b h => values15 w' b (keyL l) h (by omega)
  have c19 := fun w' s1 s2 h1 h2 => refSameAll19 l s1 s2 w' h1 h2
  generalize keyL l = K at *
  have c30 := fun w' (hB : Below w.heap.size w w') => refCheck14 v (.slice pv nv cv) w' (hv.on hB)
  unfold V.err V.agg at c30
  rw [hM] at c30
  simp only [if_true] at c30
  have c21 := fun w' (hB : Below w.heap.size w w') => put21 v (.slice pv nv cv) w' (hv.on hB) hM (.slice none 0 0) [] (bs_nil w') (by simp; omega)
  unfold V.agg at c21
  simp only [List.nil_append] at c21
  have c20 := fun w' b h => clone20 w' b v.pl h (by omega)
  have hRd : pRead (v.pl ++ t) = .ok (v, t) := chk_ok (val_there 8 1 rfl v hv.wide hM t) hM
  have c23 := fun w' b h => readP23 w' b (v.pl ++ t) h
  rw [hRd] at c23
  have hlen : Hid ((((v.pl ++ t).length : Nat) : Int) - (t.length : Int) = (v.pl.length : Int)) := by show _ = _; rw [List.length_append]; omega
  clear hRd
  generalize v.pl = P at *
  have c25 := fun w' (hB : Below w.heap.size w w') => parse25 w' b t (hb.on hB)
  have hC' := Lib.hid hC
  have c11 := fun w' b1 h1 (hB : Below w.heap.size w w') => equal11 w' b1 b t t h1 (hb.on hB)
  rw [same_bytes] at c11
  have c15b := fun w' (hB : Below w.heap.size w w') => values15 w' b t (hb.on hB) ht
  have hD' := Lib.hid hD
  obtain ⟨hm1, hm2⟩ := values_back hD
  have c8b := fun w' s h => key8 m s w' h (by rw [← hm1]; omega)
  unfold KeyR at c8b
  rw [bads_of hm2] at c8b
  simp only [if_true] at c8b
  rw [← hm1] at c8b
  clear hm1 hm2
  clear hA hM hC hD
  have HB := bel1 w (.cells #[.int .i64 v.k, .int .i64 v.n, .string v.s, .slice pv nv cv] 31)
  have KB := blk_new w (.cells #[.int .i64 v.k, .int .i64 v.n, .string v.s, .slice pv nv cv] 31)
  unfold V.agg
  have tkA : True := trivial
  have tkV : True := trivial
  have tkP : True := trivial
  have tkE : True := trivial
  obtain ⟨pl, capl, rfl, -⟩ := id hl
  obtain ⟨pb, capb, rfl, -, -⟩ := hb.slice
  go_enter Try.func6, Try.ntmps6
  go_wp2_with (first
    | (go_at_call 10; refine (c10 _).mono ?_; rintro e w1 ⟨rfl, hB1⟩; replace HB := bel_then HB hB1; replace KB := blk_on hB1 KB)
    | (go_at_call 8; clear tkA; refine (c8 _ HB).mono ?_; rintro e w2 ⟨b1, rfl, hb1, hB2⟩; replace HB := bel_then HB hB2; replace KB := blk_on hB2 KB; skip)
    | (go_at_call 15; clear tkV; refine (c15a _ _ hb1.bs).mono ?_; rintro e w3 hrr; obtain ⟨s3, rfl, hs3, hB3⟩ := valsR_ok hvals.out hrr; clear hrr; replace HB := bel_then HB hB3; replace KB := blk_on hB3 KB)
    | (go_at_call 19; refine (c19 _ _ _ hs3 (hl.on HB)).mono ?_; rintro e w4 ⟨rfl, hB4⟩; replace HB := bel_then HB hB4; replace KB := blk_on hB4 KB; obtain ⟨x0, x1, x2, x3, xf⟩ := four_of KB)
    | (go_at_call 30; refine (c30 _ HB).mono ?_; rintro e w5 ⟨rfl, hB5⟩; replace HB := bel_then HB hB5; replace KB := blk_on hB5 KB; obtain ⟨x0, x1, x2, x3, xf⟩ := four_of KB)
    | (go_at_call 21; clear tkP; refine (c21 _ HB).mono ?_; rintro e w6 ⟨b2, rfl, hb2, hB6⟩; replace HB := bel_then HB hB6; replace KB := blk_on hB6 KB; obtain ⟨p2, cap2, rfl, -, -⟩ := hb2.bs.slice)
    | (go_at_call 20; refine (c20 _ _ hb2.bs).mono ?_; rintro e w7 ⟨b3, rfl, hb3, hB7⟩)
    | (at_builtin; refine wpList_app_bs _ rfl _ _ rfl w6.heap.size b3 P rfl hb3 _ t rfl ((hb.on HB).on hB7) (by omega) hB7.size ?_; intro b4 w8 hb4 hg8; have hB8 := below_app hB7 hb3 hg8; clear hg8 hb3 hB7; replace HB := bel_then HB hB8; replace KB := blk_on hB8 KB)
    | (go_at_call 23; refine (c23 _ _ hb4.bs).mono ?_; rintro e w9 hrr; obtain ⟨s9, rfl, hin9, hB9⟩ := takeR_ok hrr; clear hrr; rw [hlen.out]; unfold V.agg; obtain ⟨p9, n9, q9, rfl⟩ := hin9.header; replace HB := bel_then HB hB9; replace KB := blk_on hB9 KB; have hbx := bel1 w9 (.cells #[.int .i64 v.k, .int .i64 v.n, .string v.s, .slice p9 n9 q9] 31); replace HB := bel_then HB hbx; replace KB := blk_on hbx KB; obtain ⟨x0, x1, x2, x3, xf⟩ := four_of KB; obtain ⟨y0, y1, y2, y3, yf⟩ := four_of (blk_new w9 (.cells #[.int .i64 v.k, .int .i64 v.n, .string v.s, .slice p9 n9 q9] 31)); have c14 := refSame_any v v _ _ _ ((hin9.low (Nat.zero_le _)).on hbx) (hv.on HB); rw [show (V.cmp v v == 0) = true by rw [cmp_self]; rfl] at c14; unfold V.agg at c14; clear hin9)
    | (go_at_call 14; refine c14.mono ?_; rintro e w10 ⟨rfl, hB10⟩; replace HB := bel_then HB hB10; replace KB := blk_on hB10 KB; clear c14 x0 x1 x2 x3 xf y0 y1 y2 y3 yf)
    | (go_at_call 25; refine (c25 _ HB).mono ?_; rintro e w11 hrr; obtain ⟨n11, hn11, rfl, hB11⟩ := parR_no hC'.out hrr; clear hrr; have hn11' : (n11 == 0) = false := (by simp; omega); replace HB := bel_then (bel_then HB hB11) (bel1 w11 (.cells #[.int .i64 0, .int .i64 0, .string ⟨#[]⟩, .slice none 0 0] 31)); clear KB)
    | (go_at_call 15; refine (c15b _ HB).mono ?_; rintro e w13 hrr; obtain ⟨s13, rfl, hs13, hB13⟩ := valsR_ok hD'.out hrr; clear hrr; replace HB := bel_then HB hB13)
    | (go_at_call 8; refine (c8b _ _ hs13).mono ?_; rintro e w14 ⟨b14, rfl, hb14, hB14⟩; replace HB := bel_then HB hB14)
    | (go_at_call 11; refine (c11 _ _ hb14.bs HB).mono ?_; rintro e w' ⟨rfl, hw⟩; subst hw))
  go_ret
  exact ⟨by simp, HB⟩
set_option maxHeartbeats 4000000 in
set_option maxRecDepth 20000 in
theorem back_1100 (l : List V) (sl : Value) (v : V) (pv : Option Addr) (nv cv : Nat) (b : Value) (t : List UInt8) (w : World) (hl : Sl w 0 l sl) (hv : v.In w 0 (.slice pv nv cv)) (hb : Bs w b t) (kl : (keyL l).length ≤ 1073741824) (kv : v.pl.length ≤ 1073741824) (ht : t.length ≤ 1073741824) (hA : bads l = 0) (hM : v.may 1 = true) (hC : ∀ x, pRead t ≠ .ok (x, [])) (n : Int) (hD : pValues t.length t = .error n) :
    Calls Try.prog 6 #[sl, v.agg (.slice pv nv cv), b] w fun e w' => e = .returned (.bool true) ∧ Below w.heap.size w w' := by
  have c10 := fun w => begun10 w
  have c8 := fun w' (hB : Below w.heap.size w w') => key8 l sl w' (hl.on hB) (by omega)
  unfold KeyR at c8
  rw [hA] at c8
  simp only [if_true] at c8
  have hvals := Lib.hid (values_there l (keyL l).length (fun v hv => ⟨bads_mem hA v hv, wideL_mem hl.wideL v hv⟩) (keyL_more l))
  have c15a := fun w' b h => values15 w' b (keyL l) h (by omega)
  have c19 := fun w' s1 s2 h1 h2 => refSameAll19 l s1 s2 w' h1 h2
  generalize keyL l = K at *
  have c30 := fun w' (hB : Below w.heap.size w w') => refCheck14 v (.slice pv nv cv) w' (hv.on hB)
  unfold V.err V.agg at c30
  rw [hM] at c30
  simp only [if_true] at c30
  have c21 := fun w' (hB : Below w.heap.size w w') => put21 v (.slice pv nv cv) w' (hv.on hB) hM (.slice none 0 0) [] (bs_nil w') (by simp; omega)
  unfold V.agg at c21
  simp only [List.nil_append] at c21
  have c20 := fun w' b h => clone20 w' b v.pl h (by omega)
  have hRd : pRead (v.pl ++ t) = .ok (v, t) := chk_ok (val_there 8 1 rfl v hv.wide hM t) hM
  have c23 := fun w' b h => readP23 w' b (v.pl ++ t) h
  rw [hRd] at c23
  have hlen : Hid ((((v.pl ++ t).length : Nat) : Int) - (t.length : Int) = (v.pl.length : Int)) := by show _ = _; rw [List.length_append]; omega
  clear hRd
  generalize v.pl = P at *
  have c25 := fun w' (hB : Below w.heap.size w w') => parse25 w' b t (hb.on hB)
  have hC' := Lib.hid hC
  have c15b := fun w' (hB : Below w.heap.size w w') => values15 w' b t (hb.on hB) ht
  have hD' := Lib.hid hD
  clear hA hM hC hD
  have HB := bel1 w (.cells #[.int .i64 v.k, .int .i64 v.n, .string v.s, .slice pv nv cv] 31)
  have KB := blk_new w (.cells #[.int .i64 v.k, .int .i64 v.n, .string v.s, .slice pv nv cv] 31)
  unfold V.agg
  have tkA : True := trivial
  have tkV : True := trivial
  have tkP : True := trivial
  have tkE : True := trivial
  obtain ⟨pl, capl, rfl, -⟩ := id hl
  obtain ⟨pb, capb, rfl, -, -⟩ := hb.slice
  go_enter Try.func6, Try.ntmps6
  go_wp2_with (first
    | (go_at_call 10; refine (c10 _).mono ?_; rintro e w1 ⟨rfl, hB1⟩; replace HB := bel_then HB hB1; replace KB := blk_on hB1 KB)
    | (go_at_call 8; clear tkA; refine (c8 _ HB).mono ?_; rintro e w2 ⟨b1, rfl, hb1, hB2⟩; replace HB := bel_then HB hB2; replace KB := blk_on hB2 KB; skip)
    | (go_at_call 15; clear tkV; refine (c15a _ _ hb1.bs).mono ?_; rintro e w3 hrr; obtain ⟨s3, rfl, hs3, hB3⟩ := valsR_ok hvals.out hrr; clear hrr; replace HB := bel_then HB hB3; replace KB := blk_on hB3 KB)
    | (go_at_call 19; refine (c19 _ _ _ hs3 (hl.on HB)).mono ?_; rintro e w4 ⟨rfl, hB4⟩; replace HB := bel_then HB hB4; replace KB := blk_on hB4 KB; obtain ⟨x0, x1, x2, x3, xf⟩ := four_of KB)
    | (go_at_call 30; refine (c30 _ HB).mono ?_; rintro e w5 ⟨rfl, hB5⟩; replace HB := bel_then HB hB5; replace KB := blk_on hB5 KB; obtain ⟨x0, x1, x2, x3, xf⟩ := four_of KB)
    | (go_at_call 21; clear tkP; refine (c21 _ HB).mono ?_; rintro e w6 ⟨b2, rfl, hb2, hB6⟩; replace HB := bel_then HB hB6; replace KB := blk_on hB6 KB; obtain ⟨p2, cap2, rfl, -, -⟩ := hb2.bs.slice)
    | (go_at_call 20; refine (c20 _ _ hb2.bs).mono ?_; rintro e w7 ⟨b3, rfl, hb3, hB7⟩)
    | (at_builtin; refine wpList_app_bs _ rfl _ _ rfl w6.heap.size b3 P rfl hb3 _ t rfl ((hb.on HB).on hB7) (by omega) hB7.size ?_; intro b4 w8 hb4 hg8; have hB8 := below_app hB7 hb3 hg8; clear hg8 hb3 hB7; replace HB := bel_then HB hB8; replace KB := blk_on hB8 KB)
    | (go_at_call 23; refine (c23 _ _ hb4.bs).mono ?_; rintro e w9 hrr; obtain ⟨s9, rfl, hin9, hB9⟩ := takeR_ok hrr; clear hrr; rw [hlen.out]; unfold V.agg; obtain ⟨p9, n9, q9, rfl⟩ := hin9.header; replace HB := bel_then HB hB9; replace KB := blk_on hB9 KB; have hbx := bel1 w9 (.cells #[.int .i64 v.k, .int .i64 v.n, .string v.s, .slice p9 n9 q9] 31); replace HB := bel_then HB hbx; replace KB := blk_on hbx KB; obtain ⟨x0, x1, x2, x3, xf⟩ := four_of KB; obtain ⟨y0, y1, y2, y3, yf⟩ := four_of (blk_new w9 (.cells #[.int .i64 v.k, .int .i64 v.n, .string v.s, .slice p9 n9 q9] 31)); have c14 := refSame_any v v _ _ _ ((hin9.low (Nat.zero_le _)).on hbx) (hv.on HB); rw [show (V.cmp v v == 0) = true by rw [cmp_self]; rfl] at c14; unfold V.agg at c14; clear hin9)
    | (go_at_call 14; refine c14.mono ?_; rintro e w10 ⟨rfl, hB10⟩; replace HB := bel_then HB hB10; replace KB := blk_on hB10 KB; clear c14 x0 x1 x2 x3 xf y0 y1 y2 y3 yf)
    | (go_at_call 25; refine (c25 _ HB).mono ?_; rintro e w11 hrr; obtain ⟨n11, hn11, rfl, hB11⟩ := parR_no hC'.out hrr; clear hrr; have hn11' : (n11 == 0) = false := (by simp; omega); replace HB := bel_then (bel_then HB hB11) (bel1 w11 (.cells #[.int .i64 0, .int .i64 0, .string ⟨#[]⟩, .slice none 0 0] 31)); clear KB)
    | (go_at_call 15; refine (c15b _ HB).mono ?_; rintro e w13 hrr; obtain ⟨hn13, rfl, hB13⟩ := valsR_err hD'.out hrr; clear hrr; have hn13' : (n != 0) = true := (by simp; omega); replace HB := bel_then HB hB13))
  go_ret
  exact ⟨by simp, HB⟩
set_option maxHeartbeats 4000000 in
set_option maxRecDepth 20000 in
theorem back_1011 (l : List V) (sl : Value) (v : V) (pv : Option Addr) (nv cv : Nat) (b : Value) (t : List UInt8) (w : World) (hl : Sl w 0 l sl) (hv : v.In w 0 (.slice pv nv cv)) (hb : Bs w b t) (kl : (keyL l).length ≤ 1073741824) (kv : v.pl.length ≤ 1073741824) (ht : t.length ≤ 1073741824) (hA : bads l = 0) (hM : v.may 1 = false) (x : V) (hC : pRead t = .ok (x, [])) (m : List V) (hD : pValues t.length t = .ok m) :
    Calls Try.prog 6 #[sl, v.agg (.slice pv nv cv), b] w fun e w' => e = .returned (.bool true) ∧ Below w.heap.size w w' := by
  have c10 := fun w => begun10 w
  have c8 := fun w' (hB : Below w.heap.size w w') => key8 l sl w' (hl.on hB) (by omega)
  unfold KeyR at c8
  rw [hA] at c8
  simp only [if_true] at c8
  have hvals := Lib.hid (values_there l (keyL l).length (fun v hv => ⟨bads_mem hA v hv, wideL_mem hl.wideL v hv⟩) (keyL_more l))
  have c15a := fun w' b h => values15 w' b (keyL l) h (by omega)
  have c19 := fun w' s1 s2 h1 h2 => refSameAll19 l s1 s2 w' h1 h2
  generalize keyL l = K at *
  have c30 := fun w' (hB : Below w.heap.size w w') => refCheck14 v (.slice pv nv cv) w' (hv.on hB)
  unfold V.err V.agg at c30
  rw [hM] at c30
  simp only [Bool.false_eq_true, if_false] at c30
  have c25 := fun w' (hB : Below w.heap.size w w') => parse25 w' b t (hb.on hB)
  have hC' := Lib.hid hC
  obtain ⟨hx1, hx2⟩ := chk_is hC
  have hxt := val_back 8 1 rfl t x [] hx1 hx2
  rw [List.append_nil] at hxt
  have c21x := fun w' s h => put21 x s w' h hx2 (.slice none 0 0) [] (bs_nil w') (by rw [← hxt]; simp; omega)
  unfold V.agg at c21x
  simp only [List.nil_append] at c21x
  rw [← hxt] at c21x
  clear hx1 hx2 hxt
  have c11 := fun w' b1 h1 (hB : Below w.heap.size w w') => equal11 w' b1 b t t h1 (hb.on hB)
  rw [same_bytes] at c11
  have c15b := fun w' (hB : Below w.heap.size w w') => values15 w' b t (hb.on hB) ht
  have hD' := Lib.hid hD
  obtain ⟨hm1, hm2⟩ := values_back hD
  have c8b := fun w' s h => key8 m s w' h (by rw [← hm1]; omega)
  unfold KeyR at c8b
  rw [bads_of hm2] at c8b
  simp only [if_true] at c8b
  rw [← hm1] at c8b
  clear hm1 hm2
  clear hA hM hC hD
  have HB := bel1 w (.cells #[.int .i64 v.k, .int .i64 v.n, .string v.s, .slice pv nv cv] 31)
  have KB := blk_new w (.cells #[.int .i64 v.k, .int .i64 v.n, .string v.s, .slice pv nv cv] 31)
  unfold V.agg
  have tkA : True := trivial
  have tkV : True := trivial
  have tkP : True := trivial
  have tkE : True := trivial
  obtain ⟨pl, capl, rfl, -⟩ := id hl
  obtain ⟨pb, capb, rfl, -, -⟩ := hb.slice
  go_enter Try.func6, Try.ntmps6
  go_wp2_with (first
    | (go_at_call 10; refine (c10 _).mono ?_; rintro e w1 ⟨rfl, hB1⟩; replace HB := bel_then HB hB1; replace KB := blk_on hB1 KB)
    | (go_at_call 8; clear tkA; refine (c8 _ HB).mono ?_; rintro e w2 ⟨b1, rfl, hb1, hB2⟩; replace HB := bel_then HB hB2; replace KB := blk_on hB2 KB; skip)
    | (go_at_call 15; clear tkV; refine (c15a _ _ hb1.bs).mono ?_; rintro e w3 hrr; obtain ⟨s3, rfl, hs3, hB3⟩ := valsR_ok hvals.out hrr; clear hrr; replace HB := bel_then HB hB3; replace KB := blk_on hB3 KB)
    | (go_at_call 19; refine (c19 _ _ _ hs3 (hl.on HB)).mono ?_; rintro e w4 ⟨rfl, hB4⟩; replace HB := bel_then HB hB4; replace KB := blk_on hB4 KB; obtain ⟨x0, x1, x2, x3, xf⟩ := four_of KB)
    | (go_at_call 30; refine (c30 _ HB).mono ?_; rintro e w5 ⟨rfl, hB5⟩; replace HB := bel_then HB hB5; replace KB := blk_on hB5 KB; skip)
    | (go_at_call 25; refine (c25 _ HB).mono ?_; rintro e w11 hrr; obtain ⟨p11, n11, q11, rfl, hin11, hB11⟩ := parR_ok hC'.out hrr; clear hrr; have hbz := bel1 w11 (.cells #[.int .i64 x.k, .int .i64 x.n, .string x.s, .slice p11 n11 q11] 31); replace HB := bel_then (bel_then HB hB11) hbz; clear KB; obtain ⟨z0, z1, z2, z3, zf⟩ := four_of (blk_new w11 (.cells #[.int .i64 x.k, .int .i64 x.n, .string x.s, .slice p11 n11 q11] 31)); have hin12 := hin11.on hbz; clear hin11)
    | (go_at_call 21; refine (c21x _ _ hin12).mono ?_; rintro e w12 ⟨b12, rfl, hb12, hB12⟩; replace HB := bel_then HB hB12; clear hin12)
    | (go_at_call 11; clear tkE; refine (c11 _ _ hb12.bs HB).mono ?_; rintro e w' ⟨rfl, hw⟩; subst hw)
    | (go_at_call 15; refine (c15b _ HB).mono ?_; rintro e w13 hrr; obtain ⟨s13, rfl, hs13, hB13⟩ := valsR_ok hD'.out hrr; clear hrr; replace HB := bel_then HB hB13)
    | (go_at_call 8; refine (c8b _ _ hs13).mono ?_; rintro e w14 ⟨b14, rfl, hb14, hB14⟩; replace HB := bel_then HB hB14)
    | (go_at_call 11; refine (c11 _ _ hb14.bs HB).mono ?_; rintro e w' ⟨rfl, hw⟩; subst hw))
  go_ret
  exact ⟨by simp, HB⟩
set_option maxHeartbeats 4000000 in
set_option maxRecDepth 20000 in
theorem back_1010 (l : List V) (sl : Value) (v : V) (pv : Option Addr) (nv cv : Nat) (b : Value) (t : List UInt8) (w : World) (hl : Sl w 0 l sl) (hv : v.In w 0 (.slice pv nv cv)) (hb : Bs w b t) (kl : (keyL l).length ≤ 1073741824) (kv : v.pl.length ≤ 1073741824) (ht : t.length ≤ 1073741824) (hA : bads l = 0) (hM : v.may 1 = false) (x : V) (hC : pRead t = .ok (x, [])) (n : Int) (hD : pValues t.length t = .error n) :
    Calls Try.prog 6 #[sl, v.agg (.slice pv nv cv), b] w fun e w' => e = .returned (.bool true) ∧ Below w.heap.size w w' := by
  have c10 := fun w => begun10 w
  have c8 := fun w' (hB : Below w.heap.size w w') => key8 l sl w' (hl.on hB) (by omega)
  unfold KeyR at c8
  rw [hA] at c8
  simp only [if_true] at c8
  have hvals := Lib.hid (values_there l (keyL l).length (fun v hv => ⟨bads_mem hA v hv, wideL_mem hl.wideL v hv⟩) (keyL_more l))
  have c15a := fun w' b h => values15 w' b (keyL l) h (by omega)
  have c19 := fun w' s1 s2 h1 h2 => refSameAll19 l s1 s2 w' h1 h2
  generalize keyL l = K at *
  have c30 := fun w' (hB : Below w.heap.size w w') => refCheck14 v (.slice pv nv cv) w' (hv.on hB)
  unfold V.err V.agg at c30
  rw [hM] at c30
  simp only [Bool.false_eq_true, if_false] at c30
  have c25 := fun w' (hB : Below w.heap.size w w') => parse25 w' b t (hb.on hB)
  have hC' := Lib.hid hC
  obtain ⟨hx1, hx2⟩ := chk_is hC
  have hxt := val_back 8 1 rfl t x [] hx1 hx2
  rw [List.append_nil] at hxt
  have c21x := fun w' s h => put21 x s w' h hx2 (.slice none 0 0) [] (bs_nil w') (by rw [← hxt]; simp; omega)
  unfold V.agg at c21x
  simp only [List.nil_append] at c21x
  rw [← hxt] at c21x
  clear hx1 hx2 hxt
  have c11 := fun w' b1 h1 (hB : Below w.heap.size w w') => equal11 w' b1 b t t h1 (hb.on hB)
  rw [same_bytes] at c11
  have c15b := fun w' (hB : Below w.heap.size w w') => values15 w' b t (hb.on hB) ht
  have hD' := Lib.hid hD
  clear hA hM hC hD
  have HB := bel1 w (.cells #[.int .i64 v.k, .int .i64 v.n, .string v.s, .slice pv nv cv] 31)
  have KB := blk_new w (.cells #[.int .i64 v.k, .int .i64 v.n, .string v.s, .slice pv nv cv] 31)
  unfold V.agg
  have tkA : True := trivial
  have tkV : True := trivial
  have tkP : True := trivial
  have tkE : True := trivial
  obtain ⟨pl, capl, rfl, -⟩ := id hl
  obtain ⟨pb, capb, rfl, -, -⟩ := hb.slice
  go_enter Try.func6, Try.ntmps6
  go_wp2_with (first
    | (go_at_call 10; refine (c10 _).mono ?_; rintro e w1 ⟨rfl, hB1⟩; replace HB := bel_then HB hB1; replace KB := blk_on hB1 KB)
    | (go_at_call 8; clear tkA; refine (c8 _ HB).mono ?_; rintro e w2 ⟨b1, rfl, hb1, hB2⟩; replace HB := bel_then HB hB2; replace KB := blk_on hB2 KB; skip)
    | (go_at_call 15; clear tkV; refine (c15a _ _ hb1.bs).mono ?_; rintro e w3 hrr; obtain ⟨s3, rfl, hs3, hB3⟩ := valsR_ok hvals.out hrr; clear hrr; replace HB := bel_then HB hB3; replace KB := blk_on hB3 KB)
    | (go_at_call 19; refine (c19 _ _ _ hs3 (hl.on HB)).mono ?_; rintro e w4 ⟨rfl, hB4⟩; replace HB := bel_then HB hB4; replace KB := blk_on hB4 KB; obtain ⟨x0, x1, x2, x3, xf⟩ := four_of KB)
    | (go_at_call 30; refine (c30 _ HB).mono ?_; rintro e w5 ⟨rfl, hB5⟩; replace HB := bel_then HB hB5; replace KB := blk_on hB5 KB; skip)
    | (go_at_call 25; refine (c25 _ HB).mono ?_; rintro e w11 hrr; obtain ⟨p11, n11, q11, rfl, hin11, hB11⟩ := parR_ok hC'.out hrr; clear hrr; have hbz := bel1 w11 (.cells #[.int .i64 x.k, .int .i64 x.n, .string x.s, .slice p11 n11 q11] 31); replace HB := bel_then (bel_then HB hB11) hbz; clear KB; obtain ⟨z0, z1, z2, z3, zf⟩ := four_of (blk_new w11 (.cells #[.int .i64 x.k, .int .i64 x.n, .string x.s, .slice p11 n11 q11] 31)); have hin12 := hin11.on hbz; clear hin11)
    | (go_at_call 21; refine (c21x _ _ hin12).mono ?_; rintro e w12 ⟨b12, rfl, hb12, hB12⟩; replace HB := bel_then HB hB12; clear hin12)
    | (go_at_call 11; refine (c11 _ _ hb12.bs HB).mono ?_; rintro e w' ⟨rfl, hw⟩; subst hw)
    | (go_at_call 15; refine (c15b _ HB).mono ?_; rintro e w13 hrr; obtain ⟨hn13, rfl, hB13⟩ := valsR_err hD'.out hrr; clear hrr; have hn13' : (n != 0) = true := (by simp; omega); replace HB := bel_then HB hB13))
  go_ret
  exact ⟨by simp, HB⟩
set_option maxHeartbeats 4000000 in
set_option maxRecDepth 20000 in
theorem back_1001 (l : List V) (sl : Value) (v : V) (pv : Option Addr) (nv cv : Nat) (b : Value) (t : List UInt8) (w : World) (hl : Sl w 0 l sl) (hv : v.In w 0 (.slice pv nv cv)) (hb : Bs w b t) (kl : (keyL l).length ≤ 1073741824) (kv : v.pl.length ≤ 1073741824) (ht : t.length ≤ 1073741824) (hA : bads l = 0) (hM : v.may 1 = false) (hC : ∀ x, pRead t ≠ .ok (x, [])) (m : List V) (hD : pValues t.length t = .ok m) :
    Calls Try.prog 6 #[sl, v.agg (.slice pv nv cv), b] w fun e w' => e = .returned (.bool true) ∧ Below w.heap.size w w' := by
  have c10 := fun w => begun10 w
  have c8 := fun w' (hB : Below w.heap.size w w') => key8 l sl w' (hl.on hB) (by omega)
  unfold KeyR at c8
  rw [hA] at c8
  simp only [if_true] at c8
  have hvals := Lib.hid (values_there l (keyL l).length (fun v hv => ⟨bads_mem hA v hv, wideL_mem hl.wideL v hv⟩) (keyL_more l))
  have c15a := fun w' b h => values15 w' b (keyL l) h (by omega)
  have c19 := fun w' s1 s2 h1 h2 => refSameAll19 l s1 s2 w' h1 h2
  generalize keyL l = K at *
  have c30 := fun w' (hB : Below w.heap.size w w') => refCheck14 v (.slice pv nv cv) w' (hv.on hB)
  unfold V.err V.agg at c30
  rw [hM] at c30
  simp only [Bool.false_eq_true, if_false] at c30
  have c25 := fun w' (hB : Below w.heap.size w w') => parse25 w' b t (hb.on hB)
  have hC' := Lib.hid hC
  have c11 := fun w' b1 h1 (hB : Below w.heap.size w w') => equal11 w' b1 b t t h1 (hb.on hB)
  rw [same_bytes] at c11
  have c15b := fun w' (hB : Below w.heap.size w w') => values15 w' b t (hb.on hB) ht
  have hD' := Lib.hid hD
  obtain ⟨hm1, hm2⟩ := values_back hD
  have c8b := fun w' s h => key8 m s w' h (by rw [← hm1]; omega)
  unfold KeyR at c8b
  rw [bads_of hm2] at c8b
  simp only [if_true] at c8b
  rw [← hm1] at c8b
  clear hm1 hm2
  clear hA hM hC hD
  have HB := bel1 w (.cells #[.int .i64 v.k, .int .i64 v.n, .string v.s, .slice pv nv cv] 31)
  have KB := blk_new w (.cells #[.int .i64 v.k, .int .i64 v.n, .string v.s, .slice pv nv cv] 31)
  unfold V.agg
  have tkA : True := trivial
  have tkV : True := trivial
  have tkP : True := trivial
  have tkE : True := trivial
  obtain ⟨pl, capl, rfl, -⟩ := id hl
  obtain ⟨pb, capb, rfl, -, -⟩ := hb.slice
  go_enter Try.func6, Try.ntmps6
  go_wp2_with (first
    | (go_at_call 10; refine (c10 _).mono ?_; rintro e w1 ⟨rfl, hB1⟩; replace HB := bel_then HB hB1; replace KB := blk_on hB1 KB)
    | (go_at_call 8; clear tkA; refine (c8 _ HB).mono ?_; rintro e w2 ⟨b1, rfl, hb1, hB2⟩; replace HB := bel_then HB hB2; replace KB := blk_on hB2 KB; skip)
    | (go_at_call 15; clear tkV; refine (c15a _ _ hb1.bs).mono ?_; rintro e w3 hrr; obtain ⟨s3, rfl, hs3, hB3⟩ := valsR_ok hvals.out hrr; clear hrr; replace HB := bel_then HB hB3; replace KB := blk_on hB3 KB)
    | (go_at_call 19; refine (c19 _ _ _ hs3 (hl.on HB)).mono ?_; rintro e w4 ⟨rfl, hB4⟩; replace HB := bel_then HB hB4; replace KB := blk_on hB4 KB; obtain ⟨x0, x1, x2, x3, xf⟩ := four_of KB)
    | (go_at_call 30; refine (c30 _ HB).mono ?_; rintro e w5 ⟨rfl, hB5⟩; replace HB := bel_then HB hB5; replace KB := blk_on hB5 KB; skip)
    | (go_at_call 25; refine (c25 _ HB).mono ?_; rintro e w11 hrr; obtain ⟨n11, hn11, rfl, hB11⟩ := parR_no hC'.out hrr; clear hrr; have hn11' : (n11 == 0) = false := (by simp; omega); replace HB := bel_then (bel_then HB hB11) (bel1 w11 (.cells #[.int .i64 0, .int .i64 0, .string ⟨#[]⟩, .slice none 0 0] 31)); clear KB)
    | (go_at_call 15; refine (c15b _ HB).mono ?_; rintro e w13 hrr; obtain ⟨s13, rfl, hs13, hB13⟩ := valsR_ok hD'.out hrr; clear hrr; replace HB := bel_then HB hB13)
    | (go_at_call 8; refine (c8b _ _ hs13).mono ?_; rintro e w14 ⟨b14, rfl, hb14, hB14⟩; replace HB := bel_then HB hB14)
    | (go_at_call 11; refine (c11 _ _ hb14.bs HB).mono ?_; rintro e w' ⟨rfl, hw⟩; subst hw))
  go_ret
  exact ⟨by simp, HB⟩
set_option maxHeartbeats 4000000 in
set_option maxRecDepth 20000 in
theorem back_1000 (l : List V) (sl : Value) (v : V) (pv : Option Addr) (nv cv : Nat) (b : Value) (t : List UInt8) (w : World) (hl : Sl w 0 l sl) (hv : v.In w 0 (.slice pv nv cv)) (hb : Bs w b t) (kl : (keyL l).length ≤ 1073741824) (kv : v.pl.length ≤ 1073741824) (ht : t.length ≤ 1073741824) (hA : bads l = 0) (hM : v.may 1 = false) (hC : ∀ x, pRead t ≠ .ok (x, [])) (n : Int) (hD : pValues t.length t = .error n) :
    Calls Try.prog 6 #[sl, v.agg (.slice pv nv cv), b] w fun e w' => e = .returned (.bool true) ∧ Below w.heap.size w w' := by
  have c10 := fun w => begun10 w
  have c8 := fun w' (hB : Below w.heap.size w w') => key8 l sl w' (hl.on hB) (by omega)
  unfold KeyR at c8
  rw [hA] at c8
  simp only [if_true] at c8
  have hvals := Lib.hid (values_there l (keyL l).length (fun v hv => ⟨bads_mem hA v hv, wideL_mem hl.wideL v hv⟩) (keyL_more l))
  have c15a := fun w' b h => values15 w' b (keyL l) h (by omega)
  have c19 := fun w' s1 s2 h1 h2 => refSameAll19 l s1 s2 w' h1 h2
  generalize keyL l = K at *
  have c30 := fun w' (hB : Below w.heap.size w w') => refCheck14 v (.slice pv nv cv) w' (hv.on hB)
  unfold V.err V.agg at c30
  rw [hM] at c30
  simp only [Bool.false_eq_true, if_false] at c30
  have c25 := fun w' (hB : Below w.heap.size w w') => parse25 w' b t (hb.on hB)
  have hC' := Lib.hid hC
  have c15b := fun w' (hB : Below w.heap.size w w') => values15 w' b t (hb.on hB) ht
  have hD' := Lib.hid hD
  clear hA hM hC hD
  have HB := bel1 w (.cells #[.int .i64 v.k, .int .i64 v.n, .string v.s, .slice pv nv cv] 31)
  have KB := blk_new w (.cells #[.int .i64 v.k, .int .i64 v.n, .string v.s, .slice pv nv cv] 31)
  unfold V.agg
  have tkA : True := trivial
  have tkV : True := trivial
  have tkP : True := trivial
  have tkE : True := trivial
  obtain ⟨pl, capl, rfl, -⟩ := id hl
  obtain ⟨pb, capb, rfl, -, -⟩ := hb.slice
  go_enter Try.func6, Try.ntmps6
  go_wp2_with (first
    | (go_at_call 10; refine (c10 _).mono ?_; rintro e w1 ⟨rfl, hB1⟩; replace HB := bel_then HB hB1; replace KB := blk_on hB1 KB)
    | (go_at_call 8; clear tkA; refine (c8 _ HB).mono ?_; rintro e w2 ⟨b1, rfl, hb1, hB2⟩; replace HB := bel_then HB hB2; replace KB := blk_on hB2 KB; skip)
    | (go_at_call 15; clear tkV; refine (c15a _ _ hb1.bs).mono ?_; rintro e w3 hrr; obtain ⟨s3, rfl, hs3, hB3⟩ := valsR_ok hvals.out hrr; clear hrr; replace HB := bel_then HB hB3; replace KB := blk_on hB3 KB)
    | (go_at_call 19; refine (c19 _ _ _ hs3 (hl.on HB)).mono ?_; rintro e w4 ⟨rfl, hB4⟩; replace HB := bel_then HB hB4; replace KB := blk_on hB4 KB; obtain ⟨x0, x1, x2, x3, xf⟩ := four_of KB)
    | (go_at_call 30; refine (c30 _ HB).mono ?_; rintro e w5 ⟨rfl, hB5⟩; replace HB := bel_then HB hB5; replace KB := blk_on hB5 KB; skip)
    | (go_at_call 25; refine (c25 _ HB).mono ?_; rintro e w11 hrr; obtain ⟨n11, hn11, rfl, hB11⟩ := parR_no hC'.out hrr; clear hrr; have hn11' : (n11 == 0) = false := (by simp; omega); replace HB := bel_then (bel_then HB hB11) (bel1 w11 (.cells #[.int .i64 0, .int .i64 0, .string ⟨#[]⟩, .slice none 0 0] 31)); clear KB)
    | (go_at_call 15; refine (c15b _ HB).mono ?_; rintro e w13 hrr; obtain ⟨hn13, rfl, hB13⟩ := valsR_err hD'.out hrr; clear hrr; have hn13' : (n != 0) = true := (by simp; omega); replace HB := bel_then HB hB13))
  go_ret
  exact ⟨by simp, HB⟩
set_option maxHeartbeats 4000000 in
set_option maxRecDepth 20000 in
theorem back_0111 (l : List V) (sl : Value) (v : V) (pv : Option Addr) (nv cv : Nat) (b : Value) (t : List UInt8) (w : World) (hl : Sl w 0 l sl) (hv : v.In w 0 (.slice pv nv cv)) (hb : Bs w b t) (kl : (keyL l).length ≤ 1073741824) (kv : v.pl.length ≤ 1073741824) (ht : t.length ≤ 1073741824) (hA : bads l ≠ 0) (hM : v.may 1 = true) (x : V) (hC : pRead t = .ok (x, [])) (m : List V) (hD : pValues t.length t = .ok m) :
    Calls Try.prog 6 #[sl, v.agg (.slice pv nv cv), b] w fun e w' => e = .returned (.bool true) ∧ Below w.heap.size w w' := by
  have c10 := fun w => begun10 w
  have c8 := fun w' (hB : Below w.heap.size w w') => key8 l sl w' (hl.on hB) (by omega)
  unfold KeyR at c8
  have hA0 : (bads l == 0) = false := by simp [hA]
  generalize (if bads l = 0 then keyL l else []) = K at *
  generalize bads l = AA at *
  have c30 := fun w' (hB : Below w.heap.size w w') => refCheck14 v (.slice pv nv cv) w' (hv.on hB)
  unfold V.err V.agg at c30
  rw [hM] at c30
  simp only [if_true] at c30
  have c21 := fun w' (hB : Below w.heap.size w w') => put21 v (.slice pv nv cv) w' (hv.on hB) hM (.slice none 0 0) [] (bs_nil w') (by simp; omega)
  unfold V.agg at c21
  simp only [List.nil_append] at c21
  have c20 := fun w' b h => clone20 w' b v.pl h (by omega)
  have hRd : pRead (v.pl ++ t) = .ok (v, t) := chk_ok (val_there 8 1 rfl v hv.wide hM t) hM
  have c23 := fun w' b h => readP23 w' b (v.pl ++ t) h
  rw [hRd] at c23
  have hlen : Hid ((((v.pl ++ t).length : Nat) : Int) - (t.length : Int) = (v.pl.length : Int)) := by show _ = _; rw [List.length_append]; omega
  clear hRd
  generalize v.pl = P at *
  have c25 := fun w' (hB : Below w.heap.size w w') => parse25 w' b t (hb.on hB)
  have hC' := Lib.hid hC
  obtain ⟨hx1, hx2⟩ := chk_is hC
  have hxt := val_back 8 1 rfl t x [] hx1 hx2
  rw [List.append_nil] at hxt
  have c21x := fun w' s h => put21 x s w' h hx2 (.slice none 0 0) [] (bs_nil w') (by rw [← hxt]; simp; omega)
  unfold V.agg at c21x
  simp only [List.nil_append] at c21x
  rw [← hxt] at c21x
  clear hx1 hx2 hxt
  have c11 := fun w' b1 h1 (hB : Below w.heap.size w w') => equal11 w' b1 b t t h1 (hb.on hB)
  rw [same_bytes] at c11
  have c15b := fun w' (hB : Below w.heap.size w w') => values15 w' b t (hb.on hB) ht
  have hD' := Lib.hid hD
  obtain ⟨hm1, hm2⟩ := values_back hD
  have c8b := fun w' s h => key8 m s w' h (by rw [← hm1]; omega)
  unfold KeyR at c8b
  rw [bads_of hm2] at c8b
  simp only [if_true] at c8b
  rw [← hm1] at c8b
  clear hm1 hm2
  clear hA hM hC hD
  have HB := bel1 w (.cells #[.int .i64 v.k, .int .i64 v.n, .string v.s, .slice pv nv cv] 31)
  have KB := blk_new w (.cells #[.int .i64 v.k, .int .i64 v.n, .string v.s, .slice pv nv cv] 31)
  unfold V.agg
  have tkA : True := trivial
  have tkV : True := trivial
  have tkP : True := trivial
  have tkE : True := trivial
  obtain ⟨pl, capl, rfl, -⟩ := id hl
  obtain ⟨pb, capb, rfl, -, -⟩ := hb.slice
  go_enter Try.func6, Try.ntmps6
  go_wp2_with (first
    | (go_at_call 10; refine (c10 _).mono ?_; rintro e w1 ⟨rfl, hB1⟩; replace HB := bel_then HB hB1; replace KB := blk_on hB1 KB)
    | (go_at_call 8; clear tkA; refine (c8 _ HB).mono ?_; rintro e w2 ⟨b1, rfl, hb1, hB2⟩; replace HB := bel_then HB hB2; replace KB := blk_on hB2 KB; obtain ⟨x0, x1, x2, x3, xf⟩ := four_of KB)
    | (go_at_call 30; refine (c30 _ HB).mono ?_; rintro e w5 ⟨rfl, hB5⟩; replace HB := bel_then HB hB5; replace KB := blk_on hB5 KB; obtain ⟨x0, x1, x2, x3, xf⟩ := four_of KB)
    | (go_at_call 21; clear tkP; refine (c21 _ HB).mono ?_; rintro e w6 ⟨b2, rfl, hb2, hB6⟩; replace HB := bel_then HB hB6; replace KB := blk_on hB6 KB; obtain ⟨p2, cap2, rfl, -, -⟩ := hb2.bs.slice)
    | (go_at_call 20; refine (c20 _ _ hb2.bs).mono ?_; rintro e w7 ⟨b3, rfl, hb3, hB7⟩)
    | (at_builtin; refine wpList_app_bs _ rfl _ _ rfl w6.heap.size b3 P rfl hb3 _ t rfl ((hb.on HB).on hB7) (by omega) hB7.size ?_; intro b4 w8 hb4 hg8; have hB8 := below_app hB7 hb3 hg8; clear hg8 hb3 hB7; replace HB := bel_then HB hB8; replace KB := blk_on hB8 KB)
    | (go_at_call 23; refine (c23 _ _ hb4.bs).mono ?_; rintro e w9 hrr; obtain ⟨s9, rfl, hin9, hB9⟩ := takeR_ok hrr; clear hrr; rw [hlen.out]; unfold V.agg; obtain ⟨p9, n9, q9, rfl⟩ := hin9.header; replace HB := bel_then HB hB9; replace KB := blk_on hB9 KB; have hbx := bel1 w9 (.cells #[.int .i64 v.k, .int .i64 v.n, .string v.s, .slice p9 n9 q9] 31); replace HB := bel_then HB hbx; replace KB := blk_on hbx KB; obtain ⟨x0, x1, x2, x3, xf⟩ := four_of KB; obtain ⟨y0, y1, y2, y3, yf⟩ := four_of (blk_new w9 (.cells #[.int .i64 v.k, .int .i64 v.n, .string v.s, .slice p9 n9 q9] 31)); have c14 := refSame_any v v _ _ _ ((hin9.low (Nat.zero_le _)).on hbx) (hv.on HB); rw [show (V.cmp v v == 0) = true by rw [cmp_self]; rfl] at c14; unfold V.agg at c14; clear hin9)
    | (go_at_call 14; refine c14.mono ?_; rintro e w10 ⟨rfl, hB10⟩; replace HB := bel_then HB hB10; replace KB := blk_on hB10 KB; clear c14 x0 x1 x2 x3 xf y0 y1 y2 y3 yf)
    | (go_at_call 25; refine (c25 _ HB).mono ?_; rintro e w11 hrr; obtain ⟨p11, n11, q11, rfl, hin11, hB11⟩ := parR_ok hC'.out hrr; clear hrr; have hbz := bel1 w11 (.cells #[.int .i64 x.k, .int .i64 x.n, .string x.s, .slice p11 n11 q11] 31); replace HB := bel_then (bel_then HB hB11) hbz; clear KB; obtain ⟨z0, z1, z2, z3, zf⟩ := four_of (blk_new w11 (.cells #[.int .i64 x.k, .int .i64 x.n, .string x.s, .slice p11 n11 q11] 31)); have hin12 := hin11.on hbz; clear hin11)
    | (go_at_call 21; refine (c21x _ _ hin12).mono ?_; rintro e w12 ⟨b12, rfl, hb12, hB12⟩; replace HB := bel_then HB hB12; clear hin12)
    | (go_at_call 11; clear tkE; refine (c11 _ _ hb12.bs HB).mono ?_; rintro e w' ⟨rfl, hw⟩; subst hw)
    | (go_at_call 15; refine (c15b _ HB).mono ?_; rintro e w13 hrr; obtain ⟨s13, rfl, hs13, hB13⟩ := valsR_ok hD'.out hrr; clear hrr; replace HB := bel_then HB hB13)
    | (go_at_call 8; refine (c8b _ _ hs13).mono ?_; rintro e w14 ⟨b14, rfl, hb14, hB14⟩; replace HB := bel_then HB hB14)
    | (go_at_call 11; refine (c11 _ _ hb14.bs HB).mono ?_; rintro e w' ⟨rfl, hw⟩; subst hw))
  go_ret
  exact ⟨by simp, HB⟩
set_option maxHeartbeats 4000000 in
set_option maxRecDepth 20000 in
theorem back_0110 (l : List V) (sl : Value) (v : V) (pv : Option Addr) (nv cv : Nat) (b : Value) (t : List UInt8) (w : World) (hl : Sl w 0 l sl) (hv : v.In w 0 (.slice pv nv cv)) (hb : Bs w b t) (kl : (keyL l).length ≤ 1073741824) (kv : v.pl.length ≤ 1073741824) (ht : t.length ≤ 1073741824) (hA : bads l ≠ 0) (hM : v.may 1 = true) (x : V) (hC : pRead t = .ok (x, [])) (n : Int) (hD : pValues t.length t = .error n) :
    Calls Try.prog 6 #[sl, v.agg (.slice pv nv cv), b] w fun e w' => e = .returned (.bool true) ∧ Below w.heap.size w w' := by
  have c10 := fun w => begun10 w
  have c8 := fun w' (hB : Below w.heap.size w w') => key8 l sl w' (hl.on hB) (by omega)
  unfold KeyR at c8
  have hA0 : (bads l == 0) = false := by simp [hA]
  generalize (if bads l = 0 then keyL l else []) = K at *
  generalize bads l = AA at *
  have c30 := fun w' (hB : Below w.heap.size w w') => refCheck14 v (.slice pv nv cv) w' (hv.on hB)
  unfold V.err V.agg at c30
  rw [hM] at c30
  simp only [if_true] at c30
  have c21 := fun w' (hB : Below w.heap.size w w') => put21 v (.slice pv nv cv) w' (hv.on hB) hM (.slice none 0 0) [] (bs_nil w') (by simp; omega)
  unfold V.agg at c21
  simp only [List.nil_append] at c21
  have c20 := fun w' b h => clone20 w' b v.pl h (by omega)
  have hRd : pRead (v.pl ++ t) = .ok (v, t) := chk_ok (val_there 8 1 rfl v hv.wide hM t) hM
  have c23 := fun w' b h => readP23 w' b (v.pl ++ t) h
  rw [hRd] at c23
  have hlen : Hid ((((v.pl ++ t).length : Nat) : Int) - (t.length : Int) = (v.pl.length : Int)) := by show _ = _; rw [List.length_append]; omega
  clear hRd
  generalize v.pl = P at *
  have c25 := fun w' (hB : Below w.heap.size w w') => parse25 w' b t (hb.on hB)
  have hC' := Lib.hid hC
  obtain ⟨hx1, hx2⟩ := chk_is hC
  have hxt := val_back 8 1 rfl t x [] hx1 hx2
  rw [List.append_nil] at hxt
  have c21x := fun w' s h => put21 x s w' h hx2 (.slice none 0 0) [] (bs_nil w') (by rw [← hxt]; simp; omega)
  unfold V.agg at c21x
  simp only [List.nil_append] at c21x
  rw [← hxt] at c21x
  clear hx1 hx2 hxt
  have c11 := fun w' b1 h1 (hB : Below w.heap.size w w') => equal11 w' b1 b t t h1 (hb.on hB)
  rw [same_bytes] at c11
  have c15b := fun w' (hB : Below w.heap.size w w') => values15 w' b t (hb.on hB) ht
  have hD' := Lib.hid hD
  clear hA hM hC hD
  have HB := bel1 w (.cells #[.int .i64 v.k, .int .i64 v.n, .string v.s, .slice pv nv cv] 31)
  have KB := blk_new w (.cells #[.int .i64 v.k, .int .i64 v.n, .string v.s, .slice pv nv cv] 31)
  unfold V.agg
  have tkA : True := trivial
  have tkV : True := trivial
  have tkP : True := trivial
  have tkE : True := trivial
  obtain ⟨pl, capl, rfl, -⟩ := id hl
  obtain ⟨pb, capb, rfl, -, -⟩ := hb.slice
  go_enter Try.func6, Try.ntmps6
  go_wp2_with (first
    | (go_at_call 10; refine (c10 _).mono ?_; rintro e w1 ⟨rfl, hB1⟩; replace HB := bel_then HB hB1; replace KB := blk_on hB1 KB)
    | (go_at_call 8; clear tkA; refine (c8 _ HB).mono ?_; rintro e w2 ⟨b1, rfl, hb1, hB2⟩; replace HB := bel_then HB hB2; replace KB := blk_on hB2 KB; obtain ⟨x0, x1, x2, x3, xf⟩ := four_of KB)
    | (go_at_call 30; refine (c30 _ HB).mono ?_; rintro e w5 ⟨rfl, hB5⟩; replace HB := bel_then HB hB5; replace KB := blk_on hB5 KB; obtain ⟨x0, x1, x2, x3, xf⟩ := four_of KB)
    | (go_at_call 21; clear tkP; refine (c21 _ HB).mono ?_; rintro e w6 ⟨b2, rfl, hb2, hB6⟩; replace HB := bel_then HB hB6; replace KB := blk_on hB6 KB; obtain ⟨p2, cap2, rfl, -, -⟩ := hb2.bs.slice)
    | (go_at_call 20; refine (c20 _ _ hb2.bs).mono ?_; rintro e w7 ⟨b3, rfl, hb3, hB7⟩)
    | (at_builtin; refine wpList_app_bs _ rfl _ _ rfl w6.heap.size b3 P rfl hb3 _ t rfl ((hb.on HB).on hB7) (by omega) hB7.size ?_; intro b4 w8 hb4 hg8; have hB8 := below_app hB7 hb3 hg8; clear hg8 hb3 hB7; replace HB := bel_then HB hB8; replace KB := blk_on hB8 KB)
    | (go_at_call 23; refine (c23 _ _ hb4.bs).mono ?_; rintro e w9 hrr; obtain ⟨s9, rfl, hin9, hB9⟩ := takeR_ok hrr; clear hrr; rw [hlen.out]; unfold V.agg; obtain ⟨p9, n9, q9, rfl⟩ := hin9.header; replace HB := bel_then HB hB9; replace KB := blk_on hB9 KB; have hbx := bel1 w9 (.cells #[.int .i64 v.k, .int .i64 v.n, .string v.s, .slice p9 n9 q9] 31); replace HB := bel_then HB hbx; replace KB := blk_on hbx KB; obtain ⟨x0, x1, x2, x3, xf⟩ := four_of KB; obtain ⟨y0, y1, y2, y3, yf⟩ := four_of (blk_new w9 (.cells #[.int .i64 v.k, .int .i64 v.n, .string v.s, .slice p9 n9 q9] 31)); have c14 := refSame_any v v _ _ _ ((hin9.low (Nat.zero_le _)).on hbx) (hv.on HB); rw [show (V.cmp v v == 0) = true by rw [cmp_self]; rfl] at c14; unfold V.agg at c14; clear hin9)
    | (go_at_call 14; refine c14.mono ?_; rintro e w10 ⟨rfl, hB10⟩; replace HB := bel_then HB hB10; replace KB := blk_on hB10 KB; clear c14 x0 x1 x2 x3 xf y0 y1 y2 y3 yf)
    | (go_at_call 25; refine (c25 _ HB).mono ?_; rintro e w11 hrr; obtain ⟨p11, n11, q11, rfl, hin11, hB11⟩ := parR_ok hC'.out hrr; clear hrr; have hbz := bel1 w11 (.cells #[.int .i64 x.k, .int .i64 x.n, .string x.s, .slice p11 n11 q11] 31); replace HB := bel_then (bel_then HB hB11) hbz; clear KB; obtain ⟨z0, z1, z2, z3, zf⟩ := four_of (blk_new w11 (.cells #[.int .i64 x.k, .int .i64 x.n, .string x.s, .slice p11 n11 q11] 31)); have hin12 := hin11.on hbz; clear hin11)
    | (go_at_call 21; refine (c21x _ _ hin12).mono ?_; rintro e w12 ⟨b12, rfl, hb12, hB12⟩; replace HB := bel_then HB hB12; clear hin12)
    | (go_at_call 11; refine (c11 _ _ hb12.bs HB).mono ?_; rintro e w' ⟨rfl, hw⟩; subst hw)
    | (go_at_call 15; refine (c15b _ HB).mono ?_; rintro e w13 hrr; obtain ⟨hn13, rfl, hB13⟩ := valsR_err hD'.out hrr; clear hrr; have hn13' : (n != 0) = true := (by simp; omega); replace HB := bel_then HB hB13))
  go_ret
  exact ⟨by simp, HB⟩
set_option maxHeartbeats 4000000 in
set_option maxRecDepth 20000 in
theorem back_0101 (l : List V) (sl : Value) (v : V) (pv : Option Addr) (nv cv : Nat) (b : Value) (t : List UInt8) (w : World) (hl : Sl w 0 l sl) (hv : v.In w 0 (.slice pv nv cv)) (hb : Bs w b t) (kl : (keyL l).length ≤ 1073741824) (kv : v.pl.length ≤ 1073741824) (ht : t.length ≤ 1073741824) (hA : bads l ≠ 0) (hM : v.may 1 = true) (hC : ∀ x, pRead t ≠ .ok (x, [])) (m : List V) (hD : pValues t.length t = .ok m) :
    Calls Try.prog 6 #[sl, v.agg (.slice pv nv cv), b] w fun e w' => e = .returned (.bool true) ∧ Below w.heap.size w w' := by
  have c10 := fun w => begun10 w
  have c8 := fun w' (hB : Below w.heap.size w w') => key8 l sl w' (hl.on hB) (by omega)
  unfold KeyR at c8
  have hA0 : (bads l == 0) = false := by simp [hA]
  generalize (if bads l = 0 then keyL l else []) = K at *
  generalize bads l = AA at *
  have c30 := fun w' (hB : Below w.heap.size w w') => refCheck14 v (.slice pv nv cv) w' (hv.on hB)
  unfold V.err V.agg at c30
  rw [hM] at c30
  simp only [if_true] at c30
  have c21 := fun w' (hB : Below w.heap.size w w') => put21 v (.slice pv nv cv) w' (hv.on hB) hM (.slice none 0 0) [] (bs_nil w') (by simp; omega)
  unfold V.agg at c21
  simp only [List.nil_append] at c21
  have c20 := fun w' b h => clone20 w' b v.pl h (by omega)
  have hRd : pRead (v.pl ++ t) = .ok (v, t) := chk_ok (val_there 8 1 rfl v hv.wide hM t) hM
  have c23 := fun w' b h => readP23 w' b (v.pl ++ t) h
  rw [hRd] at c23
  have hlen : Hid ((((v.pl ++ t).length : Nat) : Int) - (t.length : Int) = (v.pl.length : Int)) := by show _ = _; rw [List.length_append]; omega
  clear hRd
  generalize v.pl = P at *
  have c25 := fun w' (hB : Below w.heap.size w w') => parse25 w' b t (hb.on hB)
  have hC' := Lib.hid hC
  have c11 := fun w' b1 h1 (hB : Below w.heap.size w w') => equal11 w' b1 b t t h1 (hb.on hB)
  rw [same_bytes] at c11
  have c15b := fun w' (hB : Below w.heap.size w w') => values15 w' b t (hb.on hB) ht
  have hD' := Lib.hid hD
  obtain ⟨hm1, hm2⟩ := values_back hD
  have c8b := fun w' s h => key8 m s w' h (by rw [← hm1]; omega)
  unfold KeyR at c8b
  rw [bads_of hm2] at c8b
  simp only [if_true] at c8b
  rw [← hm1] at c8b
  clear hm1 hm2
  clear hA hM hC hD
  have HB := bel1 w (.cells #[.int .i64 v.k, .int .i64 v.n, .string v.s, .slice pv nv cv] 31)
  have KB := blk_new w (.cells #[.int .i64 v.k, .int .i64 v.n, .string v.s, .slice pv nv cv] 31)
  unfold V.agg
  have tkA : True := trivial
  have tkV : True := trivial
  have tkP : True := trivial
  have tkE : True := trivial
  obtain ⟨pl, capl, rfl, -⟩ := id hl
  obtain ⟨pb, capb, rfl, -, -⟩ := hb.slice
  go_enter Try.func6, Try.ntmps6
  go_wp2_with (first
    | (go_at_call 10; refine (c10 _).mono ?_; rintro e w1 ⟨rfl, hB1⟩; replace HB := bel_then HB hB1; replace KB := blk_on hB1 KB)
    | (go_at_call 8; clear tkA; refine (c8 _ HB).mono ?_; rintro e w2 ⟨b1, rfl, hb1, hB2⟩; replace HB := bel_then HB hB2; replace KB := blk_on hB2 KB; obtain ⟨x0, x1, x2, x3, xf⟩ := four_of KB)
    | (go_at_call 30; refine (c30 _ HB).mono ?_; rintro e w5 ⟨rfl, hB5⟩; replace HB := bel_then HB hB5; replace KB := blk_on hB5 KB; obtain ⟨x0, x1, x2, x3, xf⟩ := four_of KB)
    | (go_at_call 21; clear tkP; refine (c21 _ HB).mono ?_; rintro e w6 ⟨b2, rfl, hb2, hB6⟩; replace HB := bel_then HB hB6; replace KB := blk_on hB6 KB; obtain ⟨p2, cap2, rfl, -, -⟩ := hb2.bs.slice)
    | (go_at_call 20; refine (c20 _ _ hb2.bs).mono ?_; rintro e w7 ⟨b3, rfl, hb3, hB7⟩)
    | (at_builtin; refine wpList_app_bs _ rfl _ _ rfl w6.heap.size b3 P rfl hb3 _ t rfl ((hb.on HB).on hB7) (by omega) hB7.size ?_; intro b4 w8 hb4 hg8; have hB8 := below_app hB7 hb3 hg8; clear hg8 hb3 hB7; replace HB := bel_then HB hB8; replace KB := blk_on hB8 KB)
    | (go_at_call 23; refine (c23 _ _ hb4.bs).mono ?_; rintro e w9 hrr; obtain ⟨s9, rfl, hin9, hB9⟩ := takeR_ok hrr; clear hrr; rw [hlen.out]; unfold V.agg; obtain ⟨p9, n9, q9, rfl⟩ := hin9.header; replace HB := bel_then HB hB9; replace KB := blk_on hB9 KB; have hbx := bel1 w9 (.cells #[.int .i64 v.k, .int .i64 v.n, .string v.s, .slice p9 n9 q9] 31); replace HB := bel_then HB hbx; replace KB := blk_on hbx KB; obtain ⟨x0, x1, x2, x3, xf⟩ := four_of KB; obtain ⟨y0, y1, y2, y3, yf⟩ := four_of (blk_new w9 (.cells #[.int .i64 v.k, .int .i64 v.n, .string v.s, .slice p9 n9 q9] 31)); have c14 := refSame_any v v _ _ _ ((hin9.low (Nat.zero_le _)).on hbx) (hv.on HB); rw [show (V.cmp v v == 0) = true by rw [cmp_self]; rfl] at c14; unfold V.agg at c14; clear hin9)
    | (go_at_call 14; refine c14.mono ?_; rintro e w10 ⟨rfl, hB10⟩; replace HB := bel_then HB hB10; replace KB := blk_on hB10 KB; clear c14 x0 x1 x2 x3 xf y0 y1 y2 y3 yf)
    | (go_at_call 25; refine (c25 _ HB).mono ?_; rintro e w11 hrr; obtain ⟨n11, hn11, rfl, hB11⟩ := parR_no hC'.out hrr; clear hrr; have hn11' : (n11 == 0) = false := (by simp; omega); replace HB := bel_then (bel_then HB hB11) (bel1 w11 (.cells #[.int .i64 0, .int .i64 0, .string ⟨#[]⟩, .slice none 0 0] 31)); clear KB)
    | (go_at_call 15; refine (c15b _ HB).mono ?_; rintro e w13 hrr; obtain ⟨s13, rfl, hs13, hB13⟩ := valsR_ok hD'.out hrr; clear hrr; replace HB := bel_then HB hB13)
    | (go_at_call 8; refine (c8b _ _ hs13).mono ?_; rintro e w14 ⟨b14, rfl, hb14, hB14⟩; replace HB := bel_then HB hB14)
    | (go_at_call 11; refine (c11 _ _ hb14.bs HB).mono ?_; rintro e w' ⟨rfl, hw⟩; subst hw))
  go_ret
  exact ⟨by simp, HB⟩
set_option maxHeartbeats 4000000 in
set_option maxRecDepth 20000 in
theorem back_0100 (l : List V) (sl : Value) (v : V) (pv : Option Addr) (nv cv : Nat) (b : Value) (t : List UInt8) (w : World) (hl : Sl w 0 l sl) (hv : v.In w 0 (.slice pv nv cv)) (hb : Bs w b t) (kl : (keyL l).length ≤ 1073741824) (kv : v.pl.length ≤ 1073741824) (ht : t.length ≤ 1073741824) (hA : bads l ≠ 0) (hM : v.may 1 = true) (hC : ∀ x, pRead t ≠ .ok (x, [])) (n : Int) (hD : pValues t.length t = .error n) :
    Calls Try.prog 6 #[sl, v.agg (.slice pv nv cv), b] w fun e w' => e = .returned (.bool true) ∧ Below w.heap.size w w' := by
  have c10 := fun w => begun10 w
  have c8 := fun w' (hB : Below w.heap.size w w') => key8 l sl w' (hl.on hB) (by omega)
  unfold KeyR at c8
  have hA0 : (bads l == 0) = false := by simp [hA]
  generalize (if bads l = 0 then keyL l else []) = K at *
  generalize bads l = AA at *
  have c30 := fun w' (hB : Below w.heap.size w w') => refCheck14 v (.slice pv nv cv) w' (hv.on hB)
  unfold V.err V.agg at c30
  rw [hM] at c30
  simp only [if_true] at c30
  have c21 := fun w' (hB : Below w.heap.size w w') => put21 v (.slice pv nv cv) w' (hv.on hB) hM (.slice none 0 0) [] (bs_nil w') (by simp; omega)
  unfold V.agg at c21
  simp only [List.nil_append] at c21
  have c20 := fun w' b h => clone20 w' b v.pl h (by omega)
  have hRd : pRead (v.pl ++ t) = .ok (v, t) := chk_ok (val_there 8 1 rfl v hv.wide hM t) hM
  have c23 := fun w' b h => readP23 w' b (v.pl ++ t) h
  rw [hRd] at c23
  have hlen : Hid ((((v.pl ++ t).length : Nat) : Int) - (t.length : Int) = (v.pl.length : Int)) := by show _ = _; rw [List.length_append]; omega
  clear hRd
  generalize v.pl = P at *
  have c25 := fun w' (hB : Below w.heap.size w w') => parse25 w' b t (hb.on hB)
  have hC' := Lib.hid hC
  have c15b := fun w' (hB : Below w.heap.size w w') => values15 w' b t (hb.on hB) ht
  have hD' := Lib.hid hD
  clear hA hM hC hD
  have HB := bel1 w (.cells #[.int .i64 v.k, .int .i64 v.n, .string v.s, .slice pv nv cv] 31)
  have KB := blk_new w (.cells #[.int .i64 v.k, .int .i64 v.n, .string v.s, .slice pv nv cv] 31)
  unfold V.agg
  have tkA : True := trivial
  have tkV : True := trivial
  have tkP : True := trivial
  have tkE : True := trivial
  obtain ⟨pl, capl, rfl, -⟩ := id hl
  obtain ⟨pb, capb, rfl, -, -⟩ := hb.slice
  go_enter Try.func6, Try.ntmps6
  go_wp2_with (first
    | (go_at_call 10; refine (c10 _).mono ?_; rintro e w1 ⟨rfl, hB1⟩; replace HB := bel_then HB hB1; replace KB := blk_on hB1 KB)
    | (go_at_call 8; clear tkA; refine (c8 _ HB).mono ?_; rintro e w2 ⟨b1, rfl, hb1, hB2⟩; replace HB := bel_then HB hB2; replace KB := blk_on hB2 KB; obtain ⟨x0, x1, x2, x3, xf⟩ := four_of KB)
    | (go_at_call 30; refine (c30 _ HB).mono ?_; rintro e w5 ⟨rfl, hB5⟩; replace HB := bel_then HB hB5; replace KB := blk_on hB5 KB; obtain ⟨x0, x1, x2, x3, xf⟩ := four_of KB)
    | (go_at_call 21; clear tkP; refine (c21 _ HB).mono ?_; rintro e w6 ⟨b2, rfl, hb2, hB6⟩; replace HB := bel_then HB hB6; replace KB := blk_on hB6 KB; obtain ⟨p2, cap2, rfl, -, -⟩ := hb2.bs.slice)
    | (go_at_call 20; refine (c20 _ _ hb2.bs).mono ?_; rintro e w7 ⟨b3, rfl, hb3, hB7⟩)
    | (at_builtin; refine wpList_app_bs _ rfl _ _ rfl w6.heap.size b3 P rfl hb3 _ t rfl ((hb.on HB).on hB7) (by omega) hB7.size ?_; intro b4 w8 hb4 hg8; have hB8 := below_app hB7 hb3 hg8; clear hg8 hb3 hB7; replace HB := bel_then HB hB8; replace KB := blk_on hB8 KB)
    | (go_at_call 23; refine (c23 _ _ hb4.bs).mono ?_; rintro e w9 hrr; obtain ⟨s9, rfl, hin9, hB9⟩ := takeR_ok hrr; clear hrr; rw [hlen.out]; unfold V.agg; obtain ⟨p9, n9, q9, rfl⟩ := hin9.header; replace HB := bel_then HB hB9; replace KB := blk_on hB9 KB; have hbx := bel1 w9 (.cells #[.int .i64 v.k, .int .i64 v.n, .string v.s, .slice p9 n9 q9] 31); replace HB := bel_then HB hbx; replace KB := blk_on hbx KB; obtain ⟨x0, x1, x2, x3, xf⟩ := four_of KB; obtain ⟨y0, y1, y2, y3, yf⟩ := four_of (blk_new w9 (.cells #[.int .i64 v.k, .int .i64 v.n, .string v.s, .slice p9 n9 q9] 31)); have c14 := refSame_any v v _ _ _ ((hin9.low (Nat.zero_le _)).on hbx) (hv.on HB); rw [show (V.cmp v v == 0) = true by rw [cmp_self]; rfl] at c14; unfold V.agg at c14; clear hin9)
    | (go_at_call 14; refine c14.mono ?_; rintro e w10 ⟨rfl, hB10⟩; replace HB := bel_then HB hB10; replace KB := blk_on hB10 KB; clear c14 x0 x1 x2 x3 xf y0 y1 y2 y3 yf)
    | (go_at_call 25; refine (c25 _ HB).mono ?_; rintro e w11 hrr; obtain ⟨n11, hn11, rfl, hB11⟩ := parR_no hC'.out hrr; clear hrr; have hn11' : (n11 == 0) = false := (by simp; omega); replace HB := bel_then (bel_then HB hB11) (bel1 w11 (.cells #[.int .i64 0, .int .i64 0, .string ⟨#[]⟩, .slice none 0 0] 31)); clear KB)
    | (go_at_call 15; refine (c15b _ HB).mono ?_; rintro e w13 hrr; obtain ⟨hn13, rfl, hB13⟩ := valsR_err hD'.out hrr; clear hrr; have hn13' : (n != 0) = true := (by simp; omega); replace HB := bel_then HB hB13))
  go_ret
  exact ⟨by simp, HB⟩
set_option maxHeartbeats 4000000 in
set_option maxRecDepth 20000 in
theorem back_0011 (l : List V) (sl : Value) (v : V) (pv : Option Addr) (nv cv : Nat) (b : Value) (t : List UInt8) (w : World) (hl : Sl w 0 l sl) (hv : v.In w 0 (.slice pv nv cv)) (hb : Bs w b t) (kl : (keyL l).length ≤ 1073741824) (kv : v.pl.length ≤ 1073741824) (ht : t.length ≤ 1073741824) (hA : bads l ≠ 0) (hM : v.may 1 = false) (x : V) (hC : pRead t = .ok (x, [])) (m : List V) (hD : pValues t.length t = .ok m) :
    Calls Try.prog 6 #[sl, v.agg (.slice pv nv cv), b] w fun e w' => e = .returned (.bool true) ∧ Below w.heap.size w w' := by
  have c10 := fun w => begun10 w
  have c8 := fun w' (hB : Below w.heap.size w w') => key8 l sl w' (hl.on hB) (by omega)
  unfold KeyR at c8
  have hA0 : (bads l == 0) = false := by simp [hA]
  generalize (if bads l = 0 then keyL l else []) = K at *
  generalize bads l = AA at *
  have c30 := fun w' (hB : Below w.heap.size w w') => refCheck14 v (.slice pv nv cv) w' (hv.on hB)
  unfold V.err V.agg at c30
  rw [hM] at c30
  simp only [Bool.false_eq_true, if_false] at c30
  have c25 := fun w' (hB : Below w.heap.size w w') => parse25 w' b t (hb.on hB)
  have hC' := Lib.hid hC
  obtain ⟨hx1, hx2⟩ := chk_is hC
  have hxt := val_back 8 1 rfl t x [] hx1 hx2
  rw [List.append_nil] at hxt
  have c21x := fun w' s h => put21 x s w' h hx2 (.slice none 0 0) [] (bs_nil w') (by rw [← hxt]; simp; omega)
  unfold V.agg at c21x
  simp only [List.nil_append] at c21x
  rw [← hxt] at c21x
  clear hx1 hx2 hxt
  have c11 := fun w' b1 h1 (hB : Below w.heap.size w w') => equal11 w' b1 b t t h1 (hb.on hB)
  rw [same_bytes] at c11
  have c15b := fun w' (hB : Below w.heap.size w w') => values15 w' b t (hb.on hB) ht
  have hD' := Lib.hid hD
  obtain ⟨hm1, hm2⟩ := values_back hD
  have c8b := fun w' s h => key8 m s w' h (by rw [← hm1]; omega)
  unfold KeyR at c8b
  rw [bads_of hm2] at c8b
  simp only [if_true] at c8b
  rw [← hm1] at c8b
  clear hm1 hm2
  clear hA hM hC hD
  have HB := bel1 w (.cells #[.int .i64 v.k, .int .i64 v.n, .string v.s, .slice pv nv cv] 31)
  have KB := blk_new w (.cells #[.int .i64 v.k, .int .i64 v.n, .string v.s, .slice pv nv cv] 31)
  unfold V.agg
  have tkA : True := trivial
  have tkV : True := trivial
  have tkP : True := trivial
  have tkE : True := trivial
  obtain ⟨pl, capl, rfl, -⟩ := id hl
  obtain ⟨pb, capb, rfl, -, -⟩ := hb.slice
  go_enter Try.func6, Try.ntmps6
  go_wp2_with (first
    | (go_at_call 10; refine (c10 _).mono ?_; rintro e w1 ⟨rfl, hB1⟩; replace HB := bel_then HB hB1; replace KB := blk_on hB1 KB)
    | (go_at_call 8; clear tkA; refine (c8 _ HB).mono ?_; rintro e w2 ⟨b1, rfl, hb1, hB2⟩; replace HB := bel_then HB hB2; replace KB := blk_on hB2 KB; obtain ⟨x0, x1, x2, x3, xf⟩ := four_of KB)
    | (go_at_call 30; refine (c30 _ HB).mono ?_; rintro e w5 ⟨rfl, hB5⟩; replace HB := bel_then HB hB5; replace KB := blk_on hB5 KB; skip)
    | (go_at_call 25; refine (c25 _ HB).mono ?_; rintro e w11 hrr; obtain ⟨p11, n11, q11, rfl, hin11, hB11⟩ := parR_ok hC'.out hrr; clear hrr; have hbz := bel1 w11 (.cells #[.int .i64 x.k, .int .i64 x.n, .string x.s, .slice p11 n11 q11] 31); replace HB := bel_then (bel_then HB hB11) hbz; clear KB; obtain ⟨z0, z1, z2, z3, zf⟩ := four_of (blk_new w11 (.cells #[.int .i64 x.k, .int .i64 x.n, .string x.s, .slice p11 n11 q11] 31)); have hin12 := hin11.on hbz; clear hin11)
    | (go_at_call 21; refine (c21x _ _ hin12).mono ?_; rintro e w12 ⟨b12, rfl, hb12, hB12⟩; replace HB := bel_then HB hB12; clear hin12)
    | (go_at_call 11; clear tkE; refine (c11 _ _ hb12.bs HB).mono ?_; rintro e w' ⟨rfl, hw⟩; subst hw)
    | (go_at_call 15; refine (c15b _ HB).mono ?_; rintro e w13 hrr; obtain ⟨s13, rfl, hs13, hB13⟩ := valsR_ok hD'.out hrr; clear hrr; replace HB := bel_then HB hB13)
    | (go_at_call 8; refine (c8b _ _ hs13).mono ?_; rintro e w14 ⟨b14, rfl, hb14, hB14⟩; replace HB := bel_then HB hB14)
    | (go_at_call 11; refine (c11 _ _ hb14.bs HB).mono ?_; rintro e w' ⟨rfl, hw⟩; subst hw))
  go_ret
  exact ⟨by simp, HB⟩
set_option maxHeartbeats 4000000 in
set_option maxRecDepth 20000 in
theorem back_0010 (l : List V) (sl : Value) (v : V) (pv : Option Addr) (nv cv : Nat) (b : Value) (t : List UInt8) (w : World) (hl : Sl w 0 l sl) (hv : v.In w 0 (.slice pv nv cv)) (hb : Bs w b t) (kl : (keyL l).length ≤ 1073741824) (kv : v.pl.length ≤ 1073741824) (ht : t.length ≤ 1073741824) (hA : bads l ≠ 0) (hM : v.may 1 = false) (x : V) (hC : pRead t = .ok (x, [])) (n : Int) (hD : pValues t.length t = .error n) :
    Calls Try.prog 6 #[sl, v.agg (.slice pv nv cv), b] w fun e w' => e = .returned (.bool true) ∧ Below w.heap.size w w' := by
  have c10 := fun w => begun10 w
  have c8 := fun w' (hB : Below w.heap.size w w') => key8 l sl w' (hl.on hB) (by omega)
  unfold KeyR at c8
  have hA0 : (bads l == 0) = false := by simp [hA]
  generalize (if bads l = 0 then keyL l else []) = K at *
  generalize bads l = AA at *
  have c30 := fun w' (hB : Below w.heap.size w w') => refCheck14 v (.slice pv nv cv) w' (hv.on hB)
  unfold V.err V.agg at c30
  rw [hM] at c30
  simp only [Bool.false_eq_true, if_false] at c30
  have c25 := fun w' (hB : Below w.heap.size w w') => parse25 w' b t (hb.on hB)
  have hC' := Lib.hid hC
  obtain ⟨hx1, hx2⟩ := chk_is hC
  have hxt := val_back 8 1 rfl t x [] hx1 hx2
  rw [List.append_nil] at hxt
  have c21x := fun w' s h => put21 x s w' h hx2 (.slice none 0 0) [] (bs_nil w') (by rw [← hxt]; simp; omega)
  unfold V.agg at c21x
  simp only [List.nil_append] at c21x
  rw [← hxt] at c21x
  clear hx1 hx2 hxt
  have c11 := fun w' b1 h1 (hB : Below w.heap.size w w') => equal11 w' b1 b t t h1 (hb.on hB)
  rw [same_bytes] at c11
  have c15b := fun w' (hB : Below w.heap.size w w') => values15 w' b t (hb.on hB) ht
  have hD' := Lib.hid hD
  clear hA hM hC hD
  have HB := bel1 w (.cells #[.int .i64 v.k, .int .i64 v.n, .string v.s, .slice pv nv cv] 31)
  have KB := blk_new w (.cells #[.int .i64 v.k, .int .i64 v.n, .string v.s, .slice pv nv cv] 31)
  unfold V.agg
  have tkA : True := trivial
  have tkV : True := trivial
  have tkP : True := trivial
  have tkE : True := trivial
  obtain ⟨pl, capl, rfl, -⟩ := id hl
  obtain ⟨pb, capb, rfl, -, -⟩ := hb.slice
  go_enter Try.func6, Try.ntmps6
  go_wp2_with (first
    | (go_at_call 10; refine (c10 _).mono ?_; rintro e w1 ⟨rfl, hB1⟩; replace HB := bel_then HB hB1; replace KB := blk_on hB1 KB)
    | (go_at_call 8; clear tkA; refine (c8 _ HB).mono ?_; rintro e w2 ⟨b1, rfl, hb1, hB2⟩; replace HB := bel_then HB hB2; replace KB := blk_on hB2 KB; obtain ⟨x0, x1, x2, x3, xf⟩ := four_of KB)
    | (go_at_call 30; refine (c30 _ HB).mono ?_; rintro e w5 ⟨rfl, hB5⟩; replace HB := bel_then HB hB5; replace KB := blk_on hB5 KB; skip)
    | (go_at_call 25; refine (c25 _ HB).mono ?_; rintro e w11 hrr; obtain ⟨p11, n11, q11, rfl, hin11, hB11⟩ := parR_ok hC'.out hrr; clear hrr; have hbz := bel1 w11 (.cells #[.int .i64 x.k, .int .i64 x.n, .string x.s, .slice p11 n11 q11] 31); replace HB := bel_then (bel_then HB hB11) hbz; clear KB; obtain ⟨z0, z1, z2, z3, zf⟩ := four_of (blk_new w11 (.cells #[.int .i64 x.k, .int .i64 x.n, .string x.s, .slice p11 n11 q11] 31)); have hin12 := hin11.on hbz; clear hin11)
    | (go_at_call 21; refine (c21x _ _ hin12).mono ?_; rintro e w12 ⟨b12, rfl, hb12, hB12⟩; replace HB := bel_then HB hB12; clear hin12)
    | (go_at_call 11; refine (c11 _ _ hb12.bs HB).mono ?_; rintro e w' ⟨rfl, hw⟩; subst hw)
    | (go_at_call 15; refine (c15b _ HB).mono ?_; rintro e w13 hrr; obtain ⟨hn13, rfl, hB13⟩ := valsR_err hD'.out hrr; clear hrr; have hn13' : (n != 0) = true := (by simp; omega); replace HB := bel_then HB hB13))
  go_ret
  exact ⟨by simp, HB⟩
set_option maxHeartbeats 4000000 in
set_option maxRecDepth 20000 in
theorem back_0001 (l : List V) (sl : Value) (v : V) (pv : Option Addr) (nv cv : Nat) (b : Value) (t : List UInt8) (w : World) (hl : Sl w 0 l sl) (hv : v.In w 0 (.slice pv nv cv)) (hb : Bs w b t) (kl : (keyL l).length ≤ 1073741824) (kv : v.pl.length ≤ 1073741824) (ht : t.length ≤ 1073741824) (hA : bads l ≠ 0) (hM : v.may 1 = false) (hC : ∀ x, pRead t ≠ .ok (x, [])) (m : List V) (hD : pValues t.length t = .ok m) :
    Calls Try.prog 6 #[sl, v.agg (.slice pv nv cv), b] w fun e w' => e = .returned (.bool true) ∧ Below w.heap.size w w' := by
  have c10 := fun w => begun10 w
  have c8 := fun w' (hB : Below w.heap.size w w') => key8 l sl w' (hl.on hB) (by omega)
  unfold KeyR at c8
  have hA0 : (bads l == 0) = false := by simp [hA]
  generalize (if bads l = 0 then keyL l else []) = K at *
  generalize bads l = AA at *
  have c30 := fun w' (hB : Below w.heap.size w w') => refCheck14 v (.slice pv nv cv) w' (hv.on hB)
  unfold V.err V.agg at c30
  rw [hM] at c30
  simp only [Bool.false_eq_true, if_false] at c30
  have c25 := fun w' (hB : Below w.heap.size w w') => parse25 w' b t (hb.on hB)
  have hC' := Lib.hid hC
  have c11 := fun w' b1 h1 (hB : Below w.heap.size w w') => equal11 w' b1 b t t h1 (hb.on hB)
  rw [same_bytes] at c11
  have c15b := fun w' (hB : Below w.heap.size w w') => values15 w' b t (hb.on hB) ht
  have hD' := Lib.hid hD
  obtain ⟨hm1, hm2⟩ := values_back hD
  have c8b := fun w' s h => key8 m s w' h (by rw [← hm1]; omega)
  unfold KeyR at c8b
  rw [bads_of hm2] at c8b
  simp only [if_true] at c8b
  rw [← hm1] at c8b
  clear hm1 hm2
  clear hA hM hC hD
  have HB := bel1 w (.cells #[.int .i64 v.k, .int .i64 v.n, .string v.s, .slice pv nv cv] 31)
  have KB := blk_new w (.cells #[.int .i64 v.k, .int .i64 v.n, .string v.s, .slice pv nv cv] 31)
  unfold V.agg
  have tkA : True := trivial
  have tkV : True := trivial
  have tkP : True := trivial
  have tkE : True := trivial
  obtain ⟨pl, capl, rfl, -⟩ := id hl
  obtain ⟨pb, capb, rfl, -, -⟩ := hb.slice
  go_enter Try.func6, Try.ntmps6
  go_wp2_with (first
    | (go_at_call 10; refine (c10 _).mono ?_; rintro e w1 ⟨rfl, hB1⟩; replace HB := bel_then HB hB1; replace KB := blk_on hB1 KB)
    | (go_at_call 8; clear tkA; refine (c8 _ HB).mono ?_; rintro e w2 ⟨b1, rfl, hb1, hB2⟩; replace HB := bel_then HB hB2; replace KB := blk_on hB2 KB; obtain ⟨x0, x1, x2, x3, xf⟩ := four_of KB)
    | (go_at_call 30; refine (c30 _ HB).mono ?_; rintro e w5 ⟨rfl, hB5⟩; replace HB := bel_then HB hB5; replace KB := blk_on hB5 KB; skip)
    | (go_at_call 25; refine (c25 _ HB).mono ?_; rintro e w11 hrr; obtain ⟨n11, hn11, rfl, hB11⟩ := parR_no hC'.out hrr; clear hrr; have hn11' : (n11 == 0) = false := (by simp; omega); replace HB := bel_then (bel_then HB hB11) (bel1 w11 (.cells #[.int .i64 0, .int .i64 0, .string ⟨#[]⟩, .slice none 0 0] 31)); clear KB)
    | (go_at_call 15; refine (c15b _ HB).mono ?_; rintro e w13 hrr; obtain ⟨s13, rfl, hs13, hB13⟩ := valsR_ok hD'.out hrr; clear hrr; replace HB := bel_then HB hB13)
    | (go_at_call 8; refine (c8b _ _ hs13).mono ?_; rintro e w14 ⟨b14, rfl, hb14, hB14⟩; replace HB := bel_then HB hB14)
    | (go_at_call 11; refine (c11 _ _ hb14.bs HB).mono ?_; rintro e w' ⟨rfl, hw⟩; subst hw))
  go_ret
  exact ⟨by simp, HB⟩
set_option maxHeartbeats 4000000 in
set_option maxRecDepth 20000 in
theorem back_0000 (l : List V) (sl : Value) (v : V) (pv : Option Addr) (nv cv : Nat) (b : Value) (t : List UInt8) (w : World) (hl : Sl w 0 l sl) (hv : v.In w 0 (.slice pv nv cv)) (hb : Bs w b t) (kl : (keyL l).length ≤ 1073741824) (kv : v.pl.length ≤ 1073741824) (ht : t.length ≤ 1073741824) (hA : bads l ≠ 0) (hM : v.may 1 = false) (hC : ∀ x, pRead t ≠ .ok (x, [])) (n : Int) (hD : pValues t.length t = .error n) :
    Calls Try.prog 6 #[sl, v.agg (.slice pv nv cv), b] w fun e w' => e = .returned (.bool true) ∧ Below w.heap.size w w' := by
  have c10 := fun w => begun10 w
  have c8 := fun w' (hB : Below w.heap.size w w') => key8 l sl w' (hl.on hB) (by omega)
  unfold KeyR at c8
  have hA0 : (bads l == 0) = false := by simp [hA]
  generalize (if bads l = 0 then keyL l else []) = K at *
  generalize bads l = AA at *
  have c30 := fun w' (hB : Below w.heap.size w w') => refCheck14 v (.slice pv nv cv) w' (hv.on hB)
  unfold V.err V.agg at c30
  rw [hM] at c30
  simp only [Bool.false_eq_true, if_false] at c30
  have c25 := fun w' (hB : Below w.heap.size w w') => parse25 w' b t (hb.on hB)
  have hC' := Lib.hid hC
  have c15b := fun w' (hB : Below w.heap.size w w') => values15 w' b t (hb.on hB) ht
  have hD' := Lib.hid hD
  clear hA hM hC hD
  have HB := bel1 w (.cells #[.int .i64 v.k, .int .i64 v.n, .string v.s, .slice pv nv cv] 31)
  have KB := blk_new w (.cells #[.int .i64 v.k, .int .i64 v.n, .string v.s, .slice pv nv cv] 31)
  unfold V.agg
  have tkA : True := trivial
  have tkV : True := trivial
  have tkP : True := trivial
  have tkE : True := trivial
  obtain ⟨pl, capl, rfl, -⟩ := id hl
  obtain ⟨pb, capb, rfl, -, -⟩ := hb.slice
  go_enter Try.func6, Try.ntmps6
  go_wp2_with (first
    | (go_at_call 10; refine (c10 _).mono ?_; rintro e w1 ⟨rfl, hB1⟩; replace HB := bel_then HB hB1; replace KB := blk_on hB1 KB)
    | (go_at_call 8; clear tkA; refine (c8 _ HB).mono ?_; rintro e w2 ⟨b1, rfl, hb1, hB2⟩; replace HB := bel_then HB hB2; replace KB := blk_on hB2 KB; obtain ⟨x0, x1, x2, x3, xf⟩ := four_of KB)
    | (go_at_call 30; refine (c30 _ HB).mono ?_; rintro e w5 ⟨rfl, hB5⟩; replace HB := bel_then HB hB5; replace KB := blk_on hB5 KB; skip)
    | (go_at_call 25; refine (c25 _ HB).mono ?_; rintro e w11 hrr; obtain ⟨n11, hn11, rfl, hB11⟩ := parR_no hC'.out hrr; clear hrr; have hn11' : (n11 == 0) = false := (by simp; omega); replace HB := bel_then (bel_then HB hB11) (bel1 w11 (.cells #[.int .i64 0, .int .i64 0, .string ⟨#[]⟩, .slice none 0 0] 31)); clear KB)
    | (go_at_call 15; refine (c15b _ HB).mono ?_; rintro e w13 hrr; obtain ⟨hn13, rfl, hB13⟩ := valsR_err hD'.out hrr; clear hrr; have hn13' : (n != 0) = true := (by simp; omega); replace HB := bel_then HB hB13))
  go_ret
  exact ⟨by simp, HB⟩
theorem back6 (l : List V) (sl : Value) (v : V) (sv b : Value) (t : List UInt8) (w : World) (hl : Sl w 0 l sl) (hv : v.In w 0 sv) (hb : Bs w b t) (kl : (keyL l).length ≤ 1073741824) (kv : v.pl.length ≤ 1073741824) (ht : t.length ≤ 1073741824) :
    Calls Try.prog 6 #[sl, v.agg sv, b] w fun e w' => e = .returned (.bool true) ∧ Below w.heap.size w w' := by
  obtain ⟨pv, nv, cv, rfl⟩ := hv.header
  by_cases hA : bads l = 0 <;> cases hM : v.may 1 <;> (by_cases hC : ∃ x, pRead t = .ok (x, [])) <;> cases hD : pValues t.length t
  · obtain ⟨x, hC⟩ := hC; exact back_1010 l sl v pv nv cv b t w hl hv hb kl kv ht hA hM x hC _ hD
  · obtain ⟨x, hC⟩ := hC; exact back_1011 l sl v pv nv cv b t w hl hv hb kl kv ht hA hM x hC _ hD
  · exact back_1000 l sl v pv nv cv b t w hl hv hb kl kv ht hA hM (fun x h => hC ⟨x, h⟩) _ hD
  · exact back_1001 l sl v pv nv cv b t w hl hv hb kl kv ht hA hM (fun x h => hC ⟨x, h⟩) _ hD
  · obtain ⟨x, hC⟩ := hC; exact back_1110 l sl v pv nv cv b t w hl hv hb kl kv ht hA hM x hC _ hD
  · obtain ⟨x, hC⟩ := hC; exact back_1111 l sl v pv nv cv b t w hl hv hb kl kv ht hA hM x hC _ hD
  · exact back_1100 l sl v pv nv cv b t w hl hv hb kl kv ht hA hM (fun x h => hC ⟨x, h⟩) _ hD
  · exact back_1101 l sl v pv nv cv b t w hl hv hb kl kv ht hA hM (fun x h => hC ⟨x, h⟩) _ hD
  · obtain ⟨x, hC⟩ := hC; exact back_0010 l sl v pv nv cv b t w hl hv hb kl kv ht hA hM x hC _ hD
  · obtain ⟨x, hC⟩ := hC; exact back_0011 l sl v pv nv cv b t w hl hv hb kl kv ht hA hM x hC _ hD
  · exact back_0000 l sl v pv nv cv b t w hl hv hb kl kv ht hA hM (fun x h => hC ⟨x, h⟩) _ hD
  · exact back_0001 l sl v pv nv cv b t w hl hv hb kl kv ht hA hM (fun x h => hC ⟨x, h⟩) _ hD
  · obtain ⟨x, hC⟩ := hC; exact back_0110 l sl v pv nv cv b t w hl hv hb kl kv ht hA hM x hC _ hD
  · obtain ⟨x, hC⟩ := hC; exact back_0111 l sl v pv nv cv b t w hl hv hb kl kv ht hA hM x hC _ hD
  · exact back_0100 l sl v pv nv cv b t w hl hv hb kl kv ht hA hM (fun x h => hC ⟨x, h⟩) _ hD
  · exact back_0101 l sl v pv nv cv b t w hl hv hb kl kv ht hA hM (fun x h => hC ⟨x, h⟩) _ hD
end Go.Proofs.Ytekfbijkalamkaa
