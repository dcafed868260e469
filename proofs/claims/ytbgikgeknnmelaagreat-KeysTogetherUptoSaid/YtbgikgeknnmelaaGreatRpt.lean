/-
  The document's put of values (rambleref03).
-/
import Derived.Test.YtbgikgeknnmelaaGreatRnu
import Derived.Test.YtbgikgeknnmelaaGreatRefL
import Derived.Deep.RegionWith
import Derived.Deep.RegionLaw
namespace Go.Proofs.YtbgikgeknnmelaaGreat
open Go.RowKit
set_option linter.unusedVariables false      -- a walk need not use every condition

theorem kt_1 {w w' : World} {o1 : Obj} {base : Nat} {v : Value} {t : List UInt8} (hb : Bts w base v t) (hg : (w.alloc o1).grownBy w' v.ownBlock) : KT w w' :=
  (kt_bel (bel1 w o1)).trans (kt_gr (base := base) (t := t) (World.ownsRow.alloc hb _) hg)
theorem kt_2 {w w' : World} {o1 o2 : Obj} {base : Nat} {v : Value} {t : List UInt8} (hb : Bts w base v t) (hg : ((w.alloc o1).alloc o2).grownBy w' v.ownBlock) : KT w w' :=
  (kt_bel (bel2 w o1 o2)).trans (kt_gr (base := base) (t := t) (World.ownsRow.alloc (World.ownsRow.alloc hb _) _) hg)
theorem kt_box {w w' : World} {cs : Array Value} {o2 : Obj} {base : Nat} {v : Value} {t : List UInt8} (hb : Bts w base v t) (hg : ((w.alloc (.cells cs 29)).alloc o2).grownBy w' v.ownBlock) : w'.heap[w.heap.size]? = some (.cells cs 29) :=
  kt_gr (base := base) (t := t) (World.ownsRow.alloc (World.ownsRow.alloc hb _) _) hg _ _ _ (by decide) (blk_old (blk_new w _))
theorem step_app_str (w : World) {ops : Array Oper} {o : Oper} {a : Act} {K : Act → World → Prop} {Q : Exit → Act → World → Prop} {E : Prop} (hgd : o.guard = none) (s x : Operand)
    (ho : o.op = .call { callee := .builtin .append, args := #[s, x], argTypes := #[36, 9] }) (hty : o.type = 36) (base : Nat) (v : Value) (t : List UInt8) (hs : a.eval s = v) (hb : Bts w base v t)
    (u : ByteArray) (hx : a.eval x = .string u) (hu : 0 < u.size ∨ 0 < t.length) (hlen : t.length + u.size ≤ 140737488355328) (hbase : base ≤ w.heap.size)
    (h : ∀ v' w', Bts w' base v' (t ++ u.data.toList) → w.grownBy w' v.ownBlock → K (a.put o.dst v') w') : if Region.wanted o (yielded ops a.tmps) = true then Oper.wp Tryz.prog o a w K Q else E := by
  have hw : Region.wanted o (yielded ops a.tmps) = true := by simp [Region.wanted, hgd]
  rw [if_pos hw]
  obtain ⟨v', w', hr, h2, h3⟩ := run_append_str w base v _ _ hb u hu hlen hbase
  unfold Oper.wp execOp
  simp only [ho, hty, resolve, invoke, builtin, Sem.run_bind, Sem.run_pure, Result.andThen_ok, List.map_toArray, List.map_cons, List.map_nil, hs, hx, hr]
  exact h _ _ (bts_app h2 (by rw [Array.length_toList]; rfl)) h3
/-- putPlain puts v's bytes behind, for a value of that world. -/
def RPL (w0 : World) (v : V) : Prop := ∀ (w : World) (b : Value) (t0 : List UInt8) (sl : Value), v.In w0 0 sl → Below w0.heap.size w0 w → Bts w w0.heap.size b t0 → t0.length + v.pl.length ≤ 140737488355328 →
  Calls Tryz.prog 80 #[b, v.agg sl] w fun e w' => ∃ b', e = .returned b' ∧ Bts w' w0.heap.size b' (t0 ++ v.pl) ∧ Below w0.heap.size w0 w' ∧ KT w w'

set_option maxHeartbeats 1000000 in
set_option maxRecDepth 20000 in
theorem rpl_int (w0 : World) (n : Int) (s : ByteArray) (l : List V) : RPL w0 (.mk 1 n s l) := by
  intro w b t0 sl hin hB hb ht
  obtain ⟨p1, n1, q1, rfl⟩ := hin.header
  have hn : I64 n := ((V.in_iff _ _ _ _).1 hin).2.1
  have e : (V.mk 1 n s l).pl = 1 :: enc (zigN n) := by simp [V.pl]
  rw [e] at ht ⊢
  rw [List.length_cons] at ht
  unfold V.agg
  simp only [V.k, V.n, V.s]
  have hn9 := hne9 hb
  have c57 := fun w => rzig105 n hn w
  have c56 := fun w b t0 hB hb ht => rnumber77 (zigN n) (zigN_lt hn) w0 w b t0 hB hb ht
  generalize zigN n = u at *
  clear e
  go_enter Tryz.func80, Tryz.ntmps80
  go_wp2_with (first
    | (at_builtin; refine wpList_app_byts _ rfl _ _ rfl w0.heap.size _ t0 rfl (World.ownsRow.alloc (World.ownsRow.alloc hb _) _) ⟨w.heap.size + 1, 0, none⟩ 1 [1] rfl (by have := cells_new (w.alloc (.cells #[.int .i64 1, .int .i64 n, .string s, .slice p1 n1 q1] 29)) [.int .u8 1] 5; rw [World.size_alloc] at this; exact this) (by simp; omega) (by have := hB.size; simp; omega) ?_; intro v1 w1 hb1 hg1; have hB1 := below_app ((hB.alloc hB.size _).alloc (by have := hB.size; simp; omega) _) (World.ownsRow.alloc (World.ownsRow.alloc hb _) _) hg1; have hK1 := Lib.hid (kt_2 hb hg1); have hk1 := Lib.hid (kt_box hb hg1); obtain ⟨x0, x1, x2, x3, xf⟩ := four_of hk1.out; clear hg1 hb)
    | (go_at_call 105; refine (c57 _).mono ?_; rintro e w2 ⟨rfl, rfl⟩)
    | (go_at_call 77; refine (c56 _ _ _ hB1 hb1 (by simp; omega)).mono ?_; rintro e w3 ⟨b3, rfl, hb3, hB3, hK3⟩))
  go_ret
  exact ⟨b3, rfl, by simpa using hb3, hB3, hK1.out.trans hK3⟩
set_option maxHeartbeats 1000000 in
set_option maxRecDepth 20000 in
theorem rpl_id (w0 : World) (k n : Int) (hk : k = 6 ∨ k = 7) (hn0 : 0 ≤ n) (s : ByteArray) (l : List V) : RPL w0 (.mk k n s l) := by
  intro w b t0 sl hin hB hb ht
  obtain ⟨p1, n1, q1, rfl⟩ := hin.header
  have hn : I64 n := ((V.in_iff _ _ _ _).1 hin).2.1
  rw [pl_num hk] at ht ⊢
  rw [List.length_cons] at ht
  unfold V.agg
  simp only [V.k, V.n, V.s]
  have hn9 := hne9 hb
  have c56 := fun w b t0 hB hb ht => rnumber77 n.toNat (by unfold I64 at hn; omega) w0 w b t0 hB hb ht
  have hw : IntKind.u64.wrap n = ((n.toNat : Nat) : Int) := by rw [IntKind.wrap_u64]; unfold I64 at hn; omega
  obtain ⟨c, hc⟩ : ∃ c : UInt8, UInt8.ofNat k.toNat = c := ⟨_, rfl⟩
  have hck : k % 256 = (c.toNat : Int) := by rw [← hc]; rcases hk with rfl | rfl <;> rfl
  rw [hc]
  have k1 : (k == 1) = false := by simp; omega
  rcases hk with hk | hk
  · have k6 : (k == 6) = true := by simp [hk]
    clear hc hk
    generalize n.toNat = u at *
    go_enter Tryz.func80, Tryz.ntmps80
    go_wp2_with (first
      | (at_builtin; refine wpList_app_byts _ rfl _ _ rfl w0.heap.size _ t0 rfl (World.ownsRow.alloc (World.ownsRow.alloc hb _) _) ⟨w.heap.size + 1, 0, none⟩ 1 [c] rfl (by have := cells_new (w.alloc (.cells #[.int .i64 k, .int .i64 n, .string s, .slice p1 n1 q1] 29)) [.int .u8 c.toNat] 5; rw [World.size_alloc] at this; exact this) (by simp; omega) (by have := hB.size; simp; omega) ?_; intro v1 w1 hb1 hg1; have hB1 := below_app ((hB.alloc hB.size _).alloc (by have := hB.size; simp; omega) _) (World.ownsRow.alloc (World.ownsRow.alloc hb _) _) hg1; have hK1 := Lib.hid (kt_2 hb hg1); have hk1 := Lib.hid (kt_box hb hg1); obtain ⟨x0, x1, x2, x3, xf⟩ := four_of hk1.out; clear hg1 hb)
      | (go_at_call 77; refine (c56 _ _ _ hB1 hb1 (by simp; omega)).mono ?_; rintro e w3 ⟨b3, rfl, hb3, hB3, hK3⟩))
    go_ret
    exact ⟨b3, rfl, by simpa using hb3, hB3, hK1.out.trans hK3⟩
  · have k6 : (k == 6) = false := by simp [hk]
    have k7 : (k == 7) = true := by simp [hk]
    clear hc hk
    generalize n.toNat = u at *
    go_enter Tryz.func80, Tryz.ntmps80
    go_wp2_with (first
      | (at_builtin; refine wpList_app_byts _ rfl _ _ rfl w0.heap.size _ t0 rfl (World.ownsRow.alloc (World.ownsRow.alloc hb _) _) ⟨w.heap.size + 1, 0, none⟩ 1 [c] rfl (by have := cells_new (w.alloc (.cells #[.int .i64 k, .int .i64 n, .string s, .slice p1 n1 q1] 29)) [.int .u8 c.toNat] 5; rw [World.size_alloc] at this; exact this) (by simp; omega) (by have := hB.size; simp; omega) ?_; intro v1 w1 hb1 hg1; have hB1 := below_app ((hB.alloc hB.size _).alloc (by have := hB.size; simp; omega) _) (World.ownsRow.alloc (World.ownsRow.alloc hb _) _) hg1; have hK1 := Lib.hid (kt_2 hb hg1); have hk1 := Lib.hid (kt_box hb hg1); obtain ⟨x0, x1, x2, x3, xf⟩ := four_of hk1.out; clear hg1 hb)
      | (go_at_call 77; refine (c56 _ _ _ hB1 hb1 (by simp; omega)).mono ?_; rintro e w3 ⟨b3, rfl, hb3, hB3, hK3⟩))
    go_ret
    exact ⟨b3, rfl, by simpa using hb3, hB3, hK1.out.trans hK3⟩
set_option maxHeartbeats 1000000 in
set_option maxRecDepth 20000 in
theorem rpl_bool (w0 : World) (n : Int) (hn : n = 0 ∨ n = 1) (s : ByteArray) (l : List V) : RPL w0 (.mk 3 n s l) := by
  intro w b t0 sl hin hB hb ht
  obtain ⟨p1, n1, q1, rfl⟩ := hin.header
  have e : (V.mk 3 n s l).pl = [3, UInt8.ofNat n.toNat] := by simp [V.pl]
  rw [e] at ht ⊢
  simp only [List.length_cons, List.length_nil] at ht
  unfold V.agg
  simp only [V.k, V.n, V.s]
  have hn9 := hne9 hb
  obtain ⟨c, hc⟩ : ∃ c : UInt8, UInt8.ofNat n.toNat = c := ⟨_, rfl⟩
  have hcn : n % 256 = (c.toNat : Int) := by rw [← hc]; rcases hn with rfl | rfl <;> rfl
  rw [hc]
  clear hc hn e
  go_enter Tryz.func80, Tryz.ntmps80
  go_wp2_with (first
    | (at_builtin; refine wpList_app_byts _ rfl _ _ rfl w0.heap.size _ t0 rfl (World.ownsRow.alloc (World.ownsRow.alloc hb _) _) ⟨w.heap.size + 1, 0, none⟩ 1 [3] rfl (by have := cells_new (w.alloc (.cells #[.int .i64 3, .int .i64 n, .string s, .slice p1 n1 q1] 29)) [.int .u8 3] 5; rw [World.size_alloc] at this; exact this) (by simp; omega) (by have := hB.size; simp; omega) ?_; intro v1 w1 hb1 hg1; have hB1 := below_app ((hB.alloc hB.size _).alloc (by have := hB.size; simp; omega) _) (World.ownsRow.alloc (World.ownsRow.alloc hb _) _) hg1; have hK1 := Lib.hid (kt_2 hb hg1); have hk1 := Lib.hid (kt_box hb hg1); obtain ⟨x0, x1, x2, x3, xf⟩ := four_of hk1.out; clear hg1 hb)
    | (at_builtin; refine wpList_app_byts _ rfl _ _ rfl w0.heap.size _ _ rfl (World.ownsRow.alloc hb1 _) ⟨w1.heap.size, 0, none⟩ 1 [c] rfl (cells_new _ [.int .u8 c.toNat] _) (by simp; omega) (by have := hB1.size; simp; omega) ?_; intro v2 w2 hb2 hg2; have hB2 := bel_app hB1 hb1 hg2; have hK2 := Lib.hid (hK1.out.trans (kt_1 hb1 hg2)); clear hg2))
  go_ret
  exact ⟨v2, rfl, by simpa using hb2, hB2, hK2.out⟩
set_option maxHeartbeats 1000000 in
set_option maxRecDepth 20000 in
theorem rpl_str (w0 : World) (n : Int) (s : ByteArray) (l : List V) : RPL w0 (.mk 2 n s l) := by
  intro w b t0 sl hin hB hb ht
  obtain ⟨p1, n1, q1, rfl⟩ := hin.header
  have hs : s.size ≤ 140737488351232 := ((V.in_iff _ _ _ _).1 hin).2.2.1
  have e : (V.mk 2 n s l).pl = 2 :: (enc s.size ++ s.data.toList) := by simp [V.pl]
  rw [e] at ht ⊢
  have hsl : s.data.toList.length = s.size := Array.length_toList
  rw [List.length_cons, List.length_append, hsl] at ht
  unfold V.agg
  simp only [V.k, V.n, V.s]
  have hn9 := hne9 hb
  have c56 := fun w b t0 hB hb ht => rnumber77 s.size (by omega) w0 w b t0 hB hb ht
  have hw : IntKind.u64.wrap (s.size : Int) = (s.size : Int) := by rw [IntKind.wrap_u64]; omega
  have hEp := enc_pos s.size
  generalize enc s.size = E at *
  clear e
  go_enter Tryz.func80, Tryz.ntmps80
  go_wp2_with (first
    | (at_builtin; refine wpList_app_byts _ rfl _ _ rfl w0.heap.size _ t0 rfl (World.ownsRow.alloc (World.ownsRow.alloc hb _) _) ⟨w.heap.size + 1, 0, none⟩ 1 [2] rfl (by have := cells_new (w.alloc (.cells #[.int .i64 2, .int .i64 n, .string s, .slice p1 n1 q1] 29)) [.int .u8 2] 5; rw [World.size_alloc] at this; exact this) (by simp; omega) (by have := hB.size; simp; omega) ?_; intro v1 w1 hb1 hg1; have hB1 := below_app ((hB.alloc hB.size _).alloc (by have := hB.size; simp; omega) _) (World.ownsRow.alloc (World.ownsRow.alloc hb _) _) hg1; have hK1 := Lib.hid (kt_2 hb hg1); have hk1 := Lib.hid (kt_box hb hg1); obtain ⟨x0, x1, x2, x3, xf⟩ := four_of hk1.out; clear hg1 hb))
  go_region_law (first
    | (refine step_app_str _ (by rfl) (.tmp 44) (.tmp 46) (by rfl) (by rfl) w0.heap.size b3 (t0 ++ [2] ++ E) (by rfl) hb3 s (by rfl) (.inr (by simp; omega)) (by simp; omega) hB3.size ?_; intro v4 w4 hb4 hg4; have hB4 := below_app hB3 hb3 hg4; have hK5 := Lib.hid (hK4.out.trans (kt_gr hb3 hg4)); clear hg4)
    | (go_simp; go_at_call 77; go_loud (refine (c56 _ _ _ hB1.drew (by exact hb1) (by simp; omega)).mono ?_); rintro e w3 ⟨b3, rfl, hb3, hB3, hK3⟩; have hK3 : KT w1 w3 := hK3; have hK4 := Lib.hid (hK1.out.trans hK3); have hk3 := Lib.hid (hK3 _ _ _ (by decide) hk1.out); obtain ⟨z0, z1, z2, z3, zf⟩ := four_of hk3.out; clear hK3))
  all_goals go_wp2
  all_goals go_ret
  all_goals exact ⟨v4, rfl, by simpa using hb4, hB4, hK5.out⟩
set_option maxHeartbeats 2000000 in
set_option maxRecDepth 20000 in
theorem rpl_list (w0 : World) (k n : Int) (hk : k = 4 ∨ k = 5) (s : ByteArray) (l : List V) (ih : ∀ x ∈ l, RPL w0 x) : RPL w0 (.mk k n s l) := by
  intro w b t0 sl hin hB hb ht
  obtain ⟨b1, b2, b3, p, cap, rfl, hc, hcm, h56, hx⟩ := (V.in_iff _ _ _ _).1 hin
  simp only [V.l, V.k, V.n, V.s] at *
  rw [pl_list hk] at ht ⊢
  rw [List.length_cons, List.length_append] at ht
  unfold V.agg
  simp only [V.k, V.n, V.s]
  unfold maxLen at hcm
  have hn9 := hne9 hb
  have c56 := fun w b t0 hB hb ht => rnumber77 l.length (by omega) w0 w b t0 hB hb ht
  have hw : IntKind.u64.wrap (l.length : Int) = (l.length : Int) := by rw [IntKind.wrap_u64]; omega
  generalize enc l.length = E at *
  obtain ⟨c, hc8⟩ : ∃ c : UInt8, UInt8.ofNat k.toNat = c := ⟨_, rfl⟩
  have hck : k % 256 = (c.toNat : Int) := by rw [← hc8]; rcases hk with rfl | rfl <;> rfl
  rw [hc8]
  have k1 : (k == 1) = false := by simp; omega
  have k6 : (k == 6) = false := by simp; omega
  have k7 : (k == 7) = false := by simp; omega
  have k3 : (k == 3) = false := by simp; omega
  have k2 : (k == 2) = false := by simp; omega
  clear hc8 hk
  go_enter Tryz.func80, Tryz.ntmps80
  go_wp2_with (first
    | (at_builtin; refine wpList_app_byts _ rfl _ _ rfl w0.heap.size _ t0 rfl (World.ownsRow.alloc (World.ownsRow.alloc hb _) _) ⟨w.heap.size + 1, 0, none⟩ 1 [c] rfl (by have := cells_new (w.alloc (.cells #[.int .i64 k, .int .i64 n, .string s, .slice p l.length cap] 29)) [.int .u8 c.toNat] 5; rw [World.size_alloc] at this; exact this) (by simp; omega) (by have := hB.size; simp; omega) ?_; intro v1 w1 hb1 hg1; have hB1 := below_app ((hB.alloc hB.size _).alloc (by have := hB.size; simp; omega) _) (World.ownsRow.alloc (World.ownsRow.alloc hb _) _) hg1; have hK1 := Lib.hid (kt_2 hb hg1); have hk1 := Lib.hid (kt_box hb hg1); obtain ⟨x0, x1, x2, x3, xf⟩ := four_of hk1.out; clear hg1 hb)
    | (go_at_call 77; refine (c56 _ _ _ hB1 hb1 (by simp; omega)).mono ?_; rintro e w3 ⟨b3, rfl, hb3, hB3, hK3⟩; have hK4 := Lib.hid (hK1.out.trans hK3); have hk3 := Lib.hid (hK3 _ _ _ (by decide) hk1.out); obtain ⟨z0, z1, z2, z3, zf⟩ := four_of hk3.out; clear hK3))
  go_loopg [0, 5] l.length (fun c' v i wr => ∃ (j : Nat) (tc : List UInt8), c' + j = l.length ∧ i = .int .i64 j ∧ Hid (tc ++ plL (l.drop j) = t0 ++ [c] ++ E ++ plL l) ∧ Hid (Bts wr w0.heap.size v tc) ∧ Hid (KT w wr) ∧ Hid (wr.heap[w.heap.size]? = some (.cells #[.int .i64 k, .int .i64 n, .string s, .slice p l.length cap] 29)) ∧ Hid (Below w0.heap.size w0 wr))
  case atStart => exact ⟨0, t0 ++ [c] ++ E, rfl, rfl, (rfl : _ = _), hb3, hK4.out, hk3.out, hB3⟩
  case round =>
    clear hb3 hB3 hb1 hB1 x0 x1 x2 x3 xf z0 z1 z2 z3 zf hK1 hK4 hk1 hk3
    obtain ⟨j, tc, hj, rfl, htc, hbr, hKr, hkr, hBr⟩ := hrel
    by_cases hlt : j < l.length
    · obtain ⟨bx, ox, rfl, -, hx1⟩ := hx.resolve_left (by intro e; rw [e] at hlt; simp at hlt)
      obtain ⟨sk, y0', y1', y2', y3', hkin⟩ := hx1.at j hlt
      have hB' := hBr.out
      obtain ⟨z0, z1, z2, z3, zf⟩ := four_of hkr.out
      have y0 := some_on hB' y0'
      have y1 := some_on hB' y1'
      have y2 := some_on hB' y2'
      have y3 := some_on hB' y3'
      have cK := ih (l[j]'hlt) (List.getElem_mem hlt)
      have hd := plL_drop hlt
      obtain ⟨Rr, hRr⟩ : ∃ Rr, Hid (Rr = plL (l.drop (j + 1))) := ⟨plL (l.drop (j + 1)), (rfl : _ = _)⟩
      rw [← hRr.out] at hd
      generalize l[j] = x at *
      have htc' : Hid (tc ++ x.pl ++ Rr = t0 ++ [c] ++ E ++ plL l) := by show _ = _; rw [← htc.out, hd, List.append_assoc]
      have hL : tc.length + x.pl.length + Rr.length = t0.length + 1 + E.length + (plL l).length := by
        have := congrArg List.length htc'.out
        simp only [List.length_append, List.length_cons, List.length_nil] at this
        omega
      have cK' := fun w' hB hb => cK w' u0 tc sk hkin hB hb (by omega)
      unfold V.agg at cK'
      obtain ⟨pk, nk, ck, rfl⟩ := hkin.header
      clear hx hx1 ih cK y0' y1' y2' y3' hd htc
      go_wp2_with (go_at_call 80; refine (cK' _ hB' hbr.out).mono ?_; rintro e w4 ⟨b4, rfl, hb4, hB4, hK4⟩)
      have hb4' := Lib.hid hb4
      have hK5 := Lib.hid (hKr.out.trans hK4)
      have hk4 := Lib.hid (hK4 _ _ _ (by decide) hkr.out)
      clear hb4
      go_roundg (gk - 1)
      case rel => exact ⟨j + 1, tc ++ x.pl, by omega, by go_num, by rw [← hRr.out]; exact htc', hb4', hK5, hk4, hB4⟩
      case measure => omega
    · obtain rfl : j = l.length := by omega
      obtain ⟨z0, z1, z2, z3, zf⟩ := four_of hkr.out
      have htc' : Hid (tc = t0 ++ [c] ++ E ++ plL l) := by
        have := htc.out
        rw [List.drop_length] at this
        show _ = _
        simpa [plL] using this
      clear ih hx htc
      go_wp2
      go_ret
      refine ⟨u0, rfl, ?_, hBr.out, hKr.out⟩
      have := hbr.out
      rw [htc'.out] at this
      simpa using this
/-- putPlain. -/
theorem rpl_all (w0 : World) : ∀ (N : Nat) (v : V), SizeOf.sizeOf v < N → ∀ d : Int, v.may d = true → RPL w0 v
  | 0, _, h => absurd h (Nat.not_lt_zero _)
  | N + 1, .mk k n s l, h => fun d hm => by
    have hm0 := hm
    simp only [V.may, Bool.and_eq_true] at hm
    have hb := hm.2
    by_cases h1 : k = 1
    · subst h1; exact rpl_int w0 n s l
    · rw [if_neg h1] at hb
      by_cases h2 : k = 2
      · subst h2; exact rpl_str w0 n s l
      · rw [if_neg h2] at hb
        by_cases h3 : k = 3
        · subst h3
          simp at hb
          exact rpl_bool w0 n hb s l
        · rw [if_neg h3] at hb
          by_cases h6 : k = 6 ∨ k = 7
          · rw [if_pos h6] at hb
            simp at hb
            exact rpl_id w0 k n h6 (by omega) s l
          · rw [if_neg h6] at hb
            by_cases h45 : k = 4 ∨ k = 5
            · have ha := may_list hm0 h45
              exact rpl_list w0 k n h45 s l fun x hx => rpl_all w0 N x (by
                have := List.sizeOf_lt_of_mem hx
                simp at h
                omega) (d + 1) (allMay_mem ha x hx)
            · rw [if_neg (by omega), if_neg (by omega)] at hb; cases hb
set_option maxHeartbeats 1000000 in
set_option maxRecDepth 20000 in
/-- The document's Put, behind nothing. -/
theorem rput56 (v : V) (sl : Value) (w : World) (hin : v.In w 0 sl) (hm : v.many ≤ 1048576) : Calls Tryz.prog 56 #[.slice none 0 0, v.agg sl] w (AppR w (plq v)) := by
  obtain ⟨p1, n1, q1, rfl⟩ := hin.header
  have hbel := bel1 w (.cells #[.int .i64 v.k, .int .i64 v.n, .string v.s, .slice p1 n1 q1] 29)
  have hin1 := hin.on hbel
  have hnew := blk_new w (.cells #[.int .i64 v.k, .int .i64 v.n, .string v.s, .slice p1 n1 q1] 29)
  have c58 := fun u h => refCheck14 v (.slice p1 n1 q1) u h
  unfold V.err at c58
  cases hb : v.may 1 with
  | false =>
    have e0 : plq v = [] := by unfold plq; rw [hb]; rfl
    rw [e0]
    rw [hb] at c58
    simp only [Bool.false_eq_true, if_false] at c58
    unfold V.agg at c58 ⊢
    go_enter Tryz.func56, Tryz.ntmps56
    go_wp2_with (go_at_call 58; refine (c58 _ hin1).mono ?_; rintro e w2 ⟨rfl, hB2⟩)
    go_ret
    exact ⟨_, rfl, World.ownsRow_nil _ _ _ _, bel_then hbel hB2⟩
  | true =>
    have e0 : plq v = v.pl := by unfold plq; rw [if_pos hb]
    rw [e0]
    have hp := pl_len v
    have c80 := rpl_all w (SizeOf.sizeOf v + 1) v (Nat.lt_succ_self _) 1 hb
    unfold RPL at c80
    rw [hb] at c58
    simp only [if_true] at c58
    unfold V.agg at c58 c80 ⊢
    go_enter Tryz.func56, Tryz.ntmps56
    go_wp2_with (go_at_call 58; refine (c58 _ hin1).mono ?_; rintro e w2 ⟨rfl, hB2⟩; have hB3 := bel_then hbel hB2; obtain ⟨x0, x1, x2, x3, xf⟩ := four_of (blk_on hB2 hnew); have hO : Bts w2 w.heap.size (.slice none 0 0) [] := World.ownsRow_nil _ _ _ _)
    go_region_with (first
      | (go_at_call 80; refine (c80 _ _ [] _ hin hB3.drew (World.ownsRow_nil _ _ _ _) (by simp; omega)).mono ?_; rintro e w5 ⟨b5, rfl, hb5, hB5, -⟩))
    all_goals go_wp2
    all_goals go_ret
    all_goals exact ⟨b5, rfl, by simpa using hb5, hB5⟩
end Go.Proofs.YtbgikgeknnmelaaGreat
