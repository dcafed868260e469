/-
  What putPlain and Put of package codec do.
-/
import Derived.Test.YtbgikgeknnmelaaGreatPut
namespace Go.Proofs.YtbgikgeknnmelaaGreat
open Go.RowKit
set_option linter.unusedVariables false      -- a walk need not use every condition

theorem Bts.mono {w : World} {base base' : Nat} {v : Value} {t : List UInt8} (h : Bts w base v t) (hb : base' ≤ base) : Bts w base' v t := by
  unfold Bts at *
  refine ⟨h.1, ?_⟩
  rcases h.2 with h | ⟨g, cap, cur, h1, h2, h3⟩
  · exact .inl h
  · exact .inr ⟨g, cap, cur, h1, by omega, h3⟩
/-- A boxed value is no row of bytes. -/
theorem own_ne {w : World} {base : Nat} {v : Value} {t : List UInt8} (h : Bts w base v t) {g : Nat} {cs : Array Value} (hg : w.heap[g]? = some (.cells cs 29)) : some g ≠ v.ownBlock := by
  unfold Bts at h
  rcases h.2 with ⟨rfl, -⟩ | ⟨g', cap, cur, rfl, -, hg', -⟩
  · intro e; cases e
  · intro e
    simp only [Value.ownBlock, Option.some.injEq] at e
    subst e
    rw [hg] at hg'
    simp at hg'
/-- putPlain puts v's bytes behind, for a value of that world. -/
def PL (w0 : World) (v : V) : Prop := ∀ (w : World) (b : Value) (t0 : List UInt8) (sl : Value), v.In w0 0 sl → Below w0.heap.size w0 w → Bts w w0.heap.size b t0 → t0.length + v.pl.length ≤ 140737488355328 →
  Calls Tryz.prog 102 #[b, v.agg sl] w fun e w' => ∃ b', e = .returned b' ∧ Bts w' w0.heap.size b' (t0 ++ v.pl) ∧ Below w0.heap.size w0 w'

set_option maxHeartbeats 1000000 in
set_option maxRecDepth 20000 in
theorem pl_int40 (w0 : World) (n : Int) (s : ByteArray) (l : List V) : PL w0 (.mk 1 n s l) := by
  intro w b t0 sl hin hB hb ht
  obtain ⟨p1, n1, q1, rfl⟩ := hin.header
  have hn : I64 n := ((V.in_iff _ _ _ _).1 hin).2.1
  have e : (V.mk 1 n s l).pl = 1 :: enc (zigN n) := by simp [V.pl]
  rw [e] at ht ⊢
  rw [List.length_cons] at ht
  unfold V.agg
  simp only [V.k, V.n, V.s]
  have hn9 := hne9 hb
  have c57 := fun w => zig120 n hn w
  have c56 := fun w b t0 hB hb ht => putNumber119 (zigN n) (zigN_lt hn) w0 w b t0 hB hb ht
  generalize zigN n = u at *
  clear e
  go_enter Tryz.func102, Tryz.ntmps102
  go_wp2_with (first
    | (at_builtin; refine wpList_app_byts _ rfl _ _ rfl w0.heap.size _ t0 rfl (World.ownsRow.alloc (World.ownsRow.alloc hb _) _) ⟨w.heap.size + 1, 0, none⟩ 1 [1] rfl (by have := cells_new (w.alloc (.cells #[.int .i64 1, .int .i64 n, .string s, .slice p1 n1 q1] 29)) [.int .u8 1] 5; rw [World.size_alloc] at this; exact this) (by simp; omega) (by have := hB.size; simp; omega) ?_; intro v1 w1 hb1 hg1; have hB1 := below_app ((hB.alloc hB.size _).alloc (by have := hB.size; simp; omega) _) (World.ownsRow.alloc (World.ownsRow.alloc hb _) _) hg1; obtain ⟨x0, x1, x2, x3, xf⟩ := four_of ((hg1.block w.heap.size (by simp; omega) hn9).trans (blk_old (blk_new w _))); clear hg1 hb)
    | (go_at_call 120; refine (c57 _).mono ?_; rintro e w2 ⟨rfl, rfl⟩)
    | (go_at_call 119; refine (c56 _ _ _ hB1 hb1 (by simp; omega)).mono ?_; rintro e w3 ⟨b3, rfl, hb3, hB3, -⟩))
  go_ret
  exact ⟨b3, rfl, by simpa using hb3, hB3⟩
set_option maxHeartbeats 1000000 in
set_option maxRecDepth 20000 in
theorem pl_id40 (w0 : World) (k n : Int) (hk : k = 6 ∨ k = 7) (hn0 : 0 ≤ n) (s : ByteArray) (l : List V) : PL w0 (.mk k n s l) := by
  intro w b t0 sl hin hB hb ht
  obtain ⟨p1, n1, q1, rfl⟩ := hin.header
  have hn : I64 n := ((V.in_iff _ _ _ _).1 hin).2.1
  rw [pl_num hk] at ht ⊢
  rw [List.length_cons] at ht
  unfold V.agg
  simp only [V.k, V.n, V.s]
  have hn9 := hne9 hb
  have c56 := fun w b t0 hB hb ht => putNumber119 n.toNat (by unfold I64 at hn; omega) w0 w b t0 hB hb ht
  have hw : IntKind.u64.wrap n = ((n.toNat : Nat) : Int) := by rw [IntKind.wrap_u64]; unfold I64 at hn; omega
  obtain ⟨c, hc⟩ : ∃ c : UInt8, UInt8.ofNat k.toNat = c := ⟨_, rfl⟩
  have hck : k % 256 = (c.toNat : Int) := by rw [← hc]; rcases hk with rfl | rfl <;> rfl
  rw [hc]
  have k1 : (k == 1) = false := by simp; omega
  rcases hk with hk | hk
  · have k6 : (k == 6) = true := by simp [hk]
    clear hc hk
    generalize n.toNat = u at *
    go_enter Tryz.func102, Tryz.ntmps102
    go_wp2_with (first
      | (at_builtin; refine wpList_app_byts _ rfl _ _ rfl w0.heap.size _ t0 rfl (World.ownsRow.alloc (World.ownsRow.alloc hb _) _) ⟨w.heap.size + 1, 0, none⟩ 1 [c] rfl (by have := cells_new (w.alloc (.cells #[.int .i64 k, .int .i64 n, .string s, .slice p1 n1 q1] 29)) [.int .u8 c.toNat] 5; rw [World.size_alloc] at this; exact this) (by simp; omega) (by have := hB.size; simp; omega) ?_; intro v1 w1 hb1 hg1; have hB1 := below_app ((hB.alloc hB.size _).alloc (by have := hB.size; simp; omega) _) (World.ownsRow.alloc (World.ownsRow.alloc hb _) _) hg1; obtain ⟨x0, x1, x2, x3, xf⟩ := four_of ((hg1.block w.heap.size (by simp; omega) hn9).trans (blk_old (blk_new w _))); clear hg1 hb)
      | (go_at_call 119; refine (c56 _ _ _ hB1 hb1 (by simp; omega)).mono ?_; rintro e w3 ⟨b3, rfl, hb3, hB3, -⟩))
    go_ret
    exact ⟨b3, rfl, by simpa using hb3, hB3⟩
  · have k6 : (k == 6) = false := by simp [hk]
    have k7 : (k == 7) = true := by simp [hk]
    clear hc hk
    generalize n.toNat = u at *
    go_enter Tryz.func102, Tryz.ntmps102
    go_wp2_with (first
      | (at_builtin; refine wpList_app_byts _ rfl _ _ rfl w0.heap.size _ t0 rfl (World.ownsRow.alloc (World.ownsRow.alloc hb _) _) ⟨w.heap.size + 1, 0, none⟩ 1 [c] rfl (by have := cells_new (w.alloc (.cells #[.int .i64 k, .int .i64 n, .string s, .slice p1 n1 q1] 29)) [.int .u8 c.toNat] 5; rw [World.size_alloc] at this; exact this) (by simp; omega) (by have := hB.size; simp; omega) ?_; intro v1 w1 hb1 hg1; have hB1 := below_app ((hB.alloc hB.size _).alloc (by have := hB.size; simp; omega) _) (World.ownsRow.alloc (World.ownsRow.alloc hb _) _) hg1; obtain ⟨x0, x1, x2, x3, xf⟩ := four_of ((hg1.block w.heap.size (by simp; omega) hn9).trans (blk_old (blk_new w _))); clear hg1 hb)
      | (go_at_call 119; refine (c56 _ _ _ hB1 hb1 (by simp; omega)).mono ?_; rintro e w3 ⟨b3, rfl, hb3, hB3, -⟩))
    go_ret
    exact ⟨b3, rfl, by simpa using hb3, hB3⟩
set_option maxHeartbeats 1000000 in
set_option maxRecDepth 20000 in
theorem pl_bool40 (w0 : World) (n : Int) (hn : n = 0 ∨ n = 1) (s : ByteArray) (l : List V) : PL w0 (.mk 3 n s l) := by
  intro w b t0 sl hin hB hb ht
  obtain ⟨p1, n1, q1, rfl⟩ := hin.header
  have e : (V.mk 3 n s l).pl = [3, UInt8.ofNat n.toNat] := by simp [V.pl]
  rw [e] at ht ⊢
  simp only [List.length_cons, List.length_nil] at ht
  unfold V.agg
  simp only [V.k, V.n, V.s]
  have hn9 := hne9 hb
  obtain ⟨c, hc⟩ : ∃ c : UInt8, UInt8.ofNat n.toNat = c := ⟨_, rfl⟩
  have hcn : n % 256 = (c.toNat : Int) := by rw [← hc]; rcases hn with rfl | rfl <;> rfl
  rw [hc]
  clear hc hn e
  go_enter Tryz.func102, Tryz.ntmps102
  go_wp2_with (first
    | (at_builtin; refine wpList_app_byts _ rfl _ _ rfl w0.heap.size _ t0 rfl (World.ownsRow.alloc (World.ownsRow.alloc hb _) _) ⟨w.heap.size + 1, 0, none⟩ 1 [3] rfl (by have := cells_new (w.alloc (.cells #[.int .i64 3, .int .i64 n, .string s, .slice p1 n1 q1] 29)) [.int .u8 3] 5; rw [World.size_alloc] at this; exact this) (by simp; omega) (by have := hB.size; simp; omega) ?_; intro v1 w1 hb1 hg1; have hB1 := below_app ((hB.alloc hB.size _).alloc (by have := hB.size; simp; omega) _) (World.ownsRow.alloc (World.ownsRow.alloc hb _) _) hg1; obtain ⟨x0, x1, x2, x3, xf⟩ := four_of ((hg1.block w.heap.size (by simp; omega) hn9).trans (blk_old (blk_new w _))); clear hg1 hb)
    | (at_builtin; refine wpList_app_byts _ rfl _ _ rfl w0.heap.size _ _ rfl (World.ownsRow.alloc hb1 _) ⟨w1.heap.size, 0, none⟩ 1 [c] rfl (cells_new _ [.int .u8 c.toNat] _) (by simp; omega) (by have := hB1.size; simp; omega) ?_; intro v2 w2 hb2 hg2; have hB2 := bel_app hB1 hb1 hg2; clear hg2))
  go_ret
  exact ⟨v2, rfl, by simpa using hb2, hB2⟩
set_option maxHeartbeats 1000000 in
set_option maxRecDepth 20000 in
theorem pl_str40 (w0 : World) (n : Int) (s : ByteArray) (l : List V) : PL w0 (.mk 2 n s l) := by
  intro w b t0 sl hin hB hb ht
  obtain ⟨p1, n1, q1, rfl⟩ := hin.header
  have hs : s.size ≤ 140737488351232 := ((V.in_iff _ _ _ _).1 hin).2.2.1
  have e : (V.mk 2 n s l).pl = 2 :: (enc s.size ++ s.data.toList) := by simp [V.pl]
  rw [e] at ht ⊢
  have hsl : s.data.toList.length = s.size := Array.length_toList
  rw [List.length_cons, List.length_append, hsl] at ht
  unfold V.agg
  simp only [V.k, V.n, V.s]
  have hn9 := hne9 hb
  have c56 := fun w b t0 hB hb ht => putNumber119 s.size (by omega) w0 w b t0 hB hb ht
  have hw : IntKind.u64.wrap (s.size : Int) = (s.size : Int) := by rw [IntKind.wrap_u64]; omega
  have hEp := enc_pos s.size
  generalize enc s.size = E at *
  clear e
  go_enter Tryz.func102, Tryz.ntmps102
  go_wp2_with (first
    | (at_builtin; refine wpList_app_byts _ rfl _ _ rfl w0.heap.size _ t0 rfl (World.ownsRow.alloc (World.ownsRow.alloc hb _) _) ⟨w.heap.size + 1, 0, none⟩ 1 [2] rfl (by have := cells_new (w.alloc (.cells #[.int .i64 2, .int .i64 n, .string s, .slice p1 n1 q1] 29)) [.int .u8 2] 5; rw [World.size_alloc] at this; exact this) (by simp; omega) (by have := hB.size; simp; omega) ?_; intro v1 w1 hb1 hg1; have hB1 := below_app ((hB.alloc hB.size _).alloc (by have := hB.size; simp; omega) _) (World.ownsRow.alloc (World.ownsRow.alloc hb _) _) hg1; have hk1 := (hg1.block w.heap.size (by simp; omega) hn9).trans (blk_old (blk_new w _)); have hl1 := (Array.getElem?_eq_some_iff.1 hk1).1; obtain ⟨x0, x1, x2, x3, xf⟩ := four_of hk1; clear hg1 hb)
    | (go_at_call 119; refine (c56 _ _ _ hB1 hb1 (by simp; omega)).mono ?_; rintro e w3 ⟨b3, rfl, hb3, hB3, hg3⟩; obtain ⟨z0, z1, z2, z3, zf⟩ := four_of ((hg3.block w.heap.size hl1 (own_ne hb1 hk1)).trans hk1); clear hg3)
    | (at_builtin; refine wpList_app_str _ rfl _ _ rfl rfl w0.heap.size _ _ rfl hb3 s rfl (.inr (by simp; omega)) (by simp; omega) hB3.size ?_; intro v4 w4 hb4 hg4; have hB4 := below_app hB3 hb3 hg4; clear hg4))
  go_ret
  exact ⟨v4, rfl, by simpa using hb4, hB4⟩
theorem plL_drop {l : List V} {j : Nat} (hj : j < l.length) : plL (l.drop j) = l[j].pl ++ plL (l.drop (j + 1)) := by
  rw [List.drop_eq_getElem_cons hj]
  simp only [plL]
set_option maxHeartbeats 2000000 in
set_option maxRecDepth 20000 in
theorem pl_list40 (w0 : World) (k n : Int) (hk : k = 4 ∨ k = 5) (s : ByteArray) (l : List V) (ih : ∀ x ∈ l, PL w0 x) : PL w0 (.mk k n s l) := by
  intro w b t0 sl hin hB hb ht
  obtain ⟨b1, b2, b3, p, cap, rfl, hc, hcm, h56, hx⟩ := (V.in_iff _ _ _ _).1 hin
  simp only [V.l, V.k, V.n, V.s] at *
  rw [pl_list hk] at ht ⊢
  rw [List.length_cons, List.length_append] at ht
  unfold V.agg
  simp only [V.k, V.n, V.s]
  unfold maxLen at hcm
  have hn9 := hne9 hb
  have c56 := fun w b t0 hB hb ht => putNumber119 l.length (by omega) w0 w b t0 hB hb ht
  have hw : IntKind.u64.wrap (l.length : Int) = (l.length : Int) := by rw [IntKind.wrap_u64]; omega
  generalize enc l.length = E at *
  obtain ⟨c, hc8⟩ : ∃ c : UInt8, UInt8.ofNat k.toNat = c := ⟨_, rfl⟩
  have hck : k % 256 = (c.toNat : Int) := by rw [← hc8]; rcases hk with rfl | rfl <;> rfl
  rw [hc8]
  have k1 : (k == 1) = false := by simp; omega
  have k6 : (k == 6) = false := by simp; omega
  have k7 : (k == 7) = false := by simp; omega
  have k3 : (k == 3) = false := by simp; omega
  have k2 : (k == 2) = false := by simp; omega
  clear hc8 hk
  go_enter Tryz.func102, Tryz.ntmps102
  go_wp2_with (first
    | (at_builtin; refine wpList_app_byts _ rfl _ _ rfl w0.heap.size _ t0 rfl (World.ownsRow.alloc (World.ownsRow.alloc hb _) _) ⟨w.heap.size + 1, 0, none⟩ 1 [c] rfl (by have := cells_new (w.alloc (.cells #[.int .i64 k, .int .i64 n, .string s, .slice p l.length cap] 29)) [.int .u8 c.toNat] 5; rw [World.size_alloc] at this; exact this) (by simp; omega) (by have := hB.size; simp; omega) ?_; intro v1 w1 hb1 hg1; have hB1 := below_app ((hB.alloc hB.size _).alloc (by have := hB.size; simp; omega) _) (World.ownsRow.alloc (World.ownsRow.alloc hb _) _) hg1; have hk1 := (hg1.block w.heap.size (by simp; omega) hn9).trans (blk_old (blk_new w _)); have hl1 := (Array.getElem?_eq_some_iff.1 hk1).1; obtain ⟨x0, x1, x2, x3, xf⟩ := four_of hk1; clear hg1 hb)
    | (go_at_call 119; refine (c56 _ _ _ hB1 hb1 (by simp; omega)).mono ?_; rintro e w3 ⟨b3, rfl, hb3, hB3, hg3⟩; obtain ⟨z0, z1, z2, z3, zf⟩ := four_of ((hg3.block w.heap.size hl1 (own_ne hb1 hk1)).trans hk1); clear hg3))
  go_loopg [0, 59] l.length (fun c' v i wr => ∃ (j : Nat) (tc : List UInt8), c' + j = l.length ∧ i = .int .i64 j ∧ Hid (tc ++ plL (l.drop j) = t0 ++ [c] ++ E ++ plL l) ∧ Hid (Bts wr w0.heap.size v tc) ∧ Hid (Below w0.heap.size w0 wr))
  case atStart => exact ⟨0, t0 ++ [c] ++ E, rfl, rfl, (rfl : _ = _), hb3, hB3⟩
  case round =>
    clear hb3 hB3 hb1 hB1 x0 x1 x2 x3 z0 z1 z2 z3
    obtain ⟨j, tc, hj, rfl, htc, hbr, hBr⟩ := hrel
    by_cases hlt : j < l.length
    · obtain ⟨bx, ox, rfl, -, hx1⟩ := hx.resolve_left (by intro e; rw [e] at hlt; simp at hlt)
      obtain ⟨sk, y0', y1', y2', y3', hkin⟩ := hx1.at j hlt
      have hB' := hBr.out
      have y0 := some_on hB' y0'
      have y1 := some_on hB' y1'
      have y2 := some_on hB' y2'
      have y3 := some_on hB' y3'
      have cK := ih (l[j]'hlt) (List.getElem_mem hlt)
      have hd := plL_drop hlt
      obtain ⟨Rr, hRr⟩ : ∃ Rr, Hid (Rr = plL (l.drop (j + 1))) := ⟨plL (l.drop (j + 1)), (rfl : _ = _)⟩
      rw [← hRr.out] at hd
      generalize l[j] = x at *
      have htc' : Hid (tc ++ x.pl ++ Rr = t0 ++ [c] ++ E ++ plL l) := by show _ = _; rw [← htc.out, hd, List.append_assoc]
      have hL : tc.length + x.pl.length + Rr.length = t0.length + 1 + E.length + (plL l).length := by
        have := congrArg List.length htc'.out
        simp only [List.length_append, List.length_cons, List.length_nil] at this
        omega
      have cK' := fun w' hB hb => cK w' u0 tc sk hkin hB hb (by omega)
      unfold V.agg at cK'
      obtain ⟨pk, nk, ck, rfl⟩ := hkin.header
      clear hx hx1 ih cK y0' y1' y2' y3' hd htc
      go_wp2_with (go_at_call 102; refine (cK' _ (hB'.alloc hB'.size _) (World.ownsRow.alloc hbr.out _)).mono ?_; rintro e w4 ⟨b4, rfl, hb4, hB4⟩)
      have hb4' := Lib.hid hb4
      clear hb4
      go_roundg (gk - 1)
      case rel => exact ⟨j + 1, tc ++ x.pl, by omega, by go_num, by rw [← hRr.out]; exact htc', hb4', hB4⟩
      case measure => omega
    · obtain rfl : j = l.length := by omega
      have htc' : Hid (tc = t0 ++ [c] ++ E ++ plL l) := by
        have := htc.out
        rw [List.drop_length] at this
        show _ = _
        simpa [plL] using this
      clear ih hx htc
      go_wp2
      go_ret
      refine ⟨u0, rfl, ?_, hBr.out⟩
      have := hbr.out
      rw [htc'.out] at this
      simpa using this
/-- putPlain. -/
theorem pl_all (w0 : World) : ∀ (N : Nat) (v : V), SizeOf.sizeOf v < N → ∀ d : Int, v.may d = true → PL w0 v
  | 0, _, h => absurd h (Nat.not_lt_zero _)
  | N + 1, .mk k n s l, h => fun d hm => by
    have hm0 := hm
    simp only [V.may, Bool.and_eq_true] at hm
    have hb := hm.2
    by_cases h1 : k = 1
    · subst h1; exact pl_int40 w0 n s l
    · rw [if_neg h1] at hb
      by_cases h2 : k = 2
      · subst h2; exact pl_str40 w0 n s l
      · rw [if_neg h2] at hb
        by_cases h3 : k = 3
        · subst h3
          simp at hb
          exact pl_bool40 w0 n hb s l
        · rw [if_neg h3] at hb
          by_cases h6 : k = 6 ∨ k = 7
          · rw [if_pos h6] at hb
            simp at hb
            exact pl_id40 w0 k n h6 (by omega) s l
          · rw [if_neg h6] at hb
            by_cases h45 : k = 4 ∨ k = 5
            · have ha := may_list hm0 h45
              exact pl_list40 w0 k n h45 s l fun x hx => pl_all w0 N x (by
                have := List.sizeOf_lt_of_mem hx
                simp at h
                omega) (d + 1) (allMay_mem ha x hx)
            · rw [if_neg (by omega), if_neg (by omega)] at hb; cases hb
set_option maxHeartbeats 1000000 in
set_option maxRecDepth 20000 in
/-- Put, of a value that may be. -/
theorem put74 (v : V) (sl : Value) (w : World) (hin : v.In w 0 sl) (hm : v.may 1 = true) (b : Value) (t0 : List UInt8) (hb : Bs w b t0) (ht : t0.length + v.pl.length ≤ 140737488355328) :
    Calls Tryz.prog 74 #[b, v.agg sl] w fun e w' => ∃ b', e = .returned b' ∧ Bts w' w.heap.size b' (t0 ++ v.pl) ∧ Below w.heap.size w w' := by
  obtain ⟨p1, n1, q1, rfl⟩ := hin.header
  have c20 := fun u hb => clone101 u b t0 hb (by omega)
  have c31 := fun u h => check_any v (.slice p1 n1 q1) u h
  have c40 := pl_all w (SizeOf.sizeOf v + 1) v (Nat.lt_succ_self _) 1 hm
  unfold PL at c40
  unfold V.err at c31
  rw [hm] at c31
  simp only [if_true] at c31
  have hb' := hb.on (bel1 w (.cells #[.int .i64 v.k, .int .i64 v.n, .string v.s, .slice p1 n1 q1] 29))
  have hbel := bel1 w (.cells #[.int .i64 v.k, .int .i64 v.n, .string v.s, .slice p1 n1 q1] 29)
  have hnew := blk_new w (.cells #[.int .i64 v.k, .int .i64 v.n, .string v.s, .slice p1 n1 q1] 29)
  have hsz : (w.alloc (.cells #[.int .i64 v.k, .int .i64 v.n, .string v.s, .slice p1 n1 q1] 29)).heap.size = w.heap.size + 1 := by simp
  obtain ⟨W, hW⟩ : ∃ W, W = w.alloc (.cells #[.int .i64 v.k, .int .i64 v.n, .string v.s, .slice p1 n1 q1] 29) := ⟨_, rfl⟩
  rw [← hW] at hb' hbel hnew hsz
  have c20' := c20 W hb'
  unfold V.agg at c31 c40 ⊢
  clear hm c20 hb
  obtain ⟨pb, cb, rfl, hcb⟩ := hb'
  clear hcb
  go_enter Tryz.func74, Tryz.ntmps74
  go_wp2_with (first
    | (go_at_call 101; rw [← hW]; refine c20'.mono ?_; rintro e w1 ⟨b1, rfl, hb1, hB1⟩; have hk1 := blk_on hB1 hnew; obtain ⟨x0, x1, x2, x3, xf⟩ := four_of hk1; have hB1' := hbel.trans (hB1.mono (by omega)))
    | (go_at_call 57; refine (c31 _ (hin.on hB1')).mono ?_; rintro e w2 ⟨rfl, hB2⟩; obtain ⟨z0, z1, z2, z3, zf⟩ := four_of (blk_on hB2 hk1); have hB2' := hB1'.trans (hB2.mono hB1'.size); have hb2 : Bts w2 w.heap.size b1 t0 := Bts.mono (own_bel hb1 hB2) (by omega))
    | (go_at_call 102; refine (c40 _ _ _ _ hin hB2' hb2 ht).mono ?_; rintro e w3 ⟨b3, rfl, hb3, hB3⟩))
  go_ret
  exact ⟨b3, rfl, hb3, hB3⟩
end Go.Proofs.YtbgikgeknnmelaaGreat
