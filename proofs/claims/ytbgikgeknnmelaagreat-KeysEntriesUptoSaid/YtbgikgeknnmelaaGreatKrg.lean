/-
  The reader of package keys: form, nameForm, number, id, whole, check, where all goes well.
-/
import Derived.Test.YtbgikgeknnmelaaGreatKrf
namespace Go.Proofs.YtbgikgeknnmelaaGreat
open Go.RowKit
set_option linter.unusedVariables false      -- a walk need not use every condition

theorem V.In.any {w w' : World} {lo lo' : Nat} {v : V} {sl : Value} (h : v.In w lo sl) (hl : v.l = []) : v.In w' lo' sl := by
  rw [V.in_iff] at h ⊢
  obtain ⟨a, b, c, p, cap, e, hc, hm, h56, -⟩ := h
  exact ⟨a, b, c, p, cap, e, hc, hm, h56, .inl hl⟩
set_option maxHeartbeats 2000000 in
set_option maxRecDepth 20000 in
theorem form66k (w : World) (E : Nat) (kt r vt : List UInt8) (h : ER w E kt vt) (v : V) (hvl : v.l = []) (hp : pTake kt = .ok (v, r)) (hr : kt.drop (kt.length - r.length) = r) (hl : r.length ≤ kt.length) (hs : kt.length ≤ 140737488351232) :
    Calls Tryz.prog 66 #[.pointer (some ⟨E, 0, none⟩), .int .i64 v.k] w fun e w' => ∃ sl, e = .returned (v.agg sl) ∧ v.In w' 0 sl ∧ EQ E r vt w w' := by
  have hE := h.lt
  have hb0 := bel1 w (.cells #[.int .i64 0, .int .i64 0, .string ⟨#[]⟩, .slice none 0 0] 29)
  have k0 := blk_new w (.cells #[.int .i64 0, .int .i64 0, .string ⟨#[]⟩, .slice none 0 0] 29)
  have h0 := h.on hb0
  have h00 := h0
  obtain ⟨p, c, q, d, h1, h2, h3, h4, h5⟩ := h0
  obtain ⟨x0, x1, x2, x3, xf⟩ := four_of h1
  have c90 := take90 _ _ kt h4.1 hs
  rw [hp] at c90
  have c89 := fun W' (hb : Below (w.alloc (.cells #[.int .i64 0, .int .i64 0, .string ⟨#[]⟩, .slice none 0 0] 29)).heap.size (w.alloc (.cells #[.int .i64 0, .int .i64 0, .string ⟨#[]⟩, .slice none 0 0] 29)) W') p1 n1 q1 => found89k W' E kt vt (h00.on hb) v.k v.n v.s p1 n1 q1 (kt.length - r.length) (by omega)
  rw [hr] at c89
  have hc : ((kt.length - r.length : Nat) : Int) = (kt.length : Int) - (r.length : Int) := by omega
  rw [hc] at c89
  unfold V.agg
  clear hc hr hp h1 h2 h3 h5
  go_enter Tryz.func66, Tryz.ntmps66
  go_wp2_with (fail)
  refine c90.mono ?_
  rintro e w1 (⟨v', q', sl, e1, rfl, hin, hB1⟩ | ⟨n, e1, -⟩)
  rotate_left
  · cases e1
  obtain ⟨rfl, rfl⟩ : v = v' ∧ r = q' := by
    have e2 := Except.ok.inj e1
    exact ⟨congrArg Prod.fst e2, congrArg Prod.snd e2⟩
  obtain ⟨p1, n1, q1, rfl⟩ := hin.header
  have k1 := blk_on hB1 k0
  unfold V.agg
  go_wp2_with (fail)
  refine (c89 w1 hB1 p1 n1 q1).mono ?_
  rintro e w2 ⟨rfl, hq⟩
  have hEw : E < w1.heap.size := by have := (bel_then hb0 hB1).size; omega
  have k2 := hq.blk k1 (by omega)
  have hin2 := fun u : World => hin.any (w' := u) (lo' := 0) hvl
  have q2 : EQ E r vt w w2 := EQ.lowb (bel_then hb0 hB1) hq
  have kz := blk_old (o' := .cells #[.int .i64 v.k, .int .i64 v.n, .string v.s, .slice p1 n1 q1] 29) k2
  have kn := blk_new w2 (.cells #[.int .i64 v.k, .int .i64 v.n, .string v.s, .slice p1 n1 q1] 29)
  obtain ⟨y0, y1, y2, y3, yf⟩ := four_of kz
  obtain ⟨z0, z1, z2, z3, zf⟩ := four_of kn
  have q3 := q2.bel (bel1 w2 (.cells #[.int .i64 v.k, .int .i64 v.n, .string v.s, .slice p1 n1 q1] 29))
  have hfin := q3.far (gr_put4 _ w.heap.size 0 (.int .i64 v.k) (.int .i64 v.n) (.string v.s) (.slice p1 n1 q1)) hE (fun j hj => by injection hj with hj; omega)
  clear hq q2 q3 k0 k1 k2 kz kn c89 c90 hB1
  go_wp2
  unfold put4 at hfin
  simp [bodyPost, results, Tryz.results66, go_sem, y0, y1, y2, y3]
  exact ⟨hin2 _, hfin⟩
set_option maxHeartbeats 2000000 in
set_option maxRecDepth 20000 in
theorem nameForm96k (w : World) (E : Nat) (kt r vt : List UInt8) (h : ER w E kt vt) (s : ByteArray) (hnm : nm s.data.toList = true) (hp : pTake kt = .ok (strV s, r)) (hr : kt.drop (kt.length - r.length) = r) (hl : r.length ≤ kt.length) (hs : kt.length ≤ 140737488351232) :
    Calls Tryz.prog 96 #[.pointer (some ⟨E, 0, none⟩)] w fun e w' => e = .returned (.tuple #[]) ∧ EQ E r vt w w' := by
  have c66 := form66k w E kt r vt h (strV s) rfl hp hr hl hs
  have c93 := fun w => name38 s w
  rw [hnm] at c93
  unfold V.agg at c66
  simp only [strV, V.k, V.n, V.s] at c66
  clear hnm hp hr hl hs
  go_enter Tryz.func96, Tryz.ntmps96
  go_wp2_with (fail)
  refine c66.mono ?_
  rintro e w1 ⟨sl, rfl, hin, hq⟩
  obtain ⟨p1, n1, q1, rfl⟩ := hin.header
  have hfd : ∀ w : World, (Instr.field 29 (.agg #[.int .i64 2, .int .i64 0, .string s, .slice p1 n1 q1]) 2).run Tryz.prog w = .ok (.string s) w := fun _ => by kernel_rfl
  go_wp2_with (go_at_call 93; refine (c93 _).mono ?_; rintro e w2 ⟨rfl, rfl⟩)
  simp [bodyPost, results, Tryz.results96, go_sem]
  exact hq
theorem pNum_is {t r : List UInt8} {u : Nat} (h : pNum t = .ok (u, r)) : ∃ i, fb t = some i ∧ inF (i + 1) (t.getD i 0) = true ∧ gv (t.take (i + 1)) = u ∧ t.drop (i + 1) = r ∧ i < t.length ∧ u < 18446744073709551616 := by
  have hu := (num_back h).2
  unfold pNum at h
  cases hf : fb t with
  | none => rw [hf] at h; cases h
  | some i =>
    rw [hf] at h
    simp only at h
    split at h
    · rename_i hF
      injection h with h
      injection h with e1 e2
      exact ⟨i, rfl, hF, e1, e2, fb_lt hf, hu⟩
    · cases h
set_option maxHeartbeats 2000000 in
set_option maxRecDepth 20000 in
theorem number92v (w : World) (E : Nat) (kt vt r : List UInt8) (h : ER w E kt vt) (u most : Nat) (hp : pNum vt = .ok (u, r)) (hm : u ≤ most) (hmm : most < 18446744073709551616) (hu : u < 9223372036854775808) :
    Calls Tryz.prog 92 #[.pointer (some ⟨E, 2, none⟩), .int .u64 most] w fun e w' => e = .returned (.int .i64 u) ∧ EQ E kt r w w' := by
  obtain ⟨i, hf, hF, hg, hd, hi, hu2⟩ := pNum_is hp
  have hh := h
  obtain ⟨p, c, q, d, h1, h2, h3, h4, h5⟩ := h
  obtain ⟨x0, x1, x2, x3, xf⟩ := four_of h1
  have c114 := take_ok w _ vt h5.1 i hf hF (by rw [hg]; exact hu2)
  rw [hg] at c114
  have c91 := pass91v w E kt vt hh (i + 1) (by omega)
  rw [hd] at c91
  have hL : vt.length ≤ 9223372036854775807 := by obtain ⟨_, _, _, -, k⟩ := h5.1.slice; exact k
  clear hf hF hg hd hp h4 h5 h1
  generalize vt.length = L at *
  obtain ⟨N, hN⟩ : ∃ N : Nat, N = i + 1 := ⟨_, rfl⟩
  rw [← hN] at c114 c91
  clear hN
  go_enter Tryz.func92, Tryz.ntmps92
  go_wp2_with (first
    | (go_at_call 114; refine c114.mono ?_; rintro e w1 ⟨rfl, rfl⟩)
    | (go_at_call 91; refine c91.mono ?_; rintro e w2 ⟨v, rfl, hb, hq⟩))
  go_ret
  exact ⟨rfl, hq⟩
set_option maxHeartbeats 2000000 in
set_option maxRecDepth 20000 in
theorem id70v (w : World) (E : Nat) (kt vt r : List UInt8) (h : ER w E kt vt) (u : Nat) (hp : pNum vt = .ok (u, r)) (h0 : 0 < u) (hm : u ≤ 281474976710656) :
    Calls Tryz.prog 70 #[.pointer (some ⟨E, 2, none⟩)] w fun e w' => e = .returned (.int .i64 u) ∧ EQ E kt r w w' := by
  have c92 := number92v w E kt vt r h u 281474976710656 hp hm (by omega) (by omega)
  go_enter Tryz.func70, Tryz.ntmps70
  go_wp2_with (go_at_call 92; refine c92.mono ?_; rintro e w1 ⟨rfl, hq⟩)
  go_ret
  exact ⟨rfl, hq⟩
set_option maxHeartbeats 1000000 in
set_option maxRecDepth 20000 in
theorem whole95k (w : World) (E : Nat) (vt : List UInt8) (h : ER w E [] vt) : Calls Tryz.prog 95 #[.pointer (some ⟨E, 0, none⟩)] w fun e w' => e = .returned (.bool true) ∧ w' = w := by
  obtain ⟨p, c, q, d, h1, h2, h3, h4, h5⟩ := h
  obtain ⟨x0, x1, x2, x3, xf⟩ := four_of h1
  simp only [List.length_nil] at x0
  go_enter Tryz.func95, Tryz.ntmps95
  go_wp2
  go_ret
  exact ⟨rfl, rfl⟩
set_option maxHeartbeats 1000000 in
set_option maxRecDepth 20000 in
theorem whole95v (w : World) (E : Nat) (kt : List UInt8) (h : ER w E kt []) : Calls Tryz.prog 95 #[.pointer (some ⟨E, 2, none⟩)] w fun e w' => e = .returned (.bool true) ∧ w' = w := by
  obtain ⟨p, c, q, d, h1, h2, h3, h4, h5⟩ := h
  obtain ⟨x0, x1, x2, x3, xf⟩ := four_of h1
  simp only [List.length_nil] at x2
  go_enter Tryz.func95, Tryz.ntmps95
  go_wp2
  go_ret
  exact ⟨rfl, rfl⟩
set_option maxHeartbeats 1000000 in
set_option maxRecDepth 20000 in
theorem check69 (w : World) (E : Nat) (h : ER w E [] []) : Calls Tryz.prog 69 #[.pointer (some ⟨E, 0, none⟩)] w fun e w' => e = .returned (.int .i64 0) ∧ w' = w := by
  have ck := whole95k w E [] h
  have cv := whole95v w E [] h
  have tk : True := trivial
  go_enter Tryz.func69, Tryz.ntmps69
  go_wp2_with (first
    | (go_at_call 95; clear tk; refine ck.mono ?_; rintro e w1 ⟨rfl, rfl⟩)
    | (go_at_call 95; refine cv.mono ?_; rintro e w1 ⟨rfl, rfl⟩))
  go_ret
  exact ⟨rfl, rfl⟩
end Go.Proofs.YtbgikgeknnmelaaGreat
