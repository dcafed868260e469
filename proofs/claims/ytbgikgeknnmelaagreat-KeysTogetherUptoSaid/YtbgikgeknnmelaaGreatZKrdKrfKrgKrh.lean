/-
  The reader of package keys, where all goes well.
  The reader of package keys: one, found, form, where all goes well.
  The reader of package keys: form, nameForm, number, id, whole, check, where all goes well.
  Elem of package keys, of an edge's entry under a vertex.
-/
import Derived.Test.YtbgikgeknnmelaaGreatZEdf
import Derived.Test.YtbgikgeknnmelaaGreatRdrD
import Derived.Test.YtbgikgeknnmelaaGreatNumU
import Derived.Test.YtbgikgeknnmelaaGreatName
namespace Go.Proofs.YtbgikgeknnmelaaGreat
open Go.RowKit
set_option linter.unusedVariables false      -- a walk need not use every condition

/-- The entry's reader: what is left of the key, and of the value; nothing failed. -/
def ER (w : World) (E : Nat) (kt vt : List UInt8) : Prop := ∃ p c q d, w.heap[E]? = some (.cells #[.slice p kt.length c, .bool false, .slice q vt.length d, .bool false] 93) ∧ kt.length ≤ c ∧ vt.length ≤ d ∧ Bl w (.slice p kt.length c) kt E ∧ Bl w (.slice q vt.length d) vt E
theorem ER.lt {w : World} {E : Nat} {kt vt : List UInt8} (h : ER w E kt vt) : E < w.heap.size := by
  obtain ⟨p, c, q, d, h1, -⟩ := h
  exact (Array.getElem?_eq_some_iff.1 h1).1
theorem ER.grown {w w' : World} {E : Nat} {kt vt : List UInt8} (h : ER w E kt vt) {row : Option Nat} (hg : w.grownBy w' row) (hr : ∀ j, row = some j → E < j) : ER w' E kt vt := by
  obtain ⟨p, c, q, d, h1, h2, h3, h4, h5⟩ := h
  exact ⟨p, c, q, d, (hg.block E (Array.getElem?_eq_some_iff.1 h1).1 (fun e => by have := hr E e.symm; omega)).trans h1, h2, h3, h4.grown hg fun j hj => by have := hr j hj; omega, h5.grown hg fun j hj => by have := hr j hj; omega⟩
theorem ER.on {w w' : World} {E : Nat} {kt vt : List UInt8} (h : ER w E kt vt) (hb : Below w.heap.size w w') : ER w' E kt vt := h.grown (gr_bel hb none) (fun j hj => by cases hj)
/-- Nothing but the reader has turned. -/
def EQ (E : Nat) (kt vt : List UInt8) (w w' : World) : Prop := w.grownBy w' (some E) ∧ ER w' E kt vt
theorem EQ.bel {w w' w'' : World} {E : Nat} {kt vt : List UInt8} (h : EQ E kt vt w w') (hb : Below w'.heap.size w' w'') : EQ E kt vt w w'' := ⟨h.1.trans (gr_bel hb (some E)), h.2.on hb⟩
theorem EQ.trans {a b c : World} {E : Nat} {kt vt kt' vt' : List UInt8} (h : EQ E kt vt a b) (h' : EQ E kt' vt' b c) : EQ E kt' vt' a c := ⟨h.1.trans h'.1, h'.2⟩
theorem er_setk {w : World} {E : Nat} {p q : Option Addr} {n c d : Nat} {s vt : List UInt8} {p' : Option Addr} {c' : Nat} (h1 : w.heap[E]? = some (.cells #[.slice p n c, .bool false, .slice q vt.length d, .bool false] 93)) (hd : vt.length ≤ d) (hv : Bl w (.slice q vt.length d) vt E) (hc : s.length ≤ c') (hs : Bl w (.slice p' s.length c') s E) :
    EQ E s vt w (w.setCell ⟨E, 0, none⟩ (.slice p' s.length c')) ∧ ∀ {u : Value} {t : List UInt8}, Bl w u t E → Bl (w.setCell ⟨E, 0, none⟩ (.slice p' s.length c')) u t E := by
  have hg := gr_set w E 0 (.slice p' s.length c')
  have hb : ∀ {u : Value} {t : List UInt8}, Bl w u t E → Bl (w.setCell ⟨E, 0, none⟩ (.slice p' s.length c')) u t E := fun h => h.grown hg fun j hj => by injection hj with hj; omega
  refine ⟨⟨hg, p', c', q, d, ?_, hc, hd, hb hs, hb hv⟩, hb⟩
  simp [World.setCell, Array.getElem?_modify, h1]
theorem er_setv {w : World} {E : Nat} {p q : Option Addr} {c m d : Nat} {s kt : List UInt8} {p' : Option Addr} {c' : Nat} (h1 : w.heap[E]? = some (.cells #[.slice p kt.length c, .bool false, .slice q m d, .bool false] 93)) (hd : kt.length ≤ c) (hv : Bl w (.slice p kt.length c) kt E) (hc : s.length ≤ c') (hs : Bl w (.slice p' s.length c') s E) :
    EQ E kt s w (w.setCell ⟨E, 2, none⟩ (.slice p' s.length c')) ∧ ∀ {u : Value} {t : List UInt8}, Bl w u t E → Bl (w.setCell ⟨E, 2, none⟩ (.slice p' s.length c')) u t E := by
  have hg := gr_set w E 2 (.slice p' s.length c')
  have hb : ∀ {u : Value} {t : List UInt8}, Bl w u t E → Bl (w.setCell ⟨E, 2, none⟩ (.slice p' s.length c')) u t E := fun h => h.grown hg fun j hj => by injection hj with hj; omega
  refine ⟨⟨hg, p, c, p', c', ?_, hd, hc, hb hv, hb hs⟩, hb⟩
  simp [World.setCell, Array.getElem?_modify, h1]
set_option maxHeartbeats 1000000 in
set_option maxRecDepth 20000 in
theorem pass91k (w : World) (E : Nat) (kt vt : List UInt8) (h : ER w E kt vt) (n : Nat) (hn : n ≤ kt.length) :
    Calls Tryz.prog 91 #[.pointer (some ⟨E, 0, none⟩), .int .i64 n] w fun e w' => ∃ v, e = .returned v ∧ Bl w' v (kt.take n) E ∧ EQ E (kt.drop n) vt w w' := by
  obtain ⟨p, c, q, d, h1, h2, h3, h4, h5⟩ := h
  obtain ⟨x0, x1, x2, x3, xf⟩ := four_of h1
  have hL : kt.length ≤ 9223372036854775807 := by obtain ⟨_, _, _, -, hh⟩ := h4.1.slice; exact hh
  have hC : c ≤ 9223372036854775807 := by obtain ⟨_, _, e, a1, a2, -⟩ := h4.1; injection e with _ _ e3; unfold maxLen at a2; omega
  have htk := h4.take hn
  have hdr := h4.drop hn
  have hdl : (kt.drop n).length = kt.length - n := by simp
  by_cases hcn : c = n
  · subst hcn
    rw [if_pos rfl, ← hdl] at hdr
    have hq := Lib.hid (er_setk h1 h3 h5 (by simp; omega) hdr)
    rw [hdl, Nat.sub_self, show kt.length - c = 0 by omega] at hq
    have hq := Lib.hid (show _ from hq.out)
    clear h4 h5 hdr hdl h1
    generalize kt.length = L at *
    go_enter Tryz.func91, Tryz.ntmps91
    go_wp2
    go_ret
    exact ⟨_, rfl, hq.out.2 htk, hq.out.1⟩
  · rw [if_neg hcn, ← hdl] at hdr
    have hq := Lib.hid (er_setk h1 h3 h5 (by simp; omega) hdr)
    rw [hdl] at hq
    clear h4 h5 hdr hdl h1
    generalize kt.length = L at *
    go_enter Tryz.func91, Tryz.ntmps91
    go_wp2
    go_ret
    exact ⟨_, rfl, hq.out.2 htk, hq.out.1⟩
set_option maxHeartbeats 1000000 in
set_option maxRecDepth 20000 in
theorem pass91v (w : World) (E : Nat) (kt vt : List UInt8) (h : ER w E kt vt) (n : Nat) (hn : n ≤ vt.length) :
    Calls Tryz.prog 91 #[.pointer (some ⟨E, 2, none⟩), .int .i64 n] w fun e w' => ∃ v, e = .returned v ∧ Bl w' v (vt.take n) E ∧ EQ E kt (vt.drop n) w w' := by
  obtain ⟨p, c, q, d, h1, h2, h3, h4, h5⟩ := h
  obtain ⟨x0, x1, x2, x3, xf⟩ := four_of h1
  have hL : vt.length ≤ 9223372036854775807 := by obtain ⟨_, _, _, -, hh⟩ := h5.1.slice; exact hh
  have hC : d ≤ 9223372036854775807 := by obtain ⟨_, _, e, a1, a2, -⟩ := h5.1; injection e with _ _ e3; unfold maxLen at a2; omega
  have htk := h5.take hn
  have hdr := h5.drop hn
  have hdl : (vt.drop n).length = vt.length - n := by simp
  by_cases hcn : d = n
  · subst hcn
    rw [if_pos rfl, ← hdl] at hdr
    have hq := Lib.hid (er_setv h1 h2 h4 (by simp; omega) hdr)
    rw [hdl, Nat.sub_self, show vt.length - d = 0 by omega] at hq
    have hq := Lib.hid (show _ from hq.out)
    clear h4 h5 hdr hdl h1
    generalize vt.length = L at *
    go_enter Tryz.func91, Tryz.ntmps91
    go_wp2
    go_ret
    exact ⟨_, rfl, hq.out.2 htk, hq.out.1⟩
  · rw [if_neg hcn, ← hdl] at hdr
    have hq := Lib.hid (er_setv h1 h2 h4 (by simp; omega) hdr)
    rw [hdl] at hq
    clear h4 h5 hdr hdl h1
    generalize vt.length = L at *
    go_enter Tryz.func91, Tryz.ntmps91
    go_wp2
    go_ret
    exact ⟨_, rfl, hq.out.2 htk, hq.out.1⟩
end Go.Proofs.YtbgikgeknnmelaaGreat
namespace Go.Proofs.YtbgikgeknnmelaaGreat
open Go.RowKit
set_option linter.unusedVariables false      -- a walk need not use every condition

theorem EQ.far {w w1 w2 : World} {E : Nat} {kt vt : List UInt8} (h : EQ E kt vt w w1) {row : Option Nat} (hg : w1.grownBy w2 row) (hr : E < w.heap.size) (hrow : ∀ j, row = some j → w.heap.size ≤ j) : EQ E kt vt w w2 :=
  ⟨h.1.andThen hg fun j hj => .inl (hrow j hj), h.2.grown hg fun j hj => by have := hrow j hj; omega⟩
theorem EQ.low {w w' : World} {E : Nat} {kt vt : List UInt8} {ob : Obj} (h : EQ E kt vt (w.alloc ob) w') : EQ E kt vt w w' := ⟨(World.grownBy_alloc w ob (some E)).trans h.1, h.2⟩
theorem EQ.lowb {w w1 w' : World} {E : Nat} {kt vt : List UInt8} (hb : Below w.heap.size w w1) (h : EQ E kt vt w1 w') : EQ E kt vt w w' := ⟨(gr_bel hb (some E)).trans h.1, h.2⟩
/-- A block other than the reader's stays. -/
theorem EQ.blk {w w' : World} {E : Nat} {kt vt : List UInt8} (h : EQ E kt vt w w') {g : Nat} {o : Obj} (hg : w.heap[g]? = some o) (hne : g ≠ E) : w'.heap[g]? = some o :=
  (h.1.block g (Array.getElem?_eq_some_iff.1 hg).1 (by intro e; injection e with e; exact hne e)).trans hg
def zC : Array Value := #[.int .i64 0, .int .i64 0, .string ⟨#[]⟩, .slice none 0 0]
set_option maxHeartbeats 1000000 in
set_option maxRecDepth 20000 in
theorem one87k (w : World) (E : Nat) (c : UInt8) (kt vt : List UInt8) (h : ER w E (c :: kt) vt) :
    Calls Tryz.prog 87 #[.pointer (some ⟨E, 0, none⟩)] w fun e w' => e = .returned (.int .u8 c.toNat) ∧ EQ E kt vt w w' := by
  have c91 := pass91k w E (c :: kt) vt h 1 (by simp)
  simp only [List.take_succ_cons, List.take_zero, List.drop_succ_cons, List.drop_zero] at c91
  go_enter Tryz.func87, Tryz.ntmps87
  go_wp2_with (go_at_call 91; refine c91.mono ?_; rintro e w' ⟨v, rfl, hb, hq⟩; obtain ⟨g, o, cap, rfl, hc0⟩ := hb.1.at0)
  go_ret
  exact ⟨rfl, hq⟩
set_option maxHeartbeats 1000000 in
set_option maxRecDepth 20000 in
theorem found89k (w : World) (E : Nat) (kt vt : List UInt8) (h : ER w E kt vt) (k m : Int) (s : ByteArray) (p1 : Option Addr) (n1 q1 : Nat) (n : Nat) (hn : n ≤ kt.length) :
    Calls Tryz.prog 89 #[.pointer (some ⟨E, 0, none⟩), .agg #[.int .i64 k, .int .i64 m, .string s, .slice p1 n1 q1], .int .i64 n, .int .i64 0] w fun e w' => e = .returned (.agg #[.int .i64 k, .int .i64 m, .string s, .slice p1 n1 q1]) ∧ EQ E (kt.drop n) vt w w' := by
  have hE := h.lt
  have hb0 := bel2 w (.cells #[.int .i64 k, .int .i64 m, .string s, .slice p1 n1 q1] 29) (.cells #[.int .i64 0, .int .i64 0, .string ⟨#[]⟩, .slice none 0 0] 29)
  have k0 := blk_old (o' := .cells #[.int .i64 0, .int .i64 0, .string ⟨#[]⟩, .slice none 0 0] 29) (blk_new w (.cells #[.int .i64 k, .int .i64 m, .string s, .slice p1 n1 q1] 29))
  have k1 := blk_new (w.alloc (.cells #[.int .i64 k, .int .i64 m, .string s, .slice p1 n1 q1] 29)) (.cells #[.int .i64 0, .int .i64 0, .string ⟨#[]⟩, .slice none 0 0] 29)
  rw [World.size_alloc] at k1
  have c91 := pass91k _ E kt vt (h.on hb0) n hn
  generalize kt.drop n = T at *
  clear h
  go_enter Tryz.func89, Tryz.ntmps89
  go_wp2_with (go_at_call 91; refine c91.mono ?_; rintro e w1 ⟨v, rfl, hb, hq⟩; obtain ⟨x0, x1, x2, x3, xf⟩ := four_of (hq.blk k0 (by omega)); obtain ⟨y0, y1, y2, y3, yf⟩ := four_of (hq.blk k1 (by omega)))
  have hfin := (EQ.lowb hb0 hq).far (gr_put4 w1 (w.heap.size + 1) 0 (.int .i64 k) (.int .i64 m) (.string s) (.slice p1 n1 q1)) hE (fun j hj => by injection hj with hj; omega)
  unfold put4 at hfin
  simp [bodyPost, results, Tryz.results89, go_sem, y0, y1, y2, y3]
  exact hfin
end Go.Proofs.YtbgikgeknnmelaaGreat
namespace Go.Proofs.YtbgikgeknnmelaaGreat
open Go.RowKit
set_option linter.unusedVariables false      -- a walk need not use every condition

theorem V.In.any {w w' : World} {lo lo' : Nat} {v : V} {sl : Value} (h : v.In w lo sl) (hl : v.l = []) : v.In w' lo' sl := by
  rw [V.in_iff] at h ⊢
  obtain ⟨a, b, c, p, cap, e, hc, hm, h56, -⟩ := h
  exact ⟨a, b, c, p, cap, e, hc, hm, h56, .inl hl⟩
set_option maxHeartbeats 2000000 in
set_option maxRecDepth 20000 in
theorem form66k (w : World) (E : Nat) (kt r vt : List UInt8) (h : ER w E kt vt) (v : V) (hvl : v.l = []) (hp : pTake kt = .ok (v, r)) (hr : kt.drop (kt.length - r.length) = r) (hl : r.length ≤ kt.length) (hs : kt.length ≤ 140737488351232) :
    Calls Tryz.prog 66 #[.pointer (some ⟨E, 0, none⟩), .int .i64 v.k] w fun e w' => ∃ sl, e = .returned (v.agg sl) ∧ v.In w' 0 sl ∧ EQ E r vt w w' := by
  have hE := h.lt
  have hb0 := bel1 w (.cells #[.int .i64 0, .int .i64 0, .string ⟨#[]⟩, .slice none 0 0] 29)
  have k0 := blk_new w (.cells #[.int .i64 0, .int .i64 0, .string ⟨#[]⟩, .slice none 0 0] 29)
  have h0 := h.on hb0
  have h00 := h0
  obtain ⟨p, c, q, d, h1, h2, h3, h4, h5⟩ := h0
  obtain ⟨x0, x1, x2, x3, xf⟩ := four_of h1
  have c90 := take90 _ _ kt h4.1 hs
  rw [hp] at c90
  have c89 := fun W' (hb : Below (w.alloc (.cells #[.int .i64 0, .int .i64 0, .string ⟨#[]⟩, .slice none 0 0] 29)).heap.size (w.alloc (.cells #[.int .i64 0, .int .i64 0, .string ⟨#[]⟩, .slice none 0 0] 29)) W') p1 n1 q1 => found89k W' E kt vt (h00.on hb) v.k v.n v.s p1 n1 q1 (kt.length - r.length) (by omega)
  rw [hr] at c89
  have hc : ((kt.length - r.length : Nat) : Int) = (kt.length : Int) - (r.length : Int) := by omega
  rw [hc] at c89
  unfold V.agg
  clear hc hr hp h1 h2 h3 h5
  go_enter Tryz.func66, Tryz.ntmps66
  go_wp2_with (fail)
  refine c90.mono ?_
  rintro e w1 (⟨v', q', sl, e1, rfl, hin, hB1⟩ | ⟨n, e1, -⟩)
  rotate_left
  · cases e1
  obtain ⟨rfl, rfl⟩ : v = v' ∧ r = q' := by
    have e2 := Except.ok.inj e1
    exact ⟨congrArg Prod.fst e2, congrArg Prod.snd e2⟩
  obtain ⟨p1, n1, q1, rfl⟩ := hin.header
  have k1 := blk_on hB1 k0
  unfold V.agg
  go_wp2_with (fail)
  refine (c89 w1 hB1 p1 n1 q1).mono ?_
  rintro e w2 ⟨rfl, hq⟩
  have hEw : E < w1.heap.size := by have := (bel_then hb0 hB1).size; omega
  have k2 := hq.blk k1 (by omega)
  have hin2 := fun u : World => hin.any (w' := u) (lo' := 0) hvl
  have q2 : EQ E r vt w w2 := EQ.lowb (bel_then hb0 hB1) hq
  have kz := blk_old (o' := .cells #[.int .i64 v.k, .int .i64 v.n, .string v.s, .slice p1 n1 q1] 29) k2
  have kn := blk_new w2 (.cells #[.int .i64 v.k, .int .i64 v.n, .string v.s, .slice p1 n1 q1] 29)
  obtain ⟨y0, y1, y2, y3, yf⟩ := four_of kz
  obtain ⟨z0, z1, z2, z3, zf⟩ := four_of kn
  have q3 := q2.bel (bel1 w2 (.cells #[.int .i64 v.k, .int .i64 v.n, .string v.s, .slice p1 n1 q1] 29))
  have hfin := q3.far (gr_put4 _ w.heap.size 0 (.int .i64 v.k) (.int .i64 v.n) (.string v.s) (.slice p1 n1 q1)) hE (fun j hj => by injection hj with hj; omega)
  clear hq q2 q3 k0 k1 k2 kz kn c89 c90 hB1
  go_wp2
  unfold put4 at hfin
  simp [bodyPost, results, Tryz.results66, go_sem, y0, y1, y2, y3]
  exact ⟨hin2 _, hfin⟩
set_option maxHeartbeats 2000000 in
set_option maxRecDepth 20000 in
theorem nameForm96k (w : World) (E : Nat) (kt r vt : List UInt8) (h : ER w E kt vt) (s : ByteArray) (hnm : nm s.data.toList = true) (hp : pTake kt = .ok (strV s, r)) (hr : kt.drop (kt.length - r.length) = r) (hl : r.length ≤ kt.length) (hs : kt.length ≤ 140737488351232) :
    Calls Tryz.prog 96 #[.pointer (some ⟨E, 0, none⟩)] w fun e w' => e = .returned (.tuple #[]) ∧ EQ E r vt w w' := by
  have c66 := form66k w E kt r vt h (strV s) rfl hp hr hl hs
  have c93 := fun w => name38 s w
  rw [hnm] at c93
  unfold V.agg at c66
  simp only [strV, V.k, V.n, V.s] at c66
  clear hnm hp hr hl hs
  go_enter Tryz.func96, Tryz.ntmps96
  go_wp2_with (fail)
  refine c66.mono ?_
  rintro e w1 ⟨sl, rfl, hin, hq⟩
  obtain ⟨p1, n1, q1, rfl⟩ := hin.header
  have hfd : ∀ w : World, (Instr.field 29 (.agg #[.int .i64 2, .int .i64 0, .string s, .slice p1 n1 q1]) 2).run Tryz.prog w = .ok (.string s) w := fun _ => by kernel_rfl
  go_wp2_with (go_at_call 93; refine (c93 _).mono ?_; rintro e w2 ⟨rfl, rfl⟩)
  simp [bodyPost, results, Tryz.results96, go_sem]
  exact hq
theorem pNum_is {t r : List UInt8} {u : Nat} (h : pNum t = .ok (u, r)) : ∃ i, fb t = some i ∧ inF (i + 1) (t.getD i 0) = true ∧ gv (t.take (i + 1)) = u ∧ t.drop (i + 1) = r ∧ i < t.length ∧ u < 18446744073709551616 := by
  have hu := (num_back h).2
  unfold pNum at h
  cases hf : fb t with
  | none => rw [hf] at h; cases h
  | some i =>
    rw [hf] at h
    simp only at h
    split at h
    · rename_i hF
      injection h with h
      injection h with e1 e2
      exact ⟨i, rfl, hF, e1, e2, fb_lt hf, hu⟩
    · cases h
set_option maxHeartbeats 2000000 in
set_option maxRecDepth 20000 in
theorem number92v (w : World) (E : Nat) (kt vt r : List UInt8) (h : ER w E kt vt) (u most : Nat) (hp : pNum vt = .ok (u, r)) (hm : u ≤ most) (hmm : most < 18446744073709551616) (hu : u < 9223372036854775808) :
    Calls Tryz.prog 92 #[.pointer (some ⟨E, 2, none⟩), .int .u64 most] w fun e w' => e = .returned (.int .i64 u) ∧ EQ E kt r w w' := by
  obtain ⟨i, hf, hF, hg, hd, hi, hu2⟩ := pNum_is hp
  have hh := h
  obtain ⟨p, c, q, d, h1, h2, h3, h4, h5⟩ := h
  obtain ⟨x0, x1, x2, x3, xf⟩ := four_of h1
  have c114 := take_ok w _ vt h5.1 i hf hF (by rw [hg]; exact hu2)
  rw [hg] at c114
  have c91 := pass91v w E kt vt hh (i + 1) (by omega)
  rw [hd] at c91
  have hL : vt.length ≤ 9223372036854775807 := by obtain ⟨_, _, _, -, k⟩ := h5.1.slice; exact k
  clear hf hF hg hd hp h4 h5 h1
  generalize vt.length = L at *
  obtain ⟨N, hN⟩ : ∃ N : Nat, N = i + 1 := ⟨_, rfl⟩
  rw [← hN] at c114 c91
  clear hN
  go_enter Tryz.func92, Tryz.ntmps92
  go_wp2_with (first
    | (go_at_call 114; refine c114.mono ?_; rintro e w1 ⟨rfl, rfl⟩)
    | (go_at_call 91; refine c91.mono ?_; rintro e w2 ⟨v, rfl, hb, hq⟩))
  go_ret
  exact ⟨rfl, hq⟩
set_option maxHeartbeats 2000000 in
set_option maxRecDepth 20000 in
theorem id70v (w : World) (E : Nat) (kt vt r : List UInt8) (h : ER w E kt vt) (u : Nat) (hp : pNum vt = .ok (u, r)) (h0 : 0 < u) (hm : u ≤ 281474976710656) :
    Calls Tryz.prog 70 #[.pointer (some ⟨E, 2, none⟩)] w fun e w' => e = .returned (.int .i64 u) ∧ EQ E kt r w w' := by
  have c92 := number92v w E kt vt r h u 281474976710656 hp hm (by omega) (by omega)
  go_enter Tryz.func70, Tryz.ntmps70
  go_wp2_with (go_at_call 92; refine c92.mono ?_; rintro e w1 ⟨rfl, hq⟩)
  go_ret
  exact ⟨rfl, hq⟩
set_option maxHeartbeats 1000000 in
set_option maxRecDepth 20000 in
theorem whole95k (w : World) (E : Nat) (vt : List UInt8) (h : ER w E [] vt) : Calls Tryz.prog 95 #[.pointer (some ⟨E, 0, none⟩)] w fun e w' => e = .returned (.bool true) ∧ w' = w := by
  obtain ⟨p, c, q, d, h1, h2, h3, h4, h5⟩ := h
  obtain ⟨x0, x1, x2, x3, xf⟩ := four_of h1
  simp only [List.length_nil] at x0
  go_enter Tryz.func95, Tryz.ntmps95
  go_wp2
  go_ret
  exact ⟨rfl, rfl⟩
set_option maxHeartbeats 1000000 in
set_option maxRecDepth 20000 in
theorem whole95v (w : World) (E : Nat) (kt : List UInt8) (h : ER w E kt []) : Calls Tryz.prog 95 #[.pointer (some ⟨E, 2, none⟩)] w fun e w' => e = .returned (.bool true) ∧ w' = w := by
  obtain ⟨p, c, q, d, h1, h2, h3, h4, h5⟩ := h
  obtain ⟨x0, x1, x2, x3, xf⟩ := four_of h1
  simp only [List.length_nil] at x2
  go_enter Tryz.func95, Tryz.ntmps95
  go_wp2
  go_ret
  exact ⟨rfl, rfl⟩
set_option maxHeartbeats 1000000 in
set_option maxRecDepth 20000 in
theorem check69 (w : World) (E : Nat) (h : ER w E [] []) : Calls Tryz.prog 69 #[.pointer (some ⟨E, 0, none⟩)] w fun e w' => e = .returned (.int .i64 0) ∧ w' = w := by
  have ck := whole95k w E [] h
  have cv := whole95v w E [] h
  have tk : True := trivial
  go_enter Tryz.func69, Tryz.ntmps69
  go_wp2_with (first
    | (go_at_call 95; clear tk; refine ck.mono ?_; rintro e w1 ⟨rfl, rfl⟩)
    | (go_at_call 95; refine cv.mono ?_; rintro e w1 ⟨rfl, rfl⟩))
  go_ret
  exact ⟨rfl, rfl⟩
end Go.Proofs.YtbgikgeknnmelaaGreat
namespace Go.Proofs.YtbgikgeknnmelaaGreat
open Go.RowKit
set_option linter.unusedVariables false      -- a walk need not use every condition

theorem Bl.up {w : World} {v : Value} {t : List UInt8} {B B' : Nat} (h : Bl w v t B) (hb : B ≤ B') : Bl w v t B' := by
  refine ⟨h.1, ?_⟩
  rcases h.2 with h | ⟨g, o, n, c, e, hl⟩
  · exact .inl h
  · exact .inr ⟨g, o, n, c, e, by omega⟩
theorem pTake_there {v : V} (hv : bad v = 0) (hw : v.wide) (r : List UInt8) : pTake (kForm v ++ r) = .ok (v, r) := chk_ok (form_there hv hw r) ((bad_iff v).1 hv).1
set_option maxHeartbeats 1000000 in
set_option maxRecDepth 20000 in
theorem read64 (w : World) (kh vh : Value) (kt vt : List UInt8) (hk : Bs w kh kt) (hv : Bs w vh vt) :
    Calls Tryz.prog 64 #[.agg #[kh, vh]] w fun e w' => e = .returned (.pointer (some ⟨w.heap.size + 1, 0, none⟩)) ∧ ER w' (w.heap.size + 1) kt vt ∧ Below w.heap.size w w' := by
  have bk := hk.low
  have bv := hv.low
  obtain ⟨p, c, rfl, h1, h2⟩ := hk.slice
  obtain ⟨q, d, rfl, h3, h4⟩ := hv.slice
  have hb := bel2 w (.cells #[.slice p kt.length c, .slice q vt.length d] 39) (.cells #[.slice p kt.length c, .bool false, .slice q vt.length d, .bool false] 93)
  have hn := blk_new (w.alloc (.cells #[.slice p kt.length c, .slice q vt.length d] 39)) (.cells #[.slice p kt.length c, .bool false, .slice q vt.length d, .bool false] 93)
  rw [World.size_alloc] at hn
  have hER : Hid (ER ((w.alloc (.cells #[.slice p kt.length c, .slice q vt.length d] 39)).alloc (.cells #[.slice p kt.length c, .bool false, .slice q vt.length d, .bool false] 93)) (w.heap.size + 1) kt vt) :=
    ⟨p, c, q, d, hn, h1, h3, (bk.grown (gr_bel hb none) (fun j hj => by cases hj)).up (by omega), (bv.grown (gr_bel hb none) (fun j hj => by cases hj)).up (by omega)⟩
  clear hn bk bv hk hv
  generalize kt.length = K at *
  generalize vt.length = N at *
  go_enter Tryz.func64, Tryz.ntmps64
  go_wp2
  go_ret
  exact ⟨rfl, hER.out, hb⟩
theorem drop_tail (a b : List UInt8) : (a ++ b).drop ((a ++ b).length - b.length) = b := by simp
set_option maxHeartbeats 4000000 in
set_option maxRecDepth 20000 in
theorem index72o (w : World) (E : Nat) (a id : Int) (s : ByteArray) (o : Nat) (ha : bad (vEl a) = 0) (hia : I64 a) (hid : bad (eEl id) = 0) (hie : I64 id) (hsb : bad (strV s) = 0) (hnm : nm s.data.toList = true) (ho : 0 < o) (hom : o ≤ 281474976710656)
    (h : ER w E (3 :: (kForm (vEl a) ++ (kForm (strV s) ++ (kForm (eEl id) ++ [])))) (enc o ++ [])) :
    Calls Tryz.prog 72 #[.pointer (some ⟨E, 0, none⟩)] w fun e w' => ∃ sl, e = .returned (.tuple #[(eEl id).agg sl, .int .i64 o]) ∧ (eEl id).In w' 0 sl ∧ EQ E [] [] w w' := by
  have hE := h.lt
  have hw1 : (vEl a).wide := by simp [vEl, V.wide, wideL]; exact hia
  have hw2 : (strV s).wide := by simp [strV, V.wide, wideL]; unfold I64; omega
  have hw3 : (eEl id).wide := by simp [eEl, V.wide, wideL]; exact hie
  have p1 := pTake_there ha hw1 (kForm (strV s) ++ (kForm (eEl id) ++ []))
  have p2 := pTake_there hsb hw2 (kForm (eEl id) ++ [])
  have p3 := pTake_there hid hw3 []
  have l1 := kForm_len (vEl a)
  have l2 := kForm_len (strV s)
  have l3 := kForm_len (eEl id)
  have m1 : (vEl a).many = 1 := rfl
  have m3 : (eEl id).many = 1 := rfl
  have m2 : (strV s).many ≤ 200 := by
    have hm := ((bad_iff _).1 hsb).1
    simp [strV, V.may, onlyB] at hm
    simp [strV, V.many, manyL]; omega
  have d1 := drop_tail (kForm (vEl a)) (kForm (strV s) ++ (kForm (eEl id) ++ []))
  have d2 := drop_tail (kForm (strV s)) (kForm (eEl id) ++ [])
  have d3 := drop_tail (kForm (eEl id)) []
  have hlen : (kForm (vEl a) ++ (kForm (strV s) ++ (kForm (eEl id) ++ []))).length ≤ 140737488351232 := by simp; omega
  have hlen2 : (kForm (strV s) ++ (kForm (eEl id) ++ [])).length ≤ 140737488351232 := by simp; omega
  have hlen3 : (kForm (eEl id) ++ []).length ≤ 140737488351232 := by simp; omega
  have e1 : (kForm (strV s) ++ (kForm (eEl id) ++ [])).length ≤ (kForm (vEl a) ++ (kForm (strV s) ++ (kForm (eEl id) ++ []))).length := by simp
  have e2 : (kForm (eEl id) ++ []).length ≤ (kForm (strV s) ++ (kForm (eEl id) ++ [])).length := by simp
  have pn := num_there o (by omega) []
  have hb0 := bel1 w (.cells #[.int .i64 0, .int .i64 0, .string ⟨#[]⟩, .slice none 0 0] 29)
  have k0 := blk_new w (.cells #[.int .i64 0, .int .i64 0, .string ⟨#[]⟩, .slice none 0 0] 29)
  have h0 := h.on hb0
  have c87 := one87k _ E 3 _ _ h0
  have c66a := fun W h => form66k W E _ _ (enc o ++ []) h (vEl a) rfl p1 d1 e1 hlen
  have c96 := fun W h => nameForm96k W E _ _ (enc o ++ []) h s hnm p2 d2 e2 hlen2
  have c66b := fun W h => form66k W E _ _ (enc o ++ []) h (eEl id) rfl p3 d3 (by simp) hlen3
  have c70 := fun W h => id70v W E [] (enc o ++ []) [] h o pn ho hom
  generalize enc o ++ [] = VT at *
  generalize kForm (eEl id) ++ [] = K3 at *
  generalize kForm (strV s) ++ K3 = K2 at *
  generalize kForm (vEl a) ++ K2 = K1 at *
  unfold V.agg at c66a c66b ⊢
  simp only [vEl, eEl, V.k, V.n, V.s] at c66a c66b ⊢
  clear p1 p2 p3 d1 d2 d3 hlen hlen2 hlen3 e1 e2 pn l1 l2 l3 m1 m2 m3 h h0 hw1 hw2 hw3
  have tk : True := trivial
  go_enter Tryz.func72, Tryz.ntmps72
  go_wp2_with (first
    | (go_at_call 87; refine c87.mono ?_; rintro e w1 ⟨rfl, hq1⟩; have k1 := hq1.blk k0 (by omega); have Q1 := EQ.lowb hb0 hq1)
    | (go_at_call 66; clear tk; refine (c66a _ Q1.2).mono ?_; rintro e w2 ⟨sl2, rfl, hin2, hq2⟩; obtain ⟨px, nx, cx, rfl⟩ := hin2.header; have k2 := hq2.blk k1 (by omega); have Q2 := Q1.trans hq2)
    | (go_at_call 96; refine (c96 _ Q2.2).mono ?_; rintro e w3 ⟨rfl, hq3⟩; have k3 := hq3.blk k2 (by omega); have Q3 := Q2.trans hq3))
  have q3 : EQ E K3 VT w w3.drew := Q3.bel (Below.refl _ w3).drew
  have k3d : w3.drew.heap[w.heap.size]? = some (.cells #[.int .i64 0, .int .i64 0, .string ⟨#[]⟩, .slice none 0 0] 29) := k3
  clear hq1 hq2 hq3 Q1 Q2 Q3 k1 k2 k3 k0 hb0 c87 c66a c96 hin2
  go_region_held3 (fun _ => True) (trivial)
    (first
      | (go_at_call 66; refine (c66b _ q3.2).mono ?_; rintro e w4 ⟨sl4, rfl, hin4, hq4⟩; obtain ⟨py, ny, cy, rfl⟩ := hin4.header; have k4 := Lib.hid (hq4.blk k3d (by omega)); have Q4 := q3.trans hq4; have hi4 := Lib.hid (fun u : World => hin4.any (w' := u) (lo' := 0) rfl); have P4 := Lib.hid (show EQ E [] VT w (((((w4.setCell ⟨w.heap.size, 0, none⟩ (.int .i64 7)).setCell ⟨w.heap.size, 0 + 1, none⟩ (.int .i64 id)).setCell ⟨w.heap.size, 0 + 2, none⟩ (.string ⟨#[]⟩)).setCell ⟨w.heap.size, 0 + 3, none⟩ (.slice py ny cy))) from Q4.far (gr_put4 w4 w.heap.size 0 (.int .i64 7) (.int .i64 id) (.string ⟨#[]⟩) (.slice py ny cy)) hE (fun j hj => by injection hj with hj; omega)); have B4 := Lib.hid (blk_put4 k4.out (.int .i64 7) (.int .i64 id) (.string ⟨#[]⟩) (.slice py ny cy)); obtain ⟨y0, y1, y2, y3, yf⟩ := four_of k4.out; have R4 : ER w4 E [] VT := hq4.2; have R4s : ER ((((w4.setCell ⟨w.heap.size, 0, none⟩ (.int .i64 7)).setCell ⟨w.heap.size, 1, none⟩ (.int .i64 id)).setCell ⟨w.heap.size, 2, none⟩ (.string ⟨#[]⟩)).setCell ⟨w.heap.size, 3, none⟩ (.slice py ny cy)) E [] VT := P4.out.2; replace Q4 := Lib.hid Q4; clear hin4 hq4)
      | (go_at_call 70; (with_reducible refine (c70 _ R4).mono ?_); go_loud (rintro e w5 ⟨rfl, hq5⟩; have k5 := Lib.hid (hq5.blk k4.out (by omega)); obtain ⟨z0, z1, z2, z3, zf⟩ := four_of k5.out; have F5 := Lib.hid (show EQ E [] [] w ((((w5.setCell ⟨w.heap.size, 0, none⟩ (.int .i64 7)).setCell ⟨w.heap.size, 0 + 1, none⟩ (.int .i64 id)).setCell ⟨w.heap.size, 0 + 2, none⟩ (.string ⟨#[]⟩)).setCell ⟨w.heap.size, 0 + 3, none⟩ (.slice py ny cy)) from ((Q4.out.trans hq5).far (gr_put4 w5 w.heap.size 0 (.int .i64 7) (.int .i64 id) (.string ⟨#[]⟩) (.slice py ny cy)) hE (fun j hj => by injection hj with hj; omega))); clear hq5))
      | (go_at_call 70; (with_reducible refine (c70 _ R4s).mono ?_); rintro e w5 ⟨rfl, hq5⟩; have k5 := Lib.hid (hq5.blk B4.out (by omega)); obtain ⟨z0, z1, z2, z3, zf⟩ := four_of k5.out; have F5 := Lib.hid (P4.out.trans hq5); clear hq5))
  all_goals go_wp2
  all_goals (simp [bodyPost, results, Tryz.results72, go_sem, z0, z1, z2, z3])
  all_goals first
    | exact ⟨hi4.out _, F5.out⟩
    | (have F := F5.out; simp only [Nat.zero_add] at F; exact ⟨hi4.out _, F⟩)
end Go.Proofs.YtbgikgeknnmelaaGreat
