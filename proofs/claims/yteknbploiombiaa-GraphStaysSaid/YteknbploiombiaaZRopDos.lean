/-
  A row of operations on a graph, in memory and as an argument: no walk.
  does of GraphStays: what follows is a graph that may be again, whose last number has not gone back.
-/
import Derived.Test.YteknbploiombiaaZReadRea
import Derived.Test.YteknbploiombiaaZRavRae
import Derived.Test.YteknbploiombiaaZRunRstRdo
import Derived.Test.YteknbploiombiaaZStm
import Derived.Test.YteknbploiombiaaZSgr
namespace Go.Proofs.Yteknbploiombiaa
open Go.ChangeShapes Go.WideShapes Go.ChangeAt Go.RowKit
set_option linter.unusedVariables false

/-- An operation, with the headers of its element's and its value's lists. -/
structure Od where
  dk : Int
  lb : ByteArray
  io : Int
  ii : Int
  x : V
  v : V
  hx : Value
  hv : Value
def RO : El Od where
  n := 12
  bytes := 152
  cs o _ := [.int .i64 o.dk, .string o.lb, .int .i64 o.io, .int .i64 o.ii, .int .i64 o.x.k, .int .i64 o.x.n, .string o.x.s, o.hx, .int .i64 o.v.k, .int .i64 o.v.n, .string o.v.s, o.hv]
  In w lo o _ := I64 o.io ∧ I64 o.ii ∧ o.x.In w lo o.hx ∧ o.v.In w lo o.hv
  keep hk hl o _ h := ⟨h.1, h.2.1, V.In.keep hk hl _ _ h.2.2.1, V.In.keep hk hl _ _ h.2.2.2⟩
theorem cellsO : Try.prog.cellsOf 32 = 12 := by kernel_rfl
theorem bytesO : Try.prog.bytesOf 32 = 152 := by kernel_rfl
set_option maxHeartbeats 2000000 in
theorem cells_twelve {w : World} {a : Addr} {cs : List Value} (h : w.cells? 0 a 12 = some cs) : a.spot = none ∧ ∀ j u, cs[j]? = some u → w.cell? ⟨a.block, a.off + j, none⟩ = some u := by
  obtain ⟨b, o, sp⟩ := a
  unfold World.cells? at h
  rw [if_pos (Nat.zero_le _)] at h
  simp only [List.range, List.range.loop, List.mapM_cons, List.mapM_nil, Option.bind_eq_bind, Option.bind_eq_some_iff, Option.pure_def, Option.some.injEq] at h
  obtain ⟨c0, h0, _, ⟨c1, h1, _, ⟨c2, h2, _, ⟨c3, h3, _, ⟨c4, h4, _, ⟨c5, h5, _, ⟨c6, h6, _, ⟨c7, h7, _, ⟨c8, h8, _, ⟨c9, h9, _, ⟨c10, h10, _, ⟨c11, h11, _, rfl, rfl⟩, rfl⟩, rfl⟩, rfl⟩, rfl⟩, rfl⟩, rfl⟩, rfl⟩, rfl⟩, rfl⟩, rfl⟩, rfl⟩ := h
  have hs : sp = none := by simpa [Addr.add] using World.cell?_spot h0
  subst hs
  refine ⟨rfl, fun j u hj => ?_⟩
  match j, hj with
  | 0, hj => cases hj; simpa [Addr.add] using h0
  | 1, hj => cases hj; simpa [Addr.add] using h1
  | 2, hj => cases hj; simpa [Addr.add] using h2
  | 3, hj => cases hj; simpa [Addr.add] using h3
  | 4, hj => cases hj; simpa [Addr.add] using h4
  | 5, hj => cases hj; simpa [Addr.add] using h5
  | 6, hj => cases hj; simpa [Addr.add] using h6
  | 7, hj => cases hj; simpa [Addr.add] using h7
  | 8, hj => cases hj; simpa [Addr.add] using h8
  | 9, hj => cases hj; simpa [Addr.add] using h9
  | 10, hj => cases hj; simpa [Addr.add] using h10
  | 11, hj => cases hj; simpa [Addr.add] using h11
  | _ + 12, hj => simp at hj
theorem six_list {α : Type} {l : List α} (h : l.length = 6) : ∃ a b c d e f, l = [a, b, c, d, e, f] := by
  match l, h with
  | [a, b, c, d, e, f], _ => exact ⟨a, b, c, d, e, f, rfl⟩
theorem twelve_list {α : Type} {l : List α} (h : l.length = 12) : ∃ c0 c1 c2 c3 c4 c5 c6 c7 c8 c9 c10 c11, l = [c0, c1, c2, c3, c4, c5, c6, c7, c8, c9, c10, c11] := by
  match l, h with
  | [c0, c1, c2, c3, c4, c5, c6, c7, c8, c9, c10, c11], _ => exact ⟨c0, c1, c2, c3, c4, c5, c6, c7, c8, c9, c10, c11, rfl⟩
set_option maxRecDepth 100000 in
set_option maxHeartbeats 2000000 in
theorem open_op {H : Type} {enc : TypeId × Value → H} {W : World} (n : Nat) (cs : List Value) (x : DataW H × List MemPlace) (h : DataW.trod enc Try.prog W 0 (fun _ => true) true n 32 cs = some x) (hw : ∀ k ∈ x.1.weights Try.prog 32, k ≤ reachBytes) :
    ∃ (v : Od) (sl : Value), cs = RO.cs v sl ∧ RO.In W 0 v sl := by
  obtain ⟨xs, m, rfl, rfl, hl, hxl, hf⟩ := DataW.trod_struct Try.underlying32 h
  rw [cellsO] at hl
  obtain ⟨c0, c1, c2, c3, c4, c5, c6, c7, c8, c9, c10, c11, rfl⟩ := twelve_list hl
  obtain ⟨x0, x1, x2, x3, x4, x5, rfl⟩ := six_list (show xs.length = 6 from hxl)
  have f0 := hf 0 _ rfl
  have f1 := hf 1 _ rfl
  have f2 := hf 2 _ rfl
  have f3 := hf 3 _ rfl
  have f4 := hf 4 _ rfl
  have f5 := hf 5 _ rfl
  simp only [List.getElem?_cons_zero, List.getElem?_cons_succ] at f0 f1 f2 f3 f4 f5
  obtain ⟨k, hk, rfl, wk⟩ := DataW.trod_int Try.underlying3 f0
  obtain ⟨s, hs, rfl, hss⟩ := DataW.trod_string Try.underlying9 f1
  obtain ⟨k2, hk2, rfl, wk2⟩ := DataW.trod_int Try.underlying2 f2
  obtain ⟨k3, hk3, rfl, wk3⟩ := DataW.trod_int Try.underlying2 f3
  simp only [List.map_cons, List.map_nil, DataW.weights, Try.underlying32, DataW.weightsEach, List.nil_append, List.append_nil] at hw
  obtain ⟨v4, s4, hv4, hin4⟩ := open_val m _ x4 f4 fun q hq => hw q (by simp [hq])
  obtain ⟨v5, s5, hv5, hin5⟩ := open_val m _ x5 f5 fun q hq => hw q (by simp [hq])
  injection hk with hk; injection hs with hs; injection hk2 with hk2; injection hk3 with hk3
  subst hk hs hk2 hk3
  refine ⟨⟨k, s, k2, k3, v4, v5, s4, s5⟩, .bool false, ?_, i64_wf wk2, i64_wf wk3, hin4, hin5⟩
  have h4 : [c4, c5, c6, c7] = [.int .i64 v4.k, .int .i64 v4.n, .string v4.s, s4] := hv4
  have h5 : [c8, c9, c10, c11] = [.int .i64 v5.k, .int .i64 v5.n, .string v5.s, s5] := hv5
  simp only [List.cons.injEq, and_true] at h4 h5
  obtain ⟨rfl, rfl, rfl, rfl⟩ := h4
  obtain ⟨rfl, rfl, rfl, rfl⟩ := h5
  rfl
set_option maxRecDepth 100000 in
/-- An argument of the type of rows of operations. -/
theorem arg_ops {H : Type} {enc : TypeId × Value → H} {W : World} {v : Value} {d : DataW H} {ps : List MemPlace} (h : DataW.Trod enc Try.prog W 0 (fun _ => true) true 22 v d ps) (hv : v.cells.toList = [v]) (hw : ∀ k ∈ d.weights Try.prog 22, k ≤ reachBytes) :
    ∃ l : List Od, Sq RO W 0 l v := by
  obtain ⟨n, hn⟩ := h
  obtain ⟨l, sl, hcs, hin⟩ := open_sq (R := RO) Try.underlying22 cellsO bytesO (fun a cs h => cells_twelve h) (fun m _ => open_op m) _ _ hn hw
  rw [hv] at hcs
  injection hcs with hcs
  subst hcs
  exact ⟨l, hin⟩
end Go.Proofs.Yteknbploiombiaa
namespace Go.Proofs.Yteknbploiombiaa
open Go.RowKit
set_option linter.unusedVariables false      -- a walk need not use every condition

def RDo (g : Gg) (w : World) (e : Ending) (w' : World) : Prop := ∃ (X : Gg) (s1 s2 : Value) (b : Bool), e = .returned (.tuple #[X.agg s1 s2, .bool b]) ∧ Gg.In w' w.heap.size X s1 s2 ∧ Below w.heap.size w w' ∧ Stays g X
section
variable {P : Program} {ops : Array Oper} {Q : Exit → Act → World → Prop} {md : Region.Mode} {S : World → Prop}
theorem wpAnyH_one {i : Nat} {o : Oper} {fuel : Nat} {listed : Array Bool} {a : Act} {w : World} (w2 : World) (hr : Region.ready md ops listed = [i]) (ho : ops[i]? = some o) (hw : Region.wanted o (yielded ops a.tmps) = true)
    (hop : ∀ K : Act → World → Prop, K a w2 → Oper.wp P o a w K Q) (hS : S w2) (h : wpAnyH P md ops Q S fuel (listed.setIfInBounds i true) a w2) : wpAnyH P md ops Q S (fuel + 1) listed a w := by
  refine wpAnyH_all hr (by simp) fun j hj => ?_
  obtain rfl := List.mem_singleton.1 hj
  unfold Go.wpOp
  simp only [ho, hw, if_true]
  exact .inl (hop _ ⟨hS, h⟩)
theorem take_at {i : Nat} {oi : Oper} {v : Value} {fuel : Nat} {listed : Array Bool} {a : Act} {w : World} (t : Tmp) (hi : ops[i]? = some oi) (hd : oi.dst = some t)
    (hs : Region.noSelect ops = true) (hf : Region.free md ops listed i = true) (hr : (Region.ready md ops listed).contains i = true)
    (hQ : ∀ c a w, Q (.panic c) (a.put (some t) v) w → Q (.panic c) a w) (hy : YieldsIf P ops S oi v a) (hS : S w)
    (h : wpAnyH P md ops Q S fuel (listed.setIfInBounds i true) (a.put (some t) v) w) : wpAnyH P md ops Q S (fuel + 1) listed a w :=
  wpAnyH_take hi hs hf hr (by rw [hd]; exact hQ) hy hS (by rw [hd]; exact h)
end
theorem twelve_of {w : World} {g : Nat} {a b c d e f h i j k l m : Value} {t : TypeId} (hh : w.heap[g]? = some (.cells #[a, b, c, d, e, f, h, i, j, k, l, m] t)) :
    (w.cell? ⟨g, 0, none⟩ = some a ∧ w.cell? ⟨g, 1, none⟩ = some b ∧ w.cell? ⟨g, 2, none⟩ = some c ∧ w.cell? ⟨g, 3, none⟩ = some d) ∧ (w.cell? ⟨g, 4, none⟩ = some e ∧ w.cell? ⟨g, 5, none⟩ = some f ∧ w.cell? ⟨g, 6, none⟩ = some h ∧ w.cell? ⟨g, 7, none⟩ = some i) ∧ w.cell? ⟨g, 8, none⟩ = some j ∧ w.cell? ⟨g, 9, none⟩ = some k ∧ w.cell? ⟨g, 10, none⟩ = some l ∧ w.cell? ⟨g, 11, none⟩ = some m := by
  simp [World.cell?, hh]
theorem six_onD {w w' : World} (h : Below w.heap.size w w') {a b c d e f : Addr} {va vb vc vd ve vf : Value} (S : (w.cell? a = some va ∧ w.cell? b = some vb ∧ w.cell? c = some vc) ∧ w.cell? d = some vd ∧ w.cell? e = some ve ∧ w.cell? f = some vf) :
    (w'.cell? a = some va ∧ w'.cell? b = some vb ∧ w'.cell? c = some vc) ∧ w'.cell? d = some vd ∧ w'.cell? e = some ve ∧ w'.cell? f = some vf :=
  ⟨⟨some_on h S.1.1, some_on h S.1.2.1, some_on h S.1.2.2⟩, some_on h S.2.1, some_on h S.2.2.1, some_on h S.2.2.2⟩
theorem six_putD {w : World} {B B1 B2 : Nat} {va vb vc vd ve vf p q l : Value} (S : (w.cell? ⟨B1, 0, none⟩ = some va ∧ w.cell? ⟨B1, 1, none⟩ = some vb ∧ w.cell? ⟨B1, 2, none⟩ = some vc) ∧ w.cell? ⟨B2, 0, none⟩ = some vd ∧ w.cell? ⟨B2, 1, none⟩ = some ve ∧ w.cell? ⟨B2, 2, none⟩ = some vf) (h1 : B1 ≠ B) (h2 : B2 ≠ B) :
    ((((w.setCell ⟨B, 0, none⟩ p).setCell ⟨B, 1, none⟩ q).setCell ⟨B, 2, none⟩ l).cell? ⟨B1, 0, none⟩ = some va ∧ (((w.setCell ⟨B, 0, none⟩ p).setCell ⟨B, 1, none⟩ q).setCell ⟨B, 2, none⟩ l).cell? ⟨B1, 1, none⟩ = some vb ∧ (((w.setCell ⟨B, 0, none⟩ p).setCell ⟨B, 1, none⟩ q).setCell ⟨B, 2, none⟩ l).cell? ⟨B1, 2, none⟩ = some vc) ∧ (((w.setCell ⟨B, 0, none⟩ p).setCell ⟨B, 1, none⟩ q).setCell ⟨B, 2, none⟩ l).cell? ⟨B2, 0, none⟩ = some vd ∧ (((w.setCell ⟨B, 0, none⟩ p).setCell ⟨B, 1, none⟩ q).setCell ⟨B, 2, none⟩ l).cell? ⟨B2, 1, none⟩ = some ve ∧ (((w.setCell ⟨B, 0, none⟩ p).setCell ⟨B, 1, none⟩ q).setCell ⟨B, 2, none⟩ l).cell? ⟨B2, 2, none⟩ = some vf := by
  have k1 : ∀ (i : Nat) (c : Value), w.cell? ⟨B1, i, none⟩ = some c → (((w.setCell ⟨B, 0, none⟩ p).setCell ⟨B, 1, none⟩ q).setCell ⟨B, 2, none⟩ l).cell? ⟨B1, i, none⟩ = some c := fun i c h => set_other (set_other (set_other h (.inl h1)) (.inl h1)) (.inl h1)
  have k2 : ∀ (i : Nat) (c : Value), w.cell? ⟨B2, i, none⟩ = some c → (((w.setCell ⟨B, 0, none⟩ p).setCell ⟨B, 1, none⟩ q).setCell ⟨B, 2, none⟩ l).cell? ⟨B2, i, none⟩ = some c := fun i c h => set_other (set_other (set_other h (.inl h2)) (.inl h2)) (.inl h2)
  exact ⟨⟨k1 _ _ S.1.1, k1 _ _ S.1.2.1, k1 _ _ S.1.2.2⟩, k2 _ _ S.2.1, k2 _ _ S.2.2.1, k2 _ _ S.2.2.2⟩
set_option maxRecDepth 100000 in
set_option maxHeartbeats 16000000 in
theorem does_addV (g : Gg) (sv se : Value) (dk : Int) (lb : ByteArray) (io ii : Int) (xk xn : Int) (xs : ByteArray) (xl : List V) (r : Option Addr) (m d : Nat) (v : V) (p3 : Option Addr) (n3 c3 : Nat) (w : World) (hg : Gg.In w 0 g sv se) (hm : gMay g = true) (hio : I64 io) (hii : I64 ii) (hx : (V.mk xk xn xs xl).In w 0 (.slice r m d)) (hv : v.In w 0 (.slice p3 n3 c3)) (hk : dk = 0) :
    Calls Try.prog 7 #[g.agg sv se, .agg #[.int .i64 dk, .string lb, .int .i64 io, .int .i64 ii, .int .i64 xk, .int .i64 xn, .string xs, .slice r m d, .int .i64 v.k, .int .i64 v.n, .string v.s, .slice p3 n3 c3]] w fun e w' => RDo g w e w' := by
  obtain ⟨pv, cv, rfl⟩ := hg.2.1.header
  obtain ⟨pe, ce, rfl⟩ := hg.2.2.header
  have HG := Lib.hid hg
  have HX := Lib.hid hx
  have HV := Lib.hid hv
  clear hg hx hv
  unfold Gg.agg
  have BW := Lib.hid (bel_al (bel_al (bel_al (bel_al (bel1 w (.cells #[.slice pv g.vs.length cv, .slice pe g.es.length ce, .int .i64 g.last] 27)) (.cells #[.int .i64 dk, .string lb, .int .i64 io, .int .i64 ii, .int .i64 xk, .int .i64 xn, .string xs, .slice r m d, .int .i64 v.k, .int .i64 v.n, .string v.s, .slice p3 n3 c3] 32)) (.cells #[.slice none 0 0, .slice none 0 0, .int .i64 0] 27)) (.cells #[.slice none 0 0, .slice none 0 0, .int .i64 0] 27)) (.cells #[.slice none 0 0, .slice none 0 0, .int .i64 0] 27))
  have hz : Hid ((((((w.alloc (.cells #[.slice pv g.vs.length cv, .slice pe g.es.length ce, .int .i64 g.last] 27)).alloc (.cells #[.int .i64 dk, .string lb, .int .i64 io, .int .i64 ii, .int .i64 xk, .int .i64 xn, .string xs, .slice r m d, .int .i64 v.k, .int .i64 v.n, .string v.s, .slice p3 n3 c3] 32)).alloc (.cells #[.slice none 0 0, .slice none 0 0, .int .i64 0] 27)).alloc (.cells #[.slice none 0 0, .slice none 0 0, .int .i64 0] 27)).alloc (.cells #[.slice none 0 0, .slice none 0 0, .int .i64 0] 27)).heap.size = w.heap.size + 1 + 1 + 1 + 1 + 1) := by show _ = _; simp
  have E0 := (blk_on (bel1 _ (.cells #[.slice none 0 0, .slice none 0 0, .int .i64 0] 27)) (blk_on (bel1 _ (.cells #[.slice none 0 0, .slice none 0 0, .int .i64 0] 27)) (blk_on (bel1 _ (.cells #[.slice none 0 0, .slice none 0 0, .int .i64 0] 27)) (blk_on (bel1 _ (.cells #[.int .i64 dk, .string lb, .int .i64 io, .int .i64 ii, .int .i64 xk, .int .i64 xn, .string xs, .slice r m d, .int .i64 v.k, .int .i64 v.n, .string v.s, .slice p3 n3 c3] 32)) (blk_new0 w (.cells #[.slice pv g.vs.length cv, .slice pe g.es.length ce, .int .i64 g.last] 27))))))
  have E1 := (blk_on (bel1 _ (.cells #[.slice none 0 0, .slice none 0 0, .int .i64 0] 27)) (blk_on (bel1 _ (.cells #[.slice none 0 0, .slice none 0 0, .int .i64 0] 27)) (blk_on (bel1 _ (.cells #[.slice none 0 0, .slice none 0 0, .int .i64 0] 27)) (blk_new0 (w.alloc (.cells #[.slice pv g.vs.length cv, .slice pe g.es.length ce, .int .i64 g.last] 27)) (.cells #[.int .i64 dk, .string lb, .int .i64 io, .int .i64 ii, .int .i64 xk, .int .i64 xn, .string xs, .slice r m d, .int .i64 v.k, .int .i64 v.n, .string v.s, .slice p3 n3 c3] 32)))))
  have E2 := (blk_on (bel1 _ (.cells #[.slice none 0 0, .slice none 0 0, .int .i64 0] 27)) (blk_on (bel1 _ (.cells #[.slice none 0 0, .slice none 0 0, .int .i64 0] 27)) (blk_new0 ((w.alloc (.cells #[.slice pv g.vs.length cv, .slice pe g.es.length ce, .int .i64 g.last] 27)).alloc (.cells #[.int .i64 dk, .string lb, .int .i64 io, .int .i64 ii, .int .i64 xk, .int .i64 xn, .string xs, .slice r m d, .int .i64 v.k, .int .i64 v.n, .string v.s, .slice p3 n3 c3] 32)) (.cells #[.slice none 0 0, .slice none 0 0, .int .i64 0] 27))))
  have E3 := (blk_on (bel1 _ (.cells #[.slice none 0 0, .slice none 0 0, .int .i64 0] 27)) (blk_new0 (((w.alloc (.cells #[.slice pv g.vs.length cv, .slice pe g.es.length ce, .int .i64 g.last] 27)).alloc (.cells #[.int .i64 dk, .string lb, .int .i64 io, .int .i64 ii, .int .i64 xk, .int .i64 xn, .string xs, .slice r m d, .int .i64 v.k, .int .i64 v.n, .string v.s, .slice p3 n3 c3] 32)).alloc (.cells #[.slice none 0 0, .slice none 0 0, .int .i64 0] 27)) (.cells #[.slice none 0 0, .slice none 0 0, .int .i64 0] 27)))
  have E4 := (blk_new0 ((((w.alloc (.cells #[.slice pv g.vs.length cv, .slice pe g.es.length ce, .int .i64 g.last] 27)).alloc (.cells #[.int .i64 dk, .string lb, .int .i64 io, .int .i64 ii, .int .i64 xk, .int .i64 xn, .string xs, .slice r m d, .int .i64 v.k, .int .i64 v.n, .string v.s, .slice p3 n3 c3] 32)).alloc (.cells #[.slice none 0 0, .slice none 0 0, .int .i64 0] 27)).alloc (.cells #[.slice none 0 0, .slice none 0 0, .int .i64 0] 27)) (.cells #[.slice none 0 0, .slice none 0 0, .int .i64 0] 27))
  simp only [World.size_alloc] at E0 E1 E2 E3 E4
  replace E0 := Lib.hid E0
  replace E1 := Lib.hid E1
  replace E2 := Lib.hid E2
  replace E3 := Lib.hid E3
  replace E4 := Lib.hid E4
  have k0 : (dk == 0) = true := by subst hk; rfl
  clear hk
  go_enter Try.func7, Try.ntmps7
  go_wp2_with (fail)
  generalize (((((w.alloc (.cells #[.slice pv g.vs.length cv, .slice pe g.es.length ce, .int .i64 g.last] 27)).alloc (.cells #[.int .i64 dk, .string lb, .int .i64 io, .int .i64 ii, .int .i64 xk, .int .i64 xn, .string xs, .slice r m d, .int .i64 v.k, .int .i64 v.n, .string v.s, .slice p3 n3 c3] 32)).alloc (.cells #[.slice none 0 0, .slice none 0 0, .int .i64 0] 27)).alloc (.cells #[.slice none 0 0, .slice none 0 0, .int .i64 0] 27)).alloc (.cells #[.slice none 0 0, .slice none 0 0, .int .i64 0] 27)) = W0 at *
  have c1 := addV20 g _ _ lb W0 (HG.out.on BW.out)
  obtain ⟨X, hX⟩ : ∃ x, (rAddV g lb).1 = x := ⟨_, rfl⟩
  have hst : Stays g X := by rw [← hX]; exact st_addV hm lb
  rw [hX] at c1
  obtain ⟨nn, hnn⟩ : ∃ x, (rAddV g lb).2.1 = x := ⟨_, rfl⟩
  rw [hnn] at c1
  clear hnn
  obtain ⟨er, her⟩ : ∃ x, (rAddV g lb).2.2 = x := ⟨_, rfl⟩
  rw [her] at c1
  clear her
  clear hX
  have hst := Lib.hid hst
  unfold Chg3 Gg.agg at c1
  try unfold V.agg at c1
  refine c1.mono ?_
  rintro e W1 ⟨s1, s2, rfl, hin1, hb1⟩
  obtain ⟨p1, m1, rfl⟩ := hin1.2.1.header
  obtain ⟨q1, d1, rfl⟩ := hin1.2.2.header
  have hin2 := hin1.keep (((keepB_set (w := W1) (B := w.heap.size + 1 + 1 + 1) (i := 0) (c := .slice p1 X.vs.length m1) (by have := hz.out; omega)).trans (keepB_set (B := w.heap.size + 1 + 1 + 1) (i := 1) (c := .slice q1 X.es.length d1) (by have := hz.out; omega))).trans (keepB_set (B := w.heap.size + 1 + 1 + 1) (i := 2) (c := .int .i64 X.last) (by have := hz.out; omega))).keep (show w.heap.size + 1 + 1 + 1 + 1 + 1 ≤ W0.heap.size by have := hz.out; omega)
  have BW2 := bel_s3 (bel_then BW.out hb1) (show w.heap.size ≤ w.heap.size + 1 + 1 + 1 by omega) (.slice p1 X.vs.length m1) (.slice q1 X.es.length d1) (.int .i64 X.last)
  have hz1 := hb1.size
  have F0 := blk_oth (i := 2) (c := .int .i64 X.last) (B' := w.heap.size + 1 + 1 + 1) (blk_oth (i := 1) (c := .slice q1 X.es.length d1) (B' := w.heap.size + 1 + 1 + 1) (blk_oth (i := 0) (c := .slice p1 X.vs.length m1) (B' := w.heap.size + 1 + 1 + 1) (blk_on hb1 E0.out) (by omega)) (by omega)) (by omega)
  have F1 := blk_oth (i := 2) (c := .int .i64 X.last) (B' := w.heap.size + 1 + 1 + 1) (blk_oth (i := 1) (c := .slice q1 X.es.length d1) (B' := w.heap.size + 1 + 1 + 1) (blk_oth (i := 0) (c := .slice p1 X.vs.length m1) (B' := w.heap.size + 1 + 1 + 1) (blk_on hb1 E1.out) (by omega)) (by omega)) (by omega)
  have F2 := blk_oth (i := 2) (c := .int .i64 X.last) (B' := w.heap.size + 1 + 1 + 1) (blk_oth (i := 1) (c := .slice q1 X.es.length d1) (B' := w.heap.size + 1 + 1 + 1) (blk_oth (i := 0) (c := .slice p1 X.vs.length m1) (B' := w.heap.size + 1 + 1 + 1) (blk_on hb1 E2.out) (by omega)) (by omega)) (by omega)
  have F4 := blk_oth (i := 2) (c := .int .i64 X.last) (B' := w.heap.size + 1 + 1 + 1) (blk_oth (i := 1) (c := .slice q1 X.es.length d1) (B' := w.heap.size + 1 + 1 + 1) (blk_oth (i := 0) (c := .slice p1 X.vs.length m1) (B' := w.heap.size + 1 + 1 + 1) (blk_on hb1 E4.out) (by omega)) (by omega)) (by omega)
  have F3 := blk_put3 (a' := .slice p1 X.vs.length m1) (b' := .slice q1 X.es.length d1) (c' := .int .i64 X.last) (blk_on hb1 E3.out)
  obtain ⟨z0, z1, z2, fz⟩ := three_of (blk_on hb1 E3.out)
  have hz2 : w.heap.size + 1 + 1 + 1 + 1 < (((W1.setCell ⟨w.heap.size + 1 + 1 + 1, 0, none⟩ (.slice p1 X.vs.length m1)).setCell ⟨w.heap.size + 1 + 1 + 1, 1, none⟩ (.slice q1 X.es.length d1)).setCell ⟨w.heap.size + 1 + 1 + 1, 2, none⟩ (.int .i64 X.last)).heap.size := by simp only [World.setCell, Array.size_modify]; have := hz.out; omega
  clear hin1 hb1 E0 E1 E2 E3 E4 hz1
  replace F0 := Lib.hid F0
  replace F1 := Lib.hid F1
  replace F2 := Lib.hid F2
  replace F3 := Lib.hid F3
  replace F4 := Lib.hid F4
  replace hin2 := Lib.hid hin2
  obtain ⟨x0, x1, x2, fx⟩ := three_of F0.out
  obtain ⟨⟨o0, o1, o2, o3⟩, ⟨o4, o5, o6, o7⟩, o8, o9, oa, ob⟩ := twelve_of F1.out
  go_wp2_with (fail)
  clear z0 z1 z2 fz x0 x1 x2 fx o0 o1 o2 o3 o4 o5 o6 o7 o8 o9 oa ob
  generalize (((W1.setCell ⟨w.heap.size + 1 + 1 + 1, 0, none⟩ (.slice p1 X.vs.length m1)).setCell ⟨w.heap.size + 1 + 1 + 1, 1, none⟩ (.slice q1 X.es.length d1)).setCell ⟨w.heap.size + 1 + 1 + 1, 2, none⟩ (.int .i64 X.last)) = W2 at *
  have c2 := raddV24 g _ _ lb W2 (HG.out.on BW2) hm
  unfold RD3 Gg.agg at c2
  try unfold V.agg at c2
  refine c2.mono ?_
  rintro e W3 ⟨Y, t1, t2, n2, m2, rfl, hin3, hb3⟩
  obtain ⟨p4, c4, rfl⟩ := hin3.2.1.header
  obtain ⟨q4, d4, rfl⟩ := hin3.2.2.header
  have hz3 := hb3.size
  have kY : KeepB (w.heap.size + 1 + 1 + 1 + 1 + 1) W3 (((W3.setCell ⟨w.heap.size + 1 + 1 + 1 + 1, 0, none⟩ (.slice p4 Y.vs.length c4)).setCell ⟨w.heap.size + 1 + 1 + 1 + 1, 1, none⟩ (.slice q4 Y.es.length d4)).setCell ⟨w.heap.size + 1 + 1 + 1 + 1, 2, none⟩ (.int .i64 Y.last)) := ((keepB_set (Nat.lt_succ_self _)).trans (keepB_set (Nat.lt_succ_self _))).trans (keepB_set (Nat.lt_succ_self _))
  have HY4 := Lib.hid ((hin3.low (show w.heap.size + 1 + 1 + 1 + 1 + 1 ≤ W2.heap.size by omega)).keep kY.keep (Nat.zero_le _))
  have HX4 := Lib.hid ((hin2.out.on hb3).keep kY.keep (Nat.le_refl _))
  have B4 := Lib.hid (bel_s3 (bel_then BW2 hb3) (show w.heap.size ≤ w.heap.size + 1 + 1 + 1 + 1 by omega) (.slice p4 Y.vs.length c4) (.slice q4 Y.es.length d4) (.int .i64 Y.last))
  have G2 := Lib.hid (blk_oth (i := 2) (c := .int .i64 Y.last) (B' := w.heap.size + 1 + 1 + 1 + 1) (blk_oth (i := 1) (c := .slice q4 Y.es.length d4) (B' := w.heap.size + 1 + 1 + 1 + 1) (blk_oth (i := 0) (c := .slice p4 Y.vs.length c4) (B' := w.heap.size + 1 + 1 + 1 + 1) (blk_on hb3 F2.out) (by omega)) (by omega)) (by omega))
  have G3 := Lib.hid (blk_oth (i := 2) (c := .int .i64 Y.last) (B' := w.heap.size + 1 + 1 + 1 + 1) (blk_oth (i := 1) (c := .slice q4 Y.es.length d4) (B' := w.heap.size + 1 + 1 + 1 + 1) (blk_oth (i := 0) (c := .slice p4 Y.vs.length c4) (B' := w.heap.size + 1 + 1 + 1 + 1) (blk_on hb3 F3.out) (by omega)) (by omega)) (by omega))
  have G4 := Lib.hid (blk_put3 (a' := .slice p4 Y.vs.length c4) (b' := .slice q4 Y.es.length d4) (c' := .int .i64 Y.last) (blk_on hb3 F4.out))
  obtain ⟨z0, z1, z2, fz⟩ := three_of (blk_on hb3 F4.out)
  clear hin3 hb3 F0 F1 F2 F3 F4 hin2 kY hz3 hz2 BW2 BW hz HG HX HV
  go_wp2_with (fail)
  clear z0 z1 z2 fz
  generalize (((W3.setCell ⟨w.heap.size + 1 + 1 + 1 + 1, 0, none⟩ (.slice p4 Y.vs.length c4)).setCell ⟨w.heap.size + 1 + 1 + 1 + 1, 1, none⟩ (.slice q4 Y.es.length d4)).setCell ⟨w.heap.size + 1 + 1 + 1 + 1, 2, none⟩ (.int .i64 Y.last)) = W4 at *
  obtain ⟨TB, hTB⟩ : ∃ t, gSame X Y = t := ⟨_, rfl⟩
  have c17 := same17 X Y _ _ _ _ W4.drew ((HX4.out.low (Nat.zero_le _)).on ((Below.refl _ W4).drew)) (HY4.out.on ((Below.refl _ W4).drew))
  rw [hTB] at c17
  clear hTB
  unfold Gg.agg at c17
  obtain ⟨x0, x1, x2, fx⟩ := three_of G3.out
  obtain ⟨z0, z1, z2, fz⟩ := three_of G4.out
  have S0 : (W4.drew.cell? ⟨w.heap.size + 1 + 1 + 1, 0, none⟩ = some (.slice p1 X.vs.length m1) ∧ W4.drew.cell? ⟨w.heap.size + 1 + 1 + 1, 1, none⟩ = some (.slice q1 X.es.length d1) ∧ W4.drew.cell? ⟨w.heap.size + 1 + 1 + 1, 2, none⟩ = some (.int .i64 X.last)) ∧ W4.drew.cell? ⟨w.heap.size + 1 + 1 + 1 + 1, 0, none⟩ = some (.slice p4 Y.vs.length c4) ∧ W4.drew.cell? ⟨w.heap.size + 1 + 1 + 1 + 1, 1, none⟩ = some (.slice q4 Y.es.length d4) ∧ W4.drew.cell? ⟨w.heap.size + 1 + 1 + 1 + 1, 2, none⟩ = some (.int .i64 Y.last) := ⟨⟨x0, x1, x2⟩, z0, z1, z2⟩
  clear x0 x1 x2 fx z0 z1 z2 fz
  cases TB with
  | false =>
    refine wp_region_held_drew (S := (fun u => (u.cell? ⟨w.heap.size + 1 + 1 + 1, 0, none⟩ = some (.slice p1 X.vs.length m1) ∧ u.cell? ⟨w.heap.size + 1 + 1 + 1, 1, none⟩ = some (.slice q1 X.es.length d1) ∧ u.cell? ⟨w.heap.size + 1 + 1 + 1, 2, none⟩ = some (.int .i64 X.last)) ∧ u.cell? ⟨w.heap.size + 1 + 1 + 1 + 1, 0, none⟩ = some (.slice p4 Y.vs.length c4) ∧ u.cell? ⟨w.heap.size + 1 + 1 + 1 + 1, 1, none⟩ = some (.slice q4 Y.es.length d4) ∧ u.cell? ⟨w.heap.size + 1 + 1 + 1 + 1, 2, none⟩ = some (.int .i64 Y.last))) (by kernel_rfl) S0 (fun hHeld => ?_)
    refine take_at (i := 0) (v := .agg #[.slice p1 X.vs.length m1, .slice q1 X.es.length d1, .int .i64 X.last]) 120 rfl rfl (by kernel_rfl) (by kernel_rfl) (by kernel_rfl) (fun _ _ _ h => h) (Or.inl ⟨by kernel_rfl, by intro w hSw; (try dsimp only at hSw); go_simp⟩) (by assumption) ?_
    try simp only [Act.put, List.setIfInBounds_toArray, List.set_cons_zero, List.set_cons_succ]
    refine take_at (i := 1) (v := .agg #[.slice p1 X.vs.length m1, .slice q1 X.es.length d1, .int .i64 X.last]) 121 rfl rfl (by kernel_rfl) (by kernel_rfl) (by kernel_rfl) (fun _ _ _ h => h) (Or.inl ⟨by kernel_rfl, by intro w hSw; (try dsimp only at hSw); go_simp⟩) (by assumption) ?_
    try simp only [Act.put, List.setIfInBounds_toArray, List.set_cons_zero, List.set_cons_succ]
    refine take_at (i := 2) (v := .agg #[.slice p4 Y.vs.length c4, .slice q4 Y.es.length d4, .int .i64 Y.last]) 122 rfl rfl (by kernel_rfl) (by kernel_rfl) (by kernel_rfl) (fun _ _ _ h => h) (Or.inl ⟨by kernel_rfl, by intro w hSw; (try dsimp only at hSw); go_simp⟩) (by assumption) ?_
    try simp only [Act.put, List.setIfInBounds_toArray, List.set_cons_zero, List.set_cons_succ]
    refine wpAnyH_ready (rs := [3]) (by kernel_rfl) (by simp) ?_
    refine AllReadyH.cons (o := { dst := some 123, op := Op.call { callee := Callee.value (Operand.func 17), args := #[Operand.tmp 121, Operand.tmp 122], argTypes := #[27, 27] }, type := 4, pos := "law.go:91", after := #[{ on := 1, ground := Ground.data }, { on := 2, ground := Ground.data }], guard := none }) rfl (fun K hK => ?_) AllReadyH.nil
    go_simp
    go_at_call 17
    refine c17.mono ?_
    rintro e W5 ⟨rfl, hb5⟩
    have S1 := six_onD hb5 S0
    have B5 := Lib.hid (bel_then ((Below.refl _ W4).drew) hb5)
    clear hb5
    refine hK.out _ _ S1 (fun hHeld => ?_)
    clear hK K
    try simp only [Act.put, List.setIfInBounds_toArray, List.set_cons_zero, List.set_cons_succ]
    refine take_at (i := 4) (v := .bool false) 124 rfl rfl (by kernel_rfl) (by kernel_rfl) (by kernel_rfl) (fun _ _ _ h => h) (Or.inl ⟨by kernel_rfl, by intro w hSw; (try dsimp only at hSw); go_simp⟩) (by assumption) ?_
    try simp only [Act.put, List.setIfInBounds_toArray, List.set_cons_zero, List.set_cons_succ]
    refine take_at (i := 5) (v := undef) 125 rfl rfl (by kernel_rfl) (by kernel_rfl) (by kernel_rfl) (fun _ _ _ h => h) (Or.inr ⟨by kernel_rfl, rfl⟩) (by assumption) ?_
    try simp only [Act.put, List.setIfInBounds_toArray, List.set_cons_zero, List.set_cons_succ]
    refine take_at (i := 6) (v := undef) 126 rfl rfl (by kernel_rfl) (by kernel_rfl) (by kernel_rfl) (fun _ _ _ h => h) (Or.inr ⟨by kernel_rfl, rfl⟩) (by assumption) ?_
    try simp only [Act.put, List.setIfInBounds_toArray, List.set_cons_zero, List.set_cons_succ]
    refine take_at (i := 7) (v := undef) 127 rfl rfl (by kernel_rfl) (by kernel_rfl) (by kernel_rfl) (fun _ _ _ h => h) (Or.inr ⟨by kernel_rfl, rfl⟩) (by assumption) ?_
    try simp only [Act.put, List.setIfInBounds_toArray, List.set_cons_zero, List.set_cons_succ]
    refine take_at (i := 8) (v := .bool false) 128 rfl rfl (by kernel_rfl) (by kernel_rfl) (by kernel_rfl) (fun _ _ _ h => h) (Or.inl ⟨by kernel_rfl, by intro w hSw; (try dsimp only at hSw); go_simp⟩) (by assumption) ?_
    try simp only [Act.put, List.setIfInBounds_toArray, List.set_cons_zero, List.set_cons_succ]
    refine take_at (i := 9) (v := .bool false) 129 rfl rfl (by kernel_rfl) (by kernel_rfl) (by kernel_rfl) (fun _ _ _ h => h) (Or.inl ⟨by kernel_rfl, by intro w hSw; (try dsimp only at hSw); go_simp⟩) (by assumption) ?_
    try simp only [Act.put, List.setIfInBounds_toArray, List.set_cons_zero, List.set_cons_succ]
    refine take_at (i := 10) (v := undef) 130 rfl rfl (by kernel_rfl) (by kernel_rfl) (by kernel_rfl) (fun _ _ _ h => h) (Or.inr ⟨by kernel_rfl, rfl⟩) (by assumption) ?_
    try simp only [Act.put, List.setIfInBounds_toArray, List.set_cons_zero, List.set_cons_succ]
    refine take_at (i := 11) (v := undef) 131 rfl rfl (by kernel_rfl) (by kernel_rfl) (by kernel_rfl) (fun _ _ _ h => h) (Or.inr ⟨by kernel_rfl, rfl⟩) (by assumption) ?_
    try simp only [Act.put, List.setIfInBounds_toArray, List.set_cons_zero, List.set_cons_succ]
    refine take_at (i := 12) (v := undef) 132 rfl rfl (by kernel_rfl) (by kernel_rfl) (by kernel_rfl) (fun _ _ _ h => h) (Or.inr ⟨by kernel_rfl, rfl⟩) (by assumption) ?_
    try simp only [Act.put, List.setIfInBounds_toArray, List.set_cons_zero, List.set_cons_succ]
    refine take_at (i := 13) (v := .bool false) 133 rfl rfl (by kernel_rfl) (by kernel_rfl) (by kernel_rfl) (fun _ _ _ h => h) (Or.inl ⟨by kernel_rfl, by intro w hSw; (try dsimp only at hSw); go_simp⟩) (by assumption) ?_
    try simp only [Act.put, List.setIfInBounds_toArray, List.set_cons_zero, List.set_cons_succ]
    refine take_at (i := 14) (v := .bool false) 134 rfl rfl (by kernel_rfl) (by kernel_rfl) (by kernel_rfl) (fun _ _ _ h => h) (Or.inl ⟨by kernel_rfl, by intro w hSw; (try dsimp only at hSw); go_simp⟩) (by assumption) ?_
    try simp only [Act.put, List.setIfInBounds_toArray, List.set_cons_zero, List.set_cons_succ]
    refine take_at (i := 15) (v := undef) 135 rfl rfl (by kernel_rfl) (by kernel_rfl) (by kernel_rfl) (fun _ _ _ h => h) (Or.inr ⟨by kernel_rfl, rfl⟩) (by assumption) ?_
    try simp only [Act.put, List.setIfInBounds_toArray, List.set_cons_zero, List.set_cons_succ]
    refine take_at (i := 16) (v := undef) 136 rfl rfl (by kernel_rfl) (by kernel_rfl) (by kernel_rfl) (fun _ _ _ h => h) (Or.inr ⟨by kernel_rfl, rfl⟩) (by assumption) ?_
    try simp only [Act.put, List.setIfInBounds_toArray, List.set_cons_zero, List.set_cons_succ]
    refine take_at (i := 17) (v := undef) 137 rfl rfl (by kernel_rfl) (by kernel_rfl) (by kernel_rfl) (fun _ _ _ h => h) (Or.inr ⟨by kernel_rfl, rfl⟩) (by assumption) ?_
    try simp only [Act.put, List.setIfInBounds_toArray, List.set_cons_zero, List.set_cons_succ]
    refine take_at (i := 18) (v := .bool false) 138 rfl rfl (by kernel_rfl) (by kernel_rfl) (by kernel_rfl) (fun _ _ _ h => h) (Or.inl ⟨by kernel_rfl, by intro w hSw; (try dsimp only at hSw); go_simp⟩) (by assumption) ?_
    try simp only [Act.put, List.setIfInBounds_toArray, List.set_cons_zero, List.set_cons_succ]
    have S2 := six_putD (B := w.heap.size + 1 + 1) (p := .slice p1 X.vs.length m1) (q := .slice q1 X.es.length d1) (l := .int .i64 X.last) S1 (by omega) (by omega)
    obtain ⟨y0, y1, y2, fy⟩ := three_of (blk_on B5.out G2.out)
    refine wpAnyH_one (i := 19) (o := { dst := none, op := Op.store 27 (Operand.tmp 4) (Operand.tmp 120), type := 0, pos := "law.go:91", after := #[{ on := 0, ground := Ground.data }, { on := 14, ground := Ground.chain }, { on := 0, ground := Ground.phase }, { on := 1, ground := Ground.textOnly Departure.lateStores }, { on := 2, ground := Ground.textOnly Departure.lateStores }, { on := 3, ground := Ground.textOnly Departure.lateStoresUnsure }, { on := 4, ground := Ground.textOnly Departure.lateStores }, { on := 5, ground := Ground.textOnly Departure.lateStores }, { on := 6, ground := Ground.textOnly Departure.lateStores }, { on := 7, ground := Ground.textOnly Departure.lateStores }, { on := 8, ground := Ground.textOnly Departure.lateStores }, { on := 9, ground := Ground.textOnly Departure.lateStores }, { on := 10, ground := Ground.textOnly Departure.lateStores }, { on := 11, ground := Ground.textOnly Departure.lateStores }, { on := 12, ground := Ground.textOnly Departure.lateStores }, { on := 13, ground := Ground.textOnly Departure.lateStores }, { on := 14, ground := Ground.textOnly Departure.lateStores }, { on := 15, ground := Ground.textOnly Departure.lateStores }, { on := 16, ground := Ground.textOnly Departure.lateStores }, { on := 17, ground := Ground.textOnly Departure.lateStores }, { on := 18, ground := Ground.textOnly Departure.lateStores }], guard := none }) (((W5.setCell ⟨w.heap.size + 1 + 1, 0, none⟩ (.slice p1 X.vs.length m1)).setCell ⟨w.heap.size + 1 + 1, 1, none⟩ (.slice q1 X.es.length d1)).setCell ⟨w.heap.size + 1 + 1, 2, none⟩ (.int .i64 X.last)) (by kernel_rfl) (by kernel_rfl) (by kernel_rfl) ?hop S2 ?_
    case hop =>
      intro K hK
      go_simp
      exact hK
    refine take_at (i := 20) (v := .bool false) 5 rfl rfl (by kernel_rfl) (by kernel_rfl) (by kernel_rfl) (fun _ _ _ h => h) (Or.inl ⟨by kernel_rfl, by intro w hSw; (try dsimp only at hSw); go_simp⟩) (by assumption) ?_
    try simp only [Act.put, List.setIfInBounds_toArray, List.set_cons_zero, List.set_cons_succ]
    refine wpAnyH_done (by kernel_rfl) ?_ _
    go_wp2
    simp [bodyPost, results, Try.results7, go_sem, y0, y1, y2]
    refine ⟨X, _, _, _, rfl, ?_, ?_, hst.out⟩
    · exact (HX4.out.on B5.out).keep (((keepB_set (show w.heap.size + 1 + 1 < w.heap.size + 1 + 1 + 1 + 1 + 1 by omega)).trans (keepB_set (show w.heap.size + 1 + 1 < w.heap.size + 1 + 1 + 1 + 1 + 1 by omega))).trans (keepB_set (show w.heap.size + 1 + 1 < w.heap.size + 1 + 1 + 1 + 1 + 1 by omega))).keep (by omega)
    · exact bel_s3 (bel_then B4.out B5.out) (by omega) _ _ _
  | true =>
    obtain ⟨t0, e0⟩ : ∃ t, (er == m2) = t := ⟨_, rfl⟩
    cases t0 with
    | false =>
      refine wp_region_held_drew (S := (fun u => (u.cell? ⟨w.heap.size + 1 + 1 + 1, 0, none⟩ = some (.slice p1 X.vs.length m1) ∧ u.cell? ⟨w.heap.size + 1 + 1 + 1, 1, none⟩ = some (.slice q1 X.es.length d1) ∧ u.cell? ⟨w.heap.size + 1 + 1 + 1, 2, none⟩ = some (.int .i64 X.last)) ∧ u.cell? ⟨w.heap.size + 1 + 1 + 1 + 1, 0, none⟩ = some (.slice p4 Y.vs.length c4) ∧ u.cell? ⟨w.heap.size + 1 + 1 + 1 + 1, 1, none⟩ = some (.slice q4 Y.es.length d4) ∧ u.cell? ⟨w.heap.size + 1 + 1 + 1 + 1, 2, none⟩ = some (.int .i64 Y.last))) (by kernel_rfl) S0 (fun hHeld => ?_)
      refine take_at (i := 0) (v := .agg #[.slice p1 X.vs.length m1, .slice q1 X.es.length d1, .int .i64 X.last]) 120 rfl rfl (by kernel_rfl) (by kernel_rfl) (by kernel_rfl) (fun _ _ _ h => h) (Or.inl ⟨by kernel_rfl, by intro w hSw; (try dsimp only at hSw); go_simp⟩) (by assumption) ?_
      try simp only [Act.put, List.setIfInBounds_toArray, List.set_cons_zero, List.set_cons_succ]
      refine take_at (i := 1) (v := .agg #[.slice p1 X.vs.length m1, .slice q1 X.es.length d1, .int .i64 X.last]) 121 rfl rfl (by kernel_rfl) (by kernel_rfl) (by kernel_rfl) (fun _ _ _ h => h) (Or.inl ⟨by kernel_rfl, by intro w hSw; (try dsimp only at hSw); go_simp⟩) (by assumption) ?_
      try simp only [Act.put, List.setIfInBounds_toArray, List.set_cons_zero, List.set_cons_succ]
      refine take_at (i := 2) (v := .agg #[.slice p4 Y.vs.length c4, .slice q4 Y.es.length d4, .int .i64 Y.last]) 122 rfl rfl (by kernel_rfl) (by kernel_rfl) (by kernel_rfl) (fun _ _ _ h => h) (Or.inl ⟨by kernel_rfl, by intro w hSw; (try dsimp only at hSw); go_simp⟩) (by assumption) ?_
      try simp only [Act.put, List.setIfInBounds_toArray, List.set_cons_zero, List.set_cons_succ]
      refine wpAnyH_ready (rs := [3]) (by kernel_rfl) (by simp) ?_
      refine AllReadyH.cons (o := { dst := some 123, op := Op.call { callee := Callee.value (Operand.func 17), args := #[Operand.tmp 121, Operand.tmp 122], argTypes := #[27, 27] }, type := 4, pos := "law.go:91", after := #[{ on := 1, ground := Ground.data }, { on := 2, ground := Ground.data }], guard := none }) rfl (fun K hK => ?_) AllReadyH.nil
      go_simp
      go_at_call 17
      refine c17.mono ?_
      rintro e W5 ⟨rfl, hb5⟩
      have S1 := six_onD hb5 S0
      have B5 := Lib.hid (bel_then ((Below.refl _ W4).drew) hb5)
      clear hb5
      refine hK.out _ _ S1 (fun hHeld => ?_)
      clear hK K
      try simp only [Act.put, List.setIfInBounds_toArray, List.set_cons_zero, List.set_cons_succ]
      refine take_at (i := 4) (v := .bool true) 124 rfl rfl (by kernel_rfl) (by kernel_rfl) (by kernel_rfl) (fun _ _ _ h => h) (Or.inl ⟨by kernel_rfl, by intro w hSw; (try dsimp only at hSw); go_simp⟩) (by assumption) ?_
      try simp only [Act.put, List.setIfInBounds_toArray, List.set_cons_zero, List.set_cons_succ]
      refine take_at (i := 5) (v := .int .i64 er) 125 rfl rfl (by kernel_rfl) (by kernel_rfl) (by kernel_rfl) (fun _ _ _ h => h) (Or.inl ⟨by kernel_rfl, by intro w hSw; (try dsimp only at hSw); go_simp⟩) (by assumption) ?_
      try simp only [Act.put, List.setIfInBounds_toArray, List.set_cons_zero, List.set_cons_succ]
      refine take_at (i := 6) (v := .int .i64 m2) 126 rfl rfl (by kernel_rfl) (by kernel_rfl) (by kernel_rfl) (fun _ _ _ h => h) (Or.inl ⟨by kernel_rfl, by intro w hSw; (try dsimp only at hSw); go_simp⟩) (by assumption) ?_
      try simp only [Act.put, List.setIfInBounds_toArray, List.set_cons_zero, List.set_cons_succ]
      refine take_at (i := 7) (v := .bool false) 127 rfl rfl (by kernel_rfl) (by kernel_rfl) (by kernel_rfl) (fun _ _ _ h => h) (Or.inl ⟨by kernel_rfl, by intro w hSw; (try dsimp only at hSw); go_simp⟩) (by assumption) ?_
      try simp only [Act.put, List.setIfInBounds_toArray, List.set_cons_zero, List.set_cons_succ]
      refine take_at (i := 8) (v := .bool false) 128 rfl rfl (by kernel_rfl) (by kernel_rfl) (by kernel_rfl) (fun _ _ _ h => h) (Or.inl ⟨by kernel_rfl, by intro w hSw; (try dsimp only at hSw); go_simp⟩) (by assumption) ?_
      try simp only [Act.put, List.setIfInBounds_toArray, List.set_cons_zero, List.set_cons_succ]
      refine take_at (i := 9) (v := .bool false) 129 rfl rfl (by kernel_rfl) (by kernel_rfl) (by kernel_rfl) (fun _ _ _ h => h) (Or.inl ⟨by kernel_rfl, by intro w hSw; (try dsimp only at hSw); go_simp⟩) (by assumption) ?_
      try simp only [Act.put, List.setIfInBounds_toArray, List.set_cons_zero, List.set_cons_succ]
      refine take_at (i := 10) (v := undef) 130 rfl rfl (by kernel_rfl) (by kernel_rfl) (by kernel_rfl) (fun _ _ _ h => h) (Or.inr ⟨by kernel_rfl, rfl⟩) (by assumption) ?_
      try simp only [Act.put, List.setIfInBounds_toArray, List.set_cons_zero, List.set_cons_succ]
      refine take_at (i := 11) (v := undef) 131 rfl rfl (by kernel_rfl) (by kernel_rfl) (by kernel_rfl) (fun _ _ _ h => h) (Or.inr ⟨by kernel_rfl, rfl⟩) (by assumption) ?_
      try simp only [Act.put, List.setIfInBounds_toArray, List.set_cons_zero, List.set_cons_succ]
      refine take_at (i := 12) (v := undef) 132 rfl rfl (by kernel_rfl) (by kernel_rfl) (by kernel_rfl) (fun _ _ _ h => h) (Or.inr ⟨by kernel_rfl, rfl⟩) (by assumption) ?_
      try simp only [Act.put, List.setIfInBounds_toArray, List.set_cons_zero, List.set_cons_succ]
      refine take_at (i := 13) (v := .bool false) 133 rfl rfl (by kernel_rfl) (by kernel_rfl) (by kernel_rfl) (fun _ _ _ h => h) (Or.inl ⟨by kernel_rfl, by intro w hSw; (try dsimp only at hSw); go_simp⟩) (by assumption) ?_
      try simp only [Act.put, List.setIfInBounds_toArray, List.set_cons_zero, List.set_cons_succ]
      refine take_at (i := 14) (v := .bool false) 134 rfl rfl (by kernel_rfl) (by kernel_rfl) (by kernel_rfl) (fun _ _ _ h => h) (Or.inl ⟨by kernel_rfl, by intro w hSw; (try dsimp only at hSw); go_simp⟩) (by assumption) ?_
      try simp only [Act.put, List.setIfInBounds_toArray, List.set_cons_zero, List.set_cons_succ]
      refine take_at (i := 15) (v := undef) 135 rfl rfl (by kernel_rfl) (by kernel_rfl) (by kernel_rfl) (fun _ _ _ h => h) (Or.inr ⟨by kernel_rfl, rfl⟩) (by assumption) ?_
      try simp only [Act.put, List.setIfInBounds_toArray, List.set_cons_zero, List.set_cons_succ]
      refine take_at (i := 16) (v := undef) 136 rfl rfl (by kernel_rfl) (by kernel_rfl) (by kernel_rfl) (fun _ _ _ h => h) (Or.inr ⟨by kernel_rfl, rfl⟩) (by assumption) ?_
      try simp only [Act.put, List.setIfInBounds_toArray, List.set_cons_zero, List.set_cons_succ]
      refine take_at (i := 17) (v := undef) 137 rfl rfl (by kernel_rfl) (by kernel_rfl) (by kernel_rfl) (fun _ _ _ h => h) (Or.inr ⟨by kernel_rfl, rfl⟩) (by assumption) ?_
      try simp only [Act.put, List.setIfInBounds_toArray, List.set_cons_zero, List.set_cons_succ]
      refine take_at (i := 18) (v := .bool false) 138 rfl rfl (by kernel_rfl) (by kernel_rfl) (by kernel_rfl) (fun _ _ _ h => h) (Or.inl ⟨by kernel_rfl, by intro w hSw; (try dsimp only at hSw); go_simp⟩) (by assumption) ?_
      try simp only [Act.put, List.setIfInBounds_toArray, List.set_cons_zero, List.set_cons_succ]
      have S2 := six_putD (B := w.heap.size + 1 + 1) (p := .slice p1 X.vs.length m1) (q := .slice q1 X.es.length d1) (l := .int .i64 X.last) S1 (by omega) (by omega)
      obtain ⟨y0, y1, y2, fy⟩ := three_of (blk_on B5.out G2.out)
      refine wpAnyH_one (i := 19) (o := { dst := none, op := Op.store 27 (Operand.tmp 4) (Operand.tmp 120), type := 0, pos := "law.go:91", after := #[{ on := 0, ground := Ground.data }, { on := 14, ground := Ground.chain }, { on := 0, ground := Ground.phase }, { on := 1, ground := Ground.textOnly Departure.lateStores }, { on := 2, ground := Ground.textOnly Departure.lateStores }, { on := 3, ground := Ground.textOnly Departure.lateStoresUnsure }, { on := 4, ground := Ground.textOnly Departure.lateStores }, { on := 5, ground := Ground.textOnly Departure.lateStores }, { on := 6, ground := Ground.textOnly Departure.lateStores }, { on := 7, ground := Ground.textOnly Departure.lateStores }, { on := 8, ground := Ground.textOnly Departure.lateStores }, { on := 9, ground := Ground.textOnly Departure.lateStores }, { on := 10, ground := Ground.textOnly Departure.lateStores }, { on := 11, ground := Ground.textOnly Departure.lateStores }, { on := 12, ground := Ground.textOnly Departure.lateStores }, { on := 13, ground := Ground.textOnly Departure.lateStores }, { on := 14, ground := Ground.textOnly Departure.lateStores }, { on := 15, ground := Ground.textOnly Departure.lateStores }, { on := 16, ground := Ground.textOnly Departure.lateStores }, { on := 17, ground := Ground.textOnly Departure.lateStores }, { on := 18, ground := Ground.textOnly Departure.lateStores }], guard := none }) (((W5.setCell ⟨w.heap.size + 1 + 1, 0, none⟩ (.slice p1 X.vs.length m1)).setCell ⟨w.heap.size + 1 + 1, 1, none⟩ (.slice q1 X.es.length d1)).setCell ⟨w.heap.size + 1 + 1, 2, none⟩ (.int .i64 X.last)) (by kernel_rfl) (by kernel_rfl) (by kernel_rfl) ?hop S2 ?_
      case hop =>
        intro K hK
        go_simp
        exact hK
      refine take_at (i := 20) (v := .bool false) 5 rfl rfl (by kernel_rfl) (by kernel_rfl) (by kernel_rfl) (fun _ _ _ h => h) (Or.inl ⟨by kernel_rfl, by intro w hSw; (try dsimp only at hSw); go_simp⟩) (by assumption) ?_
      try simp only [Act.put, List.setIfInBounds_toArray, List.set_cons_zero, List.set_cons_succ]
      refine wpAnyH_done (by kernel_rfl) ?_ _
      go_wp2
      simp [bodyPost, results, Try.results7, go_sem, y0, y1, y2]
      refine ⟨X, _, _, _, rfl, ?_, ?_, hst.out⟩
      · exact (HX4.out.on B5.out).keep (((keepB_set (show w.heap.size + 1 + 1 < w.heap.size + 1 + 1 + 1 + 1 + 1 by omega)).trans (keepB_set (show w.heap.size + 1 + 1 < w.heap.size + 1 + 1 + 1 + 1 + 1 by omega))).trans (keepB_set (show w.heap.size + 1 + 1 < w.heap.size + 1 + 1 + 1 + 1 + 1 by omega))).keep (by omega)
      · exact bel_s3 (bel_then B4.out B5.out) (by omega) _ _ _
    | true =>
      obtain ⟨t1, e1⟩ : ∃ t, (nn == n2) = t := ⟨_, rfl⟩
      cases t1 with
      | false =>
        refine wp_region_held_drew (S := (fun u => (u.cell? ⟨w.heap.size + 1 + 1 + 1, 0, none⟩ = some (.slice p1 X.vs.length m1) ∧ u.cell? ⟨w.heap.size + 1 + 1 + 1, 1, none⟩ = some (.slice q1 X.es.length d1) ∧ u.cell? ⟨w.heap.size + 1 + 1 + 1, 2, none⟩ = some (.int .i64 X.last)) ∧ u.cell? ⟨w.heap.size + 1 + 1 + 1 + 1, 0, none⟩ = some (.slice p4 Y.vs.length c4) ∧ u.cell? ⟨w.heap.size + 1 + 1 + 1 + 1, 1, none⟩ = some (.slice q4 Y.es.length d4) ∧ u.cell? ⟨w.heap.size + 1 + 1 + 1 + 1, 2, none⟩ = some (.int .i64 Y.last))) (by kernel_rfl) S0 (fun hHeld => ?_)
        refine take_at (i := 0) (v := .agg #[.slice p1 X.vs.length m1, .slice q1 X.es.length d1, .int .i64 X.last]) 120 rfl rfl (by kernel_rfl) (by kernel_rfl) (by kernel_rfl) (fun _ _ _ h => h) (Or.inl ⟨by kernel_rfl, by intro w hSw; (try dsimp only at hSw); go_simp⟩) (by assumption) ?_
        try simp only [Act.put, List.setIfInBounds_toArray, List.set_cons_zero, List.set_cons_succ]
        refine take_at (i := 1) (v := .agg #[.slice p1 X.vs.length m1, .slice q1 X.es.length d1, .int .i64 X.last]) 121 rfl rfl (by kernel_rfl) (by kernel_rfl) (by kernel_rfl) (fun _ _ _ h => h) (Or.inl ⟨by kernel_rfl, by intro w hSw; (try dsimp only at hSw); go_simp⟩) (by assumption) ?_
        try simp only [Act.put, List.setIfInBounds_toArray, List.set_cons_zero, List.set_cons_succ]
        refine take_at (i := 2) (v := .agg #[.slice p4 Y.vs.length c4, .slice q4 Y.es.length d4, .int .i64 Y.last]) 122 rfl rfl (by kernel_rfl) (by kernel_rfl) (by kernel_rfl) (fun _ _ _ h => h) (Or.inl ⟨by kernel_rfl, by intro w hSw; (try dsimp only at hSw); go_simp⟩) (by assumption) ?_
        try simp only [Act.put, List.setIfInBounds_toArray, List.set_cons_zero, List.set_cons_succ]
        refine wpAnyH_ready (rs := [3]) (by kernel_rfl) (by simp) ?_
        refine AllReadyH.cons (o := { dst := some 123, op := Op.call { callee := Callee.value (Operand.func 17), args := #[Operand.tmp 121, Operand.tmp 122], argTypes := #[27, 27] }, type := 4, pos := "law.go:91", after := #[{ on := 1, ground := Ground.data }, { on := 2, ground := Ground.data }], guard := none }) rfl (fun K hK => ?_) AllReadyH.nil
        go_simp
        go_at_call 17
        refine c17.mono ?_
        rintro e W5 ⟨rfl, hb5⟩
        have S1 := six_onD hb5 S0
        have B5 := Lib.hid (bel_then ((Below.refl _ W4).drew) hb5)
        clear hb5
        refine hK.out _ _ S1 (fun hHeld => ?_)
        clear hK K
        try simp only [Act.put, List.setIfInBounds_toArray, List.set_cons_zero, List.set_cons_succ]
        refine take_at (i := 4) (v := .bool true) 124 rfl rfl (by kernel_rfl) (by kernel_rfl) (by kernel_rfl) (fun _ _ _ h => h) (Or.inl ⟨by kernel_rfl, by intro w hSw; (try dsimp only at hSw); go_simp⟩) (by assumption) ?_
        try simp only [Act.put, List.setIfInBounds_toArray, List.set_cons_zero, List.set_cons_succ]
        refine take_at (i := 5) (v := .int .i64 er) 125 rfl rfl (by kernel_rfl) (by kernel_rfl) (by kernel_rfl) (fun _ _ _ h => h) (Or.inl ⟨by kernel_rfl, by intro w hSw; (try dsimp only at hSw); go_simp⟩) (by assumption) ?_
        try simp only [Act.put, List.setIfInBounds_toArray, List.set_cons_zero, List.set_cons_succ]
        refine take_at (i := 6) (v := .int .i64 m2) 126 rfl rfl (by kernel_rfl) (by kernel_rfl) (by kernel_rfl) (fun _ _ _ h => h) (Or.inl ⟨by kernel_rfl, by intro w hSw; (try dsimp only at hSw); go_simp⟩) (by assumption) ?_
        try simp only [Act.put, List.setIfInBounds_toArray, List.set_cons_zero, List.set_cons_succ]
        refine take_at (i := 7) (v := .bool true) 127 rfl rfl (by kernel_rfl) (by kernel_rfl) (by kernel_rfl) (fun _ _ _ h => h) (Or.inl ⟨by kernel_rfl, by intro w hSw; (try dsimp only at hSw); go_simp⟩) (by assumption) ?_
        try simp only [Act.put, List.setIfInBounds_toArray, List.set_cons_zero, List.set_cons_succ]
        refine take_at (i := 8) (v := .bool true) 128 rfl rfl (by kernel_rfl) (by kernel_rfl) (by kernel_rfl) (fun _ _ _ h => h) (Or.inl ⟨by kernel_rfl, by intro w hSw; (try dsimp only at hSw); go_simp⟩) (by assumption) ?_
        try simp only [Act.put, List.setIfInBounds_toArray, List.set_cons_zero, List.set_cons_succ]
        refine take_at (i := 9) (v := .bool true) 129 rfl rfl (by kernel_rfl) (by kernel_rfl) (by kernel_rfl) (fun _ _ _ h => h) (Or.inl ⟨by kernel_rfl, by intro w hSw; (try dsimp only at hSw); go_simp⟩) (by assumption) ?_
        try simp only [Act.put, List.setIfInBounds_toArray, List.set_cons_zero, List.set_cons_succ]
        refine take_at (i := 10) (v := .int .i64 nn) 130 rfl rfl (by kernel_rfl) (by kernel_rfl) (by kernel_rfl) (fun _ _ _ h => h) (Or.inl ⟨by kernel_rfl, by intro w hSw; (try dsimp only at hSw); go_simp⟩) (by assumption) ?_
        try simp only [Act.put, List.setIfInBounds_toArray, List.set_cons_zero, List.set_cons_succ]
        refine take_at (i := 11) (v := .int .i64 n2) 131 rfl rfl (by kernel_rfl) (by kernel_rfl) (by kernel_rfl) (fun _ _ _ h => h) (Or.inl ⟨by kernel_rfl, by intro w hSw; (try dsimp only at hSw); go_simp⟩) (by assumption) ?_
        try simp only [Act.put, List.setIfInBounds_toArray, List.set_cons_zero, List.set_cons_succ]
        refine take_at (i := 12) (v := .bool false) 132 rfl rfl (by kernel_rfl) (by kernel_rfl) (by kernel_rfl) (fun _ _ _ h => h) (Or.inl ⟨by kernel_rfl, by intro w hSw; (try dsimp only at hSw); go_simp⟩) (by assumption) ?_
        try simp only [Act.put, List.setIfInBounds_toArray, List.set_cons_zero, List.set_cons_succ]
        refine take_at (i := 13) (v := .bool false) 133 rfl rfl (by kernel_rfl) (by kernel_rfl) (by kernel_rfl) (fun _ _ _ h => h) (Or.inl ⟨by kernel_rfl, by intro w hSw; (try dsimp only at hSw); go_simp⟩) (by assumption) ?_
        try simp only [Act.put, List.setIfInBounds_toArray, List.set_cons_zero, List.set_cons_succ]
        refine take_at (i := 14) (v := .bool false) 134 rfl rfl (by kernel_rfl) (by kernel_rfl) (by kernel_rfl) (fun _ _ _ h => h) (Or.inl ⟨by kernel_rfl, by intro w hSw; (try dsimp only at hSw); go_simp⟩) (by assumption) ?_
        try simp only [Act.put, List.setIfInBounds_toArray, List.set_cons_zero, List.set_cons_succ]
        refine take_at (i := 15) (v := undef) 135 rfl rfl (by kernel_rfl) (by kernel_rfl) (by kernel_rfl) (fun _ _ _ h => h) (Or.inr ⟨by kernel_rfl, rfl⟩) (by assumption) ?_
        try simp only [Act.put, List.setIfInBounds_toArray, List.set_cons_zero, List.set_cons_succ]
        refine take_at (i := 16) (v := undef) 136 rfl rfl (by kernel_rfl) (by kernel_rfl) (by kernel_rfl) (fun _ _ _ h => h) (Or.inr ⟨by kernel_rfl, rfl⟩) (by assumption) ?_
        try simp only [Act.put, List.setIfInBounds_toArray, List.set_cons_zero, List.set_cons_succ]
        refine take_at (i := 17) (v := undef) 137 rfl rfl (by kernel_rfl) (by kernel_rfl) (by kernel_rfl) (fun _ _ _ h => h) (Or.inr ⟨by kernel_rfl, rfl⟩) (by assumption) ?_
        try simp only [Act.put, List.setIfInBounds_toArray, List.set_cons_zero, List.set_cons_succ]
        refine take_at (i := 18) (v := .bool false) 138 rfl rfl (by kernel_rfl) (by kernel_rfl) (by kernel_rfl) (fun _ _ _ h => h) (Or.inl ⟨by kernel_rfl, by intro w hSw; (try dsimp only at hSw); go_simp⟩) (by assumption) ?_
        try simp only [Act.put, List.setIfInBounds_toArray, List.set_cons_zero, List.set_cons_succ]
        have S2 := six_putD (B := w.heap.size + 1 + 1) (p := .slice p1 X.vs.length m1) (q := .slice q1 X.es.length d1) (l := .int .i64 X.last) S1 (by omega) (by omega)
        obtain ⟨y0, y1, y2, fy⟩ := three_of (blk_on B5.out G2.out)
        refine wpAnyH_one (i := 19) (o := { dst := none, op := Op.store 27 (Operand.tmp 4) (Operand.tmp 120), type := 0, pos := "law.go:91", after := #[{ on := 0, ground := Ground.data }, { on := 14, ground := Ground.chain }, { on := 0, ground := Ground.phase }, { on := 1, ground := Ground.textOnly Departure.lateStores }, { on := 2, ground := Ground.textOnly Departure.lateStores }, { on := 3, ground := Ground.textOnly Departure.lateStoresUnsure }, { on := 4, ground := Ground.textOnly Departure.lateStores }, { on := 5, ground := Ground.textOnly Departure.lateStores }, { on := 6, ground := Ground.textOnly Departure.lateStores }, { on := 7, ground := Ground.textOnly Departure.lateStores }, { on := 8, ground := Ground.textOnly Departure.lateStores }, { on := 9, ground := Ground.textOnly Departure.lateStores }, { on := 10, ground := Ground.textOnly Departure.lateStores }, { on := 11, ground := Ground.textOnly Departure.lateStores }, { on := 12, ground := Ground.textOnly Departure.lateStores }, { on := 13, ground := Ground.textOnly Departure.lateStores }, { on := 14, ground := Ground.textOnly Departure.lateStores }, { on := 15, ground := Ground.textOnly Departure.lateStores }, { on := 16, ground := Ground.textOnly Departure.lateStores }, { on := 17, ground := Ground.textOnly Departure.lateStores }, { on := 18, ground := Ground.textOnly Departure.lateStores }], guard := none }) (((W5.setCell ⟨w.heap.size + 1 + 1, 0, none⟩ (.slice p1 X.vs.length m1)).setCell ⟨w.heap.size + 1 + 1, 1, none⟩ (.slice q1 X.es.length d1)).setCell ⟨w.heap.size + 1 + 1, 2, none⟩ (.int .i64 X.last)) (by kernel_rfl) (by kernel_rfl) (by kernel_rfl) ?hop S2 ?_
        case hop =>
          intro K hK
          go_simp
          exact hK
        refine take_at (i := 20) (v := .bool false) 5 rfl rfl (by kernel_rfl) (by kernel_rfl) (by kernel_rfl) (fun _ _ _ h => h) (Or.inl ⟨by kernel_rfl, by intro w hSw; (try dsimp only at hSw); go_simp⟩) (by assumption) ?_
        try simp only [Act.put, List.setIfInBounds_toArray, List.set_cons_zero, List.set_cons_succ]
        refine wpAnyH_done (by kernel_rfl) ?_ _
        go_wp2
        simp [bodyPost, results, Try.results7, go_sem, y0, y1, y2]
        refine ⟨X, _, _, _, rfl, ?_, ?_, hst.out⟩
        · exact (HX4.out.on B5.out).keep (((keepB_set (show w.heap.size + 1 + 1 < w.heap.size + 1 + 1 + 1 + 1 + 1 by omega)).trans (keepB_set (show w.heap.size + 1 + 1 < w.heap.size + 1 + 1 + 1 + 1 + 1 by omega))).trans (keepB_set (show w.heap.size + 1 + 1 < w.heap.size + 1 + 1 + 1 + 1 + 1 by omega))).keep (by omega)
        · exact bel_s3 (bel_then B4.out B5.out) (by omega) _ _ _
      | true =>
        refine wp_region_held_drew (S := (fun u => (u.cell? ⟨w.heap.size + 1 + 1 + 1, 0, none⟩ = some (.slice p1 X.vs.length m1) ∧ u.cell? ⟨w.heap.size + 1 + 1 + 1, 1, none⟩ = some (.slice q1 X.es.length d1) ∧ u.cell? ⟨w.heap.size + 1 + 1 + 1, 2, none⟩ = some (.int .i64 X.last)) ∧ u.cell? ⟨w.heap.size + 1 + 1 + 1 + 1, 0, none⟩ = some (.slice p4 Y.vs.length c4) ∧ u.cell? ⟨w.heap.size + 1 + 1 + 1 + 1, 1, none⟩ = some (.slice q4 Y.es.length d4) ∧ u.cell? ⟨w.heap.size + 1 + 1 + 1 + 1, 2, none⟩ = some (.int .i64 Y.last))) (by kernel_rfl) S0 (fun hHeld => ?_)
        refine take_at (i := 0) (v := .agg #[.slice p1 X.vs.length m1, .slice q1 X.es.length d1, .int .i64 X.last]) 120 rfl rfl (by kernel_rfl) (by kernel_rfl) (by kernel_rfl) (fun _ _ _ h => h) (Or.inl ⟨by kernel_rfl, by intro w hSw; (try dsimp only at hSw); go_simp⟩) (by assumption) ?_
        try simp only [Act.put, List.setIfInBounds_toArray, List.set_cons_zero, List.set_cons_succ]
        refine take_at (i := 1) (v := .agg #[.slice p1 X.vs.length m1, .slice q1 X.es.length d1, .int .i64 X.last]) 121 rfl rfl (by kernel_rfl) (by kernel_rfl) (by kernel_rfl) (fun _ _ _ h => h) (Or.inl ⟨by kernel_rfl, by intro w hSw; (try dsimp only at hSw); go_simp⟩) (by assumption) ?_
        try simp only [Act.put, List.setIfInBounds_toArray, List.set_cons_zero, List.set_cons_succ]
        refine take_at (i := 2) (v := .agg #[.slice p4 Y.vs.length c4, .slice q4 Y.es.length d4, .int .i64 Y.last]) 122 rfl rfl (by kernel_rfl) (by kernel_rfl) (by kernel_rfl) (fun _ _ _ h => h) (Or.inl ⟨by kernel_rfl, by intro w hSw; (try dsimp only at hSw); go_simp⟩) (by assumption) ?_
        try simp only [Act.put, List.setIfInBounds_toArray, List.set_cons_zero, List.set_cons_succ]
        refine wpAnyH_ready (rs := [3]) (by kernel_rfl) (by simp) ?_
        refine AllReadyH.cons (o := { dst := some 123, op := Op.call { callee := Callee.value (Operand.func 17), args := #[Operand.tmp 121, Operand.tmp 122], argTypes := #[27, 27] }, type := 4, pos := "law.go:91", after := #[{ on := 1, ground := Ground.data }, { on := 2, ground := Ground.data }], guard := none }) rfl (fun K hK => ?_) AllReadyH.nil
        go_simp
        go_at_call 17
        refine c17.mono ?_
        rintro e W5 ⟨rfl, hb5⟩
        have S1 := six_onD hb5 S0
        have B5 := Lib.hid (bel_then ((Below.refl _ W4).drew) hb5)
        clear hb5
        refine hK.out _ _ S1 (fun hHeld => ?_)
        clear hK K
        try simp only [Act.put, List.setIfInBounds_toArray, List.set_cons_zero, List.set_cons_succ]
        refine take_at (i := 4) (v := .bool true) 124 rfl rfl (by kernel_rfl) (by kernel_rfl) (by kernel_rfl) (fun _ _ _ h => h) (Or.inl ⟨by kernel_rfl, by intro w hSw; (try dsimp only at hSw); go_simp⟩) (by assumption) ?_
        try simp only [Act.put, List.setIfInBounds_toArray, List.set_cons_zero, List.set_cons_succ]
        refine take_at (i := 5) (v := .int .i64 er) 125 rfl rfl (by kernel_rfl) (by kernel_rfl) (by kernel_rfl) (fun _ _ _ h => h) (Or.inl ⟨by kernel_rfl, by intro w hSw; (try dsimp only at hSw); go_simp⟩) (by assumption) ?_
        try simp only [Act.put, List.setIfInBounds_toArray, List.set_cons_zero, List.set_cons_succ]
        refine take_at (i := 6) (v := .int .i64 m2) 126 rfl rfl (by kernel_rfl) (by kernel_rfl) (by kernel_rfl) (fun _ _ _ h => h) (Or.inl ⟨by kernel_rfl, by intro w hSw; (try dsimp only at hSw); go_simp⟩) (by assumption) ?_
        try simp only [Act.put, List.setIfInBounds_toArray, List.set_cons_zero, List.set_cons_succ]
        refine take_at (i := 7) (v := .bool true) 127 rfl rfl (by kernel_rfl) (by kernel_rfl) (by kernel_rfl) (fun _ _ _ h => h) (Or.inl ⟨by kernel_rfl, by intro w hSw; (try dsimp only at hSw); go_simp⟩) (by assumption) ?_
        try simp only [Act.put, List.setIfInBounds_toArray, List.set_cons_zero, List.set_cons_succ]
        refine take_at (i := 8) (v := .bool true) 128 rfl rfl (by kernel_rfl) (by kernel_rfl) (by kernel_rfl) (fun _ _ _ h => h) (Or.inl ⟨by kernel_rfl, by intro w hSw; (try dsimp only at hSw); go_simp⟩) (by assumption) ?_
        try simp only [Act.put, List.setIfInBounds_toArray, List.set_cons_zero, List.set_cons_succ]
        refine take_at (i := 9) (v := .bool true) 129 rfl rfl (by kernel_rfl) (by kernel_rfl) (by kernel_rfl) (fun _ _ _ h => h) (Or.inl ⟨by kernel_rfl, by intro w hSw; (try dsimp only at hSw); go_simp⟩) (by assumption) ?_
        try simp only [Act.put, List.setIfInBounds_toArray, List.set_cons_zero, List.set_cons_succ]
        refine take_at (i := 10) (v := .int .i64 nn) 130 rfl rfl (by kernel_rfl) (by kernel_rfl) (by kernel_rfl) (fun _ _ _ h => h) (Or.inl ⟨by kernel_rfl, by intro w hSw; (try dsimp only at hSw); go_simp⟩) (by assumption) ?_
        try simp only [Act.put, List.setIfInBounds_toArray, List.set_cons_zero, List.set_cons_succ]
        refine take_at (i := 11) (v := .int .i64 n2) 131 rfl rfl (by kernel_rfl) (by kernel_rfl) (by kernel_rfl) (fun _ _ _ h => h) (Or.inl ⟨by kernel_rfl, by intro w hSw; (try dsimp only at hSw); go_simp⟩) (by assumption) ?_
        try simp only [Act.put, List.setIfInBounds_toArray, List.set_cons_zero, List.set_cons_succ]
        refine take_at (i := 12) (v := .bool true) 132 rfl rfl (by kernel_rfl) (by kernel_rfl) (by kernel_rfl) (fun _ _ _ h => h) (Or.inl ⟨by kernel_rfl, by intro w hSw; (try dsimp only at hSw); go_simp⟩) (by assumption) ?_
        try simp only [Act.put, List.setIfInBounds_toArray, List.set_cons_zero, List.set_cons_succ]
        refine take_at (i := 13) (v := .bool true) 133 rfl rfl (by kernel_rfl) (by kernel_rfl) (by kernel_rfl) (fun _ _ _ h => h) (Or.inl ⟨by kernel_rfl, by intro w hSw; (try dsimp only at hSw); go_simp⟩) (by assumption) ?_
        try simp only [Act.put, List.setIfInBounds_toArray, List.set_cons_zero, List.set_cons_succ]
        refine take_at (i := 14) (v := .bool true) 134 rfl rfl (by kernel_rfl) (by kernel_rfl) (by kernel_rfl) (fun _ _ _ h => h) (Or.inl ⟨by kernel_rfl, by intro w hSw; (try dsimp only at hSw); go_simp⟩) (by assumption) ?_
        try simp only [Act.put, List.setIfInBounds_toArray, List.set_cons_zero, List.set_cons_succ]
        refine take_at (i := 15) (v := .bool false) 135 rfl rfl (by kernel_rfl) (by kernel_rfl) (by kernel_rfl) (fun _ _ _ h => h) (Or.inl ⟨by kernel_rfl, by intro w hSw; (try dsimp only at hSw); go_simp⟩) (by assumption) ?_
        try simp only [Act.put, List.setIfInBounds_toArray, List.set_cons_zero, List.set_cons_succ]
        refine take_at (i := 16) (v := .bool false) 136 rfl rfl (by kernel_rfl) (by kernel_rfl) (by kernel_rfl) (fun _ _ _ h => h) (Or.inl ⟨by kernel_rfl, by intro w hSw; (try dsimp only at hSw); go_simp⟩) (by assumption) ?_
        try simp only [Act.put, List.setIfInBounds_toArray, List.set_cons_zero, List.set_cons_succ]
        refine take_at (i := 17) (v := .bool true) 137 rfl rfl (by kernel_rfl) (by kernel_rfl) (by kernel_rfl) (fun _ _ _ h => h) (Or.inl ⟨by kernel_rfl, by intro w hSw; (try dsimp only at hSw); go_simp⟩) (by assumption) ?_
        try simp only [Act.put, List.setIfInBounds_toArray, List.set_cons_zero, List.set_cons_succ]
        refine take_at (i := 18) (v := .bool true) 138 rfl rfl (by kernel_rfl) (by kernel_rfl) (by kernel_rfl) (fun _ _ _ h => h) (Or.inl ⟨by kernel_rfl, by intro w hSw; (try dsimp only at hSw); go_simp⟩) (by assumption) ?_
        try simp only [Act.put, List.setIfInBounds_toArray, List.set_cons_zero, List.set_cons_succ]
        have S2 := six_putD (B := w.heap.size + 1 + 1) (p := .slice p1 X.vs.length m1) (q := .slice q1 X.es.length d1) (l := .int .i64 X.last) S1 (by omega) (by omega)
        obtain ⟨y0, y1, y2, fy⟩ := three_of (blk_on B5.out G2.out)
        refine wpAnyH_one (i := 19) (o := { dst := none, op := Op.store 27 (Operand.tmp 4) (Operand.tmp 120), type := 0, pos := "law.go:91", after := #[{ on := 0, ground := Ground.data }, { on := 14, ground := Ground.chain }, { on := 0, ground := Ground.phase }, { on := 1, ground := Ground.textOnly Departure.lateStores }, { on := 2, ground := Ground.textOnly Departure.lateStores }, { on := 3, ground := Ground.textOnly Departure.lateStoresUnsure }, { on := 4, ground := Ground.textOnly Departure.lateStores }, { on := 5, ground := Ground.textOnly Departure.lateStores }, { on := 6, ground := Ground.textOnly Departure.lateStores }, { on := 7, ground := Ground.textOnly Departure.lateStores }, { on := 8, ground := Ground.textOnly Departure.lateStores }, { on := 9, ground := Ground.textOnly Departure.lateStores }, { on := 10, ground := Ground.textOnly Departure.lateStores }, { on := 11, ground := Ground.textOnly Departure.lateStores }, { on := 12, ground := Ground.textOnly Departure.lateStores }, { on := 13, ground := Ground.textOnly Departure.lateStores }, { on := 14, ground := Ground.textOnly Departure.lateStores }, { on := 15, ground := Ground.textOnly Departure.lateStores }, { on := 16, ground := Ground.textOnly Departure.lateStores }, { on := 17, ground := Ground.textOnly Departure.lateStores }, { on := 18, ground := Ground.textOnly Departure.lateStores }], guard := none }) (((W5.setCell ⟨w.heap.size + 1 + 1, 0, none⟩ (.slice p1 X.vs.length m1)).setCell ⟨w.heap.size + 1 + 1, 1, none⟩ (.slice q1 X.es.length d1)).setCell ⟨w.heap.size + 1 + 1, 2, none⟩ (.int .i64 X.last)) (by kernel_rfl) (by kernel_rfl) (by kernel_rfl) ?hop S2 ?_
        case hop =>
          intro K hK
          go_simp
          exact hK
        refine take_at (i := 20) (v := .bool true) 5 rfl rfl (by kernel_rfl) (by kernel_rfl) (by kernel_rfl) (fun _ _ _ h => h) (Or.inl ⟨by kernel_rfl, by intro w hSw; (try dsimp only at hSw); go_simp⟩) (by assumption) ?_
        try simp only [Act.put, List.setIfInBounds_toArray, List.set_cons_zero, List.set_cons_succ]
        refine wpAnyH_done (by kernel_rfl) ?_ _
        go_wp2
        simp [bodyPost, results, Try.results7, go_sem, y0, y1, y2]
        refine ⟨X, _, _, _, rfl, ?_, ?_, hst.out⟩
        · exact (HX4.out.on B5.out).keep (((keepB_set (show w.heap.size + 1 + 1 < w.heap.size + 1 + 1 + 1 + 1 + 1 by omega)).trans (keepB_set (show w.heap.size + 1 + 1 < w.heap.size + 1 + 1 + 1 + 1 + 1 by omega))).trans (keepB_set (show w.heap.size + 1 + 1 < w.heap.size + 1 + 1 + 1 + 1 + 1 by omega))).keep (by omega)
        · exact bel_s3 (bel_then B4.out B5.out) (by omega) _ _ _
set_option maxRecDepth 100000 in
set_option maxHeartbeats 16000000 in
theorem does_addE (g : Gg) (sv se : Value) (dk : Int) (lb : ByteArray) (io ii : Int) (xk xn : Int) (xs : ByteArray) (xl : List V) (r : Option Addr) (m d : Nat) (v : V) (p3 : Option Addr) (n3 c3 : Nat) (w : World) (hg : Gg.In w 0 g sv se) (hm : gMay g = true) (hio : I64 io) (hii : I64 ii) (hx : (V.mk xk xn xs xl).In w 0 (.slice r m d)) (hv : v.In w 0 (.slice p3 n3 c3)) (hk : dk = 1) :
    Calls Try.prog 7 #[g.agg sv se, .agg #[.int .i64 dk, .string lb, .int .i64 io, .int .i64 ii, .int .i64 xk, .int .i64 xn, .string xs, .slice r m d, .int .i64 v.k, .int .i64 v.n, .string v.s, .slice p3 n3 c3]] w fun e w' => RDo g w e w' := by
  obtain ⟨pv, cv, rfl⟩ := hg.2.1.header
  obtain ⟨pe, ce, rfl⟩ := hg.2.2.header
  have HG := Lib.hid hg
  have HX := Lib.hid hx
  have HV := Lib.hid hv
  clear hg hx hv
  unfold Gg.agg
  have BW := Lib.hid (bel_al (bel_al (bel_al (bel_al (bel1 w (.cells #[.slice pv g.vs.length cv, .slice pe g.es.length ce, .int .i64 g.last] 27)) (.cells #[.int .i64 dk, .string lb, .int .i64 io, .int .i64 ii, .int .i64 xk, .int .i64 xn, .string xs, .slice r m d, .int .i64 v.k, .int .i64 v.n, .string v.s, .slice p3 n3 c3] 32)) (.cells #[.slice none 0 0, .slice none 0 0, .int .i64 0] 27)) (.cells #[.slice none 0 0, .slice none 0 0, .int .i64 0] 27)) (.cells #[.slice none 0 0, .slice none 0 0, .int .i64 0] 27))
  have hz : Hid ((((((w.alloc (.cells #[.slice pv g.vs.length cv, .slice pe g.es.length ce, .int .i64 g.last] 27)).alloc (.cells #[.int .i64 dk, .string lb, .int .i64 io, .int .i64 ii, .int .i64 xk, .int .i64 xn, .string xs, .slice r m d, .int .i64 v.k, .int .i64 v.n, .string v.s, .slice p3 n3 c3] 32)).alloc (.cells #[.slice none 0 0, .slice none 0 0, .int .i64 0] 27)).alloc (.cells #[.slice none 0 0, .slice none 0 0, .int .i64 0] 27)).alloc (.cells #[.slice none 0 0, .slice none 0 0, .int .i64 0] 27)).heap.size = w.heap.size + 1 + 1 + 1 + 1 + 1) := by show _ = _; simp
  have E0 := (blk_on (bel1 _ (.cells #[.slice none 0 0, .slice none 0 0, .int .i64 0] 27)) (blk_on (bel1 _ (.cells #[.slice none 0 0, .slice none 0 0, .int .i64 0] 27)) (blk_on (bel1 _ (.cells #[.slice none 0 0, .slice none 0 0, .int .i64 0] 27)) (blk_on (bel1 _ (.cells #[.int .i64 dk, .string lb, .int .i64 io, .int .i64 ii, .int .i64 xk, .int .i64 xn, .string xs, .slice r m d, .int .i64 v.k, .int .i64 v.n, .string v.s, .slice p3 n3 c3] 32)) (blk_new0 w (.cells #[.slice pv g.vs.length cv, .slice pe g.es.length ce, .int .i64 g.last] 27))))))
  have E1 := (blk_on (bel1 _ (.cells #[.slice none 0 0, .slice none 0 0, .int .i64 0] 27)) (blk_on (bel1 _ (.cells #[.slice none 0 0, .slice none 0 0, .int .i64 0] 27)) (blk_on (bel1 _ (.cells #[.slice none 0 0, .slice none 0 0, .int .i64 0] 27)) (blk_new0 (w.alloc (.cells #[.slice pv g.vs.length cv, .slice pe g.es.length ce, .int .i64 g.last] 27)) (.cells #[.int .i64 dk, .string lb, .int .i64 io, .int .i64 ii, .int .i64 xk, .int .i64 xn, .string xs, .slice r m d, .int .i64 v.k, .int .i64 v.n, .string v.s, .slice p3 n3 c3] 32)))))
  have E2 := (blk_on (bel1 _ (.cells #[.slice none 0 0, .slice none 0 0, .int .i64 0] 27)) (blk_on (bel1 _ (.cells #[.slice none 0 0, .slice none 0 0, .int .i64 0] 27)) (blk_new0 ((w.alloc (.cells #[.slice pv g.vs.length cv, .slice pe g.es.length ce, .int .i64 g.last] 27)).alloc (.cells #[.int .i64 dk, .string lb, .int .i64 io, .int .i64 ii, .int .i64 xk, .int .i64 xn, .string xs, .slice r m d, .int .i64 v.k, .int .i64 v.n, .string v.s, .slice p3 n3 c3] 32)) (.cells #[.slice none 0 0, .slice none 0 0, .int .i64 0] 27))))
  have E3 := (blk_on (bel1 _ (.cells #[.slice none 0 0, .slice none 0 0, .int .i64 0] 27)) (blk_new0 (((w.alloc (.cells #[.slice pv g.vs.length cv, .slice pe g.es.length ce, .int .i64 g.last] 27)).alloc (.cells #[.int .i64 dk, .string lb, .int .i64 io, .int .i64 ii, .int .i64 xk, .int .i64 xn, .string xs, .slice r m d, .int .i64 v.k, .int .i64 v.n, .string v.s, .slice p3 n3 c3] 32)).alloc (.cells #[.slice none 0 0, .slice none 0 0, .int .i64 0] 27)) (.cells #[.slice none 0 0, .slice none 0 0, .int .i64 0] 27)))
  have E4 := (blk_new0 ((((w.alloc (.cells #[.slice pv g.vs.length cv, .slice pe g.es.length ce, .int .i64 g.last] 27)).alloc (.cells #[.int .i64 dk, .string lb, .int .i64 io, .int .i64 ii, .int .i64 xk, .int .i64 xn, .string xs, .slice r m d, .int .i64 v.k, .int .i64 v.n, .string v.s, .slice p3 n3 c3] 32)).alloc (.cells #[.slice none 0 0, .slice none 0 0, .int .i64 0] 27)).alloc (.cells #[.slice none 0 0, .slice none 0 0, .int .i64 0] 27)) (.cells #[.slice none 0 0, .slice none 0 0, .int .i64 0] 27))
  simp only [World.size_alloc] at E0 E1 E2 E3 E4
  replace E0 := Lib.hid E0
  replace E1 := Lib.hid E1
  replace E2 := Lib.hid E2
  replace E3 := Lib.hid E3
  replace E4 := Lib.hid E4
  have k0 : (dk == 0) = false := by subst hk; rfl
  have k1 : (dk == 1) = true := by subst hk; rfl
  clear hk
  go_enter Try.func7, Try.ntmps7
  go_wp2_with (fail)
  generalize (((((w.alloc (.cells #[.slice pv g.vs.length cv, .slice pe g.es.length ce, .int .i64 g.last] 27)).alloc (.cells #[.int .i64 dk, .string lb, .int .i64 io, .int .i64 ii, .int .i64 xk, .int .i64 xn, .string xs, .slice r m d, .int .i64 v.k, .int .i64 v.n, .string v.s, .slice p3 n3 c3] 32)).alloc (.cells #[.slice none 0 0, .slice none 0 0, .int .i64 0] 27)).alloc (.cells #[.slice none 0 0, .slice none 0 0, .int .i64 0] 27)).alloc (.cells #[.slice none 0 0, .slice none 0 0, .int .i64 0] 27)) = W0 at *
  have c1 := addE21 g _ _ lb io ii W0 (HG.out.on BW.out) hio hii
  obtain ⟨X, hX⟩ : ∃ x, (rAddE g lb io ii).1 = x := ⟨_, rfl⟩
  have hst : Stays g X := by rw [← hX]; exact st_addE hm lb io ii
  rw [hX] at c1
  obtain ⟨nn, hnn⟩ : ∃ x, (rAddE g lb io ii).2.1 = x := ⟨_, rfl⟩
  rw [hnn] at c1
  clear hnn
  obtain ⟨er, her⟩ : ∃ x, (rAddE g lb io ii).2.2 = x := ⟨_, rfl⟩
  rw [her] at c1
  clear her
  clear hX
  have hst := Lib.hid hst
  unfold Chg3 Gg.agg at c1
  try unfold V.agg at c1
  refine c1.mono ?_
  rintro e W1 ⟨s1, s2, rfl, hin1, hb1⟩
  obtain ⟨p1, m1, rfl⟩ := hin1.2.1.header
  obtain ⟨q1, d1, rfl⟩ := hin1.2.2.header
  have hin2 := hin1.keep (((keepB_set (w := W1) (B := w.heap.size + 1 + 1 + 1) (i := 0) (c := .slice p1 X.vs.length m1) (by have := hz.out; omega)).trans (keepB_set (B := w.heap.size + 1 + 1 + 1) (i := 1) (c := .slice q1 X.es.length d1) (by have := hz.out; omega))).trans (keepB_set (B := w.heap.size + 1 + 1 + 1) (i := 2) (c := .int .i64 X.last) (by have := hz.out; omega))).keep (show w.heap.size + 1 + 1 + 1 + 1 + 1 ≤ W0.heap.size by have := hz.out; omega)
  have BW2 := bel_s3 (bel_then BW.out hb1) (show w.heap.size ≤ w.heap.size + 1 + 1 + 1 by omega) (.slice p1 X.vs.length m1) (.slice q1 X.es.length d1) (.int .i64 X.last)
  have hz1 := hb1.size
  have F0 := blk_oth (i := 2) (c := .int .i64 X.last) (B' := w.heap.size + 1 + 1 + 1) (blk_oth (i := 1) (c := .slice q1 X.es.length d1) (B' := w.heap.size + 1 + 1 + 1) (blk_oth (i := 0) (c := .slice p1 X.vs.length m1) (B' := w.heap.size + 1 + 1 + 1) (blk_on hb1 E0.out) (by omega)) (by omega)) (by omega)
  have F1 := blk_oth (i := 2) (c := .int .i64 X.last) (B' := w.heap.size + 1 + 1 + 1) (blk_oth (i := 1) (c := .slice q1 X.es.length d1) (B' := w.heap.size + 1 + 1 + 1) (blk_oth (i := 0) (c := .slice p1 X.vs.length m1) (B' := w.heap.size + 1 + 1 + 1) (blk_on hb1 E1.out) (by omega)) (by omega)) (by omega)
  have F2 := blk_oth (i := 2) (c := .int .i64 X.last) (B' := w.heap.size + 1 + 1 + 1) (blk_oth (i := 1) (c := .slice q1 X.es.length d1) (B' := w.heap.size + 1 + 1 + 1) (blk_oth (i := 0) (c := .slice p1 X.vs.length m1) (B' := w.heap.size + 1 + 1 + 1) (blk_on hb1 E2.out) (by omega)) (by omega)) (by omega)
  have F4 := blk_oth (i := 2) (c := .int .i64 X.last) (B' := w.heap.size + 1 + 1 + 1) (blk_oth (i := 1) (c := .slice q1 X.es.length d1) (B' := w.heap.size + 1 + 1 + 1) (blk_oth (i := 0) (c := .slice p1 X.vs.length m1) (B' := w.heap.size + 1 + 1 + 1) (blk_on hb1 E4.out) (by omega)) (by omega)) (by omega)
  have F3 := blk_put3 (a' := .slice p1 X.vs.length m1) (b' := .slice q1 X.es.length d1) (c' := .int .i64 X.last) (blk_on hb1 E3.out)
  obtain ⟨z0, z1, z2, fz⟩ := three_of (blk_on hb1 E3.out)
  have hz2 : w.heap.size + 1 + 1 + 1 + 1 < (((W1.setCell ⟨w.heap.size + 1 + 1 + 1, 0, none⟩ (.slice p1 X.vs.length m1)).setCell ⟨w.heap.size + 1 + 1 + 1, 1, none⟩ (.slice q1 X.es.length d1)).setCell ⟨w.heap.size + 1 + 1 + 1, 2, none⟩ (.int .i64 X.last)).heap.size := by simp only [World.setCell, Array.size_modify]; have := hz.out; omega
  clear hin1 hb1 E0 E1 E2 E3 E4 hz1
  replace F0 := Lib.hid F0
  replace F1 := Lib.hid F1
  replace F2 := Lib.hid F2
  replace F3 := Lib.hid F3
  replace F4 := Lib.hid F4
  replace hin2 := Lib.hid hin2
  obtain ⟨x0, x1, x2, fx⟩ := three_of F0.out
  obtain ⟨⟨o0, o1, o2, o3⟩, ⟨o4, o5, o6, o7⟩, o8, o9, oa, ob⟩ := twelve_of F1.out
  go_wp2_with (fail)
  clear z0 z1 z2 fz x0 x1 x2 fx o0 o1 o2 o3 o4 o5 o6 o7 o8 o9 oa ob
  generalize (((W1.setCell ⟨w.heap.size + 1 + 1 + 1, 0, none⟩ (.slice p1 X.vs.length m1)).setCell ⟨w.heap.size + 1 + 1 + 1, 1, none⟩ (.slice q1 X.es.length d1)).setCell ⟨w.heap.size + 1 + 1 + 1, 2, none⟩ (.int .i64 X.last)) = W2 at *
  have c2 := raddE25 g _ _ lb io ii hio hii W2 (HG.out.on BW2) hm
  unfold RD3 Gg.agg at c2
  try unfold V.agg at c2
  refine c2.mono ?_
  rintro e W3 ⟨Y, t1, t2, n2, m2, rfl, hin3, hb3⟩
  obtain ⟨p4, c4, rfl⟩ := hin3.2.1.header
  obtain ⟨q4, d4, rfl⟩ := hin3.2.2.header
  have hz3 := hb3.size
  have kY : KeepB (w.heap.size + 1 + 1 + 1 + 1 + 1) W3 (((W3.setCell ⟨w.heap.size + 1 + 1 + 1 + 1, 0, none⟩ (.slice p4 Y.vs.length c4)).setCell ⟨w.heap.size + 1 + 1 + 1 + 1, 1, none⟩ (.slice q4 Y.es.length d4)).setCell ⟨w.heap.size + 1 + 1 + 1 + 1, 2, none⟩ (.int .i64 Y.last)) := ((keepB_set (Nat.lt_succ_self _)).trans (keepB_set (Nat.lt_succ_self _))).trans (keepB_set (Nat.lt_succ_self _))
  have HY4 := Lib.hid ((hin3.low (show w.heap.size + 1 + 1 + 1 + 1 + 1 ≤ W2.heap.size by omega)).keep kY.keep (Nat.zero_le _))
  have HX4 := Lib.hid ((hin2.out.on hb3).keep kY.keep (Nat.le_refl _))
  have B4 := Lib.hid (bel_s3 (bel_then BW2 hb3) (show w.heap.size ≤ w.heap.size + 1 + 1 + 1 + 1 by omega) (.slice p4 Y.vs.length c4) (.slice q4 Y.es.length d4) (.int .i64 Y.last))
  have G2 := Lib.hid (blk_oth (i := 2) (c := .int .i64 Y.last) (B' := w.heap.size + 1 + 1 + 1 + 1) (blk_oth (i := 1) (c := .slice q4 Y.es.length d4) (B' := w.heap.size + 1 + 1 + 1 + 1) (blk_oth (i := 0) (c := .slice p4 Y.vs.length c4) (B' := w.heap.size + 1 + 1 + 1 + 1) (blk_on hb3 F2.out) (by omega)) (by omega)) (by omega))
  have G3 := Lib.hid (blk_oth (i := 2) (c := .int .i64 Y.last) (B' := w.heap.size + 1 + 1 + 1 + 1) (blk_oth (i := 1) (c := .slice q4 Y.es.length d4) (B' := w.heap.size + 1 + 1 + 1 + 1) (blk_oth (i := 0) (c := .slice p4 Y.vs.length c4) (B' := w.heap.size + 1 + 1 + 1 + 1) (blk_on hb3 F3.out) (by omega)) (by omega)) (by omega))
  have G4 := Lib.hid (blk_put3 (a' := .slice p4 Y.vs.length c4) (b' := .slice q4 Y.es.length d4) (c' := .int .i64 Y.last) (blk_on hb3 F4.out))
  obtain ⟨z0, z1, z2, fz⟩ := three_of (blk_on hb3 F4.out)
  clear hin3 hb3 F0 F1 F2 F3 F4 hin2 kY hz3 hz2 BW2 BW hz HG HX HV
  go_wp2_with (fail)
  clear z0 z1 z2 fz
  generalize (((W3.setCell ⟨w.heap.size + 1 + 1 + 1 + 1, 0, none⟩ (.slice p4 Y.vs.length c4)).setCell ⟨w.heap.size + 1 + 1 + 1 + 1, 1, none⟩ (.slice q4 Y.es.length d4)).setCell ⟨w.heap.size + 1 + 1 + 1 + 1, 2, none⟩ (.int .i64 Y.last)) = W4 at *
  obtain ⟨TB, hTB⟩ : ∃ t, gSame X Y = t := ⟨_, rfl⟩
  have c17 := same17 X Y _ _ _ _ W4.drew ((HX4.out.low (Nat.zero_le _)).on ((Below.refl _ W4).drew)) (HY4.out.on ((Below.refl _ W4).drew))
  rw [hTB] at c17
  clear hTB
  unfold Gg.agg at c17
  obtain ⟨x0, x1, x2, fx⟩ := three_of G3.out
  obtain ⟨z0, z1, z2, fz⟩ := three_of G4.out
  have S0 : (W4.drew.cell? ⟨w.heap.size + 1 + 1 + 1, 0, none⟩ = some (.slice p1 X.vs.length m1) ∧ W4.drew.cell? ⟨w.heap.size + 1 + 1 + 1, 1, none⟩ = some (.slice q1 X.es.length d1) ∧ W4.drew.cell? ⟨w.heap.size + 1 + 1 + 1, 2, none⟩ = some (.int .i64 X.last)) ∧ W4.drew.cell? ⟨w.heap.size + 1 + 1 + 1 + 1, 0, none⟩ = some (.slice p4 Y.vs.length c4) ∧ W4.drew.cell? ⟨w.heap.size + 1 + 1 + 1 + 1, 1, none⟩ = some (.slice q4 Y.es.length d4) ∧ W4.drew.cell? ⟨w.heap.size + 1 + 1 + 1 + 1, 2, none⟩ = some (.int .i64 Y.last) := ⟨⟨x0, x1, x2⟩, z0, z1, z2⟩
  clear x0 x1 x2 fx z0 z1 z2 fz
  cases TB with
  | false =>
    refine wp_region_held_drew (S := (fun u => (u.cell? ⟨w.heap.size + 1 + 1 + 1, 0, none⟩ = some (.slice p1 X.vs.length m1) ∧ u.cell? ⟨w.heap.size + 1 + 1 + 1, 1, none⟩ = some (.slice q1 X.es.length d1) ∧ u.cell? ⟨w.heap.size + 1 + 1 + 1, 2, none⟩ = some (.int .i64 X.last)) ∧ u.cell? ⟨w.heap.size + 1 + 1 + 1 + 1, 0, none⟩ = some (.slice p4 Y.vs.length c4) ∧ u.cell? ⟨w.heap.size + 1 + 1 + 1 + 1, 1, none⟩ = some (.slice q4 Y.es.length d4) ∧ u.cell? ⟨w.heap.size + 1 + 1 + 1 + 1, 2, none⟩ = some (.int .i64 Y.last))) (by kernel_rfl) S0 (fun hHeld => ?_)
    refine take_at (i := 0) (v := .agg #[.slice p1 X.vs.length m1, .slice q1 X.es.length d1, .int .i64 X.last]) 120 rfl rfl (by kernel_rfl) (by kernel_rfl) (by kernel_rfl) (fun _ _ _ h => h) (Or.inl ⟨by kernel_rfl, by intro w hSw; (try dsimp only at hSw); go_simp⟩) (by assumption) ?_
    try simp only [Act.put, List.setIfInBounds_toArray, List.set_cons_zero, List.set_cons_succ]
    refine take_at (i := 1) (v := .agg #[.slice p1 X.vs.length m1, .slice q1 X.es.length d1, .int .i64 X.last]) 121 rfl rfl (by kernel_rfl) (by kernel_rfl) (by kernel_rfl) (fun _ _ _ h => h) (Or.inl ⟨by kernel_rfl, by intro w hSw; (try dsimp only at hSw); go_simp⟩) (by assumption) ?_
    try simp only [Act.put, List.setIfInBounds_toArray, List.set_cons_zero, List.set_cons_succ]
    refine take_at (i := 2) (v := .agg #[.slice p4 Y.vs.length c4, .slice q4 Y.es.length d4, .int .i64 Y.last]) 122 rfl rfl (by kernel_rfl) (by kernel_rfl) (by kernel_rfl) (fun _ _ _ h => h) (Or.inl ⟨by kernel_rfl, by intro w hSw; (try dsimp only at hSw); go_simp⟩) (by assumption) ?_
    try simp only [Act.put, List.setIfInBounds_toArray, List.set_cons_zero, List.set_cons_succ]
    refine wpAnyH_ready (rs := [3]) (by kernel_rfl) (by simp) ?_
    refine AllReadyH.cons (o := { dst := some 123, op := Op.call { callee := Callee.value (Operand.func 17), args := #[Operand.tmp 121, Operand.tmp 122], argTypes := #[27, 27] }, type := 4, pos := "law.go:91", after := #[{ on := 1, ground := Ground.data }, { on := 2, ground := Ground.data }], guard := none }) rfl (fun K hK => ?_) AllReadyH.nil
    go_simp
    go_at_call 17
    refine c17.mono ?_
    rintro e W5 ⟨rfl, hb5⟩
    have S1 := six_onD hb5 S0
    have B5 := Lib.hid (bel_then ((Below.refl _ W4).drew) hb5)
    clear hb5
    refine hK.out _ _ S1 (fun hHeld => ?_)
    clear hK K
    try simp only [Act.put, List.setIfInBounds_toArray, List.set_cons_zero, List.set_cons_succ]
    refine take_at (i := 4) (v := .bool false) 124 rfl rfl (by kernel_rfl) (by kernel_rfl) (by kernel_rfl) (fun _ _ _ h => h) (Or.inl ⟨by kernel_rfl, by intro w hSw; (try dsimp only at hSw); go_simp⟩) (by assumption) ?_
    try simp only [Act.put, List.setIfInBounds_toArray, List.set_cons_zero, List.set_cons_succ]
    refine take_at (i := 5) (v := undef) 125 rfl rfl (by kernel_rfl) (by kernel_rfl) (by kernel_rfl) (fun _ _ _ h => h) (Or.inr ⟨by kernel_rfl, rfl⟩) (by assumption) ?_
    try simp only [Act.put, List.setIfInBounds_toArray, List.set_cons_zero, List.set_cons_succ]
    refine take_at (i := 6) (v := undef) 126 rfl rfl (by kernel_rfl) (by kernel_rfl) (by kernel_rfl) (fun _ _ _ h => h) (Or.inr ⟨by kernel_rfl, rfl⟩) (by assumption) ?_
    try simp only [Act.put, List.setIfInBounds_toArray, List.set_cons_zero, List.set_cons_succ]
    refine take_at (i := 7) (v := undef) 127 rfl rfl (by kernel_rfl) (by kernel_rfl) (by kernel_rfl) (fun _ _ _ h => h) (Or.inr ⟨by kernel_rfl, rfl⟩) (by assumption) ?_
    try simp only [Act.put, List.setIfInBounds_toArray, List.set_cons_zero, List.set_cons_succ]
    refine take_at (i := 8) (v := .bool false) 128 rfl rfl (by kernel_rfl) (by kernel_rfl) (by kernel_rfl) (fun _ _ _ h => h) (Or.inl ⟨by kernel_rfl, by intro w hSw; (try dsimp only at hSw); go_simp⟩) (by assumption) ?_
    try simp only [Act.put, List.setIfInBounds_toArray, List.set_cons_zero, List.set_cons_succ]
    refine take_at (i := 9) (v := .bool false) 129 rfl rfl (by kernel_rfl) (by kernel_rfl) (by kernel_rfl) (fun _ _ _ h => h) (Or.inl ⟨by kernel_rfl, by intro w hSw; (try dsimp only at hSw); go_simp⟩) (by assumption) ?_
    try simp only [Act.put, List.setIfInBounds_toArray, List.set_cons_zero, List.set_cons_succ]
    refine take_at (i := 10) (v := undef) 130 rfl rfl (by kernel_rfl) (by kernel_rfl) (by kernel_rfl) (fun _ _ _ h => h) (Or.inr ⟨by kernel_rfl, rfl⟩) (by assumption) ?_
    try simp only [Act.put, List.setIfInBounds_toArray, List.set_cons_zero, List.set_cons_succ]
    refine take_at (i := 11) (v := undef) 131 rfl rfl (by kernel_rfl) (by kernel_rfl) (by kernel_rfl) (fun _ _ _ h => h) (Or.inr ⟨by kernel_rfl, rfl⟩) (by assumption) ?_
    try simp only [Act.put, List.setIfInBounds_toArray, List.set_cons_zero, List.set_cons_succ]
    refine take_at (i := 12) (v := undef) 132 rfl rfl (by kernel_rfl) (by kernel_rfl) (by kernel_rfl) (fun _ _ _ h => h) (Or.inr ⟨by kernel_rfl, rfl⟩) (by assumption) ?_
    try simp only [Act.put, List.setIfInBounds_toArray, List.set_cons_zero, List.set_cons_succ]
    refine take_at (i := 13) (v := .bool false) 133 rfl rfl (by kernel_rfl) (by kernel_rfl) (by kernel_rfl) (fun _ _ _ h => h) (Or.inl ⟨by kernel_rfl, by intro w hSw; (try dsimp only at hSw); go_simp⟩) (by assumption) ?_
    try simp only [Act.put, List.setIfInBounds_toArray, List.set_cons_zero, List.set_cons_succ]
    refine take_at (i := 14) (v := .bool false) 134 rfl rfl (by kernel_rfl) (by kernel_rfl) (by kernel_rfl) (fun _ _ _ h => h) (Or.inl ⟨by kernel_rfl, by intro w hSw; (try dsimp only at hSw); go_simp⟩) (by assumption) ?_
    try simp only [Act.put, List.setIfInBounds_toArray, List.set_cons_zero, List.set_cons_succ]
    refine take_at (i := 15) (v := undef) 135 rfl rfl (by kernel_rfl) (by kernel_rfl) (by kernel_rfl) (fun _ _ _ h => h) (Or.inr ⟨by kernel_rfl, rfl⟩) (by assumption) ?_
    try simp only [Act.put, List.setIfInBounds_toArray, List.set_cons_zero, List.set_cons_succ]
    refine take_at (i := 16) (v := undef) 136 rfl rfl (by kernel_rfl) (by kernel_rfl) (by kernel_rfl) (fun _ _ _ h => h) (Or.inr ⟨by kernel_rfl, rfl⟩) (by assumption) ?_
    try simp only [Act.put, List.setIfInBounds_toArray, List.set_cons_zero, List.set_cons_succ]
    refine take_at (i := 17) (v := undef) 137 rfl rfl (by kernel_rfl) (by kernel_rfl) (by kernel_rfl) (fun _ _ _ h => h) (Or.inr ⟨by kernel_rfl, rfl⟩) (by assumption) ?_
    try simp only [Act.put, List.setIfInBounds_toArray, List.set_cons_zero, List.set_cons_succ]
    refine take_at (i := 18) (v := .bool false) 138 rfl rfl (by kernel_rfl) (by kernel_rfl) (by kernel_rfl) (fun _ _ _ h => h) (Or.inl ⟨by kernel_rfl, by intro w hSw; (try dsimp only at hSw); go_simp⟩) (by assumption) ?_
    try simp only [Act.put, List.setIfInBounds_toArray, List.set_cons_zero, List.set_cons_succ]
    have S2 := six_putD (B := w.heap.size + 1 + 1) (p := .slice p1 X.vs.length m1) (q := .slice q1 X.es.length d1) (l := .int .i64 X.last) S1 (by omega) (by omega)
    obtain ⟨y0, y1, y2, fy⟩ := three_of (blk_on B5.out G2.out)
    refine wpAnyH_one (i := 19) (o := { dst := none, op := Op.store 27 (Operand.tmp 4) (Operand.tmp 120), type := 0, pos := "law.go:91", after := #[{ on := 0, ground := Ground.data }, { on := 14, ground := Ground.chain }, { on := 0, ground := Ground.phase }, { on := 1, ground := Ground.textOnly Departure.lateStores }, { on := 2, ground := Ground.textOnly Departure.lateStores }, { on := 3, ground := Ground.textOnly Departure.lateStoresUnsure }, { on := 4, ground := Ground.textOnly Departure.lateStores }, { on := 5, ground := Ground.textOnly Departure.lateStores }, { on := 6, ground := Ground.textOnly Departure.lateStores }, { on := 7, ground := Ground.textOnly Departure.lateStores }, { on := 8, ground := Ground.textOnly Departure.lateStores }, { on := 9, ground := Ground.textOnly Departure.lateStores }, { on := 10, ground := Ground.textOnly Departure.lateStores }, { on := 11, ground := Ground.textOnly Departure.lateStores }, { on := 12, ground := Ground.textOnly Departure.lateStores }, { on := 13, ground := Ground.textOnly Departure.lateStores }, { on := 14, ground := Ground.textOnly Departure.lateStores }, { on := 15, ground := Ground.textOnly Departure.lateStores }, { on := 16, ground := Ground.textOnly Departure.lateStores }, { on := 17, ground := Ground.textOnly Departure.lateStores }, { on := 18, ground := Ground.textOnly Departure.lateStores }], guard := none }) (((W5.setCell ⟨w.heap.size + 1 + 1, 0, none⟩ (.slice p1 X.vs.length m1)).setCell ⟨w.heap.size + 1 + 1, 1, none⟩ (.slice q1 X.es.length d1)).setCell ⟨w.heap.size + 1 + 1, 2, none⟩ (.int .i64 X.last)) (by kernel_rfl) (by kernel_rfl) (by kernel_rfl) ?hop S2 ?_
    case hop =>
      intro K hK
      go_simp
      exact hK
    refine take_at (i := 20) (v := .bool false) 5 rfl rfl (by kernel_rfl) (by kernel_rfl) (by kernel_rfl) (fun _ _ _ h => h) (Or.inl ⟨by kernel_rfl, by intro w hSw; (try dsimp only at hSw); go_simp⟩) (by assumption) ?_
    try simp only [Act.put, List.setIfInBounds_toArray, List.set_cons_zero, List.set_cons_succ]
    refine wpAnyH_done (by kernel_rfl) ?_ _
    go_wp2
    simp [bodyPost, results, Try.results7, go_sem, y0, y1, y2]
    refine ⟨X, _, _, _, rfl, ?_, ?_, hst.out⟩
    · exact (HX4.out.on B5.out).keep (((keepB_set (show w.heap.size + 1 + 1 < w.heap.size + 1 + 1 + 1 + 1 + 1 by omega)).trans (keepB_set (show w.heap.size + 1 + 1 < w.heap.size + 1 + 1 + 1 + 1 + 1 by omega))).trans (keepB_set (show w.heap.size + 1 + 1 < w.heap.size + 1 + 1 + 1 + 1 + 1 by omega))).keep (by omega)
    · exact bel_s3 (bel_then B4.out B5.out) (by omega) _ _ _
  | true =>
    obtain ⟨t0, e0⟩ : ∃ t, (er == m2) = t := ⟨_, rfl⟩
    cases t0 with
    | false =>
      refine wp_region_held_drew (S := (fun u => (u.cell? ⟨w.heap.size + 1 + 1 + 1, 0, none⟩ = some (.slice p1 X.vs.length m1) ∧ u.cell? ⟨w.heap.size + 1 + 1 + 1, 1, none⟩ = some (.slice q1 X.es.length d1) ∧ u.cell? ⟨w.heap.size + 1 + 1 + 1, 2, none⟩ = some (.int .i64 X.last)) ∧ u.cell? ⟨w.heap.size + 1 + 1 + 1 + 1, 0, none⟩ = some (.slice p4 Y.vs.length c4) ∧ u.cell? ⟨w.heap.size + 1 + 1 + 1 + 1, 1, none⟩ = some (.slice q4 Y.es.length d4) ∧ u.cell? ⟨w.heap.size + 1 + 1 + 1 + 1, 2, none⟩ = some (.int .i64 Y.last))) (by kernel_rfl) S0 (fun hHeld => ?_)
      refine take_at (i := 0) (v := .agg #[.slice p1 X.vs.length m1, .slice q1 X.es.length d1, .int .i64 X.last]) 120 rfl rfl (by kernel_rfl) (by kernel_rfl) (by kernel_rfl) (fun _ _ _ h => h) (Or.inl ⟨by kernel_rfl, by intro w hSw; (try dsimp only at hSw); go_simp⟩) (by assumption) ?_
      try simp only [Act.put, List.setIfInBounds_toArray, List.set_cons_zero, List.set_cons_succ]
      refine take_at (i := 1) (v := .agg #[.slice p1 X.vs.length m1, .slice q1 X.es.length d1, .int .i64 X.last]) 121 rfl rfl (by kernel_rfl) (by kernel_rfl) (by kernel_rfl) (fun _ _ _ h => h) (Or.inl ⟨by kernel_rfl, by intro w hSw; (try dsimp only at hSw); go_simp⟩) (by assumption) ?_
      try simp only [Act.put, List.setIfInBounds_toArray, List.set_cons_zero, List.set_cons_succ]
      refine take_at (i := 2) (v := .agg #[.slice p4 Y.vs.length c4, .slice q4 Y.es.length d4, .int .i64 Y.last]) 122 rfl rfl (by kernel_rfl) (by kernel_rfl) (by kernel_rfl) (fun _ _ _ h => h) (Or.inl ⟨by kernel_rfl, by intro w hSw; (try dsimp only at hSw); go_simp⟩) (by assumption) ?_
      try simp only [Act.put, List.setIfInBounds_toArray, List.set_cons_zero, List.set_cons_succ]
      refine wpAnyH_ready (rs := [3]) (by kernel_rfl) (by simp) ?_
      refine AllReadyH.cons (o := { dst := some 123, op := Op.call { callee := Callee.value (Operand.func 17), args := #[Operand.tmp 121, Operand.tmp 122], argTypes := #[27, 27] }, type := 4, pos := "law.go:91", after := #[{ on := 1, ground := Ground.data }, { on := 2, ground := Ground.data }], guard := none }) rfl (fun K hK => ?_) AllReadyH.nil
      go_simp
      go_at_call 17
      refine c17.mono ?_
      rintro e W5 ⟨rfl, hb5⟩
      have S1 := six_onD hb5 S0
      have B5 := Lib.hid (bel_then ((Below.refl _ W4).drew) hb5)
      clear hb5
      refine hK.out _ _ S1 (fun hHeld => ?_)
      clear hK K
      try simp only [Act.put, List.setIfInBounds_toArray, List.set_cons_zero, List.set_cons_succ]
      refine take_at (i := 4) (v := .bool true) 124 rfl rfl (by kernel_rfl) (by kernel_rfl) (by kernel_rfl) (fun _ _ _ h => h) (Or.inl ⟨by kernel_rfl, by intro w hSw; (try dsimp only at hSw); go_simp⟩) (by assumption) ?_
      try simp only [Act.put, List.setIfInBounds_toArray, List.set_cons_zero, List.set_cons_succ]
      refine take_at (i := 5) (v := .int .i64 er) 125 rfl rfl (by kernel_rfl) (by kernel_rfl) (by kernel_rfl) (fun _ _ _ h => h) (Or.inl ⟨by kernel_rfl, by intro w hSw; (try dsimp only at hSw); go_simp⟩) (by assumption) ?_
      try simp only [Act.put, List.setIfInBounds_toArray, List.set_cons_zero, List.set_cons_succ]
      refine take_at (i := 6) (v := .int .i64 m2) 126 rfl rfl (by kernel_rfl) (by kernel_rfl) (by kernel_rfl) (fun _ _ _ h => h) (Or.inl ⟨by kernel_rfl, by intro w hSw; (try dsimp only at hSw); go_simp⟩) (by assumption) ?_
      try simp only [Act.put, List.setIfInBounds_toArray, List.set_cons_zero, List.set_cons_succ]
      refine take_at (i := 7) (v := .bool false) 127 rfl rfl (by kernel_rfl) (by kernel_rfl) (by kernel_rfl) (fun _ _ _ h => h) (Or.inl ⟨by kernel_rfl, by intro w hSw; (try dsimp only at hSw); go_simp⟩) (by assumption) ?_
      try simp only [Act.put, List.setIfInBounds_toArray, List.set_cons_zero, List.set_cons_succ]
      refine take_at (i := 8) (v := .bool false) 128 rfl rfl (by kernel_rfl) (by kernel_rfl) (by kernel_rfl) (fun _ _ _ h => h) (Or.inl ⟨by kernel_rfl, by intro w hSw; (try dsimp only at hSw); go_simp⟩) (by assumption) ?_
      try simp only [Act.put, List.setIfInBounds_toArray, List.set_cons_zero, List.set_cons_succ]
      refine take_at (i := 9) (v := .bool false) 129 rfl rfl (by kernel_rfl) (by kernel_rfl) (by kernel_rfl) (fun _ _ _ h => h) (Or.inl ⟨by kernel_rfl, by intro w hSw; (try dsimp only at hSw); go_simp⟩) (by assumption) ?_
      try simp only [Act.put, List.setIfInBounds_toArray, List.set_cons_zero, List.set_cons_succ]
      refine take_at (i := 10) (v := undef) 130 rfl rfl (by kernel_rfl) (by kernel_rfl) (by kernel_rfl) (fun _ _ _ h => h) (Or.inr ⟨by kernel_rfl, rfl⟩) (by assumption) ?_
      try simp only [Act.put, List.setIfInBounds_toArray, List.set_cons_zero, List.set_cons_succ]
      refine take_at (i := 11) (v := undef) 131 rfl rfl (by kernel_rfl) (by kernel_rfl) (by kernel_rfl) (fun _ _ _ h => h) (Or.inr ⟨by kernel_rfl, rfl⟩) (by assumption) ?_
      try simp only [Act.put, List.setIfInBounds_toArray, List.set_cons_zero, List.set_cons_succ]
      refine take_at (i := 12) (v := undef) 132 rfl rfl (by kernel_rfl) (by kernel_rfl) (by kernel_rfl) (fun _ _ _ h => h) (Or.inr ⟨by kernel_rfl, rfl⟩) (by assumption) ?_
      try simp only [Act.put, List.setIfInBounds_toArray, List.set_cons_zero, List.set_cons_succ]
      refine take_at (i := 13) (v := .bool false) 133 rfl rfl (by kernel_rfl) (by kernel_rfl) (by kernel_rfl) (fun _ _ _ h => h) (Or.inl ⟨by kernel_rfl, by intro w hSw; (try dsimp only at hSw); go_simp⟩) (by assumption) ?_
      try simp only [Act.put, List.setIfInBounds_toArray, List.set_cons_zero, List.set_cons_succ]
      refine take_at (i := 14) (v := .bool false) 134 rfl rfl (by kernel_rfl) (by kernel_rfl) (by kernel_rfl) (fun _ _ _ h => h) (Or.inl ⟨by kernel_rfl, by intro w hSw; (try dsimp only at hSw); go_simp⟩) (by assumption) ?_
      try simp only [Act.put, List.setIfInBounds_toArray, List.set_cons_zero, List.set_cons_succ]
      refine take_at (i := 15) (v := undef) 135 rfl rfl (by kernel_rfl) (by kernel_rfl) (by kernel_rfl) (fun _ _ _ h => h) (Or.inr ⟨by kernel_rfl, rfl⟩) (by assumption) ?_
      try simp only [Act.put, List.setIfInBounds_toArray, List.set_cons_zero, List.set_cons_succ]
      refine take_at (i := 16) (v := undef) 136 rfl rfl (by kernel_rfl) (by kernel_rfl) (by kernel_rfl) (fun _ _ _ h => h) (Or.inr ⟨by kernel_rfl, rfl⟩) (by assumption) ?_
      try simp only [Act.put, List.setIfInBounds_toArray, List.set_cons_zero, List.set_cons_succ]
      refine take_at (i := 17) (v := undef) 137 rfl rfl (by kernel_rfl) (by kernel_rfl) (by kernel_rfl) (fun _ _ _ h => h) (Or.inr ⟨by kernel_rfl, rfl⟩) (by assumption) ?_
      try simp only [Act.put, List.setIfInBounds_toArray, List.set_cons_zero, List.set_cons_succ]
      refine take_at (i := 18) (v := .bool false) 138 rfl rfl (by kernel_rfl) (by kernel_rfl) (by kernel_rfl) (fun _ _ _ h => h) (Or.inl ⟨by kernel_rfl, by intro w hSw; (try dsimp only at hSw); go_simp⟩) (by assumption) ?_
      try simp only [Act.put, List.setIfInBounds_toArray, List.set_cons_zero, List.set_cons_succ]
      have S2 := six_putD (B := w.heap.size + 1 + 1) (p := .slice p1 X.vs.length m1) (q := .slice q1 X.es.length d1) (l := .int .i64 X.last) S1 (by omega) (by omega)
      obtain ⟨y0, y1, y2, fy⟩ := three_of (blk_on B5.out G2.out)
      refine wpAnyH_one (i := 19) (o := { dst := none, op := Op.store 27 (Operand.tmp 4) (Operand.tmp 120), type := 0, pos := "law.go:91", after := #[{ on := 0, ground := Ground.data }, { on := 14, ground := Ground.chain }, { on := 0, ground := Ground.phase }, { on := 1, ground := Ground.textOnly Departure.lateStores }, { on := 2, ground := Ground.textOnly Departure.lateStores }, { on := 3, ground := Ground.textOnly Departure.lateStoresUnsure }, { on := 4, ground := Ground.textOnly Departure.lateStores }, { on := 5, ground := Ground.textOnly Departure.lateStores }, { on := 6, ground := Ground.textOnly Departure.lateStores }, { on := 7, ground := Ground.textOnly Departure.lateStores }, { on := 8, ground := Ground.textOnly Departure.lateStores }, { on := 9, ground := Ground.textOnly Departure.lateStores }, { on := 10, ground := Ground.textOnly Departure.lateStores }, { on := 11, ground := Ground.textOnly Departure.lateStores }, { on := 12, ground := Ground.textOnly Departure.lateStores }, { on := 13, ground := Ground.textOnly Departure.lateStores }, { on := 14, ground := Ground.textOnly Departure.lateStores }, { on := 15, ground := Ground.textOnly Departure.lateStores }, { on := 16, ground := Ground.textOnly Departure.lateStores }, { on := 17, ground := Ground.textOnly Departure.lateStores }, { on := 18, ground := Ground.textOnly Departure.lateStores }], guard := none }) (((W5.setCell ⟨w.heap.size + 1 + 1, 0, none⟩ (.slice p1 X.vs.length m1)).setCell ⟨w.heap.size + 1 + 1, 1, none⟩ (.slice q1 X.es.length d1)).setCell ⟨w.heap.size + 1 + 1, 2, none⟩ (.int .i64 X.last)) (by kernel_rfl) (by kernel_rfl) (by kernel_rfl) ?hop S2 ?_
      case hop =>
        intro K hK
        go_simp
        exact hK
      refine take_at (i := 20) (v := .bool false) 5 rfl rfl (by kernel_rfl) (by kernel_rfl) (by kernel_rfl) (fun _ _ _ h => h) (Or.inl ⟨by kernel_rfl, by intro w hSw; (try dsimp only at hSw); go_simp⟩) (by assumption) ?_
      try simp only [Act.put, List.setIfInBounds_toArray, List.set_cons_zero, List.set_cons_succ]
      refine wpAnyH_done (by kernel_rfl) ?_ _
      go_wp2
      simp [bodyPost, results, Try.results7, go_sem, y0, y1, y2]
      refine ⟨X, _, _, _, rfl, ?_, ?_, hst.out⟩
      · exact (HX4.out.on B5.out).keep (((keepB_set (show w.heap.size + 1 + 1 < w.heap.size + 1 + 1 + 1 + 1 + 1 by omega)).trans (keepB_set (show w.heap.size + 1 + 1 < w.heap.size + 1 + 1 + 1 + 1 + 1 by omega))).trans (keepB_set (show w.heap.size + 1 + 1 < w.heap.size + 1 + 1 + 1 + 1 + 1 by omega))).keep (by omega)
      · exact bel_s3 (bel_then B4.out B5.out) (by omega) _ _ _
    | true =>
      obtain ⟨t1, e1⟩ : ∃ t, (nn == n2) = t := ⟨_, rfl⟩
      cases t1 with
      | false =>
        refine wp_region_held_drew (S := (fun u => (u.cell? ⟨w.heap.size + 1 + 1 + 1, 0, none⟩ = some (.slice p1 X.vs.length m1) ∧ u.cell? ⟨w.heap.size + 1 + 1 + 1, 1, none⟩ = some (.slice q1 X.es.length d1) ∧ u.cell? ⟨w.heap.size + 1 + 1 + 1, 2, none⟩ = some (.int .i64 X.last)) ∧ u.cell? ⟨w.heap.size + 1 + 1 + 1 + 1, 0, none⟩ = some (.slice p4 Y.vs.length c4) ∧ u.cell? ⟨w.heap.size + 1 + 1 + 1 + 1, 1, none⟩ = some (.slice q4 Y.es.length d4) ∧ u.cell? ⟨w.heap.size + 1 + 1 + 1 + 1, 2, none⟩ = some (.int .i64 Y.last))) (by kernel_rfl) S0 (fun hHeld => ?_)
        refine take_at (i := 0) (v := .agg #[.slice p1 X.vs.length m1, .slice q1 X.es.length d1, .int .i64 X.last]) 120 rfl rfl (by kernel_rfl) (by kernel_rfl) (by kernel_rfl) (fun _ _ _ h => h) (Or.inl ⟨by kernel_rfl, by intro w hSw; (try dsimp only at hSw); go_simp⟩) (by assumption) ?_
        try simp only [Act.put, List.setIfInBounds_toArray, List.set_cons_zero, List.set_cons_succ]
        refine take_at (i := 1) (v := .agg #[.slice p1 X.vs.length m1, .slice q1 X.es.length d1, .int .i64 X.last]) 121 rfl rfl (by kernel_rfl) (by kernel_rfl) (by kernel_rfl) (fun _ _ _ h => h) (Or.inl ⟨by kernel_rfl, by intro w hSw; (try dsimp only at hSw); go_simp⟩) (by assumption) ?_
        try simp only [Act.put, List.setIfInBounds_toArray, List.set_cons_zero, List.set_cons_succ]
        refine take_at (i := 2) (v := .agg #[.slice p4 Y.vs.length c4, .slice q4 Y.es.length d4, .int .i64 Y.last]) 122 rfl rfl (by kernel_rfl) (by kernel_rfl) (by kernel_rfl) (fun _ _ _ h => h) (Or.inl ⟨by kernel_rfl, by intro w hSw; (try dsimp only at hSw); go_simp⟩) (by assumption) ?_
        try simp only [Act.put, List.setIfInBounds_toArray, List.set_cons_zero, List.set_cons_succ]
        refine wpAnyH_ready (rs := [3]) (by kernel_rfl) (by simp) ?_
        refine AllReadyH.cons (o := { dst := some 123, op := Op.call { callee := Callee.value (Operand.func 17), args := #[Operand.tmp 121, Operand.tmp 122], argTypes := #[27, 27] }, type := 4, pos := "law.go:91", after := #[{ on := 1, ground := Ground.data }, { on := 2, ground := Ground.data }], guard := none }) rfl (fun K hK => ?_) AllReadyH.nil
        go_simp
        go_at_call 17
        refine c17.mono ?_
        rintro e W5 ⟨rfl, hb5⟩
        have S1 := six_onD hb5 S0
        have B5 := Lib.hid (bel_then ((Below.refl _ W4).drew) hb5)
        clear hb5
        refine hK.out _ _ S1 (fun hHeld => ?_)
        clear hK K
        try simp only [Act.put, List.setIfInBounds_toArray, List.set_cons_zero, List.set_cons_succ]
        refine take_at (i := 4) (v := .bool true) 124 rfl rfl (by kernel_rfl) (by kernel_rfl) (by kernel_rfl) (fun _ _ _ h => h) (Or.inl ⟨by kernel_rfl, by intro w hSw; (try dsimp only at hSw); go_simp⟩) (by assumption) ?_
        try simp only [Act.put, List.setIfInBounds_toArray, List.set_cons_zero, List.set_cons_succ]
        refine take_at (i := 5) (v := .int .i64 er) 125 rfl rfl (by kernel_rfl) (by kernel_rfl) (by kernel_rfl) (fun _ _ _ h => h) (Or.inl ⟨by kernel_rfl, by intro w hSw; (try dsimp only at hSw); go_simp⟩) (by assumption) ?_
        try simp only [Act.put, List.setIfInBounds_toArray, List.set_cons_zero, List.set_cons_succ]
        refine take_at (i := 6) (v := .int .i64 m2) 126 rfl rfl (by kernel_rfl) (by kernel_rfl) (by kernel_rfl) (fun _ _ _ h => h) (Or.inl ⟨by kernel_rfl, by intro w hSw; (try dsimp only at hSw); go_simp⟩) (by assumption) ?_
        try simp only [Act.put, List.setIfInBounds_toArray, List.set_cons_zero, List.set_cons_succ]
        refine take_at (i := 7) (v := .bool true) 127 rfl rfl (by kernel_rfl) (by kernel_rfl) (by kernel_rfl) (fun _ _ _ h => h) (Or.inl ⟨by kernel_rfl, by intro w hSw; (try dsimp only at hSw); go_simp⟩) (by assumption) ?_
        try simp only [Act.put, List.setIfInBounds_toArray, List.set_cons_zero, List.set_cons_succ]
        refine take_at (i := 8) (v := .bool true) 128 rfl rfl (by kernel_rfl) (by kernel_rfl) (by kernel_rfl) (fun _ _ _ h => h) (Or.inl ⟨by kernel_rfl, by intro w hSw; (try dsimp only at hSw); go_simp⟩) (by assumption) ?_
        try simp only [Act.put, List.setIfInBounds_toArray, List.set_cons_zero, List.set_cons_succ]
        refine take_at (i := 9) (v := .bool true) 129 rfl rfl (by kernel_rfl) (by kernel_rfl) (by kernel_rfl) (fun _ _ _ h => h) (Or.inl ⟨by kernel_rfl, by intro w hSw; (try dsimp only at hSw); go_simp⟩) (by assumption) ?_
        try simp only [Act.put, List.setIfInBounds_toArray, List.set_cons_zero, List.set_cons_succ]
        refine take_at (i := 10) (v := .int .i64 nn) 130 rfl rfl (by kernel_rfl) (by kernel_rfl) (by kernel_rfl) (fun _ _ _ h => h) (Or.inl ⟨by kernel_rfl, by intro w hSw; (try dsimp only at hSw); go_simp⟩) (by assumption) ?_
        try simp only [Act.put, List.setIfInBounds_toArray, List.set_cons_zero, List.set_cons_succ]
        refine take_at (i := 11) (v := .int .i64 n2) 131 rfl rfl (by kernel_rfl) (by kernel_rfl) (by kernel_rfl) (fun _ _ _ h => h) (Or.inl ⟨by kernel_rfl, by intro w hSw; (try dsimp only at hSw); go_simp⟩) (by assumption) ?_
        try simp only [Act.put, List.setIfInBounds_toArray, List.set_cons_zero, List.set_cons_succ]
        refine take_at (i := 12) (v := .bool false) 132 rfl rfl (by kernel_rfl) (by kernel_rfl) (by kernel_rfl) (fun _ _ _ h => h) (Or.inl ⟨by kernel_rfl, by intro w hSw; (try dsimp only at hSw); go_simp⟩) (by assumption) ?_
        try simp only [Act.put, List.setIfInBounds_toArray, List.set_cons_zero, List.set_cons_succ]
        refine take_at (i := 13) (v := .bool false) 133 rfl rfl (by kernel_rfl) (by kernel_rfl) (by kernel_rfl) (fun _ _ _ h => h) (Or.inl ⟨by kernel_rfl, by intro w hSw; (try dsimp only at hSw); go_simp⟩) (by assumption) ?_
        try simp only [Act.put, List.setIfInBounds_toArray, List.set_cons_zero, List.set_cons_succ]
        refine take_at (i := 14) (v := .bool false) 134 rfl rfl (by kernel_rfl) (by kernel_rfl) (by kernel_rfl) (fun _ _ _ h => h) (Or.inl ⟨by kernel_rfl, by intro w hSw; (try dsimp only at hSw); go_simp⟩) (by assumption) ?_
        try simp only [Act.put, List.setIfInBounds_toArray, List.set_cons_zero, List.set_cons_succ]
        refine take_at (i := 15) (v := undef) 135 rfl rfl (by kernel_rfl) (by kernel_rfl) (by kernel_rfl) (fun _ _ _ h => h) (Or.inr ⟨by kernel_rfl, rfl⟩) (by assumption) ?_
        try simp only [Act.put, List.setIfInBounds_toArray, List.set_cons_zero, List.set_cons_succ]
        refine take_at (i := 16) (v := undef) 136 rfl rfl (by kernel_rfl) (by kernel_rfl) (by kernel_rfl) (fun _ _ _ h => h) (Or.inr ⟨by kernel_rfl, rfl⟩) (by assumption) ?_
        try simp only [Act.put, List.setIfInBounds_toArray, List.set_cons_zero, List.set_cons_succ]
        refine take_at (i := 17) (v := undef) 137 rfl rfl (by kernel_rfl) (by kernel_rfl) (by kernel_rfl) (fun _ _ _ h => h) (Or.inr ⟨by kernel_rfl, rfl⟩) (by assumption) ?_
        try simp only [Act.put, List.setIfInBounds_toArray, List.set_cons_zero, List.set_cons_succ]
        refine take_at (i := 18) (v := .bool false) 138 rfl rfl (by kernel_rfl) (by kernel_rfl) (by kernel_rfl) (fun _ _ _ h => h) (Or.inl ⟨by kernel_rfl, by intro w hSw; (try dsimp only at hSw); go_simp⟩) (by assumption) ?_
        try simp only [Act.put, List.setIfInBounds_toArray, List.set_cons_zero, List.set_cons_succ]
        have S2 := six_putD (B := w.heap.size + 1 + 1) (p := .slice p1 X.vs.length m1) (q := .slice q1 X.es.length d1) (l := .int .i64 X.last) S1 (by omega) (by omega)
        obtain ⟨y0, y1, y2, fy⟩ := three_of (blk_on B5.out G2.out)
        refine wpAnyH_one (i := 19) (o := { dst := none, op := Op.store 27 (Operand.tmp 4) (Operand.tmp 120), type := 0, pos := "law.go:91", after := #[{ on := 0, ground := Ground.data }, { on := 14, ground := Ground.chain }, { on := 0, ground := Ground.phase }, { on := 1, ground := Ground.textOnly Departure.lateStores }, { on := 2, ground := Ground.textOnly Departure.lateStores }, { on := 3, ground := Ground.textOnly Departure.lateStoresUnsure }, { on := 4, ground := Ground.textOnly Departure.lateStores }, { on := 5, ground := Ground.textOnly Departure.lateStores }, { on := 6, ground := Ground.textOnly Departure.lateStores }, { on := 7, ground := Ground.textOnly Departure.lateStores }, { on := 8, ground := Ground.textOnly Departure.lateStores }, { on := 9, ground := Ground.textOnly Departure.lateStores }, { on := 10, ground := Ground.textOnly Departure.lateStores }, { on := 11, ground := Ground.textOnly Departure.lateStores }, { on := 12, ground := Ground.textOnly Departure.lateStores }, { on := 13, ground := Ground.textOnly Departure.lateStores }, { on := 14, ground := Ground.textOnly Departure.lateStores }, { on := 15, ground := Ground.textOnly Departure.lateStores }, { on := 16, ground := Ground.textOnly Departure.lateStores }, { on := 17, ground := Ground.textOnly Departure.lateStores }, { on := 18, ground := Ground.textOnly Departure.lateStores }], guard := none }) (((W5.setCell ⟨w.heap.size + 1 + 1, 0, none⟩ (.slice p1 X.vs.length m1)).setCell ⟨w.heap.size + 1 + 1, 1, none⟩ (.slice q1 X.es.length d1)).setCell ⟨w.heap.size + 1 + 1, 2, none⟩ (.int .i64 X.last)) (by kernel_rfl) (by kernel_rfl) (by kernel_rfl) ?hop S2 ?_
        case hop =>
          intro K hK
          go_simp
          exact hK
        refine take_at (i := 20) (v := .bool false) 5 rfl rfl (by kernel_rfl) (by kernel_rfl) (by kernel_rfl) (fun _ _ _ h => h) (Or.inl ⟨by kernel_rfl, by intro w hSw; (try dsimp only at hSw); go_simp⟩) (by assumption) ?_
        try simp only [Act.put, List.setIfInBounds_toArray, List.set_cons_zero, List.set_cons_succ]
        refine wpAnyH_done (by kernel_rfl) ?_ _
        go_wp2
        simp [bodyPost, results, Try.results7, go_sem, y0, y1, y2]
        refine ⟨X, _, _, _, rfl, ?_, ?_, hst.out⟩
        · exact (HX4.out.on B5.out).keep (((keepB_set (show w.heap.size + 1 + 1 < w.heap.size + 1 + 1 + 1 + 1 + 1 by omega)).trans (keepB_set (show w.heap.size + 1 + 1 < w.heap.size + 1 + 1 + 1 + 1 + 1 by omega))).trans (keepB_set (show w.heap.size + 1 + 1 < w.heap.size + 1 + 1 + 1 + 1 + 1 by omega))).keep (by omega)
        · exact bel_s3 (bel_then B4.out B5.out) (by omega) _ _ _
      | true =>
        refine wp_region_held_drew (S := (fun u => (u.cell? ⟨w.heap.size + 1 + 1 + 1, 0, none⟩ = some (.slice p1 X.vs.length m1) ∧ u.cell? ⟨w.heap.size + 1 + 1 + 1, 1, none⟩ = some (.slice q1 X.es.length d1) ∧ u.cell? ⟨w.heap.size + 1 + 1 + 1, 2, none⟩ = some (.int .i64 X.last)) ∧ u.cell? ⟨w.heap.size + 1 + 1 + 1 + 1, 0, none⟩ = some (.slice p4 Y.vs.length c4) ∧ u.cell? ⟨w.heap.size + 1 + 1 + 1 + 1, 1, none⟩ = some (.slice q4 Y.es.length d4) ∧ u.cell? ⟨w.heap.size + 1 + 1 + 1 + 1, 2, none⟩ = some (.int .i64 Y.last))) (by kernel_rfl) S0 (fun hHeld => ?_)
        refine take_at (i := 0) (v := .agg #[.slice p1 X.vs.length m1, .slice q1 X.es.length d1, .int .i64 X.last]) 120 rfl rfl (by kernel_rfl) (by kernel_rfl) (by kernel_rfl) (fun _ _ _ h => h) (Or.inl ⟨by kernel_rfl, by intro w hSw; (try dsimp only at hSw); go_simp⟩) (by assumption) ?_
        try simp only [Act.put, List.setIfInBounds_toArray, List.set_cons_zero, List.set_cons_succ]
        refine take_at (i := 1) (v := .agg #[.slice p1 X.vs.length m1, .slice q1 X.es.length d1, .int .i64 X.last]) 121 rfl rfl (by kernel_rfl) (by kernel_rfl) (by kernel_rfl) (fun _ _ _ h => h) (Or.inl ⟨by kernel_rfl, by intro w hSw; (try dsimp only at hSw); go_simp⟩) (by assumption) ?_
        try simp only [Act.put, List.setIfInBounds_toArray, List.set_cons_zero, List.set_cons_succ]
        refine take_at (i := 2) (v := .agg #[.slice p4 Y.vs.length c4, .slice q4 Y.es.length d4, .int .i64 Y.last]) 122 rfl rfl (by kernel_rfl) (by kernel_rfl) (by kernel_rfl) (fun _ _ _ h => h) (Or.inl ⟨by kernel_rfl, by intro w hSw; (try dsimp only at hSw); go_simp⟩) (by assumption) ?_
        try simp only [Act.put, List.setIfInBounds_toArray, List.set_cons_zero, List.set_cons_succ]
        refine wpAnyH_ready (rs := [3]) (by kernel_rfl) (by simp) ?_
        refine AllReadyH.cons (o := { dst := some 123, op := Op.call { callee := Callee.value (Operand.func 17), args := #[Operand.tmp 121, Operand.tmp 122], argTypes := #[27, 27] }, type := 4, pos := "law.go:91", after := #[{ on := 1, ground := Ground.data }, { on := 2, ground := Ground.data }], guard := none }) rfl (fun K hK => ?_) AllReadyH.nil
        go_simp
        go_at_call 17
        refine c17.mono ?_
        rintro e W5 ⟨rfl, hb5⟩
        have S1 := six_onD hb5 S0
        have B5 := Lib.hid (bel_then ((Below.refl _ W4).drew) hb5)
        clear hb5
        refine hK.out _ _ S1 (fun hHeld => ?_)
        clear hK K
        try simp only [Act.put, List.setIfInBounds_toArray, List.set_cons_zero, List.set_cons_succ]
        refine take_at (i := 4) (v := .bool true) 124 rfl rfl (by kernel_rfl) (by kernel_rfl) (by kernel_rfl) (fun _ _ _ h => h) (Or.inl ⟨by kernel_rfl, by intro w hSw; (try dsimp only at hSw); go_simp⟩) (by assumption) ?_
        try simp only [Act.put, List.setIfInBounds_toArray, List.set_cons_zero, List.set_cons_succ]
        refine take_at (i := 5) (v := .int .i64 er) 125 rfl rfl (by kernel_rfl) (by kernel_rfl) (by kernel_rfl) (fun _ _ _ h => h) (Or.inl ⟨by kernel_rfl, by intro w hSw; (try dsimp only at hSw); go_simp⟩) (by assumption) ?_
        try simp only [Act.put, List.setIfInBounds_toArray, List.set_cons_zero, List.set_cons_succ]
        refine take_at (i := 6) (v := .int .i64 m2) 126 rfl rfl (by kernel_rfl) (by kernel_rfl) (by kernel_rfl) (fun _ _ _ h => h) (Or.inl ⟨by kernel_rfl, by intro w hSw; (try dsimp only at hSw); go_simp⟩) (by assumption) ?_
        try simp only [Act.put, List.setIfInBounds_toArray, List.set_cons_zero, List.set_cons_succ]
        refine take_at (i := 7) (v := .bool true) 127 rfl rfl (by kernel_rfl) (by kernel_rfl) (by kernel_rfl) (fun _ _ _ h => h) (Or.inl ⟨by kernel_rfl, by intro w hSw; (try dsimp only at hSw); go_simp⟩) (by assumption) ?_
        try simp only [Act.put, List.setIfInBounds_toArray, List.set_cons_zero, List.set_cons_succ]
        refine take_at (i := 8) (v := .bool true) 128 rfl rfl (by kernel_rfl) (by kernel_rfl) (by kernel_rfl) (fun _ _ _ h => h) (Or.inl ⟨by kernel_rfl, by intro w hSw; (try dsimp only at hSw); go_simp⟩) (by assumption) ?_
        try simp only [Act.put, List.setIfInBounds_toArray, List.set_cons_zero, List.set_cons_succ]
        refine take_at (i := 9) (v := .bool true) 129 rfl rfl (by kernel_rfl) (by kernel_rfl) (by kernel_rfl) (fun _ _ _ h => h) (Or.inl ⟨by kernel_rfl, by intro w hSw; (try dsimp only at hSw); go_simp⟩) (by assumption) ?_
        try simp only [Act.put, List.setIfInBounds_toArray, List.set_cons_zero, List.set_cons_succ]
        refine take_at (i := 10) (v := .int .i64 nn) 130 rfl rfl (by kernel_rfl) (by kernel_rfl) (by kernel_rfl) (fun _ _ _ h => h) (Or.inl ⟨by kernel_rfl, by intro w hSw; (try dsimp only at hSw); go_simp⟩) (by assumption) ?_
        try simp only [Act.put, List.setIfInBounds_toArray, List.set_cons_zero, List.set_cons_succ]
        refine take_at (i := 11) (v := .int .i64 n2) 131 rfl rfl (by kernel_rfl) (by kernel_rfl) (by kernel_rfl) (fun _ _ _ h => h) (Or.inl ⟨by kernel_rfl, by intro w hSw; (try dsimp only at hSw); go_simp⟩) (by assumption) ?_
        try simp only [Act.put, List.setIfInBounds_toArray, List.set_cons_zero, List.set_cons_succ]
        refine take_at (i := 12) (v := .bool true) 132 rfl rfl (by kernel_rfl) (by kernel_rfl) (by kernel_rfl) (fun _ _ _ h => h) (Or.inl ⟨by kernel_rfl, by intro w hSw; (try dsimp only at hSw); go_simp⟩) (by assumption) ?_
        try simp only [Act.put, List.setIfInBounds_toArray, List.set_cons_zero, List.set_cons_succ]
        refine take_at (i := 13) (v := .bool true) 133 rfl rfl (by kernel_rfl) (by kernel_rfl) (by kernel_rfl) (fun _ _ _ h => h) (Or.inl ⟨by kernel_rfl, by intro w hSw; (try dsimp only at hSw); go_simp⟩) (by assumption) ?_
        try simp only [Act.put, List.setIfInBounds_toArray, List.set_cons_zero, List.set_cons_succ]
        refine take_at (i := 14) (v := .bool true) 134 rfl rfl (by kernel_rfl) (by kernel_rfl) (by kernel_rfl) (fun _ _ _ h => h) (Or.inl ⟨by kernel_rfl, by intro w hSw; (try dsimp only at hSw); go_simp⟩) (by assumption) ?_
        try simp only [Act.put, List.setIfInBounds_toArray, List.set_cons_zero, List.set_cons_succ]
        refine take_at (i := 15) (v := .bool false) 135 rfl rfl (by kernel_rfl) (by kernel_rfl) (by kernel_rfl) (fun _ _ _ h => h) (Or.inl ⟨by kernel_rfl, by intro w hSw; (try dsimp only at hSw); go_simp⟩) (by assumption) ?_
        try simp only [Act.put, List.setIfInBounds_toArray, List.set_cons_zero, List.set_cons_succ]
        refine take_at (i := 16) (v := .bool false) 136 rfl rfl (by kernel_rfl) (by kernel_rfl) (by kernel_rfl) (fun _ _ _ h => h) (Or.inl ⟨by kernel_rfl, by intro w hSw; (try dsimp only at hSw); go_simp⟩) (by assumption) ?_
        try simp only [Act.put, List.setIfInBounds_toArray, List.set_cons_zero, List.set_cons_succ]
        refine take_at (i := 17) (v := .bool true) 137 rfl rfl (by kernel_rfl) (by kernel_rfl) (by kernel_rfl) (fun _ _ _ h => h) (Or.inl ⟨by kernel_rfl, by intro w hSw; (try dsimp only at hSw); go_simp⟩) (by assumption) ?_
        try simp only [Act.put, List.setIfInBounds_toArray, List.set_cons_zero, List.set_cons_succ]
        refine take_at (i := 18) (v := .bool true) 138 rfl rfl (by kernel_rfl) (by kernel_rfl) (by kernel_rfl) (fun _ _ _ h => h) (Or.inl ⟨by kernel_rfl, by intro w hSw; (try dsimp only at hSw); go_simp⟩) (by assumption) ?_
        try simp only [Act.put, List.setIfInBounds_toArray, List.set_cons_zero, List.set_cons_succ]
        have S2 := six_putD (B := w.heap.size + 1 + 1) (p := .slice p1 X.vs.length m1) (q := .slice q1 X.es.length d1) (l := .int .i64 X.last) S1 (by omega) (by omega)
        obtain ⟨y0, y1, y2, fy⟩ := three_of (blk_on B5.out G2.out)
        refine wpAnyH_one (i := 19) (o := { dst := none, op := Op.store 27 (Operand.tmp 4) (Operand.tmp 120), type := 0, pos := "law.go:91", after := #[{ on := 0, ground := Ground.data }, { on := 14, ground := Ground.chain }, { on := 0, ground := Ground.phase }, { on := 1, ground := Ground.textOnly Departure.lateStores }, { on := 2, ground := Ground.textOnly Departure.lateStores }, { on := 3, ground := Ground.textOnly Departure.lateStoresUnsure }, { on := 4, ground := Ground.textOnly Departure.lateStores }, { on := 5, ground := Ground.textOnly Departure.lateStores }, { on := 6, ground := Ground.textOnly Departure.lateStores }, { on := 7, ground := Ground.textOnly Departure.lateStores }, { on := 8, ground := Ground.textOnly Departure.lateStores }, { on := 9, ground := Ground.textOnly Departure.lateStores }, { on := 10, ground := Ground.textOnly Departure.lateStores }, { on := 11, ground := Ground.textOnly Departure.lateStores }, { on := 12, ground := Ground.textOnly Departure.lateStores }, { on := 13, ground := Ground.textOnly Departure.lateStores }, { on := 14, ground := Ground.textOnly Departure.lateStores }, { on := 15, ground := Ground.textOnly Departure.lateStores }, { on := 16, ground := Ground.textOnly Departure.lateStores }, { on := 17, ground := Ground.textOnly Departure.lateStores }, { on := 18, ground := Ground.textOnly Departure.lateStores }], guard := none }) (((W5.setCell ⟨w.heap.size + 1 + 1, 0, none⟩ (.slice p1 X.vs.length m1)).setCell ⟨w.heap.size + 1 + 1, 1, none⟩ (.slice q1 X.es.length d1)).setCell ⟨w.heap.size + 1 + 1, 2, none⟩ (.int .i64 X.last)) (by kernel_rfl) (by kernel_rfl) (by kernel_rfl) ?hop S2 ?_
        case hop =>
          intro K hK
          go_simp
          exact hK
        refine take_at (i := 20) (v := .bool true) 5 rfl rfl (by kernel_rfl) (by kernel_rfl) (by kernel_rfl) (fun _ _ _ h => h) (Or.inl ⟨by kernel_rfl, by intro w hSw; (try dsimp only at hSw); go_simp⟩) (by assumption) ?_
        try simp only [Act.put, List.setIfInBounds_toArray, List.set_cons_zero, List.set_cons_succ]
        refine wpAnyH_done (by kernel_rfl) ?_ _
        go_wp2
        simp [bodyPost, results, Try.results7, go_sem, y0, y1, y2]
        refine ⟨X, _, _, _, rfl, ?_, ?_, hst.out⟩
        · exact (HX4.out.on B5.out).keep (((keepB_set (show w.heap.size + 1 + 1 < w.heap.size + 1 + 1 + 1 + 1 + 1 by omega)).trans (keepB_set (show w.heap.size + 1 + 1 < w.heap.size + 1 + 1 + 1 + 1 + 1 by omega))).trans (keepB_set (show w.heap.size + 1 + 1 < w.heap.size + 1 + 1 + 1 + 1 + 1 by omega))).keep (by omega)
        · exact bel_s3 (bel_then B4.out B5.out) (by omega) _ _ _
set_option maxRecDepth 100000 in
set_option maxHeartbeats 16000000 in
theorem does_sets (g : Gg) (sv se : Value) (dk : Int) (lb : ByteArray) (io ii : Int) (xk xn : Int) (xs : ByteArray) (xl : List V) (r : Option Addr) (m d : Nat) (v : V) (p3 : Option Addr) (n3 c3 : Nat) (w : World) (hg : Gg.In w 0 g sv se) (hm : gMay g = true) (hio : I64 io) (hii : I64 ii) (hx : (V.mk xk xn xs xl).In w 0 (.slice r m d)) (hv : v.In w 0 (.slice p3 n3 c3)) (hk : dk = 2) :
    Calls Try.prog 7 #[g.agg sv se, .agg #[.int .i64 dk, .string lb, .int .i64 io, .int .i64 ii, .int .i64 xk, .int .i64 xn, .string xs, .slice r m d, .int .i64 v.k, .int .i64 v.n, .string v.s, .slice p3 n3 c3]] w fun e w' => RDo g w e w' := by
  obtain ⟨pv, cv, rfl⟩ := hg.2.1.header
  obtain ⟨pe, ce, rfl⟩ := hg.2.2.header
  have HG := Lib.hid hg
  have HX := Lib.hid hx
  have HV := Lib.hid hv
  clear hg hx hv
  unfold Gg.agg
  have BW := Lib.hid (bel_al (bel_al (bel_al (bel_al (bel1 w (.cells #[.slice pv g.vs.length cv, .slice pe g.es.length ce, .int .i64 g.last] 27)) (.cells #[.int .i64 dk, .string lb, .int .i64 io, .int .i64 ii, .int .i64 xk, .int .i64 xn, .string xs, .slice r m d, .int .i64 v.k, .int .i64 v.n, .string v.s, .slice p3 n3 c3] 32)) (.cells #[.slice none 0 0, .slice none 0 0, .int .i64 0] 27)) (.cells #[.slice none 0 0, .slice none 0 0, .int .i64 0] 27)) (.cells #[.slice none 0 0, .slice none 0 0, .int .i64 0] 27))
  have hz : Hid ((((((w.alloc (.cells #[.slice pv g.vs.length cv, .slice pe g.es.length ce, .int .i64 g.last] 27)).alloc (.cells #[.int .i64 dk, .string lb, .int .i64 io, .int .i64 ii, .int .i64 xk, .int .i64 xn, .string xs, .slice r m d, .int .i64 v.k, .int .i64 v.n, .string v.s, .slice p3 n3 c3] 32)).alloc (.cells #[.slice none 0 0, .slice none 0 0, .int .i64 0] 27)).alloc (.cells #[.slice none 0 0, .slice none 0 0, .int .i64 0] 27)).alloc (.cells #[.slice none 0 0, .slice none 0 0, .int .i64 0] 27)).heap.size = w.heap.size + 1 + 1 + 1 + 1 + 1) := by show _ = _; simp
  have E0 := (blk_on (bel1 _ (.cells #[.slice none 0 0, .slice none 0 0, .int .i64 0] 27)) (blk_on (bel1 _ (.cells #[.slice none 0 0, .slice none 0 0, .int .i64 0] 27)) (blk_on (bel1 _ (.cells #[.slice none 0 0, .slice none 0 0, .int .i64 0] 27)) (blk_on (bel1 _ (.cells #[.int .i64 dk, .string lb, .int .i64 io, .int .i64 ii, .int .i64 xk, .int .i64 xn, .string xs, .slice r m d, .int .i64 v.k, .int .i64 v.n, .string v.s, .slice p3 n3 c3] 32)) (blk_new0 w (.cells #[.slice pv g.vs.length cv, .slice pe g.es.length ce, .int .i64 g.last] 27))))))
  have E1 := (blk_on (bel1 _ (.cells #[.slice none 0 0, .slice none 0 0, .int .i64 0] 27)) (blk_on (bel1 _ (.cells #[.slice none 0 0, .slice none 0 0, .int .i64 0] 27)) (blk_on (bel1 _ (.cells #[.slice none 0 0, .slice none 0 0, .int .i64 0] 27)) (blk_new0 (w.alloc (.cells #[.slice pv g.vs.length cv, .slice pe g.es.length ce, .int .i64 g.last] 27)) (.cells #[.int .i64 dk, .string lb, .int .i64 io, .int .i64 ii, .int .i64 xk, .int .i64 xn, .string xs, .slice r m d, .int .i64 v.k, .int .i64 v.n, .string v.s, .slice p3 n3 c3] 32)))))
  have E2 := (blk_on (bel1 _ (.cells #[.slice none 0 0, .slice none 0 0, .int .i64 0] 27)) (blk_on (bel1 _ (.cells #[.slice none 0 0, .slice none 0 0, .int .i64 0] 27)) (blk_new0 ((w.alloc (.cells #[.slice pv g.vs.length cv, .slice pe g.es.length ce, .int .i64 g.last] 27)).alloc (.cells #[.int .i64 dk, .string lb, .int .i64 io, .int .i64 ii, .int .i64 xk, .int .i64 xn, .string xs, .slice r m d, .int .i64 v.k, .int .i64 v.n, .string v.s, .slice p3 n3 c3] 32)) (.cells #[.slice none 0 0, .slice none 0 0, .int .i64 0] 27))))
  have E3 := (blk_on (bel1 _ (.cells #[.slice none 0 0, .slice none 0 0, .int .i64 0] 27)) (blk_new0 (((w.alloc (.cells #[.slice pv g.vs.length cv, .slice pe g.es.length ce, .int .i64 g.last] 27)).alloc (.cells #[.int .i64 dk, .string lb, .int .i64 io, .int .i64 ii, .int .i64 xk, .int .i64 xn, .string xs, .slice r m d, .int .i64 v.k, .int .i64 v.n, .string v.s, .slice p3 n3 c3] 32)).alloc (.cells #[.slice none 0 0, .slice none 0 0, .int .i64 0] 27)) (.cells #[.slice none 0 0, .slice none 0 0, .int .i64 0] 27)))
  have E4 := (blk_new0 ((((w.alloc (.cells #[.slice pv g.vs.length cv, .slice pe g.es.length ce, .int .i64 g.last] 27)).alloc (.cells #[.int .i64 dk, .string lb, .int .i64 io, .int .i64 ii, .int .i64 xk, .int .i64 xn, .string xs, .slice r m d, .int .i64 v.k, .int .i64 v.n, .string v.s, .slice p3 n3 c3] 32)).alloc (.cells #[.slice none 0 0, .slice none 0 0, .int .i64 0] 27)).alloc (.cells #[.slice none 0 0, .slice none 0 0, .int .i64 0] 27)) (.cells #[.slice none 0 0, .slice none 0 0, .int .i64 0] 27))
  simp only [World.size_alloc] at E0 E1 E2 E3 E4
  replace E0 := Lib.hid E0
  replace E1 := Lib.hid E1
  replace E2 := Lib.hid E2
  replace E3 := Lib.hid E3
  replace E4 := Lib.hid E4
  have k0 : (dk == 0) = false := by subst hk; rfl
  have k1 : (dk == 1) = false := by subst hk; rfl
  have k2 : (dk == 2) = true := by subst hk; rfl
  clear hk
  go_enter Try.func7, Try.ntmps7
  go_wp2_with (fail)
  generalize (((((w.alloc (.cells #[.slice pv g.vs.length cv, .slice pe g.es.length ce, .int .i64 g.last] 27)).alloc (.cells #[.int .i64 dk, .string lb, .int .i64 io, .int .i64 ii, .int .i64 xk, .int .i64 xn, .string xs, .slice r m d, .int .i64 v.k, .int .i64 v.n, .string v.s, .slice p3 n3 c3] 32)).alloc (.cells #[.slice none 0 0, .slice none 0 0, .int .i64 0] 27)).alloc (.cells #[.slice none 0 0, .slice none 0 0, .int .i64 0] 27)).alloc (.cells #[.slice none 0 0, .slice none 0 0, .int .i64 0] 27)) = W0 at *
  have c1 := set16 g _ _ xk xn xs xl r m d lb v _ W0 (HG.out.on BW.out) (HX.out.on BW.out) (HV.out.on BW.out)
  obtain ⟨X, hX⟩ : ∃ x, (gSet g (ek xk xs xl) xn lb v).1 = x := ⟨_, rfl⟩
  have hst : Stays g X := by rw [← hX]; exact st_set hm _ _ _ _
  rw [hX] at c1
  obtain ⟨er, her⟩ : ∃ x, (gSet g (ek xk xs xl) xn lb v).2 = x := ⟨_, rfl⟩
  rw [her] at c1
  clear her
  clear hX
  have hst := Lib.hid hst
  unfold Chg2 Gg.agg at c1
  try unfold V.agg at c1
  refine c1.mono ?_
  rintro e W1 ⟨s1, s2, rfl, hin1, hb1⟩
  obtain ⟨p1, m1, rfl⟩ := hin1.2.1.header
  obtain ⟨q1, d1, rfl⟩ := hin1.2.2.header
  have hin2 := hin1.keep (((keepB_set (w := W1) (B := w.heap.size + 1 + 1 + 1) (i := 0) (c := .slice p1 X.vs.length m1) (by have := hz.out; omega)).trans (keepB_set (B := w.heap.size + 1 + 1 + 1) (i := 1) (c := .slice q1 X.es.length d1) (by have := hz.out; omega))).trans (keepB_set (B := w.heap.size + 1 + 1 + 1) (i := 2) (c := .int .i64 X.last) (by have := hz.out; omega))).keep (show w.heap.size + 1 + 1 + 1 + 1 + 1 ≤ W0.heap.size by have := hz.out; omega)
  have BW2 := bel_s3 (bel_then BW.out hb1) (show w.heap.size ≤ w.heap.size + 1 + 1 + 1 by omega) (.slice p1 X.vs.length m1) (.slice q1 X.es.length d1) (.int .i64 X.last)
  have hz1 := hb1.size
  have F0 := blk_oth (i := 2) (c := .int .i64 X.last) (B' := w.heap.size + 1 + 1 + 1) (blk_oth (i := 1) (c := .slice q1 X.es.length d1) (B' := w.heap.size + 1 + 1 + 1) (blk_oth (i := 0) (c := .slice p1 X.vs.length m1) (B' := w.heap.size + 1 + 1 + 1) (blk_on hb1 E0.out) (by omega)) (by omega)) (by omega)
  have F1 := blk_oth (i := 2) (c := .int .i64 X.last) (B' := w.heap.size + 1 + 1 + 1) (blk_oth (i := 1) (c := .slice q1 X.es.length d1) (B' := w.heap.size + 1 + 1 + 1) (blk_oth (i := 0) (c := .slice p1 X.vs.length m1) (B' := w.heap.size + 1 + 1 + 1) (blk_on hb1 E1.out) (by omega)) (by omega)) (by omega)
  have F2 := blk_oth (i := 2) (c := .int .i64 X.last) (B' := w.heap.size + 1 + 1 + 1) (blk_oth (i := 1) (c := .slice q1 X.es.length d1) (B' := w.heap.size + 1 + 1 + 1) (blk_oth (i := 0) (c := .slice p1 X.vs.length m1) (B' := w.heap.size + 1 + 1 + 1) (blk_on hb1 E2.out) (by omega)) (by omega)) (by omega)
  have F4 := blk_oth (i := 2) (c := .int .i64 X.last) (B' := w.heap.size + 1 + 1 + 1) (blk_oth (i := 1) (c := .slice q1 X.es.length d1) (B' := w.heap.size + 1 + 1 + 1) (blk_oth (i := 0) (c := .slice p1 X.vs.length m1) (B' := w.heap.size + 1 + 1 + 1) (blk_on hb1 E4.out) (by omega)) (by omega)) (by omega)
  have F3 := blk_put3 (a' := .slice p1 X.vs.length m1) (b' := .slice q1 X.es.length d1) (c' := .int .i64 X.last) (blk_on hb1 E3.out)
  obtain ⟨z0, z1, z2, fz⟩ := three_of (blk_on hb1 E3.out)
  have hz2 : w.heap.size + 1 + 1 + 1 + 1 < (((W1.setCell ⟨w.heap.size + 1 + 1 + 1, 0, none⟩ (.slice p1 X.vs.length m1)).setCell ⟨w.heap.size + 1 + 1 + 1, 1, none⟩ (.slice q1 X.es.length d1)).setCell ⟨w.heap.size + 1 + 1 + 1, 2, none⟩ (.int .i64 X.last)).heap.size := by simp only [World.setCell, Array.size_modify]; have := hz.out; omega
  clear hin1 hb1 E0 E1 E2 E3 E4 hz1
  replace F0 := Lib.hid F0
  replace F1 := Lib.hid F1
  replace F2 := Lib.hid F2
  replace F3 := Lib.hid F3
  replace F4 := Lib.hid F4
  replace hin2 := Lib.hid hin2
  obtain ⟨x0, x1, x2, fx⟩ := three_of F0.out
  obtain ⟨⟨o0, o1, o2, o3⟩, ⟨o4, o5, o6, o7⟩, o8, o9, oa, ob⟩ := twelve_of F1.out
  go_wp2_with (fail)
  clear z0 z1 z2 fz x0 x1 x2 fx o0 o1 o2 o3 o4 o5 o6 o7 o8 o9 oa ob
  generalize (((W1.setCell ⟨w.heap.size + 1 + 1 + 1, 0, none⟩ (.slice p1 X.vs.length m1)).setCell ⟨w.heap.size + 1 + 1 + 1, 1, none⟩ (.slice q1 X.es.length d1)).setCell ⟨w.heap.size + 1 + 1 + 1, 2, none⟩ (.int .i64 X.last)) = W2 at *
  have c2 := rset26 g _ _ xk xn xs r m d lb v p3 n3 c3 W2 (HG.out.on BW2) hm (HV.out.on BW2)
  unfold RD2 Gg.agg at c2
  try unfold V.agg at c2
  refine c2.mono ?_
  rintro e W3 ⟨Y, t1, t2, m2, rfl, hin3, hb3⟩
  obtain ⟨p4, c4, rfl⟩ := hin3.2.1.header
  obtain ⟨q4, d4, rfl⟩ := hin3.2.2.header
  have hz3 := hb3.size
  have kY : KeepB (w.heap.size + 1 + 1 + 1 + 1 + 1) W3 (((W3.setCell ⟨w.heap.size + 1 + 1 + 1 + 1, 0, none⟩ (.slice p4 Y.vs.length c4)).setCell ⟨w.heap.size + 1 + 1 + 1 + 1, 1, none⟩ (.slice q4 Y.es.length d4)).setCell ⟨w.heap.size + 1 + 1 + 1 + 1, 2, none⟩ (.int .i64 Y.last)) := ((keepB_set (Nat.lt_succ_self _)).trans (keepB_set (Nat.lt_succ_self _))).trans (keepB_set (Nat.lt_succ_self _))
  have HY4 := Lib.hid ((hin3.low (show w.heap.size + 1 + 1 + 1 + 1 + 1 ≤ W2.heap.size by omega)).keep kY.keep (Nat.zero_le _))
  have HX4 := Lib.hid ((hin2.out.on hb3).keep kY.keep (Nat.le_refl _))
  have B4 := Lib.hid (bel_s3 (bel_then BW2 hb3) (show w.heap.size ≤ w.heap.size + 1 + 1 + 1 + 1 by omega) (.slice p4 Y.vs.length c4) (.slice q4 Y.es.length d4) (.int .i64 Y.last))
  have G2 := Lib.hid (blk_oth (i := 2) (c := .int .i64 Y.last) (B' := w.heap.size + 1 + 1 + 1 + 1) (blk_oth (i := 1) (c := .slice q4 Y.es.length d4) (B' := w.heap.size + 1 + 1 + 1 + 1) (blk_oth (i := 0) (c := .slice p4 Y.vs.length c4) (B' := w.heap.size + 1 + 1 + 1 + 1) (blk_on hb3 F2.out) (by omega)) (by omega)) (by omega))
  have G3 := Lib.hid (blk_oth (i := 2) (c := .int .i64 Y.last) (B' := w.heap.size + 1 + 1 + 1 + 1) (blk_oth (i := 1) (c := .slice q4 Y.es.length d4) (B' := w.heap.size + 1 + 1 + 1 + 1) (blk_oth (i := 0) (c := .slice p4 Y.vs.length c4) (B' := w.heap.size + 1 + 1 + 1 + 1) (blk_on hb3 F3.out) (by omega)) (by omega)) (by omega))
  have G4 := Lib.hid (blk_put3 (a' := .slice p4 Y.vs.length c4) (b' := .slice q4 Y.es.length d4) (c' := .int .i64 Y.last) (blk_on hb3 F4.out))
  obtain ⟨z0, z1, z2, fz⟩ := three_of (blk_on hb3 F4.out)
  clear hin3 hb3 F0 F1 F2 F3 F4 hin2 kY hz3 hz2 BW2 BW hz HG HX HV
  go_wp2_with (fail)
  clear z0 z1 z2 fz
  generalize (((W3.setCell ⟨w.heap.size + 1 + 1 + 1 + 1, 0, none⟩ (.slice p4 Y.vs.length c4)).setCell ⟨w.heap.size + 1 + 1 + 1 + 1, 1, none⟩ (.slice q4 Y.es.length d4)).setCell ⟨w.heap.size + 1 + 1 + 1 + 1, 2, none⟩ (.int .i64 Y.last)) = W4 at *
  obtain ⟨TB, hTB⟩ : ∃ t, gSame X Y = t := ⟨_, rfl⟩
  have c17 := same17 X Y _ _ _ _ W4.drew ((HX4.out.low (Nat.zero_le _)).on ((Below.refl _ W4).drew)) (HY4.out.on ((Below.refl _ W4).drew))
  rw [hTB] at c17
  clear hTB
  unfold Gg.agg at c17
  obtain ⟨x0, x1, x2, fx⟩ := three_of G3.out
  obtain ⟨z0, z1, z2, fz⟩ := three_of G4.out
  have S0 : (W4.drew.cell? ⟨w.heap.size + 1 + 1 + 1, 0, none⟩ = some (.slice p1 X.vs.length m1) ∧ W4.drew.cell? ⟨w.heap.size + 1 + 1 + 1, 1, none⟩ = some (.slice q1 X.es.length d1) ∧ W4.drew.cell? ⟨w.heap.size + 1 + 1 + 1, 2, none⟩ = some (.int .i64 X.last)) ∧ W4.drew.cell? ⟨w.heap.size + 1 + 1 + 1 + 1, 0, none⟩ = some (.slice p4 Y.vs.length c4) ∧ W4.drew.cell? ⟨w.heap.size + 1 + 1 + 1 + 1, 1, none⟩ = some (.slice q4 Y.es.length d4) ∧ W4.drew.cell? ⟨w.heap.size + 1 + 1 + 1 + 1, 2, none⟩ = some (.int .i64 Y.last) := ⟨⟨x0, x1, x2⟩, z0, z1, z2⟩
  clear x0 x1 x2 fx z0 z1 z2 fz
  cases TB with
  | false =>
    refine wp_region_held_drew (S := (fun u => (u.cell? ⟨w.heap.size + 1 + 1 + 1, 0, none⟩ = some (.slice p1 X.vs.length m1) ∧ u.cell? ⟨w.heap.size + 1 + 1 + 1, 1, none⟩ = some (.slice q1 X.es.length d1) ∧ u.cell? ⟨w.heap.size + 1 + 1 + 1, 2, none⟩ = some (.int .i64 X.last)) ∧ u.cell? ⟨w.heap.size + 1 + 1 + 1 + 1, 0, none⟩ = some (.slice p4 Y.vs.length c4) ∧ u.cell? ⟨w.heap.size + 1 + 1 + 1 + 1, 1, none⟩ = some (.slice q4 Y.es.length d4) ∧ u.cell? ⟨w.heap.size + 1 + 1 + 1 + 1, 2, none⟩ = some (.int .i64 Y.last))) (by kernel_rfl) S0 (fun hHeld => ?_)
    refine take_at (i := 0) (v := .agg #[.slice p1 X.vs.length m1, .slice q1 X.es.length d1, .int .i64 X.last]) 120 rfl rfl (by kernel_rfl) (by kernel_rfl) (by kernel_rfl) (fun _ _ _ h => h) (Or.inl ⟨by kernel_rfl, by intro w hSw; (try dsimp only at hSw); go_simp⟩) (by assumption) ?_
    try simp only [Act.put, List.setIfInBounds_toArray, List.set_cons_zero, List.set_cons_succ]
    refine take_at (i := 1) (v := .agg #[.slice p1 X.vs.length m1, .slice q1 X.es.length d1, .int .i64 X.last]) 121 rfl rfl (by kernel_rfl) (by kernel_rfl) (by kernel_rfl) (fun _ _ _ h => h) (Or.inl ⟨by kernel_rfl, by intro w hSw; (try dsimp only at hSw); go_simp⟩) (by assumption) ?_
    try simp only [Act.put, List.setIfInBounds_toArray, List.set_cons_zero, List.set_cons_succ]
    refine take_at (i := 2) (v := .agg #[.slice p4 Y.vs.length c4, .slice q4 Y.es.length d4, .int .i64 Y.last]) 122 rfl rfl (by kernel_rfl) (by kernel_rfl) (by kernel_rfl) (fun _ _ _ h => h) (Or.inl ⟨by kernel_rfl, by intro w hSw; (try dsimp only at hSw); go_simp⟩) (by assumption) ?_
    try simp only [Act.put, List.setIfInBounds_toArray, List.set_cons_zero, List.set_cons_succ]
    refine wpAnyH_ready (rs := [3]) (by kernel_rfl) (by simp) ?_
    refine AllReadyH.cons (o := { dst := some 123, op := Op.call { callee := Callee.value (Operand.func 17), args := #[Operand.tmp 121, Operand.tmp 122], argTypes := #[27, 27] }, type := 4, pos := "law.go:91", after := #[{ on := 1, ground := Ground.data }, { on := 2, ground := Ground.data }], guard := none }) rfl (fun K hK => ?_) AllReadyH.nil
    go_simp
    go_at_call 17
    refine c17.mono ?_
    rintro e W5 ⟨rfl, hb5⟩
    have S1 := six_onD hb5 S0
    have B5 := Lib.hid (bel_then ((Below.refl _ W4).drew) hb5)
    clear hb5
    refine hK.out _ _ S1 (fun hHeld => ?_)
    clear hK K
    try simp only [Act.put, List.setIfInBounds_toArray, List.set_cons_zero, List.set_cons_succ]
    refine take_at (i := 4) (v := .bool false) 124 rfl rfl (by kernel_rfl) (by kernel_rfl) (by kernel_rfl) (fun _ _ _ h => h) (Or.inl ⟨by kernel_rfl, by intro w hSw; (try dsimp only at hSw); go_simp⟩) (by assumption) ?_
    try simp only [Act.put, List.setIfInBounds_toArray, List.set_cons_zero, List.set_cons_succ]
    refine take_at (i := 5) (v := undef) 125 rfl rfl (by kernel_rfl) (by kernel_rfl) (by kernel_rfl) (fun _ _ _ h => h) (Or.inr ⟨by kernel_rfl, rfl⟩) (by assumption) ?_
    try simp only [Act.put, List.setIfInBounds_toArray, List.set_cons_zero, List.set_cons_succ]
    refine take_at (i := 6) (v := undef) 126 rfl rfl (by kernel_rfl) (by kernel_rfl) (by kernel_rfl) (fun _ _ _ h => h) (Or.inr ⟨by kernel_rfl, rfl⟩) (by assumption) ?_
    try simp only [Act.put, List.setIfInBounds_toArray, List.set_cons_zero, List.set_cons_succ]
    refine take_at (i := 7) (v := undef) 127 rfl rfl (by kernel_rfl) (by kernel_rfl) (by kernel_rfl) (fun _ _ _ h => h) (Or.inr ⟨by kernel_rfl, rfl⟩) (by assumption) ?_
    try simp only [Act.put, List.setIfInBounds_toArray, List.set_cons_zero, List.set_cons_succ]
    refine take_at (i := 8) (v := .bool false) 128 rfl rfl (by kernel_rfl) (by kernel_rfl) (by kernel_rfl) (fun _ _ _ h => h) (Or.inl ⟨by kernel_rfl, by intro w hSw; (try dsimp only at hSw); go_simp⟩) (by assumption) ?_
    try simp only [Act.put, List.setIfInBounds_toArray, List.set_cons_zero, List.set_cons_succ]
    refine take_at (i := 9) (v := .bool false) 129 rfl rfl (by kernel_rfl) (by kernel_rfl) (by kernel_rfl) (fun _ _ _ h => h) (Or.inl ⟨by kernel_rfl, by intro w hSw; (try dsimp only at hSw); go_simp⟩) (by assumption) ?_
    try simp only [Act.put, List.setIfInBounds_toArray, List.set_cons_zero, List.set_cons_succ]
    refine take_at (i := 10) (v := undef) 130 rfl rfl (by kernel_rfl) (by kernel_rfl) (by kernel_rfl) (fun _ _ _ h => h) (Or.inr ⟨by kernel_rfl, rfl⟩) (by assumption) ?_
    try simp only [Act.put, List.setIfInBounds_toArray, List.set_cons_zero, List.set_cons_succ]
    refine take_at (i := 11) (v := undef) 131 rfl rfl (by kernel_rfl) (by kernel_rfl) (by kernel_rfl) (fun _ _ _ h => h) (Or.inr ⟨by kernel_rfl, rfl⟩) (by assumption) ?_
    try simp only [Act.put, List.setIfInBounds_toArray, List.set_cons_zero, List.set_cons_succ]
    refine take_at (i := 12) (v := undef) 132 rfl rfl (by kernel_rfl) (by kernel_rfl) (by kernel_rfl) (fun _ _ _ h => h) (Or.inr ⟨by kernel_rfl, rfl⟩) (by assumption) ?_
    try simp only [Act.put, List.setIfInBounds_toArray, List.set_cons_zero, List.set_cons_succ]
    refine take_at (i := 13) (v := .bool false) 133 rfl rfl (by kernel_rfl) (by kernel_rfl) (by kernel_rfl) (fun _ _ _ h => h) (Or.inl ⟨by kernel_rfl, by intro w hSw; (try dsimp only at hSw); go_simp⟩) (by assumption) ?_
    try simp only [Act.put, List.setIfInBounds_toArray, List.set_cons_zero, List.set_cons_succ]
    refine take_at (i := 14) (v := .bool false) 134 rfl rfl (by kernel_rfl) (by kernel_rfl) (by kernel_rfl) (fun _ _ _ h => h) (Or.inl ⟨by kernel_rfl, by intro w hSw; (try dsimp only at hSw); go_simp⟩) (by assumption) ?_
    try simp only [Act.put, List.setIfInBounds_toArray, List.set_cons_zero, List.set_cons_succ]
    refine take_at (i := 15) (v := undef) 135 rfl rfl (by kernel_rfl) (by kernel_rfl) (by kernel_rfl) (fun _ _ _ h => h) (Or.inr ⟨by kernel_rfl, rfl⟩) (by assumption) ?_
    try simp only [Act.put, List.setIfInBounds_toArray, List.set_cons_zero, List.set_cons_succ]
    refine take_at (i := 16) (v := undef) 136 rfl rfl (by kernel_rfl) (by kernel_rfl) (by kernel_rfl) (fun _ _ _ h => h) (Or.inr ⟨by kernel_rfl, rfl⟩) (by assumption) ?_
    try simp only [Act.put, List.setIfInBounds_toArray, List.set_cons_zero, List.set_cons_succ]
    refine take_at (i := 17) (v := undef) 137 rfl rfl (by kernel_rfl) (by kernel_rfl) (by kernel_rfl) (fun _ _ _ h => h) (Or.inr ⟨by kernel_rfl, rfl⟩) (by assumption) ?_
    try simp only [Act.put, List.setIfInBounds_toArray, List.set_cons_zero, List.set_cons_succ]
    refine take_at (i := 18) (v := .bool false) 138 rfl rfl (by kernel_rfl) (by kernel_rfl) (by kernel_rfl) (fun _ _ _ h => h) (Or.inl ⟨by kernel_rfl, by intro w hSw; (try dsimp only at hSw); go_simp⟩) (by assumption) ?_
    try simp only [Act.put, List.setIfInBounds_toArray, List.set_cons_zero, List.set_cons_succ]
    have S2 := six_putD (B := w.heap.size + 1 + 1) (p := .slice p1 X.vs.length m1) (q := .slice q1 X.es.length d1) (l := .int .i64 X.last) S1 (by omega) (by omega)
    obtain ⟨y0, y1, y2, fy⟩ := three_of (blk_on B5.out G2.out)
    refine wpAnyH_one (i := 19) (o := { dst := none, op := Op.store 27 (Operand.tmp 4) (Operand.tmp 120), type := 0, pos := "law.go:91", after := #[{ on := 0, ground := Ground.data }, { on := 14, ground := Ground.chain }, { on := 0, ground := Ground.phase }, { on := 1, ground := Ground.textOnly Departure.lateStores }, { on := 2, ground := Ground.textOnly Departure.lateStores }, { on := 3, ground := Ground.textOnly Departure.lateStoresUnsure }, { on := 4, ground := Ground.textOnly Departure.lateStores }, { on := 5, ground := Ground.textOnly Departure.lateStores }, { on := 6, ground := Ground.textOnly Departure.lateStores }, { on := 7, ground := Ground.textOnly Departure.lateStores }, { on := 8, ground := Ground.textOnly Departure.lateStores }, { on := 9, ground := Ground.textOnly Departure.lateStores }, { on := 10, ground := Ground.textOnly Departure.lateStores }, { on := 11, ground := Ground.textOnly Departure.lateStores }, { on := 12, ground := Ground.textOnly Departure.lateStores }, { on := 13, ground := Ground.textOnly Departure.lateStores }, { on := 14, ground := Ground.textOnly Departure.lateStores }, { on := 15, ground := Ground.textOnly Departure.lateStores }, { on := 16, ground := Ground.textOnly Departure.lateStores }, { on := 17, ground := Ground.textOnly Departure.lateStores }, { on := 18, ground := Ground.textOnly Departure.lateStores }], guard := none }) (((W5.setCell ⟨w.heap.size + 1 + 1, 0, none⟩ (.slice p1 X.vs.length m1)).setCell ⟨w.heap.size + 1 + 1, 1, none⟩ (.slice q1 X.es.length d1)).setCell ⟨w.heap.size + 1 + 1, 2, none⟩ (.int .i64 X.last)) (by kernel_rfl) (by kernel_rfl) (by kernel_rfl) ?hop S2 ?_
    case hop =>
      intro K hK
      go_simp
      exact hK
    refine take_at (i := 20) (v := .bool false) 5 rfl rfl (by kernel_rfl) (by kernel_rfl) (by kernel_rfl) (fun _ _ _ h => h) (Or.inl ⟨by kernel_rfl, by intro w hSw; (try dsimp only at hSw); go_simp⟩) (by assumption) ?_
    try simp only [Act.put, List.setIfInBounds_toArray, List.set_cons_zero, List.set_cons_succ]
    refine wpAnyH_done (by kernel_rfl) ?_ _
    go_wp2
    simp [bodyPost, results, Try.results7, go_sem, y0, y1, y2]
    refine ⟨X, _, _, _, rfl, ?_, ?_, hst.out⟩
    · exact (HX4.out.on B5.out).keep (((keepB_set (show w.heap.size + 1 + 1 < w.heap.size + 1 + 1 + 1 + 1 + 1 by omega)).trans (keepB_set (show w.heap.size + 1 + 1 < w.heap.size + 1 + 1 + 1 + 1 + 1 by omega))).trans (keepB_set (show w.heap.size + 1 + 1 < w.heap.size + 1 + 1 + 1 + 1 + 1 by omega))).keep (by omega)
    · exact bel_s3 (bel_then B4.out B5.out) (by omega) _ _ _
  | true =>
    obtain ⟨t0, e0⟩ : ∃ t, (er == m2) = t := ⟨_, rfl⟩
    cases t0 with
    | false =>
      refine wp_region_held_drew (S := (fun u => (u.cell? ⟨w.heap.size + 1 + 1 + 1, 0, none⟩ = some (.slice p1 X.vs.length m1) ∧ u.cell? ⟨w.heap.size + 1 + 1 + 1, 1, none⟩ = some (.slice q1 X.es.length d1) ∧ u.cell? ⟨w.heap.size + 1 + 1 + 1, 2, none⟩ = some (.int .i64 X.last)) ∧ u.cell? ⟨w.heap.size + 1 + 1 + 1 + 1, 0, none⟩ = some (.slice p4 Y.vs.length c4) ∧ u.cell? ⟨w.heap.size + 1 + 1 + 1 + 1, 1, none⟩ = some (.slice q4 Y.es.length d4) ∧ u.cell? ⟨w.heap.size + 1 + 1 + 1 + 1, 2, none⟩ = some (.int .i64 Y.last))) (by kernel_rfl) S0 (fun hHeld => ?_)
      refine take_at (i := 0) (v := .agg #[.slice p1 X.vs.length m1, .slice q1 X.es.length d1, .int .i64 X.last]) 120 rfl rfl (by kernel_rfl) (by kernel_rfl) (by kernel_rfl) (fun _ _ _ h => h) (Or.inl ⟨by kernel_rfl, by intro w hSw; (try dsimp only at hSw); go_simp⟩) (by assumption) ?_
      try simp only [Act.put, List.setIfInBounds_toArray, List.set_cons_zero, List.set_cons_succ]
      refine take_at (i := 1) (v := .agg #[.slice p1 X.vs.length m1, .slice q1 X.es.length d1, .int .i64 X.last]) 121 rfl rfl (by kernel_rfl) (by kernel_rfl) (by kernel_rfl) (fun _ _ _ h => h) (Or.inl ⟨by kernel_rfl, by intro w hSw; (try dsimp only at hSw); go_simp⟩) (by assumption) ?_
      try simp only [Act.put, List.setIfInBounds_toArray, List.set_cons_zero, List.set_cons_succ]
      refine take_at (i := 2) (v := .agg #[.slice p4 Y.vs.length c4, .slice q4 Y.es.length d4, .int .i64 Y.last]) 122 rfl rfl (by kernel_rfl) (by kernel_rfl) (by kernel_rfl) (fun _ _ _ h => h) (Or.inl ⟨by kernel_rfl, by intro w hSw; (try dsimp only at hSw); go_simp⟩) (by assumption) ?_
      try simp only [Act.put, List.setIfInBounds_toArray, List.set_cons_zero, List.set_cons_succ]
      refine wpAnyH_ready (rs := [3]) (by kernel_rfl) (by simp) ?_
      refine AllReadyH.cons (o := { dst := some 123, op := Op.call { callee := Callee.value (Operand.func 17), args := #[Operand.tmp 121, Operand.tmp 122], argTypes := #[27, 27] }, type := 4, pos := "law.go:91", after := #[{ on := 1, ground := Ground.data }, { on := 2, ground := Ground.data }], guard := none }) rfl (fun K hK => ?_) AllReadyH.nil
      go_simp
      go_at_call 17
      refine c17.mono ?_
      rintro e W5 ⟨rfl, hb5⟩
      have S1 := six_onD hb5 S0
      have B5 := Lib.hid (bel_then ((Below.refl _ W4).drew) hb5)
      clear hb5
      refine hK.out _ _ S1 (fun hHeld => ?_)
      clear hK K
      try simp only [Act.put, List.setIfInBounds_toArray, List.set_cons_zero, List.set_cons_succ]
      refine take_at (i := 4) (v := .bool true) 124 rfl rfl (by kernel_rfl) (by kernel_rfl) (by kernel_rfl) (fun _ _ _ h => h) (Or.inl ⟨by kernel_rfl, by intro w hSw; (try dsimp only at hSw); go_simp⟩) (by assumption) ?_
      try simp only [Act.put, List.setIfInBounds_toArray, List.set_cons_zero, List.set_cons_succ]
      refine take_at (i := 5) (v := .int .i64 er) 125 rfl rfl (by kernel_rfl) (by kernel_rfl) (by kernel_rfl) (fun _ _ _ h => h) (Or.inl ⟨by kernel_rfl, by intro w hSw; (try dsimp only at hSw); go_simp⟩) (by assumption) ?_
      try simp only [Act.put, List.setIfInBounds_toArray, List.set_cons_zero, List.set_cons_succ]
      refine take_at (i := 6) (v := .int .i64 m2) 126 rfl rfl (by kernel_rfl) (by kernel_rfl) (by kernel_rfl) (fun _ _ _ h => h) (Or.inl ⟨by kernel_rfl, by intro w hSw; (try dsimp only at hSw); go_simp⟩) (by assumption) ?_
      try simp only [Act.put, List.setIfInBounds_toArray, List.set_cons_zero, List.set_cons_succ]
      refine take_at (i := 7) (v := .bool false) 127 rfl rfl (by kernel_rfl) (by kernel_rfl) (by kernel_rfl) (fun _ _ _ h => h) (Or.inl ⟨by kernel_rfl, by intro w hSw; (try dsimp only at hSw); go_simp⟩) (by assumption) ?_
      try simp only [Act.put, List.setIfInBounds_toArray, List.set_cons_zero, List.set_cons_succ]
      refine take_at (i := 8) (v := .bool false) 128 rfl rfl (by kernel_rfl) (by kernel_rfl) (by kernel_rfl) (fun _ _ _ h => h) (Or.inl ⟨by kernel_rfl, by intro w hSw; (try dsimp only at hSw); go_simp⟩) (by assumption) ?_
      try simp only [Act.put, List.setIfInBounds_toArray, List.set_cons_zero, List.set_cons_succ]
      refine take_at (i := 9) (v := .bool false) 129 rfl rfl (by kernel_rfl) (by kernel_rfl) (by kernel_rfl) (fun _ _ _ h => h) (Or.inl ⟨by kernel_rfl, by intro w hSw; (try dsimp only at hSw); go_simp⟩) (by assumption) ?_
      try simp only [Act.put, List.setIfInBounds_toArray, List.set_cons_zero, List.set_cons_succ]
      refine take_at (i := 10) (v := undef) 130 rfl rfl (by kernel_rfl) (by kernel_rfl) (by kernel_rfl) (fun _ _ _ h => h) (Or.inr ⟨by kernel_rfl, rfl⟩) (by assumption) ?_
      try simp only [Act.put, List.setIfInBounds_toArray, List.set_cons_zero, List.set_cons_succ]
      refine take_at (i := 11) (v := undef) 131 rfl rfl (by kernel_rfl) (by kernel_rfl) (by kernel_rfl) (fun _ _ _ h => h) (Or.inr ⟨by kernel_rfl, rfl⟩) (by assumption) ?_
      try simp only [Act.put, List.setIfInBounds_toArray, List.set_cons_zero, List.set_cons_succ]
      refine take_at (i := 12) (v := undef) 132 rfl rfl (by kernel_rfl) (by kernel_rfl) (by kernel_rfl) (fun _ _ _ h => h) (Or.inr ⟨by kernel_rfl, rfl⟩) (by assumption) ?_
      try simp only [Act.put, List.setIfInBounds_toArray, List.set_cons_zero, List.set_cons_succ]
      refine take_at (i := 13) (v := .bool false) 133 rfl rfl (by kernel_rfl) (by kernel_rfl) (by kernel_rfl) (fun _ _ _ h => h) (Or.inl ⟨by kernel_rfl, by intro w hSw; (try dsimp only at hSw); go_simp⟩) (by assumption) ?_
      try simp only [Act.put, List.setIfInBounds_toArray, List.set_cons_zero, List.set_cons_succ]
      refine take_at (i := 14) (v := .bool false) 134 rfl rfl (by kernel_rfl) (by kernel_rfl) (by kernel_rfl) (fun _ _ _ h => h) (Or.inl ⟨by kernel_rfl, by intro w hSw; (try dsimp only at hSw); go_simp⟩) (by assumption) ?_
      try simp only [Act.put, List.setIfInBounds_toArray, List.set_cons_zero, List.set_cons_succ]
      refine take_at (i := 15) (v := undef) 135 rfl rfl (by kernel_rfl) (by kernel_rfl) (by kernel_rfl) (fun _ _ _ h => h) (Or.inr ⟨by kernel_rfl, rfl⟩) (by assumption) ?_
      try simp only [Act.put, List.setIfInBounds_toArray, List.set_cons_zero, List.set_cons_succ]
      refine take_at (i := 16) (v := undef) 136 rfl rfl (by kernel_rfl) (by kernel_rfl) (by kernel_rfl) (fun _ _ _ h => h) (Or.inr ⟨by kernel_rfl, rfl⟩) (by assumption) ?_
      try simp only [Act.put, List.setIfInBounds_toArray, List.set_cons_zero, List.set_cons_succ]
      refine take_at (i := 17) (v := undef) 137 rfl rfl (by kernel_rfl) (by kernel_rfl) (by kernel_rfl) (fun _ _ _ h => h) (Or.inr ⟨by kernel_rfl, rfl⟩) (by assumption) ?_
      try simp only [Act.put, List.setIfInBounds_toArray, List.set_cons_zero, List.set_cons_succ]
      refine take_at (i := 18) (v := .bool false) 138 rfl rfl (by kernel_rfl) (by kernel_rfl) (by kernel_rfl) (fun _ _ _ h => h) (Or.inl ⟨by kernel_rfl, by intro w hSw; (try dsimp only at hSw); go_simp⟩) (by assumption) ?_
      try simp only [Act.put, List.setIfInBounds_toArray, List.set_cons_zero, List.set_cons_succ]
      have S2 := six_putD (B := w.heap.size + 1 + 1) (p := .slice p1 X.vs.length m1) (q := .slice q1 X.es.length d1) (l := .int .i64 X.last) S1 (by omega) (by omega)
      obtain ⟨y0, y1, y2, fy⟩ := three_of (blk_on B5.out G2.out)
      refine wpAnyH_one (i := 19) (o := { dst := none, op := Op.store 27 (Operand.tmp 4) (Operand.tmp 120), type := 0, pos := "law.go:91", after := #[{ on := 0, ground := Ground.data }, { on := 14, ground := Ground.chain }, { on := 0, ground := Ground.phase }, { on := 1, ground := Ground.textOnly Departure.lateStores }, { on := 2, ground := Ground.textOnly Departure.lateStores }, { on := 3, ground := Ground.textOnly Departure.lateStoresUnsure }, { on := 4, ground := Ground.textOnly Departure.lateStores }, { on := 5, ground := Ground.textOnly Departure.lateStores }, { on := 6, ground := Ground.textOnly Departure.lateStores }, { on := 7, ground := Ground.textOnly Departure.lateStores }, { on := 8, ground := Ground.textOnly Departure.lateStores }, { on := 9, ground := Ground.textOnly Departure.lateStores }, { on := 10, ground := Ground.textOnly Departure.lateStores }, { on := 11, ground := Ground.textOnly Departure.lateStores }, { on := 12, ground := Ground.textOnly Departure.lateStores }, { on := 13, ground := Ground.textOnly Departure.lateStores }, { on := 14, ground := Ground.textOnly Departure.lateStores }, { on := 15, ground := Ground.textOnly Departure.lateStores }, { on := 16, ground := Ground.textOnly Departure.lateStores }, { on := 17, ground := Ground.textOnly Departure.lateStores }, { on := 18, ground := Ground.textOnly Departure.lateStores }], guard := none }) (((W5.setCell ⟨w.heap.size + 1 + 1, 0, none⟩ (.slice p1 X.vs.length m1)).setCell ⟨w.heap.size + 1 + 1, 1, none⟩ (.slice q1 X.es.length d1)).setCell ⟨w.heap.size + 1 + 1, 2, none⟩ (.int .i64 X.last)) (by kernel_rfl) (by kernel_rfl) (by kernel_rfl) ?hop S2 ?_
      case hop =>
        intro K hK
        go_simp
        exact hK
      refine take_at (i := 20) (v := .bool false) 5 rfl rfl (by kernel_rfl) (by kernel_rfl) (by kernel_rfl) (fun _ _ _ h => h) (Or.inl ⟨by kernel_rfl, by intro w hSw; (try dsimp only at hSw); go_simp⟩) (by assumption) ?_
      try simp only [Act.put, List.setIfInBounds_toArray, List.set_cons_zero, List.set_cons_succ]
      refine wpAnyH_done (by kernel_rfl) ?_ _
      go_wp2
      simp [bodyPost, results, Try.results7, go_sem, y0, y1, y2]
      refine ⟨X, _, _, _, rfl, ?_, ?_, hst.out⟩
      · exact (HX4.out.on B5.out).keep (((keepB_set (show w.heap.size + 1 + 1 < w.heap.size + 1 + 1 + 1 + 1 + 1 by omega)).trans (keepB_set (show w.heap.size + 1 + 1 < w.heap.size + 1 + 1 + 1 + 1 + 1 by omega))).trans (keepB_set (show w.heap.size + 1 + 1 < w.heap.size + 1 + 1 + 1 + 1 + 1 by omega))).keep (by omega)
      · exact bel_s3 (bel_then B4.out B5.out) (by omega) _ _ _
    | true =>
      refine wp_region_held_drew (S := (fun u => (u.cell? ⟨w.heap.size + 1 + 1 + 1, 0, none⟩ = some (.slice p1 X.vs.length m1) ∧ u.cell? ⟨w.heap.size + 1 + 1 + 1, 1, none⟩ = some (.slice q1 X.es.length d1) ∧ u.cell? ⟨w.heap.size + 1 + 1 + 1, 2, none⟩ = some (.int .i64 X.last)) ∧ u.cell? ⟨w.heap.size + 1 + 1 + 1 + 1, 0, none⟩ = some (.slice p4 Y.vs.length c4) ∧ u.cell? ⟨w.heap.size + 1 + 1 + 1 + 1, 1, none⟩ = some (.slice q4 Y.es.length d4) ∧ u.cell? ⟨w.heap.size + 1 + 1 + 1 + 1, 2, none⟩ = some (.int .i64 Y.last))) (by kernel_rfl) S0 (fun hHeld => ?_)
      refine take_at (i := 0) (v := .agg #[.slice p1 X.vs.length m1, .slice q1 X.es.length d1, .int .i64 X.last]) 120 rfl rfl (by kernel_rfl) (by kernel_rfl) (by kernel_rfl) (fun _ _ _ h => h) (Or.inl ⟨by kernel_rfl, by intro w hSw; (try dsimp only at hSw); go_simp⟩) (by assumption) ?_
      try simp only [Act.put, List.setIfInBounds_toArray, List.set_cons_zero, List.set_cons_succ]
      refine take_at (i := 1) (v := .agg #[.slice p1 X.vs.length m1, .slice q1 X.es.length d1, .int .i64 X.last]) 121 rfl rfl (by kernel_rfl) (by kernel_rfl) (by kernel_rfl) (fun _ _ _ h => h) (Or.inl ⟨by kernel_rfl, by intro w hSw; (try dsimp only at hSw); go_simp⟩) (by assumption) ?_
      try simp only [Act.put, List.setIfInBounds_toArray, List.set_cons_zero, List.set_cons_succ]
      refine take_at (i := 2) (v := .agg #[.slice p4 Y.vs.length c4, .slice q4 Y.es.length d4, .int .i64 Y.last]) 122 rfl rfl (by kernel_rfl) (by kernel_rfl) (by kernel_rfl) (fun _ _ _ h => h) (Or.inl ⟨by kernel_rfl, by intro w hSw; (try dsimp only at hSw); go_simp⟩) (by assumption) ?_
      try simp only [Act.put, List.setIfInBounds_toArray, List.set_cons_zero, List.set_cons_succ]
      refine wpAnyH_ready (rs := [3]) (by kernel_rfl) (by simp) ?_
      refine AllReadyH.cons (o := { dst := some 123, op := Op.call { callee := Callee.value (Operand.func 17), args := #[Operand.tmp 121, Operand.tmp 122], argTypes := #[27, 27] }, type := 4, pos := "law.go:91", after := #[{ on := 1, ground := Ground.data }, { on := 2, ground := Ground.data }], guard := none }) rfl (fun K hK => ?_) AllReadyH.nil
      go_simp
      go_at_call 17
      refine c17.mono ?_
      rintro e W5 ⟨rfl, hb5⟩
      have S1 := six_onD hb5 S0
      have B5 := Lib.hid (bel_then ((Below.refl _ W4).drew) hb5)
      clear hb5
      refine hK.out _ _ S1 (fun hHeld => ?_)
      clear hK K
      try simp only [Act.put, List.setIfInBounds_toArray, List.set_cons_zero, List.set_cons_succ]
      refine take_at (i := 4) (v := .bool true) 124 rfl rfl (by kernel_rfl) (by kernel_rfl) (by kernel_rfl) (fun _ _ _ h => h) (Or.inl ⟨by kernel_rfl, by intro w hSw; (try dsimp only at hSw); go_simp⟩) (by assumption) ?_
      try simp only [Act.put, List.setIfInBounds_toArray, List.set_cons_zero, List.set_cons_succ]
      refine take_at (i := 5) (v := .int .i64 er) 125 rfl rfl (by kernel_rfl) (by kernel_rfl) (by kernel_rfl) (fun _ _ _ h => h) (Or.inl ⟨by kernel_rfl, by intro w hSw; (try dsimp only at hSw); go_simp⟩) (by assumption) ?_
      try simp only [Act.put, List.setIfInBounds_toArray, List.set_cons_zero, List.set_cons_succ]
      refine take_at (i := 6) (v := .int .i64 m2) 126 rfl rfl (by kernel_rfl) (by kernel_rfl) (by kernel_rfl) (fun _ _ _ h => h) (Or.inl ⟨by kernel_rfl, by intro w hSw; (try dsimp only at hSw); go_simp⟩) (by assumption) ?_
      try simp only [Act.put, List.setIfInBounds_toArray, List.set_cons_zero, List.set_cons_succ]
      refine take_at (i := 7) (v := .bool true) 127 rfl rfl (by kernel_rfl) (by kernel_rfl) (by kernel_rfl) (fun _ _ _ h => h) (Or.inl ⟨by kernel_rfl, by intro w hSw; (try dsimp only at hSw); go_simp⟩) (by assumption) ?_
      try simp only [Act.put, List.setIfInBounds_toArray, List.set_cons_zero, List.set_cons_succ]
      refine take_at (i := 8) (v := .bool true) 128 rfl rfl (by kernel_rfl) (by kernel_rfl) (by kernel_rfl) (fun _ _ _ h => h) (Or.inl ⟨by kernel_rfl, by intro w hSw; (try dsimp only at hSw); go_simp⟩) (by assumption) ?_
      try simp only [Act.put, List.setIfInBounds_toArray, List.set_cons_zero, List.set_cons_succ]
      refine take_at (i := 9) (v := .bool true) 129 rfl rfl (by kernel_rfl) (by kernel_rfl) (by kernel_rfl) (fun _ _ _ h => h) (Or.inl ⟨by kernel_rfl, by intro w hSw; (try dsimp only at hSw); go_simp⟩) (by assumption) ?_
      try simp only [Act.put, List.setIfInBounds_toArray, List.set_cons_zero, List.set_cons_succ]
      refine take_at (i := 10) (v := .int .i64 0) 130 rfl rfl (by kernel_rfl) (by kernel_rfl) (by kernel_rfl) (fun _ _ _ h => h) (Or.inl ⟨by kernel_rfl, by intro w hSw; (try dsimp only at hSw); go_simp⟩) (by assumption) ?_
      try simp only [Act.put, List.setIfInBounds_toArray, List.set_cons_zero, List.set_cons_succ]
      refine take_at (i := 11) (v := .int .i64 0) 131 rfl rfl (by kernel_rfl) (by kernel_rfl) (by kernel_rfl) (fun _ _ _ h => h) (Or.inl ⟨by kernel_rfl, by intro w hSw; (try dsimp only at hSw); go_simp⟩) (by assumption) ?_
      try simp only [Act.put, List.setIfInBounds_toArray, List.set_cons_zero, List.set_cons_succ]
      refine take_at (i := 12) (v := .bool true) 132 rfl rfl (by kernel_rfl) (by kernel_rfl) (by kernel_rfl) (fun _ _ _ h => h) (Or.inl ⟨by kernel_rfl, by intro w hSw; (try dsimp only at hSw); go_simp⟩) (by assumption) ?_
      try simp only [Act.put, List.setIfInBounds_toArray, List.set_cons_zero, List.set_cons_succ]
      refine take_at (i := 13) (v := .bool true) 133 rfl rfl (by kernel_rfl) (by kernel_rfl) (by kernel_rfl) (fun _ _ _ h => h) (Or.inl ⟨by kernel_rfl, by intro w hSw; (try dsimp only at hSw); go_simp⟩) (by assumption) ?_
      try simp only [Act.put, List.setIfInBounds_toArray, List.set_cons_zero, List.set_cons_succ]
      refine take_at (i := 14) (v := .bool true) 134 rfl rfl (by kernel_rfl) (by kernel_rfl) (by kernel_rfl) (fun _ _ _ h => h) (Or.inl ⟨by kernel_rfl, by intro w hSw; (try dsimp only at hSw); go_simp⟩) (by assumption) ?_
      try simp only [Act.put, List.setIfInBounds_toArray, List.set_cons_zero, List.set_cons_succ]
      refine take_at (i := 15) (v := .bool false) 135 rfl rfl (by kernel_rfl) (by kernel_rfl) (by kernel_rfl) (fun _ _ _ h => h) (Or.inl ⟨by kernel_rfl, by intro w hSw; (try dsimp only at hSw); go_simp⟩) (by assumption) ?_
      try simp only [Act.put, List.setIfInBounds_toArray, List.set_cons_zero, List.set_cons_succ]
      refine take_at (i := 16) (v := .bool false) 136 rfl rfl (by kernel_rfl) (by kernel_rfl) (by kernel_rfl) (fun _ _ _ h => h) (Or.inl ⟨by kernel_rfl, by intro w hSw; (try dsimp only at hSw); go_simp⟩) (by assumption) ?_
      try simp only [Act.put, List.setIfInBounds_toArray, List.set_cons_zero, List.set_cons_succ]
      refine take_at (i := 17) (v := .bool true) 137 rfl rfl (by kernel_rfl) (by kernel_rfl) (by kernel_rfl) (fun _ _ _ h => h) (Or.inl ⟨by kernel_rfl, by intro w hSw; (try dsimp only at hSw); go_simp⟩) (by assumption) ?_
      try simp only [Act.put, List.setIfInBounds_toArray, List.set_cons_zero, List.set_cons_succ]
      refine take_at (i := 18) (v := .bool true) 138 rfl rfl (by kernel_rfl) (by kernel_rfl) (by kernel_rfl) (fun _ _ _ h => h) (Or.inl ⟨by kernel_rfl, by intro w hSw; (try dsimp only at hSw); go_simp⟩) (by assumption) ?_
      try simp only [Act.put, List.setIfInBounds_toArray, List.set_cons_zero, List.set_cons_succ]
      have S2 := six_putD (B := w.heap.size + 1 + 1) (p := .slice p1 X.vs.length m1) (q := .slice q1 X.es.length d1) (l := .int .i64 X.last) S1 (by omega) (by omega)
      obtain ⟨y0, y1, y2, fy⟩ := three_of (blk_on B5.out G2.out)
      refine wpAnyH_one (i := 19) (o := { dst := none, op := Op.store 27 (Operand.tmp 4) (Operand.tmp 120), type := 0, pos := "law.go:91", after := #[{ on := 0, ground := Ground.data }, { on := 14, ground := Ground.chain }, { on := 0, ground := Ground.phase }, { on := 1, ground := Ground.textOnly Departure.lateStores }, { on := 2, ground := Ground.textOnly Departure.lateStores }, { on := 3, ground := Ground.textOnly Departure.lateStoresUnsure }, { on := 4, ground := Ground.textOnly Departure.lateStores }, { on := 5, ground := Ground.textOnly Departure.lateStores }, { on := 6, ground := Ground.textOnly Departure.lateStores }, { on := 7, ground := Ground.textOnly Departure.lateStores }, { on := 8, ground := Ground.textOnly Departure.lateStores }, { on := 9, ground := Ground.textOnly Departure.lateStores }, { on := 10, ground := Ground.textOnly Departure.lateStores }, { on := 11, ground := Ground.textOnly Departure.lateStores }, { on := 12, ground := Ground.textOnly Departure.lateStores }, { on := 13, ground := Ground.textOnly Departure.lateStores }, { on := 14, ground := Ground.textOnly Departure.lateStores }, { on := 15, ground := Ground.textOnly Departure.lateStores }, { on := 16, ground := Ground.textOnly Departure.lateStores }, { on := 17, ground := Ground.textOnly Departure.lateStores }, { on := 18, ground := Ground.textOnly Departure.lateStores }], guard := none }) (((W5.setCell ⟨w.heap.size + 1 + 1, 0, none⟩ (.slice p1 X.vs.length m1)).setCell ⟨w.heap.size + 1 + 1, 1, none⟩ (.slice q1 X.es.length d1)).setCell ⟨w.heap.size + 1 + 1, 2, none⟩ (.int .i64 X.last)) (by kernel_rfl) (by kernel_rfl) (by kernel_rfl) ?hop S2 ?_
      case hop =>
        intro K hK
        go_simp
        exact hK
      refine take_at (i := 20) (v := .bool true) 5 rfl rfl (by kernel_rfl) (by kernel_rfl) (by kernel_rfl) (fun _ _ _ h => h) (Or.inl ⟨by kernel_rfl, by intro w hSw; (try dsimp only at hSw); go_simp⟩) (by assumption) ?_
      try simp only [Act.put, List.setIfInBounds_toArray, List.set_cons_zero, List.set_cons_succ]
      refine wpAnyH_done (by kernel_rfl) ?_ _
      go_wp2
      simp [bodyPost, results, Try.results7, go_sem, y0, y1, y2]
      refine ⟨X, _, _, _, rfl, ?_, ?_, hst.out⟩
      · exact (HX4.out.on B5.out).keep (((keepB_set (show w.heap.size + 1 + 1 < w.heap.size + 1 + 1 + 1 + 1 + 1 by omega)).trans (keepB_set (show w.heap.size + 1 + 1 < w.heap.size + 1 + 1 + 1 + 1 + 1 by omega))).trans (keepB_set (show w.heap.size + 1 + 1 < w.heap.size + 1 + 1 + 1 + 1 + 1 by omega))).keep (by omega)
      · exact bel_s3 (bel_then B4.out B5.out) (by omega) _ _ _
set_option maxRecDepth 100000 in
set_option maxHeartbeats 16000000 in
theorem does_unss (g : Gg) (sv se : Value) (dk : Int) (lb : ByteArray) (io ii : Int) (xk xn : Int) (xs : ByteArray) (xl : List V) (r : Option Addr) (m d : Nat) (v : V) (p3 : Option Addr) (n3 c3 : Nat) (w : World) (hg : Gg.In w 0 g sv se) (hm : gMay g = true) (hio : I64 io) (hii : I64 ii) (hx : (V.mk xk xn xs xl).In w 0 (.slice r m d)) (hv : v.In w 0 (.slice p3 n3 c3)) (hk : dk = 3) :
    Calls Try.prog 7 #[g.agg sv se, .agg #[.int .i64 dk, .string lb, .int .i64 io, .int .i64 ii, .int .i64 xk, .int .i64 xn, .string xs, .slice r m d, .int .i64 v.k, .int .i64 v.n, .string v.s, .slice p3 n3 c3]] w fun e w' => RDo g w e w' := by
  obtain ⟨pv, cv, rfl⟩ := hg.2.1.header
  obtain ⟨pe, ce, rfl⟩ := hg.2.2.header
  have HG := Lib.hid hg
  have HX := Lib.hid hx
  have HV := Lib.hid hv
  clear hg hx hv
  unfold Gg.agg
  have BW := Lib.hid (bel_al (bel_al (bel_al (bel_al (bel1 w (.cells #[.slice pv g.vs.length cv, .slice pe g.es.length ce, .int .i64 g.last] 27)) (.cells #[.int .i64 dk, .string lb, .int .i64 io, .int .i64 ii, .int .i64 xk, .int .i64 xn, .string xs, .slice r m d, .int .i64 v.k, .int .i64 v.n, .string v.s, .slice p3 n3 c3] 32)) (.cells #[.slice none 0 0, .slice none 0 0, .int .i64 0] 27)) (.cells #[.slice none 0 0, .slice none 0 0, .int .i64 0] 27)) (.cells #[.slice none 0 0, .slice none 0 0, .int .i64 0] 27))
  have hz : Hid ((((((w.alloc (.cells #[.slice pv g.vs.length cv, .slice pe g.es.length ce, .int .i64 g.last] 27)).alloc (.cells #[.int .i64 dk, .string lb, .int .i64 io, .int .i64 ii, .int .i64 xk, .int .i64 xn, .string xs, .slice r m d, .int .i64 v.k, .int .i64 v.n, .string v.s, .slice p3 n3 c3] 32)).alloc (.cells #[.slice none 0 0, .slice none 0 0, .int .i64 0] 27)).alloc (.cells #[.slice none 0 0, .slice none 0 0, .int .i64 0] 27)).alloc (.cells #[.slice none 0 0, .slice none 0 0, .int .i64 0] 27)).heap.size = w.heap.size + 1 + 1 + 1 + 1 + 1) := by show _ = _; simp
  have E0 := (blk_on (bel1 _ (.cells #[.slice none 0 0, .slice none 0 0, .int .i64 0] 27)) (blk_on (bel1 _ (.cells #[.slice none 0 0, .slice none 0 0, .int .i64 0] 27)) (blk_on (bel1 _ (.cells #[.slice none 0 0, .slice none 0 0, .int .i64 0] 27)) (blk_on (bel1 _ (.cells #[.int .i64 dk, .string lb, .int .i64 io, .int .i64 ii, .int .i64 xk, .int .i64 xn, .string xs, .slice r m d, .int .i64 v.k, .int .i64 v.n, .string v.s, .slice p3 n3 c3] 32)) (blk_new0 w (.cells #[.slice pv g.vs.length cv, .slice pe g.es.length ce, .int .i64 g.last] 27))))))
  have E1 := (blk_on (bel1 _ (.cells #[.slice none 0 0, .slice none 0 0, .int .i64 0] 27)) (blk_on (bel1 _ (.cells #[.slice none 0 0, .slice none 0 0, .int .i64 0] 27)) (blk_on (bel1 _ (.cells #[.slice none 0 0, .slice none 0 0, .int .i64 0] 27)) (blk_new0 (w.alloc (.cells #[.slice pv g.vs.length cv, .slice pe g.es.length ce, .int .i64 g.last] 27)) (.cells #[.int .i64 dk, .string lb, .int .i64 io, .int .i64 ii, .int .i64 xk, .int .i64 xn, .string xs, .slice r m d, .int .i64 v.k, .int .i64 v.n, .string v.s, .slice p3 n3 c3] 32)))))
  have E2 := (blk_on (bel1 _ (.cells #[.slice none 0 0, .slice none 0 0, .int .i64 0] 27)) (blk_on (bel1 _ (.cells #[.slice none 0 0, .slice none 0 0, .int .i64 0] 27)) (blk_new0 ((w.alloc (.cells #[.slice pv g.vs.length cv, .slice pe g.es.length ce, .int .i64 g.last] 27)).alloc (.cells #[.int .i64 dk, .string lb, .int .i64 io, .int .i64 ii, .int .i64 xk, .int .i64 xn, .string xs, .slice r m d, .int .i64 v.k, .int .i64 v.n, .string v.s, .slice p3 n3 c3] 32)) (.cells #[.slice none 0 0, .slice none 0 0, .int .i64 0] 27))))
  have E3 := (blk_on (bel1 _ (.cells #[.slice none 0 0, .slice none 0 0, .int .i64 0] 27)) (blk_new0 (((w.alloc (.cells #[.slice pv g.vs.length cv, .slice pe g.es.length ce, .int .i64 g.last] 27)).alloc (.cells #[.int .i64 dk, .string lb, .int .i64 io, .int .i64 ii, .int .i64 xk, .int .i64 xn, .string xs, .slice r m d, .int .i64 v.k, .int .i64 v.n, .string v.s, .slice p3 n3 c3] 32)).alloc (.cells #[.slice none 0 0, .slice none 0 0, .int .i64 0] 27)) (.cells #[.slice none 0 0, .slice none 0 0, .int .i64 0] 27)))
  have E4 := (blk_new0 ((((w.alloc (.cells #[.slice pv g.vs.length cv, .slice pe g.es.length ce, .int .i64 g.last] 27)).alloc (.cells #[.int .i64 dk, .string lb, .int .i64 io, .int .i64 ii, .int .i64 xk, .int .i64 xn, .string xs, .slice r m d, .int .i64 v.k, .int .i64 v.n, .string v.s, .slice p3 n3 c3] 32)).alloc (.cells #[.slice none 0 0, .slice none 0 0, .int .i64 0] 27)).alloc (.cells #[.slice none 0 0, .slice none 0 0, .int .i64 0] 27)) (.cells #[.slice none 0 0, .slice none 0 0, .int .i64 0] 27))
  simp only [World.size_alloc] at E0 E1 E2 E3 E4
  replace E0 := Lib.hid E0
  replace E1 := Lib.hid E1
  replace E2 := Lib.hid E2
  replace E3 := Lib.hid E3
  replace E4 := Lib.hid E4
  have k0 : (dk == 0) = false := by subst hk; rfl
  have k1 : (dk == 1) = false := by subst hk; rfl
  have k2 : (dk == 2) = false := by subst hk; rfl
  have k3 : (dk == 3) = true := by subst hk; rfl
  clear hk
  go_enter Try.func7, Try.ntmps7
  go_wp2_with (fail)
  generalize (((((w.alloc (.cells #[.slice pv g.vs.length cv, .slice pe g.es.length ce, .int .i64 g.last] 27)).alloc (.cells #[.int .i64 dk, .string lb, .int .i64 io, .int .i64 ii, .int .i64 xk, .int .i64 xn, .string xs, .slice r m d, .int .i64 v.k, .int .i64 v.n, .string v.s, .slice p3 n3 c3] 32)).alloc (.cells #[.slice none 0 0, .slice none 0 0, .int .i64 0] 27)).alloc (.cells #[.slice none 0 0, .slice none 0 0, .int .i64 0] 27)).alloc (.cells #[.slice none 0 0, .slice none 0 0, .int .i64 0] 27)) = W0 at *
  have c1 := uns19 g _ _ xk xn xs xl r m d lb W0 (HG.out.on BW.out) (HX.out.on BW.out)
  obtain ⟨X, hX⟩ : ∃ x, (gUns g (ek xk xs xl) xn lb).1 = x := ⟨_, rfl⟩
  have hst : Stays g X := by rw [← hX]; exact st_uns hm _ _ _
  rw [hX] at c1
  obtain ⟨is, his⟩ : ∃ x, (gUns g (ek xk xs xl) xn lb).2.1 = x := ⟨_, rfl⟩
  rw [his] at c1
  clear his
  obtain ⟨er, her⟩ : ∃ x, (gUns g (ek xk xs xl) xn lb).2.2 = x := ⟨_, rfl⟩
  rw [her] at c1
  clear her
  clear hX
  have hst := Lib.hid hst
  unfold ChgB Gg.agg at c1
  try unfold V.agg at c1
  refine c1.mono ?_
  rintro e W1 ⟨s1, s2, rfl, hin1, hb1⟩
  obtain ⟨p1, m1, rfl⟩ := hin1.2.1.header
  obtain ⟨q1, d1, rfl⟩ := hin1.2.2.header
  have hin2 := hin1.keep (((keepB_set (w := W1) (B := w.heap.size + 1 + 1 + 1) (i := 0) (c := .slice p1 X.vs.length m1) (by have := hz.out; omega)).trans (keepB_set (B := w.heap.size + 1 + 1 + 1) (i := 1) (c := .slice q1 X.es.length d1) (by have := hz.out; omega))).trans (keepB_set (B := w.heap.size + 1 + 1 + 1) (i := 2) (c := .int .i64 X.last) (by have := hz.out; omega))).keep (show w.heap.size + 1 + 1 + 1 + 1 + 1 ≤ W0.heap.size by have := hz.out; omega)
  have BW2 := bel_s3 (bel_then BW.out hb1) (show w.heap.size ≤ w.heap.size + 1 + 1 + 1 by omega) (.slice p1 X.vs.length m1) (.slice q1 X.es.length d1) (.int .i64 X.last)
  have hz1 := hb1.size
  have F0 := blk_oth (i := 2) (c := .int .i64 X.last) (B' := w.heap.size + 1 + 1 + 1) (blk_oth (i := 1) (c := .slice q1 X.es.length d1) (B' := w.heap.size + 1 + 1 + 1) (blk_oth (i := 0) (c := .slice p1 X.vs.length m1) (B' := w.heap.size + 1 + 1 + 1) (blk_on hb1 E0.out) (by omega)) (by omega)) (by omega)
  have F1 := blk_oth (i := 2) (c := .int .i64 X.last) (B' := w.heap.size + 1 + 1 + 1) (blk_oth (i := 1) (c := .slice q1 X.es.length d1) (B' := w.heap.size + 1 + 1 + 1) (blk_oth (i := 0) (c := .slice p1 X.vs.length m1) (B' := w.heap.size + 1 + 1 + 1) (blk_on hb1 E1.out) (by omega)) (by omega)) (by omega)
  have F2 := blk_oth (i := 2) (c := .int .i64 X.last) (B' := w.heap.size + 1 + 1 + 1) (blk_oth (i := 1) (c := .slice q1 X.es.length d1) (B' := w.heap.size + 1 + 1 + 1) (blk_oth (i := 0) (c := .slice p1 X.vs.length m1) (B' := w.heap.size + 1 + 1 + 1) (blk_on hb1 E2.out) (by omega)) (by omega)) (by omega)
  have F4 := blk_oth (i := 2) (c := .int .i64 X.last) (B' := w.heap.size + 1 + 1 + 1) (blk_oth (i := 1) (c := .slice q1 X.es.length d1) (B' := w.heap.size + 1 + 1 + 1) (blk_oth (i := 0) (c := .slice p1 X.vs.length m1) (B' := w.heap.size + 1 + 1 + 1) (blk_on hb1 E4.out) (by omega)) (by omega)) (by omega)
  have F3 := blk_put3 (a' := .slice p1 X.vs.length m1) (b' := .slice q1 X.es.length d1) (c' := .int .i64 X.last) (blk_on hb1 E3.out)
  obtain ⟨z0, z1, z2, fz⟩ := three_of (blk_on hb1 E3.out)
  have hz2 : w.heap.size + 1 + 1 + 1 + 1 < (((W1.setCell ⟨w.heap.size + 1 + 1 + 1, 0, none⟩ (.slice p1 X.vs.length m1)).setCell ⟨w.heap.size + 1 + 1 + 1, 1, none⟩ (.slice q1 X.es.length d1)).setCell ⟨w.heap.size + 1 + 1 + 1, 2, none⟩ (.int .i64 X.last)).heap.size := by simp only [World.setCell, Array.size_modify]; have := hz.out; omega
  clear hin1 hb1 E0 E1 E2 E3 E4 hz1
  replace F0 := Lib.hid F0
  replace F1 := Lib.hid F1
  replace F2 := Lib.hid F2
  replace F3 := Lib.hid F3
  replace F4 := Lib.hid F4
  replace hin2 := Lib.hid hin2
  obtain ⟨x0, x1, x2, fx⟩ := three_of F0.out
  obtain ⟨⟨o0, o1, o2, o3⟩, ⟨o4, o5, o6, o7⟩, o8, o9, oa, ob⟩ := twelve_of F1.out
  go_wp2_with (fail)
  clear z0 z1 z2 fz x0 x1 x2 fx o0 o1 o2 o3 o4 o5 o6 o7 o8 o9 oa ob
  generalize (((W1.setCell ⟨w.heap.size + 1 + 1 + 1, 0, none⟩ (.slice p1 X.vs.length m1)).setCell ⟨w.heap.size + 1 + 1 + 1, 1, none⟩ (.slice q1 X.es.length d1)).setCell ⟨w.heap.size + 1 + 1 + 1, 2, none⟩ (.int .i64 X.last)) = W2 at *
  have c2 := runs27 g _ _ xk xn xs r m d lb W2 (HG.out.on BW2) hm
  unfold RDB Gg.agg at c2
  try unfold V.agg at c2
  refine c2.mono ?_
  rintro e W3 ⟨Y, t1, t2, b2, m2, rfl, hin3, hb3⟩
  obtain ⟨p4, c4, rfl⟩ := hin3.2.1.header
  obtain ⟨q4, d4, rfl⟩ := hin3.2.2.header
  have hz3 := hb3.size
  have kY : KeepB (w.heap.size + 1 + 1 + 1 + 1 + 1) W3 (((W3.setCell ⟨w.heap.size + 1 + 1 + 1 + 1, 0, none⟩ (.slice p4 Y.vs.length c4)).setCell ⟨w.heap.size + 1 + 1 + 1 + 1, 1, none⟩ (.slice q4 Y.es.length d4)).setCell ⟨w.heap.size + 1 + 1 + 1 + 1, 2, none⟩ (.int .i64 Y.last)) := ((keepB_set (Nat.lt_succ_self _)).trans (keepB_set (Nat.lt_succ_self _))).trans (keepB_set (Nat.lt_succ_self _))
  have HY4 := Lib.hid ((hin3.low (show w.heap.size + 1 + 1 + 1 + 1 + 1 ≤ W2.heap.size by omega)).keep kY.keep (Nat.zero_le _))
  have HX4 := Lib.hid ((hin2.out.on hb3).keep kY.keep (Nat.le_refl _))
  have B4 := Lib.hid (bel_s3 (bel_then BW2 hb3) (show w.heap.size ≤ w.heap.size + 1 + 1 + 1 + 1 by omega) (.slice p4 Y.vs.length c4) (.slice q4 Y.es.length d4) (.int .i64 Y.last))
  have G2 := Lib.hid (blk_oth (i := 2) (c := .int .i64 Y.last) (B' := w.heap.size + 1 + 1 + 1 + 1) (blk_oth (i := 1) (c := .slice q4 Y.es.length d4) (B' := w.heap.size + 1 + 1 + 1 + 1) (blk_oth (i := 0) (c := .slice p4 Y.vs.length c4) (B' := w.heap.size + 1 + 1 + 1 + 1) (blk_on hb3 F2.out) (by omega)) (by omega)) (by omega))
  have G3 := Lib.hid (blk_oth (i := 2) (c := .int .i64 Y.last) (B' := w.heap.size + 1 + 1 + 1 + 1) (blk_oth (i := 1) (c := .slice q4 Y.es.length d4) (B' := w.heap.size + 1 + 1 + 1 + 1) (blk_oth (i := 0) (c := .slice p4 Y.vs.length c4) (B' := w.heap.size + 1 + 1 + 1 + 1) (blk_on hb3 F3.out) (by omega)) (by omega)) (by omega))
  have G4 := Lib.hid (blk_put3 (a' := .slice p4 Y.vs.length c4) (b' := .slice q4 Y.es.length d4) (c' := .int .i64 Y.last) (blk_on hb3 F4.out))
  obtain ⟨z0, z1, z2, fz⟩ := three_of (blk_on hb3 F4.out)
  clear hin3 hb3 F0 F1 F2 F3 F4 hin2 kY hz3 hz2 BW2 BW hz HG HX HV
  go_wp2_with (fail)
  clear z0 z1 z2 fz
  generalize (((W3.setCell ⟨w.heap.size + 1 + 1 + 1 + 1, 0, none⟩ (.slice p4 Y.vs.length c4)).setCell ⟨w.heap.size + 1 + 1 + 1 + 1, 1, none⟩ (.slice q4 Y.es.length d4)).setCell ⟨w.heap.size + 1 + 1 + 1 + 1, 2, none⟩ (.int .i64 Y.last)) = W4 at *
  obtain ⟨TB, hTB⟩ : ∃ t, gSame X Y = t := ⟨_, rfl⟩
  have c17 := same17 X Y _ _ _ _ W4.drew ((HX4.out.low (Nat.zero_le _)).on ((Below.refl _ W4).drew)) (HY4.out.on ((Below.refl _ W4).drew))
  rw [hTB] at c17
  clear hTB
  unfold Gg.agg at c17
  obtain ⟨x0, x1, x2, fx⟩ := three_of G3.out
  obtain ⟨z0, z1, z2, fz⟩ := three_of G4.out
  have S0 : (W4.drew.cell? ⟨w.heap.size + 1 + 1 + 1, 0, none⟩ = some (.slice p1 X.vs.length m1) ∧ W4.drew.cell? ⟨w.heap.size + 1 + 1 + 1, 1, none⟩ = some (.slice q1 X.es.length d1) ∧ W4.drew.cell? ⟨w.heap.size + 1 + 1 + 1, 2, none⟩ = some (.int .i64 X.last)) ∧ W4.drew.cell? ⟨w.heap.size + 1 + 1 + 1 + 1, 0, none⟩ = some (.slice p4 Y.vs.length c4) ∧ W4.drew.cell? ⟨w.heap.size + 1 + 1 + 1 + 1, 1, none⟩ = some (.slice q4 Y.es.length d4) ∧ W4.drew.cell? ⟨w.heap.size + 1 + 1 + 1 + 1, 2, none⟩ = some (.int .i64 Y.last) := ⟨⟨x0, x1, x2⟩, z0, z1, z2⟩
  clear x0 x1 x2 fx z0 z1 z2 fz
  cases TB with
  | false =>
    refine wp_region_held_drew (S := (fun u => (u.cell? ⟨w.heap.size + 1 + 1 + 1, 0, none⟩ = some (.slice p1 X.vs.length m1) ∧ u.cell? ⟨w.heap.size + 1 + 1 + 1, 1, none⟩ = some (.slice q1 X.es.length d1) ∧ u.cell? ⟨w.heap.size + 1 + 1 + 1, 2, none⟩ = some (.int .i64 X.last)) ∧ u.cell? ⟨w.heap.size + 1 + 1 + 1 + 1, 0, none⟩ = some (.slice p4 Y.vs.length c4) ∧ u.cell? ⟨w.heap.size + 1 + 1 + 1 + 1, 1, none⟩ = some (.slice q4 Y.es.length d4) ∧ u.cell? ⟨w.heap.size + 1 + 1 + 1 + 1, 2, none⟩ = some (.int .i64 Y.last))) (by kernel_rfl) S0 (fun hHeld => ?_)
    refine take_at (i := 0) (v := .agg #[.slice p1 X.vs.length m1, .slice q1 X.es.length d1, .int .i64 X.last]) 120 rfl rfl (by kernel_rfl) (by kernel_rfl) (by kernel_rfl) (fun _ _ _ h => h) (Or.inl ⟨by kernel_rfl, by intro w hSw; (try dsimp only at hSw); go_simp⟩) (by assumption) ?_
    try simp only [Act.put, List.setIfInBounds_toArray, List.set_cons_zero, List.set_cons_succ]
    refine take_at (i := 1) (v := .agg #[.slice p1 X.vs.length m1, .slice q1 X.es.length d1, .int .i64 X.last]) 121 rfl rfl (by kernel_rfl) (by kernel_rfl) (by kernel_rfl) (fun _ _ _ h => h) (Or.inl ⟨by kernel_rfl, by intro w hSw; (try dsimp only at hSw); go_simp⟩) (by assumption) ?_
    try simp only [Act.put, List.setIfInBounds_toArray, List.set_cons_zero, List.set_cons_succ]
    refine take_at (i := 2) (v := .agg #[.slice p4 Y.vs.length c4, .slice q4 Y.es.length d4, .int .i64 Y.last]) 122 rfl rfl (by kernel_rfl) (by kernel_rfl) (by kernel_rfl) (fun _ _ _ h => h) (Or.inl ⟨by kernel_rfl, by intro w hSw; (try dsimp only at hSw); go_simp⟩) (by assumption) ?_
    try simp only [Act.put, List.setIfInBounds_toArray, List.set_cons_zero, List.set_cons_succ]
    refine wpAnyH_ready (rs := [3]) (by kernel_rfl) (by simp) ?_
    refine AllReadyH.cons (o := { dst := some 123, op := Op.call { callee := Callee.value (Operand.func 17), args := #[Operand.tmp 121, Operand.tmp 122], argTypes := #[27, 27] }, type := 4, pos := "law.go:91", after := #[{ on := 1, ground := Ground.data }, { on := 2, ground := Ground.data }], guard := none }) rfl (fun K hK => ?_) AllReadyH.nil
    go_simp
    go_at_call 17
    refine c17.mono ?_
    rintro e W5 ⟨rfl, hb5⟩
    have S1 := six_onD hb5 S0
    have B5 := Lib.hid (bel_then ((Below.refl _ W4).drew) hb5)
    clear hb5
    refine hK.out _ _ S1 (fun hHeld => ?_)
    clear hK K
    try simp only [Act.put, List.setIfInBounds_toArray, List.set_cons_zero, List.set_cons_succ]
    refine take_at (i := 4) (v := .bool false) 124 rfl rfl (by kernel_rfl) (by kernel_rfl) (by kernel_rfl) (fun _ _ _ h => h) (Or.inl ⟨by kernel_rfl, by intro w hSw; (try dsimp only at hSw); go_simp⟩) (by assumption) ?_
    try simp only [Act.put, List.setIfInBounds_toArray, List.set_cons_zero, List.set_cons_succ]
    refine take_at (i := 5) (v := undef) 125 rfl rfl (by kernel_rfl) (by kernel_rfl) (by kernel_rfl) (fun _ _ _ h => h) (Or.inr ⟨by kernel_rfl, rfl⟩) (by assumption) ?_
    try simp only [Act.put, List.setIfInBounds_toArray, List.set_cons_zero, List.set_cons_succ]
    refine take_at (i := 6) (v := undef) 126 rfl rfl (by kernel_rfl) (by kernel_rfl) (by kernel_rfl) (fun _ _ _ h => h) (Or.inr ⟨by kernel_rfl, rfl⟩) (by assumption) ?_
    try simp only [Act.put, List.setIfInBounds_toArray, List.set_cons_zero, List.set_cons_succ]
    refine take_at (i := 7) (v := undef) 127 rfl rfl (by kernel_rfl) (by kernel_rfl) (by kernel_rfl) (fun _ _ _ h => h) (Or.inr ⟨by kernel_rfl, rfl⟩) (by assumption) ?_
    try simp only [Act.put, List.setIfInBounds_toArray, List.set_cons_zero, List.set_cons_succ]
    refine take_at (i := 8) (v := .bool false) 128 rfl rfl (by kernel_rfl) (by kernel_rfl) (by kernel_rfl) (fun _ _ _ h => h) (Or.inl ⟨by kernel_rfl, by intro w hSw; (try dsimp only at hSw); go_simp⟩) (by assumption) ?_
    try simp only [Act.put, List.setIfInBounds_toArray, List.set_cons_zero, List.set_cons_succ]
    refine take_at (i := 9) (v := .bool false) 129 rfl rfl (by kernel_rfl) (by kernel_rfl) (by kernel_rfl) (fun _ _ _ h => h) (Or.inl ⟨by kernel_rfl, by intro w hSw; (try dsimp only at hSw); go_simp⟩) (by assumption) ?_
    try simp only [Act.put, List.setIfInBounds_toArray, List.set_cons_zero, List.set_cons_succ]
    refine take_at (i := 10) (v := undef) 130 rfl rfl (by kernel_rfl) (by kernel_rfl) (by kernel_rfl) (fun _ _ _ h => h) (Or.inr ⟨by kernel_rfl, rfl⟩) (by assumption) ?_
    try simp only [Act.put, List.setIfInBounds_toArray, List.set_cons_zero, List.set_cons_succ]
    refine take_at (i := 11) (v := undef) 131 rfl rfl (by kernel_rfl) (by kernel_rfl) (by kernel_rfl) (fun _ _ _ h => h) (Or.inr ⟨by kernel_rfl, rfl⟩) (by assumption) ?_
    try simp only [Act.put, List.setIfInBounds_toArray, List.set_cons_zero, List.set_cons_succ]
    refine take_at (i := 12) (v := undef) 132 rfl rfl (by kernel_rfl) (by kernel_rfl) (by kernel_rfl) (fun _ _ _ h => h) (Or.inr ⟨by kernel_rfl, rfl⟩) (by assumption) ?_
    try simp only [Act.put, List.setIfInBounds_toArray, List.set_cons_zero, List.set_cons_succ]
    refine take_at (i := 13) (v := .bool false) 133 rfl rfl (by kernel_rfl) (by kernel_rfl) (by kernel_rfl) (fun _ _ _ h => h) (Or.inl ⟨by kernel_rfl, by intro w hSw; (try dsimp only at hSw); go_simp⟩) (by assumption) ?_
    try simp only [Act.put, List.setIfInBounds_toArray, List.set_cons_zero, List.set_cons_succ]
    refine take_at (i := 14) (v := .bool false) 134 rfl rfl (by kernel_rfl) (by kernel_rfl) (by kernel_rfl) (fun _ _ _ h => h) (Or.inl ⟨by kernel_rfl, by intro w hSw; (try dsimp only at hSw); go_simp⟩) (by assumption) ?_
    try simp only [Act.put, List.setIfInBounds_toArray, List.set_cons_zero, List.set_cons_succ]
    refine take_at (i := 15) (v := undef) 135 rfl rfl (by kernel_rfl) (by kernel_rfl) (by kernel_rfl) (fun _ _ _ h => h) (Or.inr ⟨by kernel_rfl, rfl⟩) (by assumption) ?_
    try simp only [Act.put, List.setIfInBounds_toArray, List.set_cons_zero, List.set_cons_succ]
    refine take_at (i := 16) (v := undef) 136 rfl rfl (by kernel_rfl) (by kernel_rfl) (by kernel_rfl) (fun _ _ _ h => h) (Or.inr ⟨by kernel_rfl, rfl⟩) (by assumption) ?_
    try simp only [Act.put, List.setIfInBounds_toArray, List.set_cons_zero, List.set_cons_succ]
    refine take_at (i := 17) (v := undef) 137 rfl rfl (by kernel_rfl) (by kernel_rfl) (by kernel_rfl) (fun _ _ _ h => h) (Or.inr ⟨by kernel_rfl, rfl⟩) (by assumption) ?_
    try simp only [Act.put, List.setIfInBounds_toArray, List.set_cons_zero, List.set_cons_succ]
    refine take_at (i := 18) (v := .bool false) 138 rfl rfl (by kernel_rfl) (by kernel_rfl) (by kernel_rfl) (fun _ _ _ h => h) (Or.inl ⟨by kernel_rfl, by intro w hSw; (try dsimp only at hSw); go_simp⟩) (by assumption) ?_
    try simp only [Act.put, List.setIfInBounds_toArray, List.set_cons_zero, List.set_cons_succ]
    have S2 := six_putD (B := w.heap.size + 1 + 1) (p := .slice p1 X.vs.length m1) (q := .slice q1 X.es.length d1) (l := .int .i64 X.last) S1 (by omega) (by omega)
    obtain ⟨y0, y1, y2, fy⟩ := three_of (blk_on B5.out G2.out)
    refine wpAnyH_one (i := 19) (o := { dst := none, op := Op.store 27 (Operand.tmp 4) (Operand.tmp 120), type := 0, pos := "law.go:91", after := #[{ on := 0, ground := Ground.data }, { on := 14, ground := Ground.chain }, { on := 0, ground := Ground.phase }, { on := 1, ground := Ground.textOnly Departure.lateStores }, { on := 2, ground := Ground.textOnly Departure.lateStores }, { on := 3, ground := Ground.textOnly Departure.lateStoresUnsure }, { on := 4, ground := Ground.textOnly Departure.lateStores }, { on := 5, ground := Ground.textOnly Departure.lateStores }, { on := 6, ground := Ground.textOnly Departure.lateStores }, { on := 7, ground := Ground.textOnly Departure.lateStores }, { on := 8, ground := Ground.textOnly Departure.lateStores }, { on := 9, ground := Ground.textOnly Departure.lateStores }, { on := 10, ground := Ground.textOnly Departure.lateStores }, { on := 11, ground := Ground.textOnly Departure.lateStores }, { on := 12, ground := Ground.textOnly Departure.lateStores }, { on := 13, ground := Ground.textOnly Departure.lateStores }, { on := 14, ground := Ground.textOnly Departure.lateStores }, { on := 15, ground := Ground.textOnly Departure.lateStores }, { on := 16, ground := Ground.textOnly Departure.lateStores }, { on := 17, ground := Ground.textOnly Departure.lateStores }, { on := 18, ground := Ground.textOnly Departure.lateStores }], guard := none }) (((W5.setCell ⟨w.heap.size + 1 + 1, 0, none⟩ (.slice p1 X.vs.length m1)).setCell ⟨w.heap.size + 1 + 1, 1, none⟩ (.slice q1 X.es.length d1)).setCell ⟨w.heap.size + 1 + 1, 2, none⟩ (.int .i64 X.last)) (by kernel_rfl) (by kernel_rfl) (by kernel_rfl) ?hop S2 ?_
    case hop =>
      intro K hK
      go_simp
      exact hK
    refine take_at (i := 20) (v := .bool false) 5 rfl rfl (by kernel_rfl) (by kernel_rfl) (by kernel_rfl) (fun _ _ _ h => h) (Or.inl ⟨by kernel_rfl, by intro w hSw; (try dsimp only at hSw); go_simp⟩) (by assumption) ?_
    try simp only [Act.put, List.setIfInBounds_toArray, List.set_cons_zero, List.set_cons_succ]
    refine wpAnyH_done (by kernel_rfl) ?_ _
    go_wp2
    simp [bodyPost, results, Try.results7, go_sem, y0, y1, y2]
    refine ⟨X, _, _, _, rfl, ?_, ?_, hst.out⟩
    · exact (HX4.out.on B5.out).keep (((keepB_set (show w.heap.size + 1 + 1 < w.heap.size + 1 + 1 + 1 + 1 + 1 by omega)).trans (keepB_set (show w.heap.size + 1 + 1 < w.heap.size + 1 + 1 + 1 + 1 + 1 by omega))).trans (keepB_set (show w.heap.size + 1 + 1 < w.heap.size + 1 + 1 + 1 + 1 + 1 by omega))).keep (by omega)
    · exact bel_s3 (bel_then B4.out B5.out) (by omega) _ _ _
  | true =>
    obtain ⟨t0, e0⟩ : ∃ t, (er == m2) = t := ⟨_, rfl⟩
    cases t0 with
    | false =>
      refine wp_region_held_drew (S := (fun u => (u.cell? ⟨w.heap.size + 1 + 1 + 1, 0, none⟩ = some (.slice p1 X.vs.length m1) ∧ u.cell? ⟨w.heap.size + 1 + 1 + 1, 1, none⟩ = some (.slice q1 X.es.length d1) ∧ u.cell? ⟨w.heap.size + 1 + 1 + 1, 2, none⟩ = some (.int .i64 X.last)) ∧ u.cell? ⟨w.heap.size + 1 + 1 + 1 + 1, 0, none⟩ = some (.slice p4 Y.vs.length c4) ∧ u.cell? ⟨w.heap.size + 1 + 1 + 1 + 1, 1, none⟩ = some (.slice q4 Y.es.length d4) ∧ u.cell? ⟨w.heap.size + 1 + 1 + 1 + 1, 2, none⟩ = some (.int .i64 Y.last))) (by kernel_rfl) S0 (fun hHeld => ?_)
      refine take_at (i := 0) (v := .agg #[.slice p1 X.vs.length m1, .slice q1 X.es.length d1, .int .i64 X.last]) 120 rfl rfl (by kernel_rfl) (by kernel_rfl) (by kernel_rfl) (fun _ _ _ h => h) (Or.inl ⟨by kernel_rfl, by intro w hSw; (try dsimp only at hSw); go_simp⟩) (by assumption) ?_
      try simp only [Act.put, List.setIfInBounds_toArray, List.set_cons_zero, List.set_cons_succ]
      refine take_at (i := 1) (v := .agg #[.slice p1 X.vs.length m1, .slice q1 X.es.length d1, .int .i64 X.last]) 121 rfl rfl (by kernel_rfl) (by kernel_rfl) (by kernel_rfl) (fun _ _ _ h => h) (Or.inl ⟨by kernel_rfl, by intro w hSw; (try dsimp only at hSw); go_simp⟩) (by assumption) ?_
      try simp only [Act.put, List.setIfInBounds_toArray, List.set_cons_zero, List.set_cons_succ]
      refine take_at (i := 2) (v := .agg #[.slice p4 Y.vs.length c4, .slice q4 Y.es.length d4, .int .i64 Y.last]) 122 rfl rfl (by kernel_rfl) (by kernel_rfl) (by kernel_rfl) (fun _ _ _ h => h) (Or.inl ⟨by kernel_rfl, by intro w hSw; (try dsimp only at hSw); go_simp⟩) (by assumption) ?_
      try simp only [Act.put, List.setIfInBounds_toArray, List.set_cons_zero, List.set_cons_succ]
      refine wpAnyH_ready (rs := [3]) (by kernel_rfl) (by simp) ?_
      refine AllReadyH.cons (o := { dst := some 123, op := Op.call { callee := Callee.value (Operand.func 17), args := #[Operand.tmp 121, Operand.tmp 122], argTypes := #[27, 27] }, type := 4, pos := "law.go:91", after := #[{ on := 1, ground := Ground.data }, { on := 2, ground := Ground.data }], guard := none }) rfl (fun K hK => ?_) AllReadyH.nil
      go_simp
      go_at_call 17
      refine c17.mono ?_
      rintro e W5 ⟨rfl, hb5⟩
      have S1 := six_onD hb5 S0
      have B5 := Lib.hid (bel_then ((Below.refl _ W4).drew) hb5)
      clear hb5
      refine hK.out _ _ S1 (fun hHeld => ?_)
      clear hK K
      try simp only [Act.put, List.setIfInBounds_toArray, List.set_cons_zero, List.set_cons_succ]
      refine take_at (i := 4) (v := .bool true) 124 rfl rfl (by kernel_rfl) (by kernel_rfl) (by kernel_rfl) (fun _ _ _ h => h) (Or.inl ⟨by kernel_rfl, by intro w hSw; (try dsimp only at hSw); go_simp⟩) (by assumption) ?_
      try simp only [Act.put, List.setIfInBounds_toArray, List.set_cons_zero, List.set_cons_succ]
      refine take_at (i := 5) (v := .int .i64 er) 125 rfl rfl (by kernel_rfl) (by kernel_rfl) (by kernel_rfl) (fun _ _ _ h => h) (Or.inl ⟨by kernel_rfl, by intro w hSw; (try dsimp only at hSw); go_simp⟩) (by assumption) ?_
      try simp only [Act.put, List.setIfInBounds_toArray, List.set_cons_zero, List.set_cons_succ]
      refine take_at (i := 6) (v := .int .i64 m2) 126 rfl rfl (by kernel_rfl) (by kernel_rfl) (by kernel_rfl) (fun _ _ _ h => h) (Or.inl ⟨by kernel_rfl, by intro w hSw; (try dsimp only at hSw); go_simp⟩) (by assumption) ?_
      try simp only [Act.put, List.setIfInBounds_toArray, List.set_cons_zero, List.set_cons_succ]
      refine take_at (i := 7) (v := .bool false) 127 rfl rfl (by kernel_rfl) (by kernel_rfl) (by kernel_rfl) (fun _ _ _ h => h) (Or.inl ⟨by kernel_rfl, by intro w hSw; (try dsimp only at hSw); go_simp⟩) (by assumption) ?_
      try simp only [Act.put, List.setIfInBounds_toArray, List.set_cons_zero, List.set_cons_succ]
      refine take_at (i := 8) (v := .bool false) 128 rfl rfl (by kernel_rfl) (by kernel_rfl) (by kernel_rfl) (fun _ _ _ h => h) (Or.inl ⟨by kernel_rfl, by intro w hSw; (try dsimp only at hSw); go_simp⟩) (by assumption) ?_
      try simp only [Act.put, List.setIfInBounds_toArray, List.set_cons_zero, List.set_cons_succ]
      refine take_at (i := 9) (v := .bool false) 129 rfl rfl (by kernel_rfl) (by kernel_rfl) (by kernel_rfl) (fun _ _ _ h => h) (Or.inl ⟨by kernel_rfl, by intro w hSw; (try dsimp only at hSw); go_simp⟩) (by assumption) ?_
      try simp only [Act.put, List.setIfInBounds_toArray, List.set_cons_zero, List.set_cons_succ]
      refine take_at (i := 10) (v := undef) 130 rfl rfl (by kernel_rfl) (by kernel_rfl) (by kernel_rfl) (fun _ _ _ h => h) (Or.inr ⟨by kernel_rfl, rfl⟩) (by assumption) ?_
      try simp only [Act.put, List.setIfInBounds_toArray, List.set_cons_zero, List.set_cons_succ]
      refine take_at (i := 11) (v := undef) 131 rfl rfl (by kernel_rfl) (by kernel_rfl) (by kernel_rfl) (fun _ _ _ h => h) (Or.inr ⟨by kernel_rfl, rfl⟩) (by assumption) ?_
      try simp only [Act.put, List.setIfInBounds_toArray, List.set_cons_zero, List.set_cons_succ]
      refine take_at (i := 12) (v := undef) 132 rfl rfl (by kernel_rfl) (by kernel_rfl) (by kernel_rfl) (fun _ _ _ h => h) (Or.inr ⟨by kernel_rfl, rfl⟩) (by assumption) ?_
      try simp only [Act.put, List.setIfInBounds_toArray, List.set_cons_zero, List.set_cons_succ]
      refine take_at (i := 13) (v := .bool false) 133 rfl rfl (by kernel_rfl) (by kernel_rfl) (by kernel_rfl) (fun _ _ _ h => h) (Or.inl ⟨by kernel_rfl, by intro w hSw; (try dsimp only at hSw); go_simp⟩) (by assumption) ?_
      try simp only [Act.put, List.setIfInBounds_toArray, List.set_cons_zero, List.set_cons_succ]
      refine take_at (i := 14) (v := .bool false) 134 rfl rfl (by kernel_rfl) (by kernel_rfl) (by kernel_rfl) (fun _ _ _ h => h) (Or.inl ⟨by kernel_rfl, by intro w hSw; (try dsimp only at hSw); go_simp⟩) (by assumption) ?_
      try simp only [Act.put, List.setIfInBounds_toArray, List.set_cons_zero, List.set_cons_succ]
      refine take_at (i := 15) (v := undef) 135 rfl rfl (by kernel_rfl) (by kernel_rfl) (by kernel_rfl) (fun _ _ _ h => h) (Or.inr ⟨by kernel_rfl, rfl⟩) (by assumption) ?_
      try simp only [Act.put, List.setIfInBounds_toArray, List.set_cons_zero, List.set_cons_succ]
      refine take_at (i := 16) (v := undef) 136 rfl rfl (by kernel_rfl) (by kernel_rfl) (by kernel_rfl) (fun _ _ _ h => h) (Or.inr ⟨by kernel_rfl, rfl⟩) (by assumption) ?_
      try simp only [Act.put, List.setIfInBounds_toArray, List.set_cons_zero, List.set_cons_succ]
      refine take_at (i := 17) (v := undef) 137 rfl rfl (by kernel_rfl) (by kernel_rfl) (by kernel_rfl) (fun _ _ _ h => h) (Or.inr ⟨by kernel_rfl, rfl⟩) (by assumption) ?_
      try simp only [Act.put, List.setIfInBounds_toArray, List.set_cons_zero, List.set_cons_succ]
      refine take_at (i := 18) (v := .bool false) 138 rfl rfl (by kernel_rfl) (by kernel_rfl) (by kernel_rfl) (fun _ _ _ h => h) (Or.inl ⟨by kernel_rfl, by intro w hSw; (try dsimp only at hSw); go_simp⟩) (by assumption) ?_
      try simp only [Act.put, List.setIfInBounds_toArray, List.set_cons_zero, List.set_cons_succ]
      have S2 := six_putD (B := w.heap.size + 1 + 1) (p := .slice p1 X.vs.length m1) (q := .slice q1 X.es.length d1) (l := .int .i64 X.last) S1 (by omega) (by omega)
      obtain ⟨y0, y1, y2, fy⟩ := three_of (blk_on B5.out G2.out)
      refine wpAnyH_one (i := 19) (o := { dst := none, op := Op.store 27 (Operand.tmp 4) (Operand.tmp 120), type := 0, pos := "law.go:91", after := #[{ on := 0, ground := Ground.data }, { on := 14, ground := Ground.chain }, { on := 0, ground := Ground.phase }, { on := 1, ground := Ground.textOnly Departure.lateStores }, { on := 2, ground := Ground.textOnly Departure.lateStores }, { on := 3, ground := Ground.textOnly Departure.lateStoresUnsure }, { on := 4, ground := Ground.textOnly Departure.lateStores }, { on := 5, ground := Ground.textOnly Departure.lateStores }, { on := 6, ground := Ground.textOnly Departure.lateStores }, { on := 7, ground := Ground.textOnly Departure.lateStores }, { on := 8, ground := Ground.textOnly Departure.lateStores }, { on := 9, ground := Ground.textOnly Departure.lateStores }, { on := 10, ground := Ground.textOnly Departure.lateStores }, { on := 11, ground := Ground.textOnly Departure.lateStores }, { on := 12, ground := Ground.textOnly Departure.lateStores }, { on := 13, ground := Ground.textOnly Departure.lateStores }, { on := 14, ground := Ground.textOnly Departure.lateStores }, { on := 15, ground := Ground.textOnly Departure.lateStores }, { on := 16, ground := Ground.textOnly Departure.lateStores }, { on := 17, ground := Ground.textOnly Departure.lateStores }, { on := 18, ground := Ground.textOnly Departure.lateStores }], guard := none }) (((W5.setCell ⟨w.heap.size + 1 + 1, 0, none⟩ (.slice p1 X.vs.length m1)).setCell ⟨w.heap.size + 1 + 1, 1, none⟩ (.slice q1 X.es.length d1)).setCell ⟨w.heap.size + 1 + 1, 2, none⟩ (.int .i64 X.last)) (by kernel_rfl) (by kernel_rfl) (by kernel_rfl) ?hop S2 ?_
      case hop =>
        intro K hK
        go_simp
        exact hK
      refine take_at (i := 20) (v := .bool false) 5 rfl rfl (by kernel_rfl) (by kernel_rfl) (by kernel_rfl) (fun _ _ _ h => h) (Or.inl ⟨by kernel_rfl, by intro w hSw; (try dsimp only at hSw); go_simp⟩) (by assumption) ?_
      try simp only [Act.put, List.setIfInBounds_toArray, List.set_cons_zero, List.set_cons_succ]
      refine wpAnyH_done (by kernel_rfl) ?_ _
      go_wp2
      simp [bodyPost, results, Try.results7, go_sem, y0, y1, y2]
      refine ⟨X, _, _, _, rfl, ?_, ?_, hst.out⟩
      · exact (HX4.out.on B5.out).keep (((keepB_set (show w.heap.size + 1 + 1 < w.heap.size + 1 + 1 + 1 + 1 + 1 by omega)).trans (keepB_set (show w.heap.size + 1 + 1 < w.heap.size + 1 + 1 + 1 + 1 + 1 by omega))).trans (keepB_set (show w.heap.size + 1 + 1 < w.heap.size + 1 + 1 + 1 + 1 + 1 by omega))).keep (by omega)
      · exact bel_s3 (bel_then B4.out B5.out) (by omega) _ _ _
    | true =>
      cases is with
      | false =>
        cases b2 with
        | false =>
          refine wp_region_held_drew (S := (fun u => (u.cell? ⟨w.heap.size + 1 + 1 + 1, 0, none⟩ = some (.slice p1 X.vs.length m1) ∧ u.cell? ⟨w.heap.size + 1 + 1 + 1, 1, none⟩ = some (.slice q1 X.es.length d1) ∧ u.cell? ⟨w.heap.size + 1 + 1 + 1, 2, none⟩ = some (.int .i64 X.last)) ∧ u.cell? ⟨w.heap.size + 1 + 1 + 1 + 1, 0, none⟩ = some (.slice p4 Y.vs.length c4) ∧ u.cell? ⟨w.heap.size + 1 + 1 + 1 + 1, 1, none⟩ = some (.slice q4 Y.es.length d4) ∧ u.cell? ⟨w.heap.size + 1 + 1 + 1 + 1, 2, none⟩ = some (.int .i64 Y.last))) (by kernel_rfl) S0 (fun hHeld => ?_)
          refine take_at (i := 0) (v := .agg #[.slice p1 X.vs.length m1, .slice q1 X.es.length d1, .int .i64 X.last]) 120 rfl rfl (by kernel_rfl) (by kernel_rfl) (by kernel_rfl) (fun _ _ _ h => h) (Or.inl ⟨by kernel_rfl, by intro w hSw; (try dsimp only at hSw); go_simp⟩) (by assumption) ?_
          try simp only [Act.put, List.setIfInBounds_toArray, List.set_cons_zero, List.set_cons_succ]
          refine take_at (i := 1) (v := .agg #[.slice p1 X.vs.length m1, .slice q1 X.es.length d1, .int .i64 X.last]) 121 rfl rfl (by kernel_rfl) (by kernel_rfl) (by kernel_rfl) (fun _ _ _ h => h) (Or.inl ⟨by kernel_rfl, by intro w hSw; (try dsimp only at hSw); go_simp⟩) (by assumption) ?_
          try simp only [Act.put, List.setIfInBounds_toArray, List.set_cons_zero, List.set_cons_succ]
          refine take_at (i := 2) (v := .agg #[.slice p4 Y.vs.length c4, .slice q4 Y.es.length d4, .int .i64 Y.last]) 122 rfl rfl (by kernel_rfl) (by kernel_rfl) (by kernel_rfl) (fun _ _ _ h => h) (Or.inl ⟨by kernel_rfl, by intro w hSw; (try dsimp only at hSw); go_simp⟩) (by assumption) ?_
          try simp only [Act.put, List.setIfInBounds_toArray, List.set_cons_zero, List.set_cons_succ]
          refine wpAnyH_ready (rs := [3]) (by kernel_rfl) (by simp) ?_
          refine AllReadyH.cons (o := { dst := some 123, op := Op.call { callee := Callee.value (Operand.func 17), args := #[Operand.tmp 121, Operand.tmp 122], argTypes := #[27, 27] }, type := 4, pos := "law.go:91", after := #[{ on := 1, ground := Ground.data }, { on := 2, ground := Ground.data }], guard := none }) rfl (fun K hK => ?_) AllReadyH.nil
          go_simp
          go_at_call 17
          refine c17.mono ?_
          rintro e W5 ⟨rfl, hb5⟩
          have S1 := six_onD hb5 S0
          have B5 := Lib.hid (bel_then ((Below.refl _ W4).drew) hb5)
          clear hb5
          refine hK.out _ _ S1 (fun hHeld => ?_)
          clear hK K
          try simp only [Act.put, List.setIfInBounds_toArray, List.set_cons_zero, List.set_cons_succ]
          refine take_at (i := 4) (v := .bool true) 124 rfl rfl (by kernel_rfl) (by kernel_rfl) (by kernel_rfl) (fun _ _ _ h => h) (Or.inl ⟨by kernel_rfl, by intro w hSw; (try dsimp only at hSw); go_simp⟩) (by assumption) ?_
          try simp only [Act.put, List.setIfInBounds_toArray, List.set_cons_zero, List.set_cons_succ]
          refine take_at (i := 5) (v := .int .i64 er) 125 rfl rfl (by kernel_rfl) (by kernel_rfl) (by kernel_rfl) (fun _ _ _ h => h) (Or.inl ⟨by kernel_rfl, by intro w hSw; (try dsimp only at hSw); go_simp⟩) (by assumption) ?_
          try simp only [Act.put, List.setIfInBounds_toArray, List.set_cons_zero, List.set_cons_succ]
          refine take_at (i := 6) (v := .int .i64 m2) 126 rfl rfl (by kernel_rfl) (by kernel_rfl) (by kernel_rfl) (fun _ _ _ h => h) (Or.inl ⟨by kernel_rfl, by intro w hSw; (try dsimp only at hSw); go_simp⟩) (by assumption) ?_
          try simp only [Act.put, List.setIfInBounds_toArray, List.set_cons_zero, List.set_cons_succ]
          refine take_at (i := 7) (v := .bool true) 127 rfl rfl (by kernel_rfl) (by kernel_rfl) (by kernel_rfl) (fun _ _ _ h => h) (Or.inl ⟨by kernel_rfl, by intro w hSw; (try dsimp only at hSw); go_simp⟩) (by assumption) ?_
          try simp only [Act.put, List.setIfInBounds_toArray, List.set_cons_zero, List.set_cons_succ]
          refine take_at (i := 8) (v := .bool true) 128 rfl rfl (by kernel_rfl) (by kernel_rfl) (by kernel_rfl) (fun _ _ _ h => h) (Or.inl ⟨by kernel_rfl, by intro w hSw; (try dsimp only at hSw); go_simp⟩) (by assumption) ?_
          try simp only [Act.put, List.setIfInBounds_toArray, List.set_cons_zero, List.set_cons_succ]
          refine take_at (i := 9) (v := .bool true) 129 rfl rfl (by kernel_rfl) (by kernel_rfl) (by kernel_rfl) (fun _ _ _ h => h) (Or.inl ⟨by kernel_rfl, by intro w hSw; (try dsimp only at hSw); go_simp⟩) (by assumption) ?_
          try simp only [Act.put, List.setIfInBounds_toArray, List.set_cons_zero, List.set_cons_succ]
          refine take_at (i := 10) (v := .int .i64 0) 130 rfl rfl (by kernel_rfl) (by kernel_rfl) (by kernel_rfl) (fun _ _ _ h => h) (Or.inl ⟨by kernel_rfl, by intro w hSw; (try dsimp only at hSw); go_simp⟩) (by assumption) ?_
          try simp only [Act.put, List.setIfInBounds_toArray, List.set_cons_zero, List.set_cons_succ]
          refine take_at (i := 11) (v := .int .i64 0) 131 rfl rfl (by kernel_rfl) (by kernel_rfl) (by kernel_rfl) (fun _ _ _ h => h) (Or.inl ⟨by kernel_rfl, by intro w hSw; (try dsimp only at hSw); go_simp⟩) (by assumption) ?_
          try simp only [Act.put, List.setIfInBounds_toArray, List.set_cons_zero, List.set_cons_succ]
          refine take_at (i := 12) (v := .bool true) 132 rfl rfl (by kernel_rfl) (by kernel_rfl) (by kernel_rfl) (fun _ _ _ h => h) (Or.inl ⟨by kernel_rfl, by intro w hSw; (try dsimp only at hSw); go_simp⟩) (by assumption) ?_
          try simp only [Act.put, List.setIfInBounds_toArray, List.set_cons_zero, List.set_cons_succ]
          refine take_at (i := 13) (v := .bool true) 133 rfl rfl (by kernel_rfl) (by kernel_rfl) (by kernel_rfl) (fun _ _ _ h => h) (Or.inl ⟨by kernel_rfl, by intro w hSw; (try dsimp only at hSw); go_simp⟩) (by assumption) ?_
          try simp only [Act.put, List.setIfInBounds_toArray, List.set_cons_zero, List.set_cons_succ]
          refine take_at (i := 14) (v := .bool true) 134 rfl rfl (by kernel_rfl) (by kernel_rfl) (by kernel_rfl) (fun _ _ _ h => h) (Or.inl ⟨by kernel_rfl, by intro w hSw; (try dsimp only at hSw); go_simp⟩) (by assumption) ?_
          try simp only [Act.put, List.setIfInBounds_toArray, List.set_cons_zero, List.set_cons_succ]
          refine take_at (i := 15) (v := .bool false) 135 rfl rfl (by kernel_rfl) (by kernel_rfl) (by kernel_rfl) (fun _ _ _ h => h) (Or.inl ⟨by kernel_rfl, by intro w hSw; (try dsimp only at hSw); go_simp⟩) (by assumption) ?_
          try simp only [Act.put, List.setIfInBounds_toArray, List.set_cons_zero, List.set_cons_succ]
          refine take_at (i := 16) (v := .bool false) 136 rfl rfl (by kernel_rfl) (by kernel_rfl) (by kernel_rfl) (fun _ _ _ h => h) (Or.inl ⟨by kernel_rfl, by intro w hSw; (try dsimp only at hSw); go_simp⟩) (by assumption) ?_
          try simp only [Act.put, List.setIfInBounds_toArray, List.set_cons_zero, List.set_cons_succ]
          refine take_at (i := 17) (v := .bool true) 137 rfl rfl (by kernel_rfl) (by kernel_rfl) (by kernel_rfl) (fun _ _ _ h => h) (Or.inl ⟨by kernel_rfl, by intro w hSw; (try dsimp only at hSw); go_simp⟩) (by assumption) ?_
          try simp only [Act.put, List.setIfInBounds_toArray, List.set_cons_zero, List.set_cons_succ]
          refine take_at (i := 18) (v := .bool true) 138 rfl rfl (by kernel_rfl) (by kernel_rfl) (by kernel_rfl) (fun _ _ _ h => h) (Or.inl ⟨by kernel_rfl, by intro w hSw; (try dsimp only at hSw); go_simp⟩) (by assumption) ?_
          try simp only [Act.put, List.setIfInBounds_toArray, List.set_cons_zero, List.set_cons_succ]
          have S2 := six_putD (B := w.heap.size + 1 + 1) (p := .slice p1 X.vs.length m1) (q := .slice q1 X.es.length d1) (l := .int .i64 X.last) S1 (by omega) (by omega)
          obtain ⟨y0, y1, y2, fy⟩ := three_of (blk_on B5.out G2.out)
          refine wpAnyH_one (i := 19) (o := { dst := none, op := Op.store 27 (Operand.tmp 4) (Operand.tmp 120), type := 0, pos := "law.go:91", after := #[{ on := 0, ground := Ground.data }, { on := 14, ground := Ground.chain }, { on := 0, ground := Ground.phase }, { on := 1, ground := Ground.textOnly Departure.lateStores }, { on := 2, ground := Ground.textOnly Departure.lateStores }, { on := 3, ground := Ground.textOnly Departure.lateStoresUnsure }, { on := 4, ground := Ground.textOnly Departure.lateStores }, { on := 5, ground := Ground.textOnly Departure.lateStores }, { on := 6, ground := Ground.textOnly Departure.lateStores }, { on := 7, ground := Ground.textOnly Departure.lateStores }, { on := 8, ground := Ground.textOnly Departure.lateStores }, { on := 9, ground := Ground.textOnly Departure.lateStores }, { on := 10, ground := Ground.textOnly Departure.lateStores }, { on := 11, ground := Ground.textOnly Departure.lateStores }, { on := 12, ground := Ground.textOnly Departure.lateStores }, { on := 13, ground := Ground.textOnly Departure.lateStores }, { on := 14, ground := Ground.textOnly Departure.lateStores }, { on := 15, ground := Ground.textOnly Departure.lateStores }, { on := 16, ground := Ground.textOnly Departure.lateStores }, { on := 17, ground := Ground.textOnly Departure.lateStores }, { on := 18, ground := Ground.textOnly Departure.lateStores }], guard := none }) (((W5.setCell ⟨w.heap.size + 1 + 1, 0, none⟩ (.slice p1 X.vs.length m1)).setCell ⟨w.heap.size + 1 + 1, 1, none⟩ (.slice q1 X.es.length d1)).setCell ⟨w.heap.size + 1 + 1, 2, none⟩ (.int .i64 X.last)) (by kernel_rfl) (by kernel_rfl) (by kernel_rfl) ?hop S2 ?_
          case hop =>
            intro K hK
            go_simp
            exact hK
          refine take_at (i := 20) (v := .bool true) 5 rfl rfl (by kernel_rfl) (by kernel_rfl) (by kernel_rfl) (fun _ _ _ h => h) (Or.inl ⟨by kernel_rfl, by intro w hSw; (try dsimp only at hSw); go_simp⟩) (by assumption) ?_
          try simp only [Act.put, List.setIfInBounds_toArray, List.set_cons_zero, List.set_cons_succ]
          refine wpAnyH_done (by kernel_rfl) ?_ _
          go_wp2
          simp [bodyPost, results, Try.results7, go_sem, y0, y1, y2]
          refine ⟨X, _, _, _, rfl, ?_, ?_, hst.out⟩
          · exact (HX4.out.on B5.out).keep (((keepB_set (show w.heap.size + 1 + 1 < w.heap.size + 1 + 1 + 1 + 1 + 1 by omega)).trans (keepB_set (show w.heap.size + 1 + 1 < w.heap.size + 1 + 1 + 1 + 1 + 1 by omega))).trans (keepB_set (show w.heap.size + 1 + 1 < w.heap.size + 1 + 1 + 1 + 1 + 1 by omega))).keep (by omega)
          · exact bel_s3 (bel_then B4.out B5.out) (by omega) _ _ _
        | true =>
          refine wp_region_held_drew (S := (fun u => (u.cell? ⟨w.heap.size + 1 + 1 + 1, 0, none⟩ = some (.slice p1 X.vs.length m1) ∧ u.cell? ⟨w.heap.size + 1 + 1 + 1, 1, none⟩ = some (.slice q1 X.es.length d1) ∧ u.cell? ⟨w.heap.size + 1 + 1 + 1, 2, none⟩ = some (.int .i64 X.last)) ∧ u.cell? ⟨w.heap.size + 1 + 1 + 1 + 1, 0, none⟩ = some (.slice p4 Y.vs.length c4) ∧ u.cell? ⟨w.heap.size + 1 + 1 + 1 + 1, 1, none⟩ = some (.slice q4 Y.es.length d4) ∧ u.cell? ⟨w.heap.size + 1 + 1 + 1 + 1, 2, none⟩ = some (.int .i64 Y.last))) (by kernel_rfl) S0 (fun hHeld => ?_)
          refine take_at (i := 0) (v := .agg #[.slice p1 X.vs.length m1, .slice q1 X.es.length d1, .int .i64 X.last]) 120 rfl rfl (by kernel_rfl) (by kernel_rfl) (by kernel_rfl) (fun _ _ _ h => h) (Or.inl ⟨by kernel_rfl, by intro w hSw; (try dsimp only at hSw); go_simp⟩) (by assumption) ?_
          try simp only [Act.put, List.setIfInBounds_toArray, List.set_cons_zero, List.set_cons_succ]
          refine take_at (i := 1) (v := .agg #[.slice p1 X.vs.length m1, .slice q1 X.es.length d1, .int .i64 X.last]) 121 rfl rfl (by kernel_rfl) (by kernel_rfl) (by kernel_rfl) (fun _ _ _ h => h) (Or.inl ⟨by kernel_rfl, by intro w hSw; (try dsimp only at hSw); go_simp⟩) (by assumption) ?_
          try simp only [Act.put, List.setIfInBounds_toArray, List.set_cons_zero, List.set_cons_succ]
          refine take_at (i := 2) (v := .agg #[.slice p4 Y.vs.length c4, .slice q4 Y.es.length d4, .int .i64 Y.last]) 122 rfl rfl (by kernel_rfl) (by kernel_rfl) (by kernel_rfl) (fun _ _ _ h => h) (Or.inl ⟨by kernel_rfl, by intro w hSw; (try dsimp only at hSw); go_simp⟩) (by assumption) ?_
          try simp only [Act.put, List.setIfInBounds_toArray, List.set_cons_zero, List.set_cons_succ]
          refine wpAnyH_ready (rs := [3]) (by kernel_rfl) (by simp) ?_
          refine AllReadyH.cons (o := { dst := some 123, op := Op.call { callee := Callee.value (Operand.func 17), args := #[Operand.tmp 121, Operand.tmp 122], argTypes := #[27, 27] }, type := 4, pos := "law.go:91", after := #[{ on := 1, ground := Ground.data }, { on := 2, ground := Ground.data }], guard := none }) rfl (fun K hK => ?_) AllReadyH.nil
          go_simp
          go_at_call 17
          refine c17.mono ?_
          rintro e W5 ⟨rfl, hb5⟩
          have S1 := six_onD hb5 S0
          have B5 := Lib.hid (bel_then ((Below.refl _ W4).drew) hb5)
          clear hb5
          refine hK.out _ _ S1 (fun hHeld => ?_)
          clear hK K
          try simp only [Act.put, List.setIfInBounds_toArray, List.set_cons_zero, List.set_cons_succ]
          refine take_at (i := 4) (v := .bool true) 124 rfl rfl (by kernel_rfl) (by kernel_rfl) (by kernel_rfl) (fun _ _ _ h => h) (Or.inl ⟨by kernel_rfl, by intro w hSw; (try dsimp only at hSw); go_simp⟩) (by assumption) ?_
          try simp only [Act.put, List.setIfInBounds_toArray, List.set_cons_zero, List.set_cons_succ]
          refine take_at (i := 5) (v := .int .i64 er) 125 rfl rfl (by kernel_rfl) (by kernel_rfl) (by kernel_rfl) (fun _ _ _ h => h) (Or.inl ⟨by kernel_rfl, by intro w hSw; (try dsimp only at hSw); go_simp⟩) (by assumption) ?_
          try simp only [Act.put, List.setIfInBounds_toArray, List.set_cons_zero, List.set_cons_succ]
          refine take_at (i := 6) (v := .int .i64 m2) 126 rfl rfl (by kernel_rfl) (by kernel_rfl) (by kernel_rfl) (fun _ _ _ h => h) (Or.inl ⟨by kernel_rfl, by intro w hSw; (try dsimp only at hSw); go_simp⟩) (by assumption) ?_
          try simp only [Act.put, List.setIfInBounds_toArray, List.set_cons_zero, List.set_cons_succ]
          refine take_at (i := 7) (v := .bool true) 127 rfl rfl (by kernel_rfl) (by kernel_rfl) (by kernel_rfl) (fun _ _ _ h => h) (Or.inl ⟨by kernel_rfl, by intro w hSw; (try dsimp only at hSw); go_simp⟩) (by assumption) ?_
          try simp only [Act.put, List.setIfInBounds_toArray, List.set_cons_zero, List.set_cons_succ]
          refine take_at (i := 8) (v := .bool true) 128 rfl rfl (by kernel_rfl) (by kernel_rfl) (by kernel_rfl) (fun _ _ _ h => h) (Or.inl ⟨by kernel_rfl, by intro w hSw; (try dsimp only at hSw); go_simp⟩) (by assumption) ?_
          try simp only [Act.put, List.setIfInBounds_toArray, List.set_cons_zero, List.set_cons_succ]
          refine take_at (i := 9) (v := .bool true) 129 rfl rfl (by kernel_rfl) (by kernel_rfl) (by kernel_rfl) (fun _ _ _ h => h) (Or.inl ⟨by kernel_rfl, by intro w hSw; (try dsimp only at hSw); go_simp⟩) (by assumption) ?_
          try simp only [Act.put, List.setIfInBounds_toArray, List.set_cons_zero, List.set_cons_succ]
          refine take_at (i := 10) (v := .int .i64 0) 130 rfl rfl (by kernel_rfl) (by kernel_rfl) (by kernel_rfl) (fun _ _ _ h => h) (Or.inl ⟨by kernel_rfl, by intro w hSw; (try dsimp only at hSw); go_simp⟩) (by assumption) ?_
          try simp only [Act.put, List.setIfInBounds_toArray, List.set_cons_zero, List.set_cons_succ]
          refine take_at (i := 11) (v := .int .i64 0) 131 rfl rfl (by kernel_rfl) (by kernel_rfl) (by kernel_rfl) (fun _ _ _ h => h) (Or.inl ⟨by kernel_rfl, by intro w hSw; (try dsimp only at hSw); go_simp⟩) (by assumption) ?_
          try simp only [Act.put, List.setIfInBounds_toArray, List.set_cons_zero, List.set_cons_succ]
          refine take_at (i := 12) (v := .bool true) 132 rfl rfl (by kernel_rfl) (by kernel_rfl) (by kernel_rfl) (fun _ _ _ h => h) (Or.inl ⟨by kernel_rfl, by intro w hSw; (try dsimp only at hSw); go_simp⟩) (by assumption) ?_
          try simp only [Act.put, List.setIfInBounds_toArray, List.set_cons_zero, List.set_cons_succ]
          refine take_at (i := 13) (v := .bool true) 133 rfl rfl (by kernel_rfl) (by kernel_rfl) (by kernel_rfl) (fun _ _ _ h => h) (Or.inl ⟨by kernel_rfl, by intro w hSw; (try dsimp only at hSw); go_simp⟩) (by assumption) ?_
          try simp only [Act.put, List.setIfInBounds_toArray, List.set_cons_zero, List.set_cons_succ]
          refine take_at (i := 14) (v := .bool true) 134 rfl rfl (by kernel_rfl) (by kernel_rfl) (by kernel_rfl) (fun _ _ _ h => h) (Or.inl ⟨by kernel_rfl, by intro w hSw; (try dsimp only at hSw); go_simp⟩) (by assumption) ?_
          try simp only [Act.put, List.setIfInBounds_toArray, List.set_cons_zero, List.set_cons_succ]
          refine take_at (i := 15) (v := .bool false) 135 rfl rfl (by kernel_rfl) (by kernel_rfl) (by kernel_rfl) (fun _ _ _ h => h) (Or.inl ⟨by kernel_rfl, by intro w hSw; (try dsimp only at hSw); go_simp⟩) (by assumption) ?_
          try simp only [Act.put, List.setIfInBounds_toArray, List.set_cons_zero, List.set_cons_succ]
          refine take_at (i := 16) (v := .bool true) 136 rfl rfl (by kernel_rfl) (by kernel_rfl) (by kernel_rfl) (fun _ _ _ h => h) (Or.inl ⟨by kernel_rfl, by intro w hSw; (try dsimp only at hSw); go_simp⟩) (by assumption) ?_
          try simp only [Act.put, List.setIfInBounds_toArray, List.set_cons_zero, List.set_cons_succ]
          refine take_at (i := 17) (v := .bool false) 137 rfl rfl (by kernel_rfl) (by kernel_rfl) (by kernel_rfl) (fun _ _ _ h => h) (Or.inl ⟨by kernel_rfl, by intro w hSw; (try dsimp only at hSw); go_simp⟩) (by assumption) ?_
          try simp only [Act.put, List.setIfInBounds_toArray, List.set_cons_zero, List.set_cons_succ]
          refine take_at (i := 18) (v := .bool false) 138 rfl rfl (by kernel_rfl) (by kernel_rfl) (by kernel_rfl) (fun _ _ _ h => h) (Or.inl ⟨by kernel_rfl, by intro w hSw; (try dsimp only at hSw); go_simp⟩) (by assumption) ?_
          try simp only [Act.put, List.setIfInBounds_toArray, List.set_cons_zero, List.set_cons_succ]
          have S2 := six_putD (B := w.heap.size + 1 + 1) (p := .slice p1 X.vs.length m1) (q := .slice q1 X.es.length d1) (l := .int .i64 X.last) S1 (by omega) (by omega)
          obtain ⟨y0, y1, y2, fy⟩ := three_of (blk_on B5.out G2.out)
          refine wpAnyH_one (i := 19) (o := { dst := none, op := Op.store 27 (Operand.tmp 4) (Operand.tmp 120), type := 0, pos := "law.go:91", after := #[{ on := 0, ground := Ground.data }, { on := 14, ground := Ground.chain }, { on := 0, ground := Ground.phase }, { on := 1, ground := Ground.textOnly Departure.lateStores }, { on := 2, ground := Ground.textOnly Departure.lateStores }, { on := 3, ground := Ground.textOnly Departure.lateStoresUnsure }, { on := 4, ground := Ground.textOnly Departure.lateStores }, { on := 5, ground := Ground.textOnly Departure.lateStores }, { on := 6, ground := Ground.textOnly Departure.lateStores }, { on := 7, ground := Ground.textOnly Departure.lateStores }, { on := 8, ground := Ground.textOnly Departure.lateStores }, { on := 9, ground := Ground.textOnly Departure.lateStores }, { on := 10, ground := Ground.textOnly Departure.lateStores }, { on := 11, ground := Ground.textOnly Departure.lateStores }, { on := 12, ground := Ground.textOnly Departure.lateStores }, { on := 13, ground := Ground.textOnly Departure.lateStores }, { on := 14, ground := Ground.textOnly Departure.lateStores }, { on := 15, ground := Ground.textOnly Departure.lateStores }, { on := 16, ground := Ground.textOnly Departure.lateStores }, { on := 17, ground := Ground.textOnly Departure.lateStores }, { on := 18, ground := Ground.textOnly Departure.lateStores }], guard := none }) (((W5.setCell ⟨w.heap.size + 1 + 1, 0, none⟩ (.slice p1 X.vs.length m1)).setCell ⟨w.heap.size + 1 + 1, 1, none⟩ (.slice q1 X.es.length d1)).setCell ⟨w.heap.size + 1 + 1, 2, none⟩ (.int .i64 X.last)) (by kernel_rfl) (by kernel_rfl) (by kernel_rfl) ?hop S2 ?_
          case hop =>
            intro K hK
            go_simp
            exact hK
          refine take_at (i := 20) (v := .bool false) 5 rfl rfl (by kernel_rfl) (by kernel_rfl) (by kernel_rfl) (fun _ _ _ h => h) (Or.inl ⟨by kernel_rfl, by intro w hSw; (try dsimp only at hSw); go_simp⟩) (by assumption) ?_
          try simp only [Act.put, List.setIfInBounds_toArray, List.set_cons_zero, List.set_cons_succ]
          refine wpAnyH_done (by kernel_rfl) ?_ _
          go_wp2
          simp [bodyPost, results, Try.results7, go_sem, y0, y1, y2]
          refine ⟨X, _, _, _, rfl, ?_, ?_, hst.out⟩
          · exact (HX4.out.on B5.out).keep (((keepB_set (show w.heap.size + 1 + 1 < w.heap.size + 1 + 1 + 1 + 1 + 1 by omega)).trans (keepB_set (show w.heap.size + 1 + 1 < w.heap.size + 1 + 1 + 1 + 1 + 1 by omega))).trans (keepB_set (show w.heap.size + 1 + 1 < w.heap.size + 1 + 1 + 1 + 1 + 1 by omega))).keep (by omega)
          · exact bel_s3 (bel_then B4.out B5.out) (by omega) _ _ _
      | true =>
        cases b2 with
        | false =>
          refine wp_region_held_drew (S := (fun u => (u.cell? ⟨w.heap.size + 1 + 1 + 1, 0, none⟩ = some (.slice p1 X.vs.length m1) ∧ u.cell? ⟨w.heap.size + 1 + 1 + 1, 1, none⟩ = some (.slice q1 X.es.length d1) ∧ u.cell? ⟨w.heap.size + 1 + 1 + 1, 2, none⟩ = some (.int .i64 X.last)) ∧ u.cell? ⟨w.heap.size + 1 + 1 + 1 + 1, 0, none⟩ = some (.slice p4 Y.vs.length c4) ∧ u.cell? ⟨w.heap.size + 1 + 1 + 1 + 1, 1, none⟩ = some (.slice q4 Y.es.length d4) ∧ u.cell? ⟨w.heap.size + 1 + 1 + 1 + 1, 2, none⟩ = some (.int .i64 Y.last))) (by kernel_rfl) S0 (fun hHeld => ?_)
          refine take_at (i := 0) (v := .agg #[.slice p1 X.vs.length m1, .slice q1 X.es.length d1, .int .i64 X.last]) 120 rfl rfl (by kernel_rfl) (by kernel_rfl) (by kernel_rfl) (fun _ _ _ h => h) (Or.inl ⟨by kernel_rfl, by intro w hSw; (try dsimp only at hSw); go_simp⟩) (by assumption) ?_
          try simp only [Act.put, List.setIfInBounds_toArray, List.set_cons_zero, List.set_cons_succ]
          refine take_at (i := 1) (v := .agg #[.slice p1 X.vs.length m1, .slice q1 X.es.length d1, .int .i64 X.last]) 121 rfl rfl (by kernel_rfl) (by kernel_rfl) (by kernel_rfl) (fun _ _ _ h => h) (Or.inl ⟨by kernel_rfl, by intro w hSw; (try dsimp only at hSw); go_simp⟩) (by assumption) ?_
          try simp only [Act.put, List.setIfInBounds_toArray, List.set_cons_zero, List.set_cons_succ]
          refine take_at (i := 2) (v := .agg #[.slice p4 Y.vs.length c4, .slice q4 Y.es.length d4, .int .i64 Y.last]) 122 rfl rfl (by kernel_rfl) (by kernel_rfl) (by kernel_rfl) (fun _ _ _ h => h) (Or.inl ⟨by kernel_rfl, by intro w hSw; (try dsimp only at hSw); go_simp⟩) (by assumption) ?_
          try simp only [Act.put, List.setIfInBounds_toArray, List.set_cons_zero, List.set_cons_succ]
          refine wpAnyH_ready (rs := [3]) (by kernel_rfl) (by simp) ?_
          refine AllReadyH.cons (o := { dst := some 123, op := Op.call { callee := Callee.value (Operand.func 17), args := #[Operand.tmp 121, Operand.tmp 122], argTypes := #[27, 27] }, type := 4, pos := "law.go:91", after := #[{ on := 1, ground := Ground.data }, { on := 2, ground := Ground.data }], guard := none }) rfl (fun K hK => ?_) AllReadyH.nil
          go_simp
          go_at_call 17
          refine c17.mono ?_
          rintro e W5 ⟨rfl, hb5⟩
          have S1 := six_onD hb5 S0
          have B5 := Lib.hid (bel_then ((Below.refl _ W4).drew) hb5)
          clear hb5
          refine hK.out _ _ S1 (fun hHeld => ?_)
          clear hK K
          try simp only [Act.put, List.setIfInBounds_toArray, List.set_cons_zero, List.set_cons_succ]
          refine take_at (i := 4) (v := .bool true) 124 rfl rfl (by kernel_rfl) (by kernel_rfl) (by kernel_rfl) (fun _ _ _ h => h) (Or.inl ⟨by kernel_rfl, by intro w hSw; (try dsimp only at hSw); go_simp⟩) (by assumption) ?_
          try simp only [Act.put, List.setIfInBounds_toArray, List.set_cons_zero, List.set_cons_succ]
          refine take_at (i := 5) (v := .int .i64 er) 125 rfl rfl (by kernel_rfl) (by kernel_rfl) (by kernel_rfl) (fun _ _ _ h => h) (Or.inl ⟨by kernel_rfl, by intro w hSw; (try dsimp only at hSw); go_simp⟩) (by assumption) ?_
          try simp only [Act.put, List.setIfInBounds_toArray, List.set_cons_zero, List.set_cons_succ]
          refine take_at (i := 6) (v := .int .i64 m2) 126 rfl rfl (by kernel_rfl) (by kernel_rfl) (by kernel_rfl) (fun _ _ _ h => h) (Or.inl ⟨by kernel_rfl, by intro w hSw; (try dsimp only at hSw); go_simp⟩) (by assumption) ?_
          try simp only [Act.put, List.setIfInBounds_toArray, List.set_cons_zero, List.set_cons_succ]
          refine take_at (i := 7) (v := .bool true) 127 rfl rfl (by kernel_rfl) (by kernel_rfl) (by kernel_rfl) (fun _ _ _ h => h) (Or.inl ⟨by kernel_rfl, by intro w hSw; (try dsimp only at hSw); go_simp⟩) (by assumption) ?_
          try simp only [Act.put, List.setIfInBounds_toArray, List.set_cons_zero, List.set_cons_succ]
          refine take_at (i := 8) (v := .bool true) 128 rfl rfl (by kernel_rfl) (by kernel_rfl) (by kernel_rfl) (fun _ _ _ h => h) (Or.inl ⟨by kernel_rfl, by intro w hSw; (try dsimp only at hSw); go_simp⟩) (by assumption) ?_
          try simp only [Act.put, List.setIfInBounds_toArray, List.set_cons_zero, List.set_cons_succ]
          refine take_at (i := 9) (v := .bool true) 129 rfl rfl (by kernel_rfl) (by kernel_rfl) (by kernel_rfl) (fun _ _ _ h => h) (Or.inl ⟨by kernel_rfl, by intro w hSw; (try dsimp only at hSw); go_simp⟩) (by assumption) ?_
          try simp only [Act.put, List.setIfInBounds_toArray, List.set_cons_zero, List.set_cons_succ]
          refine take_at (i := 10) (v := .int .i64 0) 130 rfl rfl (by kernel_rfl) (by kernel_rfl) (by kernel_rfl) (fun _ _ _ h => h) (Or.inl ⟨by kernel_rfl, by intro w hSw; (try dsimp only at hSw); go_simp⟩) (by assumption) ?_
          try simp only [Act.put, List.setIfInBounds_toArray, List.set_cons_zero, List.set_cons_succ]
          refine take_at (i := 11) (v := .int .i64 0) 131 rfl rfl (by kernel_rfl) (by kernel_rfl) (by kernel_rfl) (fun _ _ _ h => h) (Or.inl ⟨by kernel_rfl, by intro w hSw; (try dsimp only at hSw); go_simp⟩) (by assumption) ?_
          try simp only [Act.put, List.setIfInBounds_toArray, List.set_cons_zero, List.set_cons_succ]
          refine take_at (i := 12) (v := .bool true) 132 rfl rfl (by kernel_rfl) (by kernel_rfl) (by kernel_rfl) (fun _ _ _ h => h) (Or.inl ⟨by kernel_rfl, by intro w hSw; (try dsimp only at hSw); go_simp⟩) (by assumption) ?_
          try simp only [Act.put, List.setIfInBounds_toArray, List.set_cons_zero, List.set_cons_succ]
          refine take_at (i := 13) (v := .bool true) 133 rfl rfl (by kernel_rfl) (by kernel_rfl) (by kernel_rfl) (fun _ _ _ h => h) (Or.inl ⟨by kernel_rfl, by intro w hSw; (try dsimp only at hSw); go_simp⟩) (by assumption) ?_
          try simp only [Act.put, List.setIfInBounds_toArray, List.set_cons_zero, List.set_cons_succ]
          refine take_at (i := 14) (v := .bool true) 134 rfl rfl (by kernel_rfl) (by kernel_rfl) (by kernel_rfl) (fun _ _ _ h => h) (Or.inl ⟨by kernel_rfl, by intro w hSw; (try dsimp only at hSw); go_simp⟩) (by assumption) ?_
          try simp only [Act.put, List.setIfInBounds_toArray, List.set_cons_zero, List.set_cons_succ]
          refine take_at (i := 15) (v := .bool true) 135 rfl rfl (by kernel_rfl) (by kernel_rfl) (by kernel_rfl) (fun _ _ _ h => h) (Or.inl ⟨by kernel_rfl, by intro w hSw; (try dsimp only at hSw); go_simp⟩) (by assumption) ?_
          try simp only [Act.put, List.setIfInBounds_toArray, List.set_cons_zero, List.set_cons_succ]
          refine take_at (i := 16) (v := .bool false) 136 rfl rfl (by kernel_rfl) (by kernel_rfl) (by kernel_rfl) (fun _ _ _ h => h) (Or.inl ⟨by kernel_rfl, by intro w hSw; (try dsimp only at hSw); go_simp⟩) (by assumption) ?_
          try simp only [Act.put, List.setIfInBounds_toArray, List.set_cons_zero, List.set_cons_succ]
          refine take_at (i := 17) (v := .bool false) 137 rfl rfl (by kernel_rfl) (by kernel_rfl) (by kernel_rfl) (fun _ _ _ h => h) (Or.inl ⟨by kernel_rfl, by intro w hSw; (try dsimp only at hSw); go_simp⟩) (by assumption) ?_
          try simp only [Act.put, List.setIfInBounds_toArray, List.set_cons_zero, List.set_cons_succ]
          refine take_at (i := 18) (v := .bool false) 138 rfl rfl (by kernel_rfl) (by kernel_rfl) (by kernel_rfl) (fun _ _ _ h => h) (Or.inl ⟨by kernel_rfl, by intro w hSw; (try dsimp only at hSw); go_simp⟩) (by assumption) ?_
          try simp only [Act.put, List.setIfInBounds_toArray, List.set_cons_zero, List.set_cons_succ]
          have S2 := six_putD (B := w.heap.size + 1 + 1) (p := .slice p1 X.vs.length m1) (q := .slice q1 X.es.length d1) (l := .int .i64 X.last) S1 (by omega) (by omega)
          obtain ⟨y0, y1, y2, fy⟩ := three_of (blk_on B5.out G2.out)
          refine wpAnyH_one (i := 19) (o := { dst := none, op := Op.store 27 (Operand.tmp 4) (Operand.tmp 120), type := 0, pos := "law.go:91", after := #[{ on := 0, ground := Ground.data }, { on := 14, ground := Ground.chain }, { on := 0, ground := Ground.phase }, { on := 1, ground := Ground.textOnly Departure.lateStores }, { on := 2, ground := Ground.textOnly Departure.lateStores }, { on := 3, ground := Ground.textOnly Departure.lateStoresUnsure }, { on := 4, ground := Ground.textOnly Departure.lateStores }, { on := 5, ground := Ground.textOnly Departure.lateStores }, { on := 6, ground := Ground.textOnly Departure.lateStores }, { on := 7, ground := Ground.textOnly Departure.lateStores }, { on := 8, ground := Ground.textOnly Departure.lateStores }, { on := 9, ground := Ground.textOnly Departure.lateStores }, { on := 10, ground := Ground.textOnly Departure.lateStores }, { on := 11, ground := Ground.textOnly Departure.lateStores }, { on := 12, ground := Ground.textOnly Departure.lateStores }, { on := 13, ground := Ground.textOnly Departure.lateStores }, { on := 14, ground := Ground.textOnly Departure.lateStores }, { on := 15, ground := Ground.textOnly Departure.lateStores }, { on := 16, ground := Ground.textOnly Departure.lateStores }, { on := 17, ground := Ground.textOnly Departure.lateStores }, { on := 18, ground := Ground.textOnly Departure.lateStores }], guard := none }) (((W5.setCell ⟨w.heap.size + 1 + 1, 0, none⟩ (.slice p1 X.vs.length m1)).setCell ⟨w.heap.size + 1 + 1, 1, none⟩ (.slice q1 X.es.length d1)).setCell ⟨w.heap.size + 1 + 1, 2, none⟩ (.int .i64 X.last)) (by kernel_rfl) (by kernel_rfl) (by kernel_rfl) ?hop S2 ?_
          case hop =>
            intro K hK
            go_simp
            exact hK
          refine take_at (i := 20) (v := .bool false) 5 rfl rfl (by kernel_rfl) (by kernel_rfl) (by kernel_rfl) (fun _ _ _ h => h) (Or.inl ⟨by kernel_rfl, by intro w hSw; (try dsimp only at hSw); go_simp⟩) (by assumption) ?_
          try simp only [Act.put, List.setIfInBounds_toArray, List.set_cons_zero, List.set_cons_succ]
          refine wpAnyH_done (by kernel_rfl) ?_ _
          go_wp2
          simp [bodyPost, results, Try.results7, go_sem, y0, y1, y2]
          refine ⟨X, _, _, _, rfl, ?_, ?_, hst.out⟩
          · exact (HX4.out.on B5.out).keep (((keepB_set (show w.heap.size + 1 + 1 < w.heap.size + 1 + 1 + 1 + 1 + 1 by omega)).trans (keepB_set (show w.heap.size + 1 + 1 < w.heap.size + 1 + 1 + 1 + 1 + 1 by omega))).trans (keepB_set (show w.heap.size + 1 + 1 < w.heap.size + 1 + 1 + 1 + 1 + 1 by omega))).keep (by omega)
          · exact bel_s3 (bel_then B4.out B5.out) (by omega) _ _ _
        | true =>
          refine wp_region_held_drew (S := (fun u => (u.cell? ⟨w.heap.size + 1 + 1 + 1, 0, none⟩ = some (.slice p1 X.vs.length m1) ∧ u.cell? ⟨w.heap.size + 1 + 1 + 1, 1, none⟩ = some (.slice q1 X.es.length d1) ∧ u.cell? ⟨w.heap.size + 1 + 1 + 1, 2, none⟩ = some (.int .i64 X.last)) ∧ u.cell? ⟨w.heap.size + 1 + 1 + 1 + 1, 0, none⟩ = some (.slice p4 Y.vs.length c4) ∧ u.cell? ⟨w.heap.size + 1 + 1 + 1 + 1, 1, none⟩ = some (.slice q4 Y.es.length d4) ∧ u.cell? ⟨w.heap.size + 1 + 1 + 1 + 1, 2, none⟩ = some (.int .i64 Y.last))) (by kernel_rfl) S0 (fun hHeld => ?_)
          refine take_at (i := 0) (v := .agg #[.slice p1 X.vs.length m1, .slice q1 X.es.length d1, .int .i64 X.last]) 120 rfl rfl (by kernel_rfl) (by kernel_rfl) (by kernel_rfl) (fun _ _ _ h => h) (Or.inl ⟨by kernel_rfl, by intro w hSw; (try dsimp only at hSw); go_simp⟩) (by assumption) ?_
          try simp only [Act.put, List.setIfInBounds_toArray, List.set_cons_zero, List.set_cons_succ]
          refine take_at (i := 1) (v := .agg #[.slice p1 X.vs.length m1, .slice q1 X.es.length d1, .int .i64 X.last]) 121 rfl rfl (by kernel_rfl) (by kernel_rfl) (by kernel_rfl) (fun _ _ _ h => h) (Or.inl ⟨by kernel_rfl, by intro w hSw; (try dsimp only at hSw); go_simp⟩) (by assumption) ?_
          try simp only [Act.put, List.setIfInBounds_toArray, List.set_cons_zero, List.set_cons_succ]
          refine take_at (i := 2) (v := .agg #[.slice p4 Y.vs.length c4, .slice q4 Y.es.length d4, .int .i64 Y.last]) 122 rfl rfl (by kernel_rfl) (by kernel_rfl) (by kernel_rfl) (fun _ _ _ h => h) (Or.inl ⟨by kernel_rfl, by intro w hSw; (try dsimp only at hSw); go_simp⟩) (by assumption) ?_
          try simp only [Act.put, List.setIfInBounds_toArray, List.set_cons_zero, List.set_cons_succ]
          refine wpAnyH_ready (rs := [3]) (by kernel_rfl) (by simp) ?_
          refine AllReadyH.cons (o := { dst := some 123, op := Op.call { callee := Callee.value (Operand.func 17), args := #[Operand.tmp 121, Operand.tmp 122], argTypes := #[27, 27] }, type := 4, pos := "law.go:91", after := #[{ on := 1, ground := Ground.data }, { on := 2, ground := Ground.data }], guard := none }) rfl (fun K hK => ?_) AllReadyH.nil
          go_simp
          go_at_call 17
          refine c17.mono ?_
          rintro e W5 ⟨rfl, hb5⟩
          have S1 := six_onD hb5 S0
          have B5 := Lib.hid (bel_then ((Below.refl _ W4).drew) hb5)
          clear hb5
          refine hK.out _ _ S1 (fun hHeld => ?_)
          clear hK K
          try simp only [Act.put, List.setIfInBounds_toArray, List.set_cons_zero, List.set_cons_succ]
          refine take_at (i := 4) (v := .bool true) 124 rfl rfl (by kernel_rfl) (by kernel_rfl) (by kernel_rfl) (fun _ _ _ h => h) (Or.inl ⟨by kernel_rfl, by intro w hSw; (try dsimp only at hSw); go_simp⟩) (by assumption) ?_
          try simp only [Act.put, List.setIfInBounds_toArray, List.set_cons_zero, List.set_cons_succ]
          refine take_at (i := 5) (v := .int .i64 er) 125 rfl rfl (by kernel_rfl) (by kernel_rfl) (by kernel_rfl) (fun _ _ _ h => h) (Or.inl ⟨by kernel_rfl, by intro w hSw; (try dsimp only at hSw); go_simp⟩) (by assumption) ?_
          try simp only [Act.put, List.setIfInBounds_toArray, List.set_cons_zero, List.set_cons_succ]
          refine take_at (i := 6) (v := .int .i64 m2) 126 rfl rfl (by kernel_rfl) (by kernel_rfl) (by kernel_rfl) (fun _ _ _ h => h) (Or.inl ⟨by kernel_rfl, by intro w hSw; (try dsimp only at hSw); go_simp⟩) (by assumption) ?_
          try simp only [Act.put, List.setIfInBounds_toArray, List.set_cons_zero, List.set_cons_succ]
          refine take_at (i := 7) (v := .bool true) 127 rfl rfl (by kernel_rfl) (by kernel_rfl) (by kernel_rfl) (fun _ _ _ h => h) (Or.inl ⟨by kernel_rfl, by intro w hSw; (try dsimp only at hSw); go_simp⟩) (by assumption) ?_
          try simp only [Act.put, List.setIfInBounds_toArray, List.set_cons_zero, List.set_cons_succ]
          refine take_at (i := 8) (v := .bool true) 128 rfl rfl (by kernel_rfl) (by kernel_rfl) (by kernel_rfl) (fun _ _ _ h => h) (Or.inl ⟨by kernel_rfl, by intro w hSw; (try dsimp only at hSw); go_simp⟩) (by assumption) ?_
          try simp only [Act.put, List.setIfInBounds_toArray, List.set_cons_zero, List.set_cons_succ]
          refine take_at (i := 9) (v := .bool true) 129 rfl rfl (by kernel_rfl) (by kernel_rfl) (by kernel_rfl) (fun _ _ _ h => h) (Or.inl ⟨by kernel_rfl, by intro w hSw; (try dsimp only at hSw); go_simp⟩) (by assumption) ?_
          try simp only [Act.put, List.setIfInBounds_toArray, List.set_cons_zero, List.set_cons_succ]
          refine take_at (i := 10) (v := .int .i64 0) 130 rfl rfl (by kernel_rfl) (by kernel_rfl) (by kernel_rfl) (fun _ _ _ h => h) (Or.inl ⟨by kernel_rfl, by intro w hSw; (try dsimp only at hSw); go_simp⟩) (by assumption) ?_
          try simp only [Act.put, List.setIfInBounds_toArray, List.set_cons_zero, List.set_cons_succ]
          refine take_at (i := 11) (v := .int .i64 0) 131 rfl rfl (by kernel_rfl) (by kernel_rfl) (by kernel_rfl) (fun _ _ _ h => h) (Or.inl ⟨by kernel_rfl, by intro w hSw; (try dsimp only at hSw); go_simp⟩) (by assumption) ?_
          try simp only [Act.put, List.setIfInBounds_toArray, List.set_cons_zero, List.set_cons_succ]
          refine take_at (i := 12) (v := .bool true) 132 rfl rfl (by kernel_rfl) (by kernel_rfl) (by kernel_rfl) (fun _ _ _ h => h) (Or.inl ⟨by kernel_rfl, by intro w hSw; (try dsimp only at hSw); go_simp⟩) (by assumption) ?_
          try simp only [Act.put, List.setIfInBounds_toArray, List.set_cons_zero, List.set_cons_succ]
          refine take_at (i := 13) (v := .bool true) 133 rfl rfl (by kernel_rfl) (by kernel_rfl) (by kernel_rfl) (fun _ _ _ h => h) (Or.inl ⟨by kernel_rfl, by intro w hSw; (try dsimp only at hSw); go_simp⟩) (by assumption) ?_
          try simp only [Act.put, List.setIfInBounds_toArray, List.set_cons_zero, List.set_cons_succ]
          refine take_at (i := 14) (v := .bool true) 134 rfl rfl (by kernel_rfl) (by kernel_rfl) (by kernel_rfl) (fun _ _ _ h => h) (Or.inl ⟨by kernel_rfl, by intro w hSw; (try dsimp only at hSw); go_simp⟩) (by assumption) ?_
          try simp only [Act.put, List.setIfInBounds_toArray, List.set_cons_zero, List.set_cons_succ]
          refine take_at (i := 15) (v := .bool true) 135 rfl rfl (by kernel_rfl) (by kernel_rfl) (by kernel_rfl) (fun _ _ _ h => h) (Or.inl ⟨by kernel_rfl, by intro w hSw; (try dsimp only at hSw); go_simp⟩) (by assumption) ?_
          try simp only [Act.put, List.setIfInBounds_toArray, List.set_cons_zero, List.set_cons_succ]
          refine take_at (i := 16) (v := .bool true) 136 rfl rfl (by kernel_rfl) (by kernel_rfl) (by kernel_rfl) (fun _ _ _ h => h) (Or.inl ⟨by kernel_rfl, by intro w hSw; (try dsimp only at hSw); go_simp⟩) (by assumption) ?_
          try simp only [Act.put, List.setIfInBounds_toArray, List.set_cons_zero, List.set_cons_succ]
          refine take_at (i := 17) (v := .bool true) 137 rfl rfl (by kernel_rfl) (by kernel_rfl) (by kernel_rfl) (fun _ _ _ h => h) (Or.inl ⟨by kernel_rfl, by intro w hSw; (try dsimp only at hSw); go_simp⟩) (by assumption) ?_
          try simp only [Act.put, List.setIfInBounds_toArray, List.set_cons_zero, List.set_cons_succ]
          refine take_at (i := 18) (v := .bool true) 138 rfl rfl (by kernel_rfl) (by kernel_rfl) (by kernel_rfl) (fun _ _ _ h => h) (Or.inl ⟨by kernel_rfl, by intro w hSw; (try dsimp only at hSw); go_simp⟩) (by assumption) ?_
          try simp only [Act.put, List.setIfInBounds_toArray, List.set_cons_zero, List.set_cons_succ]
          have S2 := six_putD (B := w.heap.size + 1 + 1) (p := .slice p1 X.vs.length m1) (q := .slice q1 X.es.length d1) (l := .int .i64 X.last) S1 (by omega) (by omega)
          obtain ⟨y0, y1, y2, fy⟩ := three_of (blk_on B5.out G2.out)
          refine wpAnyH_one (i := 19) (o := { dst := none, op := Op.store 27 (Operand.tmp 4) (Operand.tmp 120), type := 0, pos := "law.go:91", after := #[{ on := 0, ground := Ground.data }, { on := 14, ground := Ground.chain }, { on := 0, ground := Ground.phase }, { on := 1, ground := Ground.textOnly Departure.lateStores }, { on := 2, ground := Ground.textOnly Departure.lateStores }, { on := 3, ground := Ground.textOnly Departure.lateStoresUnsure }, { on := 4, ground := Ground.textOnly Departure.lateStores }, { on := 5, ground := Ground.textOnly Departure.lateStores }, { on := 6, ground := Ground.textOnly Departure.lateStores }, { on := 7, ground := Ground.textOnly Departure.lateStores }, { on := 8, ground := Ground.textOnly Departure.lateStores }, { on := 9, ground := Ground.textOnly Departure.lateStores }, { on := 10, ground := Ground.textOnly Departure.lateStores }, { on := 11, ground := Ground.textOnly Departure.lateStores }, { on := 12, ground := Ground.textOnly Departure.lateStores }, { on := 13, ground := Ground.textOnly Departure.lateStores }, { on := 14, ground := Ground.textOnly Departure.lateStores }, { on := 15, ground := Ground.textOnly Departure.lateStores }, { on := 16, ground := Ground.textOnly Departure.lateStores }, { on := 17, ground := Ground.textOnly Departure.lateStores }, { on := 18, ground := Ground.textOnly Departure.lateStores }], guard := none }) (((W5.setCell ⟨w.heap.size + 1 + 1, 0, none⟩ (.slice p1 X.vs.length m1)).setCell ⟨w.heap.size + 1 + 1, 1, none⟩ (.slice q1 X.es.length d1)).setCell ⟨w.heap.size + 1 + 1, 2, none⟩ (.int .i64 X.last)) (by kernel_rfl) (by kernel_rfl) (by kernel_rfl) ?hop S2 ?_
          case hop =>
            intro K hK
            go_simp
            exact hK
          refine take_at (i := 20) (v := .bool true) 5 rfl rfl (by kernel_rfl) (by kernel_rfl) (by kernel_rfl) (fun _ _ _ h => h) (Or.inl ⟨by kernel_rfl, by intro w hSw; (try dsimp only at hSw); go_simp⟩) (by assumption) ?_
          try simp only [Act.put, List.setIfInBounds_toArray, List.set_cons_zero, List.set_cons_succ]
          refine wpAnyH_done (by kernel_rfl) ?_ _
          go_wp2
          simp [bodyPost, results, Try.results7, go_sem, y0, y1, y2]
          refine ⟨X, _, _, _, rfl, ?_, ?_, hst.out⟩
          · exact (HX4.out.on B5.out).keep (((keepB_set (show w.heap.size + 1 + 1 < w.heap.size + 1 + 1 + 1 + 1 + 1 by omega)).trans (keepB_set (show w.heap.size + 1 + 1 < w.heap.size + 1 + 1 + 1 + 1 + 1 by omega))).trans (keepB_set (show w.heap.size + 1 + 1 < w.heap.size + 1 + 1 + 1 + 1 + 1 by omega))).keep (by omega)
          · exact bel_s3 (bel_then B4.out B5.out) (by omega) _ _ _
set_option maxRecDepth 100000 in
set_option maxHeartbeats 16000000 in
theorem does_drop (g : Gg) (sv se : Value) (dk : Int) (lb : ByteArray) (io ii : Int) (xk xn : Int) (xs : ByteArray) (xl : List V) (r : Option Addr) (m d : Nat) (v : V) (p3 : Option Addr) (n3 c3 : Nat) (w : World) (hg : Gg.In w 0 g sv se) (hm : gMay g = true) (hio : I64 io) (hii : I64 ii) (hx : (V.mk xk xn xs xl).In w 0 (.slice r m d)) (hv : v.In w 0 (.slice p3 n3 c3)) (k0 : (dk == 0) = false) (k1 : (dk == 1) = false) (k2 : (dk == 2) = false) (k3 : (dk == 3) = false) :
    Calls Try.prog 7 #[g.agg sv se, .agg #[.int .i64 dk, .string lb, .int .i64 io, .int .i64 ii, .int .i64 xk, .int .i64 xn, .string xs, .slice r m d, .int .i64 v.k, .int .i64 v.n, .string v.s, .slice p3 n3 c3]] w fun e w' => RDo g w e w' := by
  obtain ⟨pv, cv, rfl⟩ := hg.2.1.header
  obtain ⟨pe, ce, rfl⟩ := hg.2.2.header
  have HG := Lib.hid hg
  have HX := Lib.hid hx
  have HV := Lib.hid hv
  clear hg hx hv
  unfold Gg.agg
  have BW := Lib.hid (bel_al (bel_al (bel_al (bel_al (bel1 w (.cells #[.slice pv g.vs.length cv, .slice pe g.es.length ce, .int .i64 g.last] 27)) (.cells #[.int .i64 dk, .string lb, .int .i64 io, .int .i64 ii, .int .i64 xk, .int .i64 xn, .string xs, .slice r m d, .int .i64 v.k, .int .i64 v.n, .string v.s, .slice p3 n3 c3] 32)) (.cells #[.slice none 0 0, .slice none 0 0, .int .i64 0] 27)) (.cells #[.slice none 0 0, .slice none 0 0, .int .i64 0] 27)) (.cells #[.slice none 0 0, .slice none 0 0, .int .i64 0] 27))
  have hz : Hid ((((((w.alloc (.cells #[.slice pv g.vs.length cv, .slice pe g.es.length ce, .int .i64 g.last] 27)).alloc (.cells #[.int .i64 dk, .string lb, .int .i64 io, .int .i64 ii, .int .i64 xk, .int .i64 xn, .string xs, .slice r m d, .int .i64 v.k, .int .i64 v.n, .string v.s, .slice p3 n3 c3] 32)).alloc (.cells #[.slice none 0 0, .slice none 0 0, .int .i64 0] 27)).alloc (.cells #[.slice none 0 0, .slice none 0 0, .int .i64 0] 27)).alloc (.cells #[.slice none 0 0, .slice none 0 0, .int .i64 0] 27)).heap.size = w.heap.size + 1 + 1 + 1 + 1 + 1) := by show _ = _; simp
  have E0 := (blk_on (bel1 _ (.cells #[.slice none 0 0, .slice none 0 0, .int .i64 0] 27)) (blk_on (bel1 _ (.cells #[.slice none 0 0, .slice none 0 0, .int .i64 0] 27)) (blk_on (bel1 _ (.cells #[.slice none 0 0, .slice none 0 0, .int .i64 0] 27)) (blk_on (bel1 _ (.cells #[.int .i64 dk, .string lb, .int .i64 io, .int .i64 ii, .int .i64 xk, .int .i64 xn, .string xs, .slice r m d, .int .i64 v.k, .int .i64 v.n, .string v.s, .slice p3 n3 c3] 32)) (blk_new0 w (.cells #[.slice pv g.vs.length cv, .slice pe g.es.length ce, .int .i64 g.last] 27))))))
  have E1 := (blk_on (bel1 _ (.cells #[.slice none 0 0, .slice none 0 0, .int .i64 0] 27)) (blk_on (bel1 _ (.cells #[.slice none 0 0, .slice none 0 0, .int .i64 0] 27)) (blk_on (bel1 _ (.cells #[.slice none 0 0, .slice none 0 0, .int .i64 0] 27)) (blk_new0 (w.alloc (.cells #[.slice pv g.vs.length cv, .slice pe g.es.length ce, .int .i64 g.last] 27)) (.cells #[.int .i64 dk, .string lb, .int .i64 io, .int .i64 ii, .int .i64 xk, .int .i64 xn, .string xs, .slice r m d, .int .i64 v.k, .int .i64 v.n, .string v.s, .slice p3 n3 c3] 32)))))
  have E2 := (blk_on (bel1 _ (.cells #[.slice none 0 0, .slice none 0 0, .int .i64 0] 27)) (blk_on (bel1 _ (.cells #[.slice none 0 0, .slice none 0 0, .int .i64 0] 27)) (blk_new0 ((w.alloc (.cells #[.slice pv g.vs.length cv, .slice pe g.es.length ce, .int .i64 g.last] 27)).alloc (.cells #[.int .i64 dk, .string lb, .int .i64 io, .int .i64 ii, .int .i64 xk, .int .i64 xn, .string xs, .slice r m d, .int .i64 v.k, .int .i64 v.n, .string v.s, .slice p3 n3 c3] 32)) (.cells #[.slice none 0 0, .slice none 0 0, .int .i64 0] 27))))
  have E3 := (blk_on (bel1 _ (.cells #[.slice none 0 0, .slice none 0 0, .int .i64 0] 27)) (blk_new0 (((w.alloc (.cells #[.slice pv g.vs.length cv, .slice pe g.es.length ce, .int .i64 g.last] 27)).alloc (.cells #[.int .i64 dk, .string lb, .int .i64 io, .int .i64 ii, .int .i64 xk, .int .i64 xn, .string xs, .slice r m d, .int .i64 v.k, .int .i64 v.n, .string v.s, .slice p3 n3 c3] 32)).alloc (.cells #[.slice none 0 0, .slice none 0 0, .int .i64 0] 27)) (.cells #[.slice none 0 0, .slice none 0 0, .int .i64 0] 27)))
  have E4 := (blk_new0 ((((w.alloc (.cells #[.slice pv g.vs.length cv, .slice pe g.es.length ce, .int .i64 g.last] 27)).alloc (.cells #[.int .i64 dk, .string lb, .int .i64 io, .int .i64 ii, .int .i64 xk, .int .i64 xn, .string xs, .slice r m d, .int .i64 v.k, .int .i64 v.n, .string v.s, .slice p3 n3 c3] 32)).alloc (.cells #[.slice none 0 0, .slice none 0 0, .int .i64 0] 27)).alloc (.cells #[.slice none 0 0, .slice none 0 0, .int .i64 0] 27)) (.cells #[.slice none 0 0, .slice none 0 0, .int .i64 0] 27))
  simp only [World.size_alloc] at E0 E1 E2 E3 E4
  replace E0 := Lib.hid E0
  replace E1 := Lib.hid E1
  replace E2 := Lib.hid E2
  replace E3 := Lib.hid E3
  replace E4 := Lib.hid E4
  go_enter Try.func7, Try.ntmps7
  go_wp2_with (fail)
  generalize (((((w.alloc (.cells #[.slice pv g.vs.length cv, .slice pe g.es.length ce, .int .i64 g.last] 27)).alloc (.cells #[.int .i64 dk, .string lb, .int .i64 io, .int .i64 ii, .int .i64 xk, .int .i64 xn, .string xs, .slice r m d, .int .i64 v.k, .int .i64 v.n, .string v.s, .slice p3 n3 c3] 32)).alloc (.cells #[.slice none 0 0, .slice none 0 0, .int .i64 0] 27)).alloc (.cells #[.slice none 0 0, .slice none 0 0, .int .i64 0] 27)).alloc (.cells #[.slice none 0 0, .slice none 0 0, .int .i64 0] 27)) = W0 at *
  have c1 := drop22 g _ _ xk xn xs xl r m d W0 (HG.out.on BW.out) (HX.out.on BW.out)
  obtain ⟨X, hX⟩ : ∃ x, (gDrop g (ek xk xs xl) xn).1 = x := ⟨_, rfl⟩
  have hst : Stays g X := by rw [← hX]; exact st_drop hm _ _
  rw [hX] at c1
  obtain ⟨er, her⟩ : ∃ x, (gDrop g (ek xk xs xl) xn).2 = x := ⟨_, rfl⟩
  rw [her] at c1
  clear her
  clear hX
  have hst := Lib.hid hst
  unfold Chg2 Gg.agg at c1
  try unfold V.agg at c1
  refine c1.mono ?_
  rintro e W1 ⟨s1, s2, rfl, hin1, hb1⟩
  obtain ⟨p1, m1, rfl⟩ := hin1.2.1.header
  obtain ⟨q1, d1, rfl⟩ := hin1.2.2.header
  have hin2 := hin1.keep (((keepB_set (w := W1) (B := w.heap.size + 1 + 1 + 1) (i := 0) (c := .slice p1 X.vs.length m1) (by have := hz.out; omega)).trans (keepB_set (B := w.heap.size + 1 + 1 + 1) (i := 1) (c := .slice q1 X.es.length d1) (by have := hz.out; omega))).trans (keepB_set (B := w.heap.size + 1 + 1 + 1) (i := 2) (c := .int .i64 X.last) (by have := hz.out; omega))).keep (show w.heap.size + 1 + 1 + 1 + 1 + 1 ≤ W0.heap.size by have := hz.out; omega)
  have BW2 := bel_s3 (bel_then BW.out hb1) (show w.heap.size ≤ w.heap.size + 1 + 1 + 1 by omega) (.slice p1 X.vs.length m1) (.slice q1 X.es.length d1) (.int .i64 X.last)
  have hz1 := hb1.size
  have F0 := blk_oth (i := 2) (c := .int .i64 X.last) (B' := w.heap.size + 1 + 1 + 1) (blk_oth (i := 1) (c := .slice q1 X.es.length d1) (B' := w.heap.size + 1 + 1 + 1) (blk_oth (i := 0) (c := .slice p1 X.vs.length m1) (B' := w.heap.size + 1 + 1 + 1) (blk_on hb1 E0.out) (by omega)) (by omega)) (by omega)
  have F1 := blk_oth (i := 2) (c := .int .i64 X.last) (B' := w.heap.size + 1 + 1 + 1) (blk_oth (i := 1) (c := .slice q1 X.es.length d1) (B' := w.heap.size + 1 + 1 + 1) (blk_oth (i := 0) (c := .slice p1 X.vs.length m1) (B' := w.heap.size + 1 + 1 + 1) (blk_on hb1 E1.out) (by omega)) (by omega)) (by omega)
  have F2 := blk_oth (i := 2) (c := .int .i64 X.last) (B' := w.heap.size + 1 + 1 + 1) (blk_oth (i := 1) (c := .slice q1 X.es.length d1) (B' := w.heap.size + 1 + 1 + 1) (blk_oth (i := 0) (c := .slice p1 X.vs.length m1) (B' := w.heap.size + 1 + 1 + 1) (blk_on hb1 E2.out) (by omega)) (by omega)) (by omega)
  have F4 := blk_oth (i := 2) (c := .int .i64 X.last) (B' := w.heap.size + 1 + 1 + 1) (blk_oth (i := 1) (c := .slice q1 X.es.length d1) (B' := w.heap.size + 1 + 1 + 1) (blk_oth (i := 0) (c := .slice p1 X.vs.length m1) (B' := w.heap.size + 1 + 1 + 1) (blk_on hb1 E4.out) (by omega)) (by omega)) (by omega)
  have F3 := blk_put3 (a' := .slice p1 X.vs.length m1) (b' := .slice q1 X.es.length d1) (c' := .int .i64 X.last) (blk_on hb1 E3.out)
  obtain ⟨z0, z1, z2, fz⟩ := three_of (blk_on hb1 E3.out)
  have hz2 : w.heap.size + 1 + 1 + 1 + 1 < (((W1.setCell ⟨w.heap.size + 1 + 1 + 1, 0, none⟩ (.slice p1 X.vs.length m1)).setCell ⟨w.heap.size + 1 + 1 + 1, 1, none⟩ (.slice q1 X.es.length d1)).setCell ⟨w.heap.size + 1 + 1 + 1, 2, none⟩ (.int .i64 X.last)).heap.size := by simp only [World.setCell, Array.size_modify]; have := hz.out; omega
  clear hin1 hb1 E0 E1 E2 E3 E4 hz1
  replace F0 := Lib.hid F0
  replace F1 := Lib.hid F1
  replace F2 := Lib.hid F2
  replace F3 := Lib.hid F3
  replace F4 := Lib.hid F4
  replace hin2 := Lib.hid hin2
  obtain ⟨x0, x1, x2, fx⟩ := three_of F0.out
  obtain ⟨⟨o0, o1, o2, o3⟩, ⟨o4, o5, o6, o7⟩, o8, o9, oa, ob⟩ := twelve_of F1.out
  go_wp2_with (fail)
  clear z0 z1 z2 fz x0 x1 x2 fx o0 o1 o2 o3 o4 o5 o6 o7 o8 o9 oa ob
  generalize (((W1.setCell ⟨w.heap.size + 1 + 1 + 1, 0, none⟩ (.slice p1 X.vs.length m1)).setCell ⟨w.heap.size + 1 + 1 + 1, 1, none⟩ (.slice q1 X.es.length d1)).setCell ⟨w.heap.size + 1 + 1 + 1, 2, none⟩ (.int .i64 X.last)) = W2 at *
  have c2 := rdrop28 g _ _ xk xn xs r m d W2 (HG.out.on BW2) hm
  unfold RD2 Gg.agg at c2
  try unfold V.agg at c2
  refine c2.mono ?_
  rintro e W3 ⟨Y, t1, t2, m2, rfl, hin3, hb3⟩
  obtain ⟨p4, c4, rfl⟩ := hin3.2.1.header
  obtain ⟨q4, d4, rfl⟩ := hin3.2.2.header
  have hz3 := hb3.size
  have kY : KeepB (w.heap.size + 1 + 1 + 1 + 1 + 1) W3 (((W3.setCell ⟨w.heap.size + 1 + 1 + 1 + 1, 0, none⟩ (.slice p4 Y.vs.length c4)).setCell ⟨w.heap.size + 1 + 1 + 1 + 1, 1, none⟩ (.slice q4 Y.es.length d4)).setCell ⟨w.heap.size + 1 + 1 + 1 + 1, 2, none⟩ (.int .i64 Y.last)) := ((keepB_set (Nat.lt_succ_self _)).trans (keepB_set (Nat.lt_succ_self _))).trans (keepB_set (Nat.lt_succ_self _))
  have HY4 := Lib.hid ((hin3.low (show w.heap.size + 1 + 1 + 1 + 1 + 1 ≤ W2.heap.size by omega)).keep kY.keep (Nat.zero_le _))
  have HX4 := Lib.hid ((hin2.out.on hb3).keep kY.keep (Nat.le_refl _))
  have B4 := Lib.hid (bel_s3 (bel_then BW2 hb3) (show w.heap.size ≤ w.heap.size + 1 + 1 + 1 + 1 by omega) (.slice p4 Y.vs.length c4) (.slice q4 Y.es.length d4) (.int .i64 Y.last))
  have G2 := Lib.hid (blk_oth (i := 2) (c := .int .i64 Y.last) (B' := w.heap.size + 1 + 1 + 1 + 1) (blk_oth (i := 1) (c := .slice q4 Y.es.length d4) (B' := w.heap.size + 1 + 1 + 1 + 1) (blk_oth (i := 0) (c := .slice p4 Y.vs.length c4) (B' := w.heap.size + 1 + 1 + 1 + 1) (blk_on hb3 F2.out) (by omega)) (by omega)) (by omega))
  have G3 := Lib.hid (blk_oth (i := 2) (c := .int .i64 Y.last) (B' := w.heap.size + 1 + 1 + 1 + 1) (blk_oth (i := 1) (c := .slice q4 Y.es.length d4) (B' := w.heap.size + 1 + 1 + 1 + 1) (blk_oth (i := 0) (c := .slice p4 Y.vs.length c4) (B' := w.heap.size + 1 + 1 + 1 + 1) (blk_on hb3 F3.out) (by omega)) (by omega)) (by omega))
  have G4 := Lib.hid (blk_put3 (a' := .slice p4 Y.vs.length c4) (b' := .slice q4 Y.es.length d4) (c' := .int .i64 Y.last) (blk_on hb3 F4.out))
  obtain ⟨z0, z1, z2, fz⟩ := three_of (blk_on hb3 F4.out)
  clear hin3 hb3 F0 F1 F2 F3 F4 hin2 kY hz3 hz2 BW2 BW hz HG HX HV
  go_wp2_with (fail)
  clear z0 z1 z2 fz
  generalize (((W3.setCell ⟨w.heap.size + 1 + 1 + 1 + 1, 0, none⟩ (.slice p4 Y.vs.length c4)).setCell ⟨w.heap.size + 1 + 1 + 1 + 1, 1, none⟩ (.slice q4 Y.es.length d4)).setCell ⟨w.heap.size + 1 + 1 + 1 + 1, 2, none⟩ (.int .i64 Y.last)) = W4 at *
  obtain ⟨TB, hTB⟩ : ∃ t, gSame X Y = t := ⟨_, rfl⟩
  have c17 := same17 X Y _ _ _ _ W4.drew ((HX4.out.low (Nat.zero_le _)).on ((Below.refl _ W4).drew)) (HY4.out.on ((Below.refl _ W4).drew))
  rw [hTB] at c17
  clear hTB
  unfold Gg.agg at c17
  obtain ⟨x0, x1, x2, fx⟩ := three_of G3.out
  obtain ⟨z0, z1, z2, fz⟩ := three_of G4.out
  have S0 : (W4.drew.cell? ⟨w.heap.size + 1 + 1 + 1, 0, none⟩ = some (.slice p1 X.vs.length m1) ∧ W4.drew.cell? ⟨w.heap.size + 1 + 1 + 1, 1, none⟩ = some (.slice q1 X.es.length d1) ∧ W4.drew.cell? ⟨w.heap.size + 1 + 1 + 1, 2, none⟩ = some (.int .i64 X.last)) ∧ W4.drew.cell? ⟨w.heap.size + 1 + 1 + 1 + 1, 0, none⟩ = some (.slice p4 Y.vs.length c4) ∧ W4.drew.cell? ⟨w.heap.size + 1 + 1 + 1 + 1, 1, none⟩ = some (.slice q4 Y.es.length d4) ∧ W4.drew.cell? ⟨w.heap.size + 1 + 1 + 1 + 1, 2, none⟩ = some (.int .i64 Y.last) := ⟨⟨x0, x1, x2⟩, z0, z1, z2⟩
  clear x0 x1 x2 fx z0 z1 z2 fz
  cases TB with
  | false =>
    refine wp_region_held_drew (S := (fun u => (u.cell? ⟨w.heap.size + 1 + 1 + 1, 0, none⟩ = some (.slice p1 X.vs.length m1) ∧ u.cell? ⟨w.heap.size + 1 + 1 + 1, 1, none⟩ = some (.slice q1 X.es.length d1) ∧ u.cell? ⟨w.heap.size + 1 + 1 + 1, 2, none⟩ = some (.int .i64 X.last)) ∧ u.cell? ⟨w.heap.size + 1 + 1 + 1 + 1, 0, none⟩ = some (.slice p4 Y.vs.length c4) ∧ u.cell? ⟨w.heap.size + 1 + 1 + 1 + 1, 1, none⟩ = some (.slice q4 Y.es.length d4) ∧ u.cell? ⟨w.heap.size + 1 + 1 + 1 + 1, 2, none⟩ = some (.int .i64 Y.last))) (by kernel_rfl) S0 (fun hHeld => ?_)
    refine take_at (i := 0) (v := .agg #[.slice p1 X.vs.length m1, .slice q1 X.es.length d1, .int .i64 X.last]) 120 rfl rfl (by kernel_rfl) (by kernel_rfl) (by kernel_rfl) (fun _ _ _ h => h) (Or.inl ⟨by kernel_rfl, by intro w hSw; (try dsimp only at hSw); go_simp⟩) (by assumption) ?_
    try simp only [Act.put, List.setIfInBounds_toArray, List.set_cons_zero, List.set_cons_succ]
    refine take_at (i := 1) (v := .agg #[.slice p1 X.vs.length m1, .slice q1 X.es.length d1, .int .i64 X.last]) 121 rfl rfl (by kernel_rfl) (by kernel_rfl) (by kernel_rfl) (fun _ _ _ h => h) (Or.inl ⟨by kernel_rfl, by intro w hSw; (try dsimp only at hSw); go_simp⟩) (by assumption) ?_
    try simp only [Act.put, List.setIfInBounds_toArray, List.set_cons_zero, List.set_cons_succ]
    refine take_at (i := 2) (v := .agg #[.slice p4 Y.vs.length c4, .slice q4 Y.es.length d4, .int .i64 Y.last]) 122 rfl rfl (by kernel_rfl) (by kernel_rfl) (by kernel_rfl) (fun _ _ _ h => h) (Or.inl ⟨by kernel_rfl, by intro w hSw; (try dsimp only at hSw); go_simp⟩) (by assumption) ?_
    try simp only [Act.put, List.setIfInBounds_toArray, List.set_cons_zero, List.set_cons_succ]
    refine wpAnyH_ready (rs := [3]) (by kernel_rfl) (by simp) ?_
    refine AllReadyH.cons (o := { dst := some 123, op := Op.call { callee := Callee.value (Operand.func 17), args := #[Operand.tmp 121, Operand.tmp 122], argTypes := #[27, 27] }, type := 4, pos := "law.go:91", after := #[{ on := 1, ground := Ground.data }, { on := 2, ground := Ground.data }], guard := none }) rfl (fun K hK => ?_) AllReadyH.nil
    go_simp
    go_at_call 17
    refine c17.mono ?_
    rintro e W5 ⟨rfl, hb5⟩
    have S1 := six_onD hb5 S0
    have B5 := Lib.hid (bel_then ((Below.refl _ W4).drew) hb5)
    clear hb5
    refine hK.out _ _ S1 (fun hHeld => ?_)
    clear hK K
    try simp only [Act.put, List.setIfInBounds_toArray, List.set_cons_zero, List.set_cons_succ]
    refine take_at (i := 4) (v := .bool false) 124 rfl rfl (by kernel_rfl) (by kernel_rfl) (by kernel_rfl) (fun _ _ _ h => h) (Or.inl ⟨by kernel_rfl, by intro w hSw; (try dsimp only at hSw); go_simp⟩) (by assumption) ?_
    try simp only [Act.put, List.setIfInBounds_toArray, List.set_cons_zero, List.set_cons_succ]
    refine take_at (i := 5) (v := undef) 125 rfl rfl (by kernel_rfl) (by kernel_rfl) (by kernel_rfl) (fun _ _ _ h => h) (Or.inr ⟨by kernel_rfl, rfl⟩) (by assumption) ?_
    try simp only [Act.put, List.setIfInBounds_toArray, List.set_cons_zero, List.set_cons_succ]
    refine take_at (i := 6) (v := undef) 126 rfl rfl (by kernel_rfl) (by kernel_rfl) (by kernel_rfl) (fun _ _ _ h => h) (Or.inr ⟨by kernel_rfl, rfl⟩) (by assumption) ?_
    try simp only [Act.put, List.setIfInBounds_toArray, List.set_cons_zero, List.set_cons_succ]
    refine take_at (i := 7) (v := undef) 127 rfl rfl (by kernel_rfl) (by kernel_rfl) (by kernel_rfl) (fun _ _ _ h => h) (Or.inr ⟨by kernel_rfl, rfl⟩) (by assumption) ?_
    try simp only [Act.put, List.setIfInBounds_toArray, List.set_cons_zero, List.set_cons_succ]
    refine take_at (i := 8) (v := .bool false) 128 rfl rfl (by kernel_rfl) (by kernel_rfl) (by kernel_rfl) (fun _ _ _ h => h) (Or.inl ⟨by kernel_rfl, by intro w hSw; (try dsimp only at hSw); go_simp⟩) (by assumption) ?_
    try simp only [Act.put, List.setIfInBounds_toArray, List.set_cons_zero, List.set_cons_succ]
    refine take_at (i := 9) (v := .bool false) 129 rfl rfl (by kernel_rfl) (by kernel_rfl) (by kernel_rfl) (fun _ _ _ h => h) (Or.inl ⟨by kernel_rfl, by intro w hSw; (try dsimp only at hSw); go_simp⟩) (by assumption) ?_
    try simp only [Act.put, List.setIfInBounds_toArray, List.set_cons_zero, List.set_cons_succ]
    refine take_at (i := 10) (v := undef) 130 rfl rfl (by kernel_rfl) (by kernel_rfl) (by kernel_rfl) (fun _ _ _ h => h) (Or.inr ⟨by kernel_rfl, rfl⟩) (by assumption) ?_
    try simp only [Act.put, List.setIfInBounds_toArray, List.set_cons_zero, List.set_cons_succ]
    refine take_at (i := 11) (v := undef) 131 rfl rfl (by kernel_rfl) (by kernel_rfl) (by kernel_rfl) (fun _ _ _ h => h) (Or.inr ⟨by kernel_rfl, rfl⟩) (by assumption) ?_
    try simp only [Act.put, List.setIfInBounds_toArray, List.set_cons_zero, List.set_cons_succ]
    refine take_at (i := 12) (v := undef) 132 rfl rfl (by kernel_rfl) (by kernel_rfl) (by kernel_rfl) (fun _ _ _ h => h) (Or.inr ⟨by kernel_rfl, rfl⟩) (by assumption) ?_
    try simp only [Act.put, List.setIfInBounds_toArray, List.set_cons_zero, List.set_cons_succ]
    refine take_at (i := 13) (v := .bool false) 133 rfl rfl (by kernel_rfl) (by kernel_rfl) (by kernel_rfl) (fun _ _ _ h => h) (Or.inl ⟨by kernel_rfl, by intro w hSw; (try dsimp only at hSw); go_simp⟩) (by assumption) ?_
    try simp only [Act.put, List.setIfInBounds_toArray, List.set_cons_zero, List.set_cons_succ]
    refine take_at (i := 14) (v := .bool false) 134 rfl rfl (by kernel_rfl) (by kernel_rfl) (by kernel_rfl) (fun _ _ _ h => h) (Or.inl ⟨by kernel_rfl, by intro w hSw; (try dsimp only at hSw); go_simp⟩) (by assumption) ?_
    try simp only [Act.put, List.setIfInBounds_toArray, List.set_cons_zero, List.set_cons_succ]
    refine take_at (i := 15) (v := undef) 135 rfl rfl (by kernel_rfl) (by kernel_rfl) (by kernel_rfl) (fun _ _ _ h => h) (Or.inr ⟨by kernel_rfl, rfl⟩) (by assumption) ?_
    try simp only [Act.put, List.setIfInBounds_toArray, List.set_cons_zero, List.set_cons_succ]
    refine take_at (i := 16) (v := undef) 136 rfl rfl (by kernel_rfl) (by kernel_rfl) (by kernel_rfl) (fun _ _ _ h => h) (Or.inr ⟨by kernel_rfl, rfl⟩) (by assumption) ?_
    try simp only [Act.put, List.setIfInBounds_toArray, List.set_cons_zero, List.set_cons_succ]
    refine take_at (i := 17) (v := undef) 137 rfl rfl (by kernel_rfl) (by kernel_rfl) (by kernel_rfl) (fun _ _ _ h => h) (Or.inr ⟨by kernel_rfl, rfl⟩) (by assumption) ?_
    try simp only [Act.put, List.setIfInBounds_toArray, List.set_cons_zero, List.set_cons_succ]
    refine take_at (i := 18) (v := .bool false) 138 rfl rfl (by kernel_rfl) (by kernel_rfl) (by kernel_rfl) (fun _ _ _ h => h) (Or.inl ⟨by kernel_rfl, by intro w hSw; (try dsimp only at hSw); go_simp⟩) (by assumption) ?_
    try simp only [Act.put, List.setIfInBounds_toArray, List.set_cons_zero, List.set_cons_succ]
    have S2 := six_putD (B := w.heap.size + 1 + 1) (p := .slice p1 X.vs.length m1) (q := .slice q1 X.es.length d1) (l := .int .i64 X.last) S1 (by omega) (by omega)
    obtain ⟨y0, y1, y2, fy⟩ := three_of (blk_on B5.out G2.out)
    refine wpAnyH_one (i := 19) (o := { dst := none, op := Op.store 27 (Operand.tmp 4) (Operand.tmp 120), type := 0, pos := "law.go:91", after := #[{ on := 0, ground := Ground.data }, { on := 14, ground := Ground.chain }, { on := 0, ground := Ground.phase }, { on := 1, ground := Ground.textOnly Departure.lateStores }, { on := 2, ground := Ground.textOnly Departure.lateStores }, { on := 3, ground := Ground.textOnly Departure.lateStoresUnsure }, { on := 4, ground := Ground.textOnly Departure.lateStores }, { on := 5, ground := Ground.textOnly Departure.lateStores }, { on := 6, ground := Ground.textOnly Departure.lateStores }, { on := 7, ground := Ground.textOnly Departure.lateStores }, { on := 8, ground := Ground.textOnly Departure.lateStores }, { on := 9, ground := Ground.textOnly Departure.lateStores }, { on := 10, ground := Ground.textOnly Departure.lateStores }, { on := 11, ground := Ground.textOnly Departure.lateStores }, { on := 12, ground := Ground.textOnly Departure.lateStores }, { on := 13, ground := Ground.textOnly Departure.lateStores }, { on := 14, ground := Ground.textOnly Departure.lateStores }, { on := 15, ground := Ground.textOnly Departure.lateStores }, { on := 16, ground := Ground.textOnly Departure.lateStores }, { on := 17, ground := Ground.textOnly Departure.lateStores }, { on := 18, ground := Ground.textOnly Departure.lateStores }], guard := none }) (((W5.setCell ⟨w.heap.size + 1 + 1, 0, none⟩ (.slice p1 X.vs.length m1)).setCell ⟨w.heap.size + 1 + 1, 1, none⟩ (.slice q1 X.es.length d1)).setCell ⟨w.heap.size + 1 + 1, 2, none⟩ (.int .i64 X.last)) (by kernel_rfl) (by kernel_rfl) (by kernel_rfl) ?hop S2 ?_
    case hop =>
      intro K hK
      go_simp
      exact hK
    refine take_at (i := 20) (v := .bool false) 5 rfl rfl (by kernel_rfl) (by kernel_rfl) (by kernel_rfl) (fun _ _ _ h => h) (Or.inl ⟨by kernel_rfl, by intro w hSw; (try dsimp only at hSw); go_simp⟩) (by assumption) ?_
    try simp only [Act.put, List.setIfInBounds_toArray, List.set_cons_zero, List.set_cons_succ]
    refine wpAnyH_done (by kernel_rfl) ?_ _
    go_wp2
    simp [bodyPost, results, Try.results7, go_sem, y0, y1, y2]
    refine ⟨X, _, _, _, rfl, ?_, ?_, hst.out⟩
    · exact (HX4.out.on B5.out).keep (((keepB_set (show w.heap.size + 1 + 1 < w.heap.size + 1 + 1 + 1 + 1 + 1 by omega)).trans (keepB_set (show w.heap.size + 1 + 1 < w.heap.size + 1 + 1 + 1 + 1 + 1 by omega))).trans (keepB_set (show w.heap.size + 1 + 1 < w.heap.size + 1 + 1 + 1 + 1 + 1 by omega))).keep (by omega)
    · exact bel_s3 (bel_then B4.out B5.out) (by omega) _ _ _
  | true =>
    obtain ⟨t0, e0⟩ : ∃ t, (er == m2) = t := ⟨_, rfl⟩
    cases t0 with
    | false =>
      refine wp_region_held_drew (S := (fun u => (u.cell? ⟨w.heap.size + 1 + 1 + 1, 0, none⟩ = some (.slice p1 X.vs.length m1) ∧ u.cell? ⟨w.heap.size + 1 + 1 + 1, 1, none⟩ = some (.slice q1 X.es.length d1) ∧ u.cell? ⟨w.heap.size + 1 + 1 + 1, 2, none⟩ = some (.int .i64 X.last)) ∧ u.cell? ⟨w.heap.size + 1 + 1 + 1 + 1, 0, none⟩ = some (.slice p4 Y.vs.length c4) ∧ u.cell? ⟨w.heap.size + 1 + 1 + 1 + 1, 1, none⟩ = some (.slice q4 Y.es.length d4) ∧ u.cell? ⟨w.heap.size + 1 + 1 + 1 + 1, 2, none⟩ = some (.int .i64 Y.last))) (by kernel_rfl) S0 (fun hHeld => ?_)
      refine take_at (i := 0) (v := .agg #[.slice p1 X.vs.length m1, .slice q1 X.es.length d1, .int .i64 X.last]) 120 rfl rfl (by kernel_rfl) (by kernel_rfl) (by kernel_rfl) (fun _ _ _ h => h) (Or.inl ⟨by kernel_rfl, by intro w hSw; (try dsimp only at hSw); go_simp⟩) (by assumption) ?_
      try simp only [Act.put, List.setIfInBounds_toArray, List.set_cons_zero, List.set_cons_succ]
      refine take_at (i := 1) (v := .agg #[.slice p1 X.vs.length m1, .slice q1 X.es.length d1, .int .i64 X.last]) 121 rfl rfl (by kernel_rfl) (by kernel_rfl) (by kernel_rfl) (fun _ _ _ h => h) (Or.inl ⟨by kernel_rfl, by intro w hSw; (try dsimp only at hSw); go_simp⟩) (by assumption) ?_
      try simp only [Act.put, List.setIfInBounds_toArray, List.set_cons_zero, List.set_cons_succ]
      refine take_at (i := 2) (v := .agg #[.slice p4 Y.vs.length c4, .slice q4 Y.es.length d4, .int .i64 Y.last]) 122 rfl rfl (by kernel_rfl) (by kernel_rfl) (by kernel_rfl) (fun _ _ _ h => h) (Or.inl ⟨by kernel_rfl, by intro w hSw; (try dsimp only at hSw); go_simp⟩) (by assumption) ?_
      try simp only [Act.put, List.setIfInBounds_toArray, List.set_cons_zero, List.set_cons_succ]
      refine wpAnyH_ready (rs := [3]) (by kernel_rfl) (by simp) ?_
      refine AllReadyH.cons (o := { dst := some 123, op := Op.call { callee := Callee.value (Operand.func 17), args := #[Operand.tmp 121, Operand.tmp 122], argTypes := #[27, 27] }, type := 4, pos := "law.go:91", after := #[{ on := 1, ground := Ground.data }, { on := 2, ground := Ground.data }], guard := none }) rfl (fun K hK => ?_) AllReadyH.nil
      go_simp
      go_at_call 17
      refine c17.mono ?_
      rintro e W5 ⟨rfl, hb5⟩
      have S1 := six_onD hb5 S0
      have B5 := Lib.hid (bel_then ((Below.refl _ W4).drew) hb5)
      clear hb5
      refine hK.out _ _ S1 (fun hHeld => ?_)
      clear hK K
      try simp only [Act.put, List.setIfInBounds_toArray, List.set_cons_zero, List.set_cons_succ]
      refine take_at (i := 4) (v := .bool true) 124 rfl rfl (by kernel_rfl) (by kernel_rfl) (by kernel_rfl) (fun _ _ _ h => h) (Or.inl ⟨by kernel_rfl, by intro w hSw; (try dsimp only at hSw); go_simp⟩) (by assumption) ?_
      try simp only [Act.put, List.setIfInBounds_toArray, List.set_cons_zero, List.set_cons_succ]
      refine take_at (i := 5) (v := .int .i64 er) 125 rfl rfl (by kernel_rfl) (by kernel_rfl) (by kernel_rfl) (fun _ _ _ h => h) (Or.inl ⟨by kernel_rfl, by intro w hSw; (try dsimp only at hSw); go_simp⟩) (by assumption) ?_
      try simp only [Act.put, List.setIfInBounds_toArray, List.set_cons_zero, List.set_cons_succ]
      refine take_at (i := 6) (v := .int .i64 m2) 126 rfl rfl (by kernel_rfl) (by kernel_rfl) (by kernel_rfl) (fun _ _ _ h => h) (Or.inl ⟨by kernel_rfl, by intro w hSw; (try dsimp only at hSw); go_simp⟩) (by assumption) ?_
      try simp only [Act.put, List.setIfInBounds_toArray, List.set_cons_zero, List.set_cons_succ]
      refine take_at (i := 7) (v := .bool false) 127 rfl rfl (by kernel_rfl) (by kernel_rfl) (by kernel_rfl) (fun _ _ _ h => h) (Or.inl ⟨by kernel_rfl, by intro w hSw; (try dsimp only at hSw); go_simp⟩) (by assumption) ?_
      try simp only [Act.put, List.setIfInBounds_toArray, List.set_cons_zero, List.set_cons_succ]
      refine take_at (i := 8) (v := .bool false) 128 rfl rfl (by kernel_rfl) (by kernel_rfl) (by kernel_rfl) (fun _ _ _ h => h) (Or.inl ⟨by kernel_rfl, by intro w hSw; (try dsimp only at hSw); go_simp⟩) (by assumption) ?_
      try simp only [Act.put, List.setIfInBounds_toArray, List.set_cons_zero, List.set_cons_succ]
      refine take_at (i := 9) (v := .bool false) 129 rfl rfl (by kernel_rfl) (by kernel_rfl) (by kernel_rfl) (fun _ _ _ h => h) (Or.inl ⟨by kernel_rfl, by intro w hSw; (try dsimp only at hSw); go_simp⟩) (by assumption) ?_
      try simp only [Act.put, List.setIfInBounds_toArray, List.set_cons_zero, List.set_cons_succ]
      refine take_at (i := 10) (v := undef) 130 rfl rfl (by kernel_rfl) (by kernel_rfl) (by kernel_rfl) (fun _ _ _ h => h) (Or.inr ⟨by kernel_rfl, rfl⟩) (by assumption) ?_
      try simp only [Act.put, List.setIfInBounds_toArray, List.set_cons_zero, List.set_cons_succ]
      refine take_at (i := 11) (v := undef) 131 rfl rfl (by kernel_rfl) (by kernel_rfl) (by kernel_rfl) (fun _ _ _ h => h) (Or.inr ⟨by kernel_rfl, rfl⟩) (by assumption) ?_
      try simp only [Act.put, List.setIfInBounds_toArray, List.set_cons_zero, List.set_cons_succ]
      refine take_at (i := 12) (v := undef) 132 rfl rfl (by kernel_rfl) (by kernel_rfl) (by kernel_rfl) (fun _ _ _ h => h) (Or.inr ⟨by kernel_rfl, rfl⟩) (by assumption) ?_
      try simp only [Act.put, List.setIfInBounds_toArray, List.set_cons_zero, List.set_cons_succ]
      refine take_at (i := 13) (v := .bool false) 133 rfl rfl (by kernel_rfl) (by kernel_rfl) (by kernel_rfl) (fun _ _ _ h => h) (Or.inl ⟨by kernel_rfl, by intro w hSw; (try dsimp only at hSw); go_simp⟩) (by assumption) ?_
      try simp only [Act.put, List.setIfInBounds_toArray, List.set_cons_zero, List.set_cons_succ]
      refine take_at (i := 14) (v := .bool false) 134 rfl rfl (by kernel_rfl) (by kernel_rfl) (by kernel_rfl) (fun _ _ _ h => h) (Or.inl ⟨by kernel_rfl, by intro w hSw; (try dsimp only at hSw); go_simp⟩) (by assumption) ?_
      try simp only [Act.put, List.setIfInBounds_toArray, List.set_cons_zero, List.set_cons_succ]
      refine take_at (i := 15) (v := undef) 135 rfl rfl (by kernel_rfl) (by kernel_rfl) (by kernel_rfl) (fun _ _ _ h => h) (Or.inr ⟨by kernel_rfl, rfl⟩) (by assumption) ?_
      try simp only [Act.put, List.setIfInBounds_toArray, List.set_cons_zero, List.set_cons_succ]
      refine take_at (i := 16) (v := undef) 136 rfl rfl (by kernel_rfl) (by kernel_rfl) (by kernel_rfl) (fun _ _ _ h => h) (Or.inr ⟨by kernel_rfl, rfl⟩) (by assumption) ?_
      try simp only [Act.put, List.setIfInBounds_toArray, List.set_cons_zero, List.set_cons_succ]
      refine take_at (i := 17) (v := undef) 137 rfl rfl (by kernel_rfl) (by kernel_rfl) (by kernel_rfl) (fun _ _ _ h => h) (Or.inr ⟨by kernel_rfl, rfl⟩) (by assumption) ?_
      try simp only [Act.put, List.setIfInBounds_toArray, List.set_cons_zero, List.set_cons_succ]
      refine take_at (i := 18) (v := .bool false) 138 rfl rfl (by kernel_rfl) (by kernel_rfl) (by kernel_rfl) (fun _ _ _ h => h) (Or.inl ⟨by kernel_rfl, by intro w hSw; (try dsimp only at hSw); go_simp⟩) (by assumption) ?_
      try simp only [Act.put, List.setIfInBounds_toArray, List.set_cons_zero, List.set_cons_succ]
      have S2 := six_putD (B := w.heap.size + 1 + 1) (p := .slice p1 X.vs.length m1) (q := .slice q1 X.es.length d1) (l := .int .i64 X.last) S1 (by omega) (by omega)
      obtain ⟨y0, y1, y2, fy⟩ := three_of (blk_on B5.out G2.out)
      refine wpAnyH_one (i := 19) (o := { dst := none, op := Op.store 27 (Operand.tmp 4) (Operand.tmp 120), type := 0, pos := "law.go:91", after := #[{ on := 0, ground := Ground.data }, { on := 14, ground := Ground.chain }, { on := 0, ground := Ground.phase }, { on := 1, ground := Ground.textOnly Departure.lateStores }, { on := 2, ground := Ground.textOnly Departure.lateStores }, { on := 3, ground := Ground.textOnly Departure.lateStoresUnsure }, { on := 4, ground := Ground.textOnly Departure.lateStores }, { on := 5, ground := Ground.textOnly Departure.lateStores }, { on := 6, ground := Ground.textOnly Departure.lateStores }, { on := 7, ground := Ground.textOnly Departure.lateStores }, { on := 8, ground := Ground.textOnly Departure.lateStores }, { on := 9, ground := Ground.textOnly Departure.lateStores }, { on := 10, ground := Ground.textOnly Departure.lateStores }, { on := 11, ground := Ground.textOnly Departure.lateStores }, { on := 12, ground := Ground.textOnly Departure.lateStores }, { on := 13, ground := Ground.textOnly Departure.lateStores }, { on := 14, ground := Ground.textOnly Departure.lateStores }, { on := 15, ground := Ground.textOnly Departure.lateStores }, { on := 16, ground := Ground.textOnly Departure.lateStores }, { on := 17, ground := Ground.textOnly Departure.lateStores }, { on := 18, ground := Ground.textOnly Departure.lateStores }], guard := none }) (((W5.setCell ⟨w.heap.size + 1 + 1, 0, none⟩ (.slice p1 X.vs.length m1)).setCell ⟨w.heap.size + 1 + 1, 1, none⟩ (.slice q1 X.es.length d1)).setCell ⟨w.heap.size + 1 + 1, 2, none⟩ (.int .i64 X.last)) (by kernel_rfl) (by kernel_rfl) (by kernel_rfl) ?hop S2 ?_
      case hop =>
        intro K hK
        go_simp
        exact hK
      refine take_at (i := 20) (v := .bool false) 5 rfl rfl (by kernel_rfl) (by kernel_rfl) (by kernel_rfl) (fun _ _ _ h => h) (Or.inl ⟨by kernel_rfl, by intro w hSw; (try dsimp only at hSw); go_simp⟩) (by assumption) ?_
      try simp only [Act.put, List.setIfInBounds_toArray, List.set_cons_zero, List.set_cons_succ]
      refine wpAnyH_done (by kernel_rfl) ?_ _
      go_wp2
      simp [bodyPost, results, Try.results7, go_sem, y0, y1, y2]
      refine ⟨X, _, _, _, rfl, ?_, ?_, hst.out⟩
      · exact (HX4.out.on B5.out).keep (((keepB_set (show w.heap.size + 1 + 1 < w.heap.size + 1 + 1 + 1 + 1 + 1 by omega)).trans (keepB_set (show w.heap.size + 1 + 1 < w.heap.size + 1 + 1 + 1 + 1 + 1 by omega))).trans (keepB_set (show w.heap.size + 1 + 1 < w.heap.size + 1 + 1 + 1 + 1 + 1 by omega))).keep (by omega)
      · exact bel_s3 (bel_then B4.out B5.out) (by omega) _ _ _
    | true =>
      refine wp_region_held_drew (S := (fun u => (u.cell? ⟨w.heap.size + 1 + 1 + 1, 0, none⟩ = some (.slice p1 X.vs.length m1) ∧ u.cell? ⟨w.heap.size + 1 + 1 + 1, 1, none⟩ = some (.slice q1 X.es.length d1) ∧ u.cell? ⟨w.heap.size + 1 + 1 + 1, 2, none⟩ = some (.int .i64 X.last)) ∧ u.cell? ⟨w.heap.size + 1 + 1 + 1 + 1, 0, none⟩ = some (.slice p4 Y.vs.length c4) ∧ u.cell? ⟨w.heap.size + 1 + 1 + 1 + 1, 1, none⟩ = some (.slice q4 Y.es.length d4) ∧ u.cell? ⟨w.heap.size + 1 + 1 + 1 + 1, 2, none⟩ = some (.int .i64 Y.last))) (by kernel_rfl) S0 (fun hHeld => ?_)
      refine take_at (i := 0) (v := .agg #[.slice p1 X.vs.length m1, .slice q1 X.es.length d1, .int .i64 X.last]) 120 rfl rfl (by kernel_rfl) (by kernel_rfl) (by kernel_rfl) (fun _ _ _ h => h) (Or.inl ⟨by kernel_rfl, by intro w hSw; (try dsimp only at hSw); go_simp⟩) (by assumption) ?_
      try simp only [Act.put, List.setIfInBounds_toArray, List.set_cons_zero, List.set_cons_succ]
      refine take_at (i := 1) (v := .agg #[.slice p1 X.vs.length m1, .slice q1 X.es.length d1, .int .i64 X.last]) 121 rfl rfl (by kernel_rfl) (by kernel_rfl) (by kernel_rfl) (fun _ _ _ h => h) (Or.inl ⟨by kernel_rfl, by intro w hSw; (try dsimp only at hSw); go_simp⟩) (by assumption) ?_
      try simp only [Act.put, List.setIfInBounds_toArray, List.set_cons_zero, List.set_cons_succ]
      refine take_at (i := 2) (v := .agg #[.slice p4 Y.vs.length c4, .slice q4 Y.es.length d4, .int .i64 Y.last]) 122 rfl rfl (by kernel_rfl) (by kernel_rfl) (by kernel_rfl) (fun _ _ _ h => h) (Or.inl ⟨by kernel_rfl, by intro w hSw; (try dsimp only at hSw); go_simp⟩) (by assumption) ?_
      try simp only [Act.put, List.setIfInBounds_toArray, List.set_cons_zero, List.set_cons_succ]
      refine wpAnyH_ready (rs := [3]) (by kernel_rfl) (by simp) ?_
      refine AllReadyH.cons (o := { dst := some 123, op := Op.call { callee := Callee.value (Operand.func 17), args := #[Operand.tmp 121, Operand.tmp 122], argTypes := #[27, 27] }, type := 4, pos := "law.go:91", after := #[{ on := 1, ground := Ground.data }, { on := 2, ground := Ground.data }], guard := none }) rfl (fun K hK => ?_) AllReadyH.nil
      go_simp
      go_at_call 17
      refine c17.mono ?_
      rintro e W5 ⟨rfl, hb5⟩
      have S1 := six_onD hb5 S0
      have B5 := Lib.hid (bel_then ((Below.refl _ W4).drew) hb5)
      clear hb5
      refine hK.out _ _ S1 (fun hHeld => ?_)
      clear hK K
      try simp only [Act.put, List.setIfInBounds_toArray, List.set_cons_zero, List.set_cons_succ]
      refine take_at (i := 4) (v := .bool true) 124 rfl rfl (by kernel_rfl) (by kernel_rfl) (by kernel_rfl) (fun _ _ _ h => h) (Or.inl ⟨by kernel_rfl, by intro w hSw; (try dsimp only at hSw); go_simp⟩) (by assumption) ?_
      try simp only [Act.put, List.setIfInBounds_toArray, List.set_cons_zero, List.set_cons_succ]
      refine take_at (i := 5) (v := .int .i64 er) 125 rfl rfl (by kernel_rfl) (by kernel_rfl) (by kernel_rfl) (fun _ _ _ h => h) (Or.inl ⟨by kernel_rfl, by intro w hSw; (try dsimp only at hSw); go_simp⟩) (by assumption) ?_
      try simp only [Act.put, List.setIfInBounds_toArray, List.set_cons_zero, List.set_cons_succ]
      refine take_at (i := 6) (v := .int .i64 m2) 126 rfl rfl (by kernel_rfl) (by kernel_rfl) (by kernel_rfl) (fun _ _ _ h => h) (Or.inl ⟨by kernel_rfl, by intro w hSw; (try dsimp only at hSw); go_simp⟩) (by assumption) ?_
      try simp only [Act.put, List.setIfInBounds_toArray, List.set_cons_zero, List.set_cons_succ]
      refine take_at (i := 7) (v := .bool true) 127 rfl rfl (by kernel_rfl) (by kernel_rfl) (by kernel_rfl) (fun _ _ _ h => h) (Or.inl ⟨by kernel_rfl, by intro w hSw; (try dsimp only at hSw); go_simp⟩) (by assumption) ?_
      try simp only [Act.put, List.setIfInBounds_toArray, List.set_cons_zero, List.set_cons_succ]
      refine take_at (i := 8) (v := .bool true) 128 rfl rfl (by kernel_rfl) (by kernel_rfl) (by kernel_rfl) (fun _ _ _ h => h) (Or.inl ⟨by kernel_rfl, by intro w hSw; (try dsimp only at hSw); go_simp⟩) (by assumption) ?_
      try simp only [Act.put, List.setIfInBounds_toArray, List.set_cons_zero, List.set_cons_succ]
      refine take_at (i := 9) (v := .bool true) 129 rfl rfl (by kernel_rfl) (by kernel_rfl) (by kernel_rfl) (fun _ _ _ h => h) (Or.inl ⟨by kernel_rfl, by intro w hSw; (try dsimp only at hSw); go_simp⟩) (by assumption) ?_
      try simp only [Act.put, List.setIfInBounds_toArray, List.set_cons_zero, List.set_cons_succ]
      refine take_at (i := 10) (v := .int .i64 0) 130 rfl rfl (by kernel_rfl) (by kernel_rfl) (by kernel_rfl) (fun _ _ _ h => h) (Or.inl ⟨by kernel_rfl, by intro w hSw; (try dsimp only at hSw); go_simp⟩) (by assumption) ?_
      try simp only [Act.put, List.setIfInBounds_toArray, List.set_cons_zero, List.set_cons_succ]
      refine take_at (i := 11) (v := .int .i64 0) 131 rfl rfl (by kernel_rfl) (by kernel_rfl) (by kernel_rfl) (fun _ _ _ h => h) (Or.inl ⟨by kernel_rfl, by intro w hSw; (try dsimp only at hSw); go_simp⟩) (by assumption) ?_
      try simp only [Act.put, List.setIfInBounds_toArray, List.set_cons_zero, List.set_cons_succ]
      refine take_at (i := 12) (v := .bool true) 132 rfl rfl (by kernel_rfl) (by kernel_rfl) (by kernel_rfl) (fun _ _ _ h => h) (Or.inl ⟨by kernel_rfl, by intro w hSw; (try dsimp only at hSw); go_simp⟩) (by assumption) ?_
      try simp only [Act.put, List.setIfInBounds_toArray, List.set_cons_zero, List.set_cons_succ]
      refine take_at (i := 13) (v := .bool true) 133 rfl rfl (by kernel_rfl) (by kernel_rfl) (by kernel_rfl) (fun _ _ _ h => h) (Or.inl ⟨by kernel_rfl, by intro w hSw; (try dsimp only at hSw); go_simp⟩) (by assumption) ?_
      try simp only [Act.put, List.setIfInBounds_toArray, List.set_cons_zero, List.set_cons_succ]
      refine take_at (i := 14) (v := .bool true) 134 rfl rfl (by kernel_rfl) (by kernel_rfl) (by kernel_rfl) (fun _ _ _ h => h) (Or.inl ⟨by kernel_rfl, by intro w hSw; (try dsimp only at hSw); go_simp⟩) (by assumption) ?_
      try simp only [Act.put, List.setIfInBounds_toArray, List.set_cons_zero, List.set_cons_succ]
      refine take_at (i := 15) (v := .bool false) 135 rfl rfl (by kernel_rfl) (by kernel_rfl) (by kernel_rfl) (fun _ _ _ h => h) (Or.inl ⟨by kernel_rfl, by intro w hSw; (try dsimp only at hSw); go_simp⟩) (by assumption) ?_
      try simp only [Act.put, List.setIfInBounds_toArray, List.set_cons_zero, List.set_cons_succ]
      refine take_at (i := 16) (v := .bool false) 136 rfl rfl (by kernel_rfl) (by kernel_rfl) (by kernel_rfl) (fun _ _ _ h => h) (Or.inl ⟨by kernel_rfl, by intro w hSw; (try dsimp only at hSw); go_simp⟩) (by assumption) ?_
      try simp only [Act.put, List.setIfInBounds_toArray, List.set_cons_zero, List.set_cons_succ]
      refine take_at (i := 17) (v := .bool true) 137 rfl rfl (by kernel_rfl) (by kernel_rfl) (by kernel_rfl) (fun _ _ _ h => h) (Or.inl ⟨by kernel_rfl, by intro w hSw; (try dsimp only at hSw); go_simp⟩) (by assumption) ?_
      try simp only [Act.put, List.setIfInBounds_toArray, List.set_cons_zero, List.set_cons_succ]
      refine take_at (i := 18) (v := .bool true) 138 rfl rfl (by kernel_rfl) (by kernel_rfl) (by kernel_rfl) (fun _ _ _ h => h) (Or.inl ⟨by kernel_rfl, by intro w hSw; (try dsimp only at hSw); go_simp⟩) (by assumption) ?_
      try simp only [Act.put, List.setIfInBounds_toArray, List.set_cons_zero, List.set_cons_succ]
      have S2 := six_putD (B := w.heap.size + 1 + 1) (p := .slice p1 X.vs.length m1) (q := .slice q1 X.es.length d1) (l := .int .i64 X.last) S1 (by omega) (by omega)
      obtain ⟨y0, y1, y2, fy⟩ := three_of (blk_on B5.out G2.out)
      refine wpAnyH_one (i := 19) (o := { dst := none, op := Op.store 27 (Operand.tmp 4) (Operand.tmp 120), type := 0, pos := "law.go:91", after := #[{ on := 0, ground := Ground.data }, { on := 14, ground := Ground.chain }, { on := 0, ground := Ground.phase }, { on := 1, ground := Ground.textOnly Departure.lateStores }, { on := 2, ground := Ground.textOnly Departure.lateStores }, { on := 3, ground := Ground.textOnly Departure.lateStoresUnsure }, { on := 4, ground := Ground.textOnly Departure.lateStores }, { on := 5, ground := Ground.textOnly Departure.lateStores }, { on := 6, ground := Ground.textOnly Departure.lateStores }, { on := 7, ground := Ground.textOnly Departure.lateStores }, { on := 8, ground := Ground.textOnly Departure.lateStores }, { on := 9, ground := Ground.textOnly Departure.lateStores }, { on := 10, ground := Ground.textOnly Departure.lateStores }, { on := 11, ground := Ground.textOnly Departure.lateStores }, { on := 12, ground := Ground.textOnly Departure.lateStores }, { on := 13, ground := Ground.textOnly Departure.lateStores }, { on := 14, ground := Ground.textOnly Departure.lateStores }, { on := 15, ground := Ground.textOnly Departure.lateStores }, { on := 16, ground := Ground.textOnly Departure.lateStores }, { on := 17, ground := Ground.textOnly Departure.lateStores }, { on := 18, ground := Ground.textOnly Departure.lateStores }], guard := none }) (((W5.setCell ⟨w.heap.size + 1 + 1, 0, none⟩ (.slice p1 X.vs.length m1)).setCell ⟨w.heap.size + 1 + 1, 1, none⟩ (.slice q1 X.es.length d1)).setCell ⟨w.heap.size + 1 + 1, 2, none⟩ (.int .i64 X.last)) (by kernel_rfl) (by kernel_rfl) (by kernel_rfl) ?hop S2 ?_
      case hop =>
        intro K hK
        go_simp
        exact hK
      refine take_at (i := 20) (v := .bool true) 5 rfl rfl (by kernel_rfl) (by kernel_rfl) (by kernel_rfl) (fun _ _ _ h => h) (Or.inl ⟨by kernel_rfl, by intro w hSw; (try dsimp only at hSw); go_simp⟩) (by assumption) ?_
      try simp only [Act.put, List.setIfInBounds_toArray, List.set_cons_zero, List.set_cons_succ]
      refine wpAnyH_done (by kernel_rfl) ?_ _
      go_wp2
      simp [bodyPost, results, Try.results7, go_sem, y0, y1, y2]
      refine ⟨X, _, _, _, rfl, ?_, ?_, hst.out⟩
      · exact (HX4.out.on B5.out).keep (((keepB_set (show w.heap.size + 1 + 1 < w.heap.size + 1 + 1 + 1 + 1 + 1 by omega)).trans (keepB_set (show w.heap.size + 1 + 1 < w.heap.size + 1 + 1 + 1 + 1 + 1 by omega))).trans (keepB_set (show w.heap.size + 1 + 1 < w.heap.size + 1 + 1 + 1 + 1 + 1 by omega))).keep (by omega)
      · exact bel_s3 (bel_then B4.out B5.out) (by omega) _ _ _
end Go.Proofs.Yteknbploiombiaa
