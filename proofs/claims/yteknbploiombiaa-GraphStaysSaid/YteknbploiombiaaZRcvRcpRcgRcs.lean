/-
  What the document's CloneValue of layer 10 does.
  What the document's CloneProps of layer 10 does.
  What the document's Clone of layer 10 does.
  The document's Clone of layer 10 again: what of the clone lies apart.
-/
import Derived.Test.YteknbploiombiaaZGroGrw
import Derived.Deep.RegionLaw
namespace Go.Proofs.Yteknbploiombiaa
open Go.RowKit
set_option linter.unusedVariables false      -- a walk need not use every condition

/-- Values as elements. -/
def RW : El V where
  n := 4
  bytes := 56
  cs v sl := [.int .i64 v.k, .int .i64 v.n, .string v.s, sl]
  In w lo v sl := v.In w lo sl
  keep hk hl x sl h := V.In.keep hk hl x sl h
theorem len_RW (x : V) (sl : Value) : (RW.cs x sl).length = RW.n := rfl
theorem ats4 {w : World} {b o : Nat} {x y z s : Value} (h : Ats w b o [x, y, z, s]) : w.cell? ⟨b, o, none⟩ = some x ∧ w.cell? ⟨b, o + 1, none⟩ = some y ∧ w.cell? ⟨b, o + 2, none⟩ = some z ∧ w.cell? ⟨b, o + 3, none⟩ = some s :=
  ⟨h 0 _ rfl, h 1 _ rfl, h 2 _ rfl, h 3 _ rfl⟩
theorem ls_lq {w : World} {lo b : Nat} : ∀ {l : List V} {o : Nat}, Lq RW w lo l b o → Ls w lo l b o
  | [], _, _ => by simp only [Ls]
  | v :: l, o, ⟨sl, ha, hv, hr⟩ => by
    obtain ⟨a0, a1, a2, a3⟩ := ats4 ha
    simp only [Ls]
    exact ⟨sl, a0, a1, a2, a3, hv, ls_lq hr⟩
theorem sl_sq {w : World} {lo : Nat} {l : List V} {sl : Value} (h : Sq RW w lo l sl) : Sl w lo l sl := by
  obtain ⟨p, cap, e, hc, hm, hb, hx⟩ := h
  exact ⟨p, cap, e, hc, hm, hb, hx.imp id fun ⟨b, o, h1, h2, h3⟩ => ⟨b, o, h1, h2, ls_lq h3⟩⟩
theorem four_S0 {w : World} {g : Nat} {a b c d : Value} {t : TypeId} (e : w.heap[g]? = some (.cells #[a, b, c, d] t)) :
    w.cell? ⟨g, 0, none⟩ = some a ∧ w.cell? ⟨g, 1, none⟩ = some b ∧ w.cell? ⟨g, 2, none⟩ = some c ∧ w.cell? ⟨g, 3, none⟩ = some d := by
  refine ⟨?_, ?_, ?_, ?_⟩ <;> simp [World.cell?, e]
theorem frz0 {w : World} {g : Nat} {cs : Array Value} {t : TypeId} (e : w.heap[g]? = some (.cells cs t)) (i : Nat) : w.frozen? ⟨g, i, none⟩ = false := by simp [World.frozen?, e]
theorem info32 : (Try.prog.info? 30).map (fun i => (i.zero, i.size, i.bytes)) = some (some zVal, 4, 56) := by kernel_rfl
/-- What the document's clone of a value hands back. -/
def Rc (v : V) (w : World) (e : Ending) (w' : World) : Prop := ∃ sl, e = .returned (v.agg sl) ∧ v.In w' w.heap.size sl ∧ Below w.heap.size w w'
set_option maxRecDepth 100000 in
set_option maxHeartbeats 4000000 in
theorem rcv_of (k n : Int) (s : ByteArray) (l : List V) (sl : Value) (w : World) (hin : (V.mk k n s l).In w 0 sl)
    (ih : ∀ x ∈ l, ∀ (sx : Value) (w' : World), x.In w' 0 sx → Calls Try.prog 100 #[x.agg sx] w' fun e w'' => Rc x w' e w'') :
    Calls Try.prog 100 #[.agg #[.int .i64 k, .int .i64 n, .string s, sl]] w fun e w' => Rc (V.mk k n s l) w e w' := by
  obtain ⟨b1, b2, b3, p, cap, rfl, hc, hcm, h56, hx⟩ := (V.in_iff _ _ _ _).1 hin
  simp only [V.l, V.k, V.n, V.s] at *
  unfold maxLen at hcm
  replace hx := Lib.hid hx
  clear hin
  obtain ⟨N, hN⟩ : ∃ n, l.length = n := ⟨_, rfl⟩
  rw [hN] at hc h56 ⊢
  have hlen := Lib.hid hN
  clear hN
  obtain ⟨i0, hi, hz0, hz1, hz2⟩ := info_parts info32
  have hb0 := Lib.hid (bel2 w (Obj.cells #[.int .i64 k, .int .i64 n, .string s, .slice p N cap] 30) (Obj.cells #[.int .i64 0, .int .i64 0, .string ⟨#[]⟩, .slice none 0 0] 30))
  have n0 := World.alloc_heap_new w (Obj.cells #[.int .i64 k, .int .i64 n, .string s, .slice p N cap] 30)
  have n1 := World.alloc_heap_new (w.alloc (Obj.cells #[.int .i64 k, .int .i64 n, .string s, .slice p N cap] 30)) (Obj.cells #[.int .i64 0, .int .i64 0, .string ⟨#[]⟩, .slice none 0 0] 30)
  replace n0 := blk_on (bel1 _ (Obj.cells #[.int .i64 0, .int .i64 0, .string ⟨#[]⟩, .slice none 0 0] 30)) n0
  rw [World.size_alloc] at n1
  replace n0 := Lib.hid n0
  replace n1 := Lib.hid n1
  have hsz : Hid (((w.alloc (Obj.cells #[.int .i64 k, .int .i64 n, .string s, .slice p N cap] 30)).alloc (Obj.cells #[.int .i64 0, .int .i64 0, .string ⟨#[]⟩, .slice none 0 0] 30)).heap.size = w.heap.size + 2) := by show _ = _; simp
  go_enter Try.func100, Try.ntmps100
  go_wp2
  generalize (w.alloc (Obj.cells #[.int .i64 k, .int .i64 n, .string s, .slice p N cap] 30)).alloc (Obj.cells #[.int .i64 0, .int .i64 0, .string ⟨#[]⟩, .slice none 0 0] 30) = W at *
  go_loopg [4, 3] N (fun c s4 s3 wr => ∃ (i : Nat) (q : Option Addr) (m d : Nat), i + c = N ∧ s4 = .int .i64 i ∧ s3 = .slice q m d ∧ Hid (Below W.heap.size W wr) ∧ Hid (GrR RW 30 wr W.heap.size W.heap.size (l.take i) (.slice q m d)))
  case atStart => exact ⟨0, none, 0, 0, by omega, rfl, rfl, Below.refl _ _, grR_nil _ _ _ _ _⟩
  case round =>
    obtain ⟨i, q, m, d, hig, rfl, rfl, hB, hgr⟩ := hrel
    have n0r := Lib.hid (blk_on hB.out n0.out)
    have n1r := Lib.hid (blk_on hB.out n1.out)
    obtain ⟨x0, x1, x2, x3⟩ := four_S0 n0r.out
    cases gk with
    | succ c =>
      have hil : i < l.length := by have := hlen.out; omega
      have hiz : (i : Int) < (N : Int) := by omega
      have hiz0 : (0 : Int) ≤ (i : Int) := by omega
      obtain ⟨b, o, rfl, -, hx1⟩ := hx.out.resolve_left (by rintro rfl; simp at hil)
      obtain ⟨s1, a0, a1, a2, a3, hv1⟩ := (hx1.on' (bel_then hb0.out hB.out)).at i hil
      have ih' := ih l[i] (List.getElem_mem hil) s1 wr hv1
      obtain ⟨p1, n1', c1, rfl⟩ := hv1.header
      have htk : Hid (l.take (i + 1) = l.take i ++ [l[i]]) := by show _ = _; rw [List.take_succ_eq_append_getElem hil]
      have hm : Hid (m = (l.take i).length) := by
        show _ = _
        obtain ⟨_, _, e, _⟩ := hgr.out.form
        injection e
      have hml : Hid ((l.take i).length = i) := by show _ = _; simp; omega
      unfold Rc V.agg at ih'
      clear hx hx1 ih hv1
      generalize l[i] = x at *
      generalize l.take i = L at *
      go_wp2_with (fail)
      refine ih'.mono ?_
      rintro e w2 ⟨sl2, rfl, hin2, hb2⟩
      obtain ⟨p2, n2, c2, rfl⟩ := hin2.header
      have HB2 := Lib.hid (hB.out.trans (hb2.mono hB.out.size))
      have hg2 := Lib.hid (hgr.out.on hb2)
      have hob := Lib.hid (fun (b : Nat) (e : (Value.slice q m d).ownBlock = some b) => (hgr.out.lt e).2)
      have hin2 := Lib.hid hin2
      have hwz := Lib.hid hb2.size
      clear ih' hb2 hgr
      go_wp2_with (at_builtin; refine wpList_gro len_RW (by decide) 28 30 i0 zVal Try.underlying28 hi hz0 hz1 hz2 rfl _ rfl _ _ rfl W.heap.size W.heap.size _ L _ x (.slice p2 n2 c2) (cutW w2 wr.heap.size) rfl (by exact hg2.out.alloc _) rfl (by exact V.In.keep (cutW_keep w2 wr.heap.size) (by have := hB.out.size; omega) _ _ hin2.out) (by exact fun a c' hc' => ⟨some_on (bel1 _ _) (cutW_cell hc').2, fun e => by have h1 := hob.out _ e.symm; have h2 := (cutW_cell hc').1; omega⟩) (by exact new_ats' _ (RW.cs x (.slice p2 n2 c2)) 30 (by simp)) (by intro c hc; simp only [RW, List.mem_cons, List.not_mem_nil, or_false] at hc; rcases hc with rfl | rfl | rfl | rfl <;> rfl) (by have := hml.out; unfold maxLen; omega) (by have := hml.out; show (L.length + 1) * 56 ≤ _; omega) (by have := HB2.out.size; simp; omega) ?_; intro g5 cap5 w5 hG5 hgr5 hg5; have HG := Lib.hid (And.intro hG5 (gro_below (hg2.out.alloc _) hgr5 (Nat.le_refl _) (by have := HB2.out.size; simp; omega))); clear hG5 hgr5 hg5)
      go_roundg c
      case measure => omega
      case rel => exact ⟨i + 1, _, _, _, by omega, by first | rfl | simp, rfl, (HB2.out.trans ((bel1 _ _).mono HB2.out.size)).trans HG.out.2, by show GrR _ _ _ _ _ _ _; rw [htk.out]; exact HG.out.1⟩
    | zero =>
      obtain rfl : i = N := by omega
      have hfin : Hid (GrR RW 30 wr W.heap.size W.heap.size l (.slice q m d)) := by
        have := hgr.out
        rwa [← hlen.out, List.take_length] at this
      have hmN : Hid (m = i) := by
        show _ = _
        obtain ⟨_, _, e, _⟩ := hfin.out.form
        injection e with _ e2
        rw [e2, hlen.out]
      obtain ⟨y0, y1, y2, y3⟩ := four_S0 n1r.out
      have f3 := frz0 n0r.out 3
      have g0 := frz0 n1r.out 0
      have g1 := frz0 n1r.out 1
      have g2 := frz0 n1r.out 2
      have g3 := frz0 n1r.out 3
      have hz := hsz.out
      have hbf : Below w.heap.size w (putL (putL wr w.heap.size 3 [.slice q m d]) (w.heap.size + 1) 0 [.int .i64 k, .int .i64 n, .string s, .slice q m d]) :=
        (bel_then hb0.out hB.out).trans ((putL_below (Nat.le_refl _)).trans (putL_below (by omega)))
      have hif : (V.mk k n s l).In (putL (putL wr w.heap.size 3 [.slice q m d]) (w.heap.size + 1) 0 [.int .i64 k, .int .i64 n, .string s, .slice q m d]) w.heap.size (.slice q m d) := by
        have h1 := sl_sq (hfin.out.sq (Nat.le_refl _) (by rw [hlen.out]; exact h56))
        have h2 := h1.keep (lo' := w.heap.size) (w' := putL (putL wr w.heap.size 3 [.slice q m d]) (w.heap.size + 1) 0 [.int .i64 k, .int .i64 n, .string s, .slice q m d]) (fun a v ha hc => putL_other (putL_other hc (.inl (by omega))) (.inl (by omega))) (by omega)
        exact (V.in_iff _ _ _ _).2 ⟨b1, b2, b3, h2⟩
      unfold putL putL putL putL putL putL putL at hbf hif
      replace hbf := Lib.hid hbf
      replace hif := Lib.hid hif
      clear hgr hx ih
      go_wp2
      have hbf' := hbf.out
      have hif' := hif.out
      unfold Rc V.agg
      simp [bodyPost, results, Try.results100, go_sem, y0, y1, y2, y3]
      exact ⟨_, ⟨rfl, rfl, rfl, rfl⟩, hif', hbf'⟩
theorem rcv100 : ∀ (N : Nat) (x : V), SizeOf.sizeOf x < N → ∀ (sx : Value) (w : World), x.In w 0 sx → Calls Try.prog 100 #[x.agg sx] w fun e w' => Rc x w e w'
  | 0, _, h => absurd h (Nat.not_lt_zero _)
  | N + 1, .mk k n s l, h => fun sx w hx => rcv_of k n s l sx w hx fun x hx sx w' hix => rcv100 N x (by
      have := List.sizeOf_lt_of_mem hx
      simp at h
      omega) sx w' hix
theorem rcv_any (x : V) (sx : Value) (w : World) (hx : x.In w 0 sx) : Calls Try.prog 100 #[x.agg sx] w fun e w' => Rc x w e w' :=
  rcv100 (SizeOf.sizeOf x + 1) x (Nat.lt_succ_self _) sx w hx
end Go.Proofs.Yteknbploiombiaa
namespace Go.Proofs.Yteknbploiombiaa
open Go.RowKit
set_option linter.unusedVariables false      -- a walk need not use every condition
section
variable {α : Type}
theorem step_gro {R : El α} (hcs : ∀ x sl, (R.cs x sl).length = R.n) (hn : 0 < R.n) (LT ET : TypeId) (i0 : TypeInfo) (z : Value) (ht : Try.prog.underlying LT = some (.slice ET)) (hi : Try.prog.info? ET = some i0) (hz : i0.zero = some z) (hsize : i0.size = R.n) (hby : i0.bytes = R.bytes) (hzs : z.cells.size = R.n)
    (w : World) {ops : Array Oper} {o : Oper} {a : Act} {K : Act → World → Prop} {Q : Exit → Act → World → Prop} {E : Prop} (hgd : o.guard = none) (s y : Operand) (ho : o.op = .call { callee := .builtin .append, args := #[s, y], argTypes := #[LT, LT] })
    (lo base T : Nat) (l : List α) (v : Value) (x : α) (sl : Value) (u : World) (hs : a.eval s = v) (h : GrR R ET w lo base l v) (hy : a.eval y = .slice (some ⟨T, 0, none⟩) 1 1) (hx : R.In u lo x sl) (hu : ∀ a c, u.cell? a = some c → w.cell? a = some c ∧ some a.block ≠ v.ownBlock)
    (hT : Ats w T 0 (R.cs x sl)) (h1 : ∀ c ∈ R.cs x sl, c.oneCell' = true) (hm : l.length + 1 ≤ maxLen) (hlen : (l.length + 1) * R.bytes ≤ 140737488355328) (hbase : base ≤ w.heap.size)
    (k : ∀ g cap w', GrR R ET w' lo base (l ++ [x]) (.slice (some ⟨g, 0, none⟩) (l.length + 1) cap) → w.grownBy w' v.ownBlock → base ≤ g → K (a.put o.dst (.slice (some ⟨g, 0, none⟩) (l.length + 1) cap)) w') : if Region.wanted o (yielded ops a.tmps) = true then Oper.wp Try.prog o a w K Q else E := by
  obtain ⟨xs, hown, he⟩ := h
  refine step_append_lies w hgd s y LT ho base ET i0 z R.n R.bytes ht hi hz hsize hby hzs hn v l.length xs hs hown ⟨T, 0, none⟩ 1 1 (R.cs x sl) hy (by rw [hcs]; omega)
    (fun j c hj => by
      have := hT j c hj
      rw [Nat.zero_add] at this
      rw [Go.WideShapes.add_plain]
      simpa using this) h1 (by omega) hm hlen hbase _ rfl fun g cap w' hown' hg hgg hlt => ?_
  exact k g cap w' (gro_of hcs hown he hx hu hown' hg hgg) hg (World.ownsRow.lt hown' g rfl).1
end
set_option maxRecDepth 100000 in
set_option maxHeartbeats 8000000 in
theorem rcp83 (l : List Pr) (sl : Value) (w : World) (hs : Sq RP w 0 l sl) :
    Calls Try.prog 83 #[sl] w fun e w' => ∃ p n c, e = .returned (.slice p n c) ∧ Sq RP w' w.heap.size l (.slice p n c) ∧ Below w.heap.size w w' := by
  obtain ⟨p, cap, rfl, hc, hcm, hby, hx⟩ := hs
  unfold maxLen at hcm
  replace hx := Lib.hid hx
  obtain ⟨N, hN⟩ : ∃ n, l.length = n := ⟨_, rfl⟩
  rw [hN] at hc hby ⊢
  have hby : N * 72 ≤ 140737488351232 := hby
  have hlen := Lib.hid hN
  clear hN
  obtain ⟨i0, hi, hz0, hz1, hz2⟩ := info_parts info99
  go_enter Try.func83, Try.ntmps83
  go_wp2
  go_loopg [4, 3] N (fun c s4 s3 wr => ∃ (i : Nat) (q : Option Addr) (m d : Nat), i + c = N ∧ s4 = .int .i64 i ∧ s3 = .slice q m d ∧ Hid (Below w.heap.size w wr) ∧ Hid (GrR RP 84 wr w.heap.size w.heap.size (l.take i) (.slice q m d)))
  case atStart => exact ⟨0, none, 0, 0, by omega, rfl, rfl, Below.refl _ _, grR_nil _ _ _ _ _⟩
  case round =>
    obtain ⟨i, q, m, d, hig, rfl, rfl, hB, hgr⟩ := hrel
    cases gk with
    | succ c =>
      have hil : i < l.length := by have := hlen.out; omega
      have hiz : (i : Int) < (N : Int) := by omega
      have hiz0 : (0 : Int) ≤ (i : Int) := by omega
      obtain ⟨b, o, rfl, -, hx1⟩ := hx.out.resolve_left (by rintro rfl; simp at hil)
      obtain ⟨s1, hat, hv1⟩ := (hx1.on' hB.out).at i hil
      obtain ⟨p1, n1', c1, rfl⟩ := hdP hv1
      obtain ⟨a0, a1, a2, a3, a4⟩ := ats5 hat
      simp only [show RP.n = 5 from rfl] at a0 a1 a2 a3 a4
      have htk : Hid (l.take (i + 1) = l.take i ++ [l[i]]) := by show _ = _; rw [List.take_succ_eq_append_getElem hil]
      have hml : Hid ((l.take i).length = i) := by show _ = _; simp; omega
      have hm : Hid (m = (l.take i).length) := by
        show _ = _
        obtain ⟨_, _, e, _⟩ := hgr.out.form
        injection e
      clear hx hx1 hat
      generalize l[i] = x at *
      generalize l.take i = L at *
      have c130 : ∀ W, Below wr.heap.size wr W → Calls Try.prog 100 #[.agg #[.int .i64 x.v.k, .int .i64 x.v.n, .string x.v.s, .slice p1 n1' c1]] W fun e w' => Rc x.v W e w' := fun W hW => rcv_any x.v _ W (hv1.2.on hW)
      have hnm := Lib.hid hv1.1
      unfold Rc V.agg at c130
      have hob := Lib.hid (fun (b : Nat) (e : (Value.slice q m d).ownBlock = some b) => (hgr.out.lt e).2)
      have Q0 : Below wr.heap.size wr wr.drew := (Below.refl _ wr).drew
      clear hv1
      have A0 := some_on Q0 a0
      have A1 := some_on Q0 a1
      have A2 := some_on Q0 a2
      have A3 := some_on Q0 a3
      have A4 := some_on Q0 a4
      go_wp2
      go_region_law (first
        | (refine step_gro len_RP (by decide) 38 84 i0 zPr Try.underlying38 hi hz0 hz1 hz2 rfl _ rfl (.tmp 11) (.tmp 24) rfl w.heap.size w.heap.size _ L (.slice q m d) x (.slice p2 n2 c2) (cutW w2 wr.heap.size) (by simp [Act.eval]) (by exact hg2.out.alloc _) (by simp [Act.eval]; rfl) (by exact ⟨hnm.out, V.In.keep (cutW_keep w2 wr.heap.size) (by have := hB.out.size; omega) _ _ hin2.out⟩) (by exact fun a c' hc' => ⟨some_on (bel1 _ _) (cutW_cell hc').2, fun e => by have h1 := hob.out _ e.symm; have h2 := (cutW_cell hc').1; omega⟩) (by exact new_ats' _ (RP.cs x (.slice p2 n2 c2)) 84 rfl) (by intro c hc; simp only [RP, List.mem_cons, List.not_mem_nil, or_false] at hc; rcases hc with rfl | rfl | rfl | rfl | rfl <;> rfl) (by have := hml.out; unfold maxLen; omega) (by have := hml.out; show (L.length + 1) * 72 ≤ _; omega) (by have := HB2.out.size; simp; omega) ?_; intro g5 cap5 w5 hG5 hgr5 hg5; have HG := Lib.hid (And.intro hG5 (gro_below (hg2.out.alloc _) hgr5 (Nat.le_refl _) (by have := HB2.out.size; simp; omega))); clear hG5 hgr5 hg5)
        | (go_simp; go_at_call 100; (with_reducible refine (c130 _ (by with_reducible assumption)).mono ?_); rintro e w2 ⟨sl2, rfl, hin2, hb2⟩; obtain ⟨p2, n2, c2, rfl⟩ : ∃ p n c, sl2 = .slice p n c := hin2.header; have Q2 : Below wr.heap.size wr w2 := bel_then Q0 hb2; have B0 := some_on Q2 a0; have HB2 := Lib.hid (hB.out.trans (Q2.mono hB.out.size)); have hg2 := Lib.hid (hgr.out.on Q2); have hin2 := Lib.hid hin2; clear hb2))
      all_goals go_wp2
      all_goals (go_roundg c)
      all_goals first
        | exact ⟨i + 1, _, _, _, by omega, by first | rfl | simp, rfl, (HB2.out.trans ((bel1 _ _).mono HB2.out.size)).trans HG.out.2, by show GrR _ _ _ _ _ _ _; rw [htk.out]; exact HG.out.1⟩
        | omega
    | zero =>
      obtain rfl : i = N := by omega
      have hfin : Hid (GrR RP 84 wr w.heap.size w.heap.size l (.slice q m d)) := by
        have := hgr.out
        rwa [← hlen.out, List.take_length] at this
      clear hgr hx
      go_wp2
      go_ret
      exact ⟨_, _, _, rfl, hfin.out.sq (Nat.le_refl _) (by rw [hlen.out]; exact hby), hB.out⟩
end Go.Proofs.Yteknbploiombiaa
namespace Go.Proofs.Yteknbploiombiaa
open Go.RowKit
set_option linter.unusedVariables false      -- a walk need not use every condition

/-- All cells of a world, but for those of one block's. -/
theorem keepT {wr wr1 w2 : World} {j : Nat} {c : Value} (h1 : Below wr.heap.size wr wr1) (h2 : Below wr1.heap.size wr1 w2) : KeepB 0 wr (w2.setCell ⟨wr.heap.size, j, none⟩ c) := fun g o _ e => by
  have hl := (Array.getElem?_eq_some_iff.1 e).1
  exact blk_oth (blk_on (bel_then h1 h2) e) (by omega)
theorem bel1s {w W : World} {B i : Nat} {c : Value} (h : Below B w W) (hB : B ≤ i) (j : Nat) : Below B w (W.setCell ⟨i, j, none⟩ c) := h.setCell (p := ⟨i, j, none⟩) hB c
theorem blk3_a {W : World} {B : Nat} {t : TypeId} {a b c a' : Value} (h : W.heap[B]? = some (.cells #[a, b, c] t)) : (W.setCell ⟨B, 0, none⟩ a').heap[B]? = some (.cells #[a', b, c] t) := blk_set3a h
theorem blk_set5e {W : World} {B : Nat} {t : TypeId} {a b c d e e' : Value} (h : W.heap[B]? = some (.cells #[a, b, c, d, e] t)) : (W.setCell ⟨B, 4, none⟩ e').heap[B]? = some (.cells #[a, b, c, d, e'] t) := by
  simp [World.setCell, Array.getElem?_modify, h]
theorem rnd_end {w w4 w5 : World} {o0 o1 o2 : Obj} (b4 : Below w.heap.size w w4) (hz4 : w.heap.size + 3 ≤ w4.heap.size) (m0 : w4.heap[w.heap.size]? = some o0) (m1 : w4.heap[w.heap.size + 1]? = some o1) (m2 : w4.heap[w.heap.size + 1 + 1]? = some o2) (h5 : Below (w.heap.size + 3) w4 w5) :
    (Below w.heap.size w w5 ∧ w.heap.size + 3 ≤ w5.heap.size) ∧ w5.heap[w.heap.size]? = some o0 ∧ w5.heap[w.heap.size + 1]? = some o1 ∧ w5.heap[w.heap.size + 1 + 1]? = some o2 :=
  ⟨⟨b4.trans (h5.mono (by omega)), by have := h5.size; omega⟩, (h5.block _ (by omega)).trans m0, (h5.block _ (by omega)).trans m1, (h5.block _ (by omega)).trans m2⟩
theorem rnd_put {w w5 : World} {o0 o1 : Obj} {a b c : Value} {t : TypeId} {j : Nat} {v : Value} (h : (Below w.heap.size w w5 ∧ w.heap.size + 3 ≤ w5.heap.size) ∧ w5.heap[w.heap.size]? = some o0 ∧ w5.heap[w.heap.size + 1]? = some o1 ∧ w5.heap[w.heap.size + 1 + 1]? = some (.cells #[a, b, c] t)) :
    (Below w.heap.size w (w5.setCell ⟨w.heap.size + 1 + 1, j, none⟩ v) ∧ w.heap.size + 3 ≤ (w5.setCell ⟨w.heap.size + 1 + 1, j, none⟩ v).heap.size) ∧ (w5.setCell ⟨w.heap.size + 1 + 1, j, none⟩ v).heap[w.heap.size]? = some o0 ∧ (w5.setCell ⟨w.heap.size + 1 + 1, j, none⟩ v).heap[w.heap.size + 1]? = some o1 :=
  ⟨⟨bel1s h.1.1 (by omega) _, by have := h.1.2; simp [World.setCell]; omega⟩, blk_oth h.2.1 (by omega), blk_oth h.2.2.1 (by omega)⟩
set_option maxRecDepth 100000 in
set_option maxHeartbeats 8000000 in
theorem rcg56 (g : Gg) (sv se : Value) (w : World) (hg : Gg.In w 0 g sv se) :
    Calls Try.prog 56 #[g.agg sv se] w fun e w' => ∃ s1 s2, e = .returned (g.agg s1 s2) ∧ Gg.In w' w.heap.size g s1 s2 ∧ Below w.heap.size w w' := by
  obtain ⟨hl64, hV, hE⟩ := hg
  obtain ⟨pv, cv, rfl, hvc, hvm, hvb, hxv⟩ := hV
  obtain ⟨pe, ce, rfl, hec, hem, heb, hxe⟩ := hE
  unfold maxLen at hvm hem
  replace hxv := Lib.hid hxv
  replace hxe := Lib.hid hxe
  obtain ⟨nv, hnv⟩ : ∃ n, g.vs.length = n := ⟨_, rfl⟩
  obtain ⟨ne, hne⟩ : ∃ n, g.es.length = n := ⟨_, rfl⟩
  rw [hnv] at hvc hvb
  rw [hne] at hec heb
  have hvb : nv * 48 ≤ 140737488351232 := hvb
  have heb : ne * 64 ≤ 140737488351232 := heb
  unfold Gg.agg
  rw [hnv, hne]
  have hlv := Lib.hid hnv
  have hle := Lib.hid hne
  clear hnv hne
  obtain ⟨top, htop⟩ : ∃ t, g.last = t := ⟨_, rfl⟩
  rw [htop] at hl64 ⊢
  have htop := Lib.hid htop
  obtain ⟨iv, hiv, hv0, hv1, hv2⟩ := info_parts info41
  obtain ⟨ie, hie, he0, he1, he2⟩ := info_parts info46
  have n0 := World.alloc_heap_new w (Obj.cells #[.slice pv nv cv, .slice pe ne ce, .int .i64 top] 27)
  have n1 := World.alloc_heap_new (w.alloc (Obj.cells #[.slice pv nv cv, .slice pe ne ce, .int .i64 top] 27)) (Obj.cells #[.slice none 0 0, .slice none 0 0, .int .i64 0] 27)
  have n2 := World.alloc_heap_new ((w.alloc (Obj.cells #[.slice pv nv cv, .slice pe ne ce, .int .i64 top] 27)).alloc (Obj.cells #[.slice none 0 0, .slice none 0 0, .int .i64 0] 27)) (Obj.cells #[.slice none 0 0, .slice none 0 0, .int .i64 top] 27)
  replace n0 := blk_on (bel2 _ (Obj.cells #[.slice none 0 0, .slice none 0 0, .int .i64 0] 27) (Obj.cells #[.slice none 0 0, .slice none 0 0, .int .i64 top] 27)) n0
  replace n1 := blk_on (bel1 _ (Obj.cells #[.slice none 0 0, .slice none 0 0, .int .i64 top] 27)) n1
  simp only [World.size_alloc] at n1 n2
  have hb0 : Below w.heap.size w (((w.alloc (Obj.cells #[.slice pv nv cv, .slice pe ne ce, .int .i64 top] 27)).alloc (Obj.cells #[.slice none 0 0, .slice none 0 0, .int .i64 0] 27)).alloc (Obj.cells #[.slice none 0 0, .slice none 0 0, .int .i64 top] 27)) := bel_then (bel2 w _ _) (bel1 _ _)
  have hsz : (((w.alloc (Obj.cells #[.slice pv nv cv, .slice pe ne ce, .int .i64 top] 27)).alloc (Obj.cells #[.slice none 0 0, .slice none 0 0, .int .i64 0] 27)).alloc (Obj.cells #[.slice none 0 0, .slice none 0 0, .int .i64 top] 27)).heap.size = w.heap.size + 3 := by simp
  replace n0 := Lib.hid n0
  replace n1 := Lib.hid n1
  replace n2 := Lib.hid n2
  replace hb0 := Lib.hid hb0
  replace hsz := Lib.hid hsz
  go_enter Try.func56, Try.ntmps56
  go_wp2
  generalize ((w.alloc (Obj.cells #[.slice pv nv cv, .slice pe ne ce, .int .i64 top] 27)).alloc (Obj.cells #[.slice none 0 0, .slice none 0 0, .int .i64 0] 27)).alloc (Obj.cells #[.slice none 0 0, .slice none 0 0, .int .i64 top] 27) = W at *
  go_loopg [4, 5] nv (fun c s4 s5 wr => ∃ (i : Nat) (q : Option Addr) (m d : Nat), i + c = nv ∧ s4 = .int .i64 i ∧ Hid (Below w.heap.size w wr ∧ w.heap.size + 3 ≤ wr.heap.size) ∧ Hid (wr.heap[w.heap.size]? = some (Obj.cells #[.slice pv nv cv, .slice pe ne ce, .int .i64 top] 27)) ∧ Hid (wr.heap[w.heap.size + 1]? = some (Obj.cells #[.slice none 0 0, .slice none 0 0, .int .i64 0] 27)) ∧ Hid (wr.heap[w.heap.size + 1 + 1]? = some (Obj.cells #[.slice q m d, .slice none 0 0, .int .i64 top] 27)) ∧ Hid (GrR RV 40 wr (w.heap.size + 3) (w.heap.size + 3) (g.vs.take i) (.slice q m d)))
  case atStart => exact ⟨0, none, 0, 0, by omega, rfl, ⟨hb0.out, by have := hsz.out; omega⟩, n0.out, n1.out, n2.out, grR_nil _ _ _ _ _⟩
  case round =>
    obtain ⟨i, q, m, d, hig, rfl, hB, m0, m1, m2, hgr⟩ := hrel
    obtain ⟨x0, x1, x2, -⟩ := three_of m0.out
    obtain ⟨z0, z1, z2, fz⟩ := three_of m2.out
    cases gk with
    | succ c =>
      have hil : i < g.vs.length := by have := hlv.out; omega
      have hiz : (i : Int) < (nv : Int) := by omega
      have hiz0 : (0 : Int) ≤ (i : Int) := by omega
      obtain ⟨b, o, rfl, -, hx1⟩ := hxv.out.resolve_left (by intro e; rw [e] at hil; simp at hil)
      obtain ⟨s1, hat, hv1'⟩ := (hx1.on' hB.out.1).at i hil
      obtain ⟨p1, n1', c1, rfl⟩ := hdV hv1'
      obtain ⟨a0, a1, a2⟩ := ats3 hat
      simp only [show RV.n = 3 from rfl] at a0 a1 a2
      have htk : Hid (g.vs.take (i + 1) = g.vs.take i ++ [g.vs[i]]) := by show _ = _; rw [List.take_succ_eq_append_getElem hil]
      have hml : Hid ((g.vs.take i).length = i) := by show _ = _; simp; omega
      have hm : Hid (m = (g.vs.take i).length) := by
        show _ = _
        obtain ⟨_, _, e, _⟩ := hgr.out.form
        injection e
      clear hxv hx1 hat
      generalize g.vs[i] = x at *
      generalize g.vs.take i = L at *
      have bA := Lib.hid (bel1 wr (Obj.cells #[.int .i64 x.id, .string x.lb, .slice p1 n1' c1] 40))
      have nA := Lib.hid (World.alloc_heap_new wr (Obj.cells #[.int .i64 x.id, .string x.lb, .slice p1 n1' c1] 40))
      have hsA : Hid ((wr.alloc (Obj.cells #[.int .i64 x.id, .string x.lb, .slice p1 n1' c1] 40)).heap.size = wr.heap.size + 1) := by show _ = _; simp
      have c117 := rcp83 x.ps _ _ (hv1'.2.2.on bA.out)
      have hbase := Lib.hid (And.intro hv1'.1 hv1'.2.1)
      clear hv1'
      go_wp2_with (fail)
      generalize wr.alloc (Obj.cells #[.int .i64 x.id, .string x.lb, .slice p1 n1' c1] 40) = wA at *
      refine c117.mono ?_
      rintro e w2 ⟨p2, n2', c2, rfl, hS2, hb2⟩
      have nB := blk_on hb2 nA.out
      obtain ⟨y0, y1, y2, fy⟩ := three_of nB
      have kT := Lib.hid (keepT (j := 2) (c := .slice p2 n2' c2) bA.out hb2)
      have nB' := blk_set3c (c' := .slice p2 n2' c2) nB
      have m0' := kT.out _ _ (Nat.zero_le _) m0.out
      have m1' := kT.out _ _ (Nat.zero_le _) m1.out
      have m2' := kT.out _ _ (Nat.zero_le _) m2.out
      have hg3 := hgr.out.keepB kT.out
      have hB3 := bel1s (c := .slice p2 n2' c2) (i := wr.heap.size) (hB.out.1.trans ((bel_then bA.out hb2).mono hB.out.1.size)) (by have := hB.out.2; omega) 2
      have hS3 : Sq RP (w2.setCell ⟨wr.heap.size, 2, none⟩ (.slice p2 n2' c2)) (wr.heap.size + 1) x.ps (.slice p2 n2' c2) := hS2.keep (lo := wA.heap.size) (fun a v ha hc => set_other hc (.inl (by have := hsA.out; show a.block ≠ wr.heap.size; omega))) (by have := hsA.out; omega)
      have hz3 : wr.heap.size + 1 ≤ (w2.setCell ⟨wr.heap.size, 2, none⟩ (.slice p2 n2' c2)).heap.size := by have := hb2.size; have := hsA.out; simp [World.setCell]; omega
      have hob := Lib.hid (fun (b : Nat) (e : (Value.slice q m d).ownBlock = some b) => (hgr.out.lt e).2)
      have m2w := blk_on (bel_then bA.out hb2) m2.out
      obtain ⟨z0', z1', z2', fz'⟩ := three_of m2w
      have hneT : ¬ w.heap.size + 1 + 1 = wr.heap.size := by have := hB.out.2; omega
      have hneT' : ¬ wr.heap.size = w.heap.size + 1 + 1 := by have := hB.out.2; omega
      replace hg3 := Lib.hid hg3
      replace hB3 := Lib.hid hB3
      replace hS3 := Lib.hid hS3
      replace hz3 := Lib.hid hz3
      replace m0' := Lib.hid m0'
      replace m1' := Lib.hid m1'
      replace m2' := Lib.hid m2'
      replace nB' := Lib.hid nB'
      clear z0 z1 z2 fz x0 x1 x2 hS2 hb2 nB m2w
      go_wp2_with (at_builtin; refine wpList_gro len_RV (by decide) 24 40 iv zVx Try.underlying24 hiv hv0 hv1 hv2 rfl _ rfl _ _ rfl (w.heap.size + 3) (w.heap.size + 3) _ L _ x (.slice p2 n2' c2) (cutW (w2.setCell ⟨wr.heap.size, 2, none⟩ (.slice p2 n2' c2)) (wr.heap.size + 1)) rfl (by exact hg3.out.alloc _) rfl (by exact ⟨hbase.out.1, hbase.out.2, hS3.out.keep (cutW_keep _ (wr.heap.size + 1)) (by have := hB.out.2; omega)⟩) (by exact fun a c' hc' => ⟨some_on (bel1 _ _) (cutW_cell hc').2, fun e => by have h1 := hob.out _ e.symm; have h2 := (cutW_cell hc').1; omega⟩) (by exact new_ats' _ (RV.cs x (.slice p2 n2' c2)) 40 (by simp [World.setCell])) (by intro c hc; simp only [RV, List.mem_cons, List.not_mem_nil, or_false] at hc; rcases hc with rfl | rfl | rfl <;> rfl) (by have := hml.out; unfold maxLen; omega) (by have := hml.out; show (L.length + 1) * 48 ≤ _; omega) (by have := hz3.out; have := hB.out.2; rw [World.size_alloc]; omega) ?_; intro g5 cap5 w5 hG5 hgr5 hg5; have HG := Lib.hid (And.intro hG5 (rnd_end (hB3.out.trans ((bel1 _ _).mono hB3.out.size)) (by rw [World.size_alloc]; have := hz3.out; have := hB.out.2; omega) (blk_on (bel1 _ _) m0'.out) (blk_on (bel1 _ _) m1'.out) (blk_on (bel1 _ _) m2'.out) (gro_below (hg3.out.alloc _) hgr5 (Nat.le_refl _) (by rw [World.size_alloc]; have := hz3.out; have := hB.out.2; omega)))); obtain ⟨q0, q1, q2, fq⟩ := three_of HG.out.2.2.2.2; clear hG5 hgr5 hg5)
      go_roundg c
      case measure => omega
      case rel =>
        have r := rnd_put (j := 0) (v := .slice (some ⟨g5, 0, none⟩) (L.length + 1) cap5) HG.out.2
        refine ⟨i + 1, some ⟨g5, 0, none⟩, L.length + 1, cap5, by omega, by first | rfl | simp, r.1, r.2.1, r.2.2, blk_set3a HG.out.2.2.2.2, ?_⟩
        show GrR _ _ _ _ _ _ _
        rw [htk.out]
        exact HG.out.1.put (Nat.le_refl _) (by omega) 0 _
    | zero =>
      obtain rfl : nv = i := by omega
      obtain ⟨wv, rfl⟩ : ∃ v, v = wr := ⟨_, rfl⟩
      have hV1 : Hid (Sq RV wv (w.heap.size + 3) g.vs (.slice q m d)) := by
        have := hgr.out
        rw [← hlv.out, List.take_length] at this
        exact this.sq (Nat.le_refl _) (by rw [hlv.out]; exact hvb)
      have hmN : Hid (m = nv) := by
        show _ = _
        obtain ⟨_, _, e, _⟩ := hV1.out
        injection e with _ e2
        rw [e2, hlv.out]
      have hB0 := hB
      clear hgr hxv
      go_wp2
      clear x0 x1 x2 z0 z1 z2 fz
      go_loopg [6, 7] ne (fun c s6 s7 wr => ∃ (i : Nat) (qq : Option Addr) (mm dd : Nat), i + c = ne ∧ s6 = .int .i64 i ∧ Hid (Below w.heap.size w wr ∧ w.heap.size + 3 ≤ wr.heap.size) ∧ Hid (wr.heap[w.heap.size]? = some (Obj.cells #[.slice pv nv cv, .slice pe ne ce, .int .i64 top] 27)) ∧ Hid (wr.heap[w.heap.size + 1]? = some (Obj.cells #[.slice none 0 0, .slice none 0 0, .int .i64 0] 27)) ∧ Hid (wr.heap[w.heap.size + 1 + 1]? = some (Obj.cells #[.slice q m d, .slice qq mm dd, .int .i64 top] 27)) ∧ Hid (GrR RL 46 wr (w.heap.size + 3) wv.heap.size (g.es.take i) (.slice qq mm dd)) ∧ Hid (Keep (w.heap.size + 3) wv wr ∧ wv.heap.size ≤ wr.heap.size))
      case atStart => exact ⟨0, none, 0, 0, by omega, rfl, hB.out, m0.out, m1.out, m2.out, grR_nil _ _ _ _ _, fun _ _ _ h => h, Nat.le_refl _⟩
      case round =>
        clear hB m0 m1 m2
        obtain ⟨i, qq, mm, dd, hig, rfl, hB, m0, m1, m2, hgr, hKp⟩ := hrel
        obtain ⟨x0, x1, x2, -⟩ := three_of m0.out
        obtain ⟨z0, z1, z2, fz⟩ := three_of m2.out
        cases gk with
        | succ c =>
          have hil : i < g.es.length := by have := hle.out; omega
          have hiz : (i : Int) < (ne : Int) := by omega
          have hiz0 : (0 : Int) ≤ (i : Int) := by omega
          obtain ⟨b, o, rfl, -, hx1⟩ := hxe.out.resolve_left (by intro e; rw [e] at hil; simp at hil)
          obtain ⟨s1, hat, he1'⟩ := (hx1.on' hB.out.1).at i hil
          obtain ⟨p1, n1', c1, rfl⟩ := hdL he1'
          obtain ⟨a0, a1, a2, a3, a4⟩ := ats5 hat
          simp only [show RL.n = 5 from rfl] at a0 a1 a2 a3 a4
          have htk : Hid (g.es.take (i + 1) = g.es.take i ++ [g.es[i]]) := by show _ = _; rw [List.take_succ_eq_append_getElem hil]
          have hml : Hid ((g.es.take i).length = i) := by show _ = _; simp; omega
          have hm : Hid (mm = (g.es.take i).length) := by
            show _ = _
            obtain ⟨_, _, e, _⟩ := hgr.out.form
            injection e
          clear hxe hx1 hat
          generalize g.es[i] = x at *
          generalize g.es.take i = L at *
          have bA := Lib.hid (bel1 wr (Obj.cells #[.int .i64 x.id, .string x.lb, .int .i64 x.out, .int .i64 x.inn, .slice p1 n1' c1] 46))
          have nA := Lib.hid (World.alloc_heap_new wr (Obj.cells #[.int .i64 x.id, .string x.lb, .int .i64 x.out, .int .i64 x.inn, .slice p1 n1' c1] 46))
          have hsA : Hid ((wr.alloc (Obj.cells #[.int .i64 x.id, .string x.lb, .int .i64 x.out, .int .i64 x.inn, .slice p1 n1' c1] 46)).heap.size = wr.heap.size + 1) := by show _ = _; simp
          have c117 := rcp83 x.ps _ _ (he1'.2.2.2.2.on bA.out)
          have hbase := Lib.hid (And.intro he1'.1 (And.intro he1'.2.1 (And.intro he1'.2.2.1 he1'.2.2.2.1)))
          clear he1'
          go_wp2_with (fail)
          generalize wr.alloc (Obj.cells #[.int .i64 x.id, .string x.lb, .int .i64 x.out, .int .i64 x.inn, .slice p1 n1' c1] 46) = wA at *
          refine c117.mono ?_
          rintro e w2 ⟨p2, n2', c2, rfl, hS2, hb2⟩
          have nB := blk_on hb2 nA.out
          obtain ⟨y0, y1, y2, y3, y4, fy⟩ := five_of nB
          have kT := Lib.hid (keepT (j := 4) (c := .slice p2 n2' c2) bA.out hb2)
          have nB' := blk_set5e (e' := .slice p2 n2' c2) nB
          have m0' := kT.out _ _ (Nat.zero_le _) m0.out
          have m1' := kT.out _ _ (Nat.zero_le _) m1.out
          have m2' := kT.out _ _ (Nat.zero_le _) m2.out
          have hg3 := hgr.out.keepB kT.out
          have hB3 := bel1s (c := .slice p2 n2' c2) (i := wr.heap.size) (hB.out.1.trans ((bel_then bA.out hb2).mono hB.out.1.size)) (by have := hB.out.2; omega) 4
          have hS3 : Sq RP (w2.setCell ⟨wr.heap.size, 4, none⟩ (.slice p2 n2' c2)) (wr.heap.size + 1) x.ps (.slice p2 n2' c2) := hS2.keep (lo := wA.heap.size) (fun a v ha hc => set_other hc (.inl (by have := hsA.out; show a.block ≠ wr.heap.size; omega))) (by have := hsA.out; omega)
          have hz3 : wr.heap.size + 1 ≤ (w2.setCell ⟨wr.heap.size, 4, none⟩ (.slice p2 n2' c2)).heap.size := by have := hb2.size; have := hsA.out; simp [World.setCell]; omega
          have hob := Lib.hid (fun (b : Nat) (e : (Value.slice qq mm dd).ownBlock = some b) => (hgr.out.lt e).2)
          have m2w := blk_on (bel_then bA.out hb2) m2.out
          obtain ⟨z0', z1', z2', fz'⟩ := three_of m2w
          have hneT : ¬ w.heap.size + 1 + 1 = wr.heap.size := by have := hB.out.2; omega
          have hneT' : ¬ wr.heap.size = w.heap.size + 1 + 1 := by have := hB.out.2; omega
          replace hg3 := Lib.hid hg3
          replace hB3 := Lib.hid hB3
          replace hS3 := Lib.hid hS3
          replace hz3 := Lib.hid hz3
          replace m0' := Lib.hid m0'
          replace m1' := Lib.hid m1'
          replace m2' := Lib.hid m2'
          replace nB' := Lib.hid nB'
          clear z0 z1 z2 fz x0 x1 x2 hS2 hb2 nB m2w
          go_wp2_with (at_builtin; refine wpList_gro len_RL (by decide) 25 46 ie zLk Try.underlying25 hie he0 he1 he2 rfl _ rfl _ _ rfl (w.heap.size + 3) wv.heap.size _ L _ x (.slice p2 n2' c2) (cutW (w2.setCell ⟨wr.heap.size, 4, none⟩ (.slice p2 n2' c2)) (wr.heap.size + 1)) rfl (by exact hg3.out.alloc _) rfl (by exact ⟨hbase.out.1, hbase.out.2.1, hbase.out.2.2.1, hbase.out.2.2.2, hS3.out.keep (cutW_keep _ (wr.heap.size + 1)) (by have := hB.out.2; omega)⟩) (by exact fun a c' hc' => ⟨some_on (bel1 _ _) (cutW_cell hc').2, fun e => by have h1 := hob.out _ e.symm; have h2 := (cutW_cell hc').1; omega⟩) (by exact new_ats' _ (RL.cs x (.slice p2 n2' c2)) 46 (by simp [World.setCell])) (by intro c hc; simp only [RL, List.mem_cons, List.not_mem_nil, or_false] at hc; rcases hc with rfl | rfl | rfl | rfl | rfl <;> rfl) (by have := hml.out; unfold maxLen; omega) (by have := hml.out; show (L.length + 1) * 64 ≤ _; omega) (by have := hz3.out; have := hB.out.2; have := hKp.out.2; rw [World.size_alloc]; omega) ?_; intro g5 cap5 w5 hG5 hgr5 hg5; have HH := Lib.hid (gro_below (hg3.out.alloc _) hgr5 (Nat.le_refl wv.heap.size) (by rw [World.size_alloc]; have := hz3.out; have := hKp.out.2; omega)); have HG := Lib.hid (And.intro hG5 (rnd_end (hB3.out.trans ((bel1 _ _).mono hB3.out.size)) (by rw [World.size_alloc]; have := hz3.out; have := hB.out.2; omega) (blk_on (bel1 _ _) m0'.out) (blk_on (bel1 _ _) m1'.out) (blk_on (bel1 _ _) m2'.out) (HH.out.mono (by have := hB0.out.2; omega)))); obtain ⟨q0, q1, q2, fq⟩ := three_of HG.out.2.2.2.2; clear hG5 hgr5 hg5)
          go_roundg c
          case measure => omega
          case rel =>
            have r := rnd_put (j := 1) (v := .slice (some ⟨g5, 0, none⟩) (L.length + 1) cap5) HG.out.2
            have hK6 : Keep (w.heap.size + 3) wv (w5.setCell ⟨w.heap.size + 1 + 1, 1, none⟩ (.slice (some ⟨g5, 0, none⟩) (L.length + 1) cap5)) := fun a v ha hc => set_other ((HH.out.cell (cell_lt hc)).trans (some_on (bel1 _ _) (kT.out.keep a v (Nat.zero_le _) (hKp.out.1 a v ha hc)))) (.inl (by show a.block ≠ w.heap.size + 1 + 1; omega))
            refine ⟨i + 1, some ⟨g5, 0, none⟩, L.length + 1, cap5, by omega, by first | rfl | simp, r.1, r.2.1, r.2.2, blk_set3b HG.out.2.2.2.2, ?_, hK6, by have := HH.out.size; have := hz3.out; have := hKp.out.2; rw [World.size_alloc] at *; simp only [World.setCell, Array.size_modify] at *; omega⟩
            show GrR _ _ _ _ _ _ _
            rw [htk.out]
            exact HG.out.1.put (by have := hB0.out.2; omega) (by omega) 1 _
        | zero =>
          obtain rfl : ne = i := by omega
          have hE1 : Hid (Sq RL wr (w.heap.size + 3) g.es (.slice qq mm dd)) := by
            have := hgr.out
            rw [← hle.out, List.take_length] at this
            exact this.sq (by have := hB0.out.2; omega) (by rw [hle.out]; exact heb)
          have hmE : Hid (mm = ne) := by
            show _ = _
            obtain ⟨_, _, e, _⟩ := hE1.out
            injection e with _ e2
            rw [e2, hle.out]
          have hV2 : Hid (Sq RV wr (w.heap.size + 3) g.vs (.slice q m d)) := hV1.out.keep hKp.out.1 (Nat.le_refl _)
          obtain ⟨q0, q1, q2, fq⟩ := three_of m1.out
          have hbf : Below w.heap.size w (((wr.setCell ⟨w.heap.size + 1, 0, none⟩ (.slice q m d)).setCell ⟨w.heap.size + 1, 1, none⟩ (.slice qq mm dd)).setCell ⟨w.heap.size + 1, 2, none⟩ (.int .i64 top)) := bel1s (bel1s (bel1s hB.out.1 (by omega) 0) (by omega) 1) (by omega) 2
          have kf : KeepB (w.heap.size + 3) wr (((wr.setCell ⟨w.heap.size + 1, 0, none⟩ (.slice q m d)).setCell ⟨w.heap.size + 1, 1, none⟩ (.slice qq mm dd)).setCell ⟨w.heap.size + 1, 2, none⟩ (.int .i64 top)) := ((keepB_set (by omega)).trans (keepB_set (by omega))).trans (keepB_set (by omega))
          have hfin : Gg.In (((wr.setCell ⟨w.heap.size + 1, 0, none⟩ (.slice q m d)).setCell ⟨w.heap.size + 1, 1, none⟩ (.slice qq mm dd)).setCell ⟨w.heap.size + 1, 2, none⟩ (.int .i64 top)) w.heap.size g (.slice q m d) (.slice qq mm dd) := ⟨by rw [htop.out]; exact hl64, hV2.out.keep kf.keep (by omega), hE1.out.keep kf.keep (by omega)⟩
          replace hbf := Lib.hid hbf
          replace hfin := Lib.hid hfin
          clear hgr kf hV1 hV2 hE1
          go_wp2
          have hbf' := hbf.out
          have hfin' := hfin.out
          simp [bodyPost, results, Try.results56, go_sem, q0, q1, q2]
          exact ⟨_, _, ⟨by rw [hmN.out], by rw [hmE.out]⟩, hfin', hbf'⟩
end Go.Proofs.Yteknbploiombiaa
namespace Go.Proofs.Yteknbploiombiaa
open Go.RowKit
set_option linter.unusedVariables false      -- a walk need not use every condition

/-- A graph of one's own whose rows grew, the vertices' row first. -/
def GwGr (g : Gg) (w : World) (lo : Nat) (s1 s2 : Value) : Prop := ∃ wv : World, lo ≤ wv.heap.size ∧ KeepB lo wv w ∧ wv.heap.size ≤ w.heap.size ∧ GrR RV 40 wv lo lo g.vs s1 ∧ GrR RL 46 w wv.heap.size wv.heap.size g.es s2
set_option maxRecDepth 100000 in
set_option maxHeartbeats 8000000 in
theorem rcg56g (g : Gg) (sv se : Value) (w : World) (hg : Gg.In w 0 g sv se) :
    Calls Try.prog 56 #[g.agg sv se] w fun e w' => ∃ s1 s2, e = .returned (g.agg s1 s2) ∧ Gg.In w' w.heap.size g s1 s2 ∧ Below w.heap.size w w' ∧ GwGr g w' (w.heap.size + 3) s1 s2 := by
  obtain ⟨hl64, hV, hE⟩ := hg
  obtain ⟨pv, cv, rfl, hvc, hvm, hvb, hxv⟩ := hV
  obtain ⟨pe, ce, rfl, hec, hem, heb, hxe⟩ := hE
  unfold maxLen at hvm hem
  replace hxv := Lib.hid hxv
  replace hxe := Lib.hid hxe
  obtain ⟨nv, hnv⟩ : ∃ n, g.vs.length = n := ⟨_, rfl⟩
  obtain ⟨ne, hne⟩ : ∃ n, g.es.length = n := ⟨_, rfl⟩
  rw [hnv] at hvc hvb
  rw [hne] at hec heb
  have hvb : nv * 48 ≤ 140737488351232 := hvb
  have heb : ne * 64 ≤ 140737488351232 := heb
  unfold Gg.agg
  rw [hnv, hne]
  have hlv := Lib.hid hnv
  have hle := Lib.hid hne
  clear hnv hne
  obtain ⟨top, htop⟩ : ∃ t, g.last = t := ⟨_, rfl⟩
  rw [htop] at hl64 ⊢
  have htop := Lib.hid htop
  obtain ⟨iv, hiv, hv0, hv1, hv2⟩ := info_parts info41
  obtain ⟨ie, hie, he0, he1, he2⟩ := info_parts info46
  have n0 := World.alloc_heap_new w (Obj.cells #[.slice pv nv cv, .slice pe ne ce, .int .i64 top] 27)
  have n1 := World.alloc_heap_new (w.alloc (Obj.cells #[.slice pv nv cv, .slice pe ne ce, .int .i64 top] 27)) (Obj.cells #[.slice none 0 0, .slice none 0 0, .int .i64 0] 27)
  have n2 := World.alloc_heap_new ((w.alloc (Obj.cells #[.slice pv nv cv, .slice pe ne ce, .int .i64 top] 27)).alloc (Obj.cells #[.slice none 0 0, .slice none 0 0, .int .i64 0] 27)) (Obj.cells #[.slice none 0 0, .slice none 0 0, .int .i64 top] 27)
  replace n0 := blk_on (bel2 _ (Obj.cells #[.slice none 0 0, .slice none 0 0, .int .i64 0] 27) (Obj.cells #[.slice none 0 0, .slice none 0 0, .int .i64 top] 27)) n0
  replace n1 := blk_on (bel1 _ (Obj.cells #[.slice none 0 0, .slice none 0 0, .int .i64 top] 27)) n1
  simp only [World.size_alloc] at n1 n2
  have hb0 : Below w.heap.size w (((w.alloc (Obj.cells #[.slice pv nv cv, .slice pe ne ce, .int .i64 top] 27)).alloc (Obj.cells #[.slice none 0 0, .slice none 0 0, .int .i64 0] 27)).alloc (Obj.cells #[.slice none 0 0, .slice none 0 0, .int .i64 top] 27)) := bel_then (bel2 w _ _) (bel1 _ _)
  have hsz : (((w.alloc (Obj.cells #[.slice pv nv cv, .slice pe ne ce, .int .i64 top] 27)).alloc (Obj.cells #[.slice none 0 0, .slice none 0 0, .int .i64 0] 27)).alloc (Obj.cells #[.slice none 0 0, .slice none 0 0, .int .i64 top] 27)).heap.size = w.heap.size + 3 := by simp
  replace n0 := Lib.hid n0
  replace n1 := Lib.hid n1
  replace n2 := Lib.hid n2
  replace hb0 := Lib.hid hb0
  replace hsz := Lib.hid hsz
  go_enter Try.func56, Try.ntmps56
  go_wp2
  generalize ((w.alloc (Obj.cells #[.slice pv nv cv, .slice pe ne ce, .int .i64 top] 27)).alloc (Obj.cells #[.slice none 0 0, .slice none 0 0, .int .i64 0] 27)).alloc (Obj.cells #[.slice none 0 0, .slice none 0 0, .int .i64 top] 27) = W at *
  go_loopg [4, 5] nv (fun c s4 s5 wr => ∃ (i : Nat) (q : Option Addr) (m d : Nat), i + c = nv ∧ s4 = .int .i64 i ∧ Hid (Below w.heap.size w wr ∧ w.heap.size + 3 ≤ wr.heap.size) ∧ Hid (wr.heap[w.heap.size]? = some (Obj.cells #[.slice pv nv cv, .slice pe ne ce, .int .i64 top] 27)) ∧ Hid (wr.heap[w.heap.size + 1]? = some (Obj.cells #[.slice none 0 0, .slice none 0 0, .int .i64 0] 27)) ∧ Hid (wr.heap[w.heap.size + 1 + 1]? = some (Obj.cells #[.slice q m d, .slice none 0 0, .int .i64 top] 27)) ∧ Hid (GrR RV 40 wr (w.heap.size + 3) (w.heap.size + 3) (g.vs.take i) (.slice q m d)))
  case atStart => exact ⟨0, none, 0, 0, by omega, rfl, ⟨hb0.out, by have := hsz.out; omega⟩, n0.out, n1.out, n2.out, grR_nil _ _ _ _ _⟩
  case round =>
    obtain ⟨i, q, m, d, hig, rfl, hB, m0, m1, m2, hgr⟩ := hrel
    obtain ⟨x0, x1, x2, -⟩ := three_of m0.out
    obtain ⟨z0, z1, z2, fz⟩ := three_of m2.out
    cases gk with
    | succ c =>
      have hil : i < g.vs.length := by have := hlv.out; omega
      have hiz : (i : Int) < (nv : Int) := by omega
      have hiz0 : (0 : Int) ≤ (i : Int) := by omega
      obtain ⟨b, o, rfl, -, hx1⟩ := hxv.out.resolve_left (by intro e; rw [e] at hil; simp at hil)
      obtain ⟨s1, hat, hv1'⟩ := (hx1.on' hB.out.1).at i hil
      obtain ⟨p1, n1', c1, rfl⟩ := hdV hv1'
      obtain ⟨a0, a1, a2⟩ := ats3 hat
      simp only [show RV.n = 3 from rfl] at a0 a1 a2
      have htk : Hid (g.vs.take (i + 1) = g.vs.take i ++ [g.vs[i]]) := by show _ = _; rw [List.take_succ_eq_append_getElem hil]
      have hml : Hid ((g.vs.take i).length = i) := by show _ = _; simp; omega
      have hm : Hid (m = (g.vs.take i).length) := by
        show _ = _
        obtain ⟨_, _, e, _⟩ := hgr.out.form
        injection e
      clear hxv hx1 hat
      generalize g.vs[i] = x at *
      generalize g.vs.take i = L at *
      have bA := Lib.hid (bel1 wr (Obj.cells #[.int .i64 x.id, .string x.lb, .slice p1 n1' c1] 40))
      have nA := Lib.hid (World.alloc_heap_new wr (Obj.cells #[.int .i64 x.id, .string x.lb, .slice p1 n1' c1] 40))
      have hsA : Hid ((wr.alloc (Obj.cells #[.int .i64 x.id, .string x.lb, .slice p1 n1' c1] 40)).heap.size = wr.heap.size + 1) := by show _ = _; simp
      have c117 := rcp83 x.ps _ _ (hv1'.2.2.on bA.out)
      have hbase := Lib.hid (And.intro hv1'.1 hv1'.2.1)
      clear hv1'
      go_wp2_with (fail)
      generalize wr.alloc (Obj.cells #[.int .i64 x.id, .string x.lb, .slice p1 n1' c1] 40) = wA at *
      refine c117.mono ?_
      rintro e w2 ⟨p2, n2', c2, rfl, hS2, hb2⟩
      have nB := blk_on hb2 nA.out
      obtain ⟨y0, y1, y2, fy⟩ := three_of nB
      have kT := Lib.hid (keepT (j := 2) (c := .slice p2 n2' c2) bA.out hb2)
      have nB' := blk_set3c (c' := .slice p2 n2' c2) nB
      have m0' := kT.out _ _ (Nat.zero_le _) m0.out
      have m1' := kT.out _ _ (Nat.zero_le _) m1.out
      have m2' := kT.out _ _ (Nat.zero_le _) m2.out
      have hg3 := hgr.out.keepB kT.out
      have hB3 := bel1s (c := .slice p2 n2' c2) (i := wr.heap.size) (hB.out.1.trans ((bel_then bA.out hb2).mono hB.out.1.size)) (by have := hB.out.2; omega) 2
      have hS3 : Sq RP (w2.setCell ⟨wr.heap.size, 2, none⟩ (.slice p2 n2' c2)) (wr.heap.size + 1) x.ps (.slice p2 n2' c2) := hS2.keep (lo := wA.heap.size) (fun a v ha hc => set_other hc (.inl (by have := hsA.out; show a.block ≠ wr.heap.size; omega))) (by have := hsA.out; omega)
      have hz3 : wr.heap.size + 1 ≤ (w2.setCell ⟨wr.heap.size, 2, none⟩ (.slice p2 n2' c2)).heap.size := by have := hb2.size; have := hsA.out; simp [World.setCell]; omega
      have hob := Lib.hid (fun (b : Nat) (e : (Value.slice q m d).ownBlock = some b) => (hgr.out.lt e).2)
      have m2w := blk_on (bel_then bA.out hb2) m2.out
      obtain ⟨z0', z1', z2', fz'⟩ := three_of m2w
      have hneT : ¬ w.heap.size + 1 + 1 = wr.heap.size := by have := hB.out.2; omega
      have hneT' : ¬ wr.heap.size = w.heap.size + 1 + 1 := by have := hB.out.2; omega
      replace hg3 := Lib.hid hg3
      replace hB3 := Lib.hid hB3
      replace hS3 := Lib.hid hS3
      replace hz3 := Lib.hid hz3
      replace m0' := Lib.hid m0'
      replace m1' := Lib.hid m1'
      replace m2' := Lib.hid m2'
      replace nB' := Lib.hid nB'
      clear z0 z1 z2 fz x0 x1 x2 hS2 hb2 nB m2w
      go_wp2_with (at_builtin; refine wpList_gro len_RV (by decide) 24 40 iv zVx Try.underlying24 hiv hv0 hv1 hv2 rfl _ rfl _ _ rfl (w.heap.size + 3) (w.heap.size + 3) _ L _ x (.slice p2 n2' c2) (cutW (w2.setCell ⟨wr.heap.size, 2, none⟩ (.slice p2 n2' c2)) (wr.heap.size + 1)) rfl (by exact hg3.out.alloc _) rfl (by exact ⟨hbase.out.1, hbase.out.2, hS3.out.keep (cutW_keep _ (wr.heap.size + 1)) (by have := hB.out.2; omega)⟩) (by exact fun a c' hc' => ⟨some_on (bel1 _ _) (cutW_cell hc').2, fun e => by have h1 := hob.out _ e.symm; have h2 := (cutW_cell hc').1; omega⟩) (by exact new_ats' _ (RV.cs x (.slice p2 n2' c2)) 40 (by simp [World.setCell])) (by intro c hc; simp only [RV, List.mem_cons, List.not_mem_nil, or_false] at hc; rcases hc with rfl | rfl | rfl <;> rfl) (by have := hml.out; unfold maxLen; omega) (by have := hml.out; show (L.length + 1) * 48 ≤ _; omega) (by have := hz3.out; have := hB.out.2; rw [World.size_alloc]; omega) ?_; intro g5 cap5 w5 hG5 hgr5 hg5; have HG := Lib.hid (And.intro hG5 (rnd_end (hB3.out.trans ((bel1 _ _).mono hB3.out.size)) (by rw [World.size_alloc]; have := hz3.out; have := hB.out.2; omega) (blk_on (bel1 _ _) m0'.out) (blk_on (bel1 _ _) m1'.out) (blk_on (bel1 _ _) m2'.out) (gro_below (hg3.out.alloc _) hgr5 (Nat.le_refl _) (by rw [World.size_alloc]; have := hz3.out; have := hB.out.2; omega)))); obtain ⟨q0, q1, q2, fq⟩ := three_of HG.out.2.2.2.2; clear hG5 hgr5 hg5)
      go_roundg c
      case measure => omega
      case rel =>
        have r := rnd_put (j := 0) (v := .slice (some ⟨g5, 0, none⟩) (L.length + 1) cap5) HG.out.2
        refine ⟨i + 1, some ⟨g5, 0, none⟩, L.length + 1, cap5, by omega, by first | rfl | simp, r.1, r.2.1, r.2.2, blk_set3a HG.out.2.2.2.2, ?_⟩
        show GrR _ _ _ _ _ _ _
        rw [htk.out]
        exact HG.out.1.put (Nat.le_refl _) (by omega) 0 _
    | zero =>
      obtain rfl : nv = i := by omega
      obtain ⟨wv, rfl⟩ : ∃ v, v = wr := ⟨_, rfl⟩
      have hGV : Hid (GrR RV 40 wv (w.heap.size + 3) (w.heap.size + 3) g.vs (.slice q m d)) := by
        have := hgr.out
        rw [← hlv.out, List.take_length] at this
        exact this
      have hV1 : Hid (Sq RV wv (w.heap.size + 3) g.vs (.slice q m d)) := by
        have := hgr.out
        rw [← hlv.out, List.take_length] at this
        exact this.sq (Nat.le_refl _) (by rw [hlv.out]; exact hvb)
      have hmN : Hid (m = nv) := by
        show _ = _
        obtain ⟨_, _, e, _⟩ := hV1.out
        injection e with _ e2
        rw [e2, hlv.out]
      have hB0 := hB
      clear hgr hxv
      go_wp2
      clear x0 x1 x2 z0 z1 z2 fz
      go_loopg [6, 7] ne (fun c s6 s7 wr => ∃ (i : Nat) (qq : Option Addr) (mm dd : Nat), i + c = ne ∧ s6 = .int .i64 i ∧ Hid (Below w.heap.size w wr ∧ w.heap.size + 3 ≤ wr.heap.size) ∧ Hid (wr.heap[w.heap.size]? = some (Obj.cells #[.slice pv nv cv, .slice pe ne ce, .int .i64 top] 27)) ∧ Hid (wr.heap[w.heap.size + 1]? = some (Obj.cells #[.slice none 0 0, .slice none 0 0, .int .i64 0] 27)) ∧ Hid (wr.heap[w.heap.size + 1 + 1]? = some (Obj.cells #[.slice q m d, .slice qq mm dd, .int .i64 top] 27)) ∧ Hid (GrR RL 46 wr wv.heap.size wv.heap.size (g.es.take i) (.slice qq mm dd)) ∧ Hid (KeepB (w.heap.size + 3) wv wr ∧ wv.heap.size ≤ wr.heap.size))
      case atStart => exact ⟨0, none, 0, 0, by omega, rfl, hB.out, m0.out, m1.out, m2.out, grR_nil _ _ _ _ _, fun _ _ _ h => h, Nat.le_refl _⟩
      case round =>
        clear hB m0 m1 m2
        obtain ⟨i, qq, mm, dd, hig, rfl, hB, m0, m1, m2, hgr, hKp⟩ := hrel
        obtain ⟨x0, x1, x2, -⟩ := three_of m0.out
        obtain ⟨z0, z1, z2, fz⟩ := three_of m2.out
        cases gk with
        | succ c =>
          have hil : i < g.es.length := by have := hle.out; omega
          have hiz : (i : Int) < (ne : Int) := by omega
          have hiz0 : (0 : Int) ≤ (i : Int) := by omega
          obtain ⟨b, o, rfl, -, hx1⟩ := hxe.out.resolve_left (by intro e; rw [e] at hil; simp at hil)
          obtain ⟨s1, hat, he1'⟩ := (hx1.on' hB.out.1).at i hil
          obtain ⟨p1, n1', c1, rfl⟩ := hdL he1'
          obtain ⟨a0, a1, a2, a3, a4⟩ := ats5 hat
          simp only [show RL.n = 5 from rfl] at a0 a1 a2 a3 a4
          have htk : Hid (g.es.take (i + 1) = g.es.take i ++ [g.es[i]]) := by show _ = _; rw [List.take_succ_eq_append_getElem hil]
          have hml : Hid ((g.es.take i).length = i) := by show _ = _; simp; omega
          have hm : Hid (mm = (g.es.take i).length) := by
            show _ = _
            obtain ⟨_, _, e, _⟩ := hgr.out.form
            injection e
          clear hxe hx1 hat
          generalize g.es[i] = x at *
          generalize g.es.take i = L at *
          have bA := Lib.hid (bel1 wr (Obj.cells #[.int .i64 x.id, .string x.lb, .int .i64 x.out, .int .i64 x.inn, .slice p1 n1' c1] 46))
          have nA := Lib.hid (World.alloc_heap_new wr (Obj.cells #[.int .i64 x.id, .string x.lb, .int .i64 x.out, .int .i64 x.inn, .slice p1 n1' c1] 46))
          have hsA : Hid ((wr.alloc (Obj.cells #[.int .i64 x.id, .string x.lb, .int .i64 x.out, .int .i64 x.inn, .slice p1 n1' c1] 46)).heap.size = wr.heap.size + 1) := by show _ = _; simp
          have c117 := rcp83 x.ps _ _ (he1'.2.2.2.2.on bA.out)
          have hbase := Lib.hid (And.intro he1'.1 (And.intro he1'.2.1 (And.intro he1'.2.2.1 he1'.2.2.2.1)))
          clear he1'
          go_wp2_with (fail)
          generalize wr.alloc (Obj.cells #[.int .i64 x.id, .string x.lb, .int .i64 x.out, .int .i64 x.inn, .slice p1 n1' c1] 46) = wA at *
          refine c117.mono ?_
          rintro e w2 ⟨p2, n2', c2, rfl, hS2, hb2⟩
          have nB := blk_on hb2 nA.out
          obtain ⟨y0, y1, y2, y3, y4, fy⟩ := five_of nB
          have kT := Lib.hid (keepT (j := 4) (c := .slice p2 n2' c2) bA.out hb2)
          have nB' := blk_set5e (e' := .slice p2 n2' c2) nB
          have m0' := kT.out _ _ (Nat.zero_le _) m0.out
          have m1' := kT.out _ _ (Nat.zero_le _) m1.out
          have m2' := kT.out _ _ (Nat.zero_le _) m2.out
          have hg3 := hgr.out.keepB kT.out
          have hB3 := bel1s (c := .slice p2 n2' c2) (i := wr.heap.size) (hB.out.1.trans ((bel_then bA.out hb2).mono hB.out.1.size)) (by have := hB.out.2; omega) 4
          have hS3 : Sq RP (w2.setCell ⟨wr.heap.size, 4, none⟩ (.slice p2 n2' c2)) (wr.heap.size + 1) x.ps (.slice p2 n2' c2) := hS2.keep (lo := wA.heap.size) (fun a v ha hc => set_other hc (.inl (by have := hsA.out; show a.block ≠ wr.heap.size; omega))) (by have := hsA.out; omega)
          have hz3 : wr.heap.size + 1 ≤ (w2.setCell ⟨wr.heap.size, 4, none⟩ (.slice p2 n2' c2)).heap.size := by have := hb2.size; have := hsA.out; simp [World.setCell]; omega
          have hob := Lib.hid (fun (b : Nat) (e : (Value.slice qq mm dd).ownBlock = some b) => (hgr.out.lt e).2)
          have m2w := blk_on (bel_then bA.out hb2) m2.out
          obtain ⟨z0', z1', z2', fz'⟩ := three_of m2w
          have hneT : ¬ w.heap.size + 1 + 1 = wr.heap.size := by have := hB.out.2; omega
          have hneT' : ¬ wr.heap.size = w.heap.size + 1 + 1 := by have := hB.out.2; omega
          replace hg3 := Lib.hid hg3
          replace hB3 := Lib.hid hB3
          replace hS3 := Lib.hid hS3
          replace hz3 := Lib.hid hz3
          replace m0' := Lib.hid m0'
          replace m1' := Lib.hid m1'
          replace m2' := Lib.hid m2'
          replace nB' := Lib.hid nB'
          clear z0 z1 z2 fz x0 x1 x2 hS2 hb2 nB m2w
          go_wp2_with (at_builtin; refine wpList_gro len_RL (by decide) 25 46 ie zLk Try.underlying25 hie he0 he1 he2 rfl _ rfl _ _ rfl wv.heap.size wv.heap.size _ L _ x (.slice p2 n2' c2) (cutW (w2.setCell ⟨wr.heap.size, 4, none⟩ (.slice p2 n2' c2)) (wr.heap.size + 1)) rfl (by exact hg3.out.alloc _) rfl (by exact ⟨hbase.out.1, hbase.out.2.1, hbase.out.2.2.1, hbase.out.2.2.2, hS3.out.keep (cutW_keep _ (wr.heap.size + 1)) (by have := hKp.out.2; omega)⟩) (by exact fun a c' hc' => ⟨some_on (bel1 _ _) (cutW_cell hc').2, fun e => by have h1 := hob.out _ e.symm; have h2 := (cutW_cell hc').1; omega⟩) (by exact new_ats' _ (RL.cs x (.slice p2 n2' c2)) 46 (by simp [World.setCell])) (by intro c hc; simp only [RL, List.mem_cons, List.not_mem_nil, or_false] at hc; rcases hc with rfl | rfl | rfl | rfl | rfl <;> rfl) (by have := hml.out; unfold maxLen; omega) (by have := hml.out; show (L.length + 1) * 64 ≤ _; omega) (by have := hz3.out; have := hB.out.2; have := hKp.out.2; rw [World.size_alloc]; omega) ?_; intro g5 cap5 w5 hG5 hgr5 hg5; have HH := Lib.hid (gro_below (hg3.out.alloc _) hgr5 (Nat.le_refl wv.heap.size) (by rw [World.size_alloc]; have := hz3.out; have := hKp.out.2; omega)); have HG := Lib.hid (And.intro hG5 (rnd_end (hB3.out.trans ((bel1 _ _).mono hB3.out.size)) (by rw [World.size_alloc]; have := hz3.out; have := hB.out.2; omega) (blk_on (bel1 _ _) m0'.out) (blk_on (bel1 _ _) m1'.out) (blk_on (bel1 _ _) m2'.out) (HH.out.mono (by have := hB0.out.2; omega)))); obtain ⟨q0, q1, q2, fq⟩ := three_of HG.out.2.2.2.2; clear hG5 hgr5 hg5)
          go_roundg c
          case measure => omega
          case rel =>
            have r := rnd_put (j := 1) (v := .slice (some ⟨g5, 0, none⟩) (L.length + 1) cap5) HG.out.2
            have hK6 : KeepB (w.heap.size + 3) wv (w5.setCell ⟨w.heap.size + 1 + 1, 1, none⟩ (.slice (some ⟨g5, 0, none⟩) (L.length + 1) cap5)) := fun g o hg e => blk_oth ((HH.out.block g (Array.getElem?_eq_some_iff.1 e).1).trans (blk_on (bel1 _ _) (kT.out g o (Nat.zero_le _) (hKp.out.1 g o hg e)))) (by omega)
            refine ⟨i + 1, some ⟨g5, 0, none⟩, L.length + 1, cap5, by omega, by first | rfl | simp, r.1, r.2.1, r.2.2, blk_set3b HG.out.2.2.2.2, ?_, hK6, by have := HH.out.size; have := hz3.out; have := hKp.out.2; rw [World.size_alloc] at *; simp only [World.setCell, Array.size_modify] at *; omega⟩
            show GrR _ _ _ _ _ _ _
            rw [htk.out]
            exact HG.out.1.put (Nat.le_refl _) (by have := hB0.out.2; omega) 1 _
        | zero =>
          obtain rfl : ne = i := by omega
          have hE1 : Hid (Sq RL wr (w.heap.size + 3) g.es (.slice qq mm dd)) := by
            have := hgr.out
            rw [← hle.out, List.take_length] at this
            exact (this.sq (Nat.le_refl _) (by rw [hle.out]; exact heb)).low (by have := hB0.out.2; omega)
          have hmE : Hid (mm = ne) := by
            show _ = _
            obtain ⟨_, _, e, _⟩ := hE1.out
            injection e with _ e2
            rw [e2, hle.out]
          have hV2 : Hid (Sq RV wr (w.heap.size + 3) g.vs (.slice q m d)) := hV1.out.keep hKp.out.1.keep (Nat.le_refl _)
          obtain ⟨q0, q1, q2, fq⟩ := three_of m1.out
          have hbf : Below w.heap.size w (((wr.setCell ⟨w.heap.size + 1, 0, none⟩ (.slice q m d)).setCell ⟨w.heap.size + 1, 1, none⟩ (.slice qq mm dd)).setCell ⟨w.heap.size + 1, 2, none⟩ (.int .i64 top)) := bel1s (bel1s (bel1s hB.out.1 (by omega) 0) (by omega) 1) (by omega) 2
          have kf : KeepB (w.heap.size + 3) wr (((wr.setCell ⟨w.heap.size + 1, 0, none⟩ (.slice q m d)).setCell ⟨w.heap.size + 1, 1, none⟩ (.slice qq mm dd)).setCell ⟨w.heap.size + 1, 2, none⟩ (.int .i64 top)) := ((keepB_set (by omega)).trans (keepB_set (by omega))).trans (keepB_set (by omega))
          have hfin : Gg.In (((wr.setCell ⟨w.heap.size + 1, 0, none⟩ (.slice q m d)).setCell ⟨w.heap.size + 1, 1, none⟩ (.slice qq mm dd)).setCell ⟨w.heap.size + 1, 2, none⟩ (.int .i64 top)) w.heap.size g (.slice q m d) (.slice qq mm dd) := ⟨by rw [htop.out]; exact hl64, hV2.out.keep kf.keep (by omega), hE1.out.keep kf.keep (by omega)⟩
          have hgE : GrR RL 46 wr wv.heap.size wv.heap.size g.es (.slice qq mm dd) := by
            have := hgr.out
            rwa [← hle.out, List.take_length] at this
          have hBv : w.heap.size + 1 < wv.heap.size := by have := hB0.out.2; omega
          have hgw : GwGr g (((wr.setCell ⟨w.heap.size + 1, 0, none⟩ (.slice q m d)).setCell ⟨w.heap.size + 1, 1, none⟩ (.slice qq mm dd)).setCell ⟨w.heap.size + 1, 2, none⟩ (.int .i64 top)) (w.heap.size + 3) (.slice q m d) (.slice qq mm dd) := ⟨wv, hB0.out.2, hKp.out.1.trans kf, by have := hKp.out.2; simp only [World.setCell, Array.size_modify]; exact this, hGV.out, ((hgE.put (Nat.le_refl _) hBv 0 _).put (Nat.le_refl _) hBv 1 _).put (Nat.le_refl _) hBv 2 _⟩
          replace hgw := Lib.hid hgw
          replace hbf := Lib.hid hbf
          replace hfin := Lib.hid hfin
          clear hgr kf hV1 hV2 hE1 hgE hGV
          go_wp2
          have hbf' := hbf.out
          have hfin' := hfin.out
          have hgw' := hgw.out
          simp [bodyPost, results, Try.results56, go_sem, q0, q1, q2]
          exact ⟨_, _, ⟨by rw [hmN.out], by rw [hmE.out]⟩, hfin', hbf', hgw'⟩
end Go.Proofs.Yteknbploiombiaa
