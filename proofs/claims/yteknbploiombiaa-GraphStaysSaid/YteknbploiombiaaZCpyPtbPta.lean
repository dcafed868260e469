/-
  'copy' of elements of several cells into a row of one's own, as laws of the walk: no walk.
  What putBetween of package graph does.
  What putBetween of package graph does: its walk.
-/
import Derived.Test.YteknbploiombiaaZGroGrw
import Derived.Laws.CopyOwn
import Derived.Deep.RegionLaw
import Derived.Test.YteknbploiombiaaZEls
namespace Go.Proofs.Yteknbploiombiaa
open Go.RowKit
set_option linter.unusedVariables false

theorem run_copyS {P : Program} (w : World) (dT sT ty elem : TypeId) (g o dLen dCap : Nat) (a : Addr) (sLen sCap : Nat) (cur : Array Value) (t : TypeId) (cs : List Value) (S : Nat)
    (hu : P.underlying dT = some (.slice elem)) (hs : (P.info? elem).map (·.size) = some S)
    (hg : w.heap[g]? = some (.cells cur t (0, 0))) (hn : cs.length = Nat.min sLen dLen * S)
    (hsrc : ∀ j v, cs[j]? = some v → w.cell? (a.add j) = some v) (hfit : o + cs.length ≤ cur.size) (h1 : ∀ v ∈ cs, v.oneCell' = true) :
    (Builtin.copy_ #[dT, sT] ty #[.slice (some ⟨g, o, none⟩) dLen dCap, .slice (some a) sLen sCap]).run P w =
      .ok (goInt (Nat.min sLen dLen)) (w.setRow g (cur.toList.take o ++ cs ++ cur.toList.drop (o + cs.length)).toArray) := by
  have hl := run_loadCells_list (P := P) w a cs hsrc
  have hst := run_storeCells_at P g o t cs 0 cur w hg (by simpa using hfit) h1
  cases hq : P.info? elem with
  | none => simp [hq] at hs
  | some i =>
    have hi : i.size = S := by simpa [hq] using hs
    simp [Builtin.copy_, run_underlying hu, Builtin.lenOf, Builtin.firstCells, sizeOf, typeInfo, hq, hi, ← hn, hl, hst]
theorem run_copyS0 {P : Program} (w : World) (dT sT ty elem : TypeId) (dp sp : Option Addr) (dLen dCap sLen sCap : Nat) (S : Nat)
    (hu : P.underlying dT = some (.slice elem)) (hs : (P.info? elem).map (·.size) = some S) (hn : Nat.min sLen dLen = 0) :
    (Builtin.copy_ #[dT, sT] ty #[.slice dp dLen dCap, .slice sp sLen sCap]).run P w = .ok (goInt 0) w := by
  cases hq : P.info? elem with
  | none => simp [hq] at hs
  | some i =>
    cases dp <;> cases sp <;> simp [Builtin.copy_, run_underlying hu, Builtin.lenOf, Builtin.firstCells, sizeOf, typeInfo, hq, hn, loadCells, loadCellsFrom, storeCells]
/-- What a copy leaves. -/
def CopyC (w w' : World) (g off : Nat) (t : TypeId) (N : Nat) (cs : List Value) : Prop :=
  Rowt w' g t N ∧ (∀ j v, cs[j]? = some v → w'.cell? ⟨g, off + j, none⟩ = some v) ∧ (∀ a v, (a.block ≠ g ∨ a.off < off ∨ off + cs.length ≤ a.off) → w.cell? a = some v → w'.cell? a = some v) ∧ w'.heap.size = w.heap.size
theorem copyC_nil {w : World} {g off N : Nat} {t : TypeId} (h : Rowt w g t N) : CopyC w w g off t N [] := ⟨h, fun j v e => by simp at e, fun a v _ h => h, rfl⟩
theorem copyC_row {w : World} {g off N : Nat} {t : TypeId} {cur : Array Value} {cs : List Value} (hg : w.heap[g]? = some (.cells cur t (0, 0))) (hN : cur.size = N) (hfit : off + cs.length ≤ cur.size) :
    CopyC w (w.setRow g (cur.toList.take off ++ cs ++ cur.toList.drop (off + cs.length)).toArray) g off t N cs := by
  have e := setRow_heap w g cur (cur.toList.take off ++ cs ++ cur.toList.drop (off + cs.length)).toArray t (0, 0) hg
  have hl : (cur.toList.take off).length = off := by rw [List.length_take, Array.length_toList]; omega
  refine ⟨⟨_, e, ?_⟩, fun j v hj => ?_, fun a v ha hc => ?_, by simp⟩
  · simp only [List.size_toArray, List.length_append, hl, List.length_drop, Array.length_toList]; omega
  · have hjl := (List.getElem?_eq_some_iff.1 hj).1
    simp only [World.cell?, e]
    rw [List.getElem?_toArray, List.append_assoc, List.getElem?_append_right (by rw [hl]; omega), hl, show off + j - off = j by omega, List.getElem?_append_left hjl]
    exact hj
  · by_cases hb : a.block = g
    · have ho := ha.resolve_left (fun h => h hb)
      simp only [World.cell?, hb, hg] at hc
      simp only [World.cell?, hb, e]
      rw [List.getElem?_toArray]
      rw [← Array.getElem?_toList] at hc
      rcases ho with ho | ho
      · rw [List.append_assoc, List.getElem?_append_left (by rw [hl]; omega), List.getElem?_take_of_lt ho]
        exact hc
      · rw [List.getElem?_append_right (by rw [List.length_append, hl]; omega), List.getElem?_drop, List.length_append, hl, show off + cs.length + (a.off - (off + cs.length)) = a.off by omega]
        exact hc
    · rw [cell_setRow_other w g _ a hb]; exact hc
theorem wpList_copyC {P : Program} {w : World} {ops : Array Oper} {rest : List Oper} {o : Oper} {a : Act} {Q : Exit → Act → World → Prop} (hgd : o.guard = none) (d s : Operand) (dT sT : TypeId)
    (ho : o.op = .call { callee := .builtin .copy, args := #[d, s], argTypes := #[dT, sT] }) (elem : TypeId) (S : Nat) (hu : P.underlying dT = some (.slice elem)) (hsz : (P.info? elem).map (·.size) = some S)
    (dp sp : Option Addr) (dLen dCap sLen sCap : Nat) (hd : a.eval d = .slice dp dLen dCap) (hs : a.eval s = .slice sp sLen sCap)
    (g off N : Nat) (t : TypeId) (hg : Rowt w g t N) (cs : List Value) (hn : cs.length = Nat.min sLen dLen * S)
    (hpos : 0 < Nat.min sLen dLen → dp = some ⟨g, off, none⟩ ∧ ∃ ad, sp = some ad ∧ ∀ j v, cs[j]? = some v → w.cell? (ad.add j) = some v)
    (hfit : off + cs.length ≤ N) (h1 : ∀ v ∈ cs, v.oneCell' = true) (B : Nat) (w0 : World) (hb : Below B w0 w) (hBg : B ≤ g)
    (h : ∀ w', Hid (CopyC w w' g off t N cs) → Below B w0 w' → wpList P ops Q rest (a.put o.dst (goInt (Nat.min sLen dLen))) w') :
    wpList P ops Q (o :: rest) a w := by
  refine wpList_plain hgd fun K hK => ?_
  by_cases h0 : Nat.min sLen dLen = 0
  · obtain rfl : cs = [] := List.eq_nil_of_length_eq_zero (by rw [hn, h0, Nat.zero_mul])
    have hrun := run_copyS0 (P := P) w dT sT o.type elem dp sp dLen dCap sLen sCap S hu hsz h0
    unfold Oper.wp
    simp [execOp, ho, resolve, invoke, builtin, hd, hs, hrun, Result.andThen]
    have := h w (show CopyC _ _ _ _ _ _ _ from copyC_nil hg) hb
    rw [h0] at this
    exact hK _ _ this
  · obtain ⟨rfl, ad, rfl, hsrc⟩ := hpos (by omega)
    obtain ⟨cur, hcur, hN⟩ := hg
    have hrun := run_copyS (P := P) w dT sT o.type elem g off dLen dCap ad sLen sCap cur t cs S hu hsz hcur hn hsrc (by omega) h1
    have hx := h _ (show CopyC _ _ _ _ _ _ _ from copyC_row hcur hN (by omega)) (below_setRow hb hBg _)
    generalize Nat.min sLen dLen = m at *
    unfold Oper.wp
    simp only [execOp, ho, resolve, invoke, builtin]
    simp [hd, hs, hrun, Result.andThen]
    exact hK _ _ (by simpa using hx)
theorem step_copyC {P : Program} {ops : Array Oper} {o : Oper} {a : Act} {w : World} {K : Act → World → Prop} {Q : Exit → Act → World → Prop} {E : Prop} (hgd : o.guard = none) (d s : Operand) (dT sT : TypeId)
    (ho : o.op = .call { callee := .builtin .copy, args := #[d, s], argTypes := #[dT, sT] }) (elem : TypeId) (S : Nat) (hu : P.underlying dT = some (.slice elem)) (hsz : (P.info? elem).map (·.size) = some S)
    (dp sp : Option Addr) (dLen dCap sLen sCap : Nat) (hd : a.eval d = .slice dp dLen dCap) (hs : a.eval s = .slice sp sLen sCap)
    (g off N : Nat) (t : TypeId) (hg : Rowt w g t N) (cs : List Value) (hn : cs.length = Nat.min sLen dLen * S)
    (hpos : 0 < Nat.min sLen dLen → dp = some ⟨g, off, none⟩ ∧ ∃ ad, sp = some ad ∧ ∀ j v, cs[j]? = some v → w.cell? (ad.add j) = some v)
    (hfit : off + cs.length ≤ N) (h1 : ∀ v ∈ cs, v.oneCell' = true) (B : Nat) (w0 : World) (hb : Below B w0 w) (hBg : B ≤ g)
    (h : ∀ w', Hid (CopyC w w' g off t N cs) → Below B w0 w' → K (a.put o.dst (goInt (Nat.min sLen dLen))) w') :
    if Region.wanted o (yielded ops a.tmps) = true then Oper.wp P o a w K Q else E := by
  have hw : Region.wanted o (yielded ops a.tmps) = true := by simp [Region.wanted, hgd]
  rw [if_pos hw]
  by_cases h0 : Nat.min sLen dLen = 0
  · obtain rfl : cs = [] := List.eq_nil_of_length_eq_zero (by rw [hn, h0, Nat.zero_mul])
    have hrun := run_copyS0 (P := P) w dT sT o.type elem dp sp dLen dCap sLen sCap S hu hsz h0
    unfold Oper.wp
    simp [execOp, ho, resolve, invoke, builtin, hd, hs, hrun, Result.andThen]
    have := h w (show CopyC _ _ _ _ _ _ _ from copyC_nil hg) hb
    rw [h0] at this
    exact this
  · obtain ⟨rfl, ad, rfl, hsrc⟩ := hpos (by omega)
    obtain ⟨cur, hcur, hN⟩ := hg
    have hrun := run_copyS (P := P) w dT sT o.type elem g off dLen dCap ad sLen sCap cur t cs S hu hsz hcur hn hsrc (by omega) h1
    have hx := h _ (show CopyC _ _ _ _ _ _ _ from copyC_row hcur hN (by omega)) (below_setRow hb hBg _)
    generalize Nat.min sLen dLen = m at *
    unfold Oper.wp
    simp only [execOp, ho, resolve, invoke, builtin]
    simp [hd, hs, hrun, Result.andThen, Oper.upon]
    simpa using hx
end Go.Proofs.Yteknbploiombiaa
namespace Go.Proofs.Yteknbploiombiaa
open Go.RowKit
set_option linter.unusedVariables false      -- a walk need not use every condition

/-- The cells of a row of m cells as they lie. -/
def cellsAt (w : World) (b o m : Nat) : List Value := (List.range m).map fun j => (w.cell? ⟨b, o + j, none⟩).getD undef
theorem len_cellsAt (w : World) (b o m : Nat) : (cellsAt w b o m).length = m := by simp [cellsAt]
theorem get_cellsAt {w : World} {b o m j : Nat} (h : j < m) : (cellsAt w b o m)[j]? = some ((w.cell? ⟨b, o + j, none⟩).getD undef) := by
  unfold cellsAt
  rw [List.getElem?_map, List.getElem?_range h]
  rfl
/-- A row's cells, each there and one cell. -/
def Cl1 (w : World) (b o m : Nat) : Prop := ∀ j, j < m → ∃ v, w.cell? ⟨b, o + j, none⟩ = some v ∧ v.oneCell' = true
theorem Cl1.of {l : List Pr} {w : World} {lo b : Nat} {o : Nat} (h : Lq RP w lo l b o) : Cl1 w b o (l.length * 5) := fun j hj => by
  have hi : j / 5 < l.length := by omega
  obtain ⟨sl, hat, hv⟩ := h.at (j / 5) hi
  obtain ⟨p, n, c, rfl⟩ := hdP hv
  have hr : j % 5 < 5 := Nat.mod_lt _ (by omega)
  obtain ⟨a0, a1, a2, a3, a4⟩ := ats5 hat
  simp only [show RP.n = 5 from rfl] at a0 a1 a2 a3 a4
  have hd := Nat.div_add_mod j 5
  rcases (by omega : j % 5 = 0 ∨ j % 5 = 1 ∨ j % 5 = 2 ∨ j % 5 = 3 ∨ j % 5 = 4) with e | e | e | e | e
  · exact ⟨_, by rw [show o + j = o + j / 5 * 5 by omega]; exact a0, rfl⟩
  · exact ⟨_, by rw [show o + j = o + j / 5 * 5 + 1 by omega]; exact a1, rfl⟩
  · exact ⟨_, by rw [show o + j = o + j / 5 * 5 + 2 by omega]; exact a2, rfl⟩
  · exact ⟨_, by rw [show o + j = o + j / 5 * 5 + 3 by omega]; exact a3, rfl⟩
  · exact ⟨_, by rw [show o + j = o + j / 5 * 5 + 4 by omega]; exact a4, rfl⟩
theorem cellsAt_src {w : World} {b o m : Nat} (h : Cl1 w b o m) : (∀ j v, (cellsAt w b o m)[j]? = some v → w.cell? ((⟨b, o, none⟩ : Addr).add j) = some v) ∧ ∀ v ∈ cellsAt w b o m, v.oneCell' = true := by
  have key : ∀ j v, (cellsAt w b o m)[j]? = some v → w.cell? ⟨b, o + j, none⟩ = some v ∧ v.oneCell' = true := fun j v e => by
    have hl := (List.getElem?_eq_some_iff.1 e).1
    rw [len_cellsAt] at hl
    rw [get_cellsAt hl] at e
    obtain ⟨u, hu, h1⟩ := h j hl
    rw [hu] at e
    injection e with e
    exact ⟨by rw [← e]; exact hu, by rw [← e]; exact h1⟩
  refine ⟨fun j v e => ?_, fun v hv => ?_⟩
  · rw [Go.WideShapes.add_plain]; exact (key j v e).1
  · obtain ⟨j, hj, rfl⟩ := List.getElem_of_mem hv
    exact (key j _ (List.getElem?_eq_getElem hj)).2
/-- The row behind both copies and the store. -/
theorem put_lq {l : List Pr} {x : Pr} {sx : Value} {k b o g lo N : Nat} {w W W2 W3 W5 : World} (hk : k ≤ l.length) (hl : Lq RP W lo l b o ∨ l = []) (hx : RP.In W lo x sx) (hb5 : Below W.heap.size W W5) (hN : N = (l.length + 1) * 5)
    (h3 : CopyC W2 W3 g 0 84 N (cellsAt W b o (k * 5))) (h5 : CopyC (putL W3 g (k * 5) (RP.cs x sx)) W5 g ((k + 1) * 5) 84 N (cellsAt W b (o + k * 5) ((l.length - k) * 5))) (hlo : lo ≤ W.heap.size) (hbl : l = [] ∨ lo ≤ b) :
    Lq RP W5 lo (l.take k ++ x :: l.drop k) g 0 := by
  refine Lq.of_at fun i hi => ?_
  have hlen : (l.take k).length = k := by rw [List.length_take]; omega
  have hin : ∀ {y : Pr} {sl : Value}, RP.In W lo y sl → RP.In W5 lo y sl := fun h => RP.on hb5 h
  rw [List.length_append, hlen, List.length_cons, List.length_drop] at hi
  by_cases h1 : i < k
  · have hil : i < l.length := by omega
    obtain ⟨sl, hat, hv⟩ := (hl.resolve_right (by rintro rfl; simp at hil)).at i hil
    have e : (l.take k ++ x :: l.drop k)[i]'(by simp; omega) = l[i] := by
      rw [List.getElem_append_left (by omega), List.getElem_take]
    refine ⟨sl, fun j c hj => ?_, by rw [e]; exact hin hv⟩
    rw [e] at hj
    have hjl := (List.getElem?_eq_some_iff.1 hj).1
    rw [len_RP] at hjl
    have hjl : j < 5 := hjl
    have hc := hat j c hj
    have hc : W.cell? ⟨b, o + i * 5 + j, none⟩ = some c := hc
    have hm : i * 5 + j < k * 5 := by omega
    have s1 := h3.2.1 (i * 5 + j) c (by rw [get_cellsAt hm, show o + (i * 5 + j) = o + i * 5 + j by omega, hc]; rfl)
    have s2 := putL_other (l := RP.cs x sx) (i := k * 5) (g := g) s1 (.inr (.inl (by show 0 + (i * 5 + j) < k * 5; omega)))
    have s3 := h5.2.2.1 _ _ (.inr (.inl (by show 0 + (i * 5 + j) < (k + 1) * 5; omega))) s2
    show W5.cell? ⟨g, 0 + i * 5 + j, none⟩ = some c
    rw [show 0 + i * 5 + j = 0 + (i * 5 + j) by omega]
    exact s3
  · by_cases h2 : i = k
    · have e : (l.take k ++ x :: l.drop k)[i]'(by simp; omega) = x := by
        rw [List.getElem_append_right (by omega)]
        simp [hlen, h2]
      refine ⟨sx, fun j c hj => ?_, by rw [e]; exact hin hx⟩
      rw [e] at hj
      have hjl := (List.getElem?_eq_some_iff.1 hj).1
      rw [len_RP] at hjl
      have hjl : j < 5 := hjl
      have s2 := putL_ats (l := RP.cs x sx) (i := k * 5) h3.1 (by rw [len_RP]; show k * 5 + 5 ≤ N; omega) j c hj
      have s3 := h5.2.2.1 _ _ (.inr (.inl (by show k * 5 + j < (k + 1) * 5; omega))) s2
      show W5.cell? ⟨g, 0 + i * 5 + j, none⟩ = some c
      rw [h2, Nat.zero_add]
      exact s3
    · have hil : i - 1 < l.length := by omega
      obtain ⟨sl, hat, hv⟩ := (hl.resolve_right (by rintro rfl; simp at hil)).at (i - 1) hil
      have e : (l.take k ++ x :: l.drop k)[i]'(by simp; omega) = l[i - 1] := by
        rw [List.getElem_append_right (by omega)]
        simp only [hlen]
        obtain ⟨d, hd⟩ : ∃ d, i - k = d + 1 := ⟨i - k - 1, by omega⟩
        simp only [hd, List.getElem_cons_succ, List.getElem_drop]
        congr 1
        omega
      refine ⟨sl, fun j c hj => ?_, by rw [e]; exact hin hv⟩
      rw [e] at hj
      have hjl := (List.getElem?_eq_some_iff.1 hj).1
      rw [len_RP] at hjl
      have hjl : j < 5 := hjl
      have hc : W.cell? ⟨b, o + (i - 1) * 5 + j, none⟩ = some c := hat j c hj
      have hm : (i - 1 - k) * 5 + j < (l.length - k) * 5 := by
        have : (i - 1 - k) + 1 ≤ l.length - k := by omega
        omega
      have s3 := h5.2.1 ((i - 1 - k) * 5 + j) c (by rw [get_cellsAt hm, show o + k * 5 + ((i - 1 - k) * 5 + j) = o + (i - 1) * 5 + j by omega, hc]; rfl)
      show W5.cell? ⟨g, 0 + i * 5 + j, none⟩ = some c
      rw [show 0 + i * 5 + j = (k + 1) * 5 + ((i - 1 - k) * 5 + j) by omega]
      exact s3
end Go.Proofs.Yteknbploiombiaa
namespace Go.Proofs.Yteknbploiombiaa
open Go.RowKit
set_option linter.unusedVariables false      -- a walk need not use every condition

theorem size99 : (Try.prog.info? 84).map (·.size) = some 5 := by kernel_rfl
theorem make39' (N : Nat) (h : N ≤ 16) : ∃ cur : Array Value, cur.size = (N + 1) * 5 ∧ ∀ W : World,
    (Instr.makeSlice 38 (.int .i64 ((N : Int) + 1)) (.int .i64 ((N : Int) + 1))).run Try.prog W = .ok (.slice (some ⟨W.heap.size, 0, none⟩) (N + 1) (N + 1)) (W.alloc (.cells cur 84)) := by
  obtain ⟨cur, h1, h2⟩ := make39 (N + 1) (by omega)
  exact ⟨cur, h1, fun W => by simpa using h2 W⟩
theorem ptb_sq {L : List Pr} {N g lo : Nat} {w5 : World} (hL : L.length = N + 1) (h16 : N ≤ 16) (hlo : lo ≤ g) (h : Lq RP w5 lo L g 0) : Sq RP w5 lo L (.slice (some ⟨g, 0, none⟩) (N + 1) (N + 1)) :=
  ⟨_, N + 1, by rw [hL], by omega, by unfold maxLen; omega, by rw [hL]; show (N + 1) * 72 ≤ _; omega, .inr ⟨g, 0, rfl, hlo, h⟩⟩
theorem wrap_k {k : Nat} (h : k ≤ 16) : IntKind.i64.wrap ((k : Int) + 1) = ((k + 1 : Nat) : Int) := by
  have : IntKind.i64.wrap ((k : Int) + 1) = (k : Int) + 1 := by rw [IntKind.wrap_i64]; omega
  omega
set_option maxRecDepth 100000 in
set_option maxHeartbeats 4000000 in
theorem put82_cons (l : List Pr) (b k lo : Nat) (x : Pr) (p : Option Addr) (n c : Nat) (w : World) (hl : Lq RP w lo l b 0) (hne : 0 < l.length) (hk : k ≤ l.length) (h16 : l.length ≤ 16) (hx : RP.In w lo x (.slice p n c)) (hlo : lo ≤ w.heap.size) (hbl : lo ≤ b) :
    Calls Try.prog 44 #[.slice (some ⟨b, 0, none⟩) l.length l.length, .int .i64 k, x.agg (.slice p n c)] w fun e w' => ∃ g, e = .returned (.slice (some ⟨g, 0, none⟩) (l.length + 1) (l.length + 1)) ∧
      Sq RP w' lo (l.take k ++ x :: l.drop k) (.slice (some ⟨g, 0, none⟩) (l.length + 1) (l.length + 1)) ∧ Below w.heap.size w w' := by
  have hC := Lib.hid (Cl1.of hl)
  have hl := Lib.hid hl
  have hx := Lib.hid hx
  obtain ⟨N, hN⟩ : ∃ N, l.length = N := ⟨_, rfl⟩
  rw [hN] at hk h16 hne hC ⊢
  have hlen := Lib.hid hN
  clear hN
  obtain ⟨cur, hcur, hmk⟩ := make39' N h16
  have hkz : (k : Int) ≤ (N : Int) := by omega
  have hkz0 : (0 : Int) ≤ (k : Int) := by omega
  have h16z : (N : Int) ≤ 16 := by omega
  unfold Pr.agg
  go_enter Try.func44, Try.ntmps44
  have e0 := World.alloc_heap_new w (Obj.cells #[.string x.nm, .int .i64 x.v.k, .int .i64 x.v.n, .string x.v.s, .slice p n c] 84)
  replace e0 := Lib.hid (blk_on (bel1 _ (Obj.cells cur 84)) e0)
  have hR2 : Hid (Rowt ((w.alloc (Obj.cells #[.string x.nm, .int .i64 x.v.k, .int .i64 x.v.n, .string x.v.s, .slice p n c] 84)).alloc (Obj.cells cur 84)) (w.heap.size + 1) 84 ((N + 1) * 5)) := by
    have := Rowt.new (w.alloc (Obj.cells #[.string x.nm, .int .i64 x.v.k, .int .i64 x.v.n, .string x.v.s, .slice p n c] 84)) cur 84
    rw [World.size_alloc, hcur] at this
    exact this
  have hbW := Lib.hid (bel2 w (Obj.cells #[.string x.nm, .int .i64 x.v.k, .int .i64 x.v.n, .string x.v.s, .slice p n c] 84) (Obj.cells cur 84))
  have hs1 := Lib.hid (cellsAt_src (w := w) (b := b) (o := 0) (m := k * 5) fun j hj => hC.out j (by omega))
  have hs2 := Lib.hid (cellsAt_src (w := w) (b := b) (o := 0 + k * 5) (m := (N - k) * 5) fun j hj => by have := hC.out (k * 5 + j) (by omega); rwa [← Nat.add_assoc] at this)
  have hl1 := Lib.hid (len_cellsAt w b 0 (k * 5))
  have hl2 := Lib.hid (len_cellsAt w b (0 + k * 5) ((N - k) * 5))
  obtain ⟨C1, hC1⟩ : ∃ C, cellsAt w b 0 (k * 5) = C := ⟨_, rfl⟩
  obtain ⟨C2, hC2⟩ : ∃ C, cellsAt w b (0 + k * 5) ((N - k) * 5) = C := ⟨_, rfl⟩
  rw [hC1] at hs1 hl1
  rw [hC2] at hs2 hl2
  have hC1 := Lib.hid hC1
  have hC2 := Lib.hid hC2
  go_wp2_with ((with_reducible show wpList _ _ _ (Oper.mk _ (Op.call _) _ _ _ _ :: _) _ _); (refine wpList_copyC rfl _ _ 38 38 rfl 84 5 Try.underlying38 size99 _ _ _ _ _ _ rfl rfl (w.heap.size + 1) 0 ((N + 1) * 5) 84 hR2.out C1 (by rw [hl1.out, show Nat.min k (N + 1) = k from Nat.min_eq_left (by omega)]) (fun _ => ⟨rfl, ⟨b, 0, none⟩, rfl, fun j v h => some_on hbW.out (hs1.out.1 j v h)⟩) (by rw [hl1.out]; omega) hs1.out.2 w.heap.size w hbW.out (by omega) ?_; intro w3 h3 hb3; obtain ⟨x0, x1, x2, x3, x4, fx⟩ := five_of e0.out; replace x0 := h3.out.2.2.1 _ _ (.inl (by show w.heap.size ≠ w.heap.size + 1; omega)) x0; replace x1 := h3.out.2.2.1 _ _ (.inl (by show w.heap.size ≠ w.heap.size + 1; omega)) x1; replace x2 := h3.out.2.2.1 _ _ (.inl (by show w.heap.size ≠ w.heap.size + 1; omega)) x2; replace x3 := h3.out.2.2.1 _ _ (.inl (by show w.heap.size ≠ w.heap.size + 1; omega)) x3; replace x4 := h3.out.2.2.1 _ _ (.inl (by show w.heap.size ≠ w.heap.size + 1; omega)) x4; clear fx; obtain ⟨z0, q0⟩ := h3.out.1.cell (k * 5) (by omega); have f0 := h3.out.1.frozen (k * 5); obtain ⟨z1, q1⟩ := h3.out.1.cell (k * 5 + 1) (by omega); have f1 := h3.out.1.frozen (k * 5 + 1); obtain ⟨z2, q2⟩ := h3.out.1.cell (k * 5 + 2) (by omega); have f2 := h3.out.1.frozen (k * 5 + 2); obtain ⟨z3, q3⟩ := h3.out.1.cell (k * 5 + 3) (by omega); have f3 := h3.out.1.frozen (k * 5 + 3); obtain ⟨z4, q4⟩ := h3.out.1.cell (k * 5 + 4) (by omega); have f4 := h3.out.1.frozen (k * 5 + 4)))
  have hW4 : Hid (putL w3 (w.heap.size + 1) (k * 5) (RP.cs x (.slice p n c)) = (((((w3.setCell ⟨w.heap.size + 1, k * 5, none⟩ (.string x.nm)).setCell ⟨w.heap.size + 1, k * 5 + 1, none⟩ (.int .i64 x.v.k)).setCell ⟨w.heap.size + 1, k * 5 + 2, none⟩ (.int .i64 x.v.n)).setCell ⟨w.heap.size + 1, k * 5 + 3, none⟩ (.string x.v.s)).setCell ⟨w.heap.size + 1, k * 5 + 4, none⟩ (.slice p n c))) := rfl
  have hR4 : Rowt (putL w3 (w.heap.size + 1) (k * 5) (RP.cs x (.slice p n c))) (w.heap.size + 1) 84 ((N + 1) * 5) := h3.out.1.putL
  have hb4 : Below w.heap.size w (putL w3 (w.heap.size + 1) (k * 5) (RP.cs x (.slice p n c))) := hb3.trans (putL_below (by omega))
  rw [hW4.out] at hR4 hb4
  generalize (((((w3.setCell ⟨w.heap.size + 1, k * 5, none⟩ (.string x.nm)).setCell ⟨w.heap.size + 1, k * 5 + 1, none⟩ (.int .i64 x.v.k)).setCell ⟨w.heap.size + 1, k * 5 + 2, none⟩ (.int .i64 x.v.n)).setCell ⟨w.heap.size + 1, k * 5 + 3, none⟩ (.string x.v.s)).setCell ⟨w.heap.size + 1, k * 5 + 4, none⟩ (.slice p n c)) = W4 at *
  have hR4 := Lib.hid hR4
  have hb4 := Lib.hid hb4
  clear x0 x1 x2 x3 x4 q0 q1 q2 q3 q4 f0 f1 f2 f3 f4
  have kT : Hid ((IntKind.i64.wrap ((k : Int) + 1)).toNat = k + 1) := by show _ = _; rw [wrap_k (by omega)]; simp
  have k1a : (0 : Int) ≤ IntKind.i64.wrap ((k : Int) + 1) := by rw [wrap_k (by omega)]; omega
  have k1b : IntKind.i64.wrap ((k : Int) + 1) ≤ (N : Int) + 1 := by rw [wrap_k (by omega)]; omega
  have fin := Lib.hid (fun W5 (h5 : CopyC W4 W5 (w.heap.size + 1) ((IntKind.i64.wrap ((k : Int) + 1)).toNat * 5) 84 ((N + 1) * 5) C2) (h5b : Below w.heap.size w W5) => put_lq (l := l) (x := x) (sx := .slice p n c) (k := k) (b := b) (o := 0) (g := w.heap.size + 1) (lo := lo) (N := (N + 1) * 5) (w := w) (W := w) (W2 := ((w.alloc (Obj.cells #[.string x.nm, .int .i64 x.v.k, .int .i64 x.v.n, .string x.v.s, .slice p n c] 84)).alloc (Obj.cells cur 84))) (W3 := w3) (W5 := W5) (by rw [hlen.out]; exact hk) (.inl hl.out) hx.out h5b (by rw [hlen.out]) (by rw [hC1.out]; exact h3.out) (by rw [hW4.out, hlen.out, hC2.out, ← kT.out]; exact h5) hlo (.inr hbl))
  clear h3 hb3 hW4 hl hx hC hC1 hC2 hs1 hl1 hbW hR2 e0 hmk
  have hb4' : Hid (Below w.heap.size w W4.drew) := hb4.out.trans ((Below.refl _ W4).drew.mono hb4.out.size)
  have S2 : ∀ j v, C2[j]? = some v → W4.cell? ((⟨b, 0 + k * 5, none⟩ : Addr).add j) = some v := fun j v h => some_on hb4.out (hs2.out.1 j v h)
  have S2 := Lib.hid S2
  by_cases hkN : k = N
  · subst hkN
    have hke : k + 1 = (IntKind.i64.wrap ((k : Int) + 1)).toNat := kT.out.symm
    have k1c : IntKind.i64.wrap ((k : Int) + 1) ≤ max (IntKind.i64.wrap ((k : Int) + 1)) 0 := Int.le_max_left _ _
    have hz : C2 = [] := List.eq_nil_of_length_eq_zero (by rw [hl2.out]; omega)
    go_region_law (generalize (IntKind.i64.wrap ((k : Int) + 1)).toNat = T at *; generalize IntKind.i64.wrap ((k : Int) + 1) = Z at *; refine step_copyC rfl (.tmp 24) (.tmp 27) 38 38 rfl 84 5 Try.underlying38 size99 (some ⟨w.heap.size + 1, 0, none⟩) (some ⟨b, 0, none⟩) 0 0 0 0 (by simp [Act.eval, Act.put]) (by simp [Act.eval, Act.put]) (w.heap.size + 1) (T * 5) ((k + 1) * 5) 84 hR4.out C2 (by rw [hl2.out]; simp) (fun h => absurd h (by simp)) (by rw [hl2.out]; have := kT.out; omega) hs2.out.2 w.heap.size w hb4'.out (by omega) ?_; intro w5 h5 hb5)
    all_goals have L5 := fin.out w5 h5.out hb5
    all_goals obtain rfl := kT.out
    all_goals have hLl : (l.take k ++ x :: l.drop k).length = k + 1 := by have := hlen.out; simp; omega
    all_goals have L6 := Lib.hid (ptb_sq hLl h16 (by omega) L5)
    all_goals have hb6 := Lib.hid hb5
    all_goals clear fin h5 L5 hb5 hLl S2 hs2 hl2 hR4 hb4 hb4' hC2 hC1 hlen
    all_goals go_wp2
    all_goals go_ret
    all_goals exact ⟨w.heap.size + 1, rfl, L6.out, hb6.out⟩
  · have hkN' : (k : Int) < (N : Int) := by omega
    have hkn : ¬ N = k := fun e => hkN e.symm
    have hke : ¬ N + 1 = (IntKind.i64.wrap ((k : Int) + 1)).toNat := fun e => by have := kT.out; omega
    go_region_law (generalize (IntKind.i64.wrap ((k : Int) + 1)).toNat = T at *; generalize IntKind.i64.wrap ((k : Int) + 1) = Z at *; refine step_copyC rfl (.tmp 24) (.tmp 27) 38 38 rfl 84 5 Try.underlying38 size99 (some ⟨w.heap.size + 1, T * 5, none⟩) (some ⟨b, k * 5, none⟩) (N + 1 - T) (N + 1 - T) (N - k) (N - k) (by simp [Act.eval, Act.put]) (by simp [Act.eval, Act.put]) (w.heap.size + 1) (T * 5) ((N + 1) * 5) 84 hR4.out C2 (by rw [hl2.out, show Nat.min (N - k) (N + 1 - T) = N - k from Nat.min_eq_left (by have := kT.out; omega)]) (fun h => ⟨rfl, ⟨b, k * 5, none⟩, rfl, by have := S2.out; rwa [Nat.zero_add] at this⟩) (by rw [hl2.out]; have := kT.out; omega) hs2.out.2 w.heap.size w hb4'.out (by omega) ?_; intro w5 h5 hb5)
    all_goals have L5 := fin.out w5 h5.out hb5
    all_goals obtain rfl := kT.out
    all_goals have hLl : (l.take k ++ x :: l.drop k).length = N + 1 := by have := hlen.out; simp; omega
    all_goals have L6 := Lib.hid (ptb_sq hLl h16 (by omega) L5)
    all_goals have hb6 := Lib.hid hb5
    all_goals clear fin h5 L5 hb5 hLl S2 hs2 hl2 hR4 hb4 hb4' hC2 hC1 hlen
    all_goals go_wp2
    all_goals go_ret
    all_goals exact ⟨w.heap.size + 1, rfl, L6.out, hb6.out⟩
set_option maxRecDepth 100000 in
set_option maxHeartbeats 4000000 in
theorem put82_nil (lo : Nat) (x : Pr) (p : Option Addr) (n c : Nat) (w : World) (hx : RP.In w lo x (.slice p n c)) (hlo : lo ≤ w.heap.size) :
    Calls Try.prog 44 #[.slice none 0 0, .int .i64 0, x.agg (.slice p n c)] w fun e w' => ∃ g, e = .returned (.slice (some ⟨g, 0, none⟩) 1 1) ∧
      Sq RP w' lo [x] (.slice (some ⟨g, 0, none⟩) 1 1) ∧ Below w.heap.size w w' := by
  have hx := Lib.hid hx
  obtain ⟨cur, hcur, hmk⟩ := make39' 0 (by omega)
  simp only [Int.natCast_zero, Int.zero_add, Nat.zero_add, Nat.one_mul] at hcur hmk
  unfold Pr.agg
  go_enter Try.func44, Try.ntmps44
  have e0 := World.alloc_heap_new w (Obj.cells #[.string x.nm, .int .i64 x.v.k, .int .i64 x.v.n, .string x.v.s, .slice p n c] 84)
  replace e0 := Lib.hid (blk_on (bel1 _ (Obj.cells cur 84)) e0)
  have hR2 : Hid (Rowt ((w.alloc (Obj.cells #[.string x.nm, .int .i64 x.v.k, .int .i64 x.v.n, .string x.v.s, .slice p n c] 84)).alloc (Obj.cells cur 84)) (w.heap.size + 1) 84 5) := by
    have := Rowt.new (w.alloc (Obj.cells #[.string x.nm, .int .i64 x.v.k, .int .i64 x.v.n, .string x.v.s, .slice p n c] 84)) cur 84
    rw [World.size_alloc, hcur] at this
    exact this
  have hbW := Lib.hid (bel2 w (Obj.cells #[.string x.nm, .int .i64 x.v.k, .int .i64 x.v.n, .string x.v.s, .slice p n c] 84) (Obj.cells cur 84))
  go_wp2_with ((with_reducible show wpList _ _ _ (Oper.mk _ (Op.call _) _ _ _ _ :: _) _ _); (refine wpList_copyC rfl _ _ 38 38 rfl 84 5 Try.underlying38 size99 _ _ _ _ _ _ rfl rfl (w.heap.size + 1) 0 5 84 hR2.out [] (by simp) (fun h => absurd h (by simp)) (by simp) (by simp) w.heap.size w hbW.out (by omega) ?_; intro w3 h3 hb3; obtain ⟨x0, x1, x2, x3, x4, fx⟩ := five_of e0.out; replace x0 := h3.out.2.2.1 _ _ (.inl (by show w.heap.size ≠ w.heap.size + 1; omega)) x0; replace x1 := h3.out.2.2.1 _ _ (.inl (by show w.heap.size ≠ w.heap.size + 1; omega)) x1; replace x2 := h3.out.2.2.1 _ _ (.inl (by show w.heap.size ≠ w.heap.size + 1; omega)) x2; replace x3 := h3.out.2.2.1 _ _ (.inl (by show w.heap.size ≠ w.heap.size + 1; omega)) x3; replace x4 := h3.out.2.2.1 _ _ (.inl (by show w.heap.size ≠ w.heap.size + 1; omega)) x4; clear fx; obtain ⟨z0, q0⟩ := h3.out.1.cell 0 (by omega); have f0 := h3.out.1.frozen 0; obtain ⟨z1, q1⟩ := h3.out.1.cell 1 (by omega); have f1 := h3.out.1.frozen 1; obtain ⟨z2, q2⟩ := h3.out.1.cell 2 (by omega); have f2 := h3.out.1.frozen 2; obtain ⟨z3, q3⟩ := h3.out.1.cell 3 (by omega); have f3 := h3.out.1.frozen 3; obtain ⟨z4, q4⟩ := h3.out.1.cell 4 (by omega); have f4 := h3.out.1.frozen 4))
  have hW4 : Hid (putL w3 (w.heap.size + 1) 0 (RP.cs x (.slice p n c)) = (((((w3.setCell ⟨w.heap.size + 1, 0, none⟩ (.string x.nm)).setCell ⟨w.heap.size + 1, 1, none⟩ (.int .i64 x.v.k)).setCell ⟨w.heap.size + 1, 2, none⟩ (.int .i64 x.v.n)).setCell ⟨w.heap.size + 1, 3, none⟩ (.string x.v.s)).setCell ⟨w.heap.size + 1, 4, none⟩ (.slice p n c))) := rfl
  have hR4 : Rowt (putL w3 (w.heap.size + 1) 0 (RP.cs x (.slice p n c))) (w.heap.size + 1) 84 5 := h3.out.1.putL
  have hb4 : Below w.heap.size w (putL w3 (w.heap.size + 1) 0 (RP.cs x (.slice p n c))) := hb3.trans (putL_below (by omega))
  have hat4 : Ats (putL w3 (w.heap.size + 1) 0 (RP.cs x (.slice p n c))) (w.heap.size + 1) 0 (RP.cs x (.slice p n c)) := putL_ats h3.out.1 (by rw [len_RP]; exact Nat.le_refl 5)
  rw [hW4.out] at hR4 hb4 hat4
  generalize (((((w3.setCell ⟨w.heap.size + 1, 0, none⟩ (.string x.nm)).setCell ⟨w.heap.size + 1, 1, none⟩ (.int .i64 x.v.k)).setCell ⟨w.heap.size + 1, 2, none⟩ (.int .i64 x.v.n)).setCell ⟨w.heap.size + 1, 3, none⟩ (.string x.v.s)).setCell ⟨w.heap.size + 1, 4, none⟩ (.slice p n c)) = W4 at *
  have hR4 := Lib.hid hR4
  have hb4' : Hid (Below w.heap.size w W4.drew) := hb4.trans ((Below.refl _ W4).drew.mono hb4.size)
  have hat4 := Lib.hid hat4
  clear x0 x1 x2 x3 x4 q0 q1 q2 q3 q4 f0 f1 f2 f3 f4 h3 hb3 hW4 hbW hR2 e0 hmk hb4
  have hw1 : IntKind.i64.wrap 1 = 1 := by decide
  go_region_law (refine step_copyC rfl (.tmp 24) (.tmp 27) 38 38 rfl 84 5 Try.underlying38 size99 (some ⟨w.heap.size + 1, 0, none⟩) none 0 0 0 0 (by simp [Act.eval, Act.put]) (by simp [Act.eval, Act.put]) (w.heap.size + 1) 5 5 84 hR4.out [] (by simp) (fun h => absurd h (by simp)) (by simp) (by simp) w.heap.size w hb4'.out (by omega) ?_; intro w5 h5 hb5)
  all_goals have L5 : Lq RP w5 lo [x] (w.heap.size + 1) 0 := ⟨.slice p n c, fun j u hj => h5.out.2.2.1 _ _ (.inr (.inl (by have := (List.getElem?_eq_some_iff.1 hj).1; rw [len_RP] at this; have this : j < 5 := this; show 0 + j < 5; omega))) (hat4.out j u hj), RP.on hb5 hx.out, trivial⟩
  all_goals have L6 := Lib.hid (ptb_sq (N := 0) rfl (by omega) (by omega) L5)
  all_goals have hb6 := Lib.hid hb5
  all_goals clear h5 L5 hb5 hat4 hR4 hb4'
  all_goals go_wp2
  all_goals go_ret
  all_goals exact ⟨w.heap.size + 1, rfl, L6.out, hb6.out⟩
theorem put44 (l : List Pr) (sl : Value) (k lo : Nat) (x : Pr) (sx : Value) (w : World) (ho : OwR RP 84 w lo l sl) (hk : k ≤ l.length) (h16 : l.length ≤ 16) (hx : RP.In w lo x sx) (hlo : lo ≤ w.heap.size) :
    Calls Try.prog 44 #[sl, .int .i64 k, x.agg sx] w fun e w' => ∃ g, e = .returned (.slice (some ⟨g, 0, none⟩) (l.length + 1) (l.length + 1)) ∧
      Sq RP w' lo (l.take k ++ x :: l.drop k) (.slice (some ⟨g, 0, none⟩) (l.length + 1) (l.length + 1)) ∧ Below w.heap.size w w' := by
  obtain ⟨p, n, c, rfl⟩ := hdP hx
  rcases ho with ⟨rfl, rfl⟩ | ⟨g, hg, rfl, h0, hb, hm, hr, hl⟩
  · obtain rfl : k = 0 := by simpa using hk
    exact put82_nil lo x p n c w hx hlo
  · exact put82_cons l g k lo x p n c w (hl.low (by omega)) h0 hk h16 hx hlo hg
end Go.Proofs.Yteknbploiombiaa
