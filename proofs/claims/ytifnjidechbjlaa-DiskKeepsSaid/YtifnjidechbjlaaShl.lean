/-
  What the statements' shells share: arguments that are operations, rows of operations and truths.
-/
import Derived.Test.YtifnjidechbjlaaRows
import Derived.Test.YtifnjidechbjlaaDsk
import Derived.ChangeArms
import Derived.ChangeSlices
import Derived.SizedLaws
import Derived.ProofKit
import Derived.OpenShut
namespace Go.Proofs.Ytifnjidechbjlaa
open Go.ChangeShapes Go.WideShapes Go.ChangeAt Go.RowKit

theorem own : ownKnob Try.prog.godebug = none := by kernel_rfl
theorem laidOut : laidOutB Try.prog = true := by kernel_rfl
theorem rdbl34 : Try.prog.readableRec 34 = true := by kernel_rfl
theorem lt34 : 34 < Try.prog.types.size := of_decide_eq_true (by kernel_rfl)
theorem rdbl22 : Try.prog.readableRec 22 = true := by kernel_rfl
theorem lt22 : 22 < Try.prog.types.size := of_decide_eq_true (by kernel_rfl)
theorem rdbl31 : Try.prog.readableRec 31 = true := by kernel_rfl
theorem lt31 : 31 < Try.prog.types.size := of_decide_eq_true (by kernel_rfl)
theorem rdbl3 : Try.prog.readableRec 3 = true := by kernel_rfl
theorem lt3 : 3 < Try.prog.types.size := of_decide_eq_true (by kernel_rfl)
theorem rdbl5 : Try.prog.readableRec 5 = true := by kernel_rfl
theorem lt5 : 5 < Try.prog.types.size := of_decide_eq_true (by kernel_rfl)
theorem cells34 : Try.prog.cellsOf 34 = 6 := by kernel_rfl
theorem bytes34 : Try.prog.bytesOf 34 = 64 := by kernel_rfl
theorem bytes4 : Try.prog.bytesOf 4 = 1 := by kernel_rfl
theorem cells4 : Try.prog.cellsOf 4 = 1 := by kernel_rfl
theorem weigh {H : Type} {ts : List TypeId} {ds : List (DataW H)} (hsz : (DataW.weightsEach Try.prog ts ds).all (· ≤ reachBytes) = true) {j : Nat} {t : TypeId} {d : DataW H} (ht : ts[j]? = some t) (hd : ds[j]? = some d) : ∀ k ∈ d.weights Try.prog t, k ≤ reachBytes := fun k hk => by
  simpa using List.all_eq_true.1 hsz _ (DataW.weights_mem_each ht hd k hk)
theorem agg_of {P : Program} {W : World} {r : Reach} {base : Nat} {t : TypeId} {fs : Array Field} {v : Value} (ht : P.underlying t = some (.struct fs)) (h : Value.okWide P W r base t v) : ∃ cs, v = .agg cs := by
  unfold Value.okWide at h
  rw [ht] at h
  obtain ⟨cs, h1, -⟩ := h
  exact ⟨cs, h1⟩
theorem six_list {α : Type} {l : List α} (h : l.length = 6) : ∃ a b c d e f, l = [a, b, c, d, e, f] := by
  match l, h with
  | [a, b, c, d, e, f], _ => exact ⟨a, b, c, d, e, f, rfl⟩
/-- An operation as plain data, as far as the statements look at it. -/
structure Opr where
  x : Int
  n : Int
  f : UInt8
  kp : Option Addr
  kl : Nat
  kc : Nat
  a : Int
  b : Int
def Opr.cells (o : Opr) : List Value := [.int .i64 o.x, .int .i64 o.n, .int .u8 o.f.toNat, .slice o.kp o.kl o.kc, .int .i64 o.a, .int .u32 o.b]
set_option maxRecDepth 100000 in
theorem open_op {H : Type} {enc : TypeId × Value → H} {W : World} (n : Nat) (cs : List Value) (x : DataW H × List MemPlace) (h : DataW.trod enc Try.prog W 0 (fun _ => true) true n 34 cs = some x) :
    ∃ o : Opr, cs = o.cells := by
  obtain ⟨xs, m, rfl, rfl, hl, hxl, hf⟩ := DataW.trod_struct Try.underlying34 h
  rw [cells34] at hl
  obtain ⟨c0, c1, c2, c3, c4, c5, rfl⟩ := six_list hl
  obtain ⟨x0, x1, x2, x3, x4, x5, rfl⟩ := six_list (show xs.length = 6 from hxl)
  have f0 := hf 0 _ rfl
  have f1 := hf 1 _ rfl
  have f2 := hf 2 _ rfl
  have f3 := hf 3 _ rfl
  have f4 := hf 4 _ rfl
  have f5 := hf 5 _ rfl
  simp only [List.getElem?_cons_zero, List.getElem?_cons_succ] at f0 f1 f2 f3 f4 f5
  obtain ⟨k0, h0, rfl, w0⟩ := DataW.trod_int Try.underlying3 f0
  obtain ⟨k1, h1, rfl, w1⟩ := DataW.trod_int Try.underlying3 f1
  obtain ⟨k2, h2, rfl, w2⟩ := DataW.trod_int Try.underlying5 f2
  obtain ⟨k4, h4, rfl, w4⟩ := DataW.trod_int Try.underlying3 f4
  obtain ⟨k5, h5, rfl, w5⟩ := DataW.trod_int Try.underlying32 f5
  have h3 : ∃ p l c, [c3] = [Value.slice p l c] := by
    rcases DataW.trod_slice Try.underlying31 f3 with ⟨hc, -⟩ | ⟨a, len, cap, elems, rest, m', -, hc, -⟩
    · exact ⟨_, _, _, hc⟩
    · exact ⟨_, _, _, hc⟩
  obtain ⟨p, l, c, h3⟩ := h3
  injection h0 with h0; injection h1 with h1; injection h2 with h2; injection h3 with h3; injection h4 with h4; injection h5 with h5
  subst h0 h1 h2 h3 h4 h5
  have hb : 0 ≤ k2 ∧ k2 ≤ 255 := by simpa [Lit.wf, IntKind.min, IntKind.max, IntKind.signed, IntKind.bits] using w2
  refine ⟨⟨k0, k1, UInt8.ofNat k2.toNat, p, l, c, k4, k5⟩, ?_⟩
  have e : (((UInt8.ofNat k2.toNat).toNat : Nat) : Int) = k2 := by
    rw [UInt8.toNat_ofNat']
    omega
  simp only [Opr.cells, e]
set_option maxRecDepth 100000 in
theorem arg_op {H : Type} {enc : TypeId × Value → H} {W : World} {base : Nat} {v : Value} {d : DataW H} {ps : List MemPlace} (hval : Value.okWide Try.prog W .any base 34 v) (h : DataW.Trod enc Try.prog W 0 (fun _ => true) true 34 v d ps) :
    ∃ o : Opr, v = .agg o.cells.toArray := by
  obtain ⟨n, hn⟩ := h
  obtain ⟨o, hcs⟩ := open_op n _ _ hn
  obtain ⟨cs, rfl⟩ := agg_of Try.underlying34 hval
  exact ⟨o, congrArg Value.agg (Array.ext' hcs)⟩
/-- Operations in memory. -/
def OpsAt (w : World) (v : Value) (l : List Opr) : Prop :=
  ∃ p c, v = .slice p l.length c ∧ (l = [] ∨ ∃ b o, p = some ⟨b, o, none⟩ ∧ b < w.heap.size ∧ ∀ i (hi : i < l.length), w.rangeAt b (o + i * 6) l[i].cells)
theorem OpsAt.on {w w' : World} {v : Value} {l : List Opr} (h : OpsAt w v l) (hB : Below w.heap.size w w') : OpsAt w' v l := by
  obtain ⟨p, c, rfl, h | ⟨b, o, hp, hb, hc⟩⟩ := h
  · exact ⟨p, c, rfl, .inl h⟩
  · exact ⟨p, c, rfl, .inr ⟨b, o, hp, Nat.lt_of_lt_of_le hb hB.size, fun i hi => rangeAt_same (hc i hi) (hB.block b hb)⟩⟩
theorem mapM_at {α β : Type} {f : α → Option β} : ∀ {l : List α} {r : List β}, l.mapM f = some r → r.length = l.length ∧ ∀ i (hi : i < l.length) (hr : i < r.length), f l[i] = some r[i]
  | [], r, h => by
    simp at h
    subst h
    exact ⟨rfl, fun i hi => (by simp at hi)⟩
  | x :: l, r, h => by
    simp only [List.mapM_cons, Option.bind_eq_bind, Option.bind_eq_some_iff, Option.pure_def, Option.some.injEq] at h
    obtain ⟨y, hy, r', hr', rfl⟩ := h
    obtain ⟨h1, h2⟩ := mapM_at hr'
    refine ⟨by simp [h1], fun i hi hr => ?_⟩
    cases i with
    | zero => exact hy
    | succ i => exact h2 i (by simpa using hi) (by simpa using hr)
theorem cells_range {w : World} {n : Nat} {a : Addr} {cs : List Value} (h : w.cells? 0 a n = some cs) (hn : 0 < n) : a.spot = none ∧ w.rangeAt a.block a.off cs ∧ cs.length = n := by
  obtain ⟨b, o, sp⟩ := a
  unfold World.cells? at h
  rw [if_pos (Nat.zero_le _)] at h
  have hl : cs.length = n := by
    have := (mapM_at h).1
    simpa using this
  have hc : ∀ j v, cs[j]? = some v → w.cell? ((⟨b, o, sp⟩ : Addr).add j) = some v := by
    intro j v hv
    have hj : j < n := by rw [← hl]; exact (List.getElem?_eq_some_iff.1 hv).1
    obtain ⟨hj', rfl⟩ := List.getElem?_eq_some_iff.1 hv
    have := (mapM_at h).2 j (by simpa using hj) hj'
    simpa using this
  have hs : sp = none := by
    have h0 := hc 0 (cs[0]'(by omega)) (by simp)
    simpa [Addr.add] using World.cell?_spot h0
  subst hs
  refine ⟨rfl, fun j v hv => ?_, hl⟩
  have := hc j v hv
  rwa [Addr.add_mid] at this
theorem op_cells {w : World} {b o : Nat} {x : Opr} (h : w.rangeAt b o x.cells) : w.cell? ⟨b, o, none⟩ = some (.int .i64 x.x) ∧ w.cell? ⟨b, o + 1, none⟩ = some (.int .i64 x.n) ∧ w.cell? ⟨b, o + 2, none⟩ = some (.int .u8 x.f.toNat) ∧ w.cell? ⟨b, o + 3, none⟩ = some (.slice x.kp x.kl x.kc) ∧ w.cell? ⟨b, o + 4, none⟩ = some (.int .i64 x.a) ∧ w.cell? ⟨b, o + 5, none⟩ = some (.int .u32 x.b) :=
  ⟨h 0 _ rfl, h 1 _ rfl, h 2 _ rfl, h 3 _ rfl, h 4 _ rfl, h 5 _ rfl⟩
theorem sixOf {w : World} {g : Nat} {a b c d f h : Value} {t : TypeId} (e : w.heap[g]? = some (.cells #[a, b, c, d, f, h] t)) :
    w.cell? ⟨g, 0, none⟩ = some a ∧ w.cell? ⟨g, 1, none⟩ = some b ∧ w.cell? ⟨g, 2, none⟩ = some c ∧ w.cell? ⟨g, 3, none⟩ = some d ∧ w.cell? ⟨g, 4, none⟩ = some f ∧ w.cell? ⟨g, 5, none⟩ = some h := by
  refine ⟨?_, ?_, ?_, ?_, ?_, ?_⟩ <;> simp [World.cell?, e]
theorem int_of {P : Program} {w : World} {r : Reach} {base : Nat} {t : TypeId} {k : IntKind} {v : Value} (ht : P.underlying t = some (.int k)) (h : Value.okWide P w r base t v) : ∃ z, v = .int k z := by
  simp only [Value.okWide, ht, Cell.okWide] at h
  cases v <;> simp_all [Cell.ok]
set_option maxRecDepth 100000 in
theorem arg_byte {H : Type} {enc : TypeId × Value → H} {W : World} {base : Nat} {v : Value} {d : DataW H} {ps : List MemPlace} (hval : Value.okWide Try.prog W .any base 5 v) (h : DataW.Trod enc Try.prog W 0 (fun _ => true) true 5 v d ps) : ∃ f : UInt8, v = .int .u8 f.toNat := by
  obtain ⟨n, hn⟩ := h
  obtain ⟨k, hk, -, wk⟩ := DataW.trod_int Try.underlying5 hn
  obtain ⟨z, rfl⟩ := int_of Try.underlying5 hval
  simp [Value.cells] at hk
  subst hk
  have hb : 0 ≤ z ∧ z ≤ 255 := by simpa [Lit.wf, IntKind.min, IntKind.max, IntKind.signed, IntKind.bits] using wk
  exact ⟨UInt8.ofNat z.toNat, by rw [UInt8.toNat_ofNat']; congr 1; omega⟩
set_option maxRecDepth 100000 in
theorem arg_int {H : Type} {enc : TypeId × Value → H} {W : World} {base : Nat} {v : Value} {d : DataW H} {ps : List MemPlace} (hval : Value.okWide Try.prog W .any base 3 v) (h : DataW.Trod enc Try.prog W 0 (fun _ => true) true 3 v d ps) : ∃ z : Int, v = .int .i64 z := by
  obtain ⟨n, hn⟩ := h
  obtain ⟨k, hk, -, wk⟩ := DataW.trod_int Try.underlying3 hn
  obtain ⟨z, rfl⟩ := int_of Try.underlying3 hval
  exact ⟨z, rfl⟩
set_option maxRecDepth 100000 in
theorem arg_ops {H : Type} {enc : TypeId × Value → H} {W : World} {base : Nat} {v : Value} {d : DataW H} {ps : List MemPlace} (hval : Value.okWide Try.prog W .any base 22 v) (h : DataW.Trod enc Try.prog W 0 (fun _ => true) true 22 v d ps) (hw : ∀ k ∈ d.weights Try.prog 22, k ≤ reachBytes) :
    ∃ l : List Opr, OpsAt W v l ∧ l.length ≤ 140737488351232 := by
  obtain ⟨a0, len0, cap0, rfl⟩ := okWide_slice Try.underlying22 hval
  obtain ⟨n, hn⟩ := h
  rcases DataW.trod_slice Try.underlying22 hn with ⟨hcs, -⟩ | ⟨a, len, cap, elems, rest, m, rfl, hcs, hx, hb, hl, hm, hlen, hel, hsp, hns⟩
  · simp [Value.cells] at hcs
    obtain ⟨rfl, rfl, rfl⟩ := hcs
    exact ⟨[], ⟨none, 0, rfl, .inl rfl⟩, by simp⟩
  · simp [Value.cells] at hcs
    obtain ⟨rfl, rfl, rfl⟩ := hcs
    simp only [Prod.mk.injEq] at hx
    obtain ⟨rfl, rfl⟩ := hx
    rw [cells34] at hel
    have hr : len0 ≤ 140737488351232 := by
      simp only [DataW.weights, Try.underlying22, bytes34, List.length_map] at hw
      have hreach := hw _ (List.mem_cons.2 (.inl rfl))
      unfold reachBytes at hreach
      rw [hlen] at hreach
      have : len0 * 64 ≤ (len0 + rest.length) * 64 := Nat.mul_le_mul_right _ (by omega)
      omega
    have hadd : ∀ n, (a.add n).block = a.block ∧ (a.add n).off = a.off + n := by
      intro n; unfold Addr.add; split <;> simp_all
    have each : ∀ i, i < len0 → ∃ o : Opr, (i = 0 → a.spot = none) ∧ W.rangeAt a.block (a.off + i * 6) o.cells := by
      intro i hi
      have he := hel i hi
      rw [List.getElem?_eq_getElem (by omega), Option.bind_eq_some_iff] at he
      obtain ⟨ci, hci, htr⟩ := he
      obtain ⟨o, rfl⟩ := open_op m ci _ htr
      obtain ⟨h1, h2, -⟩ := cells_range hci (by omega)
      rw [(hadd (i * 6)).1, (hadd (i * 6)).2] at h2
      refine ⟨o, fun hi0 => ?_, h2⟩
      subst hi0
      simpa [Addr.add] using h1
    by_cases h0 : len0 = 0
    · subst h0
      exact ⟨[], ⟨some a, cap0, rfl, .inl rfl⟩, by simp⟩
    · obtain ⟨o0, hs0, hr0⟩ := each 0 (by omega)
      have hsn := hs0 rfl
      let g : Nat → Opr := fun i => if h : i < len0 then (each i h).choose else o0
      have hg : ∀ i (h : i < len0), W.rangeAt a.block (a.off + i * 6) (g i).cells := fun i h => by
        show W.rangeAt a.block (a.off + i * 6) (if h : i < len0 then (each i h).choose else o0).cells
        rw [dif_pos h]; exact (each i h).choose_spec.2
      refine ⟨(List.range len0).map g, ⟨some a, cap0, by simp, .inr ⟨a.block, a.off, ?_, ?_, fun i hi => ?_⟩⟩, by simpa using hr⟩
      · obtain ⟨b, o, sp⟩ := a
        have : sp = none := hsn
        subst this
        rfl
      · have := World.block_lt_of_cell? W ⟨a.block, a.off + 0 * 6 + 0, none⟩ (hr0 0 _ rfl)
        exact this
      · simp only [List.length_map, List.length_range] at hi
        simp only [List.getElem_map, List.getElem_range]
        exact hg i hi
set_option maxRecDepth 100000 in
/-- An argument of the type of truths. -/
theorem arg_bools {H : Type} {enc : TypeId × Value → H} {W : World} {base : Nat} {v : Value} {d : DataW H} {ps : List MemPlace} (hval : Value.okWide Try.prog W .any base 31 v) (h : DataW.Trod enc Try.prog W 0 (fun _ => true) true 31 v d ps) (hw : ∀ k ∈ d.weights Try.prog 31, k ≤ reachBytes) :
    ∃ (kb : List Bool) (p : Option Addr) (c : Nat), v = .slice p kb.length c ∧ kb.length ≤ 140737488351232 ∧ (kb = [] ∨ ∃ b o, p = some ⟨b, o, none⟩ ∧ b < W.heap.size ∧ ∀ i (hi : i < kb.length), W.cell? ⟨b, o + i, none⟩ = some (.bool kb[i])) := by
  obtain ⟨a0, len0, cap0, rfl⟩ := okWide_slice Try.underlying31 hval
  obtain ⟨n, hn⟩ := h
  rcases DataW.trod_slice Try.underlying31 hn with ⟨hcs, -⟩ | ⟨a, len, cap, elems, rest, m, rfl, hcs, hx, hb, hl, hm, hlen, hel, hsp, hns⟩
  · simp [Value.cells] at hcs
    obtain ⟨rfl, rfl, rfl⟩ := hcs
    exact ⟨[], none, 0, rfl, by simp, .inl rfl⟩
  · simp [Value.cells] at hcs
    obtain ⟨rfl, rfl, rfl⟩ := hcs
    simp only [Prod.mk.injEq] at hx
    obtain ⟨rfl, rfl⟩ := hx
    rw [cells4] at hel
    have hr : len0 ≤ 140737488351232 := by
      simp only [DataW.weights, Try.underlying31, bytes4, List.length_map] at hw
      have hreach := hw _ (List.mem_cons.2 (.inl rfl))
      unfold reachBytes at hreach
      rw [hlen] at hreach
      omega
    have hadd : ∀ n, (a.add n).block = a.block ∧ (a.add n).off = a.off + n := by
      intro n; unfold Addr.add; split <;> simp_all
    have each : ∀ i, i < len0 → ∃ x : Bool, (i = 0 → a.spot = none) ∧ W.cell? ⟨a.block, a.off + i, none⟩ = some (.bool x) := by
      intro i hi
      have he := hel i hi
      rw [List.getElem?_eq_getElem (by omega), Option.bind_eq_some_iff] at he
      obtain ⟨ci, hci, htr⟩ := he
      obtain ⟨x, rfl, -⟩ := DataW.trod_bool Try.underlying4 htr
      obtain ⟨h1, h2, -⟩ := cells_range hci (by omega)
      rw [(hadd (i * 1)).1, (hadd (i * 1)).2] at h2
      refine ⟨x, fun hi0 => ?_, ?_⟩
      · subst hi0
        simpa [Addr.add] using h1
      · have := h2 0 _ rfl
        simpa using this
    by_cases h0 : len0 = 0
    · subst h0
      exact ⟨[], some a, cap0, rfl, by simp, .inl rfl⟩
    · obtain ⟨o0, hs0, hr0⟩ := each 0 (by omega)
      have hsn := hs0 rfl
      let g : Nat → Bool := fun i => if h : i < len0 then (each i h).choose else o0
      have hg : ∀ i (h : i < len0), W.cell? ⟨a.block, a.off + i, none⟩ = some (.bool (g i)) := fun i h => by
        show W.cell? ⟨a.block, a.off + i, none⟩ = some (.bool (if h : i < len0 then (each i h).choose else o0))
        rw [dif_pos h]; exact (each i h).choose_spec.2
      refine ⟨(List.range len0).map g, some a, cap0, by simp, by simpa using hr, .inr ⟨a.block, a.off, ?_, ?_, fun i hi => ?_⟩⟩
      · obtain ⟨b, o, sp⟩ := a
        have : sp = none := hsn
        subst this
        rfl
      · have := World.block_lt_of_cell? W ⟨a.block, a.off + 0, none⟩ hr0
        exact this
      · simp only [List.length_map, List.length_range] at hi
        simp only [List.getElem_map, List.getElem_range]
        exact hg i hi
end Go.Proofs.Ytifnjidechbjlaa
