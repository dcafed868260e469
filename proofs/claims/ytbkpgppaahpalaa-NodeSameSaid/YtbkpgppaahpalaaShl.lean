/-
  What the statements' shells share: arguments that are nodes, cells and bytes, and how much they hold.
-/
import Derived.Test.YtbkpgppaahpalaaRows
import Derived.Test.YtbkpgppaahpalaaOwn
import Derived.Test.YtbkpgppaahpalaaVnt
import Derived.ChangeArms
import Derived.ChangeSlices
import Derived.SizedLaws
import Derived.ProofKit
import Derived.OpenShut
namespace Go.Proofs.Ytbkpgppaahpalaa
open Go.ChangeShapes Go.WideShapes Go.ChangeAt Go.RowKit

theorem own : ownKnob Try.prog.godebug = none := by kernel_rfl
theorem laidOut : laidOutB Try.prog = true := by kernel_rfl
theorem read26 : Try.prog.readableRec 26 = true := by kernel_rfl
theorem lt26 : 26 < Try.prog.types.size := of_decide_eq_true (by kernel_rfl)
theorem read27 : Try.prog.readableRec 27 = true := by kernel_rfl
theorem lt27 : 27 < Try.prog.types.size := of_decide_eq_true (by kernel_rfl)
theorem read44 : Try.prog.readableRec 44 = true := by kernel_rfl
theorem lt44 : 44 < Try.prog.types.size := of_decide_eq_true (by kernel_rfl)
theorem cells3 : Try.prog.cellsOf 3 = 1 := by kernel_rfl
theorem cells5 : Try.prog.cellsOf 5 = 1 := by kernel_rfl
theorem cells26 : Try.prog.cellsOf 26 = 4 := by kernel_rfl
theorem cells27 : Try.prog.cellsOf 27 = 1 := by kernel_rfl
theorem cells44 : Try.prog.cellsOf 44 = 4 := by kernel_rfl
theorem bytes3 : Try.prog.bytesOf 3 = 8 := by kernel_rfl
theorem bytes5 : Try.prog.bytesOf 5 = 1 := by kernel_rfl
theorem bytes27 : Try.prog.bytesOf 27 = 24 := by kernel_rfl
theorem bytes44 : Try.prog.bytesOf 44 = 64 := by kernel_rfl
theorem weigh {H : Type} {ts : List TypeId} {ds : List (DataW H)} (hsz : (DataW.weightsEach Try.prog ts ds).all (· ≤ reachBytes) = true) {j : Nat} {t : TypeId} {d : DataW H} (ht : ts[j]? = some t) (hd : ds[j]? = some d) : ∀ k ∈ d.weights Try.prog t, k ≤ reachBytes := fun k hk => by
  simpa using List.all_eq_true.1 hsz _ (DataW.weights_mem_each ht hd k hk)
theorem four_list {α : Type} {l : List α} (h : l.length = 4) : ∃ a b c d, l = [a, b, c, d] := by
  match l, h with
  | [a, b, c, d], _ => exact ⟨a, b, c, d, rfl⟩
theorem agg_of {P : Program} {W : World} {r : Reach} {base : Nat} {t : TypeId} {fs : Array Field} {v : Value} (ht : P.underlying t = some (.struct fs)) (h : Value.okWide P W r base t v) : ∃ cs, v = .agg cs := by
  unfold Value.okWide at h
  rw [ht] at h
  obtain ⟨cs, h1, -⟩ := h
  exact ⟨cs, h1⟩
theorem i64_wf {n : Int} (h : (Lit.int .i64 n).wf = true) : I64 n := by
  unfold I64
  simpa [Lit.wf, IntKind.min, IntKind.max, IntKind.signed, IntKind.bits] using h
theorem all_mem {H : Type} {P : Program} {e : TypeId} : ∀ {l : List (DataW H)} {d : DataW H} {k : Nat}, d ∈ l → k ∈ d.weights P e → k ∈ DataW.weightsAll P e l
  | d :: l, _, k, .head _, h => by rw [DataW.weightsAll]; exact List.mem_append_left _ h
  | _ :: l, d, k, .tail _ hd, h => by rw [DataW.weightsAll]; exact List.mem_append_right _ (all_mem hd h)
theorem mapM_at {α β : Type} {f : α → Option β} : ∀ {l : List α} {r : List β}, l.mapM f = some r → r.length = l.length ∧ ∀ i (hi : i < l.length) (hr : i < r.length), f l[i] = some r[i]
  | [], r, h => by
    simp at h
    subst h
    exact ⟨rfl, fun i hi => (by simp at hi)⟩
  | x :: l, r, h => by
    simp only [List.mapM_cons, Option.bind_eq_bind, Option.bind_eq_some_iff, Option.pure_def, Option.some.injEq] at h
    obtain ⟨y, hy, r', hr', rfl⟩ := h
    obtain ⟨h1, h2⟩ := mapM_at hr'
    refine ⟨by simp [h1], fun i hi hr => ?_⟩
    cases i with
    | zero => exact hy
    | succ i => exact h2 i (by simpa using hi) (by simpa using hr)
theorem add_mid (b o j : Nat) : ((⟨b, o, none⟩ : Addr).add j) = ⟨b, o + j, none⟩ := Go.WideShapes.add_plain b o j
theorem cells_range {w : World} {n : Nat} {a : Addr} {cs : List Value} (h : w.cells? 0 a n = some cs) (hn : 0 < n) : a.spot = none ∧ w.rangeAt a.block a.off cs ∧ cs.length = n := by
  obtain ⟨b, o, sp⟩ := a
  unfold World.cells? at h
  rw [if_pos (Nat.zero_le _)] at h
  have hl : cs.length = n := by
    have := (mapM_at h).1
    simpa using this
  have hc : ∀ j v, cs[j]? = some v → w.cell? ((⟨b, o, sp⟩ : Addr).add j) = some v := by
    intro j v hv
    have hj : j < n := by rw [← hl]; exact (List.getElem?_eq_some_iff.1 hv).1
    obtain ⟨hj', rfl⟩ := List.getElem?_eq_some_iff.1 hv
    have := (mapM_at h).2 j (by simpa using hj) hj'
    simpa using this
  have hs : sp = none := by
    have h0 := hc 0 (cs[0]'(by omega)) (by simp)
    simpa [Addr.add] using World.cell?_spot h0
  subst hs
  refine ⟨rfl, fun j v hv => ?_, hl⟩
  have := hc j v hv
  rwa [add_mid] at this
theorem lits_bulk {H : Type} (zs : List Int) : Rows.uptoBulkAll (lits .u8 zs : List (DataW H)) = zs.length := by
  induction zs with
  | nil => rfl
  | cons z zs ih =>
    unfold lits at *
    simp only [List.map_cons, Rows.uptoBulkAll, Rows.uptoBulk, ih, List.length_cons]; omega
theorem range_app {w : World} {g o : Nat} {a b : List Value} (h : w.rangeAt g o a) (h' : w.rangeAt g (o + a.length) b) : w.rangeAt g o (a ++ b) := fun j v hv => by
  by_cases hj : j < a.length
  · rw [List.getElem?_append_left hj] at hv
    exact h j v hv
  · rw [List.getElem?_append_right (by omega)] at hv
    have := h' (j - a.length) v hv
    rwa [show o + a.length + (j - a.length) = o + j by omega] at this

/-- How much of things there is. -/
def sumOf {α : Type} (mass : α → Nat) : List α → Nat
  | [] => 0
  | a :: l => mass a + sumOf mass l
theorem fl_build {H α : Type} {W : World} {b s : Nat} {R : World → α → List Value → Prop} {mass : α → Nat} {ok : α → Prop} : ∀ (es : List (DataW H)) (o : Nat),
    (∀ i (hi : i < es.length), ∃ a ci, W.rangeAt b (o + i * s) ci ∧ ci.length = s ∧ R W a ci ∧ mass a ≤ Rows.uptoBulk es[i] ∧ ok a) →
    ∃ (L : List α) (vs : List Value), L.length = es.length ∧ W.rangeAt b o vs ∧ Enc R s W L vs ∧ sumOf mass L ≤ Rows.uptoBulkAll es ∧ ∀ a ∈ L, ok a
  | [], o, _ => ⟨[], [], rfl, fun j v hv => (by simp at hv), enc_nil _ _ _, by simp [sumOf], fun a ha => (by cases ha)⟩
  | e :: es, o, h => by
    obtain ⟨a, ci, h1, h2, h3, h4, h5⟩ := h 0 (by simp)
    obtain ⟨L, vs, k1, k2, k3, k4, k5⟩ := fl_build es (o + s) fun i hi => by
      obtain ⟨a, ci, h1, h⟩ := h (i + 1) (by simpa using hi)
      rw [show o + (i + 1) * s = o + s + i * s by rw [Nat.succ_mul]; omega] at h1
      exact ⟨a, ci, h1, by simpa using h⟩
    simp only [Nat.zero_mul, Nat.add_zero] at h1
    refine ⟨a :: L, ci ++ vs, by simp [k1], range_app h1 (by rw [h2]; exact k2), (enc_one h3 h2).app k3, ?_, fun x hx => ?_⟩
    · simp only [List.getElem_cons_zero] at h4
      simp only [sumOf, Rows.uptoBulkAll]; omega
    · rcases List.mem_cons.1 hx with rfl | hx
      · exact h5
      · exact k5 _ hx
/-- A slice, where each of its things is told. -/
theorem open_fl {H : Type} {enc : TypeId × Value → H} {W : World} {T e s b : Nat} (hT : Try.prog.underlying T = some (.slice e)) (hc : Try.prog.cellsOf e = s) (hs : 0 < s) (hb : Try.prog.bytesOf e = b) {α : Type} (R : World → α → List Value → Prop) (mass : α → Nat) (ok : α → Prop)
    (hel : ∀ (m : Nat) (cs : List Value) (x : DataW H × List MemPlace), DataW.trod enc Try.prog W 0 (fun _ => true) true m e cs = some x → (∀ k ∈ x.1.weights Try.prog e, k ≤ reachBytes) → ∃ a, R W a cs ∧ mass a ≤ Rows.uptoBulk x.1 ∧ ok a)
    (n : Nat) (cs : List Value) (x : DataW H × List MemPlace) (h : DataW.trod enc Try.prog W 0 (fun _ => true) true n T cs = some x) (hw : ∀ k ∈ x.1.weights Try.prog T, k ≤ reachBytes) :
    ∃ (L : List α) (sl : Value), cs = [sl] ∧ (∃ vs, Fl W sl s L.length vs ∧ Enc R s W L vs) ∧ L.length * b ≤ 140737488351232 ∧ sumOf mass L ≤ Rows.uptoBulk x.1 ∧ ∀ a ∈ L, ok a := by
  rcases DataW.trod_slice hT h with ⟨rfl, rfl⟩ | ⟨a, len, cap, elems, rest, m, rfl, rfl, rfl, hbb, hl, hm, hlen, hel', hsp, hns⟩
  · exact ⟨[], .slice none 0 0, rfl, ⟨[], fl_nil W s, enc_nil _ _ _⟩, by simp, by simp [sumOf], fun a ha => (by cases ha)⟩
  · rw [hc] at hel'
    simp only [DataW.weights, hT, hb, List.length_map] at hw
    have hreach := hw _ (List.mem_cons.2 (.inl rfl))
    have hr : len * b ≤ 140737488351232 := by
      unfold reachBytes at hreach
      rw [hlen] at hreach
      have : len * b ≤ (len + rest.length) * b := Nat.mul_le_mul_right _ (by omega)
      omega
    have hadd : ∀ n, (a.add n).block = a.block ∧ (a.add n).off = a.off + n := by
      intro n; unfold Addr.add; split <;> simp_all
    have each : ∀ i (hi : i < len), ∃ x ci, (i = 0 → a.spot = none) ∧ W.rangeAt a.block (a.off + i * s) ci ∧ ci.length = s ∧ R W x ci ∧ mass x ≤ Rows.uptoBulk (elems[i]'(by omega)).1 ∧ ok x := by
      intro i hi
      have he := hel' i hi
      rw [List.getElem?_eq_getElem (by omega), Option.bind_eq_some_iff] at he
      obtain ⟨ci, hci, htr⟩ := he
      obtain ⟨y, hy, hmm, hok⟩ := hel m ci _ htr fun k hk => hw k (List.mem_cons.2 (.inr (List.mem_append_left _ (all_mem (List.mem_map.2 ⟨_, List.getElem_mem _, rfl⟩) hk))))
      obtain ⟨h1, h2, h3⟩ := cells_range hci hs
      rw [(hadd (i * s)).1, (hadd (i * s)).2] at h2
      refine ⟨y, ci, fun hi0 => ?_, h2, h3, hy, hmm, hok⟩
      subst hi0
      simpa [Addr.add] using h1
    by_cases h0 : len = 0
    · subst h0
      exact ⟨[], _, rfl, ⟨[], ⟨some a, cap, rfl, Nat.zero_le _, hm, fun e => (by cases e), by simp, .inl rfl⟩, enc_nil _ _ _⟩, by simp, by simp [sumOf], fun a ha => (by cases ha)⟩
    · obtain ⟨-, -, hs0, -⟩ := each 0 (by omega)
      have hle : elems.length = len := by omega
      obtain ⟨L, vs, k1, k2, k3, k4, k5⟩ := fl_build (W := W) (b := a.block) (s := s) (R := R) (mass := mass) (ok := ok) (elems.map (·.1)) a.off fun i hi => by
        obtain ⟨y, ci, -, h1⟩ := each i (by simpa [hle] using hi)
        exact ⟨y, ci, by simp only [List.getElem_map]; exact h1⟩
      rw [List.length_map, hle] at k1
      refine ⟨L, _, rfl, ⟨vs, ⟨some a, cap, by rw [k1], by omega, hm, fun e => (by cases e), k3.1, .inr ⟨a.block, a.off, ?_, k2⟩⟩, k3⟩, by rw [k1]; exact hr, ?_, k5⟩
      · obtain ⟨b, o, sp⟩ := a
        have : sp = none := hs0 rfl
        subst this
        rfl
      · simp only [Rows.uptoBulk]
        omega
set_option maxRecDepth 100000 in
/-- Bytes. -/
theorem open_key {H : Type} {enc : TypeId × Value → H} {W : World} (m : Nat) (cs : List Value) (x : DataW H × List MemPlace) (h : DataW.trod enc Try.prog W 0 (fun _ => true) true m 27 cs = some x) (hw : ∀ k ∈ x.1.weights Try.prog 27, k ≤ reachBytes) :
    ∃ t : List UInt8, keyV W t cs ∧ t.length + 1 ≤ Rows.uptoBulk x.1 ∧ t.length ≤ 140737488351232 := by
  rcases open_ints Try.underlying27 Try.underlying5 cells5 h with ⟨hcs, hx⟩ | ⟨a, len0, cap0, zs, hcs, _, hl, hm, hz, hx, hcell, hwz⟩
  · subst hcs
    subst hx
    exact ⟨[], ⟨_, rfl, bs_nil W⟩, by simp [Rows.uptoBulk], by simp⟩
  · subst hcs
    subst hx
    have hz' : zs.length = cap0 := by simpa using hz
    have hreach : cap0 ≤ 140737488351232 := by
      have := hw ((lits (H := H) .u8 (zs.take len0)).length + (lits (H := H) .u8 (zs.drop len0)).length) (by simp [DataW.weights, Try.underlying27, bytes5])
      simp only [lits, List.length_map, List.length_take, List.length_drop, reachBytes] at this
      omega
    have hbt : ∀ z ∈ zs, 0 ≤ z ∧ z ≤ 255 := fun z hz => by
      have := hwz z hz
      simpa [Lit.wf, IntKind.min, IntKind.max, IntKind.signed, IntKind.bits] using this
    have hlen : ((zs.take len0).map fun z => UInt8.ofNat z.toNat).length = len0 := by simp; omega
    refine ⟨(zs.take len0).map fun z => UInt8.ofNat z.toNat, ⟨_, rfl, ⟨_, cap0, by rw [hlen], by rw [hlen]; exact hl, hm, fun e => (by cases e), ?_⟩⟩, ?_, by rw [hlen]; omega⟩
    · by_cases h0 : len0 = 0
      · exact .inl (List.eq_nil_of_length_eq_zero (by rw [hlen]; exact h0))
      · obtain ⟨b, off, rfl, hc⟩ := ints_at hcell (by omega)
        refine .inr ⟨b, off, rfl, fun i v hv => ?_⟩
        have hi : i < len0 := by
          have := (List.getElem?_eq_some_iff.1 hv).1
          rw [len_enc, hlen] at this
          exact this
        have hi' : i < zs.length := by omega
        rw [hc i hi']
        have hb := hbt zs[i] (List.getElem_mem hi')
        have e : zs.getD i 0 = zs[i] := by simp [hi']
        have e2 : ((((zs.take len0).map fun z => UInt8.ofNat z.toNat)[i]'(by rw [hlen]; exact hi)).toNat : Int) = zs[i] := by
          rw [List.getElem_map, List.getElem_take, toNat_of (by omega)]
          omega
        rw [enc_get (by rw [hlen]; exact hi), e2] at hv
        rw [e]
        exact hv
    · simp only [Rows.uptoBulk, lits_bulk]
      rw [hlen]; simp; omega
def massC (c : C) : Nat := c.key.length + c.val.length + 1
def fitC (c : C) : Prop := c.key.length ≤ 140737488351232 ∧ c.val.length ≤ 140737488351232
set_option maxRecDepth 100000 in
/-- A cell. -/
theorem open_cell {H : Type} {enc : TypeId × Value → H} {W : World} (n : Nat) (cs : List Value) (x : DataW H × List MemPlace) (h : DataW.trod enc Try.prog W 0 (fun _ => true) true n 44 cs = some x) (hw : ∀ k ∈ x.1.weights Try.prog 44, k ≤ reachBytes) :
    ∃ c : C, cellV W c cs ∧ massC c ≤ Rows.uptoBulk x.1 ∧ fitC c := by
  obtain ⟨xs, m, rfl, rfl, hl, hxl, hf⟩ := DataW.trod_struct Try.underlying44 h
  rw [cells44] at hl
  obtain ⟨c0, c1, c2, c3, rfl⟩ := four_list hl
  obtain ⟨x0, x1, x2, x3, rfl⟩ := four_list (show xs.length = 4 from hxl)
  have f0 := hf 0 _ rfl
  have f1 := hf 1 _ rfl
  have f2 := hf 2 _ rfl
  have f3 := hf 3 _ rfl
  simp only [List.getElem?_cons_zero, List.getElem?_cons_succ] at f0 f1 f2 f3
  simp only [List.map_cons, List.map_nil, DataW.weights, Try.underlying44, DataW.weightsEach, List.append_nil] at hw
  obtain ⟨t0, hk0, m0, l0⟩ := open_key m [c0] x0 f0 fun q hq => hw q (by simp [hq])
  obtain ⟨t1, hk1, m1, l1⟩ := open_key m [c1] x1 f1 fun q hq => hw q (by simp [hq])
  obtain ⟨n2, h2, rfl, w2⟩ := DataW.trod_int Try.underlying3 f2
  obtain ⟨n3, h3, rfl, w3⟩ := DataW.trod_int Try.underlying3 f3
  obtain ⟨k0, e0, b0⟩ := hk0
  obtain ⟨k1, e1, b1⟩ := hk1
  injection e0 with e0; injection e1 with e1; injection h2 with h2; injection h3 with h3
  subst e0 e1 h2 h3
  refine ⟨⟨t0, t1, n2, n3⟩, ⟨_, _, rfl, b0, b1, i64_wf w2, i64_wf w3⟩, ?_, l0, l1⟩
  simp only [massC, List.map_cons, List.map_nil, Rows.uptoBulk, Rows.uptoBulkAll]
  omega
set_option maxRecDepth 100000 in
theorem open_kid {H : Type} {enc : TypeId × Value → H} {W : World} (n : Nat) (cs : List Value) (x : DataW H × List MemPlace) (h : DataW.trod enc Try.prog W 0 (fun _ => true) true n 3 cs = some x) (hw : ∀ k ∈ x.1.weights Try.prog 3, k ≤ reachBytes) :
    ∃ c : Int, kidV W c cs ∧ 1 ≤ Rows.uptoBulk x.1 ∧ True := by
  obtain ⟨n2, h2, rfl, w2⟩ := DataW.trod_int Try.underlying3 h
  exact ⟨n2, ⟨h2, i64_wf w2⟩, by simp [Rows.uptoBulk], trivial⟩
def massN (n : Nd) : Nat := sumOf massC n.cells + sumOf (fun k : List UInt8 => k.length + 1) n.keys + sumOf (fun _ : Int => 1) n.kids
set_option maxRecDepth 100000 in
/-- A node. -/
theorem open_node {H : Type} {enc : TypeId × Value → H} {W : World} (n : Nat) (cs : List Value) (x : DataW H × List MemPlace) (h : DataW.trod enc Try.prog W 0 (fun _ => true) true n 26 cs = some x) (hw : ∀ k ∈ x.1.weights Try.prog 26, k ≤ reachBytes) :
    ∃ nd : Nd, NdS W (.agg cs.toArray) nd ∧ Fit nd ∧ massN nd ≤ Rows.uptoBulk x.1 := by
  obtain ⟨xs, m, rfl, rfl, hl, hxl, hf⟩ := DataW.trod_struct Try.underlying26 h
  rw [cells26] at hl
  obtain ⟨c0, c1, c2, c3, rfl⟩ := four_list hl
  obtain ⟨x0, x1, x2, x3, rfl⟩ := four_list (show xs.length = 4 from hxl)
  have f0 := hf 0 _ rfl
  have f1 := hf 1 _ rfl
  have f2 := hf 2 _ rfl
  have f3 := hf 3 _ rfl
  simp only [List.getElem?_cons_zero, List.getElem?_cons_succ] at f0 f1 f2 f3
  simp only [List.map_cons, List.map_nil, DataW.weights, Try.underlying26, DataW.weightsEach, List.append_nil] at hw
  obtain ⟨b, h0, -⟩ := DataW.trod_bool Try.underlying4 f0
  obtain ⟨L1, s1, e1, E1, z1, m1, k1⟩ := open_fl Try.underlying22 cells44 (by omega) bytes44 cellV massC fitC (fun m cs x h hw => open_cell m cs x h hw) m [c1] x1 f1 fun q hq => hw q (by simp [hq])
  obtain ⟨L2, s2, e2, E2, z2, m2, k2⟩ := open_fl Try.underlying23 cells27 (by omega) bytes27 keyV (fun k : List UInt8 => k.length + 1) (fun k => k.length ≤ 140737488351232) (fun m cs x h hw => open_key m cs x h hw) m [c2] x2 f2 fun q hq => hw q (by simp [hq])
  obtain ⟨L3, s3, e3, E3, z3, m3, -⟩ := open_fl Try.underlying24 cells3 (by omega) bytes3 kidV (fun _ : Int => 1) (fun _ => True) (fun m cs x h hw => open_kid m cs x h hw) m [c3] x3 f3 fun q hq => hw q (by simp [hq])
  injection h0 with h0; injection e1 with e1; injection e2 with e2; injection e3 with e3
  subst h0 e1 e2 e3
  refine ⟨⟨b, L1, L2, L3⟩, ⟨_, _, _, rfl, E1, E2, E3⟩, ⟨by simp only; omega, by simp only; omega, by simp only; omega, fun c hc => ?_, fun k hk => ?_⟩, ?_⟩
  · have := k1 c hc
    unfold fitC at this
    omega
  · have := k2 k hk
    omega
  · simp only [massN, List.map_cons, List.map_nil, Rows.uptoBulk, Rows.uptoBulkAll]
    omega
set_option maxRecDepth 100000 in
/-- Arguments. -/
theorem arg_node {H : Type} {enc : TypeId × Value → H} {W : World} {base : Nat} {v : Value} {d : DataW H} {ps : List MemPlace} (hval : Value.okWide Try.prog W .any base 26 v) (h : DataW.Trod enc Try.prog W 0 (fun _ => true) true 26 v d ps) (hw : ∀ k ∈ d.weights Try.prog 26, k ≤ reachBytes) :
    ∃ nd : Nd, NdS W v nd ∧ Fit nd ∧ massN nd ≤ Rows.uptoBulk d := by
  obtain ⟨n, hn⟩ := h
  obtain ⟨nd, h1, h2⟩ := open_node n _ _ hn hw
  obtain ⟨cs, rfl⟩ := agg_of Try.underlying26 hval
  exact ⟨nd, h1, h2⟩
set_option maxRecDepth 100000 in
theorem arg_cell {H : Type} {enc : TypeId × Value → H} {W : World} {base : Nat} {v : Value} {d : DataW H} {ps : List MemPlace} (hval : Value.okWide Try.prog W .any base 44 v) (h : DataW.Trod enc Try.prog W 0 (fun _ => true) true 44 v d ps) (hw : ∀ k ∈ d.weights Try.prog 44, k ≤ reachBytes) :
    ∃ c : C, CeS W v c ∧ massC c ≤ Rows.uptoBulk d ∧ fitC c := by
  obtain ⟨n, hn⟩ := h
  obtain ⟨c, ⟨k, x, e, h1, h2, h3, h4⟩, h5⟩ := open_cell n _ _ hn hw
  obtain ⟨cs, rfl⟩ := agg_of Try.underlying44 hval
  exact ⟨c, ⟨k, x, congrArg Value.agg (Array.ext' e), h1, h2, h3, h4⟩, h5⟩
set_option maxRecDepth 100000 in
theorem arg_bytes {H : Type} {enc : TypeId × Value → H} {W : World} {base : Nat} {v : Value} {d : DataW H} {ps : List MemPlace} (hval : Value.okWide Try.prog W .any base 27 v) (h : DataW.Trod enc Try.prog W 0 (fun _ => true) true 27 v d ps) (hw : ∀ k ∈ d.weights Try.prog 27, k ≤ reachBytes) :
    ∃ t : List UInt8, Bs W v t ∧ t.length ≤ 140737488351232 ∧ t.length ≤ Rows.uptoBulk d := by
  obtain ⟨a0, len0, cap0, rfl⟩ := okWide_slice Try.underlying27 hval
  obtain ⟨n, hn⟩ := h
  obtain ⟨t, ⟨k, e, hb⟩, h1, h2⟩ := open_key n _ _ hn hw
  injection e with e
  subst e
  exact ⟨t, hb, h2, Nat.le_of_succ_le h1⟩
end Go.Proofs.Ytbkpgppaahpalaa
