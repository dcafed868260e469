/-
  What the statements' shells share: arguments that are values, rows of values and bytes, and how much they hold.
-/
import Derived.Test.YtbgikgeknnmelaaGreatRows
import Derived.Test.YtbgikgeknnmelaaGreatRead
import Derived.Test.YtbgikgeknnmelaaGreatKeyM
import Derived.Test.YtbgikgeknnmelaaGreatBs
import Derived.JoinedCond
import Derived.Deep.CondSized
import Derived.OpenShut
import Derived.ShutString
namespace Go.Proofs.YtbgikgeknnmelaaGreat
open Go.ChangeShapes Go.WideShapes Go.ChangeAt Go.RowKit

theorem own : ownKnob Tryz.prog.godebug = none := by kernel_rfl
theorem laidOut : laidOutB Tryz.prog = true := by kernel_rfl
theorem read31 : Tryz.prog.readableRec 29 = true := by kernel_rfl
theorem lt31 : 29 < Tryz.prog.types.size := of_decide_eq_true (by kernel_rfl)
theorem read22 : Tryz.prog.readableRec 27 = true := by kernel_rfl
theorem lt22 : 27 < Tryz.prog.types.size := of_decide_eq_true (by kernel_rfl)
theorem read23 : Tryz.prog.readableRec 36 = true := by kernel_rfl
theorem lt23 : 36 < Tryz.prog.types.size := of_decide_eq_true (by kernel_rfl)
theorem cells5 : Tryz.prog.cellsOf 5 = 1 := by kernel_rfl
theorem bytes5 : Tryz.prog.bytesOf 5 = 1 := by kernel_rfl
theorem weigh {H : Type} {ts : List TypeId} {ds : List (DataW H)} (hsz : (DataW.weightsEach Tryz.prog ts ds).all (· ≤ reachBytes) = true) {j : Nat} {t : TypeId} {d : DataW H} (ht : ts[j]? = some t) (hd : ds[j]? = some d) : ∀ k ∈ d.weights Tryz.prog t, k ≤ reachBytes := fun k hk => by
  simpa using List.all_eq_true.1 hsz _ (DataW.weights_mem_each ht hd k hk)

theorem ls_ofb {H : Type} {W : World} {b : Nat} : ∀ (es : List (DataW H)) (o : Nat), (∀ i (hi : i < es.length), ∃ (v : V) (sl : Value), W.cell? ⟨b, o + i * 4, none⟩ = some (.int .i64 v.k) ∧ W.cell? ⟨b, o + i * 4 + 1, none⟩ = some (.int .i64 v.n) ∧ W.cell? ⟨b, o + i * 4 + 2, none⟩ = some (.string v.s) ∧ W.cell? ⟨b, o + i * 4 + 3, none⟩ = some sl ∧ v.In W 0 sl ∧ v.many ≤ Rows.uptoBulk es[i]) →
    ∃ l : List V, l.length = es.length ∧ Ls W 0 l b o ∧ manyL l ≤ Rows.uptoBulkAll es
  | [], _, _ => ⟨[], rfl, by simp only [Ls], by simp [manyL]⟩
  | e :: es, o, h => by
    obtain ⟨v, sl, c0, c1, c2, c3, hv, hm⟩ := h 0 (by simp)
    obtain ⟨l, hl, hr, hb⟩ := ls_ofb es (o + 4) fun i hi => by
      obtain ⟨v, sl, c0, c1, c2, c3, hv, hm⟩ := h (i + 1) (by simpa using hi)
      rw [show o + (i + 1) * 4 = o + 4 + i * 4 by omega] at c0 c1 c2 c3
      exact ⟨v, sl, c0, c1, c2, c3, hv, by simpa using hm⟩
    simp only [Nat.zero_mul, Nat.add_zero] at c0 c1 c2 c3
    refine ⟨v :: l, by simp [hl], by simp only [Ls]; exact ⟨sl, c0, c1, c2, c3, hv, hr⟩, ?_⟩
    simp only [List.getElem_cons_zero] at hm
    simp only [manyL, Rows.uptoBulkAll]; omega
theorem bulk_all_le {H : Type} : ∀ (a b : List (DataW H)), Rows.uptoBulkAll a ≤ Rows.uptoBulkAll (a ++ b)
  | [], b => by simp [Rows.uptoBulkAll]
  | x :: a, b => by
    have := bulk_all_le a b
    simp only [List.cons_append, Rows.uptoBulkAll]; omega

theorem open_listb {H : Type} {enc : TypeId × Value → H} {W : World} {n : Nat} (ih : ∀ m, m < n → ∀ (cs : List Value) (x : DataW H × List MemPlace), DataW.trod enc Tryz.prog W 0 (fun _ => true) true m 29 cs = some x → (∀ k ∈ x.1.weights Tryz.prog 29, k ≤ reachBytes) →
      ∃ (v : V) (sl : Value), cs = [.int .i64 v.k, .int .i64 v.n, .string v.s, sl] ∧ v.In W 0 sl ∧ v.many ≤ Rows.uptoBulk x.1)
    (cs : List Value) (x : DataW H × List MemPlace) (h : DataW.trod enc Tryz.prog W 0 (fun _ => true) true n 27 cs = some x) (hw : ∀ k ∈ x.1.weights Tryz.prog 27, k ≤ reachBytes) :
    ∃ (l : List V) (sl : Value), cs = [sl] ∧ Sl W 0 l sl ∧ manyL l ≤ Rows.uptoBulk x.1 := by
  rcases DataW.trod_slice Tryz.underlying27 h with ⟨rfl, rfl⟩ | ⟨a, len, cap, elems, rest, m, rfl, rfl, rfl, hb, hl, hm, hlen, hel, hsp, hns⟩
  · exact ⟨[], .slice none 0 0, rfl, ⟨none, 0, rfl, Nat.le_refl _, by unfold maxLen; omega, by simp, .inl rfl⟩, by simp [manyL]⟩
  · rw [cellsV] at hel
    simp only [DataW.weights, Tryz.underlying27, bytes24, List.length_map] at hw
    have hreach := hw _ (List.mem_cons.2 (.inl rfl))
    have hr : len * 56 ≤ 140737488351232 := by
      unfold reachBytes at hreach
      rw [hlen] at hreach
      have : len * 56 ≤ (len + rest.length) * 56 := Nat.mul_le_mul_right _ (by omega)
      omega
    have hadd : ∀ n, (a.add n).block = a.block ∧ (a.add n).off = a.off + n := by
      intro n; unfold Addr.add; split <;> simp_all
    have each : ∀ i (hi : i < len), ∃ (v : V) (sl : Value), (i = 0 → a.spot = none) ∧ W.cell? ⟨a.block, a.off + i * 4, none⟩ = some (.int .i64 v.k) ∧ W.cell? ⟨a.block, a.off + i * 4 + 1, none⟩ = some (.int .i64 v.n) ∧ W.cell? ⟨a.block, a.off + i * 4 + 2, none⟩ = some (.string v.s) ∧ W.cell? ⟨a.block, a.off + i * 4 + 3, none⟩ = some sl ∧ v.In W 0 sl ∧ v.many ≤ Rows.uptoBulk (elems[i]'(by omega)).1 := by
      intro i hi
      have he := hel i hi
      rw [List.getElem?_eq_getElem (by omega), Option.bind_eq_some_iff] at he
      obtain ⟨ci, hci, htr⟩ := he
      obtain ⟨v, sl, rfl, hv, hmm⟩ := ih m (by omega) ci _ htr fun k hk => hw k (List.mem_cons.2 (.inr (List.mem_append_left _ (all_mem (List.mem_map.2 ⟨_, List.getElem_mem _, rfl⟩) hk))))
      obtain ⟨c0, c1, c2, c3, hcs, hsp, k0, k1, k2, k3⟩ := cells_four hci
      injection hcs with e0 hcs; injection hcs with e1 hcs; injection hcs with e2 hcs; injection hcs with e3 hcs
      subst e0 e1 e2 e3
      rw [(hadd (i * 4)).1, (hadd (i * 4)).2] at k0 k1 k2 k3
      refine ⟨v, sl, fun hi0 => ?_, k0, k1, k2, k3, hv, hmm⟩
      subst hi0
      simpa [Addr.add] using hsp
    by_cases h0 : len = 0
    · subst h0
      exact ⟨[], _, rfl, ⟨some a, cap, rfl, Nat.zero_le _, hm, by simp, .inl rfl⟩, by simp [manyL]⟩
    · obtain ⟨-, -, hs, -⟩ := each 0 (by omega)
      have hel' : elems.length = len := by omega
      obtain ⟨l, hll, hL, hMl⟩ := ls_ofb (W := W) (b := a.block) (elems.map (·.1)) a.off fun i hi => by
        obtain ⟨v, sl, -, h1⟩ := each i (by simpa [hel'] using hi)
        exact ⟨v, sl, by simp only [List.getElem_map]; exact h1⟩
      rw [List.length_map, hel'] at hll
      refine ⟨l, _, rfl, ⟨some a, cap, by rw [hll], by omega, hm, by rw [hll]; exact hr, .inr ⟨a.block, a.off, ?_, Nat.zero_le _, hL⟩⟩, ?_⟩
      · obtain ⟨b, o, sp⟩ := a
        have : sp = none := hs rfl
        subst this
        rfl
      · simp only [Rows.uptoBulk]
        omega
set_option maxRecDepth 100000 in
theorem open_valb {H : Type} {enc : TypeId × Value → H} {W : World} : ∀ (n : Nat) (cs : List Value) (x : DataW H × List MemPlace), DataW.trod enc Tryz.prog W 0 (fun _ => true) true n 29 cs = some x → (∀ k ∈ x.1.weights Tryz.prog 29, k ≤ reachBytes) →
    ∃ (v : V) (sl : Value), cs = [.int .i64 v.k, .int .i64 v.n, .string v.s, sl] ∧ v.In W 0 sl ∧ v.many ≤ Rows.uptoBulk x.1 := by
  intro n
  induction n using Nat.strongRecOn with
  | ind n ih =>
    intro cs x h hw
    obtain ⟨xs, m, rfl, rfl, hl, hxl, hf⟩ := DataW.trod_struct Tryz.underlying29 h
    rw [cellsV] at hl
    obtain ⟨c0, c1, c2, c3, rfl⟩ := four_list hl
    obtain ⟨x0, x1, x2, x3, rfl⟩ := four_list (show xs.length = 4 from hxl)
    have f0 := hf 0 _ rfl
    have f1 := hf 1 _ rfl
    have f2 := hf 2 _ rfl
    have f3 := hf 3 _ rfl
    simp only [List.getElem?_cons_zero, List.getElem?_cons_succ] at f0 f1 f2 f3
    obtain ⟨k, hk, rfl, wk⟩ := DataW.trod_int Tryz.underlying3 f0
    obtain ⟨n1, hn1, rfl, wn⟩ := DataW.trod_int Tryz.underlying2 f1
    obtain ⟨s, hs, rfl, hss⟩ := DataW.trod_string Tryz.underlying9 f2
    simp only [List.map_cons, List.map_nil, DataW.weights, Tryz.underlying29, DataW.weightsEach, List.nil_append, List.append_nil] at hw
    obtain ⟨l, sl, hsl, hS, hM⟩ := open_listb (n := m) (fun m' hm' => ih m' (by omega)) [c3] x3 f3 fun q hq => hw q (by simp [hq])
    have hsz : s.size ≤ 140737488351232 := by
      have := hw s.data.toList.length (by simp)
      rw [Array.length_toList] at this
      exact this
    injection hk with hk; injection hn1 with hn1; injection hs with hs; injection hsl with hsl
    subst hk hn1 hs hsl
    refine ⟨.mk k n1 s l, c3, rfl, ?_, ?_⟩
    · rw [V.in_iff]
      exact ⟨i64_wf wk, i64_wf wn, hsz, hS⟩
    · simp only [V.many, List.map_cons, List.map_nil, Rows.uptoBulk, Rows.uptoBulkAll, Array.length_toList]
      have e : s.data.size = s.size := rfl
      omega
set_option maxRecDepth 100000 in
/-- An argument of the type of values, and how much it holds. -/
theorem arg_valb {H : Type} {enc : TypeId × Value → H} {W : World} {base : Nat} {v : Value} {d : DataW H} {ps : List MemPlace} (hval : Value.okWide Tryz.prog W .any base 29 v) (h : DataW.Trod enc Tryz.prog W 0 (fun _ => true) true 29 v d ps) (hw : ∀ k ∈ d.weights Tryz.prog 29, k ≤ reachBytes) :
    ∃ (x : V) (sl : Value), v = x.agg sl ∧ x.In W 0 sl ∧ x.many ≤ Rows.uptoBulk d := by
  obtain ⟨n, hn⟩ := h
  obtain ⟨x, sl, hcs, hin, hm⟩ := open_valb n _ _ hn hw
  obtain ⟨cs, rfl⟩ := agg_of Tryz.underlying29 hval
  refine ⟨x, sl, ?_, hin, hm⟩
  unfold V.agg
  exact congrArg Value.agg (Array.ext' hcs)

set_option maxRecDepth 100000 in
/-- An argument of the type of slices of values, and how much it holds. -/
theorem arg_listb {H : Type} {enc : TypeId × Value → H} {W : World} {v : Value} {d : DataW H} {ps : List MemPlace} (h : DataW.Trod enc Tryz.prog W 0 (fun _ => true) true 27 v d ps) (hv : v.cells.toList = [v]) (hw : ∀ k ∈ d.weights Tryz.prog 27, k ≤ reachBytes) :
    ∃ l : List V, Sl W 0 l v ∧ manyL l ≤ Rows.uptoBulk d := by
  obtain ⟨n, hn⟩ := h
  obtain ⟨l, sl, hcs, hin, hm⟩ := open_listb (n := n) (fun m _ => open_valb m) _ _ hn hw
  rw [hv] at hcs
  injection hcs with hcs
  subst hcs
  exact ⟨l, hin, hm⟩
theorem lits_bulk {H : Type} (zs : List Int) : Rows.uptoBulkAll (lits .u8 zs : List (DataW H)) = zs.length := by
  induction zs with
  | nil => rfl
  | cons z zs ih =>
    unfold lits at *
    simp only [List.map_cons, Rows.uptoBulkAll, Rows.uptoBulk, ih, List.length_cons]; omega
theorem slice_cells {p : Option Addr} {n c : Nat} : (Value.slice p n c).cells.toList = [.slice p n c] := rfl
set_option maxRecDepth 100000 in
/-- An argument of the type of bytes, and how many they are. -/
theorem arg_bytes {H : Type} {enc : TypeId × Value → H} {W : World} {base : Nat} {v : Value} {d : DataW H} {ps : List MemPlace} (hval : Value.okWide Tryz.prog W .any base 36 v) (h : DataW.Trod enc Tryz.prog W 0 (fun _ => true) true 36 v d ps) (hw : ∀ k ∈ d.weights Tryz.prog 36, k ≤ reachBytes) :
    ∃ t : List UInt8, Bs W v t ∧ t.length ≤ 140737488351232 ∧ t.length ≤ Rows.uptoBulk d := by
  obtain ⟨a0, len0, cap0, rfl⟩ := okWide_slice Tryz.underlying36 hval
  obtain ⟨fuel, hf⟩ := h
  rcases open_ints Tryz.underlying36 Tryz.underlying5 cells5 hf with ⟨hcs, _⟩ | ⟨x, l, c, zs, hcs, _, hl, hm, hz, hx, hcell, hwz⟩
  · simp [Value.cells] at hcs
    obtain ⟨rfl, rfl, rfl⟩ := hcs
    exact ⟨[], bs_nil W, by simp, by simp⟩
  · simp [Value.cells] at hcs
    obtain ⟨rfl, rfl, rfl⟩ := hcs
    simp only [Prod.mk.injEq] at hx
    obtain ⟨rfl, rfl⟩ := hx
    have hz' : zs.length = cap0 := by simpa using hz
    have hreach : cap0 ≤ 140737488351232 := by
      have := hw ((lits (H := H) .u8 (zs.take len0)).length + (lits (H := H) .u8 (zs.drop len0)).length) (by simp [DataW.weights, Tryz.underlying36, bytes5])
      simp only [lits, List.length_map, List.length_take, List.length_drop, reachBytes] at this
      omega
    have hbt : ∀ z ∈ zs, 0 ≤ z ∧ z ≤ 255 := fun z hz => by
      have := hwz z hz
      simpa [Lit.wf, IntKind.min, IntKind.max, IntKind.signed, IntKind.bits] using this
    have hlen : ((zs.take len0).map fun z => UInt8.ofNat z.toNat).length = len0 := by simp; omega
    refine ⟨(zs.take len0).map fun z => UInt8.ofNat z.toNat, ⟨_, cap0, by rw [hlen], by rw [hlen]; exact hl, hm, fun e => (by cases e), ?_⟩, by rw [hlen]; omega, ?_⟩
    · by_cases h0 : len0 = 0
      · exact .inl (List.eq_nil_of_length_eq_zero (by rw [hlen]; exact h0))
      · obtain ⟨b, off, rfl, hc⟩ := ints_at hcell (by omega)
        refine .inr ⟨b, off, rfl, fun i hi => ?_⟩
        rw [hlen] at hi
        have hi' : i < zs.length := by omega
        rw [hc i hi']
        have hb := hbt zs[i] (List.getElem_mem hi')
        have e : zs.getD i 0 = zs[i] := by simp [hi']
        have e2 : ((((zs.take len0).map fun z => UInt8.ofNat z.toNat)[i]'(by rw [hlen]; exact hi)).toNat : Int) = zs[i] := by
          rw [List.getElem_map, List.getElem_take, toNat_of (by omega)]
          omega
        rw [e, e2]
    · simp only [Rows.uptoBulk, lits_bulk]
      rw [hlen]; simp; omega
end Go.Proofs.YtbgikgeknnmelaaGreat
