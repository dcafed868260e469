/-
  What the listed variables give the walks; what is read as data at the type of values, and how much it holds.
-/
import Derived.Test.YtbicodlclmdgaaaGreatDoorShell
import Derived.Test.YtbicodlclmdgaaaGreatDoorRoN
import Derived.Test.YtbicodlclmdgaaaGreatDoorBackC
import Derived.Lib.LaidTab
namespace Go.Proofs.YtbicodlclmdgaaaGreatDoor
open Go.ChangeShapes Go.WideShapes Go.ChangeAt Go.RowKit

theorem gPow : Tryz.prog.globalNamed "internal/strconv.uint64pow10" = some 1 := by kernel_rfl
theorem tRange : (Tryz.prog.globals[5]?).map (·.type) = some 138 := by kernel_rfl
theorem tPow : (Tryz.prog.globals[1]?).map (·.type) = some 143 := by kernel_rfl
theorem cells78 : Tryz.prog.cellsOf 78 = 1 := by kernel_rfl
theorem cells143 : Tryz.prog.cellsOf 143 = 20 := by kernel_rfl
theorem cells165 : Tryz.prog.cellsOf 165 = 1 := by kernel_rfl
theorem star : "*" ++ "errors.errorString" = "*errors.errorString" := by decide
theorem row163 (u : TypeId) (h : Tryz.prog.typeName? 3 u = some "*errors.errorString") : u = 163 :=
  typeName_ptr_named (nm := "errors.errorString") (by rw [star]; kernel_rfl) (by kernel_rfl) (by decide) u (by rw [star]; exact h)
theorem pow_data : (Rows.laid_internal_strconv_uint64pow10 : DataW Unit) = Lib.tabData .u64 Lib.pow10Tab := by kernel_rfl
theorem of_laidG {W : World} (h : laidMetH Tryz.prog laid5 W) : TabOk W ∧ Ev W := by
  rw [MakeChecks.laidMetH_plain _ _ _ (by kernel_rfl)] at h
  have h2 := h.tail.tail
  refine ⟨?_, ?_⟩
  · unfold TabOk
    rw [pow_data] at h2
    exact Lib.tabIs_of_head gPow tPow Tryz.underlying143 Tryz.underlying78 cells78 cells143 h2
  · obtain ⟨a0, s0, hv0, -, -, -⟩ := laid_sentinel h2.tail gl5 tRange Tryz.underlying138 row163 Tryz.underlying163 Tryz.underlying165 rfl rfl Tryz.underlying9 cells165 cells9
    exact ⟨_, _, hv0⟩

theorem ls_ofb {H : Type} {W : World} {b : Nat} : ∀ (es : List (DataW H)) (o : Nat), (∀ i (hi : i < es.length), ∃ (v : V) (sl : Value), W.cell? ⟨b, o + i * 4, none⟩ = some (.int .i64 v.k) ∧ W.cell? ⟨b, o + i * 4 + 1, none⟩ = some (.int .i64 v.n) ∧ W.cell? ⟨b, o + i * 4 + 2, none⟩ = some (.string v.s) ∧ W.cell? ⟨b, o + i * 4 + 3, none⟩ = some sl ∧ v.In W 0 sl ∧ v.many ≤ Rows.uptoBulk es[i]) →
    ∃ l : List V, l.length = es.length ∧ Ls W 0 l b o ∧ manyL l ≤ Rows.uptoBulkAll es
  | [], _, _ => ⟨[], rfl, by simp only [Ls], by simp [manyL]⟩
  | e :: es, o, h => by
    obtain ⟨v, sl, c0, c1, c2, c3, hv, hm⟩ := h 0 (by simp)
    obtain ⟨l, hl, hr, hb⟩ := ls_ofb es (o + 4) fun i hi => by
      obtain ⟨v, sl, c0, c1, c2, c3, hv, hm⟩ := h (i + 1) (by simpa using hi)
      rw [show o + (i + 1) * 4 = o + 4 + i * 4 by omega] at c0 c1 c2 c3
      exact ⟨v, sl, c0, c1, c2, c3, hv, by simpa using hm⟩
    simp only [Nat.zero_mul, Nat.add_zero] at c0 c1 c2 c3
    refine ⟨v :: l, by simp [hl], by simp only [Ls]; exact ⟨sl, c0, c1, c2, c3, hv, hr⟩, ?_⟩
    simp only [List.getElem_cons_zero] at hm
    simp only [manyL, Rows.uptoBulkAll]; omega
theorem bulk_all_le {H : Type} : ∀ (a b : List (DataW H)), Rows.uptoBulkAll a ≤ Rows.uptoBulkAll (a ++ b)
  | [], b => by simp [Rows.uptoBulkAll]
  | x :: a, b => by
    have := bulk_all_le a b
    simp only [List.cons_append, Rows.uptoBulkAll]; omega

theorem open_listb {H : Type} {enc : TypeId × Value → H} {W : World} {n : Nat} (ih : ∀ m, m < n → ∀ (cs : List Value) (x : DataW H × List MemPlace), DataW.trod enc Tryz.prog W 0 (fun _ => true) true m 24 cs = some x → (∀ k ∈ x.1.weights Tryz.prog 24, k ≤ reachBytes) →
      ∃ (v : V) (sl : Value), cs = [.int .i64 v.k, .int .i64 v.n, .string v.s, sl] ∧ v.In W 0 sl ∧ v.many ≤ Rows.uptoBulk x.1)
    (cs : List Value) (x : DataW H × List MemPlace) (h : DataW.trod enc Tryz.prog W 0 (fun _ => true) true n 22 cs = some x) (hw : ∀ k ∈ x.1.weights Tryz.prog 22, k ≤ reachBytes) :
    ∃ (l : List V) (sl : Value), cs = [sl] ∧ Sl W 0 l sl ∧ manyL l ≤ Rows.uptoBulk x.1 := by
  rcases DataW.trod_slice Tryz.underlying22 h with ⟨rfl, rfl⟩ | ⟨a, len, cap, elems, rest, m, rfl, rfl, rfl, hb, hl, hm, hlen, hel, hsp, hns⟩
  · exact ⟨[], .slice none 0 0, rfl, ⟨none, 0, rfl, Nat.le_refl _, by unfold maxLen; omega, by simp, .inl rfl⟩, by simp [manyL]⟩
  · rw [cellsV] at hel
    simp only [DataW.weights, Tryz.underlying22, bytes24, List.length_map] at hw
    have hreach := hw _ (List.mem_cons.2 (.inl rfl))
    have hr : len * 56 ≤ 140737488351232 := by
      unfold reachBytes at hreach
      rw [hlen] at hreach
      have : len * 56 ≤ (len + rest.length) * 56 := Nat.mul_le_mul_right _ (by omega)
      omega
    have hadd : ∀ n, (a.add n).block = a.block ∧ (a.add n).off = a.off + n := by
      intro n; unfold Addr.add; split <;> simp_all
    have each : ∀ i (hi : i < len), ∃ (v : V) (sl : Value), (i = 0 → a.spot = none) ∧ W.cell? ⟨a.block, a.off + i * 4, none⟩ = some (.int .i64 v.k) ∧ W.cell? ⟨a.block, a.off + i * 4 + 1, none⟩ = some (.int .i64 v.n) ∧ W.cell? ⟨a.block, a.off + i * 4 + 2, none⟩ = some (.string v.s) ∧ W.cell? ⟨a.block, a.off + i * 4 + 3, none⟩ = some sl ∧ v.In W 0 sl ∧ v.many ≤ Rows.uptoBulk (elems[i]'(by omega)).1 := by
      intro i hi
      have he := hel i hi
      rw [List.getElem?_eq_getElem (by omega), Option.bind_eq_some_iff] at he
      obtain ⟨ci, hci, htr⟩ := he
      obtain ⟨v, sl, rfl, hv, hmm⟩ := ih m (by omega) ci _ htr fun k hk => hw k (List.mem_cons.2 (.inr (List.mem_append_left _ (all_mem (List.mem_map.2 ⟨_, List.getElem_mem _, rfl⟩) hk))))
      obtain ⟨c0, c1, c2, c3, hcs, hsp, k0, k1, k2, k3⟩ := cells_four hci
      injection hcs with e0 hcs; injection hcs with e1 hcs; injection hcs with e2 hcs; injection hcs with e3 hcs
      subst e0 e1 e2 e3
      rw [(hadd (i * 4)).1, (hadd (i * 4)).2] at k0 k1 k2 k3
      refine ⟨v, sl, fun hi0 => ?_, k0, k1, k2, k3, hv, hmm⟩
      subst hi0
      simpa [Addr.add] using hsp
    by_cases h0 : len = 0
    · subst h0
      exact ⟨[], _, rfl, ⟨some a, cap, rfl, Nat.zero_le _, hm, by simp, .inl rfl⟩, by simp [manyL]⟩
    · obtain ⟨-, -, hs, -⟩ := each 0 (by omega)
      have hel' : elems.length = len := by omega
      obtain ⟨l, hll, hL, hMl⟩ := ls_ofb (W := W) (b := a.block) (elems.map (·.1)) a.off fun i hi => by
        obtain ⟨v, sl, -, h1⟩ := each i (by simpa [hel'] using hi)
        exact ⟨v, sl, by simp only [List.getElem_map]; exact h1⟩
      rw [List.length_map, hel'] at hll
      refine ⟨l, _, rfl, ⟨some a, cap, by rw [hll], by omega, hm, by rw [hll]; exact hr, .inr ⟨a.block, a.off, ?_, Nat.zero_le _, hL⟩⟩, ?_⟩
      · obtain ⟨b, o, sp⟩ := a
        have : sp = none := hs rfl
        subst this
        rfl
      · simp only [Rows.uptoBulk]
        omega
set_option maxRecDepth 100000 in
theorem open_valb {H : Type} {enc : TypeId × Value → H} {W : World} : ∀ (n : Nat) (cs : List Value) (x : DataW H × List MemPlace), DataW.trod enc Tryz.prog W 0 (fun _ => true) true n 24 cs = some x → (∀ k ∈ x.1.weights Tryz.prog 24, k ≤ reachBytes) →
    ∃ (v : V) (sl : Value), cs = [.int .i64 v.k, .int .i64 v.n, .string v.s, sl] ∧ v.In W 0 sl ∧ v.many ≤ Rows.uptoBulk x.1 := by
  intro n
  induction n using Nat.strongRecOn with
  | ind n ih =>
    intro cs x h hw
    obtain ⟨xs, m, rfl, rfl, hl, hxl, hf⟩ := DataW.trod_struct Tryz.underlying24 h
    rw [cellsV] at hl
    obtain ⟨c0, c1, c2, c3, rfl⟩ := four_list hl
    obtain ⟨x0, x1, x2, x3, rfl⟩ := four_list (show xs.length = 4 from hxl)
    have f0 := hf 0 _ rfl
    have f1 := hf 1 _ rfl
    have f2 := hf 2 _ rfl
    have f3 := hf 3 _ rfl
    simp only [List.getElem?_cons_zero, List.getElem?_cons_succ] at f0 f1 f2 f3
    obtain ⟨k, hk, rfl, wk⟩ := DataW.trod_int Tryz.underlying3 f0
    obtain ⟨n1, hn1, rfl, wn⟩ := DataW.trod_int Tryz.underlying2 f1
    obtain ⟨s, hs, rfl, hss⟩ := DataW.trod_string Tryz.underlying9 f2
    simp only [List.map_cons, List.map_nil, DataW.weights, Tryz.underlying24, DataW.weightsEach, List.nil_append, List.append_nil] at hw
    obtain ⟨l, sl, hsl, hS, hM⟩ := open_listb (n := m) (fun m' hm' => ih m' (by omega)) [c3] x3 f3 fun q hq => hw q (by simp [hq])
    have hsz : s.size ≤ 140737488351232 := by
      have := hw s.data.toList.length (by simp)
      rw [Array.length_toList] at this
      exact this
    injection hk with hk; injection hn1 with hn1; injection hs with hs; injection hsl with hsl
    subst hk hn1 hs hsl
    refine ⟨.mk k n1 s l, c3, rfl, ?_, ?_⟩
    · rw [V.in_iff]
      exact ⟨i64_wf wk, i64_wf wn, hsz, hS⟩
    · simp only [V.many, List.map_cons, List.map_nil, Rows.uptoBulk, Rows.uptoBulkAll, Array.length_toList]
      have e : s.data.size = s.size := rfl
      omega
set_option maxRecDepth 100000 in
/-- An argument of the type of values, and how much it holds. -/
theorem arg_valb {H : Type} {enc : TypeId × Value → H} {W : World} {base : Nat} {v : Value} {d : DataW H} {ps : List MemPlace} (hval : Value.okWide Tryz.prog W .any base 24 v) (h : DataW.Trod enc Tryz.prog W 0 (fun _ => true) true 24 v d ps) (hw : ∀ k ∈ d.weights Tryz.prog 24, k ≤ reachBytes) :
    ∃ (x : V) (sl : Value), v = x.agg sl ∧ x.In W 0 sl ∧ x.many ≤ Rows.uptoBulk d := by
  obtain ⟨n, hn⟩ := h
  obtain ⟨x, sl, hcs, hin, hm⟩ := open_valb n _ _ hn hw
  obtain ⟨cs, rfl⟩ := agg_of Tryz.underlying24 hval
  refine ⟨x, sl, ?_, hin, hm⟩
  unfold V.agg
  exact congrArg Value.agg (Array.ext' hcs)
end Go.Proofs.YtbicodlclmdgaaaGreatDoor
