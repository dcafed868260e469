/-
  What is read as data at the types of properties, vertices and edges is one in memory, and how much it holds.
-/
import Derived.Test.YtbgikgeknnmelaaGreatShell
import Derived.Test.YtbgikgeknnmelaaGreatRw
import Derived.Test.YtbgikgeknnmelaaGreatKy
namespace Go.Proofs.YtbgikgeknnmelaaGreat
open Go.ChangeShapes Go.WideShapes Go.ChangeAt Go.RowKit
set_option linter.unusedVariables false

theorem cellsP : Tryz.prog.cellsOf 65 = 5 := by kernel_rfl
theorem cellsX : Tryz.prog.cellsOf 24 = 3 := by kernel_rfl
theorem cellsL : Tryz.prog.cellsOf 26 = 5 := by kernel_rfl
theorem bytesP : Tryz.prog.bytesOf 65 = 72 := by kernel_rfl
theorem cells_five {w : World} {a : Addr} {cs : List Value} (h : w.cells? 0 a 5 = some cs) : a.spot = none ∧ ∀ j u, cs[j]? = some u → w.cell? ⟨a.block, a.off + j, none⟩ = some u := by
  obtain ⟨b, o, sp⟩ := a
  unfold World.cells? at h
  rw [if_pos (Nat.zero_le _)] at h
  simp only [List.range, List.range.loop, List.mapM_cons, List.mapM_nil, Option.bind_eq_bind, Option.bind_eq_some_iff, Option.pure_def, Option.some.injEq] at h
  obtain ⟨c0, h0, _, ⟨c1, h1, _, ⟨c2, h2, _, ⟨c3, h3, _, ⟨c4, h4, _, rfl, rfl⟩, rfl⟩, rfl⟩, rfl⟩, rfl⟩ := h
  have hs : sp = none := by simpa [Addr.add] using World.cell?_spot h0
  subst hs
  refine ⟨rfl, fun j u hj => ?_⟩
  match j, hj with
  | 0, hj => cases hj; simpa [Addr.add] using h0
  | 1, hj => cases hj; simpa [Addr.add] using h1
  | 2, hj => cases hj; simpa [Addr.add] using h2
  | 3, hj => cases hj; simpa [Addr.add] using h3
  | 4, hj => cases hj; simpa [Addr.add] using h4
  | _ + 5, hj => simp at hj
theorem lq_ofb {α H : Type} {R : El α} {M : α → Nat} {W : World} {b : Nat} : ∀ (es : List (DataW H)) (o : Nat), (∀ i (hi : i < es.length), ∃ (v : α) (sl : Value), Ats W b (o + i * R.n) (R.cs v sl) ∧ R.In W 0 v sl ∧ M v ≤ Rows.uptoBulk es[i]) → ∃ l : List α, l.length = es.length ∧ Lq R W 0 l b o ∧ (l.map M).sum ≤ Rows.uptoBulkAll es
  | [], _, _ => ⟨[], rfl, trivial, Nat.zero_le _⟩
  | e :: es, o, h => by
    obtain ⟨v, sl, c, hv, hm⟩ := h 0 (by simp)
    obtain ⟨l, hl, hr, hb⟩ := lq_ofb (M := M) es (o + R.n) fun i hi => by
      obtain ⟨v, sl, c, hv, hm⟩ := h (i + 1) (by simpa using hi)
      rw [show o + (i + 1) * R.n = o + R.n + i * R.n by rw [Nat.succ_mul]; omega] at c
      exact ⟨v, sl, c, hv, by simpa using hm⟩
    simp only [Nat.zero_mul, Nat.add_zero] at c
    simp only [List.getElem_cons_zero] at hm
    refine ⟨v :: l, by simp [hl], ⟨sl, c, hv, hr⟩, ?_⟩
    simp only [List.map_cons, List.sum_cons, Rows.uptoBulkAll]; omega
/-- A slice of elements, where each of them is one, and how much they hold. -/
theorem open_sqb {α : Type} {R : El α} {M : α → Nat} {LT ET : TypeId} (hu : Tryz.prog.underlying LT = some (.slice ET)) (hcn : Tryz.prog.cellsOf ET = R.n) (hbn : Tryz.prog.bytesOf ET = R.bytes) {H : Type} {enc : TypeId × Value → H} {W : World} {n : Nat}
    (hcells : ∀ (a : Addr) (cs : List Value), W.cells? 0 a R.n = some cs → a.spot = none ∧ ∀ j u, cs[j]? = some u → W.cell? ⟨a.block, a.off + j, none⟩ = some u)
    (ih : ∀ m, m < n → ∀ (cs : List Value) (x : DataW H × List MemPlace), DataW.trod enc Tryz.prog W 0 (fun _ => true) true m ET cs = some x → (∀ k ∈ x.1.weights Tryz.prog ET, k ≤ reachBytes) → ∃ (v : α) (sl : Value), cs = R.cs v sl ∧ R.In W 0 v sl ∧ M v ≤ Rows.uptoBulk x.1)
    (cs : List Value) (x : DataW H × List MemPlace) (h : DataW.trod enc Tryz.prog W 0 (fun _ => true) true n LT cs = some x) (hw : ∀ k ∈ x.1.weights Tryz.prog LT, k ≤ reachBytes) :
    ∃ (l : List α) (sl : Value), cs = [sl] ∧ Sq R W 0 l sl ∧ (l.map M).sum ≤ Rows.uptoBulk x.1 := by
  rcases DataW.trod_slice hu h with ⟨rfl, rfl⟩ | ⟨a, len, cap, elems, rest, m, rfl, rfl, rfl, hb, hl, hm, hlen, hel, hsp, hns⟩
  · exact ⟨[], .slice none 0 0, rfl, Sq.nil _ _, Nat.zero_le _⟩
  · rw [hcn] at hel
    simp only [DataW.weights, hu, hbn, List.length_map] at hw
    have hreach := hw _ (List.mem_cons.2 (.inl rfl))
    have hr : len * R.bytes ≤ 140737488351232 := by
      unfold reachBytes at hreach
      rw [hlen] at hreach
      have : len * R.bytes ≤ (len + rest.length) * R.bytes := Nat.mul_le_mul_right _ (by omega)
      omega
    have hadd : ∀ n, (a.add n).block = a.block ∧ (a.add n).off = a.off + n := by
      intro n; unfold Addr.add; split <;> simp_all
    have hel' : elems.length = len := by omega
    have each : ∀ i (hi : i < len), ∃ (v : α) (sl : Value), (i = 0 → a.spot = none) ∧ Ats W a.block (a.off + i * R.n) (R.cs v sl) ∧ R.In W 0 v sl ∧ M v ≤ Rows.uptoBulk (elems[i]'(by omega)).1 := by
      intro i hi
      have he := hel i hi
      rw [List.getElem?_eq_getElem (by omega), Option.bind_eq_some_iff] at he
      obtain ⟨ci, hci, htr⟩ := he
      obtain ⟨v, sl, rfl, hv, hmm⟩ := ih m (by omega) ci _ htr fun k hk => hw k (List.mem_cons.2 (.inr (List.mem_append_left _ (all_mem (List.mem_map.2 ⟨_, List.getElem_mem _, rfl⟩) hk))))
      obtain ⟨hsp, hk⟩ := hcells _ _ hci
      rw [(hadd (i * R.n)).1, (hadd (i * R.n)).2] at hk
      refine ⟨v, sl, fun hi0 => ?_, hk, hv, hmm⟩
      subst hi0
      simpa [Addr.add] using hsp
    by_cases h0 : len = 0
    · subst h0
      exact ⟨[], _, rfl, ⟨some a, cap, rfl, Nat.zero_le _, hm, by simp, .inl rfl⟩, Nat.zero_le _⟩
    · obtain ⟨-, -, hs, -⟩ := each 0 (by omega)
      obtain ⟨l, hll, hL, hMl⟩ := lq_ofb (R := R) (M := M) (W := W) (b := a.block) (elems.map (·.1)) a.off fun i hi => by
        obtain ⟨v, sl, -, h1⟩ := each i (by simpa [hel'] using hi)
        exact ⟨v, sl, by simp only [List.getElem_map]; exact h1⟩
      rw [List.length_map, hel'] at hll
      refine ⟨l, _, rfl, ⟨some a, cap, by rw [hll], by omega, hm, by rw [hll]; exact hr, .inr ⟨a.block, a.off, ?_, Nat.zero_le _, hL⟩⟩, ?_⟩
      · obtain ⟨b, o, sp⟩ := a
        have : sp = none := hs rfl
        subst this
        rfl
      · simp only [Rows.uptoBulk]
        omega
theorem five_list {α : Type} {l : List α} (h : l.length = 5) : ∃ a b c d e, l = [a, b, c, d, e] := by
  match l, h with
  | [a, b, c, d, e], _ => exact ⟨a, b, c, d, e, rfl⟩
theorem three_list {α : Type} {l : List α} (h : l.length = 3) : ∃ a b c, l = [a, b, c] := by
  match l, h with
  | [a, b, c], _ => exact ⟨a, b, c, rfl⟩
theorem two_list {α : Type} {l : List α} (h : l.length = 2) : ∃ a b, l = [a, b] := by
  match l, h with
  | [a, b], _ => exact ⟨a, b, rfl⟩
theorem str_sz {s : ByteArray} (h : s.data.toList.length ≤ reachBytes) : S64 s := by
  unfold S64
  rw [Array.length_toList] at h
  exact h
/-- How much a property holds. -/
def Pr.mn (p : Pr) : Nat := p.nm.size + p.v.many + 1
set_option maxRecDepth 100000 in
theorem open_prb {H : Type} {enc : TypeId × Value → H} {W : World} (n : Nat) (cs : List Value) (x : DataW H × List MemPlace) (h : DataW.trod enc Tryz.prog W 0 (fun _ => true) true n 65 cs = some x) (hw : ∀ k ∈ x.1.weights Tryz.prog 65, k ≤ reachBytes) :
    ∃ (v : Pr) (sl : Value), cs = RP.cs v sl ∧ RP.In W 0 v sl ∧ v.mn ≤ Rows.uptoBulk x.1 := by
  obtain ⟨xs, m, rfl, rfl, hl, hxl, hf⟩ := DataW.trod_struct Tryz.underlying65 h
  rw [cellsP] at hl
  obtain ⟨c0, c1, c2, c3, c4, rfl⟩ := five_list hl
  obtain ⟨x0, x1, rfl⟩ := two_list (show xs.length = 2 from hxl)
  have f0 := hf 0 _ rfl
  have f1 := hf 1 _ rfl
  simp only [List.getElem?_cons_zero, List.getElem?_cons_succ] at f0 f1
  obtain ⟨s, hs, rfl, hss⟩ := DataW.trod_string Tryz.underlying9 f0
  simp only [List.map_cons, List.map_nil, DataW.weights, Tryz.underlying65, DataW.weightsEach, List.append_nil] at hw
  obtain ⟨v, sl, hv, hin, hm⟩ := open_valb m _ x1 f1 fun q hq => hw q (by simp [hq])
  have hsz : S64 s := str_sz (hw s.data.toList.length (by simp))
  injection hs with hs
  subst hs
  refine ⟨⟨s, v⟩, sl, ?_, ⟨hsz, hin⟩, ?_⟩
  · show _ = [_, _, _, _, _]
    have hv' : [c1, c2, c3, c4] = [.int .i64 v.k, .int .i64 v.n, .string v.s, sl] := hv
    rw [hv']
  · simp only [Pr.mn, List.map_cons, List.map_nil, Rows.uptoBulk, Rows.uptoBulkAll, Array.length_toList]
    have e : s.data.size = s.size := rfl
    omega
set_option maxRecDepth 100000 in
theorem open_psb {H : Type} {enc : TypeId × Value → H} {W : World} (n : Nat) (cs : List Value) (x : DataW H × List MemPlace) (h : DataW.trod enc Tryz.prog W 0 (fun _ => true) true n 22 cs = some x) (hw : ∀ k ∈ x.1.weights Tryz.prog 22, k ≤ reachBytes) :
    ∃ (l : List Pr) (sl : Value), cs = [sl] ∧ Sq RP W 0 l sl ∧ manyP l ≤ Rows.uptoBulk x.1 := open_sqb (R := RP) (M := Pr.mn) Tryz.underlying22 cellsP bytesP (fun a cs h => cells_five h) (fun m _ => open_prb m) cs x h hw
set_option maxRecDepth 100000 in
/-- An argument of the type of vertices, and how much it holds. -/
theorem arg_vx {H : Type} {enc : TypeId × Value → H} {W : World} {base : Nat} {v : Value} {d : DataW H} {ps : List MemPlace} (hval : Value.okWide Tryz.prog W .any base 24 v) (ht : DataW.Trod enc Tryz.prog W 0 (fun _ => true) true 24 v d ps) (hw : ∀ k ∈ d.weights Tryz.prog 24, k ≤ reachBytes) :
    ∃ (x : Vx) (sl : Value), v = x.agg sl ∧ RV.In W 0 x sl ∧ x.lb.size + manyP x.ps + 3 ≤ Rows.uptoBulk d := by
  obtain ⟨n, h⟩ := ht
  obtain ⟨cs, rfl⟩ := agg_of Tryz.underlying24 hval
  obtain ⟨xs, m, hcs0, hd, hl, hxl, hf⟩ := DataW.trod_struct Tryz.underlying24 h
  injection hd with hd1 hd2
  subst hd1
  clear hd2
  rw [cellsX] at hl
  obtain ⟨c0, c1, c2, hcs⟩ := three_list hl
  rw [hcs] at hf
  obtain ⟨x0, x1, x2, rfl⟩ := three_list (show xs.length = 3 from hxl)
  have f0 := hf 0 _ rfl
  have f1 := hf 1 _ rfl
  have f2 := hf 2 _ rfl
  simp only [List.getElem?_cons_zero, List.getElem?_cons_succ] at f0 f1 f2
  obtain ⟨k, hk, rfl, wk⟩ := DataW.trod_int Tryz.underlying2 f0
  obtain ⟨s, hs, rfl, hss⟩ := DataW.trod_string Tryz.underlying9 f1
  simp only [List.map_cons, List.map_nil, DataW.weights, Tryz.underlying24, DataW.weightsEach, List.nil_append, List.append_nil] at hw
  obtain ⟨l, sl, hsl, hS, hM⟩ := open_psb m [c2] x2 f2 fun q hq => hw q (by simp [hq])
  have hsz : S64 s := str_sz (hw s.data.toList.length (by simp))
  injection hk with hk; injection hs with hs; injection hsl with hsl
  subst hk hs hsl
  refine ⟨⟨k, s, l⟩, c2, ?_, ⟨i64_wf wk, hsz, hS⟩, ?_⟩
  · unfold Vx.agg
    exact congrArg Value.agg (Array.ext' hcs)
  · simp only [List.map_cons, List.map_nil, Rows.uptoBulk, Rows.uptoBulkAll, Array.length_toList]
    have e : s.data.size = s.size := rfl
    omega
set_option maxRecDepth 100000 in
/-- An argument of the type of edges, and how much it holds. -/
theorem arg_lk {H : Type} {enc : TypeId × Value → H} {W : World} {base : Nat} {v : Value} {d : DataW H} {ps : List MemPlace} (hval : Value.okWide Tryz.prog W .any base 26 v) (ht : DataW.Trod enc Tryz.prog W 0 (fun _ => true) true 26 v d ps) (hw : ∀ k ∈ d.weights Tryz.prog 26, k ≤ reachBytes) :
    ∃ (x : Lk) (sl : Value), v = x.agg sl ∧ RL.In W 0 x sl ∧ x.lb.size + manyP x.ps + 5 ≤ Rows.uptoBulk d := by
  obtain ⟨n, h⟩ := ht
  obtain ⟨cs, rfl⟩ := agg_of Tryz.underlying26 hval
  obtain ⟨xs, m, hcs0, hd, hl, hxl, hf⟩ := DataW.trod_struct Tryz.underlying26 h
  injection hd with hd1 hd2
  subst hd1
  clear hd2
  rw [cellsL] at hl
  obtain ⟨c0, c1, c2, c3, c4, hcs⟩ := five_list hl
  rw [hcs] at hf
  obtain ⟨x0, x1, x2, x3, x4, rfl⟩ := five_list (show xs.length = 5 from hxl)
  have f0 := hf 0 _ rfl
  have f1 := hf 1 _ rfl
  have f2 := hf 2 _ rfl
  have f3 := hf 3 _ rfl
  have f4 := hf 4 _ rfl
  simp only [List.getElem?_cons_zero, List.getElem?_cons_succ] at f0 f1 f2 f3 f4
  obtain ⟨k, hk, rfl, wk⟩ := DataW.trod_int Tryz.underlying2 f0
  obtain ⟨s, hs, rfl, hss⟩ := DataW.trod_string Tryz.underlying9 f1
  obtain ⟨k2, hk2, rfl, wk2⟩ := DataW.trod_int Tryz.underlying2 f2
  obtain ⟨k3, hk3, rfl, wk3⟩ := DataW.trod_int Tryz.underlying2 f3
  simp only [List.map_cons, List.map_nil, DataW.weights, Tryz.underlying26, DataW.weightsEach, List.nil_append, List.append_nil] at hw
  obtain ⟨l, sl, hsl, hS, hM⟩ := open_psb m [c4] x4 f4 fun q hq => hw q (by simp [hq])
  have hsz : S64 s := str_sz (hw s.data.toList.length (by simp))
  injection hk with hk; injection hs with hs; injection hsl with hsl; injection hk2 with hk2; injection hk3 with hk3
  subst hk hs hsl hk2 hk3
  refine ⟨⟨k, s, k2, k3, l⟩, c4, ?_, ⟨i64_wf wk, hsz, i64_wf wk2, i64_wf wk3, hS⟩, ?_⟩
  · unfold Lk.agg
    exact congrArg Value.agg (Array.ext' hcs)
  · simp only [List.map_cons, List.map_nil, Rows.uptoBulk, Rows.uptoBulkAll, Array.length_toList]
    have e : s.data.size = s.size := rfl
    omega
end Go.Proofs.YtbgikgeknnmelaaGreat
