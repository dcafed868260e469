/-
  What is read as data at the type of values is a value in memory.
  What is read as data at the types of properties, vertices, edges and graphs is one in memory.
-/
import Derived.Test.YteknbploiombiaaZCmp
import Derived.ChangeArms
import Derived.ChangeSlices
import Derived.SizedLaws
import Derived.ProofKit
import Derived.Test.YteknbploiombiaaZValRwGm
namespace Go.Proofs.Yteknbploiombiaa
open Go.ChangeShapes Go.WideShapes Go.ChangeAt Go.RowKit

theorem cellsV : Try.prog.cellsOf 30 = 4 := by kernel_rfl
theorem cells3 : Try.prog.cellsOf 3 = 1 := by kernel_rfl
theorem cells2 : Try.prog.cellsOf 2 = 1 := by kernel_rfl
theorem cells9 : Try.prog.cellsOf 9 = 1 := by kernel_rfl
theorem cells22 : Try.prog.cellsOf 28 = 1 := by kernel_rfl
theorem bytes24 : Try.prog.bytesOf 30 = 56 := by kernel_rfl

/-- Cells one behind the other. -/
theorem cells_four {w : World} {a : Addr} {cs : List Value} (h : w.cells? 0 a 4 = some cs) : ∃ c0 c1 c2 c3, cs = [c0, c1, c2, c3] ∧ a.spot = none ∧
    w.cell? ⟨a.block, a.off, none⟩ = some c0 ∧ w.cell? ⟨a.block, a.off + 1, none⟩ = some c1 ∧ w.cell? ⟨a.block, a.off + 2, none⟩ = some c2 ∧ w.cell? ⟨a.block, a.off + 3, none⟩ = some c3 := by
  obtain ⟨b, o, sp⟩ := a
  unfold World.cells? at h
  rw [if_pos (Nat.zero_le _)] at h
  simp only [List.range, List.range.loop, List.mapM_cons, List.mapM_nil, Option.bind_eq_bind, Option.bind_eq_some_iff, Option.pure_def, Option.some.injEq] at h
  obtain ⟨c0, h0, _, ⟨c1, h1, _, ⟨c2, h2, _, ⟨c3, h3, _, rfl, rfl⟩, rfl⟩, rfl⟩, rfl⟩ := h
  have hs : sp = none := by simpa [Addr.add] using World.cell?_spot h0
  subst hs
  exact ⟨c0, c1, c2, c3, rfl, rfl, by simpa [Addr.add] using h0, by simpa [Addr.add] using h1, by simpa [Addr.add] using h2, by simpa [Addr.add] using h3⟩
theorem ls_of {W : World} {b : Nat} : ∀ (len o : Nat), (∀ i, i < len → ∃ (v : V) (sl : Value), W.cell? ⟨b, o + i * 4, none⟩ = some (.int .i64 v.k) ∧ W.cell? ⟨b, o + i * 4 + 1, none⟩ = some (.int .i64 v.n) ∧ W.cell? ⟨b, o + i * 4 + 2, none⟩ = some (.string v.s) ∧ W.cell? ⟨b, o + i * 4 + 3, none⟩ = some sl ∧ v.In W 0 sl) →
    ∃ l : List V, l.length = len ∧ Ls W 0 l b o
  | 0, _, _ => ⟨[], rfl, by simp only [Ls]⟩
  | len + 1, o, h => by
    obtain ⟨v, sl, c0, c1, c2, c3, hv⟩ := h 0 (by omega)
    obtain ⟨l, hl, hr⟩ := ls_of len (o + 4) fun i hi => by
      obtain ⟨v, sl, c0, c1, c2, c3, hv⟩ := h (i + 1) (by omega)
      rw [show o + (i + 1) * 4 = o + 4 + i * 4 by omega] at c0 c1 c2 c3
      exact ⟨v, sl, c0, c1, c2, c3, hv⟩
    simp only [Nat.zero_mul, Nat.add_zero] at c0 c1 c2 c3
    exact ⟨v :: l, by simp [hl], by simp only [Ls]; exact ⟨sl, c0, c1, c2, c3, hv, hr⟩⟩

theorem i64_wf {n : Int} (h : (Lit.int .i64 n).wf = true) : I64 n := by
  unfold I64
  simpa [Lit.wf, IntKind.min, IntKind.max, IntKind.signed, IntKind.bits] using h
theorem four_list {α : Type} {l : List α} (h : l.length = 4) : ∃ a b c d, l = [a, b, c, d] := by
  match l, h with
  | [a, b, c, d], _ => exact ⟨a, b, c, d, rfl⟩
theorem agg_of {P : Program} {W : World} {r : Reach} {base : Nat} {t : TypeId} {fs : Array Field} {v : Value} (ht : P.underlying t = some (.struct fs)) (h : Value.okWide P W r base t v) : ∃ cs, v = .agg cs := by
  unfold Value.okWide at h
  rw [ht] at h
  obtain ⟨cs, h1, -⟩ := h
  exact ⟨cs, h1⟩

theorem all_mem {H : Type} {P : Program} {e : TypeId} : ∀ {l : List (DataW H)} {d : DataW H} {k : Nat}, d ∈ l → k ∈ d.weights P e → k ∈ DataW.weightsAll P e l
  | d :: l, _, k, .head _, h => by rw [DataW.weightsAll]; exact List.mem_append_left _ h
  | _ :: l, d, k, .tail _ hd, h => by rw [DataW.weightsAll]; exact List.mem_append_right _ (all_mem hd h)

/-- The slice of values, where each of them is one. -/
theorem open_list {H : Type} {enc : TypeId × Value → H} {W : World} {n : Nat} (ih : ∀ m, m < n → ∀ (cs : List Value) (x : DataW H × List MemPlace), DataW.trod enc Try.prog W 0 (fun _ => true) true m 30 cs = some x → (∀ k ∈ x.1.weights Try.prog 30, k ≤ reachBytes) →
      ∃ (v : V) (sl : Value), cs = [.int .i64 v.k, .int .i64 v.n, .string v.s, sl] ∧ v.In W 0 sl)
    (cs : List Value) (x : DataW H × List MemPlace) (h : DataW.trod enc Try.prog W 0 (fun _ => true) true n 28 cs = some x) (hw : ∀ k ∈ x.1.weights Try.prog 28, k ≤ reachBytes) :
    ∃ (l : List V) (sl : Value), cs = [sl] ∧ Sl W 0 l sl := by
  rcases DataW.trod_slice Try.underlying28 h with ⟨rfl, rfl⟩ | ⟨a, len, cap, elems, rest, m, rfl, rfl, rfl, hb, hl, hm, hlen, hel, hsp, hns⟩
  · exact ⟨[], .slice none 0 0, rfl, none, 0, rfl, Nat.le_refl _, by unfold maxLen; omega, by simp, .inl rfl⟩
  · rw [cellsV] at hel
    simp only [DataW.weights, Try.underlying28, bytes24, List.length_map] at hw
    have hreach := hw _ (List.mem_cons.2 (.inl rfl))
    have hr : len * 56 ≤ 140737488351232 := by
      unfold reachBytes at hreach
      rw [hlen] at hreach
      have : len * 56 ≤ (len + rest.length) * 56 := Nat.mul_le_mul_right _ (by omega)
      omega
    have hadd : ∀ n, (a.add n).block = a.block ∧ (a.add n).off = a.off + n := by
      intro n; unfold Addr.add; split <;> simp_all
    have each : ∀ i, i < len → ∃ (v : V) (sl : Value), (i = 0 → a.spot = none) ∧ W.cell? ⟨a.block, a.off + i * 4, none⟩ = some (.int .i64 v.k) ∧ W.cell? ⟨a.block, a.off + i * 4 + 1, none⟩ = some (.int .i64 v.n) ∧ W.cell? ⟨a.block, a.off + i * 4 + 2, none⟩ = some (.string v.s) ∧ W.cell? ⟨a.block, a.off + i * 4 + 3, none⟩ = some sl ∧ v.In W 0 sl := by
      intro i hi
      have he := hel i hi
      rw [List.getElem?_eq_getElem (by omega), Option.bind_eq_some_iff] at he
      obtain ⟨ci, hci, htr⟩ := he
      obtain ⟨v, sl, rfl, hv⟩ := ih m (by omega) ci _ htr fun k hk => hw k (List.mem_cons.2 (.inr (List.mem_append_left _ (all_mem (List.mem_map.2 ⟨_, List.getElem_mem _, rfl⟩) hk))))
      obtain ⟨c0, c1, c2, c3, hcs, hsp, k0, k1, k2, k3⟩ := cells_four hci
      injection hcs with e0 hcs; injection hcs with e1 hcs; injection hcs with e2 hcs; injection hcs with e3 hcs
      subst e0 e1 e2 e3
      rw [(hadd (i * 4)).1, (hadd (i * 4)).2] at k0 k1 k2 k3
      refine ⟨v, sl, fun hi0 => ?_, k0, k1, k2, k3, hv⟩
      subst hi0
      simpa [Addr.add] using hsp
    by_cases h0 : len = 0
    · subst h0
      exact ⟨[], _, rfl, some a, cap, rfl, Nat.zero_le _, hm, by simp, .inl rfl⟩
    · obtain ⟨-, -, hs, -⟩ := each 0 (by omega)
      obtain ⟨l, hll, hL⟩ := ls_of (W := W) (b := a.block) len a.off fun i hi => by
        obtain ⟨v, sl, -, h1⟩ := each i hi
        exact ⟨v, sl, h1⟩
      refine ⟨l, _, rfl, some a, cap, by rw [hll], by omega, hm, by rw [hll]; exact hr, .inr ⟨a.block, a.off, ?_, Nat.zero_le _, hL⟩⟩
      obtain ⟨b, o, sp⟩ := a
      have : sp = none := hs rfl
      subst this
      rfl

set_option maxRecDepth 100000 in
theorem open_val {H : Type} {enc : TypeId × Value → H} {W : World} : ∀ (n : Nat) (cs : List Value) (x : DataW H × List MemPlace), DataW.trod enc Try.prog W 0 (fun _ => true) true n 30 cs = some x → (∀ k ∈ x.1.weights Try.prog 30, k ≤ reachBytes) →
    ∃ (v : V) (sl : Value), cs = [.int .i64 v.k, .int .i64 v.n, .string v.s, sl] ∧ v.In W 0 sl := by
  intro n
  induction n using Nat.strongRecOn with
  | ind n ih =>
    intro cs x h hw
    obtain ⟨xs, m, rfl, rfl, hl, hxl, hf⟩ := DataW.trod_struct Try.underlying30 h
    rw [cellsV] at hl
    obtain ⟨c0, c1, c2, c3, rfl⟩ := four_list hl
    obtain ⟨x0, x1, x2, x3, rfl⟩ := four_list (show xs.length = 4 from hxl)
    · skip
      have f0 := hf 0 _ rfl
      have f1 := hf 1 _ rfl
      have f2 := hf 2 _ rfl
      have f3 := hf 3 _ rfl
      simp only [List.getElem?_cons_zero, List.getElem?_cons_succ] at f0 f1 f2 f3
      obtain ⟨k, hk, rfl, wk⟩ := DataW.trod_int Try.underlying3 f0
      obtain ⟨n1, hn1, rfl, wn⟩ := DataW.trod_int Try.underlying2 f1
      obtain ⟨s, hs, rfl, hss⟩ := DataW.trod_string Try.underlying9 f2
      simp only [List.map_cons, List.map_nil, DataW.weights, Try.underlying30, DataW.weightsEach, List.nil_append, List.append_nil] at hw
      obtain ⟨l, sl, hsl, hS⟩ := open_list (n := m) (fun m' hm' => ih m' (by omega)) [c3] x3 f3 fun q hq => hw q (by simp [hq])
      have hsz : s.size ≤ 140737488351232 := by
        have := hw s.data.toList.length (by simp)
        rw [Array.length_toList] at this
        exact this
      injection hk with hk; injection hn1 with hn1; injection hs with hs; injection hsl with hsl
      subst hk hn1 hs hsl
      refine ⟨.mk k n1 s l, c3, rfl, ?_⟩
      rw [V.in_iff]
      exact ⟨i64_wf wk, i64_wf wn, hsz, hS⟩
set_option maxRecDepth 100000 in
/-- An argument of the type of values. -/
theorem arg_val {H : Type} {enc : TypeId × Value → H} {W : World} {base : Nat} {v : Value} {d : DataW H} {ps : List MemPlace} (hval : Value.okWide Try.prog W .any base 30 v) (h : DataW.Trod enc Try.prog W 0 (fun _ => true) true 30 v d ps) (hw : ∀ k ∈ d.weights Try.prog 30, k ≤ reachBytes) :
    ∃ (x : V) (sl : Value), v = x.agg sl ∧ x.In W 0 sl := by
  obtain ⟨n, hn⟩ := h
  obtain ⟨x, sl, hcs, hin⟩ := open_val n _ _ hn hw
  obtain ⟨cs, rfl⟩ := agg_of Try.underlying30 hval
  refine ⟨x, sl, ?_, hin⟩
  unfold V.agg
  exact congrArg Value.agg (Array.ext' hcs)
set_option maxRecDepth 100000 in
/-- An argument of the type of slices of values. -/
theorem arg_list {H : Type} {enc : TypeId × Value → H} {W : World} {v : Value} {d : DataW H} {ps : List MemPlace} (h : DataW.Trod enc Try.prog W 0 (fun _ => true) true 28 v d ps) (hv : v.cells.toList = [v]) (hw : ∀ k ∈ d.weights Try.prog 28, k ≤ reachBytes) :
    ∃ l : List V, Sl W 0 l v := by
  obtain ⟨n, hn⟩ := h
  obtain ⟨l, sl, hcs, hin⟩ := open_list (n := n) (fun m _ => open_val m) _ _ hn hw
  rw [hv] at hcs
  injection hcs with hcs
  subst hcs
  exact ⟨l, hin⟩
end Go.Proofs.Yteknbploiombiaa
namespace Go.Proofs.Yteknbploiombiaa
open Go.ChangeShapes Go.WideShapes Go.ChangeAt Go.RowKit
set_option linter.unusedVariables false

theorem cellsP : Try.prog.cellsOf 84 = 5 := by kernel_rfl
theorem cellsX : Try.prog.cellsOf 40 = 3 := by kernel_rfl
theorem cellsL : Try.prog.cellsOf 46 = 5 := by kernel_rfl
theorem cellsG : Try.prog.cellsOf 27 = 3 := by kernel_rfl
theorem cells39 : Try.prog.cellsOf 38 = 1 := by kernel_rfl
theorem cells22v : Try.prog.cellsOf 24 = 1 := by kernel_rfl
theorem cells23 : Try.prog.cellsOf 25 = 1 := by kernel_rfl
theorem bytesP : Try.prog.bytesOf 84 = 72 := by kernel_rfl
theorem bytesX : Try.prog.bytesOf 40 = 48 := by kernel_rfl
theorem bytesL : Try.prog.bytesOf 46 = 64 := by kernel_rfl
theorem cells_three {w : World} {a : Addr} {cs : List Value} (h : w.cells? 0 a 3 = some cs) : a.spot = none ∧ ∀ j u, cs[j]? = some u → w.cell? ⟨a.block, a.off + j, none⟩ = some u := by
  obtain ⟨b, o, sp⟩ := a
  unfold World.cells? at h
  rw [if_pos (Nat.zero_le _)] at h
  simp only [List.range, List.range.loop, List.mapM_cons, List.mapM_nil, Option.bind_eq_bind, Option.bind_eq_some_iff, Option.pure_def, Option.some.injEq] at h
  obtain ⟨c0, h0, _, ⟨c1, h1, _, ⟨c2, h2, _, rfl, rfl⟩, rfl⟩, rfl⟩ := h
  have hs : sp = none := by simpa [Addr.add] using World.cell?_spot h0
  subst hs
  refine ⟨rfl, fun j u hj => ?_⟩
  match j, hj with
  | 0, hj => cases hj; simpa [Addr.add] using h0
  | 1, hj => cases hj; simpa [Addr.add] using h1
  | 2, hj => cases hj; simpa [Addr.add] using h2
  | _ + 3, hj => simp at hj
theorem cells_five {w : World} {a : Addr} {cs : List Value} (h : w.cells? 0 a 5 = some cs) : a.spot = none ∧ ∀ j u, cs[j]? = some u → w.cell? ⟨a.block, a.off + j, none⟩ = some u := by
  obtain ⟨b, o, sp⟩ := a
  unfold World.cells? at h
  rw [if_pos (Nat.zero_le _)] at h
  simp only [List.range, List.range.loop, List.mapM_cons, List.mapM_nil, Option.bind_eq_bind, Option.bind_eq_some_iff, Option.pure_def, Option.some.injEq] at h
  obtain ⟨c0, h0, _, ⟨c1, h1, _, ⟨c2, h2, _, ⟨c3, h3, _, ⟨c4, h4, _, rfl, rfl⟩, rfl⟩, rfl⟩, rfl⟩, rfl⟩ := h
  have hs : sp = none := by simpa [Addr.add] using World.cell?_spot h0
  subst hs
  refine ⟨rfl, fun j u hj => ?_⟩
  match j, hj with
  | 0, hj => cases hj; simpa [Addr.add] using h0
  | 1, hj => cases hj; simpa [Addr.add] using h1
  | 2, hj => cases hj; simpa [Addr.add] using h2
  | 3, hj => cases hj; simpa [Addr.add] using h3
  | 4, hj => cases hj; simpa [Addr.add] using h4
  | _ + 5, hj => simp at hj
theorem lq_of {α : Type} {R : El α} {W : World} {b : Nat} : ∀ (len o : Nat), (∀ i, i < len → ∃ (v : α) (sl : Value), Ats W b (o + i * R.n) (R.cs v sl) ∧ R.In W 0 v sl) → ∃ l : List α, l.length = len ∧ Lq R W 0 l b o
  | 0, _, _ => ⟨[], rfl, trivial⟩
  | len + 1, o, h => by
    obtain ⟨v, sl, c, hv⟩ := h 0 (by omega)
    obtain ⟨l, hl, hr⟩ := lq_of len (o + R.n) fun i hi => by
      obtain ⟨v, sl, c, hv⟩ := h (i + 1) (by omega)
      rw [show o + (i + 1) * R.n = o + R.n + i * R.n by rw [Nat.succ_mul]; omega] at c
      exact ⟨v, sl, c, hv⟩
    simp only [Nat.zero_mul, Nat.add_zero] at c
    exact ⟨v :: l, by simp [hl], sl, c, hv, hr⟩
/-- A slice of elements, where each of them is one. -/
theorem open_sq {α : Type} {R : El α} {LT ET : TypeId} (hu : Try.prog.underlying LT = some (.slice ET)) (hcn : Try.prog.cellsOf ET = R.n) (hbn : Try.prog.bytesOf ET = R.bytes) {H : Type} {enc : TypeId × Value → H} {W : World} {n : Nat}
    (hcells : ∀ (a : Addr) (cs : List Value), W.cells? 0 a R.n = some cs → a.spot = none ∧ ∀ j u, cs[j]? = some u → W.cell? ⟨a.block, a.off + j, none⟩ = some u)
    (ih : ∀ m, m < n → ∀ (cs : List Value) (x : DataW H × List MemPlace), DataW.trod enc Try.prog W 0 (fun _ => true) true m ET cs = some x → (∀ k ∈ x.1.weights Try.prog ET, k ≤ reachBytes) → ∃ (v : α) (sl : Value), cs = R.cs v sl ∧ R.In W 0 v sl)
    (cs : List Value) (x : DataW H × List MemPlace) (h : DataW.trod enc Try.prog W 0 (fun _ => true) true n LT cs = some x) (hw : ∀ k ∈ x.1.weights Try.prog LT, k ≤ reachBytes) :
    ∃ (l : List α) (sl : Value), cs = [sl] ∧ Sq R W 0 l sl := by
  rcases DataW.trod_slice hu h with ⟨rfl, rfl⟩ | ⟨a, len, cap, elems, rest, m, rfl, rfl, rfl, hb, hl, hm, hlen, hel, hsp, hns⟩
  · exact ⟨[], .slice none 0 0, rfl, Sq.nil _ _⟩
  · rw [hcn] at hel
    simp only [DataW.weights, hu, hbn, List.length_map] at hw
    have hreach := hw _ (List.mem_cons.2 (.inl rfl))
    have hr : len * R.bytes ≤ 140737488351232 := by
      unfold reachBytes at hreach
      rw [hlen] at hreach
      have : len * R.bytes ≤ (len + rest.length) * R.bytes := Nat.mul_le_mul_right _ (by omega)
      omega
    have hadd : ∀ n, (a.add n).block = a.block ∧ (a.add n).off = a.off + n := by
      intro n; unfold Addr.add; split <;> simp_all
    have each : ∀ i, i < len → ∃ (v : α) (sl : Value), (i = 0 → a.spot = none) ∧ Ats W a.block (a.off + i * R.n) (R.cs v sl) ∧ R.In W 0 v sl := by
      intro i hi
      have he := hel i hi
      rw [List.getElem?_eq_getElem (by omega), Option.bind_eq_some_iff] at he
      obtain ⟨ci, hci, htr⟩ := he
      obtain ⟨v, sl, rfl, hv⟩ := ih m (by omega) ci _ htr fun k hk => hw k (List.mem_cons.2 (.inr (List.mem_append_left _ (all_mem (List.mem_map.2 ⟨_, List.getElem_mem _, rfl⟩) hk))))
      obtain ⟨hsp, hk⟩ := hcells _ _ hci
      rw [(hadd (i * R.n)).1, (hadd (i * R.n)).2] at hk
      refine ⟨v, sl, fun hi0 => ?_, hk, hv⟩
      subst hi0
      simpa [Addr.add] using hsp
    by_cases h0 : len = 0
    · subst h0
      exact ⟨[], _, rfl, some a, cap, rfl, Nat.zero_le _, hm, by simp, .inl rfl⟩
    · obtain ⟨-, -, hs, -⟩ := each 0 (by omega)
      obtain ⟨l, hll, hL⟩ := lq_of (R := R) (W := W) (b := a.block) len a.off fun i hi => by
        obtain ⟨v, sl, -, h1⟩ := each i hi
        exact ⟨v, sl, h1⟩
      refine ⟨l, _, rfl, some a, cap, by rw [hll], by omega, hm, by rw [hll]; exact hr, .inr ⟨a.block, a.off, ?_, Nat.zero_le _, hL⟩⟩
      obtain ⟨b, o, sp⟩ := a
      have : sp = none := hs rfl
      subst this
      rfl
theorem five_list {α : Type} {l : List α} (h : l.length = 5) : ∃ a b c d e, l = [a, b, c, d, e] := by
  match l, h with
  | [a, b, c, d, e], _ => exact ⟨a, b, c, d, e, rfl⟩
theorem three_list {α : Type} {l : List α} (h : l.length = 3) : ∃ a b c, l = [a, b, c] := by
  match l, h with
  | [a, b, c], _ => exact ⟨a, b, c, rfl⟩
theorem two_list {α : Type} {l : List α} (h : l.length = 2) : ∃ a b, l = [a, b] := by
  match l, h with
  | [a, b], _ => exact ⟨a, b, rfl⟩
theorem str_sz {s : ByteArray} (h : s.data.toList.length ≤ reachBytes) : S64 s := by
  unfold S64
  rw [Array.length_toList] at h
  exact h
set_option maxRecDepth 100000 in
theorem open_pr {H : Type} {enc : TypeId × Value → H} {W : World} (n : Nat) (cs : List Value) (x : DataW H × List MemPlace) (h : DataW.trod enc Try.prog W 0 (fun _ => true) true n 84 cs = some x) (hw : ∀ k ∈ x.1.weights Try.prog 84, k ≤ reachBytes) :
    ∃ (v : Pr) (sl : Value), cs = RP.cs v sl ∧ RP.In W 0 v sl := by
  obtain ⟨xs, m, rfl, rfl, hl, hxl, hf⟩ := DataW.trod_struct Try.underlying84 h
  rw [cellsP] at hl
  obtain ⟨c0, c1, c2, c3, c4, rfl⟩ := five_list hl
  obtain ⟨x0, x1, rfl⟩ := two_list (show xs.length = 2 from hxl)
  have f0 := hf 0 _ rfl
  have f1 := hf 1 _ rfl
  simp only [List.getElem?_cons_zero, List.getElem?_cons_succ] at f0 f1
  obtain ⟨s, hs, rfl, hss⟩ := DataW.trod_string Try.underlying9 f0
  simp only [List.map_cons, List.map_nil, DataW.weights, Try.underlying84, DataW.weightsEach, List.append_nil] at hw
  obtain ⟨v, sl, hv, hin⟩ := open_val m _ x1 f1 fun q hq => hw q (by simp [hq])
  have hsz : S64 s := str_sz (hw s.data.toList.length (by simp))
  injection hs with hs
  subst hs
  refine ⟨⟨s, v⟩, sl, ?_, hsz, hin⟩
  show _ = [_, _, _, _, _]
  have hv' : [c1, c2, c3, c4] = [.int .i64 v.k, .int .i64 v.n, .string v.s, sl] := hv
  rw [hv']
set_option maxRecDepth 100000 in
theorem open_ps {H : Type} {enc : TypeId × Value → H} {W : World} (n : Nat) (cs : List Value) (x : DataW H × List MemPlace) (h : DataW.trod enc Try.prog W 0 (fun _ => true) true n 38 cs = some x) (hw : ∀ k ∈ x.1.weights Try.prog 38, k ≤ reachBytes) :
    ∃ (l : List Pr) (sl : Value), cs = [sl] ∧ Sq RP W 0 l sl := open_sq (R := RP) Try.underlying38 cellsP bytesP (fun a cs h => cells_five h) (fun m _ => open_pr m) cs x h hw
set_option maxRecDepth 100000 in
theorem open_vx {H : Type} {enc : TypeId × Value → H} {W : World} (n : Nat) (cs : List Value) (x : DataW H × List MemPlace) (h : DataW.trod enc Try.prog W 0 (fun _ => true) true n 40 cs = some x) (hw : ∀ k ∈ x.1.weights Try.prog 40, k ≤ reachBytes) :
    ∃ (v : Vx) (sl : Value), cs = RV.cs v sl ∧ RV.In W 0 v sl := by
  obtain ⟨xs, m, rfl, rfl, hl, hxl, hf⟩ := DataW.trod_struct Try.underlying40 h
  rw [cellsX] at hl
  obtain ⟨c0, c1, c2, rfl⟩ := three_list hl
  obtain ⟨x0, x1, x2, rfl⟩ := three_list (show xs.length = 3 from hxl)
  have f0 := hf 0 _ rfl
  have f1 := hf 1 _ rfl
  have f2 := hf 2 _ rfl
  simp only [List.getElem?_cons_zero, List.getElem?_cons_succ] at f0 f1 f2
  obtain ⟨k, hk, rfl, wk⟩ := DataW.trod_int Try.underlying2 f0
  obtain ⟨s, hs, rfl, hss⟩ := DataW.trod_string Try.underlying9 f1
  simp only [List.map_cons, List.map_nil, DataW.weights, Try.underlying40, DataW.weightsEach, List.nil_append, List.append_nil] at hw
  obtain ⟨l, sl, hsl, hS⟩ := open_ps m [c2] x2 f2 fun q hq => hw q (by simp [hq])
  have hsz : S64 s := str_sz (hw s.data.toList.length (by simp))
  injection hk with hk; injection hs with hs; injection hsl with hsl
  subst hk hs hsl
  exact ⟨⟨k, s, l⟩, c2, rfl, i64_wf wk, hsz, hS⟩
set_option maxRecDepth 100000 in
theorem open_lk {H : Type} {enc : TypeId × Value → H} {W : World} (n : Nat) (cs : List Value) (x : DataW H × List MemPlace) (h : DataW.trod enc Try.prog W 0 (fun _ => true) true n 46 cs = some x) (hw : ∀ k ∈ x.1.weights Try.prog 46, k ≤ reachBytes) :
    ∃ (v : Lk) (sl : Value), cs = RL.cs v sl ∧ RL.In W 0 v sl := by
  obtain ⟨xs, m, rfl, rfl, hl, hxl, hf⟩ := DataW.trod_struct Try.underlying46 h
  rw [cellsL] at hl
  obtain ⟨c0, c1, c2, c3, c4, rfl⟩ := five_list hl
  obtain ⟨x0, x1, x2, x3, x4, rfl⟩ := five_list (show xs.length = 5 from hxl)
  have f0 := hf 0 _ rfl
  have f1 := hf 1 _ rfl
  have f2 := hf 2 _ rfl
  have f3 := hf 3 _ rfl
  have f4 := hf 4 _ rfl
  simp only [List.getElem?_cons_zero, List.getElem?_cons_succ] at f0 f1 f2 f3 f4
  obtain ⟨k, hk, rfl, wk⟩ := DataW.trod_int Try.underlying2 f0
  obtain ⟨s, hs, rfl, hss⟩ := DataW.trod_string Try.underlying9 f1
  obtain ⟨k2, hk2, rfl, wk2⟩ := DataW.trod_int Try.underlying2 f2
  obtain ⟨k3, hk3, rfl, wk3⟩ := DataW.trod_int Try.underlying2 f3
  simp only [List.map_cons, List.map_nil, DataW.weights, Try.underlying46, DataW.weightsEach, List.nil_append, List.append_nil] at hw
  obtain ⟨l, sl, hsl, hS⟩ := open_ps m [c4] x4 f4 fun q hq => hw q (by simp [hq])
  have hsz : S64 s := str_sz (hw s.data.toList.length (by simp))
  injection hk with hk; injection hs with hs; injection hsl with hsl; injection hk2 with hk2; injection hk3 with hk3
  subst hk hs hsl hk2 hk3
  exact ⟨⟨k, s, k2, k3, l⟩, c4, rfl, i64_wf wk, hsz, i64_wf wk2, i64_wf wk3, hS⟩
set_option maxRecDepth 100000 in
/-- An argument of the type of graphs. -/
theorem arg_graph {H : Type} {enc : TypeId × Value → H} {W : World} {base : Nat} {v : Value} {d : DataW H} {ps : List MemPlace} (hval : Value.okWide Try.prog W .any base 27 v) (h : DataW.Trod enc Try.prog W 0 (fun _ => true) true 27 v d ps) (hw : ∀ k ∈ d.weights Try.prog 27, k ≤ reachBytes) :
    ∃ (g : Gg) (sv se : Value), v = g.agg sv se ∧ Gg.In W 0 g sv se := by
  obtain ⟨n, hn⟩ := h
  obtain ⟨cs, rfl⟩ := agg_of Try.underlying27 hval
  obtain ⟨xs, m, hcs0, hd, hl, hxl, hf⟩ := DataW.trod_struct Try.underlying27 hn
  injection hd with hd1 hd2
  subst hd1
  clear hd2
  rw [cellsG] at hl
  obtain ⟨c0, c1, c2, hcs⟩ := three_list hl
  rw [hcs] at hf
  obtain ⟨x0, x1, x2, rfl⟩ := three_list (show xs.length = 3 from hxl)
  have f0 := hf 0 _ rfl
  have f1 := hf 1 _ rfl
  have f2 := hf 2 _ rfl
  simp only [List.getElem?_cons_zero, List.getElem?_cons_succ] at f0 f1 f2
  obtain ⟨k, hk, rfl, wk⟩ := DataW.trod_int Try.underlying2 f2
  simp only [List.map_cons, List.map_nil, DataW.weights, Try.underlying27, DataW.weightsEach, List.append_nil] at hw
  obtain ⟨l0, s0, hs0, hS0⟩ := open_sq (R := RV) Try.underlying24 cellsX bytesX (fun a cs h => cells_three h) (fun m _ => open_vx m) [c0] x0 f0 fun q hq => hw q (by simp [hq])
  obtain ⟨l1, s1, hs1, hS1⟩ := open_sq (R := RL) Try.underlying25 cellsL bytesL (fun a cs h => cells_five h) (fun m _ => open_lk m) [c1] x1 f1 fun q hq => hw q (by simp [hq])
  injection hk with hk; injection hs0 with hs0; injection hs1 with hs1
  subst hk hs0 hs1
  refine ⟨⟨l0, l1, k⟩, c0, c1, ?_, i64_wf wk, hS0, hS1⟩
  unfold Gg.agg
  exact congrArg Value.agg (Array.ext' hcs)
end Go.Proofs.Yteknbploiombiaa
