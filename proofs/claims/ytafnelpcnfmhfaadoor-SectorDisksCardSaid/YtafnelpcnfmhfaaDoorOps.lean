/-
  An argument that is a row of operations.
-/
import Derived.Test.YtafnelpcnfmhfaaDoorShl
namespace Go.Proofs.YtafnelpcnfmhfaaDoor
open Go.ChangeShapes Go.WideShapes Go.ChangeAt Go.RowKit

theorem cells45 : Tryd.prog.cellsOf 45 = 7 := by kernel_rfl
theorem bytes45 : Tryd.prog.bytesOf 45 = 72 := by kernel_rfl
theorem five_list {α : Type} {l : List α} (h : l.length = 5) : ∃ a b c d e, l = [a, b, c, d, e] := by
  match l, h with
  | [a, b, c, d, e], _ => exact ⟨a, b, c, d, e, rfl⟩
theorem seven_list {α : Type} {l : List α} (h : l.length = 7) : ∃ a b c d e f g, l = [a, b, c, d, e, f, g] := by
  match l, h with
  | [a, b, c, d, e, f, g], _ => exact ⟨a, b, c, d, e, f, g, rfl⟩
/-- An operation as plain data. -/
structure Opr where
  x : Int
  a : Int
  k : Int
  n : Int
  pv : Value
  pay : List UInt8
  bit : Int
  bits : Nat
def Opr.cells (o : Opr) : List Value := [.int .i64 o.x, .int .i64 o.a, .int .i64 o.k, .int .i64 o.n, o.pv, .int .i64 o.bit, .int .u32 o.bits]
structure Opr.ok (W : World) (o : Opr) : Prop where
  bs : Bs W o.pv o.pay
  n : o.n ≤ 9223372036854775807
  bits : o.bits < 4294967296
set_option maxRecDepth 100000 in
theorem open_op {H : Type} {enc : TypeId × Value → H} {W : World} (n : Nat) (cs : List Value) (x : DataW H × List MemPlace) (h : DataW.trod enc Tryd.prog W 0 (fun _ => true) true n 45 cs = some x) (hw : ∀ k ∈ x.1.weights Tryd.prog 45, k ≤ reachBytes) :
    ∃ o : Opr, cs = o.cells ∧ o.ok W := by
  obtain ⟨xs, m, rfl, rfl, hl, hxl, hf⟩ := DataW.trod_struct Tryd.underlying45 h
  rw [cells45] at hl
  obtain ⟨c0, c1, c2, c3, c4, c5, c6, rfl⟩ := seven_list hl
  obtain ⟨x0, x1, x2, x3, x4, rfl⟩ := five_list (show xs.length = 5 from hxl)
  have f0 := hf 0 _ rfl
  have f1 := hf 1 _ rfl
  have f2 := hf 2 _ rfl
  have f3 := hf 3 _ rfl
  have f4 := hf 4 _ rfl
  simp only [List.getElem?_cons_zero, List.getElem?_cons_succ] at f0 f1 f2 f3 f4
  obtain ⟨k0, h0, rfl, w0⟩ := DataW.trod_int Tryd.underlying3 f0
  obtain ⟨k1, h1, rfl, w1⟩ := DataW.trod_int Tryd.underlying3 f1
  obtain ⟨k3, h3, rfl, w3⟩ := DataW.trod_int Tryd.underlying3 f3
  obtain ⟨k4, h4, rfl, w4⟩ := DataW.trod_int Tryd.underlying34 f4
  obtain ⟨k, N, pv, pay, h2, hb, hN⟩ := open_frame _ _ _ f2 (fun k hk => hw k (by
    simp only [DataW.weights, Tryd.underlying45]
    simp [DataW.weightsEach, hk]))
  injection h0 with h0; injection h1 with h1; injection h3 with h3; injection h4 with h4
  have h2' : [c2, c3, c4] = [Value.int .i64 k, .int .i64 N, pv] := h2
  injection h2' with e2 h2'; injection h2' with e3 h2'; injection h2' with e4 h2'
  subst h0 h1 h3 h4 e2 e3 e4
  have hu : 0 ≤ k4 ∧ k4 ≤ 4294967295 := by simpa [Lit.wf, IntKind.min, IntKind.max, IntKind.signed, IntKind.bits] using w4
  refine ⟨⟨k0, k1, k, N, _, pay, k3, k4.toNat⟩, ?_, ⟨hb.1, hN.2, by show k4.toNat < 4294967296; omega⟩⟩
  have e : ((k4.toNat : Nat) : Int) = k4 := by omega
  simp only [Opr.cells, e]
/-- Operations in memory. -/
structure OpsAt (w : World) (v : Value) (l : List Opr) : Prop where
  at_ : ∃ p c, v = .slice p l.length c ∧ (l = [] ∨ ∃ b o, p = some ⟨b, o, none⟩ ∧ ∀ i (hi : i < l.length), w.rangeAt b (o + i * 7) l[i].cells)
  ok : ∀ x ∈ l, x.ok w
theorem all_mem {H : Type} {P : Program} {e : TypeId} : ∀ {l : List (DataW H)} {d : DataW H} {k : Nat}, d ∈ l → k ∈ d.weights P e → k ∈ DataW.weightsAll P e l
  | d :: l, _, k, .head _, h => by rw [DataW.weightsAll]; exact List.mem_append_left _ h
  | _ :: l, d, k, .tail _ hd, h => by rw [DataW.weightsAll]; exact List.mem_append_right _ (all_mem hd h)
set_option maxRecDepth 100000 in
theorem arg_ops {H : Type} {enc : TypeId × Value → H} {W : World} {base : Nat} {v : Value} {d : DataW H} {ps : List MemPlace} (hval : Value.okWide Tryd.prog W .any base 37 v) (h : DataW.Trod enc Tryd.prog W 0 (fun _ => true) true 37 v d ps) (hw : ∀ k ∈ d.weights Tryd.prog 37, k ≤ reachBytes) :
    ∃ l : List Opr, OpsAt W v l ∧ l.length ≤ 140737488351232 := by
  obtain ⟨a0, len0, cap0, rfl⟩ := okWide_slice Tryd.underlying37 hval
  obtain ⟨n, hn⟩ := h
  rcases DataW.trod_slice Tryd.underlying37 hn with ⟨hcs, -⟩ | ⟨a, len, cap, elems, rest, m, rfl, hcs, hx, hb, hl, hm, hlen, hel, hsp, hns⟩
  · simp [Value.cells] at hcs
    obtain ⟨rfl, rfl, rfl⟩ := hcs
    exact ⟨[], ⟨⟨none, 0, rfl, .inl rfl⟩, fun x hx => by cases hx⟩, by simp⟩
  · simp [Value.cells] at hcs
    obtain ⟨rfl, rfl, rfl⟩ := hcs
    simp only [Prod.mk.injEq] at hx
    obtain ⟨rfl, rfl⟩ := hx
    rw [cells45] at hel
    simp only [DataW.weights, Tryd.underlying37, bytes45, List.length_map] at hw
    have hr : len0 ≤ 140737488351232 := by
      have hreach := hw _ (List.mem_cons.2 (.inl rfl))
      unfold reachBytes at hreach
      rw [hlen] at hreach
      have : len0 * 72 ≤ (len0 + rest.length) * 72 := Nat.mul_le_mul_right _ (by omega)
      omega
    have hadd : ∀ n, (a.add n).block = a.block ∧ (a.add n).off = a.off + n := by
      intro n; unfold Addr.add; split <;> simp_all
    have each : ∀ i, i < len0 → ∃ o : Opr, ((i = 0 → a.spot = none) ∧ W.rangeAt a.block (a.off + i * 7) o.cells) ∧ o.ok W := by
      intro i hi
      have he := hel i hi
      rw [List.getElem?_eq_getElem (by omega), Option.bind_eq_some_iff] at he
      obtain ⟨ci, hci, htr⟩ := he
      obtain ⟨o, rfl, hok⟩ := open_op m ci _ htr fun k hk => hw k (List.mem_cons.2 (.inr (List.mem_append_left _ (all_mem (List.mem_map.2 ⟨_, List.getElem_mem _, rfl⟩) hk))))
      obtain ⟨h1, h2, -⟩ := cells_range hci (by omega)
      rw [(hadd (i * 7)).1, (hadd (i * 7)).2] at h2
      refine ⟨o, ⟨fun hi0 => ?_, h2⟩, hok⟩
      subst hi0
      simpa [Addr.add] using h1
    by_cases h0 : len0 = 0
    · subst h0
      exact ⟨[], ⟨⟨some a, cap0, rfl, .inl rfl⟩, fun x hx => by cases hx⟩, by simp⟩
    · obtain ⟨o0, ⟨hs0, hr0⟩, -⟩ := each 0 (by omega)
      have hsn := hs0 rfl
      let g : Nat → Opr := fun i => if h : i < len0 then (each i h).choose else o0
      have hg : ∀ i (h : i < len0), W.rangeAt a.block (a.off + i * 7) (g i).cells ∧ (g i).ok W := fun i h => by
        show W.rangeAt a.block (a.off + i * 7) (if h : i < len0 then (each i h).choose else o0).cells ∧ (if h : i < len0 then (each i h).choose else o0).ok W
        rw [dif_pos h]; exact ⟨(each i h).choose_spec.1.2, (each i h).choose_spec.2⟩
      refine ⟨(List.range len0).map g, ⟨⟨some a, cap0, by simp, .inr ⟨a.block, a.off, ?_, fun i hi => ?_⟩⟩, fun x hx => ?_⟩, by simpa using hr⟩
      · obtain ⟨b, o, sp⟩ := a
        have : sp = none := hsn
        subst this
        rfl
      · simp only [List.length_map, List.length_range] at hi
        simp only [List.getElem_map, List.getElem_range]
        exact (hg i hi).1
      · obtain ⟨i, hi, rfl⟩ := List.mem_map.1 hx
        exact (hg i (List.mem_range.1 hi)).2
end Go.Proofs.YtafnelpcnfmhfaaDoor
