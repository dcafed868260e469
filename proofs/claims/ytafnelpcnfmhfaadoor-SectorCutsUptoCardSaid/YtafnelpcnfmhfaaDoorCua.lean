/-
  Arguments that are bytes or slices of bytes, and what their bulk says.
-/
import Derived.Test.YtafnelpcnfmhfaaDoorShl
import Derived.Test.YtafnelpcnfmhfaaDoorJn
namespace Go.Proofs.YtafnelpcnfmhfaaDoor
open Go.ChangeShapes Go.WideShapes Go.ChangeAt Go.RowKit

theorem bulk_one {H : Type} (d : DataW H) : 1 ≤ Rows.uptoBulk d := by
  cases d with
  | lit l => cases l <;> simp [Rows.uptoBulk]
  | _ => simp [Rows.uptoBulk]
theorem bulk_len {H : Type} : ∀ l : List (DataW H), l.length ≤ Rows.uptoBulkAll l
  | [] => by simp
  | x :: r => by
    have := bulk_one x
    have := bulk_len r
    simp only [Rows.uptoBulkAll, List.length_cons]
    omega
theorem bulk_slice {H : Type} (e s : List (DataW H)) : e.length ≤ Rows.uptoBulk (.slice e s) := by
  have := bulk_len e
  simp only [Rows.uptoBulk]
  omega
theorem bulk_flat {H : Type} : ∀ (E : List (DataW H)) (L : List (List UInt8)), L.length = E.length → (∀ i (h : i < L.length) (h' : i < E.length), L[i].length ≤ Rows.uptoBulk E[i]) → L.flatten.length ≤ Rows.uptoBulkAll E
  | [], L, hl, _ => by
    have : L = [] := List.eq_nil_of_length_eq_zero hl
    subst this
    simp
  | x :: E, [], hl, _ => by simp at hl
  | x :: E, a :: L, hl, h => by
    have h0 := h 0 (by simp) (by simp)
    have hr := bulk_flat E L (by simpa using hl) (fun i hi hi' => h (i + 1) (by simpa using hi) (by simpa using hi'))
    simp only [List.getElem_cons_zero] at h0
    simp only [Rows.uptoBulkAll, List.flatten_cons, List.length_append]
    omega
theorem cells22 : Tryd.prog.cellsOf 22 = 1 := by kernel_rfl
set_option maxRecDepth 100000 in
theorem open_bytesU {H : Type} {enc : TypeId × Value → H} {W : World} (n : Nat) (cs : List Value) (x : DataW H × List MemPlace) (h : DataW.trod enc Tryd.prog W 0 (fun _ => true) true n 22 cs = some x) :
    ∃ (v : Value) (t : List UInt8), cs = [v] ∧ Bs W v t ∧ t.length ≤ Rows.uptoBulk x.1 := by
  rcases DataW.trod_slice Tryd.underlying22 h with ⟨hcs, -⟩ | ⟨a, len, cap, elems, rest, m, rfl, hcs, hx, hb, hl, hm, hlen, hel, hsp, hns⟩
  · exact ⟨_, [], hcs, bs_nil W, by simp⟩
  · subst hx
    rw [cells5'] at hel
    have hr := bulk_slice (elems.map (·.1)) (rest.map (·.1))
    rw [List.length_map, hlen] at hr
    have hadd : ∀ n, (a.add n).block = a.block ∧ (a.add n).off = a.off + n := by
      intro n; unfold Addr.add; split <;> simp_all
    have each : ∀ i, i < len → ∃ c : UInt8, (i = 0 → a.spot = none) ∧ W.cell? ⟨a.block, a.off + i, none⟩ = some (.int .u8 c.toNat) := by
      intro i hi
      have he := hel i hi
      rw [List.getElem?_eq_getElem (by omega), Option.bind_eq_some_iff] at he
      obtain ⟨ci, hci, htr⟩ := he
      obtain ⟨x, rfl, -, hwf⟩ := DataW.trod_int Tryd.underlying5 htr
      obtain ⟨c, rfl⟩ := byte_of hwf
      obtain ⟨h1, h2, -⟩ := cells_range hci (by omega)
      rw [(hadd (i * 1)).1, (hadd (i * 1)).2] at h2
      refine ⟨c, fun hi0 => ?_, ?_⟩
      · subst hi0
        simpa [Addr.add] using h1
      · have := h2 0 _ rfl
        simpa using this
    by_cases h0 : len = 0
    · subst h0
      exact ⟨_, [], hcs, ⟨some a, cap, rfl, by simp, hm, fun e => (by cases e), .inl rfl⟩, by simp⟩
    · obtain ⟨o0, hs0, hr0⟩ := each 0 (by omega)
      have hsn := hs0 rfl
      let g : Nat → UInt8 := fun i => if h : i < len then (each i h).choose else o0
      have hg : ∀ i (h : i < len), W.cell? ⟨a.block, a.off + i, none⟩ = some (.int .u8 (g i).toNat) := fun i h => by
        show W.cell? ⟨a.block, a.off + i, none⟩ = some (.int .u8 (if h : i < len then (each i h).choose else o0).toNat)
        rw [dif_pos h]; exact (each i h).choose_spec.2
      refine ⟨_, (List.range len).map g, hcs, ⟨some a, cap, by simp, by simpa using hl, hm, fun e => (by cases e), .inr ⟨a.block, a.off, ?_, fun j v hv => ?_⟩⟩, by rw [List.length_map, List.length_range]; exact hr⟩
      · obtain ⟨b, o, sp⟩ := a
        have : sp = none := hsn
        subst this
        rfl
      · unfold YtafnelpcnfmhfaaDoor.enc at hv
        simp only [List.map_map, List.getElem?_map, Option.map_eq_some_iff] at hv
        obtain ⟨i, hi, rfl⟩ := hv
        obtain ⟨hj, e⟩ := List.getElem?_eq_some_iff.1 hi
        simp at hj e
        subst e
        exact hg j hj
set_option maxRecDepth 100000 in
theorem arg_bytesU {H : Type} {enc : TypeId × Value → H} {W : World} {base : Nat} {v : Value} {d : DataW H} {ps : List MemPlace} (hval : Value.okWide Tryd.prog W .any base 22 v) (h : DataW.Trod enc Tryd.prog W 0 (fun _ => true) true 22 v d ps) :
    ∃ t : List UInt8, Bs W v t ∧ t.length ≤ Rows.uptoBulk d := by
  obtain ⟨a0, len0, cap0, rfl⟩ := okWide_slice Tryd.underlying22 hval
  obtain ⟨n, hn⟩ := h
  obtain ⟨v', t, hcs, hB, hl⟩ := open_bytesU n _ _ hn
  simp [Value.cells] at hcs
  subst hcs
  exact ⟨t, hB, hl⟩
set_option maxRecDepth 100000 in
theorem arg_bssU {H : Type} {enc : TypeId × Value → H} {W : World} {base : Nat} {v : Value} {d : DataW H} {ps : List MemPlace} (hval : Value.okWide Tryd.prog W .any base 55 v) (h : DataW.Trod enc Tryd.prog W 0 (fun _ => true) true 55 v d ps) :
    ∃ L : List (List UInt8), Bss W v L ∧ L.length ≤ Rows.uptoBulk d ∧ L.flatten.length ≤ Rows.uptoBulk d := by
  obtain ⟨a0, len0, cap0, rfl⟩ := okWide_slice Tryd.underlying55 hval
  obtain ⟨n, hn⟩ := h
  rcases DataW.trod_slice Tryd.underlying55 hn with ⟨hcs, -⟩ | ⟨a, len, cap, elems, rest, m, rfl, hcs, hx, hb, hl, hm, hlen, hel, hsp, hns⟩
  · simp [Value.cells] at hcs
    obtain ⟨rfl, rfl, rfl⟩ := hcs
    exact ⟨[], ⟨none, 0, rfl, .inl rfl⟩, by simp, by simp⟩
  · simp [Value.cells] at hcs
    obtain ⟨rfl, rfl, rfl⟩ := hcs
    simp only [Prod.mk.injEq] at hx
    obtain ⟨rfl, rfl⟩ := hx
    rw [cells22] at hel
    have hr := bulk_slice (elems.map (·.1)) (rest.map (·.1))
    rw [List.length_map, hlen] at hr
    have hadd : ∀ n, (a.add n).block = a.block ∧ (a.add n).off = a.off + n := by
      intro n; unfold Addr.add; split <;> simp_all
    have each : ∀ i (hi : i < len0), ∃ o : List UInt8, (i = 0 → a.spot = none) ∧ (∃ x, W.cell? ⟨a.block, a.off + i, none⟩ = some x ∧ Bs W x o) ∧ o.length ≤ Rows.uptoBulk ((elems.map (·.1))[i]'(by rw [List.length_map, hlen]; exact hi)) := by
      intro i hi
      have he := hel i hi
      rw [List.getElem?_eq_getElem (by omega), Option.bind_eq_some_iff] at he
      obtain ⟨ci, hci, htr⟩ := he
      obtain ⟨x, o, rfl, hB, hbl⟩ := open_bytesU m ci _ htr
      obtain ⟨h1, h2, -⟩ := cells_range hci (by omega)
      rw [(hadd (i * 1)).1, (hadd (i * 1)).2] at h2
      refine ⟨o, fun hi0 => ?_, ⟨x, ?_, hB⟩, by rw [List.getElem_map]; exact hbl⟩
      · subst hi0
        simpa [Addr.add] using h1
      · have := h2 0 _ rfl
        simpa using this
    by_cases h0 : len0 = 0
    · subst h0
      exact ⟨[], ⟨some a, cap0, rfl, .inl rfl⟩, by simp, by simp⟩
    · obtain ⟨o0, hs0, -⟩ := each 0 (by omega)
      have hsn := hs0 rfl
      let g : Nat → List UInt8 := fun i => if h : i < len0 then (each i h).choose else o0
      have hg : ∀ i (h : i < len0), (∃ x, W.cell? ⟨a.block, a.off + i, none⟩ = some x ∧ Bs W x (g i)) ∧ (g i).length ≤ Rows.uptoBulk ((elems.map (·.1))[i]'(by rw [List.length_map, hlen]; exact h)) := fun i h => by
        have hs := (each i h).choose_spec.2
        have e : g i = (each i h).choose := dif_pos h
        rw [e]
        exact hs
      refine ⟨(List.range len0).map g, ⟨some a, cap0, by simp, .inr ⟨a.block, a.off, ?_, fun i hi => ?_⟩⟩, by rw [List.length_map, List.length_range]; exact hr, ?_⟩
      · obtain ⟨b, o, sp⟩ := a
        have : sp = none := hsn
        subst this
        rfl
      · simp only [List.length_map, List.length_range] at hi
        simp only [List.getElem_map, List.getElem_range]
        exact (hg i hi).1
      · have hf := bulk_flat (elems.map (·.1)) ((List.range len0).map g) (by simp [hlen]) (fun i hi hi' => by
          simp only [List.length_map, List.length_range] at hi
          rw [List.getElem_map, List.getElem_range]
          exact (hg i hi).2)
        simp only [Rows.uptoBulk]
        omega
end Go.Proofs.YtafnelpcnfmhfaaDoor
