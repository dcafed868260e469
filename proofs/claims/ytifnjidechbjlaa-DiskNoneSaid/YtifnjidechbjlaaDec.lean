/-
  What is decided when the power goes: as mathematics.
-/
import Derived.Test.YtifnjidechbjlaaFlushW
namespace Go.Proofs.Ytifnjidechbjlaa
open Go.RowKit Go.Maps Go.ChangeMaps Go.MapKept Go.WideShapes

def bit (kb : List Bool) (i : Nat) : Bool := kb.getD (i % kb.length) false
def keptTo (kb : List Bool) (L : List Nat) (i : Nat) : List Nat := ((List.range i).filter (bit kb)).map (fun j => L.getD j 0)
theorem kept_yes {kb : List Bool} {L : List Nat} {i : Nat} (h : bit kb i = true) : keptTo kb L (i + 1) = keptTo kb L i ++ [L.getD i 0] := by
  unfold keptTo
  rw [List.range_succ, List.filter_append, List.map_append]
  simp [h]
theorem kept_no {kb : List Bool} {L : List Nat} {i : Nat} (h : bit kb i = false) : keptTo kb L (i + 1) = keptTo kb L i := by
  unfold keptTo
  rw [List.range_succ, List.filter_append, List.map_append]
  simp [h]
theorem kept_len (kb : List Bool) (L : List Nat) (i : Nat) : (keptTo kb L i).length ≤ i := by
  unfold keptTo
  have := List.length_filter_le (bit kb) (List.range i)
  simpa using this
theorem kept_mem {kb : List Bool} {L : List Nat} {i k : Nat} (h : k ∈ keptTo kb L i) (hi : i ≤ L.length) : k ∈ L := by
  unfold keptTo at h
  obtain ⟨j, hj, rfl⟩ := List.mem_map.1 h
  have hj' : j < i := List.mem_range.1 (List.mem_filter.1 hj).1
  rw [List.getD_eq_getElem?_getD, List.getElem?_eq_getElem (by omega)]
  exact List.getElem_mem _
/-- The disk when i of the dirty ones are decided. -/
def Dsk.dec (s : Dsk) (kb : List Bool) (i : Nat) : Dsk :=
  { s with st := fun k => if k ∈ keptTo kb s.dirty i then (s.ca k).getD (s.st k) else s.st k, tn := fun k => if k ∈ keptTo kb s.dirty i then false else s.tn k, ca := fun k => if k ∈ s.dirty.take i then none else s.ca k }
theorem dec_zero (s : Dsk) (kb : List Bool) : s.dec kb 0 = s := by simp [Dsk.dec, keptTo]
theorem mem_take_succ {L : List Nat} {i k : Nat} (hi : i < L.length) : k ∈ L.take (i + 1) ↔ k ∈ L.take i ∨ k = L[i] := by
  rw [List.take_succ_eq_append_getElem hi, List.mem_append, List.mem_singleton]
theorem not_mem_take {L : List Nat} (h : L.Pairwise (· < ·)) {i : Nat} (hi : i < L.length) : L[i] ∉ L.take i := by
  intro hm
  obtain ⟨j, hj, e⟩ := List.mem_iff_getElem.1 hm
  rw [List.length_take] at hj
  rw [List.getElem_take] at e
  have := List.pairwise_iff_getElem.1 h j i (by omega) hi (by omega)
  omega
/-- What the cache has of the one that is decided next. -/
theorem dec_next (s : Dsk) (kb : List Bool) {i : Nat} (hi : i < s.dirty.length) : ∃ bs, s.ca s.dirty[i] = some bs ∧ (s.dec kb i).ca s.dirty[i] = some bs ∧ s.dirty[i] < s.N := by
  have hm := mem_dirty.1 (List.getElem_mem hi)
  obtain ⟨bs, hbs⟩ := Option.isSome_iff_exists.1 hm.2
  refine ⟨bs, hbs, ?_, hm.1⟩
  simp only [Dsk.dec]
  rw [if_neg (not_mem_take (dirty_sorted s) hi)]
  exact hbs
theorem dec_ca (s : Dsk) (kb : List Bool) {i : Nat} (hi : i < s.dirty.length) : (s.dec kb (i + 1)).ca = upd (s.dec kb i).ca s.dirty[i] none := by
  funext k
  unfold upd
  simp only [Dsk.dec, mem_take_succ hi]
  by_cases h1 : k = s.dirty[i]
  · simp [h1]
  · by_cases h2 : k ∈ s.dirty.take i <;> simp [h1, h2]
theorem getD_dirty (s : Dsk) {i : Nat} (hi : i < s.dirty.length) : s.dirty.getD i 0 = s.dirty[i] := by
  rw [List.getD_eq_getElem?_getD, List.getElem?_eq_getElem hi]; rfl
theorem dec_no (s : Dsk) (kb : List Bool) {i : Nat} (hi : i < s.dirty.length) (h : bit kb i = false) : s.dec kb (i + 1) = { s.dec kb i with ca := upd (s.dec kb i).ca s.dirty[i] none } := by
  rw [← dec_ca s kb hi]
  unfold Dsk.dec
  rw [kept_no h]
theorem dec_yes (s : Dsk) (kb : List Bool) {i : Nat} (hi : i < s.dirty.length) (h : bit kb i = true) {bs : List UInt8} (hb : s.ca s.dirty[i] = some bs) :
    s.dec kb (i + 1) = { s.dec kb i with st := upd (s.dec kb i).st s.dirty[i] bs, tn := upd (s.dec kb i).tn s.dirty[i] false, ca := upd (s.dec kb i).ca s.dirty[i] none } := by
  rw [← dec_ca s kb hi]
  have e1 : (s.dec kb (i + 1)).st = upd (s.dec kb i).st s.dirty[i] bs := by
    funext k
    unfold upd
    simp only [Dsk.dec, kept_yes h, getD_dirty s hi, List.mem_append, List.mem_singleton]
    by_cases h1 : k = s.dirty[i]
    · simp [h1, hb]
    · by_cases h2 : k ∈ keptTo kb s.dirty i <;> simp [h1, h2]
  have e2 : (s.dec kb (i + 1)).tn = upd (s.dec kb i).tn s.dirty[i] false := by
    funext k
    unfold upd
    simp only [Dsk.dec, kept_yes h, getD_dirty s hi, List.mem_append, List.mem_singleton]
    by_cases h1 : k = s.dirty[i]
    · simp [h1]
    · by_cases h2 : k ∈ keptTo kb s.dirty i <;> simp [h1, h2]
  rw [← e1, ← e2]
  rfl
theorem Tied.del {N : Nat} {D : DataW (Array Value)} {ca : Nat → Option (List UInt8)} (h : Tied N D ca) (k : Nat) : Tied N (D.del (.int .i64 k)) (upd ca k none) := by
  refine ⟨fun x hx => ?_, fun j cs hj => ?_, fun j cs hj => ?_, fun j cs hj => ?_, fun j cs hj => ?_⟩
  · by_cases e : x = k
    · subst e; rw [has_del_same] at hx; cases hx
    · rw [has_del_other (fun e' => e (by injection e'))] at hx
      obtain ⟨j, rfl, hj⟩ := h.back x hx
      exact ⟨j, rfl, by rw [upd_other _ _ (fun e' => e (by rw [e']))]; exact hj⟩
  all_goals
    have e : j ≠ k := by rintro rfl; rw [upd_same] at hj; cases hj
    rw [upd_other _ _ e] at hj
  · rw [has_del_other (lit_ne e)]; exact h.has j cs hj
  · exact fun z => (atKey_del_other (lit_ne e) z).trans (h.at_ j cs hj z)
  · exact h.lt j cs hj
  · exact h.len j cs hj
/-- Which of them is torn. -/
def Dsk.tear (s : Dsk) (K : List Nat) (torn : Int) : Dsk :=
  if 0 ≤ torn ∧ torn < K.length then { s with st := upd s.st (K.getD torn.toNat 0) zer, tn := upd s.tn (K.getD torn.toNat 0) true } else s
def Dsk.decide (s : Dsk) (kb : List Bool) (torn : Int) : Dsk := (s.dec kb s.dirty.length).tear (keptTo kb s.dirty s.dirty.length) torn
/-- Truths in memory, in no block of the disk's. -/
structure Bools (w : World) (d pb mb : Nat) (v : Value) (kb : List Bool) : Prop where
  is : ∃ p c, v = .slice p kb.length c ∧ (kb = [] ∨ ∃ b o, p = some ⟨b, o, none⟩ ∧ b < w.heap.size ∧ b ≠ d ∧ b ≠ pb ∧ b ≠ mb ∧ ∀ i (hi : i < kb.length), w.cell? ⟨b, o + i, none⟩ = some (.bool kb[i]))
  len : kb.length ≤ 9223372036854775807
end Go.Proofs.Ytifnjidechbjlaa
