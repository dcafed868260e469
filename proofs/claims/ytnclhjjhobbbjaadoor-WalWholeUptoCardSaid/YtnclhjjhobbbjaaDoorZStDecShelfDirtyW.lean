/-
  A log over a disk of 40 sectors with no fuse: what Append, Reset and Open do to it, told by its commits.
  What is decided when the power goes: as mathematics.
  The library's contracts at this program, laid in plain words: maps.Keys, slices.Sorted and slices.Sort at int.
  What Dirty of package disk does: the numbers of the sectors in the cache, rising.
-/
import Derived.Test.YtnclhjjhobbbjaaDoorZBegun
import Derived.Test.YtnclhjjhobbbjaaDoorZLgLsComElCu3Ops
import Derived.Test.YtnclhjjhobbbjaaDoorZFlushW
import Derived.Shelf.SlGeneric
import Derived.Shelf.SlIterI.Nil
import Derived.Shelf.SortM.Plain
import Derived.Shelf.SortM.SortNone
import Derived.Test.YtnclhjjhobbbjaaDoorChecked
import Derived.Test.YtnclhjjhobbbjaaDoorZSumShlSmallCallDirtyWrite
namespace Go.Proofs.YtnclhjjhobbbjaaDoor
open Go.RowKit Go.Maps
set_option linter.unusedVariables false      -- a walk need not use every condition

def nt4 : List UInt8 := [110, 111, 116, 101]
/-- A log of 30 slots with these commits, of epoch e. -/
def St (w : World) (d pb mb l : Nat) (e : Int) (had : Cs) : Prop := ∃ (u : Nat) (s : Dsk), At w d pb mb s ∧ LAt w d pb mb l ⟨e, 30, nt4, u, false, false⟩ ∧ Wl s ⟨e, 30, nt4, u, false, false⟩ had ∧ TabOk w ∧ s.N = 40 ∧ s.fuse = 0
theorem St.on {w w' : World} {d pb mb l : Nat} {e : Int} {had : Cs} (h : St w d pb mb l e had) (hb : Below w.heap.size w w') : St w' d pb mb l e had := by
  obtain ⟨u, s, h1, h2, h3, h4, h5⟩ := h
  exact ⟨u, s, h1.on hb, h2.on hb, h3, tab_on h4 hb, h5⟩
theorem St.tab {w : World} {d pb mb l : Nat} {e : Int} {had : Cs} (h : St w d pb mb l e had) : TabOk w := by
  obtain ⟨u, s, h1, h2, h3, h4, h5⟩ := h
  exact h4
theorem Kp.ge {B : Nat} {w w' : World} (h : Below B w w') : Kp (fun k => B ≤ k) w w' := ⟨h.os, h.tape, h.output, h.size, fun k _ hx => h.block k (by omega)⟩
/-- Where the log's note lies. -/
def NtB (w : World) (l base : Nat) : Prop := ∀ a n c, w.cell? ⟨l, 3, none⟩ = some (.slice (some a) n c) → a.block < base
theorem St.ntB {w : World} {d pb mb l : Nat} {e : Int} {had : Cs} (h : St w d pb mb l e had) : NtB w l w.heap.size := by
  obtain ⟨u, s, hA, hL, hW, hT, hN, hF⟩ := h
  obtain ⟨np, nc, hblk, hn⟩ := hL.cells
  obtain ⟨-, -, -, z3, -⟩ := seven_of hblk
  intro a n c e
  rw [z3] at e
  injection e with e
  exact hn.1.blk_lt (show nt4 ≠ [] by decide) e
/-- What lies further on may change. -/
theorem St.grow {w w' : World} {d pb mb l : Nat} {e : Int} {had : Cs} {base : Nat} (h : St w d pb mb l e had) (hB : Below base w w') (hZ : ∀ k, X4 d pb mb l k → k < base) (hb : NtB w l base) : St w' d pb mb l e had := by
  obtain ⟨u, s, hA, hL, hW, hT, hN, hF⟩ := h
  obtain ⟨np, nc, hblk, hn⟩ := hL.cells
  obtain ⟨-, -, -, z3, -⟩ := seven_of hblk
  have hx : BsX (fun k => base ≤ k) w (.slice np nt4.length nc) nt4 := ⟨hn.1, fun _ a n c e => by
    rw [e] at z3
    have := hb _ _ _ z3
    show ¬ (base ≤ a.block)
    omega⟩
  refine ⟨u, s, hA.same (hB.block _ (hZ _ (x4d d pb mb l).1)) (hB.block _ (hZ _ (x4d d pb mb l).2.1)) (hB.block _ (hZ _ (x4d d pb mb l).2.2.1)), ?_, hW, tab_blk hT (hB.block 0 (by have := hZ _ (x4d d pb mb l).1; omega)), hN, hF⟩
  exact { hL with blk := ⟨_, (hB.block _ (hZ _ (x4d d pb mb l).2.2.2)).trans hblk, (hx.kp (Kp.ge hB)).1, hn.2⟩ }
theorem St.x4 {w : World} {d pb mb l : Nat} {e : Int} {had : Cs} (h : St w d pb mb l e had) : ∀ k, X4 d pb mb l k → k < w.heap.size := by
  obtain ⟨u, s, hA, hL, hW, hT, hN, hF⟩ := h
  have := hA.lts
  have := hL.lt
  intro k hk
  rcases hk with hk | hk | hk | hk <;> omega
theorem app_st (w : World) (d pb mb l : Nat) (e : Int) (had : Cs) (h : St w d pb mb l e had) (v : Value) (rs : Rs) (hv : Bss w v rs) (hf : Few rs) :
    Calls Tryd.prog 12 #[.pointer (some ⟨l, 0, none⟩), v] w fun r w' => ∃ (c : Int) (had' : Cs), r = .returned (.int .i64 c) ∧ St w' d pb mb l e had' ∧ Kp (X4 d pb mb l) w w' ∧ w'.cell? ⟨l, 3, none⟩ = w.cell? ⟨l, 3, none⟩ ∧ (c = 6 ∧ had' = had ∨ c = 0 ∧ had' = had ++ [rs]) := by
  obtain ⟨u, s, hA, hL, hW, hT, hN, hF⟩ := h
  refine (append12n w d pb mb l s _ hA hL hT v rs hv hf.len).mono ?_
  rintro r w' ⟨hr, h3⟩
  unfold LogR at hr
  rcases apd_is hW rfl rs hf.ok with h1 | ⟨h1, h2, hN', h4, h5⟩ | ⟨-, h2, -⟩
  · rw [h1] at hr
    obtain ⟨rfl, hA', hL', hK, hT'⟩ := hr
    exact ⟨6, had, rfl, ⟨u, s, hA', hL', hW, hT', hN, hF⟩, hK, h3, .inl ⟨rfl, rfl⟩⟩
  · obtain ⟨rfl, hA', hL', hK, hT'⟩ := hr
    rw [h2] at hL' h5
    exact ⟨0, had ++ [rs], by rw [h1], ⟨_, _, hA', hL', h5, hT', by rw [hN', hN], h4 hF⟩, hK, h3, .inr ⟨rfl, rfl⟩⟩
  · exact absurd hF h2
theorem rst_st (w : World) (d pb mb l : Nat) (had : Cs) (h : St w d pb mb l 1 had) :
    Calls Tryd.prog 13 #[.pointer (some ⟨l, 0, none⟩)] w fun r w' => r = .returned (.int .i64 0) ∧ St w' d pb mb l 2 [] ∧ Kp (X4 d pb mb l) w w' := by
  obtain ⟨u, s, hA, hL, hW, hT, hN, hF⟩ := h
  refine (reset13 w d pb mb l s _ hA hL hT (by show (hpay 30 nt4).length ≤ 112; decide)).mono ?_
  intro r w' hr
  unfold LogR at hr
  rcases rst_is hW with h1 | ⟨h1, h2, h3, h4, h5⟩ | ⟨-, h2, -⟩
  · exfalso
    unfold rst at h1
    rw [if_neg (by show ¬ (false = true); decide), if_neg (by show ¬ ((1 : Int) = 1099511627776); decide)] at h1
    split at h1
    · rename_i hne
      rcases hwr_is (slots := 30) (note := nt4) hW.cl (by decide : (0 : Int) ≤ 1 + 1) (by decide) (by rw [hN]; decide) with ⟨p1, -⟩ | ⟨p1, -, -, -, p5⟩
      · exact hne p1
      · exact p5 hF
    · injection h1 with h1; cases h1
  · obtain ⟨rfl, hA', hL', hK, hT'⟩ := hr
    rw [h2] at hL' h5
    exact ⟨by rw [h1], ⟨_, _, hA', hL', h5, hT', by rw [h3, hN], h4 hF⟩, hK⟩
  · exact absurd hF h2
theorem open_st (w : World) (d pb mb l : Nat) (e : Int) (had : Cs) (h : St w d pb mb l e had) :
    Calls Tryd.prog 16 #[.pointer (some ⟨d, 0, none⟩)] w fun r w' => ∃ m np nc p c, r = .returned (.tuple #[.pointer (some ⟨m, 0, none⟩), .slice np 4 nc, .slice p had.length c, .int .i64 0]) ∧ Bs w' (.slice np 4 nc) nt4 ∧ (sl (sl bytesE)).E (fun _ => False) w' (.slice p had.length c) had ∧ (∃ u, LAt w' d pb mb m ⟨e, 30, nt4, u, true, false⟩) ∧ Below w.heap.size w w' := by
  obtain ⟨u, s, hA, hL, hW, hT, hN, hF⟩ := h
  have hg := hW.gd
  have c := open16 w d pb mb s hA hT hW.cl.down e 30 nt4 hg.head hL.pos hL.top (by decide) (by decide) (by rw [hN]; decide) (by decide)
  have hts : rds s.fr e 30 (30 + 1) 0 = (had, u) := hg.tells
  rw [hts] at c
  unfold OpR at c
  refine c.mono ?_
  rintro r w' ⟨m, np, nc, p, q, rfl, -, h1, h2, -, h3, h4, -⟩
  exact ⟨m, np, nc, p, q, rfl, h1, h2, ⟨u, h3⟩, h4⟩
end Go.Proofs.YtnclhjjhobbbjaaDoor
namespace Go.Proofs.YtnclhjjhobbbjaaDoor
open Go.RowKit Go.Maps Go.ChangeMaps Go.MapKept Go.WideShapes

def bit (kb : List Bool) (i : Nat) : Bool := kb.getD (i % kb.length) false
def keptTo (kb : List Bool) (L : List Nat) (i : Nat) : List Nat := ((List.range i).filter (bit kb)).map (fun j => L.getD j 0)
theorem kept_yes {kb : List Bool} {L : List Nat} {i : Nat} (h : bit kb i = true) : keptTo kb L (i + 1) = keptTo kb L i ++ [L.getD i 0] := by
  unfold keptTo
  rw [List.range_succ, List.filter_append, List.map_append]
  simp [h]
theorem kept_no {kb : List Bool} {L : List Nat} {i : Nat} (h : bit kb i = false) : keptTo kb L (i + 1) = keptTo kb L i := by
  unfold keptTo
  rw [List.range_succ, List.filter_append, List.map_append]
  simp [h]
theorem kept_len (kb : List Bool) (L : List Nat) (i : Nat) : (keptTo kb L i).length ≤ i := by
  unfold keptTo
  have := List.length_filter_le (bit kb) (List.range i)
  simpa using this
theorem kept_mem {kb : List Bool} {L : List Nat} {i k : Nat} (h : k ∈ keptTo kb L i) (hi : i ≤ L.length) : k ∈ L := by
  unfold keptTo at h
  obtain ⟨j, hj, rfl⟩ := List.mem_map.1 h
  have hj' : j < i := List.mem_range.1 (List.mem_filter.1 hj).1
  rw [List.getD_eq_getElem?_getD, List.getElem?_eq_getElem (by omega)]
  exact List.getElem_mem _
/-- The disk when i of the dirty ones are decided. -/
def Dsk.dec (s : Dsk) (kb : List Bool) (i : Nat) : Dsk :=
  { s with st := fun k => if k ∈ keptTo kb s.dirty i then (s.ca k).getD (s.st k) else s.st k, tn := fun k => if k ∈ keptTo kb s.dirty i then false else s.tn k, ca := fun k => if k ∈ s.dirty.take i then none else s.ca k }
theorem dec_zero (s : Dsk) (kb : List Bool) : s.dec kb 0 = s := by simp [Dsk.dec, keptTo]
theorem mem_take_succ {L : List Nat} {i k : Nat} (hi : i < L.length) : k ∈ L.take (i + 1) ↔ k ∈ L.take i ∨ k = L[i] := by
  rw [List.take_succ_eq_append_getElem hi, List.mem_append, List.mem_singleton]
theorem not_mem_take {L : List Nat} (h : L.Pairwise (· < ·)) {i : Nat} (hi : i < L.length) : L[i] ∉ L.take i := by
  intro hm
  obtain ⟨j, hj, e⟩ := List.mem_iff_getElem.1 hm
  rw [List.length_take] at hj
  rw [List.getElem_take] at e
  have := List.pairwise_iff_getElem.1 h j i (by omega) hi (by omega)
  omega
/-- What the cache has of the one that is decided next. -/
theorem dec_next (s : Dsk) (kb : List Bool) {i : Nat} (hi : i < s.dirty.length) : ∃ bs, s.ca s.dirty[i] = some bs ∧ (s.dec kb i).ca s.dirty[i] = some bs ∧ s.dirty[i] < s.N := by
  have hm := mem_dirty.1 (List.getElem_mem hi)
  obtain ⟨bs, hbs⟩ := Option.isSome_iff_exists.1 hm.2
  refine ⟨bs, hbs, ?_, hm.1⟩
  simp only [Dsk.dec]
  rw [if_neg (not_mem_take (dirty_sorted s) hi)]
  exact hbs
theorem dec_ca (s : Dsk) (kb : List Bool) {i : Nat} (hi : i < s.dirty.length) : (s.dec kb (i + 1)).ca = upd (s.dec kb i).ca s.dirty[i] none := by
  funext k
  unfold upd
  simp only [Dsk.dec, mem_take_succ hi]
  by_cases h1 : k = s.dirty[i]
  · simp [h1]
  · by_cases h2 : k ∈ s.dirty.take i <;> simp [h1, h2]
theorem getD_dirty (s : Dsk) {i : Nat} (hi : i < s.dirty.length) : s.dirty.getD i 0 = s.dirty[i] := by
  rw [List.getD_eq_getElem?_getD, List.getElem?_eq_getElem hi]; rfl
theorem dec_no (s : Dsk) (kb : List Bool) {i : Nat} (hi : i < s.dirty.length) (h : bit kb i = false) : s.dec kb (i + 1) = { s.dec kb i with ca := upd (s.dec kb i).ca s.dirty[i] none } := by
  rw [← dec_ca s kb hi]
  unfold Dsk.dec
  rw [kept_no h]
theorem dec_yes (s : Dsk) (kb : List Bool) {i : Nat} (hi : i < s.dirty.length) (h : bit kb i = true) {bs : List UInt8} (hb : s.ca s.dirty[i] = some bs) :
    s.dec kb (i + 1) = { s.dec kb i with st := upd (s.dec kb i).st s.dirty[i] bs, tn := upd (s.dec kb i).tn s.dirty[i] false, ca := upd (s.dec kb i).ca s.dirty[i] none } := by
  rw [← dec_ca s kb hi]
  have e1 : (s.dec kb (i + 1)).st = upd (s.dec kb i).st s.dirty[i] bs := by
    funext k
    unfold upd
    simp only [Dsk.dec, kept_yes h, getD_dirty s hi, List.mem_append, List.mem_singleton]
    by_cases h1 : k = s.dirty[i]
    · simp [h1, hb]
    · by_cases h2 : k ∈ keptTo kb s.dirty i <;> simp [h1, h2]
  have e2 : (s.dec kb (i + 1)).tn = upd (s.dec kb i).tn s.dirty[i] false := by
    funext k
    unfold upd
    simp only [Dsk.dec, kept_yes h, getD_dirty s hi, List.mem_append, List.mem_singleton]
    by_cases h1 : k = s.dirty[i]
    · simp [h1]
    · by_cases h2 : k ∈ keptTo kb s.dirty i <;> simp [h1, h2]
  rw [← e1, ← e2]
  rfl
theorem Tied.del {N : Nat} {D : DataW (Array Value)} {ca : Nat → Option (List UInt8)} (h : Tied N D ca) (k : Nat) : Tied N (D.del (.int .i64 k)) (upd ca k none) := by
  refine ⟨fun x hx => ?_, fun j cs hj => ?_, fun j cs hj => ?_, fun j cs hj => ?_, fun j cs hj => ?_⟩
  · by_cases e : x = k
    · subst e; rw [has_del_same] at hx; cases hx
    · rw [has_del_other (fun e' => e (by injection e'))] at hx
      obtain ⟨j, rfl, hj⟩ := h.back x hx
      exact ⟨j, rfl, by rw [upd_other _ _ (fun e' => e (by rw [e']))]; exact hj⟩
  all_goals
    have e : j ≠ k := by rintro rfl; rw [upd_same] at hj; cases hj
    rw [upd_other _ _ e] at hj
  · rw [has_del_other (lit_ne e)]; exact h.has j cs hj
  · exact fun z => (atKey_del_other (lit_ne e) z).trans (h.at_ j cs hj z)
  · exact h.lt j cs hj
  · exact h.len j cs hj
/-- Which of them is torn. -/
def Dsk.tear (s : Dsk) (K : List Nat) (torn : Int) : Dsk :=
  if 0 ≤ torn ∧ torn < K.length then { s with st := upd s.st (K.getD torn.toNat 0) zer, tn := upd s.tn (K.getD torn.toNat 0) true } else s
def Dsk.decide (s : Dsk) (kb : List Bool) (torn : Int) : Dsk := (s.dec kb s.dirty.length).tear (keptTo kb s.dirty s.dirty.length) torn
/-- Truths in memory, in no block of the disk's. -/
structure Bools (w : World) (d pb mb : Nat) (v : Value) (kb : List Bool) : Prop where
  is : ∃ p c, v = .slice p kb.length c ∧ (kb = [] ∨ ∃ b o, p = some ⟨b, o, none⟩ ∧ b < w.heap.size ∧ b ≠ d ∧ b ≠ pb ∧ b ≠ mb ∧ ∀ i (hi : i < kb.length), w.cell? ⟨b, o + i, none⟩ = some (.bool kb[i]))
  len : kb.length ≤ 9223372036854775807
end Go.Proofs.YtnclhjjhobbbjaaDoor
namespace Go.Proofs.YtnclhjjhobbbjaaDoor
open Go.Shelf
def keys63_ren : Go.Shelf.Ren := ⟨fun | 7 => 63 | 10 => 75 | n => n, fun | 23 => 59 | 26 => 3 | 3 => 66 | 28 => 102 | 0 => 0 | 27 => 101 | 33 => 93 | 4 => 4 | n => n, fun | n => n⟩
theorem keys63 : Go.Proofs.SlLaysZI.n7 Tryd.prog keys63_ren := {
  mixed := by kernel_rfl
  f7 := ⟨Tryd.f63.name, by decide, Tryd.func63.trans (congrArg some (by kernel_rfl))⟩
  f10 := ⟨Tryd.f75.name, by decide, Tryd.func75.trans (congrArg some (by kernel_rfl))⟩
  t0 := Tryd.underlying0
  a0 := Tryd.isAgg0
  z0 := Tryd.sizeOf0
  v0 := Tryd.zeroValue0
  t4 := Tryd.underlying4
  a4 := Tryd.isAgg4
  z4 := Tryd.sizeOf4
  v4 := Tryd.zeroValue4
  t23 := Tryd.underlying59
  a23 := Tryd.isAgg59
  z23 := Tryd.sizeOf59
  v23 := Tryd.zeroValue59
  t26 := Tryd.underlying3
  a26 := Tryd.isAgg3
  z26 := Tryd.sizeOf3
  v26 := Tryd.zeroValue3
  t27 := Tryd.underlying101
  a27 := Tryd.isAgg101
  z27 := Tryd.sizeOf101
  v27 := Tryd.zeroValue101
  t28 := Tryd.underlying102
  a28 := Tryd.isAgg102
  z28 := Tryd.sizeOf102
  v28 := Tryd.zeroValue102
  t33 := Tryd.underlying93
  a33 := Tryd.isAgg93
  z33 := Tryd.sizeOf93
  v33 := Tryd.zeroValue93 }
def sorted62_ren : Go.Shelf.Ren := ⟨fun | 6 => 62 | 8 => 73 | 9 => 74 | 11 => 82 | 13 => 84 | 12 => 83 | 23 => 96 | 24 => 97 | 14 => 87 | 15 => 88 | 16 => 89 | 17 => 90 | 18 => 91 | 19 => 92 | 20 => 93 | 21 => 94 | 22 => 95 | 25 => 98 | 26 => 99 | 27 => 100 | 28 => 101 | 29 => 102 | 30 => 103 | 31 => 104 | n => n, fun | 26 => 3 | 28 => 102 | 24 => 85 | 0 => 0 | 3 => 3 | 37 => 94 | 48 => 36 | 50 => 77 | 4 => 4 | 40 => 131 | 39 => 130 | 45 => 136 | 5 => 5 | 9 => 9 | 51 => 140 | 55 => 144 | 57 => 146 | 58 => 147 | 33 => 93 | n => n, fun | n => n⟩
theorem sorted62 : Go.Proofs.SlLaysZI.n6 Tryd.prog sorted62_ren := {
  mixed := by kernel_rfl
  f6 := ⟨Tryd.f62.name, by decide, Tryd.func62.trans (congrArg some (by kernel_rfl))⟩
  f8 := ⟨Tryd.f73.name, by decide, Tryd.func73.trans (congrArg some (by kernel_rfl))⟩
  f11 := ⟨Tryd.f82.name, by decide, Tryd.func82.trans (congrArg some (by kernel_rfl))⟩
  t0 := Tryd.underlying0
  a0 := Tryd.isAgg0
  z0 := Tryd.sizeOf0
  v0 := Tryd.zeroValue0
  t24 := Tryd.underlying85
  a24 := Tryd.isAgg85
  z24 := Tryd.sizeOf85
  v24 := Tryd.zeroValue85
  t26 := Tryd.underlying3
  a26 := Tryd.isAgg3
  z26 := Tryd.sizeOf3
  v26 := Tryd.zeroValue3
  t28 := Tryd.underlying102
  a28 := Tryd.isAgg102
  z28 := Tryd.sizeOf102
  v28 := Tryd.zeroValue102
  i26 := by kernel_rfl }
def sort74_ren : Go.Shelf.Ren := ⟨fun | 5 => 74 | 8 => 84 | 7 => 83 | 19 => 96 | 20 => 97 | 10 => 87 | 11 => 88 | 12 => 89 | 13 => 90 | 14 => 91 | 15 => 92 | 16 => 93 | 17 => 94 | 18 => 95 | 30 => 98 | 31 => 99 | 32 => 100 | 33 => 101 | 34 => 102 | 35 => 103 | 40 => 104 | n => n, fun | 23 => 85 | 25 => 3 | 3 => 3 | 32 => 94 | 22 => 85 | 0 => 0 | 44 => 36 | 46 => 77 | 4 => 4 | 36 => 131 | 35 => 130 | 41 => 136 | 5 => 5 | 9 => 9 | 53 => 140 | 57 => 144 | 63 => 146 | 64 => 147 | n => n, fun | n => n⟩
theorem sort74 : Go.Proofs.SlLaysM.n5 Tryd.prog sort74_ren := {
  mixed := by kernel_rfl
  f5 := ⟨Tryd.f74.name, by decide, Tryd.func74.trans (congrArg some (by kernel_rfl))⟩
  f7 := ⟨Tryd.f83.name, by decide, Tryd.func83.trans (congrArg some (by kernel_rfl))⟩
  f8 := Tryd.func84.trans (congrArg some (by kernel_rfl))
  f10 := ⟨Tryd.f87.name, by decide, Tryd.func87.trans (congrArg some (by kernel_rfl))⟩
  f11 := ⟨Tryd.f88.name, by decide, Tryd.func88.trans (congrArg some (by kernel_rfl))⟩
  f12 := ⟨Tryd.f89.name, by decide, Tryd.func89.trans (congrArg some (by kernel_rfl))⟩
  f13 := ⟨Tryd.f90.name, by decide, Tryd.func90.trans (congrArg some (by kernel_rfl))⟩
  f14 := ⟨Tryd.f91.name, by decide, Tryd.func91.trans (congrArg some (by kernel_rfl))⟩
  f15 := ⟨Tryd.f92.name, by decide, Tryd.func92.trans (congrArg some (by kernel_rfl))⟩
  f16 := ⟨Tryd.f93.name, by decide, Tryd.func93.trans (congrArg some (by kernel_rfl))⟩
  f17 := ⟨Tryd.f94.name, by decide, Tryd.func94.trans (congrArg some (by kernel_rfl))⟩
  f18 := ⟨Tryd.f95.name, by decide, Tryd.func95.trans (congrArg some (by kernel_rfl))⟩
  f19 := Tryd.func96.trans (congrArg some (by kernel_rfl))
  f20 := Tryd.func97.trans (congrArg some (by kernel_rfl))
  f30 := ⟨Tryd.f98.name, by decide, Tryd.func98.trans (congrArg some (by kernel_rfl))⟩
  f31 := Tryd.func99.trans (congrArg some (by kernel_rfl))
  f32 := Tryd.func100.trans (congrArg some (by kernel_rfl))
  f33 := ⟨Tryd.f101.name, by decide, Tryd.func101.trans (congrArg some (by kernel_rfl))⟩
  f34 := ⟨Tryd.f102.name, by decide, Tryd.func102.trans (congrArg some (by kernel_rfl))⟩
  f35 := ⟨Tryd.f103.name, by decide, Tryd.func103.trans (congrArg some (by kernel_rfl))⟩
  f40 := ⟨Tryd.f104.name, by decide, Tryd.func104.trans (congrArg some (by kernel_rfl))⟩
  t0 := Tryd.underlying0
  a0 := Tryd.isAgg0
  z0 := Tryd.sizeOf0
  v0 := Tryd.zeroValue0
  t3 := Tryd.underlying3
  a3 := Tryd.isAgg3
  z3 := Tryd.sizeOf3
  v3 := Tryd.zeroValue3
  t4 := Tryd.underlying4
  a4 := Tryd.isAgg4
  z4 := Tryd.sizeOf4
  v4 := Tryd.zeroValue4
  t5 := Tryd.underlying5
  a5 := Tryd.isAgg5
  z5 := Tryd.sizeOf5
  v5 := Tryd.zeroValue5
  t9 := Tryd.underlying9
  a9 := Tryd.isAgg9
  z9 := Tryd.sizeOf9
  v9 := Tryd.zeroValue9
  t22 := Tryd.underlying85
  a22 := Tryd.isAgg85
  z22 := Tryd.sizeOf85
  v22 := Tryd.zeroValue85
  t23 := Tryd.underlying85
  a23 := Tryd.isAgg85
  z23 := Tryd.sizeOf85
  v23 := Tryd.zeroValue85
  t25 := Tryd.underlying3
  a25 := Tryd.isAgg3
  z25 := Tryd.sizeOf3
  v25 := Tryd.zeroValue3
  t32 := Tryd.underlying94
  a32 := Tryd.isAgg94
  z32 := Tryd.sizeOf94
  v32 := Tryd.zeroValue94
  t35 := Tryd.underlying130
  a35 := Tryd.isAgg130
  z35 := Tryd.sizeOf130
  v35 := Tryd.zeroValue130
  t36 := Tryd.underlying131
  a36 := Tryd.isAgg131
  z36 := Tryd.sizeOf131
  v36 := Tryd.zeroValue131
  t41 := Tryd.underlying136
  a41 := Tryd.isAgg136
  z41 := Tryd.sizeOf136
  v41 := Tryd.zeroValue136
  t44 := Tryd.underlying36
  a44 := Tryd.isAgg36
  z44 := Tryd.sizeOf36
  v44 := Tryd.zeroValue36
  t46 := Tryd.underlying77
  a46 := Tryd.isAgg77
  z46 := Tryd.sizeOf77
  v46 := Tryd.zeroValue77
  t53 := Tryd.underlying140
  a53 := Tryd.isAgg140
  z53 := Tryd.sizeOf140
  v53 := Tryd.zeroValue140
  t57 := Tryd.underlying144
  a57 := Tryd.isAgg144
  z57 := Tryd.sizeOf144
  v57 := Tryd.zeroValue144
  t63 := Tryd.underlying146
  a63 := Tryd.isAgg146
  z63 := Tryd.sizeOf146
  v63 := Tryd.zeroValue146
  t64 := Tryd.underlying147
  a64 := Tryd.isAgg147
  z64 := Tryd.sizeOf147
  v64 := Tryd.zeroValue147 }
end Go.Proofs.YtnclhjjhobbbjaaDoor
namespace Go.Proofs.YtnclhjjhobbbjaaDoor
open Go.RowKit Go.Maps Go.Sort Go.Shelf
set_option linter.unusedVariables false      -- a walk need not use every condition

theorem sort_ints {l : List Nat} (h : l.Pairwise (· < ·)) {ss : List Int} (hp : ss.Perm (ints l)) : ss.mergeSort (fun x y => decide (x ≤ y)) = ints l := by
  have e := mergeSort_of_perm_i hp
  have e2 : (ints l).mergeSort leI = ints l := List.mergeSort_of_pairwise (by
    unfold ints
    exact List.pairwise_map.2 (h.imp fun {a b} hab => by simp only [leI, decide_eq_true_eq]; omega))
  exact e.trans e2
theorem sorts62 (m : Nat) : AnyZI.SortsIn Tryd.prog sorted62_ren Fence.wide m :=
  ⟨fun blk off cap ss W hH hblk hsz => callsIn_wide.2 (AnyM.slices_Sort_int sort74 blk off cap ss W hH hblk hsz),
   fun p cap W => callsIn_wide.2 (AnyM.slices_Sort_int_none sort74 p cap W)⟩
theorem keys_c (mb : Option Nat) (W : World) : Calls Tryd.prog 63 #[.map mb] W fun e w' => e = .returned (.func (.func 75) #[] #[.pointer (some ⟨W.heap.size, 0, none⟩)]) ∧ w' = W.alloc (.cells #[.map mb] 59) :=
  (callsIn_wide (n := 5)).1 (AnyZI.keys_in keys63 Fence.wide 5 trivial rfl mb W)
set_option maxHeartbeats 1000000 in
theorem sorted_c {b nn : Nat} {D0 : DataW (Array Value)} (w : World) (hown : w.ownsMap Tryd.prog 3 secR b nn D0) (hmax : Maps.size D0 ≤ 16384) :
    Calls Tryd.prog 62 #[.func (.func 75) #[] #[.pointer (some ⟨w.heap.size, 0, none⟩)]] (w.alloc (.cells #[.map (some b)] 59)) fun e w' => ∃ (v : Value) (ss : List Int), e = .returned v ∧ ss.Perm (intKeys D0) ∧
      w'.ownsRow (w.heap.size + 1) 3 1 v ss.length ((ss.mergeSort (fun x y => decide (x ≤ y))).map encZ) ∧ (v = .slice none 0 0 ↔ ss = []) ∧ Below (w.heap.size + 1) (w.alloc (.cells #[.map (some b)] 59)) w' := by
  have hbl := hown.lt
  have hseq : SeqGives Fence.wide 2 Tryd.prog 75 #[.pointer (some ⟨w.heap.size, 0, none⟩)] encZ (fun ss => ss.Perm (intKeys D0)) (Maps.size D0) (w.alloc (.cells #[.map (some b)] 59)) :=
    AnyZI.keys_gives (ρ := keys63_ren) { keys63 with } Fence.wide _ trivial rfl (by omega) w.heap.size b nn D0 _ (by simp) (by simp) (hown.alloc _)
  have cS := AnyZI.sorted_in sorted62 Fence.wide 5 trivial trivial trivial trivial rfl (by omega) (sorts62 _) (enters_of Tryd.func74 (by kernel_rfl) rfl) 75 #[.pointer (some ⟨w.heap.size, 0, none⟩)] trivial (enters_of Tryd.func75 (by kernel_rfl) rfl) _ _ (by unfold maxLen; omega) (by omega) _ hseq
  change CallsIn _ _ Tryd.prog 62 _ _ _ at cS
  refine (callsIn_wide (n := 5)).1 (cS.mono ?_)
  rintro e w' ⟨v, ss, rfl, hS, hrow, hnil, hb⟩
  exact ⟨v, ss, rfl, hS, (by rw [World.size_alloc] at hrow; exact hrow), hnil, by simpa using hb⟩
def nums (l : List Nat) : List Value := l.map fun (k : Nat) => Value.int .i64 k
theorem nums_eq (l : List Nat) : (ints l).map encZ = nums l := by simp [ints, nums, encZ]
set_option maxHeartbeats 1000000 in
theorem dirty54 (w : World) (d pb mb : Nat) (s : Dsk) (h : At w d pb mb s) :
    Calls Tryd.prog 54 #[.pointer (some ⟨d, 0, none⟩)] w fun e w' => ∃ v : Value, e = .returned v ∧ w'.ownsRow w.heap.size 3 1 v s.dirty.length (nums s.dirty) ∧ (v = .slice none 0 0 ↔ s.dirty = []) ∧ Below w.heap.size w w' := by
  obtain ⟨-, c1, -, -, -, -⟩ := five_of h.blk
  have c := made31 w d pb mb s h
  obtain ⟨n, D, ho, ht⟩ := h.own
  have cK := keys_c (some mb) w
  have cS := sorted_c w ho (by rw [size_dirty ho ht]; have := dirty_len s; have := h.top; omega)
  have HP : Hid ((ints s.dirty).Perm (intKeys D)) := dirty_perm ho ht
  clear h ho ht
  go_enter Tryd.func54, Tryd.ntmps54
  go_wp2_with (first
    | (go_at_call 31; refine c.mono ?_; rintro e w' ⟨rfl, rfl⟩)
    | (go_at_call 63; refine cK.mono ?_; rintro e w' ⟨rfl, rfl⟩)
    | (go_at_call 62; refine cS.mono ?_; rintro e w' ⟨v, ss, rfl, hS, hrow, hnil, hb⟩))
  go_ret
  have hp : ss.Perm (ints s.dirty) := hS.trans HP.out.symm
  have hl : ss.length = s.dirty.length := by rw [hp.length_eq]; simp [ints]
  rw [sort_ints (dirty_sorted s) hp, nums_eq, hl] at hrow
  refine ⟨v, rfl, ownsRow_base_a hrow (by simp), hnil.trans ?_, ((Below.refl _ _).alloc (Nat.le_refl _) _).trans (hb.mono (by simp))⟩
  rw [← List.length_eq_zero_iff, hl, List.length_eq_zero_iff]
end Go.Proofs.YtnclhjjhobbbjaaDoor
