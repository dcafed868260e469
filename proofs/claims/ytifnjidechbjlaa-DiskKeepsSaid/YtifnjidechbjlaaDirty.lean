/-
  What Dirty of package disk does: the numbers of the sectors in the cache, rising.
-/
import Derived.Test.YtifnjidechbjlaaSmall
import Derived.Test.YtifnjidechbjlaaShelf
namespace Go.Proofs.Ytifnjidechbjlaa
open Go.RowKit Go.Maps Go.Sort Go.Shelf
set_option linter.unusedVariables false      -- a walk need not use every condition

def Dsk.dirty (s : Dsk) : List Nat := (List.range s.N).filter fun k => (s.ca k).isSome
def ints (l : List Nat) : List Int := l.map fun (k : Nat) => (k : Int)
theorem ints_nodup {l : List Nat} (h : l.Nodup) : (ints l).Nodup := by
  unfold ints
  exact List.pairwise_map.2 (h.imp fun {a b} hne e => hne (by omega))
theorem dirty_nodup (s : Dsk) : s.dirty.Nodup := List.Pairwise.filter _ List.nodup_range
theorem dirty_sorted (s : Dsk) : s.dirty.Pairwise (· < ·) := List.Pairwise.filter _ List.pairwise_lt_range
theorem mem_dirty {s : Dsk} {k : Nat} : k ∈ s.dirty ↔ k < s.N ∧ (s.ca k).isSome = true := by simp [Dsk.dirty]
theorem dirty_len (s : Dsk) : s.dirty.length ≤ s.N := by
  have := List.length_filter_le (fun k => (s.ca k).isSome) (List.range s.N)
  simpa [Dsk.dirty] using this
theorem keyed3 : Keyed Try.prog 3 := int_keyed Try.underlying3
theorem dirty_perm {w : World} {mb n : Nat} {D : DataW (Array Value)} {s : Dsk} (ho : w.ownsMap Try.prog 3 secR mb n D) (ht : Tied s.N D s.ca) : (ints s.dirty).Perm (intKeys D) := by
  obtain ⟨es, hD, hpw, -⟩ := ho.entries keyed3
  obtain ⟨es', hD', hko⟩ := ho.keysOf
  obtain rfl : es = es' := by rw [hD] at hD'; simpa using hD'
  subst hD
  refine perm_intKeys hpw (fun p hp => ?_) (ints_nodup (dirty_nodup s)) (fun x => ?_)
  · obtain ⟨v, hv⟩ := hko p hp
    obtain ⟨x, _, hx, _⟩ := Maps.keyOf_i64 Try.underlying3 hv
    exact ⟨x, hx⟩
  · constructor
    · intro hx
      obtain ⟨k, hk, rfl⟩ := List.mem_map.1 hx
      obtain ⟨-, hi⟩ := mem_dirty.1 hk
      obtain ⟨bs, hbs⟩ := Option.isSome_iff_exists.1 hi
      exact ht.has k bs hbs
    · intro hx
      obtain ⟨k, rfl, hi⟩ := ht.back x hx
      obtain ⟨bs, hbs⟩ := Option.isSome_iff_exists.1 hi
      exact List.mem_map.2 ⟨k, mem_dirty.2 ⟨ht.lt k bs hbs, hi⟩, rfl⟩
theorem sort_ints {l : List Nat} (h : l.Pairwise (· < ·)) {ss : List Int} (hp : ss.Perm (ints l)) : ss.mergeSort (fun x y => decide (x ≤ y)) = ints l := by
  have e := mergeSort_of_perm_i hp
  have e2 : (ints l).mergeSort leI = ints l := List.mergeSort_of_pairwise (by
    unfold ints
    exact List.pairwise_map.2 (h.imp fun {a b} hab => by simp only [leI, decide_eq_true_eq]; omega))
  exact e.trans e2
theorem size_keys {es : List (Lit × DataW (Array Value))} : Maps.size (.map es) = (intKeys (.map es)).length := by
  simp [Maps.size, intKeys]
theorem sorts35 (m : Nat) : AnyZI.SortsIn Try.prog sorted35_ren Fence.wide m :=
  ⟨fun blk off cap ss W hH hblk hsz => callsIn_wide.2 (AnyM.slices_Sort_int sort50 blk off cap ss W hH hblk hsz),
   fun p cap W => callsIn_wide.2 (AnyM.slices_Sort_int_none sort50 p cap W)⟩
theorem keys_c (mb : Option Nat) (W : World) : Calls Try.prog 36 #[.map mb] W fun e w' => e = .returned (.func (.func 51) #[] #[.pointer (some ⟨W.heap.size, 0, none⟩)]) ∧ w' = W.alloc (.cells #[.map mb] 61) :=
  (callsIn_wide (n := 5)).1 (AnyZI.keys_in keys36 Fence.wide 5 trivial rfl mb W)
set_option maxHeartbeats 1000000 in
theorem sorted_c {b nn : Nat} {D0 : DataW (Array Value)} (w : World) (hown : w.ownsMap Try.prog 3 secR b nn D0) (hmax : Maps.size D0 ≤ 16384) :
    Calls Try.prog 35 #[.func (.func 51) #[] #[.pointer (some ⟨w.heap.size, 0, none⟩)]] (w.alloc (.cells #[.map (some b)] 61)) fun e w' => ∃ (v : Value) (ss : List Int), e = .returned v ∧ ss.Perm (intKeys D0) ∧
      w'.ownsRow (w.heap.size + 1) 3 1 v ss.length ((ss.mergeSort (fun x y => decide (x ≤ y))).map encZ) ∧ (v = .slice none 0 0 ↔ ss = []) ∧ Below (w.heap.size + 1) (w.alloc (.cells #[.map (some b)] 61)) w' := by
  have hbl := hown.lt
  have hseq : SeqGives Fence.wide 2 Try.prog 51 #[.pointer (some ⟨w.heap.size, 0, none⟩)] encZ (fun ss => ss.Perm (intKeys D0)) (Maps.size D0) (w.alloc (.cells #[.map (some b)] 61)) :=
    AnyZI.keys_gives (ρ := keys36_ren) { keys36 with } Fence.wide _ trivial rfl (by omega) w.heap.size b nn D0 _ (by simp) (by simp) (hown.alloc _)
  have cS := AnyZI.sorted_in sorted35 Fence.wide 5 trivial trivial trivial trivial rfl (by omega) (sorts35 _) (enters_of Try.func50 (by kernel_rfl) rfl) 51 #[.pointer (some ⟨w.heap.size, 0, none⟩)] trivial (enters_of Try.func51 (by kernel_rfl) rfl) _ _ (by unfold maxLen; omega) (by omega) _ hseq
  change CallsIn _ _ Try.prog 35 _ _ _ at cS
  refine (callsIn_wide (n := 5)).1 (cS.mono ?_)
  rintro e w' ⟨v, ss, rfl, hS, hrow, hnil, hb⟩
  exact ⟨v, ss, rfl, hS, (by rw [World.size_alloc] at hrow; exact hrow), hnil, by simpa using hb⟩
theorem size_dirty {w : World} {mb n : Nat} {D : DataW (Array Value)} {s : Dsk} (ho : w.ownsMap Try.prog 3 secR mb n D) (ht : Tied s.N D s.ca) : Maps.size D = s.dirty.length := by
  have hp := dirty_perm ho ht
  obtain ⟨es, rfl, -, -⟩ := ho.entries keyed3
  rw [size_keys, ← hp.length_eq]
  simp [ints]
/-- Numbers in memory. -/
def nums (l : List Nat) : List Value := l.map fun (k : Nat) => Value.int .i64 k
theorem nums_eq (l : List Nat) : (ints l).map encZ = nums l := by simp [ints, nums, encZ]
set_option maxHeartbeats 1000000 in
theorem dirty14 (w : World) (d pb mb : Nat) (s : Dsk) (h : At w d pb mb s) :
    Calls Try.prog 14 #[.pointer (some ⟨d, 0, none⟩)] w fun e w' => ∃ v : Value, e = .returned v ∧ w'.ownsRow w.heap.size 3 1 v s.dirty.length (nums s.dirty) ∧ (v = .slice none 0 0 ↔ s.dirty = []) ∧ Below w.heap.size w w' := by
  obtain ⟨-, c1, -, -, -, -⟩ := five_of h.blk
  have c := made34 w d pb mb s h
  obtain ⟨n, D, ho, ht⟩ := h.own
  have cK := keys_c (some mb) w
  have cS := sorted_c w ho (by rw [size_dirty ho ht]; have := dirty_len s; have := h.top; omega)
  have HP : Hid ((ints s.dirty).Perm (intKeys D)) := dirty_perm ho ht
  clear h ho ht
  go_enter Try.func14, Try.ntmps14
  go_wp2_with (first
    | (go_at_call 34; refine c.mono ?_; rintro e w' ⟨rfl, rfl⟩)
    | (go_at_call 36; refine cK.mono ?_; rintro e w' ⟨rfl, rfl⟩)
    | (go_at_call 35; refine cS.mono ?_; rintro e w' ⟨v, ss, rfl, hS, hrow, hnil, hb⟩))
  go_ret
  have hp : ss.Perm (ints s.dirty) := hS.trans HP.out.symm
  have hl : ss.length = s.dirty.length := by rw [hp.length_eq]; simp [ints]
  rw [sort_ints (dirty_sorted s) hp, nums_eq, hl] at hrow
  refine ⟨v, rfl, ownsRow_base_a hrow (by simp), hnil.trans ?_, ((Below.refl _ _).alloc (Nat.le_refl _) _).trans (hb.mono (by simp))⟩
  rw [← List.length_eq_zero_iff, hl, List.length_eq_zero_iff]
end Go.Proofs.Ytifnjidechbjlaa
