/-
  The numbers of the sectors in the cache, rising. No walk.
-/
import Derived.Test.YtafnelpcnfmhfaaDoorSmall
import Derived.Lib.SlKeysI
namespace Go.Proofs.YtafnelpcnfmhfaaDoor
open Go.RowKit Go.Maps Go.Sort
set_option linter.unusedVariables false      -- a walk need not use every condition

def Dsk.dirty (s : Dsk) : List Nat := (List.range s.N).filter fun k => (s.ca k).isSome
def ints (l : List Nat) : List Int := l.map fun (k : Nat) => (k : Int)
theorem ints_nodup {l : List Nat} (h : l.Nodup) : (ints l).Nodup := by
  unfold ints
  exact List.pairwise_map.2 (h.imp fun {a b} hne e => hne (by omega))
theorem dirty_nodup (s : Dsk) : s.dirty.Nodup := List.Pairwise.filter _ List.nodup_range
theorem dirty_sorted (s : Dsk) : s.dirty.Pairwise (· < ·) := List.Pairwise.filter _ List.pairwise_lt_range
theorem mem_dirty {s : Dsk} {k : Nat} : k ∈ s.dirty ↔ k < s.N ∧ (s.ca k).isSome = true := by simp [Dsk.dirty]
theorem dirty_len (s : Dsk) : s.dirty.length ≤ s.N := by
  have := List.length_filter_le (fun k => (s.ca k).isSome) (List.range s.N)
  simpa [Dsk.dirty] using this
theorem keyed3 : Keyed Tryd.prog 3 := int_keyed Tryd.underlying3
theorem dirty_perm {w : World} {mb n : Nat} {D : DataW (Array Value)} {s : Dsk} (ho : w.ownsMap Tryd.prog 3 secR mb n D) (ht : Tied s.N D s.ca) : (ints s.dirty).Perm (intKeys D) := by
  obtain ⟨es, hD, hpw, -⟩ := ho.entries keyed3
  obtain ⟨es', hD', hko⟩ := ho.keysOf
  obtain rfl : es = es' := by rw [hD] at hD'; simpa using hD'
  subst hD
  refine perm_intKeys hpw (fun p hp => ?_) (ints_nodup (dirty_nodup s)) (fun x => ?_)
  · obtain ⟨v, hv⟩ := hko p hp
    obtain ⟨x, _, hx, _⟩ := Maps.keyOf_i64 Tryd.underlying3 hv
    exact ⟨x, hx⟩
  · constructor
    · intro hx
      obtain ⟨k, hk, rfl⟩ := List.mem_map.1 hx
      obtain ⟨-, hi⟩ := mem_dirty.1 hk
      obtain ⟨bs, hbs⟩ := Option.isSome_iff_exists.1 hi
      exact ht.has k bs hbs
    · intro hx
      obtain ⟨k, rfl, hi⟩ := ht.back x hx
      obtain ⟨bs, hbs⟩ := Option.isSome_iff_exists.1 hi
      exact List.mem_map.2 ⟨k, mem_dirty.2 ⟨ht.lt k bs hbs, hi⟩, rfl⟩
theorem size_keys {es : List (Lit × DataW (Array Value))} : Maps.size (.map es) = (intKeys (.map es)).length := by
  simp [Maps.size, intKeys]
theorem size_dirty {w : World} {mb n : Nat} {D : DataW (Array Value)} {s : Dsk} (ho : w.ownsMap Tryd.prog 3 secR mb n D) (ht : Tied s.N D s.ca) : Maps.size D = s.dirty.length := by
  have hp := dirty_perm ho ht
  obtain ⟨es, rfl, -, -⟩ := ho.entries keyed3
  rw [size_keys, ← hp.length_eq]
  simp [ints]
end Go.Proofs.YtafnelpcnfmhfaaDoor
