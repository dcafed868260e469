/-
  What Map of package value comes to, in plain words: the pairs in the order of their keys.
-/
import Derived.Test.YtbicodlclmdgaaaGreatDoorMapC
namespace Go.Proofs.YtbicodlclmdgaaaGreatDoor
open Go.RowKit

def flatP (l : List (V × V)) : List V := l.flatMap fun x => [x.1, x.2]
theorem flatP_len (l : List (V × V)) : (flatP l).length = 2 * l.length := by
  unfold flatP; induction l with
  | nil => rfl
  | cons a l ih => simp only [List.flatMap_cons, List.length_append, List.length_cons, List.length_nil, ih]; omega
/-- Keys and values two by two. -/
def pairsOf : List V → List (V × V)
  | k :: v :: r => (k, v) :: pairsOf r
  | _ => []
theorem pairsOf_len : ∀ l : List V, (pairsOf l).length = l.length / 2
  | [] => rfl
  | [_] => by simp [pairsOf]
  | _ :: _ :: r => by simp only [pairsOf, List.length_cons, pairsOf_len r]; omega
theorem pairsOf_get : ∀ (l : List V) (i : Nat) (h : 2 * i + 1 < l.length), (pairsOf l)[i]? = some (l[2 * i], l[2 * i + 1])
  | [], _, h => absurd h (by simp)
  | [_], i, h => absurd h (by simp)
  | a :: b :: r, 0, _ => rfl
  | a :: b :: r, i + 1, h => by
    have := pairsOf_get r i (by simp at h; omega)
    simp only [pairsOf, List.getElem?_cons_succ, this]
    have e : 2 * (i + 1) = 2 * i + 1 + 1 := by omega
    simp only [e, List.getElem_cons_succ]
/-- Two neighbours have the same key. -/
def twiceP : List (V × V) → Bool
  | x :: y :: r => decide (V.cmp x.1 y.1 = 0) || twiceP (y :: r)
  | _ => false
def bare {w : World} (x : Pr w) : V × V := (x.1.1.1, x.1.2.1)
theorem twice_bare {w : World} : ∀ l : List (Pr w), twice l = twiceP (l.map bare)
  | [] => rfl
  | [_] => rfl
  | x :: y :: r => by
    have := twice_bare (y :: r)
    simp only [twice, List.map_cons, twiceP] at this ⊢
    rw [this]; rfl
theorem flat_bare {w : World} (l : List (Pr w)) : flat2 l = flatP (l.map bare) := by
  unfold flat2 flatP; rw [List.flatMap_map]; rfl

/-- What Map comes to. -/
def MapIs (L : List (V × V)) (w : World) (e : Ending) (w' : World) : Prop :=
  Below w.heap.size w w' ∧ (twiceP L = true → e = .returned (.tuple #[zeroAgg, .int .i64 5])) ∧
    (twiceP L = false → ((V.mk 5 0 ⟨#[]⟩ (flatP L)).may 1 = true → ∃ sl, e = .returned (.tuple #[(V.mk 5 0 ⟨#[]⟩ (flatP L)).agg sl, .int .i64 0]) ∧ (V.mk 5 0 ⟨#[]⟩ (flatP L)).In w' w.heap.size sl) ∧
      ((V.mk 5 0 ⟨#[]⟩ (flatP L)).may 1 = false → e = .returned (.tuple #[zeroAgg, .int .i64 20])))

theorem map_any (l : List V) (sl : Value) (m : Nat) (w : World) (hS : Sl w 0 l sl) (hlen : l.length = 2 * m) :
    Calls Tryz.prog 10 #[sl] w fun e w' => ∃ L : List (V × V), L.Perm (pairsOf l) ∧ L.Pairwise (fun x y => 0 ≤ V.cmp y.1 x.1) ∧ MapIs L w e w' := by
  obtain ⟨w1, hw1⟩ : ∃ w1, w1 = w.alloc (.cells #[.int .i64 0, .int .i64 0, .string ⟨#[]⟩, .slice none 0 0] 24) := ⟨_, rfl⟩
  have hS1 : Sl w1 0 l sl := by rw [hw1]; exact hS.on (bel1 w _)
  obtain ⟨pr, hpr, c44⟩ := pairs_any l sl m w1 hS1 hlen
  refine (map10 l sl m w hS hlen w1 hw1 pr c44).mono ?_
  rintro e w' ⟨d, hds, hP, hSo, hM⟩
  refine ⟨d.toList.map bare, ?_, ?_, ?_⟩
  · have hp := hP.2.2
    have e1 : d.extract 0 m = d := by rw [← hds]; exact Array.extract_size
    have e2 : (Array.ofFn pr).extract 0 m = Array.ofFn pr := by
      have h9 : ∀ (a : Array (Pr w1)), a.size = m → a.extract 0 m = a := fun a ha => by rw [← ha]; exact Array.extract_size
      exact h9 _ (by simp)
    rw [e1, e2] at hp
    refine (hp.map bare).trans (List.Perm.of_eq ?_)
    apply List.ext_getElem?
    intro i
    by_cases hi : i < m
    · rw [pairsOf_get l i (by omega)]
      obtain ⟨h1, h2⟩ := hpr ⟨i, hi⟩
      simp only [bare, List.getElem?_map, Array.toList_ofFn, List.getElem?_ofFn, hi, dite_true, Option.map_some]
      rw [h1, h2]
    · rw [List.getElem?_eq_none (by simp; omega), List.getElem?_eq_none (by rw [pairsOf_len]; omega)]
  · rw [List.pairwise_map, List.pairwise_iff_getElem]
    intro i j hi hj hij
    have h := hSo i j (Nat.zero_le _) hij (by simpa [hds] using hj)
    rw [lt_key] at h
    have hj' : j < d.size := by simpa using hj
    have hi' : i < d.size := by simpa using hi
    rw [getElem!_pos d j hj', getElem!_pos d i hi'] at h
    have h' := of_decide_eq_false h
    show 0 ≤ V.cmp (d.toList[j].1.1.1) (d.toList[i].1.1.1)
    rw [Array.getElem_toList, Array.getElem_toList]
    omega
  · obtain ⟨h1, h2, h3⟩ := hM
    unfold MapIs
    rw [← twice_bare, ← flat_bare]
    exact ⟨h1, h2, h3⟩

/-- Map of an odd number of values refuses them. -/
theorem map_odd (l : List V) (sl : Value) (m : Nat) (w : World) (hS : Sl w 0 l sl) (hlen : l.length = 2 * m + 1) :
    Calls Tryz.prog 10 #[sl] w fun e w' => e = .returned (.tuple #[zeroAgg, .int .i64 1]) ∧ Below w.heap.size w w' := by
  obtain ⟨p, cap, rfl, hc, hcm, h56, -⟩ := hS
  rw [hlen] at *
  go_enter Tryz.func10, Tryz.ntmps10
  go_wp2
  obtain ⟨y0, y1, y2, y3, -⟩ := four_of (blk_new w (.cells #[.int .i64 0, .int .i64 0, .string ⟨#[]⟩, .slice none 0 0] 24))
  simp [bodyPost, results, Tryz.results10, go_sem, y0, y1, y2, y3]
  exact ⟨rfl, bel1 w _⟩
end Go.Proofs.YtbicodlclmdgaaaGreatDoor
