/-
  What Map of package value does.
-/
import Derived.Test.YtbicodlclmdgaaaGreatDoorPairs
import Derived.Test.YtbicodlclmdgaaaGreatDoorCheck
import Derived.Test.YtbicodlclmdgaaaGreatDoorClone
namespace Go.Proofs.YtbicodlclmdgaaaGreatDoor
open Go.RowKit
open Go.Sort (HoldsK flatK get_flatK)

def zeroV : V := .mk 0 0 ⟨#[]⟩ []
def zeroAgg : Value := .agg #[.int .i64 0, .int .i64 0, .string ⟨#[]⟩, .slice none 0 0]

/-- A block's four cells. -/
theorem four_of {w : World} {g : Nat} {a b c d : Value} {t : TypeId} (e : w.heap[g]? = some (.cells #[a, b, c, d] t)) :
    w.cell? ⟨g, 0, none⟩ = some a ∧ w.cell? ⟨g, 1, none⟩ = some b ∧ w.cell? ⟨g, 2, none⟩ = some c ∧ w.cell? ⟨g, 3, none⟩ = some d ∧ ∀ i, w.frozen? ⟨g, i, none⟩ = false := by
  refine ⟨?_, ?_, ?_, ?_, fun i => ?_⟩ <;> simp [World.cell?, World.frozen?, e]
theorem blk_on {w w' : World} (h : Below w.heap.size w w') {g : Nat} {o : Obj} (e : w.heap[g]? = some o) : w'.heap[g]? = some o :=
  (h.block g (Array.getElem?_eq_some_iff.1 e).1).trans e
theorem blk_new (w : World) (o : Obj) : (w.alloc o).heap[w.heap.size]? = some o := World.alloc_heap_new w o
theorem blk_old {w : World} {g : Nat} {o o' : Obj} (e : w.heap[g]? = some o) : (w.alloc o').heap[g]? = some o := blk_on (bel1 w o') e

/-- What a value that is made comes to: itself in memory of its own, if it may be. -/
def Made (x : V) (w : World) (e : Ending) (w' : World) : Prop :=
  Below w.heap.size w w' ∧ (x.may 1 = true → ∃ sl, e = .returned (.tuple #[x.agg sl, .int .i64 0]) ∧ x.In w' w.heap.size sl) ∧
    (x.may 1 = false → e = .returned (.tuple #[zeroAgg, .int .i64 20]))

set_option maxHeartbeats 2000000 in
theorem checked42 (x : V) (sx : Value) (w : World) (hx : x.In w 0 sx) : Calls Tryz.prog 42 #[x.agg sx] w fun e w' => Made x w e w' := by
  have c13 := fun w => check_any x sx w
  have c31 := fun w => clone_any x sx w
  obtain ⟨m, hm⟩ : ∃ m, V.may x 1 = m := ⟨_, rfl⟩
  unfold V.err at c13
  unfold Made
  rw [hm] at c13 ⊢
  clear hm
  unfold Cl at c31
  unfold V.agg at c13 c31 ⊢
  obtain ⟨p1, n1, q1, rfl⟩ := hx.header
  have hq1 := blk_old (o' := .cells #[.int .i64 0, .int .i64 0, .string ⟨#[]⟩, .slice none 0 0] 24) (blk_new w (.cells #[.int .i64 x.k, .int .i64 x.n, .string x.s, .slice p1 n1 q1] 24))
  have hq2 := blk_new (w.alloc (.cells #[.int .i64 x.k, .int .i64 x.n, .string x.s, .slice p1 n1 q1] 24)) (.cells #[.int .i64 0, .int .i64 0, .string ⟨#[]⟩, .slice none 0 0] 24)
  rw [World.size_alloc] at hq2
  cases m
  · simp only [Bool.false_eq_true, if_false] at c13
    go_enter Tryz.func42, Tryz.ntmps42
    go_wp2_with (go_at_call 13; refine (c13 _ (hx.on (bel2 w _ _))).mono ?_; rintro e w1 ⟨rfl, hb1⟩; have h2 := blk_on hb1 hq2; obtain ⟨y0, y1, y2, y3, yf⟩ := four_of h2; clear h2)
    have hsz : w.heap.size + 1 + 1 ≤ w1.heap.size := by have := hb1.size; simpa using this
    have hfin : Below w.heap.size w (put4 w1 (w.heap.size + 1) 0 (.int .i64 0) (.int .i64 0) (.string ⟨#[]⟩) (.slice none 0 0)) := (bel_then (bel2 w _ _) hb1).trans (below_put4 (by omega) _ _ _ _)
    unfold put4 at hfin
    simp [bodyPost, results, Tryz.results42, go_sem, y0, y1, y2, y3]
    exact ⟨hfin, rfl⟩
  · simp only [if_true] at c13
    go_enter Tryz.func42, Tryz.ntmps42
    go_wp2_with (first
      | (go_at_call 13; refine (c13 _ (hx.on (bel2 w _ _))).mono ?_; rintro e w1 ⟨rfl, hb1⟩; have h1 := blk_on hb1 hq1; obtain ⟨x0, x1, x2, x3, -⟩ := four_of h1; clear h1)
      | (go_at_call 31; refine (c31 _ (hx.on (bel_then (bel2 w _ _) hb1))).mono ?_; rintro e w2 ⟨sl2, rfl, hin2, hb2, -⟩; obtain ⟨p2, n2, c2, rfl⟩ := hin2.header; have h2 := blk_on hb2 (blk_on hb1 hq2); obtain ⟨y0, y1, y2, y3, yf⟩ := four_of h2; clear h2))
    have hsz : w.heap.size + 1 + 1 ≤ w1.heap.size := by have := hb1.size; simpa using this
    have hfin : Below w.heap.size w (put4 w2 (w.heap.size + 1) 0 (.int .i64 x.k) (.int .i64 x.n) (.string x.s) (.slice p2 n2 c2)) := (bel_then (bel_then (bel2 w _ _) hb1) hb2).trans (below_put4 (by omega) _ _ _ _)
    have hin9 : x.In (put4 w2 (w.heap.size + 1) 0 (.int .i64 x.k) (.int .i64 x.n) (.string x.s) (.slice p2 n2 c2)) w.heap.size (.slice p2 n2 c2) :=
      V.In.keep (lo := w1.heap.size) (fun a v ha hc => set_other (set_other (set_other (set_other hc (.inl (by omega))) (.inl (by omega))) (.inl (by omega))) (.inl (by omega))) (by omega) x _ hin2
    unfold put4 at hfin hin9
    simp [bodyPost, results, Tryz.results42, go_sem, y0, y1, y2, y3]
    exact ⟨hfin, hin9⟩

/-- The keys and values of pairs, one behind the other. -/
def flat2 {w : World} (d : List (Pr w)) : List V := d.flatMap fun x => [x.1.1.1, x.1.2.1]
/-- Two neighbours have the same key. -/
def twice {w : World} : List (Pr w) → Bool
  | x :: y :: r => decide (V.cmp x.1.1.1 y.1.1.1 = 0) || twice (y :: r)
  | _ => false
end Go.Proofs.YtbicodlclmdgaaaGreatDoor
