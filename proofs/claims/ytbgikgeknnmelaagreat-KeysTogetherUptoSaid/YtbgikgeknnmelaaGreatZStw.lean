/-
  A region that draws its order, by what holds of each of its states: no walk.
-/
import Derived.Test.YtbgikgeknnmelaaGreatZVtx
import Derived.OrdersHeld
namespace Go.Proofs.YtbgikgeknnmelaaGreat
open Go.RowKit
set_option linter.unusedVariables false      -- a walk need not use every condition

/-- How many have not come up. -/
def todo (l : Array Bool) : Nat := (l.toList.filter fun b => !b).length
theorem todo_set : ∀ (l : List Bool) (i : Nat), l[i]? = some false → ((l.set i true).filter fun b => !b).length + 1 = (l.filter fun b => !b).length
  | [], i, h => by simp at h
  | b :: l, 0, h => by simp at h; subst h; simp
  | b :: l, i + 1, h => by
    have := todo_set l i (by simpa using h)
    cases b <;> simp at this ⊢ <;> omega
section
variable {P : Program} {ops : Array Oper} {Q : Exit → Act → World → Prop} {md : Region.Mode} {S : World → Prop}
theorem getD_some {l : Array Bool} {i : Nat} (h : l.getD i true = false) : l.toList[i]? = some false := by
  simp only [Array.getD_eq_getD_getElem?] at h
  cases e : l[i]? with
  | none => rw [e] at h; simp at h
  | some b => rw [e] at h; simp at h; subst h; simpa using e
/-- By what holds of each state: each operation that may come up leads on to such a state; where none is left, what is wanted holds. -/
theorem wpAnyH_inv {Inv : Array Bool → Act → World → Prop}
    (hstep : ∀ l a w, Inv l a w → ∀ i ∈ Region.ready md ops l, wpOp P ops Q i (fun a' w' => S w' ∧ Inv (l.setIfInBounds i true) a' w') a w)
    (hend : ∀ l a w, Inv l a w → Region.ready md ops l = [] → Q .normal a w) :
    ∀ (fuel : Nat) (l : Array Bool) (a : Act) (w : World), Inv l a w → todo l ≤ fuel → wpAnyH P md ops Q S fuel l a w
  | 0, l, a, w, h, hf => by
    have hr : Region.ready md ops l = [] := by
      rw [List.eq_nil_iff_forall_not_mem]
      intro i hi
      have h0 := getD_some (mem_ready.1 hi).1
      have := todo_set _ _ h0
      unfold todo at hf
      omega
    exact ⟨hr, hend l a w h hr⟩
  | fuel + 1, l, a, w, h, hf => by
    refine ⟨fun hr => hend l a w h hr, fun i hi => wpOp_mono (fun a' w' h' => ⟨h'.1, wpAnyH_inv hstep hend fuel _ a' w' h'.2 ?_⟩) (hstep l a w h i hi)⟩
    have h0 := getD_some (mem_ready.1 hi).1
    have := todo_set _ _ h0
    unfold todo at *
    rw [Array.toList_setIfInBounds]
    omega
/-- A taken operation, its place told. -/
theorem take_at {i : Nat} {oi : Oper} {v : Value} {fuel : Nat} {listed : Array Bool} {a : Act} {w : World} (t : Tmp) (hi : ops[i]? = some oi) (hd : oi.dst = some t)
    (hs : Region.noSelect ops = true) (hf : Region.free md ops listed i = true) (hr : (Region.ready md ops listed).contains i = true)
    (hQ : ∀ c a w, Q (.panic c) (a.put (some t) v) w → Q (.panic c) a w) (hy : YieldsIf P ops S oi v a) (hS : S w)
    (h : wpAnyH P md ops Q S fuel (listed.setIfInBounds i true) (a.put (some t) v) w) : wpAnyH P md ops Q S (fuel + 1) listed a w :=
  wpAnyH_take hi hs hf hr (by rw [hd]; exact hQ) hy hS (by rw [hd]; exact h)
end
/-- A block that was built, if it was. -/
def BSf (w : World) (f : Bool) (v : Value) (n : Nat) (cs : Array Value) (ty : TypeId) : Prop := f = true → ty ≠ 5 ∧ ∃ g, v = .slice (some ⟨g, 0, none⟩) n n ∧ w.heap[g]? = some (.cells cs ty)
theorem BSf.kt {w w' : World} {f : Bool} {v : Value} {n : Nat} {cs : Array Value} {ty : TypeId} (h : BSf w f v n cs ty) (k : KT w w') : BSf w' f v n cs ty := fun hf => by
  obtain ⟨h5, g, e, hg⟩ := h hf
  exact ⟨h5, g, e, k g cs ty h5 hg⟩
theorem BSf.new {W : World} {n : Nat} {cs : Array Value} {ty : TypeId} (h5 : ty ≠ 5) (f : Bool) : BSf (W.alloc (.cells cs ty)) f (.slice (some ⟨W.heap.size, 0, none⟩) n n) n cs ty := fun _ => ⟨h5, _, rfl, blk_new W _⟩
/-- Bytes that are done, if they are. -/
def FIf (w : World) (q : Prop) (v : Value) (t : List UInt8) : Prop := q → Bts w 0 v t
theorem FIf.on {w w' : World} {q : Prop} {v : Value} {t : List UInt8} (h : FIf w q v t) (hb : Below w.heap.size w w') : FIf w' q v t := fun hq => own_bel (h hq) hb
/-- Bytes to which more is put, if they are. -/
def CHf (w0 w : World) (q : Prop) (v : Value) (t : List UInt8) (G : World → Prop) : Prop := q → ∃ wA, Below w0.heap.size w0 wA ∧ Below wA.heap.size wA w ∧ G wA ∧ Bts w wA.heap.size v t
theorem CHf.on {w0 w w' : World} {q : Prop} {v : Value} {t : List UInt8} {G : World → Prop} (h : CHf w0 w q v t G) (hb : Below w.heap.size w w') : CHf w0 w' q v t G := fun hq => by
  obtain ⟨wA, h1, h2, h3, h4⟩ := h hq
  exact ⟨wA, h1, bel_then h2 hb, h3, own_bel h4 hb⟩
end Go.Proofs.YtbgikgeknnmelaaGreat
