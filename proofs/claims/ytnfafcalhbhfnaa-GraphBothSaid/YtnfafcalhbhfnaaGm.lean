/-
  Graphs as plain data: which may be; which edges go out of a vertex and come into one: no walk.
-/
import Derived.Test.YtnfafcalhbhfnaaRw
namespace Go.Proofs.Ytnfafcalhbhfnaa
open Go.RowKit
set_option linter.unusedVariables false

/-- Vertices whose ids rise from behind a number on. -/
def up : Int → List Int → Bool
  | _, [] => true
  | a, i :: r => decide (a < i) && up i r
theorem up_lt : ∀ {l : List Int} {a : Int}, up a l = true → ∀ x ∈ l, a < x
  | [], _, _ => fun x h => absurd h (by simp)
  | i :: r, a, h => by
    simp only [up, Bool.and_eq_true, decide_eq_true_eq] at h
    intro x hx
    rcases List.mem_cons.1 hx with rfl | hx
    · exact h.1
    · have := up_lt h.2 x hx; omega
theorem up_nodup : ∀ {l : List Int} {a : Int}, up a l = true → l.Nodup
  | [], _, _ => List.nodup_nil
  | i :: r, a, h => by
    simp only [up, Bool.and_eq_true, decide_eq_true_eq] at h
    exact List.nodup_cons.2 ⟨fun hm => by have := up_lt h.2 i hm; omega, up_nodup h.2⟩
theorem up_sorted : ∀ {l : List Int} {a : Int}, up a l = true → ∀ i j (hi : i < l.length) (hj : j < l.length), i < j → l[i] < l[j]
  | [], _, _ => fun i _ hi => absurd hi (Nat.not_lt_zero _)
  | x :: r, a, h => by
    simp only [up, Bool.and_eq_true, decide_eq_true_eq] at h
    intro i j hi hj hij
    cases j with
    | zero => omega
    | succ j =>
      cases i with
      | zero => simpa using up_lt h.2 _ (List.getElem_mem (by simpa using hj))
      | succ i => simpa using up_sorted h.2 i j (by simpa using hi) (by simpa using hj) (by omega)

theorem sum_none (a : Int) : ∀ {l : List Int}, a ∉ l → (l.map fun i => if a = i then 1 else 0).sum = 0
  | [], _ => rfl
  | b :: r, hn => by
    simp only [List.map_cons, List.sum_cons]
    rw [if_neg (fun e => hn (by simp [e])), Nat.zero_add]
    exact sum_none a (fun hm => hn (by simp [hm]))
theorem sum_ite (a : Int) : ∀ {l : List Int}, l.Nodup → a ∈ l → (l.map fun i => if a = i then 1 else 0).sum = 1
  | [], _, h => absurd h (by simp)
  | i :: r, hn, h => by
    obtain ⟨h1, h2⟩ := List.nodup_cons.1 hn
    simp only [List.map_cons, List.sum_cons]
    by_cases e : a = i
    · rw [if_pos e, sum_none a (by rw [e]; exact h1)]
    · rw [if_neg e, Nat.zero_add]
      exact sum_ite a h2 ((List.mem_cons.1 h).resolve_left e)
theorem sum_add {α : Type} (f g : α → Nat) : ∀ l : List α, (l.map fun x => f x + g x).sum = (l.map f).sum + (l.map g).sum
  | [] => rfl
  | x :: l => by simp only [List.map_cons, List.sum_cons, sum_add f g l]; omega
/-- Each of some things is counted once, whichever its place. -/
theorem count_by {α : Type} (f : α → Int) {ids : List Int} (hn : ids.Nodup) : ∀ {es : List α}, (∀ e ∈ es, f e ∈ ids) → (ids.map fun i => (es.filter fun e => decide (f e = i)).length).sum = es.length
  | [], _ => by
    simp only [List.filter_nil, List.length_nil]
    clear hn
    induction ids with
    | nil => rfl
    | cons a r ih => simp only [List.map_cons, List.sum_cons, ih (by simp)]
  | e :: es, h => by
    have hs := sum_ite (f e) hn (h e (by simp))
    have ih := count_by f hn (es := es) (fun x hx => h x (by simp [hx]))
    have : (fun i => ((e :: es).filter fun e => decide (f e = i)).length) = fun i => (if f e = i then 1 else 0) + (es.filter fun e => decide (f e = i)).length := by
      funext i
      by_cases c : f e = i
      · rw [List.filter_cons_of_pos (by simpa using c), List.length_cons, if_pos c]; omega
      · rw [List.filter_cons_of_neg (by simpa using c), if_neg c]; omega
    rw [this, sum_add, hs, ih, List.length_cons]; omega

/-- A label is one of some; any, if there are none. -/
def amg (ls : List ByteArray) (s : ByteArray) : Bool := ls.isEmpty || ls.any (fun x => decide (x = s))
def outL (g : Gg) (id : Int) (ls : List ByteArray) : List Lk := g.es.filter fun e => decide (e.out = id) && amg ls e.lb
def inL (g : Gg) (id : Int) (ls : List ByteArray) : List Lk := g.es.filter fun e => decide (e.inn = id) && amg ls e.lb
theorem outL_nil (g : Gg) (id : Int) : outL g id [] = g.es.filter fun e => decide (e.out = id) := by simp [outL, amg]
theorem inL_nil (g : Gg) (id : Int) : inL g id [] = g.es.filter fun e => decide (e.inn = id) := by simp [inL, amg]
theorem mem_inL {g : Gg} {e : Lk} (h : e ∈ g.es) : e ∈ inL g e.inn [e.lb] := by simp [inL, amg, h]
theorem mem_outL {g : Gg} {e : Lk} (h : e ∈ g.es) : e ∈ outL g e.out [e.lb] := by simp [outL, amg, h]
theorem both_count {g : Gg} {a : Int} (hu : up a (g.vs.map Vx.id) = true) (ho : ∀ e ∈ g.es, e.out ∈ g.vs.map Vx.id) (hi : ∀ e ∈ g.es, e.inn ∈ g.vs.map Vx.id) :
    (g.vs.map fun v => (outL g v.id []).length + (inL g v.id []).length).sum = 2 * g.es.length := by
  have h1 := count_by Lk.out (up_nodup hu) ho
  have h2 := count_by Lk.inn (up_nodup hu) hi
  rw [List.map_map] at h1 h2
  rw [sum_add]
  simp only [outL_nil, inL_nil]
  have e1 : (g.vs.map fun x => (g.es.filter fun e => decide (e.out = x.id)).length) = g.vs.map ((fun i => (g.es.filter fun e => decide (e.out = i)).length) ∘ Vx.id) := rfl
  have e2 : (g.vs.map fun x => (g.es.filter fun e => decide (e.inn = x.id)).length) = g.vs.map ((fun i => (g.es.filter fun e => decide (e.inn = i)).length) ∘ Vx.id) := rfl
  rw [e1, e2, h1, h2]; omega
end Go.Proofs.Ytnfafcalhbhfnaa
