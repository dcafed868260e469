/-
  A region that draws its order, by what holds of each of its states: no walk; three rows of keys as one.
-/
import Derived.Test.YtbkpgppaahpalaaHvc
import Derived.OrdersHeld
import Derived.Deep.RegionHeld3
namespace Go.Proofs.Ytbkpgppaahpalaa
open Go.RowKit
set_option linter.unusedVariables false      -- a walk need not use every condition

/-- How many have not come up. -/
def todo (l : Array Bool) : Nat := (l.toList.filter fun b => !b).length
theorem todo_set : ∀ (l : List Bool) (i : Nat), l[i]? = some false → ((l.set i true).filter fun b => !b).length + 1 = (l.filter fun b => !b).length
  | [], i, h => by simp at h
  | b :: l, 0, h => by simp at h; subst h; simp
  | b :: l, i + 1, h => by
    have := todo_set l i (by simpa using h)
    cases b <;> simp at this ⊢ <;> omega
section
variable {P : Program} {ops : Array Oper} {Q : Exit → Act → World → Prop} {md : Region.Mode} {S : World → Prop}
theorem getD_some {l : Array Bool} {i : Nat} (h : l.getD i true = false) : l.toList[i]? = some false := by
  simp only [Array.getD_eq_getD_getElem?] at h
  cases e : l[i]? with
  | none => rw [e] at h; simp at h
  | some b => rw [e] at h; simp at h; subst h; simpa using e
/-- By what holds of each state: each operation that may come up leads on to such a state; where none is left, what is wanted holds. -/
theorem wpAnyH_inv {Inv : Array Bool → Act → World → Prop}
    (hstep : ∀ l a w, Inv l a w → ∀ i ∈ Region.ready md ops l, wpOp P ops Q i (fun a' w' => S w' ∧ Inv (l.setIfInBounds i true) a' w') a w)
    (hend : ∀ l a w, Inv l a w → Region.ready md ops l = [] → Q .normal a w) :
    ∀ (fuel : Nat) (l : Array Bool) (a : Act) (w : World), Inv l a w → todo l ≤ fuel → wpAnyH P md ops Q S fuel l a w
  | 0, l, a, w, h, hf => by
    have hr : Region.ready md ops l = [] := by
      rw [List.eq_nil_iff_forall_not_mem]
      intro i hi
      have h0 := getD_some (mem_ready.1 hi).1
      have := todo_set _ _ h0
      unfold todo at hf
      omega
    exact ⟨hr, hend l a w h hr⟩
  | fuel + 1, l, a, w, h, hf => by
    refine ⟨fun hr => hend l a w h hr, fun i hi => wpOp_mono (fun a' w' h' => ⟨h'.1, wpAnyH_inv hstep hend fuel _ a' w' h'.2 ?_⟩) (hstep l a w h i hi)⟩
    have h0 := getD_some (mem_ready.1 hi).1
    have := todo_set _ _ h0
    unfold todo at *
    rw [Array.toList_setIfInBounds]
    omega
/-- A taken operation, its place told. -/
theorem take_at {i : Nat} {oi : Oper} {v : Value} {fuel : Nat} {listed : Array Bool} {a : Act} {w : World} (t : Tmp) (hi : ops[i]? = some oi) (hd : oi.dst = some t)
    (hs : Region.noSelect ops = true) (hf : Region.free md ops listed i = true) (hr : (Region.ready md ops listed).contains i = true)
    (hQ : ∀ c a w, Q (.panic c) (a.put (some t) v) w → Q (.panic c) a w) (hy : YieldsIf P ops S oi v a) (hS : S w)
    (h : wpAnyH P md ops Q S fuel (listed.setIfInBounds i true) (a.put (some t) v) w) : wpAnyH P md ops Q S (fuel + 1) listed a w :=
  wpAnyH_take hi hs hf hr (by rw [hd]; exact hQ) hy hS (by rw [hd]; exact h)
end
section
variable {P : Program} {ops : Array Oper} {Q : Exit → Act → World → Prop} {md : Region.Mode} {S : World → Prop}
theorem gen_ops {fuel : Nat} {l : Array Bool} {a : Act} {w : World} (h : ∀ OPS QQ, OPS = ops → QQ = Q → wpAnyH P md OPS QQ S fuel l a w) : wpAnyH P md ops Q S fuel l a w := h _ _ rfl rfl
theorem ready_of {i : Nat} {l : Array Bool} {o : Oper} (ho : ops[i]? = some o) (h0 : l.getD i true = false) (h : ∀ e ∈ o.after, Region.binds md e = true → l.getD e.on false = true) (hr : Region.ready md ops l = []) : False := by
  have : i ∈ Region.ready md ops l := mem_ready.2 ⟨h0, o, ho, h⟩
  rw [hr] at this; cases this
end
/-- A key of one's own in a block of its own. -/
theorem kso_one {base : Nat} {w : World} {k : Value} {K : List UInt8} {g : Nat} (hb : base ≤ g) (hg : w.heap[g]? = some (.cells #[k] 27)) (hk : Bts w base k K) : KsO base w (.slice (some ⟨g, 0, none⟩) 1 1) [K] :=
  ⟨[k], ⟨rfl, .inr ⟨g, 1, #[k], rfl, hb, hg, Nat.le_refl _, by unfold maxLen; omega, rfl, rfl⟩⟩, rfl, fun i hi => by
    obtain rfl : i = 0 := by simpa using hi
    exact ⟨k, rfl, hk⟩⟩
/-- Three rows of keys as one. -/
theorem cat30t (base : Nat) (w u : World) (x y z : Value) (L M N : List (List UInt8)) (Y : Nat) (hx : KsO base w x L) (hy : KsO base u y M) (hz : KsO base w z N) (hu : Below w.heap.size w u) (hb : base ≤ u.heap.size) (hY : u.heap[Y]? = some (.cells #[x, y, z] 23)) (hl : (L.length + (M.length + N.length)) * 24 ≤ 140737488355328) :
    Calls Try.prog 30 #[.slice (some ⟨Y, 0, none⟩) 3 3] u fun e w' => ∃ v', e = .returned v' ∧ KsO base w' v' (L ++ (M ++ N)) ∧ Below u.heap.size u w' := by
  obtain ⟨vs, ho, he⟩ := hx.on hu
  obtain ⟨us, ho', he'⟩ := hy
  obtain ⟨ts, ho3, he3⟩ := hz.on hu
  have h1 : u.cell? ⟨Y, 0, none⟩ = some x := by simp [World.cell?, hY]
  have h2 : u.cell? ⟨Y, 1, none⟩ = some y := by simp [World.cell?, hY]
  have h3 : u.cell? ⟨Y, 2, none⟩ = some z := by simp [World.cell?, hY]
  refine (concat30 u _ [(L.length, vs), (M.length, us), (N.length, ts)] ⟨Y, 3, rfl, fun i hi => ?_⟩ (by simp) (by simp [sumR]; omega)).mono fun e w' ⟨v', h3, h4, h5⟩ => ⟨v', h3, ⟨vs ++ (us ++ ts), ?_, ?_⟩, h5⟩
  · match i, hi with
    | 0, _ => exact ⟨x, h1, fl_own ho, enc_ones (by decide) he (fun a x h => h.v.ones)⟩
    | 1, _ => exact ⟨y, h2, fl_own ho', enc_ones (by decide) he' (fun a x h => h.v.ones)⟩
    | 2, _ => exact ⟨z, h3, fl_own ho3, enc_ones (by decide) he3 (fun a x h => h.v.ones)⟩
  · have h6 := h4.mono hb
    simp only [sumR, catR, List.map_cons, List.map_nil, List.sum_cons, List.sum_nil, Nat.add_zero, List.flatMap_cons, List.flatMap_nil, List.append_nil] at h6
    rw [List.length_append, List.length_append]
    exact h6
  · exact (he.app (he'.app he3)).on fun a x hx => hx.on h5
end Go.Proofs.Ytbkpgppaahpalaa
