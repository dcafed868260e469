/-
  Graphs as plain data whose elements' properties are written anew: no walk.
-/
import Derived.Test.YteknbploiombiaaZPsm
import Derived.Test.YteknbploiombiaaZChg
import Derived.Test.YteknbploiombiaaZSgr
namespace Go.Proofs.Yteknbploiombiaa
open Go.RowKit
set_option linter.unusedVariables false

def Vx.up (id : Int) (f : List Pr → List Pr) (x : Vx) : Vx := if x.id = id then { x with ps := f x.ps } else x
def Lk.up (id : Int) (f : List Pr → List Pr) (x : Lk) : Lk := if x.id = id then { x with ps := f x.ps } else x
def gUp (g : Gg) (k id : Int) (f : List Pr → List Pr) : Gg := if k = 6 then { g with vs := g.vs.map (Vx.up id f) } else if k = 7 then { g with es := g.es.map (Lk.up id f) } else g
def vPs (vs : List Vx) (id : Int) : Option (List Pr) := (vs.find? fun x => decide (x.id = id)).map Vx.ps
def ePs (es : List Lk) (id : Int) : Option (List Pr) := (es.find? fun x => decide (x.id = id)).map Lk.ps
/-- An element's properties, if there is such an element. -/
def elPs (g : Gg) (k id : Int) : Option (List Pr) := if k = 6 then vPs g.vs id else if k = 7 then ePs g.es id else none
def gSet (g : Gg) (k id : Int) (nm : ByteArray) (v : V) : Gg × Int :=
  if gMay g = false then (g, 103) else match elPs g k id with
  | none => (g, 101)
  | some ps => if nmB nm = false then (g, 100) else if v.may 1 = false then (g, 20) else if psHas nm ps = false ∧ 16 ≤ ps.length then (g, 102) else (gUp g k id (psPut nm v), 0)
def gUns (g : Gg) (k id : Int) (nm : ByteArray) : Gg × Bool × Int :=
  if gMay g = false then (g, false, 103) else match elPs g k id with
  | none => (g, false, 101)
  | some ps => (gUp g k id (psDel nm), psHas nm ps, 0)
def gPrp (g : Gg) (k id : Int) (nm : ByteArray) : V × Bool := match elPs g k id with
  | none => (zeroV, false)
  | some ps => (psGet nm ps, psHas nm ps)

theorem Vx.up_id (id : Int) (f : List Pr → List Pr) (x : Vx) : (x.up id f).id = x.id := by unfold Vx.up; split <;> rfl
theorem Lk.up_id (id : Int) (f : List Pr → List Pr) (x : Lk) : (x.up id f).id = x.id := by unfold Lk.up; split <;> rfl
theorem find_at_v {vs : List Vx} {id : Int} {i : Nat} (hi : i < vs.length) (h : vs[i].id = id) (hf : ∀ t (ht : t < vs.length), t < i → vs[t].id ≠ id) : vPs vs id = some vs[i].ps := by
  unfold vPs
  have : vs.find? (fun x => decide (x.id = id)) = some vs[i] := by
    rw [List.find?_eq_some_iff_getElem]
    exact ⟨by simpa using h, i, hi, rfl, fun j hj => by simpa using hf j (by omega) hj⟩
  rw [this]; rfl
theorem find_at_e {es : List Lk} {id : Int} {i : Nat} (hi : i < es.length) (h : es[i].id = id) (hf : ∀ t (ht : t < es.length), t < i → es[t].id ≠ id) : ePs es id = some es[i].ps := by
  unfold ePs
  have : es.find? (fun x => decide (x.id = id)) = some es[i] := by
    rw [List.find?_eq_some_iff_getElem]
    exact ⟨by simpa using h, i, hi, rfl, fun j hj => by simpa using hf j (by omega) hj⟩
  rw [this]; rfl
theorem find_no_v {vs : List Vx} {id : Int} (h : ∀ t (ht : t < vs.length), vs[t].id ≠ id) : vPs vs id = none := by
  unfold vPs
  have : vs.find? (fun x => decide (x.id = id)) = none := by
    rw [List.find?_eq_none]
    intro x hx
    obtain ⟨t, ht, rfl⟩ := List.getElem_of_mem hx
    simpa using h t ht
  rw [this]; rfl
theorem find_no_e {es : List Lk} {id : Int} (h : ∀ t (ht : t < es.length), es[t].id ≠ id) : ePs es id = none := by
  unfold ePs
  have : es.find? (fun x => decide (x.id = id)) = none := by
    rw [List.find?_eq_none]
    intro x hx
    obtain ⟨t, ht, rfl⟩ := List.getElem_of_mem hx
    simpa using h t ht
  rw [this]; rfl
theorem els_ids {top : Int} : ∀ {l : List Ee} {a : Int}, elsFrom top a l = true → up a (l.map Prod.fst) = true
  | [], _, _ => rfl
  | x :: l, a, h => by
    simp only [elsFrom, Bool.and_eq_true] at h
    simp only [List.map_cons, up, Bool.and_eq_true]
    refine ⟨?_, els_ids h.2⟩
    have := h.1
    unfold elOk at this
    simp only [Bool.and_eq_true] at this
    exact this.1.1.1
/-- Ids are given once. -/
theorem ids_v {g : Gg} (h : gMay g = true) : ∀ i j (hi : i < g.vs.length) (hj : j < g.vs.length), g.vs[i].id = g.vs[j].id → i = j := by
  unfold gMay at h
  simp only [Bool.and_eq_true, decide_eq_true_eq] at h
  have hu := up_sorted (els_ids h.1.1.2)
  intro i j hi hj e
  rcases Nat.lt_trichotomy i j with h1 | h1 | h1
  · have := hu i j (by simpa using hi) (by simpa using hj) h1
    simp [Vx.ee] at this; omega
  · exact h1
  · have := hu j i (by simpa using hj) (by simpa using hi) h1
    simp [Vx.ee] at this; omega
theorem ids_e {g : Gg} (h : gMay g = true) : ∀ i j (hi : i < g.es.length) (hj : j < g.es.length), g.es[i].id = g.es[j].id → i = j := by
  unfold gMay at h
  simp only [Bool.and_eq_true, decide_eq_true_eq] at h
  have hu := up_sorted (els_ids h.1.2)
  intro i j hi hj e
  rcases Nat.lt_trichotomy i j with h1 | h1 | h1
  · have := hu i j (by simpa using hi) (by simpa using hj) h1
    simp [Lk.ee] at this; omega
  · exact h1
  · have := hu j i (by simpa using hj) (by simpa using hi) h1
    simp [Lk.ee] at this; omega
theorem up_v {g : Gg} (h : gMay g = true) {id : Int} {i : Nat} (hi : i < g.vs.length) (e : g.vs[i].id = id) (f : List Pr → List Pr) : { g with vs := g.vs.set i { g.vs[i] with ps := f g.vs[i].ps } } = gUp g 6 id f := by
  unfold gUp
  rw [if_pos rfl]
  congr 1
  refine List.ext_getElem (by simp) fun j h1 h2 => ?_
  rw [List.getElem_map]
  rw [List.length_set] at h1
  by_cases c : i = j
  · subst c
    simp [Vx.up, e]
  · rw [List.getElem_set_ne c]
    have : g.vs[j].id ≠ id := fun e' => c (ids_v h i j hi h1 (by rw [e, e']))
    simp [Vx.up, this]
theorem up_e {g : Gg} (h : gMay g = true) {id : Int} {i : Nat} (hi : i < g.es.length) (e : g.es[i].id = id) (f : List Pr → List Pr) : { g with es := g.es.set i { g.es[i] with ps := f g.es[i].ps } } = gUp g 7 id f := by
  unfold gUp
  rw [if_neg (by decide), if_pos rfl]
  congr 1
  refine List.ext_getElem (by simp) fun j h1 h2 => ?_
  rw [List.getElem_map]
  rw [List.length_set] at h1
  by_cases c : i = j
  · subst c
    simp [Lk.up, e]
  · rw [List.getElem_set_ne c]
    have : g.es[j].id ≠ id := fun e' => c (ids_e h i j hi h1 (by rw [e, e']))
    simp [Lk.up, this]
/-- All elements of that id have those properties. -/
theorem all_v {g : Gg} (h : gMay g = true) {id : Int} {ps : List Pr} (hp : vPs g.vs id = some ps) : ∀ x ∈ g.vs, x.id = id → x.ps = ps := by
  unfold vPs at hp
  obtain ⟨y, hy, rfl⟩ := Option.map_eq_some_iff.1 hp
  have hye : y.id = id := by simpa using List.find?_some hy
  intro x hx e
  obtain ⟨i, hi, rfl⟩ := List.getElem_of_mem hx
  obtain ⟨j, hj, rfl⟩ := List.getElem_of_mem (List.mem_of_find?_eq_some hy)
  obtain rfl := ids_v h i j hi hj (by rw [e, hye])
  rfl
theorem all_e {g : Gg} (h : gMay g = true) {id : Int} {ps : List Pr} (hp : ePs g.es id = some ps) : ∀ x ∈ g.es, x.id = id → x.ps = ps := by
  unfold ePs at hp
  obtain ⟨y, hy, rfl⟩ := Option.map_eq_some_iff.1 hp
  have hye : y.id = id := by simpa using List.find?_some hy
  intro x hx e
  obtain ⟨i, hi, rfl⟩ := List.getElem_of_mem hx
  obtain ⟨j, hj, rfl⟩ := List.getElem_of_mem (List.mem_of_find?_eq_some hy)
  obtain rfl := ids_e h i j hi hj (by rw [e, hye])
  rfl
theorem el_may {top : Int} : ∀ {l : List Ee} {a : Int}, elsFrom top a l = true → ∀ x ∈ l, psMay x.2.2 = true
  | [], _, _ => fun x h => absurd h (by simp)
  | y :: l, a, h => by
    simp only [elsFrom, Bool.and_eq_true] at h
    intro x hx
    rcases List.mem_cons.1 hx with rfl | hx
    · have := h.1
      unfold elOk at this
      simp only [Bool.and_eq_true] at this
      exact this.2
    · exact el_may h.2 x hx
theorem ps_may {g : Gg} (h : gMay g = true) {k id : Int} {ps : List Pr} (hp : elPs g k id = some ps) : psMay ps = true := by
  unfold gMay at h
  simp only [Bool.and_eq_true, decide_eq_true_eq] at h
  unfold elPs vPs ePs at hp
  by_cases h6 : k = 6
  · rw [if_pos h6] at hp
    obtain ⟨y, hy, rfl⟩ := Option.map_eq_some_iff.1 hp
    exact el_may h.1.1.2 y.ee (List.mem_map.2 ⟨y, List.mem_of_find?_eq_some hy, rfl⟩)
  · rw [if_neg h6] at hp
    by_cases h7 : k = 7
    · rw [if_pos h7] at hp
      obtain ⟨y, hy, rfl⟩ := Option.map_eq_some_iff.1 hp
      exact el_may h.1.2 y.ee (List.mem_map.2 ⟨y, List.mem_of_find?_eq_some hy, rfl⟩)
    · rw [if_neg h7] at hp; cases hp
theorem els_up_v {top id : Int} {f : List Pr → List Pr} : ∀ {l : List Vx} {a : Int}, elsFrom top a (l.map Vx.ee) = true → (∀ x ∈ l, x.id = id → psMay (f x.ps) = true) → elsFrom top a ((l.map (Vx.up id f)).map Vx.ee) = true
  | [], _, _, _ => rfl
  | x :: l, a, h, hf => by
    simp only [List.map_cons, elsFrom, Bool.and_eq_true] at h ⊢
    have ih := els_up_v h.2 fun y hy => hf y (by simp [hy])
    unfold elOk at h ⊢
    simp only [Bool.and_eq_true] at h ⊢
    by_cases c : x.id = id
    · have e : Vx.up id f x = { x with ps := f x.ps } := by unfold Vx.up; rw [if_pos c]
      rw [e]
      exact ⟨⟨h.1.1, hf x (by simp) c⟩, ih⟩
    · have e : Vx.up id f x = x := by unfold Vx.up; rw [if_neg c]
      rw [e]
      exact ⟨h.1, ih⟩
theorem els_up_e {top id : Int} {f : List Pr → List Pr} : ∀ {l : List Lk} {a : Int}, elsFrom top a (l.map Lk.ee) = true → (∀ x ∈ l, x.id = id → psMay (f x.ps) = true) → elsFrom top a ((l.map (Lk.up id f)).map Lk.ee) = true
  | [], _, _, _ => rfl
  | x :: l, a, h, hf => by
    simp only [List.map_cons, elsFrom, Bool.and_eq_true] at h ⊢
    have ih := els_up_e h.2 fun y hy => hf y (by simp [hy])
    unfold elOk at h ⊢
    simp only [Bool.and_eq_true] at h ⊢
    by_cases c : x.id = id
    · have e : Lk.up id f x = { x with ps := f x.ps } := by unfold Lk.up; rw [if_pos c]
      rw [e]
      exact ⟨⟨h.1.1, hf x (by simp) c⟩, ih⟩
    · have e : Lk.up id f x = x := by unfold Lk.up; rw [if_neg c]
      rw [e]
      exact ⟨h.1, ih⟩
theorem ids_up (id : Int) (f : List Pr → List Pr) (vs : List Vx) : (vs.map (Vx.up id f)).map Vx.id = vs.map Vx.id := by
  rw [List.map_map]
  exact List.map_congr_left fun x _ => Vx.up_id id f x
theorem lk_up (vs : List Vx) (id : Int) (f : List Pr → List Pr) (e : Lk) : lkOk vs (e.up id f) = lkOk vs e := by
  unfold lkOk Lk.up; split <;> rfl
/-- A graph whose element's properties are written anew may be. -/
theorem gMay_up {g : Gg} (h : gMay g = true) {k id : Int} {f : List Pr → List Pr} {ps : List Pr} (hp : elPs g k id = some ps) (hf : psMay (f ps) = true) : gMay (gUp g k id f) = true := by
  have h' := h
  unfold gMay at h ⊢
  simp only [Bool.and_eq_true, decide_eq_true_eq] at h
  unfold elPs at hp
  unfold gUp
  by_cases h6 : k = 6
  · rw [if_pos h6] at hp ⊢
    have ha := all_v h' hp
    have e1 := els_up_v (id := id) (f := f) h.1.1.2 fun x hx e => by rw [ha x hx e]; exact hf
    have e2 : lksMay (g.vs.map (Vx.up id f)) g.es = true := by
      have := h.2
      unfold lksMay lkOk hasV at this ⊢
      rw [ids_up]; exact this
    simp only [Bool.and_eq_true, decide_eq_true_eq, List.length_map]
    exact ⟨⟨⟨h.1.1.1, e1⟩, h.1.2⟩, e2⟩
  · rw [if_neg h6] at hp ⊢
    by_cases h7 : k = 7
    · rw [if_pos h7] at hp ⊢
      have ha := all_e h' hp
      have e1 := els_up_e (id := id) (f := f) h.1.2 fun x hx e => by rw [ha x hx e]; exact hf
      have e2 : lksMay g.vs (g.es.map (Lk.up id f)) = true := by
        have := h.2
        unfold lksMay at this ⊢
        rw [List.all_map]
        rw [List.all_eq_true] at this ⊢
        intro x hx
        show lkOk _ _ = true
        rw [lk_up]; exact this x hx
      simp only [Bool.and_eq_true, decide_eq_true_eq, List.length_map]
      exact ⟨⟨⟨h.1.1.1, h.1.1.2⟩, e1⟩, e2⟩
    · rw [if_neg h7] at hp; cases hp
theorem elPs_up {g : Gg} {k id : Int} {f : List Pr → List Pr} {ps : List Pr} (hp : elPs g k id = some ps) : elPs (gUp g k id f) k id = some (f ps) := by
  unfold elPs at hp ⊢
  unfold gUp
  by_cases h6 : k = 6
  · rw [if_pos h6] at hp ⊢
    rw [if_pos h6]
    unfold vPs at hp ⊢
    obtain ⟨y, hy, rfl⟩ := Option.map_eq_some_iff.1 hp
    have e : ((fun x : Vx => decide (x.id = id)) ∘ Vx.up id f) = fun x => decide (x.id = id) := by funext x; simp [Vx.up_id]
    rw [List.find?_map, e, hy]
    have hye : y.id = id := by simpa using List.find?_some hy
    simp [Vx.up, hye]
  · rw [if_neg h6] at hp ⊢
    rw [if_neg h6]
    by_cases h7 : k = 7
    · rw [if_pos h7] at hp ⊢
      rw [if_pos h7]
      unfold ePs at hp ⊢
      obtain ⟨y, hy, rfl⟩ := Option.map_eq_some_iff.1 hp
      have e : ((fun x : Lk => decide (x.id = id)) ∘ Lk.up id f) = fun x => decide (x.id = id) := by funext x; simp [Lk.up_id]
      rw [List.find?_map, e, hy]
      have hye : y.id = id := by simpa using List.find?_some hy
      simp [Lk.up, hye]
    · rw [if_neg h7] at hp; cases hp
theorem up_up (g : Gg) (k id : Int) (f h : List Pr → List Pr) : gUp (gUp g k id f) k id h = gUp g k id (fun ps => h (f ps)) := by
  unfold gUp
  by_cases h6 : k = 6
  · simp only [if_pos h6, List.map_map]
    congr 1
    refine List.map_congr_left fun x _ => ?_
    show Vx.up id h (Vx.up id f x) = _
    unfold Vx.up
    by_cases c : x.id = id <;> simp [c]
  · by_cases h7 : k = 7
    · simp only [if_neg h6, if_pos h7, List.map_map]
      congr 1
      refine List.map_congr_left fun x _ => ?_
      show Lk.up id h (Lk.up id f x) = _
      unfold Lk.up
      by_cases c : x.id = id <;> simp [c]
    · simp only [if_neg h6, if_neg h7]
theorem up_same {g : Gg} (hm : gMay g = true) {k id : Int} {f : List Pr → List Pr} {ps : List Pr} (hp : elPs g k id = some ps) (hf : f ps = ps) : gUp g k id f = g := by
  unfold elPs at hp
  unfold gUp
  by_cases h6 : k = 6
  · rw [if_pos h6] at hp ⊢
    have ha := all_v hm hp
    have : g.vs.map (Vx.up id f) = g.vs := by
      refine (List.map_congr_left fun x hx => ?_).trans (List.map_id _)
      show Vx.up id f x = x
      unfold Vx.up
      by_cases c : x.id = id
      · rw [if_pos c]
        have e := ha x hx c
        obtain ⟨a, b, d⟩ := x
        simp only at e
        rw [e, hf]
      · rw [if_neg c]
    rw [this]
  · rw [if_neg h6] at hp ⊢
    by_cases h7 : k = 7
    · rw [if_pos h7] at hp ⊢
      have ha := all_e hm hp
      have : g.es.map (Lk.up id f) = g.es := by
        refine (List.map_congr_left fun x hx => ?_).trans (List.map_id _)
        show Lk.up id f x = x
        unfold Lk.up
        by_cases c : x.id = id
        · rw [if_pos c]
          have e := ha x hx c
          obtain ⟨a, b, d, q, r⟩ := x
          simp only at e
          rw [e, hf]
        · rw [if_neg c]
      rw [this]
    · rw [if_neg h7] at hp; cases hp
theorem prSame_self (p : Pr) : prSame p p = true := by simp [prSame, cmp_self]
theorem psSame_self : ∀ l : List Pr, psSame l l = true
  | [] => rfl
  | p :: l => by
    unfold psSame
    rw [prSame_self, psSame_self l]; rfl
theorem allB_self {β : Type} {f : β → β → Bool} (h : ∀ x, f x x = true) : ∀ l : List β, allB f l l = true
  | [] => rfl
  | x :: l => by
    unfold allB
    rw [h, allB_self h l]; rfl
theorem gSame_self (g : Gg) : gSame g g = true := by
  unfold gSame
  rw [allB_self (fun x => by simp [vxSame, psSame_self]), allB_self (fun x => by simp [lkSame, psSame_self])]
  simp
/-- What P10.5 says of what is set. -/
theorem just_set {g : Gg} {k id : Int} {nm : ByteArray} {v : V} (hm : gMay g = true) (h : (gSet g k id nm v).2 = 0) :
    ∃ ps, elPs g k id = some ps ∧ psMay ps = true ∧ nmB nm = true ∧ v.may 1 = true ∧ (psHas nm ps = true ∨ ps.length < 16) ∧ (gSet g k id nm v).1 = gUp g k id (psPut nm v) ∧ gMay (gUp g k id (psPut nm v)) = true := by
  unfold gSet at h ⊢
  rw [hm] at h ⊢
  simp only [Bool.true_eq_false, if_false] at h ⊢
  cases hp : elPs g k id with
  | none => rw [hp] at h; simp at h
  | some ps =>
    rw [hp] at h
    simp only at h ⊢
    by_cases h1 : nmB nm = false
    · rw [if_pos h1] at h; simp at h
    by_cases h2 : v.may 1 = false
    · rw [if_neg h1, if_pos h2] at h; simp at h
    by_cases h3 : psHas nm ps = false ∧ 16 ≤ ps.length
    · rw [if_neg h1, if_neg h2, if_pos h3] at h; simp at h
    have hpm := ps_may hm hp
    have h1' : nmB nm = true := by simpa using h1
    have h2' : v.may 1 = true := by simpa using h2
    have h3' : psHas nm ps = true ∨ ps.length < 16 := by
      cases hh : psHas nm ps with
      | true => exact .inl rfl
      | false => exact .inr (by rw [hh] at h3; simp at h3; omega)
    refine ⟨ps, rfl, hpm, h1', h2', h3', by rw [if_neg h1, if_neg h2, if_neg h3], gMay_up hm hp (may_put hpm h1' h2' h3')⟩
end Go.Proofs.Yteknbploiombiaa
