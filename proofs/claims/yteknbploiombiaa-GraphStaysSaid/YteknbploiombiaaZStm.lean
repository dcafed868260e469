/-
  A graph that may be stays one: mathematics of AddV, AddE, Set, Unset, Drop. No walk.
-/
import Derived.Test.YteknbploiombiaaZUna
import Derived.Test.YteknbploiombiaaZDre
import Derived.Test.YteknbploiombiaaZAde
namespace Go.Proofs.Yteknbploiombiaa
open Go.RowKit

theorem elOk_iff {top a : Int} {x : Ee} : elOk top a x = true ↔ a < x.1 ∧ x.1 ≤ top ∧ nmB x.2.1 = true ∧ psMay x.2.2 = true := by
  unfold elOk
  simp only [Bool.and_eq_true, decide_eq_true_eq, and_assoc]
theorem els_mono {top top' a a' : Int} (ht : top ≤ top') (ha : a' ≤ a) : ∀ {l : List Ee}, elsFrom top a l = true → elsFrom top' a' l = true
  | [], _ => rfl
  | x :: l, h => by
    simp only [elsFrom, Bool.and_eq_true] at h ⊢
    obtain ⟨h1, h2, h3, h4⟩ := elOk_iff.1 h.1
    exact ⟨elOk_iff.2 ⟨by omega, by omega, h3, h4⟩, els_mono ht (Int.le_refl _) h.2⟩
theorem els_filter {top : Int} {f : Ee → Bool} : ∀ {l : List Ee} {a : Int}, elsFrom top a l = true → elsFrom top a (l.filter f) = true
  | [], _, _ => rfl
  | x :: l, a, h => by
    simp only [elsFrom, Bool.and_eq_true] at h
    rw [List.filter_cons]
    split
    · simp only [elsFrom, Bool.and_eq_true]
      exact ⟨h.1, els_filter h.2⟩
    · exact els_mono (Int.le_refl _) (by have := (elOk_iff.1 h.1).1; omega) (els_filter h.2)
theorem els_mem {top : Int} : ∀ {l : List Ee} {a : Int}, elsFrom top a l = true → ∀ x ∈ l, a < x.1 ∧ x.1 ≤ top
  | y :: l, a, h, x, hx => by
    simp only [elsFrom, Bool.and_eq_true] at h
    obtain ⟨h1, h2, -, -⟩ := elOk_iff.1 h.1
    rcases List.mem_cons.1 hx with rfl | hx
    · exact ⟨h1, h2⟩
    · have := els_mem h.2 x hx
      exact ⟨by omega, this.2⟩
theorem lst_le {top : Int} : ∀ {l : List Ee} {a : Int}, elsFrom top a l = true → a ≤ top → lstId a l ≤ top
  | [], _, _, ha => ha
  | y :: l, a, h, ha => by
    simp only [elsFrom, Bool.and_eq_true] at h
    exact lst_le (l := l) h.2 (elOk_iff.1 h.1).2.1
theorem els_add {top a : Int} {l : List Ee} {x : Ee} (h : elsFrom top a l = true) (ha : a ≤ top) (hx : x.1 = top + 1) (hn : nmB x.2.1 = true) (hp : psMay x.2.2 = true) : elsFrom (top + 1) a (l ++ [x]) = true := by
  rw [els_snoc, Bool.and_eq_true]
  have := lst_le h ha
  exact ⟨els_mono (by omega) (Int.le_refl _) h, elOk_iff.2 ⟨by omega, by omega, hn, hp⟩⟩
theorem gMay_iff {g : Gg} : gMay g = true ↔ (0 ≤ g.last ∧ g.last ≤ 281474976710656) ∧ (g.vs.length ≤ 2048 ∧ g.es.length ≤ 2048) ∧ elsFrom g.last 0 (g.vs.map Vx.ee) = true ∧ elsFrom g.last 0 (g.es.map Lk.ee) = true ∧ ∀ e ∈ g.es, lkOk g.vs e = true := by
  unfold gMay lksMay
  simp only [Bool.and_eq_true, decide_eq_true_eq, and_assoc, List.all_eq_true]
theorem has_iff {vs : List Vx} {id : Int} : hasV vs id = true ↔ ∃ v ∈ vs, v.id = id := by
  unfold hasV
  simp only [decide_eq_true_eq, List.mem_map]
theorem lkOk_iff {vs : List Vx} {e : Lk} : lkOk vs e = true ↔ hasV vs e.id = false ∧ hasV vs e.out = true ∧ hasV vs e.inn = true := by
  unfold lkOk
  simp only [Bool.and_eq_true, Bool.not_eq_true', and_assoc]
theorem may_addV {g : Gg} {lb : ByteArray} (h : gMay g = true) (hlb : nmB lb = true) (hf : fullV g = false) : gMay (gAddV g lb) = true := by
  obtain ⟨⟨h1, h2⟩, ⟨h3, h4⟩, h5, h6, h7⟩ := gMay_iff.1 h
  unfold fullV at hf
  simp only [Bool.or_eq_false_iff, decide_eq_false_iff_not] at hf
  refine gMay_iff.2 ⟨⟨by show 0 ≤ g.last + 1; omega, by show g.last + 1 ≤ _; omega⟩, ⟨by show (g.vs ++ [_]).length ≤ 2048; rw [List.length_append, List.length_singleton]; omega, h4⟩, ?_, els_mono (show g.last ≤ g.last + 1 by omega) (Int.le_refl _) h6, fun e he => ?_⟩
  · show elsFrom (g.last + 1) 0 ((g.vs ++ [_]).map Vx.ee) = true
    rw [List.map_append]
    exact els_add h5 h1 rfl hlb (by rfl)
  · obtain ⟨a, b, c⟩ := lkOk_iff.1 (h7 e he)
    have hh := els_mem h6 e.ee (List.mem_map.2 ⟨e, he, rfl⟩)
    have hle : e.id ≤ g.last := hh.2
    refine lkOk_iff.2 ⟨?_, ?_, ?_⟩
    · refine Bool.eq_false_iff.2 fun hc => ?_
      obtain ⟨v, hv, e1⟩ := has_iff.1 hc
      rcases List.mem_append.1 (show v ∈ g.vs ++ [_] from hv) with hv | hv
      · rw [has_iff.2 ⟨v, hv, e1⟩] at a; cases a
      · rw [List.mem_singleton.1 hv] at e1
        have e1 : g.last + 1 = e.id := e1
        omega
    · obtain ⟨v, hv, e1⟩ := has_iff.1 b
      exact has_iff.2 ⟨v, List.mem_append_left _ hv, e1⟩
    · obtain ⟨v, hv, e1⟩ := has_iff.1 c
      exact has_iff.2 ⟨v, List.mem_append_left _ hv, e1⟩
theorem may_addE {g : Gg} {lb : ByteArray} {io ii : Int} (h : gMay g = true) (hlb : nmB lb = true) (ho : hasV g.vs io = true) (hi : hasV g.vs ii = true) (hf : fullE g = false) : gMay (gAddE g lb io ii) = true := by
  obtain ⟨⟨h1, h2⟩, ⟨h3, h4⟩, h5, h6, h7⟩ := gMay_iff.1 h
  unfold fullE at hf
  simp only [Bool.or_eq_false_iff, decide_eq_false_iff_not] at hf
  refine gMay_iff.2 ⟨⟨by show 0 ≤ g.last + 1; omega, by show g.last + 1 ≤ _; omega⟩, ⟨h3, by show (g.es ++ [_]).length ≤ 2048; rw [List.length_append, List.length_singleton]; omega⟩, els_mono (show g.last ≤ g.last + 1 by omega) (Int.le_refl _) h5, ?_, fun e he => ?_⟩
  · show elsFrom (g.last + 1) 0 ((g.es ++ [_]).map Lk.ee) = true
    rw [List.map_append]
    exact els_add h6 h1 rfl hlb (by rfl)
  · rcases List.mem_append.1 (show e ∈ g.es ++ [_] from he) with he | he
    · exact h7 e he
    · rw [List.mem_singleton.1 he]
      refine lkOk_iff.2 ⟨?_, ho, hi⟩
      refine Bool.eq_false_iff.2 fun hc => ?_
      obtain ⟨v, hv, e1⟩ := has_iff.1 hc
      have hh := els_mem h5 v.ee (List.mem_map.2 ⟨v, hv, rfl⟩)
      have hle : v.id ≤ g.last := hh.2
      have e1 : v.id = g.last + 1 := e1
      omega
theorem may_dropE {g : Gg} {id : Int} (h : gMay g = true) : gMay (gDropE g id) = true := by
  obtain ⟨⟨h1, h2⟩, ⟨h3, h4⟩, h5, h6, h7⟩ := gMay_iff.1 h
  refine gMay_iff.2 ⟨⟨h1, h2⟩, ⟨h3, Nat.le_trans (List.length_filter_le _ _) h4⟩, h5, ?_, fun e he => h7 e (List.mem_filter.1 he).1⟩
  show elsFrom g.last 0 ((g.es.filter (fun x => (fun y : Ee => !(decide (y.1 = id))) x.ee)).map Lk.ee) = true
  have := els_filter (f := fun y : Ee => !(decide (y.1 = id))) h6
  rw [List.filter_map] at this
  exact this
theorem may_dropV {g : Gg} {id : Int} (h : gMay g = true) : gMay (gDropV g id) = true := by
  obtain ⟨⟨h1, h2⟩, ⟨h3, h4⟩, h5, h6, h7⟩ := gMay_iff.1 h
  have hev : elsFrom g.last 0 ((gDropV g id).vs.map Vx.ee) = true := by
    have := els_filter (f := fun y : Ee => !(decide (y.1 = id))) h5
    rw [List.filter_map] at this
    exact this
  have hee : ∀ (f : Lk → Bool) (l : List Lk) (a : Int), elsFrom g.last a (l.map Lk.ee) = true → elsFrom g.last a ((l.filter f).map Lk.ee) = true := by
    intro f l
    induction l with
    | nil => intro a _; rfl
    | cons x l ih =>
      intro a h
      simp only [List.map_cons, elsFrom, Bool.and_eq_true] at h
      rw [List.filter_cons]
      split
      · simp only [List.map_cons, elsFrom, Bool.and_eq_true]
        exact ⟨h.1, ih _ h.2⟩
      · exact els_mono (Int.le_refl _) (by have := (elOk_iff.1 h.1).1; omega) (ih _ h.2)
  refine gMay_iff.2 ⟨⟨h1, h2⟩, ⟨Nat.le_trans (List.length_filter_le _ _) h3, Nat.le_trans (List.length_filter_le _ _) h4⟩, hev, hee _ _ _ h6, fun e he => ?_⟩
  obtain ⟨he1, he2⟩ := List.mem_filter.1 (show e ∈ g.es.filter _ from he)
  obtain ⟨a, b, c⟩ := lkOk_iff.1 (h7 e he1)
  simp only [Bool.not_eq_true', Bool.or_eq_false_iff, decide_eq_false_iff_not] at he2
  refine lkOk_iff.2 ⟨?_, ?_, ?_⟩
  · refine Bool.eq_false_iff.2 fun hc => ?_
    obtain ⟨v, hv, e1⟩ := has_iff.1 hc
    rw [has_iff.2 ⟨v, (List.mem_filter.1 (show v ∈ g.vs.filter _ from hv)).1, e1⟩] at a
    cases a
  · obtain ⟨v, hv, e1⟩ := has_iff.1 b
    exact has_iff.2 ⟨v, List.mem_filter.2 ⟨hv, by rw [e1]; simpa using he2.1⟩, e1⟩
  · obtain ⟨v, hv, e1⟩ := has_iff.1 c
    exact has_iff.2 ⟨v, List.mem_filter.2 ⟨hv, by rw [e1]; simpa using he2.2⟩, e1⟩
/-- It may be, and no number has gone back. -/
def Stays (g x : Gg) : Prop := gMay x = true ∧ g.last ≤ x.last
theorem up_last (g : Gg) (k id : Int) (f : List Pr → List Pr) : (gUp g k id f).last = g.last := by
  unfold gUp; split
  · rfl
  · split <;> rfl
theorem st_addV {g : Gg} (h : gMay g = true) (lb : ByteArray) : Stays g (rAddV g lb).1 := by
  unfold rAddV
  rw [if_neg (by rw [h]; simp)]
  split
  · exact ⟨h, Int.le_refl _⟩
  · next hl =>
    split
    · exact ⟨h, Int.le_refl _⟩
    · next hf => exact ⟨may_addV h (by simpa using hl) (by simpa using hf), by show g.last ≤ g.last + 1; omega⟩
theorem st_addE {g : Gg} (h : gMay g = true) (lb : ByteArray) (io ii : Int) : Stays g (rAddE g lb io ii).1 := by
  unfold rAddE
  rw [if_neg (by rw [h]; simp)]
  split
  · exact ⟨h, Int.le_refl _⟩
  · next hl =>
    split
    · exact ⟨h, Int.le_refl _⟩
    · next ho =>
      split
      · exact ⟨h, Int.le_refl _⟩
      · next hi =>
        split
        · exact ⟨h, Int.le_refl _⟩
        · next hf => exact ⟨may_addE h (by simpa using hl) (by simpa using ho) (by simpa using hi) (by simpa using hf), by show g.last ≤ g.last + 1; omega⟩
theorem st_set {g : Gg} (h : gMay g = true) (k id : Int) (nm : ByteArray) (v : V) : Stays g (gSet g k id nm v).1 := by
  by_cases he : (gSet g k id nm v).2 = 0
  · obtain ⟨ps, -, -, -, -, -, e1, e2⟩ := just_set h he
    rw [e1]
    exact ⟨e2, by rw [up_last]; exact Int.le_refl _⟩
  · unfold gSet at he ⊢
    rw [if_neg (by rw [h]; simp)] at he ⊢
    split at he
    · exact ⟨h, Int.le_refl _⟩
    · split at he
      · next a => rw [if_pos a]; exact ⟨h, Int.le_refl _⟩
      · next a =>
        rw [if_neg a]
        split at he
        · next b => rw [if_pos b]; exact ⟨h, Int.le_refl _⟩
        · next b =>
          rw [if_neg b]
          split at he
          · next c => rw [if_pos c]; exact ⟨h, Int.le_refl _⟩
          · exact absurd rfl he
theorem st_uns {g : Gg} (h : gMay g = true) (k id : Int) (nm : ByteArray) : Stays g (gUns g k id nm).1 := by
  unfold gUns
  rw [if_neg (by rw [h]; simp)]
  split
  · exact ⟨h, Int.le_refl _⟩
  · next ps hp => exact ⟨gMay_up h hp (may_del (ps_may h hp)), by rw [up_last]; exact Int.le_refl _⟩
theorem st_drop {g : Gg} (h : gMay g = true) (k id : Int) : Stays g (gDrop g k id).1 := by
  unfold gDrop
  rw [if_neg (by rw [h]; simp)]
  split
  · exact ⟨h, Int.le_refl _⟩
  · split
    · exact ⟨may_dropV h, Int.le_refl _⟩
    · exact ⟨may_dropE h, Int.le_refl _⟩
end Go.Proofs.Yteknbploiombiaa
