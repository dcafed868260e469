/-
  Properties whose names rise, as plain data: one put in, one taken out, found: no walk.
-/
import Derived.Test.YteknbploiombiaaZPm
namespace Go.Proofs.Yteknbploiombiaa
open Go.RowKit Go.Sort
set_option linter.unusedVariables false

/-- How two names stand. -/
def cb (a b : ByteArray) : Int := Lib.compareBytes a.data.toList b.data.toList
theorem less_cmp : ∀ x y : List UInt8, Op.bytesLess x y = decide (Lib.compareBytes x y < 0)
  | [], [] => by simp [Op.bytesLess, Lib.compareBytes]
  | _ :: _, [] => by simp [Op.bytesLess, Lib.compareBytes]
  | [], _ :: _ => by simp [Op.bytesLess, Lib.compareBytes]
  | a :: x, b :: y => by
    rw [Op.bytesLess, less_cmp x y]
    simp only [Lib.compareBytes, UInt8.lt_iff_toNat_lt]
    have e : (a == b) = decide (a.toNat = b.toNat) := by
      rw [Bool.eq_iff_iff]; simp [UInt8.toNat_inj]
    rw [e]
    rcases Nat.lt_trichotomy a.toNat b.toNat with h | h | h
    · simp [h]
    · simp [h]
    · have h1 : ¬ a.toNat < b.toNat := by omega
      have h2 : ¬ a.toNat = b.toNat := by omega
      simp [h, h1, h2]
theorem cmpB_eq : ∀ x y : List UInt8, Lib.compareBytes x y = 0 → x = y
  | [], [], _ => rfl
  | _ :: _, [], h => by simp [Lib.compareBytes] at h
  | [], _ :: _, h => by simp [Lib.compareBytes] at h
  | a :: x, b :: y, h => by
    simp only [Lib.compareBytes, UInt8.lt_iff_toNat_lt] at h
    by_cases h1 : a.toNat < b.toNat
    · rw [if_pos h1] at h; omega
    · rw [if_neg h1] at h
      by_cases h2 : b.toNat < a.toNat
      · rw [if_pos h2] at h; omega
      · rw [if_neg h2] at h
        rw [cmpB_eq x y h, UInt8.toNat_inj.1 (show a.toNat = b.toNat by omega)]
theorem bl_cb (a b : ByteArray) : bl a b = decide (cb a b < 0) := by
  unfold bl cb
  rw [less_cmp, Lib.toList_data, Lib.toList_data]
theorem cb_self (a : ByteArray) : cb a a = 0 := by have := anti_bytes a.data.toList a.data.toList; unfold cb; omega
theorem cb_eq {a b : ByteArray} (h : cb a b = 0) : a = b := by
  have := cmpB_eq _ _ h
  obtain ⟨⟨la⟩⟩ := a
  obtain ⟨⟨lb⟩⟩ := b
  simp at this
  rw [this]
theorem cb_iff (a b : ByteArray) : cb a b = 0 ↔ a = b := ⟨cb_eq, fun h => by rw [h]; exact cb_self b⟩
theorem cb_anti (a b : ByteArray) : cb a b = -cb b a := anti_bytes _ _
theorem cb_trans {a b c : ByteArray} (h : cb a b < 0) (k : cb b c < 0) : cb a c < 0 := by
  obtain ⟨h1, h2⟩ := tri_bytes a.data.toList b.data.toList c.data.toList (by unfold cb at h; omega) (by unfold cb at k; omega)
  by_cases e : cb a c = 0
  · have := (h2 e).1
    unfold cb at h; omega
  · unfold cb at e ⊢; omega

def psPut (nm : ByteArray) (v : V) : List Pr → List Pr
  | [] => [⟨nm, v⟩]
  | p :: r => if cb p.nm nm < 0 then p :: psPut nm v r else if cb p.nm nm = 0 then ⟨nm, v⟩ :: r else ⟨nm, v⟩ :: p :: r
def isN (nm : ByteArray) (p : Pr) : Bool := decide (p.nm = nm)
def psDel (nm : ByteArray) (l : List Pr) : List Pr := l.filter fun p => !isN nm p
def psHas (nm : ByteArray) (l : List Pr) : Bool := l.any (isN nm)
def zeroV : V := .mk 0 0 ⟨#[]⟩ []
def psGet (nm : ByteArray) (l : List Pr) : V := match l.find? (isN nm) with
  | some p => p.v
  | none => zeroV
def gtO (q : Option ByteArray) (nm : ByteArray) : Bool := match q with
  | none => true
  | some a => bl a nm
theorem from_cons (q : Option ByteArray) (p : Pr) (r : List Pr) : psFrom q (p :: r) = (nmB p.nm && gtO q p.nm && p.v.may 1 && psFrom (some p.nm) r) := by
  cases q <;> rfl
theorem gtO_trans {q : Option ByteArray} {a b : ByteArray} (h : gtO q a = true) (k : cb a b < 0) : gtO q b = true := by
  cases q with
  | none => rfl
  | some c =>
    simp only [gtO, bl_cb, decide_eq_true_eq] at h ⊢
    exact cb_trans h k
theorem from_low {q : Option ByteArray} {a : ByteArray} (h : gtO q a = true) : ∀ {l : List Pr}, psFrom (some a) l = true → psFrom q l = true
  | [], _ => rfl
  | p :: r, hf => by
    rw [from_cons] at hf ⊢
    simp only [Bool.and_eq_true] at hf ⊢
    refine ⟨⟨⟨hf.1.1.1, gtO_trans h ?_⟩, hf.1.2⟩, hf.2⟩
    have := hf.1.1.2
    simpa [gtO, bl_cb] using this
theorem from_gt : ∀ {l : List Pr} {a : ByteArray}, psFrom (some a) l = true → ∀ p ∈ l, cb a p.nm < 0
  | [], _, _ => fun p h => absurd h (by simp)
  | p :: r, a, hf => by
    rw [from_cons] at hf
    simp only [Bool.and_eq_true] at hf
    have h1 : cb a p.nm < 0 := by have := hf.1.1.2; simpa [gtO, bl_cb] using this
    intro x hx
    rcases List.mem_cons.1 hx with rfl | hx
    · exact h1
    · exact cb_trans h1 (from_gt hf.2 x hx)
theorem put_from {nm : ByteArray} {v : V} (hn : nmB nm = true) (hv : v.may 1 = true) : ∀ {l : List Pr} {q : Option ByteArray}, psFrom q l = true → gtO q nm = true → psFrom q (psPut nm v l) = true
  | [], q, _, hq => by
    show psFrom q [⟨nm, v⟩] = true
    rw [from_cons]
    simp [hn, hq, hv, psFrom]
  | p :: r, q, hf, hq => by
    rw [from_cons] at hf
    simp only [Bool.and_eq_true] at hf
    unfold psPut
    by_cases h1 : cb p.nm nm < 0
    · rw [if_pos h1, from_cons]
      simp only [Bool.and_eq_true]
      exact ⟨hf.1, put_from hn hv hf.2 (by simpa [gtO, bl_cb] using h1)⟩
    · rw [if_neg h1]
      by_cases h2 : cb p.nm nm = 0
      · rw [if_pos h2, from_cons]
        obtain rfl := cb_eq h2
        simp only [Bool.and_eq_true]
        exact ⟨⟨⟨hn, hq⟩, hv⟩, hf.2⟩
      · rw [if_neg h2, from_cons, from_cons]
        simp only [Bool.and_eq_true]
        have := cb_anti p.nm nm
        exact ⟨⟨⟨hn, hq⟩, hv⟩, ⟨⟨hf.1.1.1, by simp only [gtO, bl_cb, decide_eq_true_eq]; omega⟩, hf.1.2⟩, hf.2⟩
theorem del_from {nm : ByteArray} : ∀ {l : List Pr} {q : Option ByteArray}, psFrom q l = true → psFrom q (psDel nm l) = true
  | [], _, _ => rfl
  | p :: r, q, hf => by
    rw [from_cons] at hf
    simp only [Bool.and_eq_true] at hf
    by_cases h : isN nm p = true
    · have e : psDel nm (p :: r) = psDel nm r := by simp [psDel, h]
      rw [e]
      exact del_from (from_low hf.1.1.2 hf.2)
    · have e : psDel nm (p :: r) = p :: psDel nm r := by simp [psDel, h]
      rw [e, from_cons]
      simp only [Bool.and_eq_true]
      exact ⟨hf.1, del_from hf.2⟩
theorem isN_no {nm : ByteArray} {p : Pr} (h : cb p.nm nm ≠ 0) : isN nm p = false := decide_eq_false fun e => h ((cb_iff _ _).2 e)
theorem isN_yes {nm : ByteArray} {p : Pr} (h : cb p.nm nm = 0) : isN nm p = true := decide_eq_true (cb_eq h)
theorem none_above {nm : ByteArray} {l : List Pr} {a : ByteArray} (h : psFrom (some a) l = true) (hc : 0 ≤ cb a nm) : ∀ p ∈ l, isN nm p = false := fun p hp => by
  have h1 := from_gt h p hp
  refine isN_no fun e => ?_
  obtain rfl := cb_eq e
  omega
theorem del_none {nm : ByteArray} {l : List Pr} (h : ∀ p ∈ l, isN nm p = false) : psDel nm l = l := by
  unfold psDel
  rw [List.filter_eq_self]
  intro p hp
  rw [h p hp]; rfl
theorem has_none {nm : ByteArray} {l : List Pr} (h : ∀ p ∈ l, isN nm p = false) : psHas nm l = false := by
  unfold psHas
  rw [List.any_eq_false]
  intro p hp
  rw [h p hp]; simp
theorem has_cons (nm : ByteArray) (p : Pr) (r : List Pr) : psHas nm (p :: r) = (isN nm p || psHas nm r) := rfl
theorem get_cons (nm : ByteArray) (p : Pr) (r : List Pr) : psGet nm (p :: r) = if isN nm p = true then p.v else psGet nm r := by
  unfold psGet
  rw [List.find?_cons]
  cases isN nm p <;> rfl
theorem put_above {nm : ByteArray} {v : V} {l : List Pr} {a : ByteArray} (h : psFrom (some a) l = true) (hc : 0 ≤ cb a nm) : psPut nm v l = ⟨nm, v⟩ :: l := by
  cases l with
  | nil => rfl
  | cons p r =>
    have h1 := from_gt h p (by simp)
    have h3 : ¬ cb p.nm nm < 0 := fun h2 => by have := cb_trans h1 h2; omega
    have h4 : ¬ cb p.nm nm = 0 := fun h2 => by obtain rfl := cb_eq h2; omega
    unfold psPut
    rw [if_neg h3, if_neg h4]
theorem del_put {nm : ByteArray} {v : V} : ∀ {l : List Pr} {q : Option ByteArray}, psFrom q l = true → psHas nm l = false → psDel nm (psPut nm v l) = l
  | [], _, _, _ => by simp [psPut, psDel, isN]
  | p :: r, q, hf, hh => by
    rw [from_cons] at hf
    simp only [Bool.and_eq_true] at hf
    rw [has_cons, Bool.or_eq_false_iff] at hh
    unfold psPut
    by_cases h1 : cb p.nm nm < 0
    · rw [if_pos h1]
      have e : psDel nm (p :: psPut nm v r) = p :: psDel nm (psPut nm v r) := by simp [psDel, hh.1]
      rw [e, del_put hf.2 hh.2]
    · rw [if_neg h1]
      by_cases h2 : cb p.nm nm = 0
      · rw [isN_yes h2] at hh; cases hh.1
      · rw [if_neg h2]
        have e : psDel nm (⟨nm, v⟩ :: p :: r) = psDel nm (p :: r) := by simp [psDel, isN]
        rw [e]
        refine del_none fun x hx => ?_
        rcases List.mem_cons.1 hx with rfl | hx
        · exact hh.1
        · exact none_above hf.2 (by omega) x hx
theorem put_del_put {nm : ByteArray} {v : V} : ∀ {l : List Pr} {q : Option ByteArray}, psFrom q l = true → psHas nm l = true → psPut nm (psGet nm l) (psDel nm (psPut nm v l)) = l
  | [], _, _, h => by simp [psHas] at h
  | p :: r, q, hf, hh => by
    rw [from_cons] at hf
    simp only [Bool.and_eq_true] at hf
    rw [get_cons]
    by_cases h1 : cb p.nm nm < 0
    · have h0 := isN_no (nm := nm) (p := p) (by omega)
      rw [has_cons, h0, Bool.false_or] at hh
      have e1 : psPut nm v (p :: r) = p :: psPut nm v r := by rw [psPut, if_pos h1]
      have e2 : psDel nm (p :: psPut nm v r) = p :: psDel nm (psPut nm v r) := by simp [psDel, h0]
      rw [e1, e2, h0, if_neg (by simp), psPut, if_pos h1, put_del_put hf.2 hh]
    · by_cases h2 : cb p.nm nm = 0
      · have h0 := isN_yes h2
        have e1 : psPut nm v (p :: r) = ⟨nm, v⟩ :: r := by rw [psPut, if_neg h1, if_pos h2]
        have e2 : psDel nm (⟨nm, v⟩ :: r) = psDel nm r := by simp [psDel, isN]
        rw [e1, e2, h0, if_pos rfl, del_none (none_above hf.2 (by omega)), put_above hf.2 (by omega)]
        obtain ⟨a, b⟩ := p
        have := cb_eq h2
        simp only at this
        rw [this]
      · have h0 := isN_no (nm := nm) (p := p) h2
        rw [has_cons, h0, has_none (none_above hf.2 (by omega))] at hh
        cases hh
theorem get_put {nm : ByteArray} {v : V} : ∀ {l : List Pr} {q : Option ByteArray}, psFrom q l = true → psGet nm (psPut nm v l) = v ∧ psHas nm (psPut nm v l) = true
  | [], _, _ => by simp [psPut, psGet, psHas, isN]
  | p :: r, q, hf => by
    rw [from_cons] at hf
    simp only [Bool.and_eq_true] at hf
    unfold psPut
    by_cases h1 : cb p.nm nm < 0
    · have h0 := isN_no (nm := nm) (p := p) (by omega)
      rw [if_pos h1, get_cons, has_cons, h0]
      exact get_put hf.2
    · rw [if_neg h1]
      by_cases h2 : cb p.nm nm = 0
      · rw [if_pos h2, get_cons, has_cons]; simp [isN]
      · rw [if_neg h2, get_cons, has_cons]; simp [isN]
theorem has_del (nm : ByteArray) (l : List Pr) : psHas nm (psDel nm l) = false := by
  refine has_none fun p hp => ?_
  unfold psDel at hp
  have := (List.mem_filter.1 hp).2
  simpa using this
theorem len_put {nm : ByteArray} {v : V} : ∀ {l : List Pr} {q : Option ByteArray}, psFrom q l = true → (psPut nm v l).length = if psHas nm l = true then l.length else l.length + 1
  | [], _, _ => by simp [psPut, psHas]
  | p :: r, q, hf => by
    rw [from_cons] at hf
    simp only [Bool.and_eq_true] at hf
    unfold psPut
    by_cases h1 : cb p.nm nm < 0
    · have h0 := isN_no (nm := nm) (p := p) (by omega)
      rw [if_pos h1, has_cons, h0, List.length_cons, len_put hf.2, Bool.false_or]
      split <;> simp
    · rw [if_neg h1]
      by_cases h2 : cb p.nm nm = 0
      · rw [if_pos h2, has_cons, isN_yes h2]; simp
      · rw [if_neg h2, has_cons, isN_no h2, has_none (none_above hf.2 (by omega))]; simp
theorem len_del {nm : ByteArray} : ∀ {l : List Pr}, psHas nm l = true → (psDel nm l).length < l.length
  | [], h => by simp [psHas] at h
  | p :: r, hh => by
    rw [has_cons] at hh
    by_cases h : isN nm p = true
    · have e : psDel nm (p :: r) = psDel nm r := by simp [psDel, h]
      rw [e]
      have : (psDel nm r).length ≤ r.length := List.length_filter_le _ _
      simp only [List.length_cons]; omega
    · have e : psDel nm (p :: r) = p :: psDel nm r := by simp [psDel, h]
      rw [e]
      have h' : isN nm p = false := by simpa using h
      rw [h', Bool.false_or] at hh
      have := len_del hh
      simp only [List.length_cons]; omega
theorem may_from {l : List Pr} (h : psMay l = true) : psFrom none l = true := by unfold psMay at h; simp only [Bool.and_eq_true] at h; exact h.2
theorem may_len {l : List Pr} (h : psMay l = true) : l.length ≤ 16 := by unfold psMay at h; simp only [Bool.and_eq_true, decide_eq_true_eq] at h; exact h.1
theorem may_put {nm : ByteArray} {v : V} {l : List Pr} (h : psMay l = true) (hn : nmB nm = true) (hv : v.may 1 = true) (hl : psHas nm l = true ∨ l.length < 16) : psMay (psPut nm v l) = true := by
  have hf := may_from h
  have h16 := may_len h
  unfold psMay
  rw [put_from hn hv hf rfl, Bool.and_true, decide_eq_true_eq, len_put hf]
  rcases hl with hl | hl
  · rw [if_pos hl]; exact h16
  · split <;> omega
theorem may_del {nm : ByteArray} {l : List Pr} (h : psMay l = true) : psMay (psDel nm l) = true := by
  have hf := may_from h
  have h16 := may_len h
  unfold psMay
  rw [del_from hf, Bool.and_true, decide_eq_true_eq]
  exact Nat.le_trans (List.length_filter_le _ _) h16
theorem get_may {nm : ByteArray} : ∀ {l : List Pr} {q : Option ByteArray}, psFrom q l = true → psHas nm l = true → (psGet nm l).may 1 = true ∧ nmB nm = true
  | [], _, _, h => by simp [psHas] at h
  | p :: r, q, hf, hh => by
    rw [from_cons] at hf
    simp only [Bool.and_eq_true] at hf
    rw [get_cons]
    rw [has_cons] at hh
    by_cases h : isN nm p = true
    · rw [if_pos h]
      have : p.nm = nm := by simpa [isN] using h
      rw [← this]
      exact ⟨hf.1.2, hf.1.1.1⟩
    · rw [if_neg h]
      have h' : isN nm p = false := by simpa using h
      rw [h', Bool.false_or] at hh
      exact get_may hf.2 hh
/-- Names rise. -/
def Nr (l : List Pr) : Prop := ∀ i j (hi : i < l.length) (hj : j < l.length), i < j → cb l[i].nm l[j].nm < 0
theorem from_nr : ∀ {l : List Pr} {q : Option ByteArray}, psFrom q l = true → Nr l
  | [], _, _ => fun i _ hi => absurd hi (Nat.not_lt_zero _)
  | p :: r, q, hf => by
    rw [from_cons] at hf
    simp only [Bool.and_eq_true] at hf
    intro i j hi hj hij
    cases j with
    | zero => omega
    | succ j =>
      cases i with
      | zero => simpa using from_gt hf.2 _ (List.getElem_mem (by simpa using hj))
      | succ i => simpa using from_nr hf.2 i j (by simpa using hi) (by simpa using hj) (by omega)
/-- The place of a name. -/
def PlaceOf (nm : ByteArray) (l : List Pr) (k : Nat) : Prop := k ≤ l.length ∧ (∀ t (ht : t < l.length), t < k → cb l[t].nm nm < 0) ∧ ∀ t (ht : t < l.length), k ≤ t → 0 ≤ cb l[t].nm nm
theorem put_at {nm : ByteArray} {v : V} : ∀ {l : List Pr} {q : Option ByteArray} {k : Nat}, psFrom q l = true → PlaceOf nm l k →
    psPut nm v l = if psHas nm l = true then l.set k ⟨nm, v⟩ else l.take k ++ ⟨nm, v⟩ :: l.drop k
  | [], _, k, _, hp => by simp [psPut, psHas]
  | p :: r, q, k, hf, ⟨hk, h1, h2⟩ => by
    rw [from_cons] at hf
    simp only [Bool.and_eq_true] at hf
    cases k with
    | zero =>
      have h0 : 0 ≤ cb p.nm nm := h2 0 (by simp) (Nat.le_refl _)
      unfold psPut
      rw [if_neg (by omega)]
      by_cases h3 : cb p.nm nm = 0
      · rw [if_pos h3, has_cons, isN_yes h3]; simp
      · rw [if_neg h3, has_cons, isN_no h3, has_none (none_above hf.2 (by omega))]; simp
    | succ k =>
      have h0 : cb p.nm nm < 0 := h1 0 (by simp) (by omega)
      have ih := put_at (v := v) (k := k) hf.2 ⟨by simpa using hk, fun t ht htk => h1 (t + 1) (by simpa using ht) (by omega), fun t ht htk => h2 (t + 1) (by simpa using ht) (by omega)⟩
      unfold psPut
      rw [if_pos h0, ih, has_cons, isN_no (by omega), Bool.false_or]
      split <;> simp
theorem has_at {nm : ByteArray} : ∀ {l : List Pr} {q : Option ByteArray} {k : Nat}, psFrom q l = true → PlaceOf nm l k → psHas nm l = true → ∃ hk : k < l.length, l[k].nm = nm
  | [], _, k, _, _, h => by simp [psHas] at h
  | p :: r, q, k, hf, ⟨hk, h1, h2⟩, hh => by
    rw [from_cons] at hf
    simp only [Bool.and_eq_true] at hf
    rw [has_cons] at hh
    cases k with
    | zero =>
      have h0 : 0 ≤ cb p.nm nm := h2 0 (by simp) (Nat.le_refl _)
      by_cases h3 : cb p.nm nm = 0
      · exact ⟨by simp, by simpa using cb_eq h3⟩
      · rw [isN_no h3, has_none (none_above hf.2 (by omega))] at hh; cases hh
    | succ k =>
      have h0 : cb p.nm nm < 0 := h1 0 (by simp) (by omega)
      rw [isN_no (by omega), Bool.false_or] at hh
      obtain ⟨a, b⟩ := has_at (k := k) hf.2 ⟨by simpa using hk, fun t ht htk => h1 (t + 1) (by simpa using ht) (by omega), fun t ht htk => h2 (t + 1) (by simpa using ht) (by omega)⟩ hh
      exact ⟨by simpa using a, by simpa using b⟩
theorem has_of {nm : ByteArray} {l : List Pr} {k : Nat} (hk : k < l.length) (h : l[k].nm = nm) : psHas nm l = true := by
  unfold psHas
  rw [List.any_eq_true]
  exact ⟨_, List.getElem_mem hk, by simp [isN, h]⟩
end Go.Proofs.Yteknbploiombiaa
