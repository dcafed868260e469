/-
  A pair put among pairs that rise: plain mathematics, and rows of values in memory as lists.
-/
import Derived.Test.YtbicodlclmdgaaaGreatDoorTurn
namespace Go.Proofs.YtbicodlclmdgaaaGreatDoor
open Go.RowKit

/-! ### Pairs whose keys rise -/

def Rising (L : List (V × V)) : Prop := L.Pairwise fun x y => V.cmp x.1 y.1 < 0
theorem Rising.le {L : List (V × V)} (h : Rising L) : L.Pairwise (fun x y => 0 ≤ V.cmp y.1 x.1) := h.imp fun {a b} hab => by have := anti_cmp b.1 a.1; omega
theorem Rising.once : ∀ {L : List (V × V)} (_ : Rising L), twiceP L = false
  | [], _ => rfl
  | [_], _ => rfl
  | x :: y :: r, h => by
    unfold Rising at h
    rw [List.pairwise_cons] at h
    have h1 := h.1 y (by simp)
    have h2 := Rising.once (L := y :: r) h.2
    simp only [twiceP, Bool.or_eq_false_iff, decide_eq_false_iff_not]
    exact ⟨by omega, h2⟩
/-- No two keys are the same. -/
def Apart (L : List (V × V)) : Prop := L.Pairwise fun x y => V.cmp x.1 y.1 ≠ 0
theorem Rising.apart {L : List (V × V)} (h : Rising L) : Apart L := h.imp fun {a b} hab => by omega
theorem Apart.perm {L L' : List (V × V)} (h : Apart L) (hp : L.Perm L') : Apart L' := List.Pairwise.perm h hp fun {a b} hab => by have := anti_cmp a.1 b.1; omega
theorem twice_apart : ∀ {L : List (V × V)} (_ : twiceP L = true), ¬ Apart L
  | [], h => by simp [twiceP] at h
  | [_], h => by simp [twiceP] at h
  | x :: y :: r, h => fun ha => by
    unfold Apart at ha
    rw [List.pairwise_cons] at ha
    simp only [twiceP, Bool.or_eq_true, decide_eq_true_eq] at h
    rcases h with h | h
    · exact ha.1 y (by simp) h
    · exact twice_apart (L := y :: r) h ha.2
theorem ins_rising {L : List (V × V)} (h : Rising L) (j : Nat) (x : V × V) (hlo : ∀ i (hi : i < L.length), i < j → V.cmp L[i].1 x.1 < 0) (hhi : ∀ (hj : j < L.length), 0 < V.cmp L[j].1 x.1) : Rising (L.take j ++ x :: L.drop j) := by
  have hlo' : ∀ a ∈ L.take j, V.cmp a.1 x.1 < 0 := fun a ha => by
    obtain ⟨i, hi, rfl⟩ := List.getElem_of_mem ha
    rw [List.getElem_take]
    have hi' : i < j ∧ i < L.length := by simp at hi; omega
    exact hlo i hi'.2 hi'.1
  have hhi' : ∀ b ∈ L.drop j, V.cmp x.1 b.1 < 0 := fun b hb => by
    obtain ⟨i, hi, rfl⟩ := List.getElem_of_mem hb
    rw [List.getElem_drop]
    have hi' : j + i < L.length := by simp at hi; omega
    have hj : j < L.length := by omega
    have h0 := hhi hj
    have h1 := anti_cmp L[j].1 x.1
    by_cases e : i = 0
    · subst e; simp only [Nat.add_zero]; omega
    · have h2 := (List.pairwise_iff_getElem.1 h) j (j + i) hj hi' (by omega)
      obtain ⟨h5, h6⟩ := tri_cmp x.1 L[j].1 L[j + i].1 (by omega) (by omega)
      by_cases h7 : V.cmp x.1 L[j + i].1 = 0
      · have := h6 h7; omega
      · omega
  unfold Rising
  rw [List.pairwise_append]
  refine ⟨List.Pairwise.sublist (List.take_sublist _ _) h, ?_, fun a ha b hb => ?_⟩
  · rw [List.pairwise_cons]
    exact ⟨hhi', List.Pairwise.sublist (List.drop_sublist _ _) h⟩
  · rcases List.mem_cons.1 hb with rfl | hb
    · exact hlo' a ha
    · have h1 := hlo' a ha
      have h2 := hhi' b hb
      obtain ⟨h5, h6⟩ := tri_cmp a.1 x.1 b.1 (by omega) (by omega)
      by_cases h7 : V.cmp a.1 b.1 = 0
      · have := h6 h7; omega
      · omega
theorem ins_perm {L L' : List (V × V)} (j : Nat) (x : V × V) (h : L.Perm L') : (L.take j ++ x :: L.drop j).Perm (L' ++ [x]) := by
  refine (List.perm_middle).trans ?_
  rw [List.take_append_drop]
  exact (h.cons x).trans (List.perm_append_comm (l₁ := [x]) (l₂ := L'))
theorem flatP_app (a b : List (V × V)) : flatP (a ++ b) = flatP a ++ flatP b := by unfold flatP; rw [List.flatMap_append]
theorem flatP_tk (L : List (V × V)) (j : Nat) : (flatP L).take (2 * j) = flatP (L.take j) := by
  induction j generalizing L with
  | zero => simp [flatP]
  | succ j ih =>
    cases L with
    | nil => simp [flatP]
    | cons a L =>
      rw [show 2 * (j + 1) = 2 * j + 1 + 1 by omega]
      show (a.1 :: a.2 :: flatP L).take (2 * j + 1 + 1) = a.1 :: a.2 :: flatP (L.take j)
      rw [List.take_succ_cons, List.take_succ_cons, ih]
theorem flatP_drop (L : List (V × V)) (j : Nat) : (flatP L).drop (2 * j) = flatP (L.drop j) := by
  induction j generalizing L with
  | zero => simp
  | succ j ih =>
    cases L with
    | nil => simp [flatP]
    | cons a L =>
      rw [show 2 * (j + 1) = 2 * j + 1 + 1 by omega]
      show (a.1 :: a.2 :: flatP L).drop (2 * j + 1 + 1) = flatP (L.drop j)
      rw [List.drop_succ_cons, List.drop_succ_cons, ih]
theorem flatP_get (L : List (V × V)) (j : Nat) (hj : j < L.length) : (flatP L)[2 * j]? = some L[j].1 := by
  induction j generalizing L with
  | zero =>
    cases L with
    | nil => simp at hj
    | cons a L => rfl
  | succ j ih =>
    cases L with
    | nil => simp at hj
    | cons a L =>
      rw [show 2 * (j + 1) = 2 * j + 1 + 1 by omega]
      show (a.1 :: a.2 :: flatP L)[2 * j + 1 + 1]? = _
      rw [List.getElem?_cons_succ, List.getElem?_cons_succ, ih L (by simpa using hj)]
      rfl

/-! ### Rows of values -/

/-- The four cells of a value. -/
def enc4 (x : V × Value) : List Value := [.int .i64 x.1.k, .int .i64 x.1.n, .string x.1.s, x.2]
theorem flat_at4 {α : Type} (f : α → List Value) (h : ∀ x, (f x).length = 4) : ∀ (L : List α) (t : Nat), (L.flatMap f)[t]? = (L[t / 4]?).bind fun x => (f x)[t % 4]?
  | [], t => by simp
  | a :: L, t => by
    rw [List.flatMap_cons]
    by_cases ht : t < 4
    · rw [List.getElem?_append_left (by rw [h]; exact ht), Nat.div_eq_of_lt ht, Nat.mod_eq_of_lt ht]; rfl
    · obtain ⟨u, rfl⟩ : ∃ u, t = u + 4 := ⟨t - 4, by omega⟩
      rw [List.getElem?_append_right (by rw [h]; omega), h, show u + 4 - 4 = u by omega, flat_at4 f h L u, show (u + 4) / 4 = u / 4 + 1 by omega, show (u + 4) % 4 = u % 4 by omega, List.getElem?_cons_succ]
def encL (X : List (V × Value)) : List Value := X.flatMap enc4
theorem encL_len (X : List (V × Value)) : (encL X).length = X.length * 4 := by
  unfold encL
  induction X with
  | nil => rfl
  | cons a X ih => rw [List.flatMap_cons, List.length_append, ih]; simp [enc4]; omega
theorem encL_app (X Y : List (V × Value)) : encL (X ++ Y) = encL X ++ encL Y := by unfold encL; rw [List.flatMap_append]
theorem encL_at (X : List (V × Value)) (i r : Nat) (hi : i < X.length) (hr : r < 4) : (encL X)[i * 4 + r]? = (enc4 X[i])[r]? := by
  unfold encL
  rw [flat_at4 enc4 (fun _ => rfl), show (i * 4 + r) / 4 = i by omega, show (i * 4 + r) % 4 = r by omega, List.getElem?_eq_getElem hi]; rfl
theorem encL_take (X : List (V × Value)) (k : Nat) : (encL X).take (k * 4) = encL (X.take k) := by
  unfold encL
  induction k generalizing X with
  | zero => simp
  | succ k ih =>
    cases X with
    | nil => simp
    | cons a X =>
      rw [List.flatMap_cons, List.take_succ_cons, List.flatMap_cons, List.take_append]
      have : (enc4 a).length = 4 := rfl
      rw [List.take_of_length_le (by rw [this]; omega), this, show (k + 1) * 4 - 4 = k * 4 by omega, ih]
theorem encL_drop (X : List (V × Value)) (k : Nat) : (encL X).drop (k * 4) = encL (X.drop k) := by
  unfold encL
  induction k generalizing X with
  | zero => simp
  | succ k ih =>
    cases X with
    | nil => simp
    | cons a X =>
      rw [List.flatMap_cons, List.drop_succ_cons, List.drop_append]
      have : (enc4 a).length = 4 := rfl
      rw [List.drop_of_length_le (by rw [this]; omega), this, show (k + 1) * 4 - 4 = k * 4 by omega, ih, List.nil_append]
def AllIn (w : World) (lo : Nat) (X : List (V × Value)) : Prop := ∀ x ∈ X, x.1.In w lo x.2
theorem AllIn.on {w w' : World} {lo : Nat} {X : List (V × Value)} (h : AllIn w lo X) (hb : Below w.heap.size w w') : AllIn w' lo X := fun x hx => (h x hx).on hb
theorem AllIn.one {w : World} {lo : Nat} {X : List (V × Value)} (h : AllIn w lo X) : ∀ u ∈ encL X, u.oneCell' = true := fun u hu => by
  obtain ⟨x, hx, hu⟩ := List.mem_flatMap.1 hu
  obtain ⟨p1, n1, q1, e1⟩ := (h x hx).header
  simp only [enc4, e1, List.mem_cons, List.not_mem_nil, or_false] at hu
  rcases hu with rfl | rfl | rfl | rfl <;> rfl
/-- The row from (b, o) on holds these. -/
def At (w : World) (b o : Nat) (X : List (V × Value)) : Prop := ∀ j u, (encL X)[j]? = some u → w.cell? ⟨b, o + j, none⟩ = some u
theorem At.on {w w' : World} {b o : Nat} {X : List (V × Value)} (h : At w b o X) (hb : Below w.heap.size w w') : At w' b o X := fun j u hj => some_on hb (h j u hj)
theorem At.drop {w : World} {b o : Nat} {X : List (V × Value)} (h : At w b o X) (k : Nat) : At w b (o + k * 4) (X.drop k) := fun j u hj => by
  rw [← encL_drop, List.getElem?_drop] at hj
  rw [Nat.add_assoc]
  exact h _ u hj
theorem At.take {w : World} {b o : Nat} {X : List (V × Value)} (h : At w b o X) (k : Nat) : At w b o (X.take k) := fun j u hj => by
  rw [← encL_take, List.getElem?_take] at hj
  split at hj
  · exact h j u hj
  · cases hj
theorem At.four {w : World} {b o : Nat} {X : List (V × Value)} (h : At w b o X) (i : Nat) (hi : i < X.length) :
    w.cell? ⟨b, o + i * 4, none⟩ = some (.int .i64 X[i].1.k) ∧ w.cell? ⟨b, o + i * 4 + 1, none⟩ = some (.int .i64 X[i].1.n) ∧ w.cell? ⟨b, o + i * 4 + 2, none⟩ = some (.string X[i].1.s) ∧ w.cell? ⟨b, o + i * 4 + 3, none⟩ = some X[i].2 := by
  refine ⟨h (i * 4) _ ?_, ?_, ?_, ?_⟩
  · exact encL_at X i 0 hi (by omega)
  · rw [Nat.add_assoc]; exact h (i * 4 + 1) _ (encL_at X i 1 hi (by omega))
  · rw [Nat.add_assoc]; exact h (i * 4 + 2) _ (encL_at X i 2 hi (by omega))
  · rw [Nat.add_assoc]; exact h (i * 4 + 3) _ (encL_at X i 3 hi (by omega))
theorem At.news {w : World} {b o : Nat} {X : List (V × Value)} (h : At w b o X) : ∀ j u, (encL X)[j]? = some u → w.cell? ((⟨b, o, none⟩ : Addr).add j) = some u := fun j u hj => by
  have hadd : (⟨b, o, none⟩ : Addr).add j = ⟨b, o + j, none⟩ := by unfold Addr.add; split <;> simp_all
  rw [hadd]; exact h j u hj
theorem ls_entries {w : World} {lo b : Nat} : ∀ (l : List V) (o : Nat) (_ : Ls w lo l b o), ∃ X : List (V × Value), X.map Prod.fst = l ∧ AllIn w lo X ∧ At w b o X
  | [], o, _ => ⟨[], rfl, fun x hx => by simp at hx, fun j u hj => by simp [encL] at hj⟩
  | v :: l, o, h => by
    simp only [Ls] at h
    obtain ⟨sl, c0, c1, c2, c3, hv, hr⟩ := h
    obtain ⟨X, h1, h2, h3⟩ := ls_entries l (o + 4) hr
    refine ⟨(v, sl) :: X, by simp [h1], fun x hx => ?_, fun j u hj => ?_⟩
    · rcases List.mem_cons.1 hx with rfl | hx
      · exact hv
      · exact h2 x hx
    · unfold encL at hj
      rw [List.flatMap_cons] at hj
      by_cases h4 : j < 4
      · rw [List.getElem?_append_left (by show j < 4; exact h4)] at hj
        have : j = 0 ∨ j = 1 ∨ j = 2 ∨ j = 3 := by omega
        rcases this with rfl | rfl | rfl | rfl <;> simp only [enc4, List.getElem?_cons_zero, List.getElem?_cons_succ, Option.some.injEq] at hj <;> subst hj
        · exact c0
        · exact c1
        · exact c2
        · exact c3
      · rw [List.getElem?_append_right (by show 4 ≤ j; omega)] at hj
        have := h3 (j - 4) u hj
        rw [show o + 4 + (j - 4) = o + j by omega] at this
        exact this
theorem entries_ls {w : World} {lo b : Nat} : ∀ (X : List (V × Value)) (o : Nat) (_ : AllIn w lo X) (_ : At w b o X), Ls w lo (X.map Prod.fst) b o
  | [], o, _, _ => by simp [Ls]
  | x :: X, o, hi, h => by
    obtain ⟨c0, c1, c2, c3⟩ := h.four 0 (by simp)
    simp only [List.getElem_cons_zero, Nat.zero_mul, Nat.add_zero] at c0 c1 c2 c3
    simp only [List.map_cons, Ls]
    refine ⟨x.2, c0, c1, c2, c3, hi x (by simp), entries_ls X (o + 4) (fun y hy => hi y (by simp [hy])) ?_⟩
    have := h.drop 1
    simp only [Nat.one_mul, List.drop_succ_cons, List.drop_zero] at this
    exact this
theorem row_at {w : World} {base g n cap : Nat} {X : List (V × Value)} (h : w.ownsRow base 24 4 (.slice (some ⟨g, 0, none⟩) n cap) n (encL X)) (hn : X.length = n) : At w g 0 X := fun j u hj => by
  have hlt : j < n * 4 := by
    have := (List.getElem?_eq_some_iff.1 hj).1
    rw [encL_len, hn] at this; exact this
  rw [Nat.zero_add, h.cellAt j hlt]; exact hj
theorem row_sl {w : World} {base n : Nat} {v : Value} {X : List (V × Value)} (h : w.ownsRow base 24 4 v n (encL X)) (hn : X.length = n) (hi : AllIn w 0 X) (h56 : n * 56 ≤ 140737488351232) : Sl w 0 (X.map Prod.fst) v := by
  have hl : (X.map Prod.fst).length = n := by simp [hn]
  have h0 := h
  obtain ⟨-, ⟨rfl, h1⟩ | ⟨g, cap, cur, rfl, a1, a2, a3, a4, a5, a6⟩⟩ := h
  · refine ⟨none, 0, by rw [hl, h1], by rw [hl, h1]; exact Nat.le_refl _, Nat.zero_le _, by rw [hl]; exact h56, .inl (List.eq_nil_of_length_eq_zero (by rw [hl, h1]))⟩
  · exact ⟨some ⟨g, 0, none⟩, cap, by rw [hl], by rw [hl]; exact a3, a4, by rw [hl]; exact h56, .inr ⟨g, 0, rfl, Nat.zero_le _, entries_ls X 0 hi (row_at h0 hn)⟩⟩
end Go.Proofs.YtbicodlclmdgaaaGreatDoor
