/-
  A node in two, as mathematics, and its halves in memory. No walk.
-/
import Derived.Test.YtbkpgppaahpalaaPli
import Derived.Test.YtbkpgppaahpalaaIns
namespace Go.Proofs.Ytbkpgppaahpalaa
open Go.RowKit
set_option linter.unusedVariables false      -- a walk need not use every condition

/-- The place of a leaf's halves, of an inner node's. -/
def atL (L : List C) : Nat := (best (lF L) (lS L) 1 (L.length - 1)).1
def atI (Ks : List (List UInt8)) (Is : List Int) : Nat := (best (iF Ks Is) (iS Ks Is) 0 Ks.length).1
/-- What Split answers. -/
def spl (n : Nd) : Nd × List UInt8 × Nd :=
  if n.leaf = true ∧ 1 < n.cells.length then (⟨true, n.cells.take (atL n.cells), [], []⟩, ((n.cells[atL n.cells]?).map C.key).getD [], ⟨true, n.cells.drop (atL n.cells), [], []⟩)
  else if n.leaf = false ∧ 0 < n.keys.length ∧ n.keys.length < n.kids.length then
    (⟨false, [], n.keys.take (atI n.keys n.kids), n.kids.take (atI n.keys n.kids + 1)⟩, (n.keys[atI n.keys n.kids]?).getD [], ⟨false, [], n.keys.drop (atI n.keys n.kids + 1), n.kids.drop (atI n.keys n.kids + 1)⟩)
  else (n, [], ⟨false, [], [], []⟩)
/-- The best place is one of the places, and no place is better. -/
theorem best_is (F S : Nat → Nat) (a : Nat) : ∀ k, (∀ j, j < k → max (F (a + j)) (S (a + j)) < 9223372036854775807) → 0 < k →
    a ≤ (best F S a k).1 ∧ (best F S a k).1 < a + k ∧ (best F S a k).2 = max (F (best F S a k).1) (S (best F S a k).1) ∧ (∀ j, j < k → (best F S a k).2 ≤ max (F (a + j)) (S (a + j))) ∧ (∀ j, a + j < (best F S a k).1 → (best F S a k).2 < max (F (a + j)) (S (a + j)))
  | 0, _, h => absurd h (Nat.lt_irrefl _)
  | k + 1, hb, _ => by
    have hlt : ∀ m, max (F (a + k)) (S (a + k)) < m → (best F S a k).2 = m → best F S a (k + 1) = (a + k, max (F (a + k)) (S (a + k))) := fun m h e => by
      rw [best, orC, e]
      exact if_pos h
    by_cases hk : k = 0
    · subst hk
      have h0 := hb 0 (by omega)
      rw [hlt _ h0 rfl]
      refine ⟨Nat.le_refl _, by simp only; omega, rfl, fun j hj => ?_, fun j hj => ?_⟩
      · obtain rfl : j = 0 := by omega
        exact Nat.le_refl _
      · simp only at hj; omega
    · obtain ⟨i1, i2, i3, i4, i5⟩ := best_is F S a k (fun j hj => hb j (by omega)) (by omega)
      by_cases hc : max (F (a + k)) (S (a + k)) < (best F S a k).2
      · rw [hlt _ hc rfl]
        refine ⟨by simp only; omega, by simp only; omega, rfl, fun j hj => ?_, fun j hj => ?_⟩
        · simp only
          by_cases e : j = k
          · subst e; exact Nat.le_refl _
          · have := i4 j (by omega)
            omega
        · simp only at hj ⊢
          have := i4 j (by omega)
          omega
      · have e : best F S a (k + 1) = best F S a k := by
          rw [best, orC]
          exact if_neg hc
        rw [e]
        refine ⟨i1, by omega, i3, fun j hj => ?_, i5⟩
        by_cases e : j = k
        · subst e; omega
        · exact i4 j (by omega)
theorem lF_le (L : List C) (T : Nat) (hT : (L.flatMap cellF).length ≤ T) (k : Nat) : lF L k ≤ T + 11 ∧ lS L k ≤ T + 11 := by
  have := flat_both cellF L k
  have := vnt_le k
  have := vnt_le (L.length - k)
  unfold lF lS
  omega
theorem iF_le (Ks : List (List UInt8)) (Is : List Int) (T : Nat) (hT : (Ks.flatMap keyF).length + (Is.flatMap nI).length ≤ T) (k : Nat) : iF Ks Is k ≤ T + 11 ∧ iS Ks Is k ≤ T + 11 := by
  have := flat_both keyF Ks k
  have := flat_both keyF Ks (k + 1)
  have := flat_both nI Is (k + 1)
  have := vnt_le k
  have := vnt_le (Ks.length - k - 1)
  unfold iF iS
  omega
theorem form_leaf {n : Nd} (h : n.leaf = true) : (form n).length = (vnt n.cells.length).length + (n.cells.flatMap cellF).length + 1 := by
  unfold form; rw [if_pos h, List.length_cons, List.length_append]
theorem form_inner {n : Nd} (h : n.leaf = false) : (form n).length = (vnt n.keys.length).length + ((n.keys.flatMap keyF).length + (n.kids.flatMap nI).length) + 1 := by
  unfold form; rw [if_neg (by rw [h]; decide), List.length_cons, List.length_append, List.length_append]
theorem atL_is {n : Nd} (hL : n.leaf = true) (h2 : 1 < n.cells.length) (ht : (form n).length ≤ 4611686018427387904) :
    1 ≤ atL n.cells ∧ atL n.cells < n.cells.length ∧ (∀ j, 1 ≤ j → j < n.cells.length → max (lF n.cells (atL n.cells)) (lS n.cells (atL n.cells)) ≤ max (lF n.cells j) (lS n.cells j)) ∧ (∀ j, 1 ≤ j → j < atL n.cells → max (lF n.cells (atL n.cells)) (lS n.cells (atL n.cells)) < max (lF n.cells j) (lS n.cells j)) := by
  have hf := form_leaf hL
  obtain ⟨i1, i2, i3, i4, i5⟩ := best_is (lF n.cells) (lS n.cells) 1 (n.cells.length - 1) (fun j hj => by have := lF_le n.cells _ (Nat.le_refl _) (1 + j); omega) (by omega)
  unfold atL
  rw [i3] at i4 i5
  refine ⟨i1, by omega, fun j h1 hj => ?_, fun j h1 hj => ?_⟩
  · have := i4 (j - 1) (by omega)
    rwa [show 1 + (j - 1) = j by omega] at this
  · have := i5 (j - 1) (by omega)
    rwa [show 1 + (j - 1) = j by omega] at this
theorem atI_is {n : Nd} (hL : n.leaf = false) (h2 : 0 < n.keys.length) (ht : (form n).length ≤ 4611686018427387904) :
    atI n.keys n.kids < n.keys.length ∧ (∀ j, j < n.keys.length → max (iF n.keys n.kids (atI n.keys n.kids)) (iS n.keys n.kids (atI n.keys n.kids)) ≤ max (iF n.keys n.kids j) (iS n.keys n.kids j)) ∧ (∀ j, j < atI n.keys n.kids → max (iF n.keys n.kids (atI n.keys n.kids)) (iS n.keys n.kids (atI n.keys n.kids)) < max (iF n.keys n.kids j) (iS n.keys n.kids j)) := by
  have hf := form_inner hL
  obtain ⟨i1, i2, i3, i4, i5⟩ := best_is (iF n.keys n.kids) (iS n.keys n.kids) 0 n.keys.length (fun j hj => by have := iF_le n.keys n.kids _ (Nat.le_refl _) (0 + j); omega) h2
  unfold atI
  rw [i3] at i4 i5
  refine ⟨by omega, fun j hj => ?_, fun j hj => ?_⟩
  · have := i4 j hj
    rwa [Nat.zero_add] at this
  · have := i5 j (by omega)
    rwa [Nat.zero_add] at this
/-- Parts of a row, of s cells each, wherever they lie. -/
theorem fl_first {w : World} {g o cap s N k : Nat} {vs : List Value} (h : Fl w (.slice (some ⟨g, o, none⟩) N cap) s N vs) (hk : k ≤ N) : Fl w (.slice (some ⟨g, o, none⟩) k cap) s k (vs.take (k * s)) := by
  obtain ⟨p', c', e, h1, h2, h3, h4, h5⟩ := h
  injection e with e1 e2 e3
  subst e1 e3
  have hks : k * s ≤ N * s := Nat.mul_le_mul_right _ hk
  refine ⟨_, _, rfl, by omega, h2, fun e => (by cases e), by rw [List.length_take, h4]; omega, ?_⟩
  by_cases h0 : k = 0
  · exact .inl h0
  · obtain ⟨g', o', e, hr⟩ := h5.resolve_left (by omega)
    refine .inr ⟨g', o', e, fun j v hv => hr j v ?_⟩
    rw [List.getElem?_take] at hv
    split at hv
    · exact hv
    · cases hv
theorem fl_last {w : World} {g o cap s N k : Nat} {vs : List Value} (h : Fl w (.slice (some ⟨g, o, none⟩) N cap) s N vs) (hk : k ≤ N) : Fl w (.slice (some ⟨g, o + k * s, none⟩) (N - k) (cap - k)) s (N - k) (vs.drop (k * s)) := by
  obtain ⟨p', c', e, h1, h2, h3, h4, h5⟩ := h
  injection e with e1 e2 e3
  subst e1 e3
  refine ⟨_, _, rfl, by omega, by omega, fun e => (by cases e), by rw [List.length_drop, h4, Nat.sub_mul], ?_⟩
  by_cases h0 : N - k = 0
  · exact .inl h0
  · obtain ⟨g', o', e, hr⟩ := h5.resolve_left (by omega)
    injection e with e
    injection e with e1 e2
    subst e1 e2
    refine .inr ⟨_, _, rfl, fun j v hv => ?_⟩
    rw [List.getElem?_drop] at hv
    have := hr _ v hv
    rwa [← Nat.add_assoc] at this
theorem Cs.first {w : World} {g o cap k : Nat} {L : List C} (h : Cs w (.slice (some ⟨g, o, none⟩) L.length cap) L) (hk : k ≤ L.length) : Cs w (.slice (some ⟨g, o, none⟩) k cap) (L.take k) := by
  obtain ⟨vs, hf, he⟩ := h
  refine ⟨vs.take (k * 4), ?_, he.take k⟩
  rw [List.length_take, Nat.min_eq_left hk]
  exact fl_first hf hk
theorem Cs.last {w : World} {g o cap k : Nat} {L : List C} (h : Cs w (.slice (some ⟨g, o, none⟩) L.length cap) L) (hk : k ≤ L.length) : Cs w (.slice (some ⟨g, o + k * 4, none⟩) (L.length - k) (cap - k)) (L.drop k) := by
  obtain ⟨vs, hf, he⟩ := h
  refine ⟨vs.drop (k * 4), ?_, he.drop k⟩
  rw [List.length_drop]
  exact fl_last hf hk
theorem Ks.first {w : World} {g o cap k : Nat} {L : List (List UInt8)} (h : Ks w (.slice (some ⟨g, o, none⟩) L.length cap) L) (hk : k ≤ L.length) : Ks w (.slice (some ⟨g, o, none⟩) k cap) (L.take k) := by
  obtain ⟨vs, hf, he⟩ := h
  refine ⟨vs.take (k * 1), ?_, he.take k⟩
  rw [List.length_take, Nat.min_eq_left hk]
  exact fl_first hf hk
theorem Ks.last {w : World} {g o cap k : Nat} {L : List (List UInt8)} (h : Ks w (.slice (some ⟨g, o, none⟩) L.length cap) L) (hk : k ≤ L.length) : Ks w (.slice (some ⟨g, o + k, none⟩) (L.length - k) (cap - k)) (L.drop k) := by
  obtain ⟨vs, hf, he⟩ := h
  refine ⟨vs.drop (k * 1), ?_, he.drop k⟩
  rw [List.length_drop]
  have := fl_last hf hk
  rwa [Nat.mul_one] at this ⊢
theorem Is.first {w : World} {g o cap k : Nat} {L : List Int} (h : Is w (.slice (some ⟨g, o, none⟩) L.length cap) L) (hk : k ≤ L.length) : Is w (.slice (some ⟨g, o, none⟩) k cap) (L.take k) := by
  obtain ⟨vs, hf, he⟩ := h
  refine ⟨vs.take (k * 1), ?_, he.take k⟩
  rw [List.length_take, Nat.min_eq_left hk]
  exact fl_first hf hk
theorem Is.last {w : World} {g o cap k : Nat} {L : List Int} (h : Is w (.slice (some ⟨g, o, none⟩) L.length cap) L) (hk : k ≤ L.length) : Is w (.slice (some ⟨g, o + k, none⟩) (L.length - k) (cap - k)) (L.drop k) := by
  obtain ⟨vs, hf, he⟩ := h
  refine ⟨vs.drop (k * 1), ?_, he.drop k⟩
  rw [List.length_drop]
  have := fl_last hf hk
  rwa [Nat.mul_one] at this ⊢
theorem fit_leaf {n : Nd} (hf : Fit n) (k : Nat) : Fit ⟨true, n.cells.take k, [], []⟩ ∧ Fit ⟨true, n.cells.drop k, [], []⟩ := by
  obtain ⟨f1, f2, f3, f4, f5⟩ := hf
  refine ⟨⟨?_, by simp, by simp, fun c hc => f4 c (List.mem_of_mem_take hc), fun k hk => by cases hk⟩, ⟨?_, by simp, by simp, fun c hc => f4 c (List.mem_of_mem_drop hc), fun k hk => by cases hk⟩⟩
  · show (n.cells.take k).length * 64 ≤ _
    rw [List.length_take]
    omega
  · show (n.cells.drop k).length * 64 ≤ _
    rw [List.length_drop]
    omega
theorem fit_inner {n : Nd} (hf : Fit n) (k : Nat) : Fit ⟨false, [], n.keys.take k, n.kids.take (k + 1)⟩ ∧ Fit ⟨false, [], n.keys.drop (k + 1), n.kids.drop (k + 1)⟩ := by
  obtain ⟨f1, f2, f3, f4, f5⟩ := hf
  refine ⟨⟨by simp, ?_, ?_, fun k hk => (by cases hk), fun c hc => f5 c (List.mem_of_mem_take hc)⟩, ⟨by simp, ?_, ?_, fun k hk => (by cases hk), fun c hc => f5 c (List.mem_of_mem_drop hc)⟩⟩
  · show (n.keys.take k).length * 24 ≤ _
    rw [List.length_take]; omega
  · show (n.kids.take (k + 1)).length * 8 ≤ _
    rw [List.length_take]; omega
  · show (n.keys.drop (k + 1)).length * 24 ≤ _
    rw [List.length_drop]; omega
  · show (n.kids.drop (k + 1)).length * 8 ≤ _
    rw [List.length_drop]; omega
/-- Copied bytes. -/
theorem copyB54 (w : World) (v : Value) (t : List UInt8) (h : Bs w v t) (hl : t.length ≤ 140737488355328) :
    Calls Try.prog 54 #[v] w fun e w' => ∃ v', e = .returned v' ∧ Bts w' w.heap.size v' t ∧ Below w.heap.size w w' := by
  obtain ⟨p, cap, rfl, h1, h2, h3, h4⟩ := h
  have hf : Fl w (.slice p t.length cap) 1 t.length (enc t) := ⟨p, cap, rfl, h1, h2, h3, by rw [len_enc, Nat.mul_one], by
    rcases h4 with rfl | ⟨g, o, e, hr⟩
    · exact .inl rfl
    · exact .inr ⟨g, o, e, hr⟩⟩
  exact copied54 w _ t.length (enc t) hf (one_enc t) (by omega)
theorem results_split {fn : Func} {p u q : Tmp} (h : fn.results = #[.cell p 26, .tmp u, .cell q 26]) (tmps : Array Value) (w : World) (g g' : Nat) (a b c d a' b' c' d' : Value) (t t' : TypeId) (hp : tmps.getD p undef = .pointer (some ⟨g, 0, none⟩)) (hr : w.heap[g]? = some (.cells #[a, b, c, d] t)) (hq : tmps.getD q undef = .pointer (some ⟨g', 0, none⟩)) (hr' : w.heap[g']? = some (.cells #[a', b', c', d'] t')) :
    (results fn tmps).run Try.prog w = .ok (.tuple #[.agg #[a, b, c, d], tmps.getD u undef, .agg #[a', b', c', d']]) w := by
  have hv := run_loadVar_mid (P := Try.prog) w g 0 26 [a, b, c, d] _ (by
    have := World.rangeAt_of_block hr 0 4
    simpa using this) Try.underlying26 rfl (by kernel_rfl)
  have hv' := run_loadVar_mid (P := Try.prog) w g' 0 26 [a', b', c', d'] _ (by
    have := World.rangeAt_of_block hr' 0 4
    simpa using this) Try.underlying26 rfl (by kernel_rfl)
  have hp' : tmps[p]?.getD undef = .pointer (some ⟨g, 0, none⟩) := by simpa using hp
  have hq' : tmps[q]?.getD undef = .pointer (some ⟨g', 0, none⟩) := by simpa using hq
  simp only [results, h]
  simp [hp', hq', asAddr, hv, hv']
/-- Two answers are laid into their places. -/
theorem spl_end {w w2 u : World} {A B : Nd} {K : List UInt8} {g g' : Nat} {l x y z l' x' y' z' vk : Value} (h2 : Below w.heap.size w w2) (hu : Below w2.heap.size w2 u) (hg : w2.heap[g]? = some (.cells #[.bool false, .slice none 0 0, .slice none 0 0, .slice none 0 0] 26)) (hg' : w2.heap[g']? = some (.cells #[.bool false, .slice none 0 0, .slice none 0 0, .slice none 0 0] 26)) (hl : w.heap.size ≤ g) (hl' : w.heap.size ≤ g') (hne : g ≠ g')
    (hA : NdO w.heap.size u (.agg #[l, x, y, z]) A) (hB : NdO w.heap.size u (.agg #[l', x', y', z']) B) (hK : Bts u w.heap.size vk K) :
    ((((((((u.setCell ⟨g, 0, none⟩ l).setCell ⟨g, 1, none⟩ x).setCell ⟨g, 2, none⟩ y).setCell ⟨g, 3, none⟩ z).setCell ⟨g', 0, none⟩ l').setCell ⟨g', 1, none⟩ x').setCell ⟨g', 2, none⟩ y').setCell ⟨g', 3, none⟩ z').heap[g]? = some (.cells #[l, x, y, z] 26) ∧ ((((((((u.setCell ⟨g, 0, none⟩ l).setCell ⟨g, 1, none⟩ x).setCell ⟨g, 2, none⟩ y).setCell ⟨g, 3, none⟩ z).setCell ⟨g', 0, none⟩ l').setCell ⟨g', 1, none⟩ x').setCell ⟨g', 2, none⟩ y').setCell ⟨g', 3, none⟩ z').heap[g']? = some (.cells #[l', x', y', z'] 26) ∧ NdO w.heap.size ((((((((u.setCell ⟨g, 0, none⟩ l).setCell ⟨g, 1, none⟩ x).setCell ⟨g, 2, none⟩ y).setCell ⟨g, 3, none⟩ z).setCell ⟨g', 0, none⟩ l').setCell ⟨g', 1, none⟩ x').setCell ⟨g', 2, none⟩ y').setCell ⟨g', 3, none⟩ z') (.agg #[l, x, y, z]) A ∧ Bts ((((((((u.setCell ⟨g, 0, none⟩ l).setCell ⟨g, 1, none⟩ x).setCell ⟨g, 2, none⟩ y).setCell ⟨g, 3, none⟩ z).setCell ⟨g', 0, none⟩ l').setCell ⟨g', 1, none⟩ x').setCell ⟨g', 2, none⟩ y').setCell ⟨g', 3, none⟩ z') w.heap.size vk K ∧ NdO w.heap.size ((((((((u.setCell ⟨g, 0, none⟩ l).setCell ⟨g, 1, none⟩ x).setCell ⟨g, 2, none⟩ y).setCell ⟨g, 3, none⟩ z).setCell ⟨g', 0, none⟩ l').setCell ⟨g', 1, none⟩ x').setCell ⟨g', 2, none⟩ y').setCell ⟨g', 3, none⟩ z') (.agg #[l', x', y', z']) B ∧ Below w.heap.size w ((((((((u.setCell ⟨g, 0, none⟩ l).setCell ⟨g, 1, none⟩ x).setCell ⟨g, 2, none⟩ y).setCell ⟨g, 3, none⟩ z).setCell ⟨g', 0, none⟩ l').setCell ⟨g', 1, none⟩ x').setCell ⟨g', 2, none⟩ y').setCell ⟨g', 3, none⟩ z') := by
  have g1 := gr_four u g l x y z
  have g2 := gr_four ((((u.setCell ⟨g, 0, none⟩ l).setCell ⟨g, 1, none⟩ x).setCell ⟨g, 2, none⟩ y).setCell ⟨g, 3, none⟩ z) g' l' x' y' z'
  have b1 := blk_on hu hg
  have b2 := blk_gr (blk_on hu hg') g1 (Ne.symm hne)
  refine ⟨blk_gr (blk_four b1 _ _ _ _) g2 hne, blk_four b2 _ _ _ _, (hA.gr g1 b1 (by decide) (by decide) (by decide) (by decide)).gr g2 b2 (by decide) (by decide) (by decide) (by decide), own_other (own_other hK g1 b1 (by decide)) g2 b2 (by decide), (hB.gr g1 b1 (by decide) (by decide) (by decide) (by decide)).gr g2 b2 (by decide) (by decide) (by decide) (by decide), bel_put (bel_put (bel_then h2 hu) g1 hl) g2 hl'⟩
end Go.Proofs.Ytbkpgppaahpalaa
