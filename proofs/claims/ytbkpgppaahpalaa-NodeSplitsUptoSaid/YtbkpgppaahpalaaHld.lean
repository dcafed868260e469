/-
  The document's halves, of any node that has that place; the document's choice is the program's.
-/
import Derived.Test.YtbkpgppaahpalaaHlb
import Derived.Test.YtbkpgppaahpalaaHlc
namespace Go.Proofs.Ytbkpgppaahpalaa
open Go.RowKit
set_option linter.unusedVariables false      -- a walk need not use every condition

/-- A node in two at a place. -/
def hlv (n : Nd) (k : Nat) : Nd × List UInt8 × Nd :=
  if n.leaf = true then (⟨true, n.cells.take k, [], []⟩, ((n.cells[k]?).map C.key).getD [], ⟨true, n.cells.drop k, [], []⟩)
  else (⟨false, [], n.keys.take k, n.kids.take (k + 1)⟩, (n.keys[k]?).getD [], ⟨false, [], n.keys.drop (k + 1), n.kids.drop (k + 1)⟩)
/-- Has it that place? -/
def HasAt (n : Nd) (k : Nat) : Prop := (n.leaf = true ∧ k < n.cells.length) ∨ (n.leaf = false ∧ k < n.keys.length ∧ n.keys.length < n.kids.length)
/-- Where a half's key lies: of one's own, or a cell of the keys. -/
def KeyAt (w w' : World) (v vk : Value) (n : Nd) (k : Nat) : Prop := Bts w' w.heap.size vk (hlv n k).2.1 ∨ (n.leaf = false ∧ ∃ l vc g o cap vi, v = .agg #[l, vc, .slice (some ⟨g, o, none⟩) n.keys.length cap, vi] ∧ w.cell? ⟨g, o + k, none⟩ = some vk)
theorem halves55 (w : World) (v : Value) (n : Nd) (k : Nat) (h : NdS w v n) (hf : Fit n) (hk : HasAt n k) :
    Calls Try.prog 55 #[v, .int .i64 k] w fun e w' => ∃ va vk vb, e = .returned (.tuple #[va, vk, vb]) ∧ (∀ u, NdS u v n → NdS u va (hlv n k).1 ∧ NdS u vb (hlv n k).2.2) ∧ KeyAt w w' v vk n k ∧ Below w.heap.size w w' := by
  rcases hk with ⟨hL, hk⟩ | ⟨hL, hk, h2⟩
  · have e : hlv n k = (⟨true, n.cells.take k, [], []⟩, (n.cells[k]).key, ⟨true, n.cells.drop k, [], []⟩) := by
      unfold hlv
      rw [if_pos hL, List.getElem?_eq_getElem hk]
      rfl
    unfold KeyAt
    rw [e]
    refine (halves_leaf w v n k h hf hL hk).mono fun e w' ⟨va, vk, vb, h1, h2, h3, h4⟩ => ⟨va, vk, vb, h1, h2, .inl h3, h4⟩
  · have e : hlv n k = (⟨false, [], n.keys.take k, n.kids.take (k + 1)⟩, n.keys[k], ⟨false, [], n.keys.drop (k + 1), n.kids.drop (k + 1)⟩) := by
      unfold hlv
      rw [if_neg (by rw [hL]; decide), List.getElem?_eq_getElem hk]
      rfl
    unfold KeyAt
    rw [e]
    have h' := h
    obtain ⟨vc, vk, vi, rfl, hC, hK, hI⟩ := h'
    obtain ⟨g0, o0, ck, kk, rfl, -⟩ := hK.at hk
    by_cases hc : ck = k + 1
    · exact (halves_innere w g0 o0 ck vc vi n k h hf hL hk h2 hc).mono fun e w' ⟨va, vk, vb, h1, h3, h4, h5⟩ => ⟨va, vk, vb, h1, h3, .inr ⟨hL, _, _, g0, o0, ck, _, rfl, h4⟩, h5⟩
    · exact (halves_inner w g0 o0 ck vc vi n k h hf hL hk h2 hc).mono fun e w' ⟨va, vk, vb, h1, h3, h4, h5⟩ => ⟨va, vk, vb, h1, h3, .inr ⟨hL, _, _, g0, o0, ck, _, rfl, h4⟩, h5⟩
/-- The key of a half of a node of one's own is one's own. -/
theorem KeyAt.own {base : Nat} {w w' : World} {v vk : Value} {n : Nd} {k : Nat} (h : KeyAt w w' v vk n k) (hn : NdO base w v n) (hb : base ≤ w.heap.size) (hk : n.leaf = false → k < n.keys.length) (hB : Below w.heap.size w w') : Bts w' base vk (hlv n k).2.1 := by
  rcases h with h | ⟨hL, l, vc, g, o, cap, vi, rfl, hc⟩
  · exact h.mono hb
  · have hk := hk hL
    have e : (hlv n k).2.1 = n.keys[k] := by
      unfold hlv
      rw [if_neg (by rw [hL]; decide), List.getElem?_eq_getElem hk]
      rfl
    rw [e]
    obtain ⟨vc', vk', vi', e9, -, ⟨vs, ho, he⟩, -⟩ := hn
    injection e9 with e9
    obtain rfl : _ = vk' := congrArg (fun a : Array Value => a.getD 2 undef) e9
    obtain ⟨k9, hx, hb9⟩ := he.2 k hk
    have hR := (fl_own ho)
    obtain ⟨p', c', e1, h1, h2, h3, h4, h5⟩ := hR
    obtain ⟨g', o', e2, hr⟩ := h5.resolve_left (by omega)
    injection e1 with e11 e12 e13
    rw [e2] at e11
    injection e11 with e11
    injection e11 with e14 e15
    subst e14 e15
    have hcell := range_sub hr (k * 1) 1
    rw [hx, Nat.mul_one] at hcell
    have := hcell 0 _ rfl
    rw [Nat.add_zero, hc] at this
    injection this with this
    subst this
    exact hb9.on hB
theorem best_congr {F S F' S' : Nat → Nat} {a : Nat} : ∀ k, (∀ j, j < k → F (a + j) = F' (a + j) ∧ S (a + j) = S' (a + j)) → best F S a k = best F' S' a k
  | 0, _ => rfl
  | k + 1, h => by
    rw [best, best, best_congr k fun j hj => h j (by omega), (h k (by omega)).1, (h k (by omega)).2]
def fF (n : Nd) (k : Nat) : Nat := (form (hlv n k).1).length
def fS (n : Nd) (k : Nat) : Nat := (form (hlv n k).2.2).length
theorem fF_leaf {n : Nd} (hL : n.leaf = true) {k : Nat} (hk : k ≤ n.cells.length) : fF n k = lF n.cells k ∧ fS n k = lS n.cells k := by
  unfold fF fS hlv
  rw [if_pos hL, form_leaf rfl, form_leaf rfl]
  unfold lF lS
  simp only [List.length_take, List.length_drop, Nat.min_eq_left hk]
  omega
theorem fF_inner {n : Nd} (hL : n.leaf = false) {k : Nat} (hk : k < n.keys.length) : fF n k = iF n.keys n.kids k ∧ fS n k = iS n.keys n.kids k := by
  unfold fF fS hlv
  rw [if_neg (by rw [hL]; decide), form_inner rfl, form_inner rfl]
  unfold iF iS
  simp only [List.length_take, List.length_drop, Nat.min_eq_left (Nat.le_of_lt hk)]
  rw [show n.keys.length - (k + 1) = n.keys.length - k - 1 by omega]
  omega
/-- The first place, and how many there are. -/
def plA (n : Nd) : Nat := if n.leaf = true then 1 else 0
def plN (n : Nd) : Nat := if n.leaf = true then n.cells.length - 1 else n.keys.length
/-- Can it be parted? -/
def Parts (n : Nd) : Prop := (n.leaf = true ∧ 1 < n.cells.length) ∨ (n.leaf = false ∧ 0 < n.keys.length ∧ n.keys.length < n.kids.length)
theorem parts_at {n : Nd} (h : Parts n) {j : Nat} (hj : j < plN n) : HasAt n (plA n + j) := by
  rcases h with ⟨hL, h⟩ | ⟨hL, h, h2⟩
  · unfold plN at hj
    unfold plA
    rw [if_pos hL] at hj ⊢
    exact .inl ⟨hL, by omega⟩
  · unfold plN at hj
    unfold plA
    rw [if_neg (by rw [hL]; decide)] at hj ⊢
    exact .inr ⟨hL, by omega, h2⟩
theorem parts_pos {n : Nd} (h : Parts n) : 0 < plN n := by
  rcases h with ⟨hL, h⟩ | ⟨hL, h, h2⟩
  · unfold plN; rw [if_pos hL]; omega
  · unfold plN; rw [if_neg (by rw [hL]; decide)]; omega
/-- What Split answers is the halves at the best place. -/
theorem spl_best {n : Nd} (h : Parts n) : spl n = hlv n (best (fF n) (fS n) (plA n) (plN n)).1 := by
  rcases h with ⟨hL, h⟩ | ⟨hL, h, h2⟩
  · have e : best (fF n) (fS n) (plA n) (plN n) = best (lF n.cells) (lS n.cells) 1 (n.cells.length - 1) := by
      unfold plA plN
      rw [if_pos hL, if_pos hL]
      exact best_congr _ fun j hj => fF_leaf hL (by omega)
    rw [e]
    unfold spl hlv
    rw [if_pos ⟨hL, h⟩, if_pos hL]
    rfl
  · have e : best (fF n) (fS n) (plA n) (plN n) = best (iF n.keys n.kids) (iS n.keys n.kids) 0 n.keys.length := by
      unfold plA plN
      rw [if_neg (by rw [hL]; decide), if_neg (by rw [hL]; decide)]
      exact best_congr _ fun j hj => fF_inner hL (by omega)
    rw [e]
    unfold spl hlv
    rw [if_neg (by rw [hL]; simp), if_pos ⟨hL, h, h2⟩, if_neg (by rw [hL]; decide)]
    rfl
theorem spl_no {n : Nd} (h : ¬ Parts n) : spl n = (n, [], ⟨false, [], [], []⟩) := by
  unfold spl
  rw [if_neg fun e => h (.inl e), if_neg fun e => h (.inr e)]
/-- The halves are no longer than the whole and a head. -/
theorem fF_le {n : Nd} (h : Parts n) {j : Nat} (hj : j < plN n) : fF n (plA n + j) ≤ (form n).length + 11 ∧ fS n (plA n + j) ≤ (form n).length + 11 := by
  rcases h with ⟨hL, h⟩ | ⟨hL, h, h2⟩
  · unfold plN at hj
    unfold plA
    rw [if_pos hL] at hj ⊢
    obtain ⟨e1, e2⟩ := fF_leaf (k := 1 + j) hL (by omega)
    have := lF_le n.cells _ (Nat.le_refl _) (1 + j)
    have := form_leaf hL
    omega
  · unfold plN at hj
    unfold plA
    rw [if_neg (by rw [hL]; decide)] at hj ⊢
    obtain ⟨e1, e2⟩ := fF_inner (k := 0 + j) hL (by omega)
    have := iF_le n.keys n.kids _ (Nat.le_refl _) (0 + j)
    have := form_inner hL
    omega
theorem best_first {F S : Nat → Nat} {a : Nat} (h : max (F a) (S a) < 9223372036854775807) : best F S a 1 = (a, max (F a) (S a)) := by
  rw [best, orC]
  exact if_pos h
theorem best_next {F S : Nat → Nat} {a k : Nat} (h : max (F (a + k)) (S (a + k)) < (best F S a k).2) : best F S a (k + 1) = (a + k, max (F (a + k)) (S (a + k))) := by
  rw [best, orC]
  exact if_pos h
theorem best_same {F S : Nat → Nat} {a k : Nat} (h : ¬ max (F (a + k)) (S (a + k)) < (best F S a k).2) : best F S a (k + 1) = best F S a k := by
  rw [best, orC]
  exact if_neg h
theorem fit_hlv {n : Nd} (hf : Fit n) (k : Nat) : Fit (hlv n k).1 ∧ Fit (hlv n k).2.2 := by
  unfold hlv
  split
  · exact fit_leaf hf k
  · exact fit_inner hf k
end Go.Proofs.Ytbkpgppaahpalaa
