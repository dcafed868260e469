/-
  Blocks, cells and rows of one's own: small facts that the walks share.
-/
import Derived.Test.YtbgikgeknnmelaaGreatByt
namespace Go.Proofs.YtbgikgeknnmelaaGreat
open Go.RowKit

theorem four_of {w : World} {g : Nat} {a b c d : Value} {t : TypeId} (e : w.heap[g]? = some (.cells #[a, b, c, d] t)) :
    w.cell? ⟨g, 0, none⟩ = some a ∧ w.cell? ⟨g, 1, none⟩ = some b ∧ w.cell? ⟨g, 2, none⟩ = some c ∧ w.cell? ⟨g, 3, none⟩ = some d ∧ ∀ i, w.frozen? ⟨g, i, none⟩ = false := by
  refine ⟨?_, ?_, ?_, ?_, fun i => ?_⟩ <;> simp [World.cell?, World.frozen?, e]
theorem blk_on {w w' : World} (h : Below w.heap.size w w') {g : Nat} {o : Obj} (e : w.heap[g]? = some o) : w'.heap[g]? = some o :=
  (h.block g (Array.getElem?_eq_some_iff.1 e).1).trans e
theorem blk_new (w : World) (o : Obj) : (w.alloc o).heap[w.heap.size]? = some o := World.alloc_heap_new w o
theorem blk_old {w : World} {g : Nat} {o o' : Obj} (e : w.heap[g]? = some o) : (w.alloc o').heap[g]? = some o := blk_on (bel1 w o') e
theorem gr_set (w : World) (r i : Nat) (u : Value) : w.grownBy (w.setCell ⟨r, i, none⟩ u) (some r) :=
  ⟨rfl, rfl, rfl, by simp [World.setCell], fun _ _ hk => Below.heap_setCell _ _ _ _ (fun e => hk (by rw [e]))⟩
theorem gr_bel {w w' : World} (h : Below w.heap.size w w') (row : Option Nat) : w.grownBy w' row := ⟨h.os, h.tape, h.output, h.size, fun k hk _ => h.block k hk⟩
theorem own_kept {w w' : World} {base : Nat} {e : TypeId} {size : Nat} {v : Value} {n : Nat} {xs : List Value} (h : w.ownsRow base e size v n xs) {r : Nat} (hg : w.grownBy w' (some r)) (hr : r < base) : w'.ownsRow base e size v n xs := by
  refine World.ownsRow.kept h hg ?_
  rcases hb : v.ownBlock with _ | g
  · exact .inl rfl
  · have := (World.ownsRow.lt h g hb).1
    exact .inr (fun e => by injection e with e; omega)
theorem one_of {w : World} {g : Nat} {a : Value} {t : TypeId} (e : w.heap[g]? = some (.cells #[a] t)) : w.cell? ⟨g, 0, none⟩ = some a ∧ w.frozen? ⟨g, 0, none⟩ = false := by
  constructor <;> simp [World.cell?, World.frozen?, e]
theorem own_bel {w w' : World} {base : Nat} {e : TypeId} {size : Nat} {v : Value} {n : Nat} {xs : List Value} (h : w.ownsRow base e size v n xs) (hb : Below w.heap.size w w') : w'.ownsRow base e size v n xs := by
  refine World.ownsRow.kept h (gr_bel hb none) ?_
  cases hv : v.ownBlock with
  | none => exact .inl rfl
  | some g => exact .inr (by simp)
theorem cells_new (W : World) (cs : List Value) (t : TypeId) : ∀ (j : Nat) (u : Value), cs[j]? = some u → (W.alloc (.cells cs.toArray t)).cell? ((⟨W.heap.size, 0, none⟩ : Addr).add j) = some u := by
  intro j u h
  have e : (W.alloc (.cells cs.toArray t)).heap[W.heap.size]? = some (.cells cs.toArray t) := blk_new W _
  unfold World.cell?
  have hb : ((⟨W.heap.size, 0, none⟩ : Addr).add j).block = W.heap.size := by unfold Addr.add; split <;> rfl
  have ho : ((⟨W.heap.size, 0, none⟩ : Addr).add j).off = j := by unfold Addr.add; split <;> simp_all
  have hs : ((⟨W.heap.size, 0, none⟩ : Addr).add j).spot = none := by unfold Addr.add; split <;> rfl
  rw [hb, e]
  simp only [hs, ho]
  simpa using h
theorem set_other {w : World} {a : Addr} {g i : Nat} {v u : Value} (h : w.cell? a = some v) (hne : a.block ≠ g ∨ a.off ≠ i) : (w.setCell ⟨g, i, none⟩ u).cell? a = some v := by
  have hne' : (⟨g, i, none⟩ : Addr) ≠ a := by rintro rfl; simp at hne
  exact (World.cell?_setCell_other w _ _ u hne').trans h
def put4 (w : World) (g i : Nat) (a b c d : Value) : World := (((w.setCell ⟨g, i, none⟩ a).setCell ⟨g, i + 1, none⟩ b).setCell ⟨g, i + 2, none⟩ c).setCell ⟨g, i + 3, none⟩ d
theorem V.In.low {w : World} {lo lo' : Nat} {v : V} {sl : Value} (h : v.In w lo sl) (hl : lo' ≤ lo) : v.In w lo' sl := V.In.keep (fun _ _ _ h => h) hl v sl h
theorem below_put4 {w : World} {g i B : Nat} (h : B ≤ g) (a b c d : Value) : Below B w (put4 w g i a b c d) :=
  ((((Below.refl B w).setCell (p := ⟨g, i, none⟩) h _).setCell (p := ⟨g, i + 1, none⟩) h _).setCell (p := ⟨g, i + 2, none⟩) h _).setCell (p := ⟨g, i + 3, none⟩) h _
theorem gr_put4 (w : World) (g i : Nat) (a b c d : Value) : w.grownBy (put4 w g i a b c d) (some g) := (((gr_set w g i a).trans (gr_set _ g (i + 1) b)).trans (gr_set _ g (i + 2) c)).trans (gr_set _ g (i + 3) d)
theorem blk_put4 {w : World} {g : Nat} {t : TypeId} {a' b' c' d' : Value} (h : w.heap[g]? = some (.cells #[a', b', c', d'] t)) (a b c d : Value) : (put4 w g 0 a b c d).heap[g]? = some (.cells #[a, b, c, d] t) := by
  simp [put4, World.setCell, Array.getElem?_modify, h]
theorem in_plain {k n : Int} {s : ByteArray} (hk : I64 k) (hn : I64 n) (hs : s.size ≤ 140737488351232) (w : World) (lo : Nat) : (V.mk k n s []).In w lo (.slice none 0 0) := by
  rw [V.in_iff]
  exact ⟨hk, hn, hs, none, 0, rfl, Nat.le_refl _, by unfold maxLen; omega, by simp [V.l], .inl rfl⟩
theorem bel_app {w0 w w' : World} {v : Value} {t : List UInt8} {o : Obj} (hB : Below w0.heap.size w0 w) (hb : Bts w w0.heap.size v t) (hg : (w.alloc o).grownBy w' v.ownBlock) : Below w0.heap.size w0 w' :=
  below_app (hB.alloc hB.size o) (World.ownsRow.alloc hb o) hg
end Go.Proofs.YtbgikgeknnmelaaGreat
