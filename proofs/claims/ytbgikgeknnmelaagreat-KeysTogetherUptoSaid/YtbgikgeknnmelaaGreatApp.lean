/-
  Appending a string to bytes of one's own.
-/
import Derived.Test.YtbgikgeknnmelaaGreatCmp
import Derived.Deep.AppendSrc
import Derived.RangeFuncBox
namespace Go.Proofs.YtbgikgeknnmelaaGreat
open Go.RowKit
set_option linter.unusedVariables false      -- a walk need not use every condition

theorem info5 : (Tryz.prog.info? 5).map (fun i => (i.zero, i.size, i.bytes)) = some (some (.int .u8 0), 1, 1) := by kernel_rfl

/-- Cells stored one behind the other into a block. -/
theorem setCells_row {w : World} {g : Nat} {e : TypeId} : ∀ (vs : List Value) (o : Nat) (w : World) (cur : Array Value), w.heap[g]? = some (.cells cur e (0, 0)) → o + vs.length ≤ cur.size →
    (∃ cur', (w.setCells g o vs).heap[g]? = some (.cells cur' e (0, 0)) ∧ cur'.size = cur.size ∧ cur'.toList.take (o + vs.length) = cur.toList.take o ++ vs) ∧ w.grownBy (w.setCells g o vs) (some g)
  | [], o, w, cur, h, _ => ⟨⟨cur, h, rfl, by simp⟩, ⟨rfl, rfl, rfl, Nat.le_refl _, fun _ _ _ => rfl⟩⟩
  | v :: vs, o, w, cur, h, hl => by
    simp only [List.length_cons] at hl
    have h1 : (w.setCell ⟨g, o, none⟩ v).heap[g]? = some (.cells (cur.setIfInBounds o v) e (0, 0)) := by
      simp [World.setCell, Array.getElem?_modify, h]
    obtain ⟨⟨cur', h2, h3, h4⟩, hg⟩ := setCells_row (w := w) (e := e) vs (o + 1) (w.setCell ⟨g, o, none⟩ v) (cur.setIfInBounds o v) h1 (by simp; omega)
    refine ⟨⟨cur', h2, by rw [h3]; simp, ?_⟩, ?_⟩
    · rw [List.length_cons, show o + (vs.length + 1) = o + 1 + vs.length by omega, h4, Array.toList_setIfInBounds]
      rw [List.take_succ_eq_append_getElem (by simp; omega)]
      simp [List.take_set_of_le]
    · have h0 : w.grownBy (w.setCell ⟨g, o, none⟩ v) (some g) := ⟨rfl, rfl, rfl, by simp [World.setCell], fun k _ hk => Below.heap_setCell _ _ _ _ (fun e => hk (by rw [e]))⟩
      exact h0.trans hg

theorem run_append_str (w : World) (base : Nat) (v : Value) (n : Nat) (xs : List Value) (hown : w.ownsRow base 5 1 v n xs) (s : ByteArray) (hs : 0 < s.size ∨ 0 < n) (hb : n + s.size ≤ 140737488355328) (hbase : base ≤ w.heap.size) :
    ∃ v' w', (Builtin.append_ #[36, 9] 36 #[v, .string s]).run Tryz.prog w = .ok v' w' ∧ w'.ownsRow base 5 1 v' (n + s.size) (xs ++ byteCells s) ∧ w.grownBy w' v.ownBlock := by
  obtain ⟨i, hi, hz0, hz1, hz2⟩ := info_parts info5
  have hsrc : Src Tryz.prog i.size 9 (.string s) s.size (byteCells s) w := by rw [hz1]; exact Src.ofString w Tryz.underlying9 s
  have hl := byteCells_length s
  have hxl : xs.length = n := by rw [hown.1, Nat.mul_one]
  have hlen : (xs ++ byteCells s).length = (n + s.size) * 1 := by rw [List.length_append, hxl, hl, Nat.mul_one]
  have grown : ∀ (old : Nat), (w.drew.alloc (.cells ((xs ++ byteCells s).toArray ++ Builtin.zeroCells (Value.int .u8 0).cells (grownCap w (n + s.size) old 5 - (n + s.size))) 5)).ownsRow base 5 1
        (.slice (some ⟨w.heap.size, 0, none⟩) (n + s.size) (grownCap w (n + s.size) old 5)) (n + s.size) (xs ++ byteCells s) ∧ ∀ row,
      w.grownBy (w.drew.alloc (.cells ((xs ++ byteCells s).toArray ++ Builtin.zeroCells (Value.int .u8 0).cells (grownCap w (n + s.size) old 5 - (n + s.size))) 5)) row := by
    intro old
    have hge := grownCap_ge w (n + s.size) old 5
    have hcm : grownCap w (n + s.size) old 5 ≤ maxLen := grownCap_le_maxLen w (n + s.size) old 5 (by unfold maxLen; omega)
    refine ⟨⟨hlen, .inr ⟨w.heap.size, _, _, rfl, hbase, World.alloc_heap_new w.drew _, hge, hcm, ?_, ?_⟩⟩, fun row => ⟨rfl, rfl, rfl, by simp, fun k hk _ => Below.heap_alloc _ _ _ hk⟩⟩
    · rw [Array.size_append, size_zeroCells, List.size_toArray, hlen]
      simp [Value.cells]
      omega
    · rw [Array.toList_append, ← hlen]
      exact List.take_left
  rcases hown.2 with ⟨rfl, rfl⟩ | ⟨g, cap, cur, rfl, hbg, hg, hnc, hcm, hcs, htake⟩
  · have hx : xs = [] := List.eq_nil_of_length_eq_zero hxl
    subst hx
    have hr := run_append_grow_src (P := Tryz.prog) w 36 9 36 5 i (.int .u8 0) Tryz.underlying36 hi hz0 none 0 0 [] (run_firstCells_none w.drew _ 0 0 0) (.string s) s.size (byteCells s) hsrc (by omega) (by omega) (growslice_fits (by omega) (by rw [hz2]; omega))
    obtain ⟨g1, g2⟩ := grown 0
    rw [Nat.zero_add] at *
    exact ⟨_, _, hr, by simpa using g1, g2 _⟩
  · by_cases hroom : n + s.size ≤ cap
    · have hr := run_append_room_src (P := Tryz.prog) w 36 9 36 5 i Tryz.underlying36 hi g 0 n cap (.string s) s.size (byteCells s) hsrc hroom (by
          intro j hj
          rw [hl] at hj
          simp [World.cell?, hg, hz1, Array.getElem?_eq_getElem (show n + j < cur.size by omega)]) (by intro j _; simp [World.frozen?, hg])
      obtain ⟨⟨cur', h2, h3, h4⟩, hgr⟩ := setCells_row (w := w) (byteCells s) (0 + n * i.size) w cur hg (by rw [hz1, hl]; omega)
      refine ⟨_, _, hr, ⟨hlen, .inr ⟨g, cap, cur', rfl, hbg, h2, hroom, hcm, by omega, ?_⟩⟩, hgr⟩
      rw [hz1, hl] at h4
      rw [show (n + s.size) * 1 = 0 + n * 1 + s.size by omega, h4, show 0 + n * 1 = n * 1 by omega, htake]
    · have hold : ∀ j u, xs[j]? = some u → w.drew.cell? ((⟨g, 0, none⟩ : Addr).add j) = some u := hown.cells (g := g) rfl
      have hr := run_append_grow_src (P := Tryz.prog) w 36 9 36 5 i (.int .u8 0) Tryz.underlying36 hi hz0 (some ⟨g, 0, none⟩) n cap xs (run_firstCells_some w.drew _ n _ n cap xs (by rw [hz1, hxl, Nat.mul_one]) hold) (.string s) s.size (byteCells s) hsrc (by omega) (by omega) (growslice_fits (by omega) (by rw [hz2]; omega))
      obtain ⟨g1, g2⟩ := grown cap
      exact ⟨_, _, hr, g1, g2 _⟩
end Go.Proofs.YtbgikgeknnmelaaGreat
