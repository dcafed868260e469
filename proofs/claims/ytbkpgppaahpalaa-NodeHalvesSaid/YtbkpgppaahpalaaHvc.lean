/-
  NodeHalves where a node is parted: the whole is made again.
-/
import Derived.Test.YtbkpgppaahpalaaHvn
import Derived.Test.YtbkpgppaahpalaaCct
import Derived.Test.YtbkpgppaahpalaaApt
import Derived.Test.YtbkpgppaahpalaaSpl
import Derived.Deep.RegionHeld3
namespace Go.Proofs.Ytbkpgppaahpalaa
open Go.RowKit
set_option linter.unusedVariables false      -- a walk need not use every condition

theorem new_at (u : World) (o : Obj) {k : Nat} (h : u.heap.size = k) : (u.alloc o).heap[k]? = some o := by subst h; exact World.alloc_heap_new u o
theorem al10 (u : World) (o1 : Obj) : (u.alloc o1).heap[u.heap.size]? = some o1 := (new_at u o1 (by simp))
theorem al20 (u : World) (o1 o2 : Obj) : ((u.alloc o1).alloc o2).heap[u.heap.size]? = some o1 := (blk_on (bel1 _ _) (new_at u o1 (by simp)))
theorem al21 (u : World) (o1 o2 : Obj) : ((u.alloc o1).alloc o2).heap[u.heap.size + 1]? = some o2 := (new_at (u.alloc o1) o2 (by simp))
theorem al30 (u : World) (o1 o2 o3 : Obj) : (((u.alloc o1).alloc o2).alloc o3).heap[u.heap.size]? = some o1 := (blk_on (bel1 _ _) (blk_on (bel1 _ _) (new_at u o1 (by simp))))
theorem al31 (u : World) (o1 o2 o3 : Obj) : (((u.alloc o1).alloc o2).alloc o3).heap[u.heap.size + 1]? = some o2 := (blk_on (bel1 _ _) (new_at (u.alloc o1) o2 (by simp)))
theorem al32 (u : World) (o1 o2 o3 : Obj) : (((u.alloc o1).alloc o2).alloc o3).heap[u.heap.size + 1 + 1]? = some o3 := (new_at ((u.alloc o1).alloc o2) o3 (by simp))
theorem al40 (u : World) (o1 o2 o3 o4 : Obj) : ((((u.alloc o1).alloc o2).alloc o3).alloc o4).heap[u.heap.size]? = some o1 := (blk_on (bel1 _ _) (blk_on (bel1 _ _) (blk_on (bel1 _ _) (new_at u o1 (by simp)))))
theorem al41 (u : World) (o1 o2 o3 o4 : Obj) : ((((u.alloc o1).alloc o2).alloc o3).alloc o4).heap[u.heap.size + 1]? = some o2 := (blk_on (bel1 _ _) (blk_on (bel1 _ _) (new_at (u.alloc o1) o2 (by simp))))
theorem al42 (u : World) (o1 o2 o3 o4 : Obj) : ((((u.alloc o1).alloc o2).alloc o3).alloc o4).heap[u.heap.size + 1 + 1]? = some o3 := (blk_on (bel1 _ _) (new_at ((u.alloc o1).alloc o2) o3 (by simp)))
theorem al43 (u : World) (o1 o2 o3 o4 : Obj) : ((((u.alloc o1).alloc o2).alloc o3).alloc o4).heap[u.heap.size + 1 + 1 + 1]? = some o4 := (new_at (((u.alloc o1).alloc o2).alloc o3) o4 (by simp))
theorem al50 (u : World) (o1 o2 o3 o4 o5 : Obj) : (((((u.alloc o1).alloc o2).alloc o3).alloc o4).alloc o5).heap[u.heap.size]? = some o1 := (blk_on (bel1 _ _) (blk_on (bel1 _ _) (blk_on (bel1 _ _) (blk_on (bel1 _ _) (new_at u o1 (by simp))))))
theorem al51 (u : World) (o1 o2 o3 o4 o5 : Obj) : (((((u.alloc o1).alloc o2).alloc o3).alloc o4).alloc o5).heap[u.heap.size + 1]? = some o2 := (blk_on (bel1 _ _) (blk_on (bel1 _ _) (blk_on (bel1 _ _) (new_at (u.alloc o1) o2 (by simp)))))
theorem al52 (u : World) (o1 o2 o3 o4 o5 : Obj) : (((((u.alloc o1).alloc o2).alloc o3).alloc o4).alloc o5).heap[u.heap.size + 1 + 1]? = some o3 := (blk_on (bel1 _ _) (blk_on (bel1 _ _) (new_at ((u.alloc o1).alloc o2) o3 (by simp))))
theorem al53 (u : World) (o1 o2 o3 o4 o5 : Obj) : (((((u.alloc o1).alloc o2).alloc o3).alloc o4).alloc o5).heap[u.heap.size + 1 + 1 + 1]? = some o4 := (blk_on (bel1 _ _) (new_at (((u.alloc o1).alloc o2).alloc o3) o4 (by simp)))
theorem al54 (u : World) (o1 o2 o3 o4 o5 : Obj) : (((((u.alloc o1).alloc o2).alloc o3).alloc o4).alloc o5).heap[u.heap.size + 1 + 1 + 1 + 1]? = some o5 := (new_at ((((u.alloc o1).alloc o2).alloc o3).alloc o4) o5 (by simp))
/-- Two rows of cells as one. -/
theorem cat29 (base : Nat) (w u : World) (x y : Value) (L M : List C) (Y : Nat) (hx : CsO base w x L) (hy : CsO base w y M) (hu : Below w.heap.size w u) (hb : base ≤ u.heap.size) (hY : u.heap[Y]? = some (.cells #[x, y] 22)) (hl : (L.length + M.length) * 64 ≤ 140737488355328) :
    Calls Try.prog 29 #[.slice (some ⟨Y, 0, none⟩) 2 2] u fun e w' => ∃ v', e = .returned v' ∧ CsO base w' v' (L ++ M) ∧ Below u.heap.size u w' := by
  obtain ⟨vs, ho, he⟩ := hx.on hu
  obtain ⟨us, ho', he'⟩ := hy.on hu
  have h1 : u.cell? ⟨Y, 0, none⟩ = some x := by simp [World.cell?, hY]
  have h2 : u.cell? ⟨Y, 1, none⟩ = some y := by simp [World.cell?, hY]
  refine (concat29 u _ [(L.length, vs), (M.length, us)] ⟨Y, 2, rfl, fun i hi => ?_⟩ (by simp) (by simp [sumR]; omega)).mono fun e w' ⟨v', h3, h4, h5⟩ => ⟨v', h3, ⟨vs ++ us, ?_, ?_⟩, h5⟩
  · match i, hi with
    | 0, _ => exact ⟨x, h1, fl_own ho, enc_ones (by decide) he (fun a x h => h.v.ones)⟩
    | 1, _ => exact ⟨y, h2, fl_own ho', enc_ones (by decide) he' (fun a x h => h.v.ones)⟩
  · have h6 := h4.mono hb
    simp only [sumR, catR, List.map_cons, List.map_nil, List.sum_cons, List.sum_nil, Nat.add_zero, List.flatMap_cons, List.flatMap_nil, List.append_nil] at h6
    rw [List.length_append]
    exact h6
  · exact (he.app he').on fun a x hx => hx.on h5
theorem cat30 (base : Nat) (w u : World) (x y : Value) (L M : List (List UInt8)) (Y : Nat) (hx : KsO base w x L) (hy : KsO base w y M) (hu : Below w.heap.size w u) (hb : base ≤ u.heap.size) (hY : u.heap[Y]? = some (.cells #[x, y] 23)) (hl : (L.length + M.length) * 24 ≤ 140737488355328) :
    Calls Try.prog 30 #[.slice (some ⟨Y, 0, none⟩) 2 2] u fun e w' => ∃ v', e = .returned v' ∧ KsO base w' v' (L ++ M) ∧ Below u.heap.size u w' := by
  obtain ⟨vs, ho, he⟩ := hx.on hu
  obtain ⟨us, ho', he'⟩ := hy.on hu
  have h1 : u.cell? ⟨Y, 0, none⟩ = some x := by simp [World.cell?, hY]
  have h2 : u.cell? ⟨Y, 1, none⟩ = some y := by simp [World.cell?, hY]
  refine (concat30 u _ [(L.length, vs), (M.length, us)] ⟨Y, 2, rfl, fun i hi => ?_⟩ (by simp) (by simp [sumR]; omega)).mono fun e w' ⟨v', h3, h4, h5⟩ => ⟨v', h3, ⟨vs ++ us, ?_, ?_⟩, h5⟩
  · match i, hi with
    | 0, _ => exact ⟨x, h1, fl_own ho, enc_ones (by decide) he (fun a x h => h.v.ones)⟩
    | 1, _ => exact ⟨y, h2, fl_own ho', enc_ones (by decide) he' (fun a x h => h.v.ones)⟩
  · have h6 := h4.mono hb
    simp only [sumR, catR, List.map_cons, List.map_nil, List.sum_cons, List.sum_nil, Nat.add_zero, List.flatMap_cons, List.flatMap_nil, List.append_nil] at h6
    rw [List.length_append]
    exact h6
  · exact (he.app he').on fun a x hx => hx.on h5
theorem cat31 (base : Nat) (w u : World) (x y : Value) (L M : List Int) (Y : Nat) (hx : IsO base w x L) (hy : IsO base w y M) (hu : Below w.heap.size w u) (hb : base ≤ u.heap.size) (hY : u.heap[Y]? = some (.cells #[x, y] 24)) (hl : (L.length + M.length) * 8 ≤ 140737488355328) :
    Calls Try.prog 31 #[.slice (some ⟨Y, 0, none⟩) 2 2] u fun e w' => ∃ v', e = .returned v' ∧ IsO base w' v' (L ++ M) ∧ Below u.heap.size u w' := by
  obtain ⟨vs, ho, he⟩ := hx.on hu
  obtain ⟨us, ho', he'⟩ := hy.on hu
  have h1 : u.cell? ⟨Y, 0, none⟩ = some x := by simp [World.cell?, hY]
  have h2 : u.cell? ⟨Y, 1, none⟩ = some y := by simp [World.cell?, hY]
  refine (concat31 u _ [(L.length, vs), (M.length, us)] ⟨Y, 2, rfl, fun i hi => ?_⟩ (by simp) (by simp [sumR]; omega)).mono fun e w' ⟨v', h3, h4, h5⟩ => ⟨v', h3, ⟨vs ++ us, ?_, ?_⟩, h5⟩
  · match i, hi with
    | 0, _ => exact ⟨x, h1, fl_own ho, enc_ones (by decide) he (fun a x h => h.ones)⟩
    | 1, _ => exact ⟨y, h2, fl_own ho', enc_ones (by decide) he' (fun a x h => h.ones)⟩
  · have h6 := h4.mono hb
    simp only [sumR, catR, List.map_cons, List.map_nil, List.sum_cons, List.sum_nil, Nat.add_zero, List.flatMap_cons, List.flatMap_nil, List.append_nil] at h6
    rw [List.length_append]
    exact h6
  · exact (he.app he').on fun a x hx => hx
end Go.Proofs.Ytbkpgppaahpalaa
