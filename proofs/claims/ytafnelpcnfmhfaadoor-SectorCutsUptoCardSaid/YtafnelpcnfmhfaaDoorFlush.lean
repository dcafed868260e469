/-
  What Flush of package disk does.
-/
import Derived.Test.YtafnelpcnfmhfaaDoorNew
namespace Go.Proofs.YtafnelpcnfmhfaaDoor
open Go.RowKit Go.Maps Go.ChangeMaps Go.MapKept Go.WideShapes
set_option linter.unusedVariables false      -- a walk need not use every condition
attribute [local go_sem ↓] Go.wp_at_zero Go.wp_at_succ

theorem own_clear {w : World} {b n : Nat} {D : DataW (Array Value)} (h : w.ownsMap Tryd.prog 3 secR b n D) (ty : TypeId) : ∃ w', (Builtin.clear_ #[74] ty #[.map (some b)]).run Tryd.prog w = .ok (.tuple #[]) w' ∧ w'.ownsMap Tryd.prog 3 secR b 0 (.map []) ∧ w.mapTurned w' b := by
  obtain ⟨es, clock, hb, F, hs, rfl⟩ := h
  refine ⟨setBlock w b (.map #[] clock), ?_, ⟨#[], clock, heap_setBlock_same hb _, ⟨by simp, stamped_empty _, by simp⟩, Nat.le_refl _, rfl⟩, ⟨es, clock, _, _, hb, rfl⟩⟩
  simp [Builtin.clear_, run_underlying Tryd.underlying74, Go.MapKept.run_getObj_map hb, Go.MapKept.run_setObj_map _ hb, Result.andThen, setBlock]
theorem fold_set : ∀ (xs zs pre post : List Value) (off k : Nat), pre.length = off + k → zs.length = xs.length →
    (xs.zipIdx k).foldl (fun (cs : Array Value) (x : Value × Nat) => cs.setIfInBounds (off + x.2) x.1) (pre ++ zs ++ post).toArray = (pre ++ xs ++ post).toArray
  | [], zs, pre, post, off, k, _, hz => by
    obtain rfl : zs = [] := List.eq_nil_of_length_eq_zero hz
    rfl
  | x :: xs, zs, pre, post, off, k, hp, hz => by
    obtain ⟨z, zs, rfl⟩ : ∃ z zs', zs = z :: zs' := by cases zs with | nil => simp at hz | cons z zs => exact ⟨z, zs, rfl⟩
    rw [List.zipIdx_cons, List.foldl_cons]
    have e : (pre ++ (z :: zs) ++ post).toArray.setIfInBounds (off + k) x = ((pre ++ [x]) ++ zs ++ post).toArray := by
      apply Array.ext'
      rw [Array.toList_setIfInBounds, ← hp]
      simp only [List.append_assoc, List.cons_append, List.nil_append]
      rw [List.set_append_right _ _ (Nat.le_refl _), Nat.sub_self, List.set_cons_zero]
    have ih := fold_set xs zs (pre ++ [x]) post off (k + 1) (by simp; omega) (by simpa using hz)
    simp only [e]
    rw [ih]
    simp
theorem fold_arr (xs : Array Value) (zs pre post : List Value) (off : Nat) (hp : pre.length = off) (hz : zs.length = xs.size) :
    xs.zipIdx.foldl (fun (cs : Array Value) (x : Value × Nat) => cs.setIfInBounds (off + x.2) x.1) (pre ++ zs ++ post).toArray = (pre ++ xs.toList ++ post).toArray := by
  rw [← Array.foldl_toList, Array.toList_zipIdx]
  exact fold_set xs.toList zs pre post off 0 (by omega) (by simpa using hz)
theorem zc83 : Tryd.zeroCells83 = (plc zer false).toArray := by kernel_rfl
set_option maxRecDepth 100000 in
theorem build76 (bs : List UInt8) (hl : bs.length = 128) (w : World) : (Instr.build 83 #[(0, .agg (enc bs).toArray)]).run Tryd.prog w = .ok (.agg (plc bs false).toArray) w := by
  have hf := fold_set (enc bs) (enc zer) [] [.bool false] 0 0 rfl (by simp [enc, hl, len_zer])
  have h1 : (enc bs).length = 128 := by rw [len_enc, hl]
  have h2 := len_plc zer false len_zer
  simp only [List.nil_append, Nat.zero_add] at hf
  simp only [Instr.build, Sem.run_bind, Tryd.zeroValue83, Result.andThen, Value.cells, Tryd.runUnderlying83, zc83]
  simp [Instr.fill, Value.cells, h1, h2, Sem.run_bind, Result.andThen]
  exact hf
theorem store_run {w : World} {b o : Nat} {cs : List Value} (ht : w.there b o cs.length) (h1 : ∀ v ∈ cs, v.oneCell' = true) : (storeCells ⟨b, o, none⟩ cs 0).run Tryd.prog w = .ok () (w.setCells b o cs) := by
  have := run_storeCells_cells (P := Tryd.prog) b o cs 0 w (fun j hj => by simpa using (ht j (by simpa using hj)).1) (fun j hj => by simpa using (ht j (by simpa using hj)).2) h1
  simpa using this
theorem fold76 (bs : List UInt8) (hl : bs.length = 128) : List.foldl (fun (cs : Array Value) (x : Value × Nat) => cs.setIfInBounds x.snd x.fst) Tryd.zeroCells83 (enc bs).zipIdx = (plc bs false).toArray := by
  have hf := fold_set (enc bs) (enc zer) [] [.bool false] 0 0 rfl (by simp [enc, hl, len_zer])
  simp only [List.nil_append, Nat.zero_add] at hf
  rw [zc83]
  exact hf
set_option maxRecDepth 100000 in
theorem build76t (w : World) : (Instr.build 83 #[(1, .bool true)]).run Tryd.prog w = .ok (.agg (plc zer true).toArray) w := by
  have h2 := len_plc zer false len_zer
  simp only [Instr.build, Sem.run_bind, Tryd.zeroValue83, Result.andThen, Value.cells, Tryd.runUnderlying83, zc83]
  simp [Instr.fill, Value.cells, h2, Sem.run_bind, Result.andThen]
  unfold plc
  rw [List.set_append_right _ _ (by rw [len_enc, len_zer]; exact Nat.le_refl _), len_enc, len_zer]
  rfl
/-- What stays, and what is torn, when those that are no longer to come are flushed. -/
def fst (s : Dsk) (left : Lit → Bool) (i : Nat) : List UInt8 := match s.ca i with | some bs => if left (.int .i64 i) then s.st i else bs | none => s.st i
def ftn (s : Dsk) (left : Lit → Bool) (i : Nat) : Bool := match s.ca i with | some _ => if left (.int .i64 i) then s.tn i else false | none => s.tn i
def Dsk.flushing (s : Dsk) (left : Lit → Bool) : Dsk := { s with st := fst s left, tn := ftn s left }
/-- One place is written, and nothing else. -/
theorem At.place {w w' : World} {d pb mb k : Nat} {s s' : Dsk} {bs : List UInt8} {t : Bool} (h : At w d pb mb s) (hk : k < s.N) (hl : bs.length = 128) (he : w' = w.setCells pb (k * 129) (plc bs t))
    (hN : s'.N = s.N) (hca : s'.ca = s.ca) (hdn : s'.down = s.down) (hf : s'.fuse = s.fuse) (hc : s'.calls = s.calls)
    (h1 : s'.st k = bs ∧ s'.tn k = t) (h2 : ∀ i, i ≠ k → s'.st i = s.st i ∧ s'.tn i = s.tn i) : At w' d pb mb s' := by
  subst he
  have l := h.lts
  have hg := gr_sets pb (plc bs t) (k * 129) w
  have hd : (w.setCells pb (k * 129) (plc bs t)).heap[d]? = w.heap[d]? := hg.block _ l.1 (fun e => h.ne (by injection e))
  have hm : (w.setCells pb (k * 129) (plc bs t)).heap[mb]? = w.heap[mb]? := hg.block _ l.2.2.1 (fun e => l.2.2.2.2 (by injection e))
  have hlp := len_plc bs t hl
  refine ⟨?_, h.ne, hN ▸ h.pos, hN ▸ h.top, fun i hi => ?_, fun i hi => ?_, ?_, ?_, by rw [hf]; exact h.fu, by rw [hc]; exact h.cl⟩
  · rw [hd, hN, hdn, hf, hc]; exact h.blk
  · rw [hN] at hi
    by_cases e : i = k
    · subst e
      rw [h1.1, h1.2]
      refine World.rangeAt_setCells_same w pb (i * 129) (plc bs t) (fun j hj => ?_)
      have := h.th (i * 129 + j) (by rw [hlp] at hj; omega)
      simpa using this
    · rw [(h2 i e).1, (h2 i e).2]
      refine World.rangeAt_setCells_apart (h.pl i hi) pb (k * 129) (plc bs t) (.inr ?_)
      rw [hlp, len_plc _ _ (h.sl i hi)]
      omega
  · rw [hN] at hi
    by_cases e : i = k
    · subst e; rw [h1.1]; exact hl
    · rw [(h2 i e).1]; exact h.sl i hi
  · rw [hN]; exact World.there_setCells h.th _ _ _
  · obtain ⟨n, D, ⟨es, ck, hmb, r⟩, ht⟩ := h.own
    rw [hN, hca]
    exact ⟨n, D, ⟨es, ck, hm.trans hmb, r⟩, ht⟩
theorem there_place {w : World} {d pb mb k : Nat} {s : Dsk} (h : At w d pb mb s) (hk : k < s.N) : w.there pb (k * 129) 129 := fun j hj => by
  have := h.th (k * 129 + j) (by omega)
  simpa using this
end Go.Proofs.YtafnelpcnfmhfaaDoor
