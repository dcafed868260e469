/-
  What Write of the document's disk does.
-/
import Derived.Test.YtafnelpcnfmhfaaDoorRent
import Derived.Test.YtafnelpcnfmhfaaDoorRins
import Derived.Laws.AppendOwn
namespace Go.Proofs.YtafnelpcnfmhfaaDoor
open Go.RowKit Go.Maps
set_option linter.unusedVariables false      -- a walk need not use every condition

/-! ### A row of entries -/
def rowE (f : Nat → List UInt8) (L : List Nat) : List Value := L.flatMap fun j => ent j (f j)
theorem rowE_app (f : Nat → List UInt8) (A B : List Nat) : rowE f (A ++ B) = rowE f A ++ rowE f B := by simp [rowE]
theorem rowE_one (f : Nat → List UInt8) (j : Nat) : rowE f [j] = ent j (f j) := by simp [rowE]
theorem len_rowE {f : Nat → List UInt8} : ∀ {L : List Nat}, (∀ j ∈ L, (f j).length = 128) → (rowE f L).length = L.length * 129
  | [], _ => rfl
  | j :: L, h => by
    have ih := len_rowE (L := L) fun x hx => h x (List.mem_cons_of_mem _ hx)
    unfold rowE at ih ⊢
    rw [List.flatMap_cons, List.length_append, len_ent j (h j (List.mem_cons_self ..)), ih, List.length_cons]
    omega
theorem range_left {w : World} {g o : Nat} {a b : List Value} (h : w.rangeAt g o (a ++ b)) : w.rangeAt g o a := fun j v hv => h j v (by rw [List.getElem?_append_left (List.getElem?_eq_some_iff.1 hv).1]; exact hv)
theorem range_right {w : World} {g o : Nat} {a b : List Value} (h : w.rangeAt g o (a ++ b)) : w.rangeAt g (o + a.length) b := fun j v hv => by
  have := h (a.length + j) v (by rw [List.getElem?_append_right (by omega)]; rw [← hv]; congr 1; omega)
  rwa [← Nat.add_assoc] at this
theorem rowE_part {w : World} {g : Nat} {f : Nat → List UInt8} : ∀ (L : List Nat) (o : Nat), (∀ j ∈ L, (f j).length = 128) → w.rangeAt g o (rowE f L) → ∀ i (hi : i < L.length), w.rangeAt g (o + i * 129) (ent L[i] (f L[i]))
  | [], _, _, _, i, hi => by simp at hi
  | j :: L, o, hl, h, i, hi => by
    unfold rowE at h
    rw [List.flatMap_cons] at h
    cases i with
    | zero => simpa using range_left h
    | succ i =>
      have h2 := range_right h
      rw [len_ent j (hl j (List.mem_cons_self ..))] at h2
      have := rowE_part L (o + 129) (fun x hx => hl x (List.mem_cons_of_mem _ hx)) h2 i (by simpa using hi)
      rw [show o + (i + 1) * 129 = o + 129 + i * 129 by omega]
      exact this
theorem info86p : (Tryd.prog.info? 86).map (fun i => (i.zero, i.size, i.bytes)) = some (some (.agg (Value.int .i64 0 :: enc zer).toArray), 129, 136) := info86
theorem wpList_appE {ops : Array Oper} {rest : List Oper} {o : Oper} {a : Act} {w : World} {Q : Exit → Act → World → Prop} (hgd : o.guard = none) (s x : Operand)
    (ho : o.op = .call { callee := .builtin .append, args := #[s, x], argTypes := #[79, 79] }) (base : Nat) (v : Value) (n : Nat) (xs : List Value) (hs : a.eval s = v) (hown : w.ownsRow base 86 129 v n xs)
    (g : Nat) (hx : a.eval x = .slice (some ⟨g, 0, none⟩) 1 1) (e : List Value) (hr : w.rangeAt g 0 e) (hl : e.length = 129) (h1 : ∀ u ∈ e, u.oneCell' = true) (hn : n ≤ 20000) (hbase : base ≤ w.heap.size)
    (h : ∀ v' w', w'.ownsRow base 86 129 v' (n + 1) (xs ++ e) → w.grownBy w' v.ownBlock → wpList Tryd.prog ops Q rest (a.put o.dst v') w') : wpList Tryd.prog ops Q (o :: rest) a w := by
  obtain ⟨i0, hi, hz0, hz1, hz2⟩ := info_parts info86p
  refine wpList_append_own w hgd s x 79 ho base 86 i0 _ 129 136 Tryd.underlying79 hi hz0 hz1 hz2 (by simp [Value.cells, len_enc, len_zer]) (by decide) v n xs hs hown ⟨g, 0, none⟩ 1 1 e hx (by omega) (fun j u hu => by rw [Go.WideShapes.add_plain]; exact hr j u hu) h1 (by unfold maxLen; omega) (by omega) hbase fun v' w' h2 h3 _ => h v' w' h2 h3
/-- The cache is another one. -/
theorem RAt.recached {w w' : World} {X : Nat → Prop} {r sb sc tb tc base : Nat} {cv v : Value} {s : Dsk} (h : RAt w X r sb sc tb tc cv s) {k : Nat} (hk : k < s.N) {bs : List UInt8} (hl : bs.length = 128)
    (hown : w.ownsRow base 86 129 v ({ s with ca := upd s.ca k (some bs) } : Dsk).dirty.length (rowE (fun j => (upd s.ca k (some bs) j).getD zer) ({ s with ca := upd s.ca k (some bs) } : Dsk).dirty))
    (hX : ∀ j, X j → j < base) (hr : r < base) (hw : w' = w.setCell ⟨r, 2, none⟩ v) : RAt w' X r sb sc tb tc v { s with ca := upd s.ca k (some bs) } ∧ KeptR r w w' := by
  subst hw
  have l := h.lts
  have hg := gr_set w r 2 v
  have hle : ∀ j cs, upd s.ca k (some bs) j = some cs → cs.length = 128 ∧ j < s.N := by
    intro j cs hj
    by_cases e : j = k
    · subst e; rw [upd_same] at hj; injection hj with hj; subst hj; exact ⟨hl, hk⟩
    · rw [upd_other _ _ e] at hj; exact h.le j cs hj
  have hmem : ∀ j ∈ ({ s with ca := upd s.ca k (some bs) } : Dsk).dirty, ∃ cs, upd s.ca k (some bs) j = some cs := fun j hj => Option.isSome_iff_exists.1 (mem_dirty.1 hj).2
  refine ⟨⟨?_, h.xr, h.xs, h.xt, h.pos, h.top, h.sc, h.tc, fun i hi => ?_, h.sl, fun i hi => ?_, ?_, hle, h.fu, h.cl⟩, KeptR.grown hg⟩
  · rw [blk_set h.blk _]; rfl
  · exact rangeAt_same (h.ss i hi) (hg.block _ l.2.1 (fun e => h.xs.2 (by injection e)))
  · exact (World.cell?_of_block (w := w) (hg.block _ l.2.2 (fun e => h.xt.2 (by injection e)))).trans (h.ts i hi)
  · rcases hown.2 with ⟨rfl, h0⟩ | ⟨g, cap, cur, rfl, hbg, hgg, hnc, hcm, hcs, htake⟩
    · exact ⟨none, 0, by rw [h0], .inl (List.eq_nil_of_length_eq_zero h0)⟩
    · have hlt : g < w.heap.size := (Array.getElem?_eq_some_iff.1 hgg).1
      refine ⟨_, cap, rfl, .inr ⟨g, rfl, fun hx => by have := hX g hx; omega, by omega, fun i hi => ?_⟩⟩
      obtain ⟨cs, hc⟩ := hmem _ (List.getElem_mem hi)
      refine ⟨cs, hc, ?_⟩
      have hr0 : w.rangeAt g 0 (rowE (fun j => (upd s.ca k (some bs) j).getD zer) ({ s with ca := upd s.ca k (some bs) } : Dsk).dirty) := fun j u hu => by
        have := hown.cells (g := g) rfl j u hu
        rwa [Go.WideShapes.add_plain] at this
      have hp := rowE_part _ 0 (fun j hj => by obtain ⟨cs, hc⟩ := hmem j hj; simp only [hc, Option.getD_some]; exact (hle j cs hc).1) hr0 i hi
      rw [Nat.zero_add] at hp
      have hp2 := rangeAt_same hp (hg.block _ hlt (fun e => by injection e with e; omega))
      simp only [hc, Option.getD_some] at hp2
      exact hp2
end Go.Proofs.YtafnelpcnfmhfaaDoor
