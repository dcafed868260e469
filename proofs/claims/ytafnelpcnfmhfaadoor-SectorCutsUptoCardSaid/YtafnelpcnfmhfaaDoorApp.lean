/-
  Bytes put behind bytes of one's own.
-/
import Derived.Test.YtafnelpcnfmhfaaDoorCln
import Derived.Deep.AppendLies
import Derived.Deep.Upon
namespace Go.Proofs.YtafnelpcnfmhfaaDoor
open Go.RowKit
set_option linter.unusedVariables false      -- a walk need not use every condition

theorem app_run (w : World) (base : Nat) (v x : Value) (t u : List UInt8) (hown : Bts w base v t) (hx : Bs w x u) (hlen : t.length + u.length ≤ 140737488355328) (hbase : base ≤ w.heap.size) (ty : TypeId) :
    ∃ v' w', (Builtin.append_ #[22, 22] ty #[v, x]).run Tryd.prog w = .ok v' w' ∧ Bts w' base v' (t ++ u) ∧ w.grownBy w' v.ownBlock := by
  obtain ⟨i0, hi, hz0, hz1, hz2⟩ := info_parts info5
  obtain ⟨p, cap, rfl, h1, h2, h3, h4⟩ := hx
  by_cases hu : u = []
  · subst hu
    have hsrc : Src Tryd.prog i0.size 22 (.slice p 0 cap) 0 [] w := by
      cases p with
      | none => exact Src.ofNil (w := w) Tryd.underlying22 cap
      | some a => exact Src.ofSlice (w := w) Tryd.underlying22 a 0 cap [] (by simp) (by simp) (by simp)
    have hs : ∃ q n c, v = .slice q n c ∧ n ≤ c := by
      rcases hown.2 with ⟨rfl, h0⟩ | ⟨g, cap, cur, rfl, hbg, hg, hnc, hcm, hcs, htake⟩
      · exact ⟨none, 0, 0, rfl, Nat.le_refl _⟩
      · exact ⟨_, _, cap, rfl, hnc⟩
    obtain ⟨q, n, c, rfl, hnc⟩ := hs
    refine ⟨_, w, run_append_nothing w 22 22 ty 5 i0 Tryd.underlying22 hi q n c hnc _ hsrc, by rw [List.append_nil]; exact hown, ⟨rfl, rfl, rfl, Nat.le_refl _, fun _ _ _ => rfl⟩⟩
  · obtain ⟨g, o, rfl, hc⟩ : ∃ g o, p = some ⟨g, o, none⟩ ∧ w.rangeAt g o (enc u) := h4.resolve_left hu
    have hpos : 0 < u.length := by cases u with
      | nil => exact absurd rfl hu
      | cons a b => simp
    obtain ⟨g', cap', w', hr, ho, hg, -, -⟩ := run_append_lies (P := Tryd.prog) w 22 ty base 5 i0 (.int .u8 0) 1 1 Tryd.underlying22 hi hz0 hz1 hz2 rfl (by decide) v t.length (enc t) hown ⟨g, o, none⟩ u.length cap (enc u) (by rw [len_enc]; omega) (fun j y hy => by rw [Go.WideShapes.add_plain]; exact hc j y hy) (one_enc u) hpos (by unfold maxLen; omega) (by omega) hbase w.heap.size rfl
    refine ⟨_, w', hr, ?_, hg⟩
    unfold Bts
    rw [List.length_append, enc, List.map_append]
    exact ho
theorem Bts.below {w w' : World} {base : Nat} {v : Value} {t : List UInt8} (h : Bts w base v t) (hg : w.grownBy w' v.ownBlock) (hbase : base ≤ w.heap.size) : Below base w w' :=
  ⟨hg.os, hg.tape, hg.output, hg.size, fun k hk => hg.block k (by omega) (fun e => by have := (World.ownsRow.lt h k e.symm).1; omega)⟩
theorem wpList_app {ops : Array Oper} {rest : List Oper} {o : Oper} {a : Act} {w : World} {Q : Exit → Act → World → Prop} (hgd : o.guard = none) (s x : Operand)
    (ho : o.op = .call { callee := .builtin .append, args := #[s, x], argTypes := #[22, 22] }) (base : Nat) (v y : Value) (t u : List UInt8) (hs : a.eval s = v) (hy : a.eval x = y) (hown : Bts w base v t) (hx : Bs w y u)
    (hlen : t.length + u.length ≤ 140737488355328) (hbase : base ≤ w.heap.size)
    (h : ∀ v' w', Bts w' base v' (t ++ u) → w.grownBy w' v.ownBlock → wpList Tryd.prog ops Q rest (a.put o.dst v') w') : wpList Tryd.prog ops Q (o :: rest) a w :=
  wpList_plain hgd fun _ hK => by
    obtain ⟨v', w', hr, h2, h3⟩ := app_run w base v y t u hown hx hlen hbase o.type
    unfold Oper.wp execOp
    simp only [ho, resolve, invoke, builtin, Sem.run_bind, Sem.run_pure, Result.andThen_ok, List.map_toArray, List.map_cons, List.map_nil, hs, hy, hr]
    exact hK _ _ (h v' w' h2 h3)
end Go.Proofs.YtafnelpcnfmhfaaDoor
