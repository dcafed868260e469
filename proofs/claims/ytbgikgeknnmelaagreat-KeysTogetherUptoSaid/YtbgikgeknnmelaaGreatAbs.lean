/-
  Appending bytes, be they none or some.
-/
import Derived.Test.YtbgikgeknnmelaaGreatPutB
import Derived.Test.YtbgikgeknnmelaaGreatRdr
namespace Go.Proofs.YtbgikgeknnmelaaGreat
open Go.RowKit
set_option linter.unusedVariables false

theorem Bs.cells {w : World} {v : Value} {t : List UInt8} (h : Bs w v t) (h0 : t ≠ []) : ∃ g o cap, v = .slice (some ⟨g, o, none⟩) t.length cap ∧ t.length ≤ cap ∧ t.length ≤ 9223372036854775807 ∧ ∀ i (hi : i < t.length), w.cell? ⟨g, o + i, none⟩ = some (.int .u8 t[i].toNat) := by
  obtain ⟨p, cap, rfl, h1, h2, h3, h4⟩ := h
  unfold maxLen at h2
  rcases h4 with h4 | ⟨g, o, rfl, hc⟩
  · exact absurd h4 h0
  · exact ⟨g, o, cap, rfl, h1, by omega, hc⟩
theorem run_append_zero {P : Program} (w : World) (t ty e : TypeId) (i : TypeInfo) (ht : P.underlying t = some (.slice e)) (hi : P.info? e = some i) (b q : Option Addr) (n c c2 : Nat) (hn : n ≤ c) :
    (Builtin.append_ #[t, t] ty #[.slice b n c, .slice q 0 c2]).run P w = .ok (.slice b n c) w := by
  cases b <;> cases q <;> simp [Builtin.append_, run_underlying ht, sizeOf, typeInfo, hi, Builtin.lenOf, Builtin.firstCells, hn, storeCells, loadCells, loadCellsFrom]
theorem wpList_append_zero {P : Program} {w : World} {ops : Array Oper} {rest : List Oper} {o : Oper} {a : Act} {Q : Exit → Act → World → Prop} (hgd : o.guard = none) (s x : Operand) (t : TypeId)
    (ho : o.op = .call { callee := .builtin .append, args := #[s, x], argTypes := #[t, t] })
    (e : TypeId) (i : TypeInfo) (ht : P.underlying t = some (.slice e)) (hi : P.info? e = some i) (b q : Option Addr) (n c c2 : Nat) (hn : n ≤ c)
    (hs : a.eval s = .slice b n c) (hx : a.eval x = .slice q 0 c2)
    (h : wpList P ops Q rest (a.put o.dst (.slice b n c)) w) : wpList P ops Q (o :: rest) a w := by
  refine wpList_plain hgd fun K hK => ?_
  have hrun := run_append_zero (P := P) w t o.type e i ht hi b q n c c2 hn
  unfold Oper.wp
  simp [execOp, ho, resolve, invoke, builtin, hs, hx, hrun, Result.andThen]
  exact hK _ _ h
theorem wpList_app_bs (w : World) {ops : Array Oper} {rest : List Oper} {o : Oper} {a : Act} {Q : Exit → Act → World → Prop} (hgd : o.guard = none) (s x : Operand)
    (ho : o.op = .call { callee := .builtin .append, args := #[s, x], argTypes := #[36, 36] }) (base : Nat) (v : Value) (t : List UInt8) (hs : a.eval s = v) (hb : Bts w base v t) (b : Value) (u : List UInt8)
    (hx : a.eval x = b) (hu : Bs w b u) (hlen : t.length + u.length ≤ 140737488355328) (hbase : base ≤ w.heap.size)
    (h : ∀ v' w', Bts w' base v' (t ++ u) → w.grownBy w' v.ownBlock → wpList Tryz.prog ops Q rest (a.put o.dst v') w') : wpList Tryz.prog ops Q (o :: rest) a w := by
  by_cases h0 : u = []
  · subst h0
    obtain ⟨i, hi, hz0, hz1, hz2⟩ := info_parts info5
    obtain ⟨p, cap, rfl, h1, -⟩ := hb.bs.slice
    obtain ⟨q, cap', rfl, -, -⟩ := hu.slice
    refine wpList_append_zero hgd s x 36 ho 5 i Tryz.underlying36 hi p q t.length cap cap' h1 hs hx (h _ _ ?_ (World.grownBy.refl _ _))
    rw [List.append_nil]; exact hb
  · obtain ⟨g, o', cap, rfl, h1, h2, hc⟩ := hu.cells h0
    refine wpList_app_byts w hgd s x ho base v t hs hb ⟨g, o', none⟩ cap u hx (fun j y hy => ?_) hlen hbase h
    rw [List.getElem?_map] at hy
    obtain ⟨d, hd, rfl⟩ := Option.map_eq_some_iff.1 hy
    obtain ⟨hjl, rfl⟩ := List.getElem?_eq_some_iff.1 hd
    rw [Go.WideShapes.add_plain]; exact hc j hjl

end Go.Proofs.YtbgikgeknnmelaaGreat
