/-
  Bytes in memory of one's own: more behind them, and as a string.
-/
import Derived.Test.YtbgikgeknnmelaaGreatApp
import Derived.Laws.IdiomStrings
import Derived.Laws.BytesArg
namespace Go.Proofs.YtbgikgeknnmelaaGreat
open Go.RowKit

set_option maxRecDepth 20000 in
theorem wpList_append_str (w : World) {ops : Array Oper} {rest : List Oper} {o : Oper} {a : Act} {Q : Exit → Act → World → Prop} (hgd : o.guard = none) (s x : Operand)
    (ho : o.op = .call { callee := .builtin .append, args := #[s, x], argTypes := #[36, 9] }) (hty : o.type = 36) (base : Nat) (v : Value) (n : Nat) (xs : List Value) (hs : a.eval s = v) (hown : w.ownsRow base 5 1 v n xs)
    (t : ByteArray) (hx : a.eval x = .string t) (ht : 0 < t.size ∨ 0 < n) (hb : n + t.size ≤ 140737488355328) (hbase : base ≤ w.heap.size)
    (h : ∀ v' w', w'.ownsRow base 5 1 v' (n + t.size) (xs ++ byteCells t) → w.grownBy w' v.ownBlock → wpList Tryz.prog ops Q rest (a.put o.dst v') w') : wpList Tryz.prog ops Q (o :: rest) a w :=
  wpList_plain hgd fun _ hK => by
    obtain ⟨v', w', hr, h2, h3⟩ := run_append_str w base v n xs hown t ht hb hbase
    unfold Oper.wp execOp
    simp only [ho, hty, resolve, invoke, builtin, Sem.run_bind, Sem.run_pure, Result.andThen_ok, List.map_toArray, List.map_cons, List.map_nil, hs, hx, hr]
    exact hK _ _ (h v' w' h2 h3)

/-- Bytes in memory of one's own. -/
def Bts (w : World) (base : Nat) (b : Value) (t : List UInt8) : Prop := w.ownsRow base 5 1 b t.length (t.map fun c => .int .u8 c.toNat)
theorem bts_app {w : World} {base n : Nat} {b : Value} {t u : List UInt8} (h : w.ownsRow base 5 1 b n (t.map (fun c => Value.int .u8 c.toNat) ++ u.map fun c => Value.int .u8 c.toNat)) (hn : n = t.length + u.length) : Bts w base b (t ++ u) := by
  unfold Bts; rw [List.map_append, List.length_append, ← hn]; exact h

theorem below_app {w0 w w' : World} {v : Value} {n : Nat} {xs : List Value} (hB : Below w0.heap.size w0 w) (hown : w.ownsRow w0.heap.size 5 1 v n xs) (hg : w.grownBy w' v.ownBlock) : Below w0.heap.size w0 w' :=
  hB.grown hg hB.size (fun k e => (hown.lt k e).1)

/-- Bytes of one's own as a string. -/
theorem bts_str {w : World} {base : Nat} {b : Value} {t : List UInt8} (h : Bts w base b t) : (convert 36 9 b).run Tryz.prog w = .ok (.string ⟨t.toArray⟩) w := by
  rcases h.2 with ⟨rfl, h0⟩ | ⟨g, cap, cur, rfl, hbg, hg, hnc, hcm, hcs, htake⟩
  · have : t = [] := List.eq_nil_of_length_eq_zero h0
    subst this
    exact run_convert_bytes_nil w 36 5 Tryz.underlying36 Tryz.underlying5 0 0 9 Tryz.underlying9
  · refine run_convert_bytes_back w 36 9 5 ⟨g, 0, none⟩ cap t Tryz.underlying36 Tryz.underlying5 Tryz.underlying9 fun j hj => ?_
    exact h.cells (g := g) rfl j (.int .u8 t[j].toNat) (by simp [hj])
theorem wpList_app_byts (w : World) {ops : Array Oper} {rest : List Oper} {o : Oper} {a : Act} {Q : Exit → Act → World → Prop} (hgd : o.guard = none) (s x : Operand)
    (ho : o.op = .call { callee := .builtin .append, args := #[s, x], argTypes := #[36, 36] }) (base : Nat) (v : Value) (t : List UInt8) (hs : a.eval s = v) (hb : Bts w base v t) (ad : Addr) (c : Nat) (u : List UInt8)
    (hx : a.eval x = .slice (some ad) u.length c) (hnews : ∀ j y, (u.map fun d => Value.int .u8 d.toNat)[j]? = some y → w.cell? (ad.add j) = some y) (hlen : t.length + u.length ≤ 140737488355328) (hbase : base ≤ w.heap.size)
    (h : ∀ v' w', Bts w' base v' (t ++ u) → w.grownBy w' v.ownBlock → wpList Tryz.prog ops Q rest (a.put o.dst v') w') : wpList Tryz.prog ops Q (o :: rest) a w := by
  obtain ⟨i, hi, hz0, hz1, hz2⟩ := info_parts info5
  refine wpList_append_own w hgd s x 36 ho base 5 i (.int .u8 0) 1 1 Tryz.underlying36 hi hz0 hz1 hz2 rfl (by decide) v _ _ hs hb ad u.length c (u.map fun d => Value.int .u8 d.toNat) hx (by simp) hnews ?_ (by unfold maxLen; omega) (by omega) hbase fun v' w' h1 h2 _ => h v' w' ?_ h2
  · intro y hy
    obtain ⟨d, -, rfl⟩ := List.mem_map.1 hy
    rfl
  · exact bts_app h1 rfl
theorem wpList_app_str (w : World) {ops : Array Oper} {rest : List Oper} {o : Oper} {a : Act} {Q : Exit → Act → World → Prop} (hgd : o.guard = none) (s x : Operand)
    (ho : o.op = .call { callee := .builtin .append, args := #[s, x], argTypes := #[36, 9] }) (hty : o.type = 36) (base : Nat) (v : Value) (t : List UInt8) (hs : a.eval s = v) (hb : Bts w base v t)
    (u : ByteArray) (hx : a.eval x = .string u) (hu : 0 < u.size ∨ 0 < t.length) (hlen : t.length + u.size ≤ 140737488355328) (hbase : base ≤ w.heap.size)
    (h : ∀ v' w', Bts w' base v' (t ++ u.data.toList) → w.grownBy w' v.ownBlock → wpList Tryz.prog ops Q rest (a.put o.dst v') w') : wpList Tryz.prog ops Q (o :: rest) a w :=
  wpList_append_str w hgd s x ho hty base v _ _ hs hb u hx hu hlen hbase fun v' w' h1 h2 => h v' w' (bts_app h1 (by rw [Array.length_toList]; rfl)) h2
end Go.Proofs.YtbgikgeknnmelaaGreat
