/-
  Bytes in memory, wherever they lie and of one's own; bytes.Equal; more put behind bytes of one's own.
-/
import Derived.WalkKit
import Derived.Test.YtbkpgppaahpalaaChecked
import Derived.Lib.SliceRun
import Derived.Lib.Hide
import Derived.Laws.AppendOwnNone
import Derived.Laws.IdiomStrings
import Derived.Laws.BytesArg
import Derived.Deep.AppendLies
import Derived.Deep.Upon
import Derived.RangeFuncBox
import Derived.Deep.LoopGhost
import Derived.Laws.ResultCell
import Derived.Deep.MidRow
namespace Go.Proofs.Ytbkpgppaahpalaa
open Go.RowKit
set_option linter.unusedVariables false      -- a walk need not use every condition

/-- A sector's cells. -/
def enc (bs : List UInt8) : List Value := bs.map fun c => Value.int .u8 c.toNat
theorem len_enc (bs : List UInt8) : (enc bs).length = bs.length := by simp [enc]
theorem one_enc (bs : List UInt8) : ∀ v ∈ enc bs, v.oneCell' = true := by
  intro v hv
  obtain ⟨c, -, rfl⟩ := List.mem_map.1 hv
  rfl
theorem enc_inj {a b : List UInt8} (h : enc a = enc b) : a = b := by
  unfold enc at h
  refine (List.map_inj_right fun x y e => ?_).1 h
  injection e with _ e
  exact UInt8.toNat_inj.1 (by omega)

theorem gr_set (w : World) (r i : Nat) (u : Value) : w.grownBy (w.setCell ⟨r, i, none⟩ u) (some r) :=
  ⟨rfl, rfl, rfl, by simp [World.setCell], fun _ _ hk => Below.heap_setCell _ _ _ _ (fun e => hk (by rw [e]))⟩
theorem gr_bel {w w' : World} (h : Below w.heap.size w w') (row : Option Nat) : w.grownBy w' row := ⟨h.os, h.tape, h.output, h.size, fun k hk _ => h.block k hk⟩
theorem bel1 (w : World) (o : Obj) : Below w.heap.size w (w.alloc o) := (Below.refl _ w).alloc (Nat.le_refl _) o
theorem blk_on {w w' : World} (h : Below w.heap.size w w') {g : Nat} {o : Obj} (e : w.heap[g]? = some o) : w'.heap[g]? = some o :=
  (h.block g (Array.getElem?_eq_some_iff.1 e).1).trans e



theorem info5 : (Try.prog.info? 5).map (fun i => (i.zero, i.size, i.bytes)) = some (some (.int .u8 0), 1, 1) := by kernel_rfl
/-- Bytes that lie somewhere: none of them, whatever the address, or from an address on. -/
def Bs (w : World) (v : Value) (t : List UInt8) : Prop := ∃ p cap, v = .slice p t.length cap ∧ t.length ≤ cap ∧ cap ≤ maxLen ∧ (p = none → cap = 0) ∧
  (t = [] ∨ ∃ g o, p = some ⟨g, o, none⟩ ∧ w.rangeAt g o (enc t))
theorem bs_nil (w : World) : Bs w (.slice none 0 0) [] := ⟨none, 0, rfl, Nat.le_refl _, by unfold maxLen; omega, fun _ => rfl, .inl rfl⟩
theorem range_on {w w' : World} {g o : Nat} {cs : List Value} (h : w.rangeAt g o cs) (hb : Below w.heap.size w w') : w'.rangeAt g o cs := fun j v hv => by
  have h1 := h j v hv
  have hlt := World.block_lt_of_cell? w ⟨g, o + j, none⟩ h1
  exact (World.cell?_of_block (w := w) (a := ⟨g, o + j, none⟩) (hb.block _ hlt)).trans h1
theorem Bs.on {w w' : World} {v : Value} {t : List UInt8} (h : Bs w v t) (hb : Below w.heap.size w w') : Bs w' v t := by
  obtain ⟨p, cap, rfl, h1, h2, h3, h4⟩ := h
  refine ⟨p, cap, rfl, h1, h2, h3, ?_⟩
  rcases h4 with h4 | ⟨g, o, rfl, hc⟩
  · exact .inl h4
  · exact .inr ⟨g, o, rfl, range_on hc hb⟩
theorem Bs.len {w : World} {v : Value} {t : List UInt8} (h : Bs w v t) : t.length ≤ maxLen := by
  obtain ⟨p, cap, rfl, h1, h2, -⟩ := h
  omega
theorem enc_at {t : List UInt8} {i : Nat} (h : i < t.length) : (enc t)[i]? = some (.int .u8 (t.getD i 0).toNat) := by simp [enc, h]
theorem bs_cell {w : World} {g o : Nat} {t : List UInt8} (hc : w.rangeAt g o (enc t)) {i : Nat} (h : i < t.length) : w.cell? ⟨g, o + i, none⟩ = some (.int .u8 (t.getD i 0).toNat) := hc i _ (enc_at h)

/-- As a string. -/
theorem Bs.str {w : World} {v : Value} {t : List UInt8} (h : Bs w v t) : (convert 27 9 v).run Try.prog w = .ok (.string ⟨t.toArray⟩) w := by
  obtain ⟨p, cap, rfl, h1, h2, h3, h4⟩ := h
  rcases h4 with rfl | ⟨g, o, rfl, hc⟩
  · cases p with
    | none => exact run_convert_bytes_nil w 27 5 Try.underlying27 Try.underlying5 0 cap 9 Try.underlying9
    | some a => exact run_convert_bytes_back w 27 9 5 a cap [] Try.underlying27 Try.underlying5 Try.underlying9 fun j hj => absurd hj (Nat.not_lt_zero _)
  · refine run_convert_bytes_back w 27 9 5 ⟨g, o, none⟩ cap t Try.underlying27 Try.underlying5 Try.underlying9 fun j hj => ?_
    rw [Go.WideShapes.add_plain]
    have := bs_cell hc hj
    rwa [List.getD_eq_getElem?_getD, List.getElem?_eq_getElem hj] at this
theorem arr_beq (t u : List UInt8) : ((⟨t.toArray⟩ : ByteArray).toList == (⟨u.toArray⟩ : ByteArray).toList) = (t == u) := by
  rw [ByteArray.toList_eq, ByteArray.toList_eq]
set_option maxHeartbeats 1000000 in
theorem equal17 (w : World) (a b : Value) (t u : List UInt8) (ha : Bs w a t) (hb : Bs w b u) :
    Calls Try.prog 17 #[a, b] w fun e w' => e = .returned (.bool (t == u)) ∧ w' = w := by
  have c1 := ha.str
  have c2 := hb.str
  rw [← arr_beq]
  generalize (⟨t.toArray⟩ : ByteArray) = s1 at *
  generalize (⟨u.toArray⟩ : ByteArray) = s2 at *
  obtain ⟨p, cap, rfl, -⟩ := ha
  obtain ⟨q, cap', rfl, -⟩ := hb
  go_enter Try.func17, Try.ntmps17
  go_wp2
  go_ret
  exact ⟨rfl, rfl⟩

set_option linter.unusedVariables false      -- a walk need not use every condition

/-- Bytes of one's own. -/
def Bts (w : World) (base : Nat) (v : Value) (t : List UInt8) : Prop := w.ownsRow base 5 1 v t.length (enc t)
theorem Bts.bs {w : World} {base : Nat} {v : Value} {t : List UInt8} (h : Bts w base v t) : Bs w v t := by
  unfold Bts at h
  rcases h.2 with ⟨rfl, h0⟩ | ⟨g, cap, cur, rfl, hbg, hg, hnc, hcm, hcs, htake⟩
  · have : t = [] := List.eq_nil_of_length_eq_zero h0
    subst this
    exact bs_nil w
  · refine ⟨_, cap, rfl, hnc, hcm, fun e => (by cases e), .inr ⟨g, 0, rfl, fun j u hu => ?_⟩⟩
    have := h.cells (g := g) rfl j u hu
    rw [Go.WideShapes.add_plain] at this
    exact this
theorem Bts.on {w w' : World} {base : Nat} {v : Value} {t : List UInt8} (h : Bts w base v t) (hb : Below w.heap.size w w') : Bts w' base v t := by
  unfold Bts at *
  refine World.ownsRow.kept h (gr_bel hb none) ?_
  cases hv : v.ownBlock with
  | none => exact .inl rfl
  | some g => exact .inr (by simp)
set_option linter.unusedVariables false      -- a walk need not use every condition

theorem app_run (w : World) (base : Nat) (v x : Value) (t u : List UInt8) (hown : Bts w base v t) (hx : Bs w x u) (hlen : t.length + u.length ≤ 140737488355328) (hbase : base ≤ w.heap.size) (ty : TypeId) :
    ∃ v' w', (Builtin.append_ #[27, 27] ty #[v, x]).run Try.prog w = .ok v' w' ∧ Bts w' base v' (t ++ u) ∧ w.grownBy w' v.ownBlock := by
  obtain ⟨i0, hi, hz0, hz1, hz2⟩ := info_parts info5
  obtain ⟨p, cap, rfl, h1, h2, h3, h4⟩ := hx
  by_cases hu : u = []
  · subst hu
    have hsrc : Src Try.prog i0.size 27 (.slice p 0 cap) 0 [] w := by
      cases p with
      | none => exact Src.ofNil (w := w) Try.underlying27 cap
      | some a => exact Src.ofSlice (w := w) Try.underlying27 a 0 cap [] (by simp) (by simp) (by simp)
    have hs : ∃ q n c, v = .slice q n c ∧ n ≤ c := by
      rcases hown.2 with ⟨rfl, h0⟩ | ⟨g, cap, cur, rfl, hbg, hg, hnc, hcm, hcs, htake⟩
      · exact ⟨none, 0, 0, rfl, Nat.le_refl _⟩
      · exact ⟨_, _, cap, rfl, hnc⟩
    obtain ⟨q, n, c, rfl, hnc⟩ := hs
    refine ⟨_, w, run_append_nothing w 27 27 ty 5 i0 Try.underlying27 hi q n c hnc _ hsrc, by rw [List.append_nil]; exact hown, ⟨rfl, rfl, rfl, Nat.le_refl _, fun _ _ _ => rfl⟩⟩
  · obtain ⟨g, o, rfl, hc⟩ : ∃ g o, p = some ⟨g, o, none⟩ ∧ w.rangeAt g o (enc u) := h4.resolve_left hu
    have hpos : 0 < u.length := by cases u with
      | nil => exact absurd rfl hu
      | cons a b => simp
    obtain ⟨g', cap', w', hr, ho, hg, -, -⟩ := run_append_lies (P := Try.prog) w 27 ty base 5 i0 (.int .u8 0) 1 1 Try.underlying27 hi hz0 hz1 hz2 rfl (by decide) v t.length (enc t) hown ⟨g, o, none⟩ u.length cap (enc u) (by rw [len_enc]; omega) (fun j y hy => by rw [Go.WideShapes.add_plain]; exact hc j y hy) (one_enc u) hpos (by unfold maxLen; omega) (by omega) hbase w.heap.size rfl
    refine ⟨_, w', hr, ?_, hg⟩
    unfold Bts
    rw [List.length_append, enc, List.map_append]
    exact ho
theorem Bts.below {w w' : World} {base : Nat} {v : Value} {t : List UInt8} (h : Bts w base v t) (hg : w.grownBy w' v.ownBlock) (hbase : base ≤ w.heap.size) : Below base w w' :=
  ⟨hg.os, hg.tape, hg.output, hg.size, fun k hk => hg.block k (by omega) (fun e => by have := (World.ownsRow.lt h k e.symm).1; omega)⟩
theorem wpList_app {ops : Array Oper} {rest : List Oper} {o : Oper} {a : Act} {w : World} {Q : Exit → Act → World → Prop} (hgd : o.guard = none) (s x : Operand)
    (ho : o.op = .call { callee := .builtin .append, args := #[s, x], argTypes := #[27, 27] }) (base : Nat) (v y : Value) (t u : List UInt8) (hs : a.eval s = v) (hy : a.eval x = y) (hown : Bts w base v t) (hx : Bs w y u)
    (hlen : t.length + u.length ≤ 140737488355328) (hbase : base ≤ w.heap.size)
    (h : ∀ v' w', Bts w' base v' (t ++ u) → w.grownBy w' v.ownBlock → wpList Try.prog ops Q rest (a.put o.dst v') w') : wpList Try.prog ops Q (o :: rest) a w :=
  wpList_plain hgd fun _ hK => by
    obtain ⟨v', w', hr, h2, h3⟩ := app_run w base v y t u hown hx hlen hbase o.type
    unfold Oper.wp execOp
    simp only [ho, resolve, invoke, builtin, Sem.run_bind, Sem.run_pure, Result.andThen_ok, List.map_toArray, List.map_cons, List.map_nil, hs, hy, hr]
    exact hK _ _ (h v' w' h2 h3)

theorem own_bel {w w' : World} {base : Nat} {e : TypeId} {size : Nat} {v : Value} {n : Nat} {xs : List Value} (h : w.ownsRow base e size v n xs) (hb : Below w.heap.size w w') : w'.ownsRow base e size v n xs := by
  refine World.ownsRow.kept h (gr_bel hb none) ?_
  cases hv : v.ownBlock with
  | none => exact .inl rfl
  | some g => exact .inr (by simp)
/-- Rows of two types are not one. -/
theorem own_types {w : World} {b1 b2 : Nat} {e1 e2 : TypeId} {s1 s2 : Nat} {v1 v2 : Value} {n1 n2 : Nat} {x1 x2 : List Value} (h1 : w.ownsRow b1 e1 s1 v1 n1 x1) (h2 : w.ownsRow b2 e2 s2 v2 n2 x2) (hne : e1 ≠ e2) : v1.ownBlock = none ∨ v1.ownBlock ≠ v2.ownBlock := by
  rcases h1.2 with ⟨rfl, -⟩ | ⟨g, cap, cur, rfl, -, hg, -⟩
  · exact .inl rfl
  · refine .inr fun e => ?_
    rcases h2.2 with ⟨rfl, -⟩ | ⟨g2, cap2, cur2, rfl, -, hg2, -⟩
    · cases e
    · injection e with e
      have e : g = g2 := e
      subst e
      rw [hg] at hg2
      injection hg2 with hg2
      injection hg2 with _ hg2
      exact hne hg2
theorem Bts.mono {w : World} {b b' : Nat} {v : Value} {t : List UInt8} (h : Bts w b' v t) (hb : b ≤ b') : Bts w b v t := by
  refine ⟨h.1, ?_⟩
  rcases h.2 with h | ⟨g, cap, cur, rfl, hbg, r⟩
  · exact .inl h
  · exact .inr ⟨g, cap, cur, rfl, Nat.le_trans hb hbg, r⟩

theorem range_take {w : World} {g o : Nat} {t : List UInt8} (h : w.rangeAt g o (enc t)) (n : Nat) : w.rangeAt g o (enc (t.take n)) := fun j v hv => by
  refine h j v ?_
  unfold enc at *
  rw [List.map_take, List.getElem?_take] at hv
  split at hv
  · exact hv
  · cases hv
theorem range_drop {w : World} {g o : Nat} {t : List UInt8} (h : w.rangeAt g o (enc t)) (n : Nat) : w.rangeAt g (o + n) (enc (t.drop n)) := fun j v hv => by
  unfold enc at *
  rw [List.map_drop, List.getElem?_drop] at hv
  have := h (n + j) v hv
  rwa [← Nat.add_assoc] at this
/-- A piece that is sliced off, of whatever room. -/
theorem bs_take {w : World} {g o cap n c : Nat} {t : List UInt8} (h : Bs w (.slice (some ⟨g, o, none⟩) t.length cap) t) (hn : n ≤ t.length) (hc : n ≤ c) (hc2 : c ≤ cap) : Bs w (.slice (some ⟨g, o, none⟩) n c) (t.take n) := by
  obtain ⟨p, cap', e, h1, h2, h3, h4⟩ := h
  injection e with e1 e2 e3
  subst e1 e3
  refine ⟨_, c, by rw [List.length_take, Nat.min_eq_left hn], by rw [List.length_take]; omega, by omega, fun e => (by cases e), ?_⟩
  rcases h4 with rfl | ⟨g', o', e, hr⟩
  · exact .inl (by simp)
  · injection e with e
    injection e with e1 e2
    subst e1 e2
    exact .inr ⟨_, _, rfl, range_take hr n⟩
theorem bs_drop {w : World} {g o cap n : Nat} {t : List UInt8} (h : Bs w (.slice (some ⟨g, o, none⟩) t.length cap) t) (hn : n ≤ t.length) : Bs w (.slice (some ⟨g, o + n, none⟩) (t.length - n) (cap - n)) (t.drop n) := by
  obtain ⟨p, cap', e, h1, h2, h3, h4⟩ := h
  injection e with e1 e2 e3
  subst e1 e3
  refine ⟨_, cap - n, by rw [List.length_drop], by rw [List.length_drop]; omega, by omega, fun e => (by cases e), ?_⟩
  rcases h4 with rfl | ⟨g', o', e, hr⟩
  · exact .inl (by simp)
  · injection e with e
    injection e with e1 e2
    subst e1 e2
    exact .inr ⟨_, _, rfl, range_drop hr n⟩
/-- Bytes, one of them at least, lie at an address. -/
theorem bs_some {w : World} {v : Value} {t : List UInt8} (h : Bs w v t) (h0 : 0 < t.length) : ∃ g o cap, v = .slice (some ⟨g, o, none⟩) t.length cap ∧ t.length ≤ cap ∧ cap ≤ maxLen := by
  obtain ⟨p, cap, rfl, h1, h2, h3, h4⟩ := h
  obtain ⟨g, o, rfl, -⟩ := h4.resolve_left (fun e => by rw [e] at h0; simp at h0)
  exact ⟨g, o, cap, rfl, h1, h2⟩
theorem cell_new (w : World) (y : Value) (t : TypeId) : (w.alloc (.cells #[y] t)).cell? ⟨w.heap.size, 0, none⟩ = some y := (Boxed.new w t y).cell


theorem Bs.slice {w : World} {v : Value} {t : List UInt8} (h : Bs w v t) : ∃ p cap, v = .slice p t.length cap ∧ t.length ≤ cap ∧ t.length ≤ 9223372036854775807 := by
  obtain ⟨p, cap, e, h1, h2, -⟩ := h
  unfold maxLen at h2
  exact ⟨p, cap, e, h1, by omega⟩
theorem enc_get {t : List UInt8} {i : Nat} (h : i < t.length) : (enc t)[i]? = some (.int .u8 t[i].toNat) := by simp [enc, h]
theorem Bs.cells {w : World} {v : Value} {t : List UInt8} (h : Bs w v t) (h0 : t ≠ []) : ∃ g o cap, v = .slice (some ⟨g, o, none⟩) t.length cap ∧ t.length ≤ cap ∧ t.length ≤ 9223372036854775807 ∧ ∀ i (hi : i < t.length), w.cell? ⟨g, o + i, none⟩ = some (.int .u8 t[i].toNat) := by
  obtain ⟨p, cap, rfl, h1, h2, h3, h4⟩ := h
  unfold maxLen at h2
  rcases h4 with h4 | ⟨g, o, rfl, hc⟩
  · exact absurd h4 h0
  · exact ⟨g, o, cap, rfl, h1, by omega, fun i hi => hc i _ (enc_get hi)⟩
/-- The first n of them. -/
theorem Bs.take {w : World} {p : Option Addr} {t : List UInt8} {cap n : Nat} (h : Bs w (.slice p t.length cap) t) (hn : n ≤ t.length) : Bs w (.slice p n cap) (t.take n) := by
  obtain ⟨p', cap', e, h1, h2, h3, h4⟩ := h
  injection e with e1 e2 e3
  subst e1 e3
  have hl : (t.take n).length = n := by simp; omega
  refine ⟨p, cap, by rw [hl], by omega, h2, h3, ?_⟩
  rcases h4 with rfl | ⟨g, o, rfl, hc⟩
  · exact .inl (by simp)
  · exact .inr ⟨g, o, rfl, range_take hc n⟩
/-- All but the first n. -/
theorem Bs.drop {w : World} {p : Option Addr} {t : List UInt8} {cap n : Nat} (h : Bs w (.slice p t.length cap) t) (hn : n ≤ t.length) : Bs w (.slice (if cap = n then p else p.map (·.add n)) (t.length - n) (cap - n)) (t.drop n) := by
  obtain ⟨p', cap', e, h1, h2, h3, h4⟩ := h
  injection e with e1 e2 e3
  subst e1 e3
  refine ⟨_, cap - n, by rw [List.length_drop], by rw [List.length_drop]; omega, by omega, fun e => ?_, ?_⟩
  · by_cases hcn : cap = n
    · omega
    · rw [if_neg hcn] at e
      have : p = none := by simpa using e
      have := h3 this
      omega
  · by_cases hd : t.length = n
    · exact .inl (List.drop_eq_nil_of_le (by omega))
    · rcases h4 with rfl | ⟨g, o, rfl, hc⟩
      · exact .inl (by simp)
      · refine .inr ⟨g, o + n, by rw [if_neg (by omega)]; simp [go_sem], range_drop hc n⟩
/-- A byte that was just laid. -/
theorem bs_one (w : World) (c : UInt8) {x : Int} (hx : x = c.toNat) : Bs (w.alloc (.cells #[.int .u8 x] 5)) (.slice (some ⟨w.heap.size, 0, none⟩) 1 1) [c] := by
  subst hx
  refine ⟨_, 1, rfl, by simp, by unfold maxLen; omega, fun e => (by cases e), .inr ⟨_, _, rfl, fun j v hv => ?_⟩⟩
  cases j with
  | zero =>
    simp [enc] at hv
    subst hv
    exact cell_new w _ _
  | succ j => simp [enc] at hv
end Go.Proofs.Ytbkpgppaahpalaa
