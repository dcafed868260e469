/-
  Cells that are laid one behind the other into zeros: what a built entry of the document's cache is. No walk.
-/
import Derived.Test.YtafnelpcnfmhfaaDoorRfl
namespace Go.Proofs.YtafnelpcnfmhfaaDoor
open Go.RowKit Go.Maps

theorem fill_cells : ∀ (l : List Value) (o i : Nat) (z : Array Value), o + i + l.length ≤ z.size →
    ((l.zipIdx i).foldl (fun cs x => cs.setIfInBounds (o + x.2) x.1) z).toList = z.toList.take (o + i) ++ l ++ z.toList.drop (o + i + l.length)
  | [], o, i, z, h => by simp
  | v :: l, o, i, z, h => by
    rw [List.zipIdx_cons, List.foldl_cons, fill_cells l o (i + 1) _ (by simp at h ⊢; omega)]
    have hlt : o + i < z.toList.length := by simp at h ⊢; omega
    rw [Array.toList_setIfInBounds, List.length_cons, show o + (i + 1) = o + i + 1 by omega, show o + i + (l.length + 1) = o + i + 1 + l.length by omega]
    rw [List.take_set, List.drop_set_of_lt (by omega), List.take_succ_eq_append_getElem hlt, List.set_append_right _ _ (by simp; omega)]
    have hm : min (o + i) z.size = o + i := by simp at hlt; omega
    simp [hm]
/-- The cells of an entry. -/
def ent (k : Nat) (bs : List UInt8) : List Value := .int .i64 k :: enc bs
theorem len_ent (k : Nat) {bs : List UInt8} (h : bs.length = 128) : (ent k bs).length = 129 := by simp [ent, len_enc, h]
theorem one_ent (k : Nat) (bs : List UInt8) : ∀ v ∈ ent k bs, v.oneCell' = true := by
  intro v hv
  rcases List.mem_cons.1 hv with rfl | h
  · rfl
  · exact one_enc bs v h
theorem info86 : (Tryd.prog.info? 86).map (fun i => (i.zero, i.size, i.bytes)) = some (some (.agg (Value.int .i64 0 :: enc zer).toArray), 129, 136) := by kernel_rfl
theorem info3s : (Tryd.prog.info? 3).map (·.size) = some 1 := by kernel_rfl
theorem built86 (k : Nat) (bs : List UInt8) (hl : bs.length = 128) : Tryd.prog.built 86 [(0, .int .i64 k), (1, .agg (encA bs))] = some (ent k bs).toArray := by
  obtain ⟨i, hi, hzz⟩ := Option.map_eq_some_iff.1 info86
  simp only [Prod.mk.injEq] at hzz
  obtain ⟨hz, hs, hb⟩ := hzz
  obtain ⟨i3, hi3, h3⟩ := Option.map_eq_some_iff.1 info3s
  obtain ⟨i48, hi48, h48⟩ := Option.map_eq_some_iff.1 size26
  have hse : (encA bs).size = 128 := by rw [size_encA, hl]
  unfold Program.built
  simp only [hi, Tryd.underlying86, hz, hi3, hi48, h3, h48, List.mapM_cons, List.mapM_nil, Option.map_some, Option.bind_eq_bind, Option.bind_some, Option.pure_def]
  simp [Instr.fill]
  have c1 : (Value.int .i64 k).cells = #[.int .i64 k] := rfl
  have c2 : ∀ c, (Value.agg c).cells = c := fun _ => rfl
  have hz2 : (enc zer).length = 128 := by rw [len_enc, len_zer]
  have f1 : Array.foldl (fun cs x => cs.setIfInBounds x.snd x.fst) (Value.int .i64 0 :: enc zer).toArray (#[Value.int .i64 k] : Array Value).zipIdx 0 (#[Value.int .i64 k] : Array Value).size = (Value.int .i64 k :: enc zer).toArray := by
    simp
  simp only [c1, c2, f1]
  refine ⟨⟨rfl, by simp⟩, ⟨hse, by simp [hse, hz2]⟩, ?_⟩
  have f2 := fill_cells (enc bs) 1 0 (Value.int .i64 k :: enc zer).toArray (by simp [len_enc, hl, len_zer])
  apply Array.ext'
  rw [show (encA bs).size = (encA bs).zipIdx.size by simp, ← Array.foldl_toList]
  have e3 : (encA bs).zipIdx.toList = (enc bs).zipIdx 0 := by simp [encA]
  rw [e3, f2]
  simp [ent, len_enc, hl, len_zer]
theorem slice86 (cs : List Value) (hl : cs.length = 129) (w : World) : (Instr.buildSlice 79 1 #[(0, .agg cs.toArray)]).run Tryd.prog w = .ok (.slice (some ⟨w.heap.size, 0, none⟩) 1 1) (w.alloc (.cells cs.toArray 86)) := by
  obtain ⟨i, hi, hzz⟩ := Option.map_eq_some_iff.1 info86
  simp only [Prod.mk.injEq] at hzz
  obtain ⟨hz, hs, hb⟩ := hzz
  have c2 : ∀ c, (Value.agg c).cells = c := fun _ => rfl
  simp [Instr.buildSlice, run_underlying Tryd.underlying79, sizeOf, typeInfo, zeroValue, hi, hz, hs, Instr.fill, hl, c2]
  have e : List.foldl (fun (cs : Array Value) (x : Value × Nat) => cs.setIfInBounds x.snd x.fst) (Array.map (fun x => (Value.int IntKind.i64 0 :: enc zer)[x % ((enc zer).length + 1)]?.getD default) (Array.range 129)) cs.zipIdx = cs.toArray := by
    have f := fill_cells cs 0 0 (Array.map (fun x => (Value.int IntKind.i64 0 :: enc zer)[x % ((enc zer).length + 1)]?.getD default) (Array.range 129)) (by simp [hl])
    apply Array.ext'
    simp only [Nat.zero_add] at f
    rw [f]
    simp [hl]
  rw [e]
  simp [newRow]
theorem wpList_build86 {ops : Array Oper} {rest : List Oper} {op : Oper} {a : Act} {w : World} {Q : Exit → Act → World → Prop} (hgd : op.guard = none) (x y : Operand) (ho : op.op = .build 86 #[(0, x), (1, y)])
    (k : Nat) (bs : List UInt8) (hl : bs.length = 128) (hx : a.eval x = .int .i64 k) (hy : a.eval y = .agg (encA bs)) (h : wpList Tryd.prog ops Q rest (a.put op.dst (.agg (ent k bs).toArray)) w) : wpList Tryd.prog ops Q (op :: rest) a w := by
  have e : Tryd.prog.built 86 ((#[(0, x), (1, y)] : Array (Nat × Operand)).map fun (i, x) => (i, a.eval x)).toList = some (ent k bs).toArray := by
    simpa [hx, hy] using built86 k bs hl
  refine wpList_build hgd 86 _ ho (by rw [e]; rfl) ?_
  rw [e]
  exact h
theorem wpList_slice86 {ops : Array Oper} {rest : List Oper} {op : Oper} {a : Act} {w : World} {Q : Exit → Act → World → Prop} (hgd : op.guard = none) (x : Operand) (ho : op.op = .buildSlice 79 1 #[(0, x)])
    (cs : List Value) (hl : cs.length = 129) (hx : a.eval x = .agg cs.toArray) (h : wpList Tryd.prog ops Q rest (a.put op.dst (.slice (some ⟨w.heap.size, 0, none⟩) 1 1)) (w.alloc (.cells cs.toArray 86))) : wpList Tryd.prog ops Q (op :: rest) a w :=
  wpList_plain hgd fun _ hK => by
    unfold Oper.wp execOp
    have hr := slice86 cs hl w
    simp only [ho, List.map_toArray, List.map_cons, List.map_nil, hx, Sem.run_bind, hr, Result.andThen_ok, Sem.run_pure]
    exact hK _ _ h
end Go.Proofs.YtafnelpcnfmhfaaDoor
