/-
  Bytes of one's own; what bytes.Clone does.
  When two sectors are the same.
  Steps of walks over sectors: one is laid, a byte is stored, bytes are copied in.
-/
import Derived.Test.YtnclhjjhobbbjaaDoorZPutn
import Derived.Test.YtnclhjjhobbbjaaDoorZReadNewFlush
import Derived.ChangeKeysEq
import Derived.Great.Walk
import Derived.Laws.IdiomCopy
import Derived.Deep.RegionHeld3
namespace Go.Proofs.YtnclhjjhobbbjaaDoor
open Go.RowKit
set_option linter.unusedVariables false      -- a walk need not use every condition

/-- Bytes of one's own. -/
def Bts (w : World) (base : Nat) (v : Value) (t : List UInt8) : Prop := w.ownsRow base 5 1 v t.length (enc t)
theorem Bts.bs {w : World} {base : Nat} {v : Value} {t : List UInt8} (h : Bts w base v t) : Bs w v t := by
  unfold Bts at h
  rcases h.2 with ⟨rfl, h0⟩ | ⟨g, cap, cur, rfl, hbg, hg, hnc, hcm, hcs, htake⟩
  · have : t = [] := List.eq_nil_of_length_eq_zero h0
    subst this
    exact bs_nil w
  · refine ⟨_, cap, rfl, hnc, hcm, fun e => (by cases e), .inr ⟨g, 0, rfl, fun j u hu => ?_⟩⟩
    have := h.cells (g := g) rfl j u hu
    rw [Go.WideShapes.add_plain] at this
    exact this
theorem Bts.on {w w' : World} {base : Nat} {v : Value} {t : List UInt8} (h : Bts w base v t) (hb : Below w.heap.size w w') : Bts w' base v t := by
  unfold Bts at *
  refine World.ownsRow.kept h (gr_bel hb none) ?_
  cases hv : v.ownBlock with
  | none => exact .inl rfl
  | some g => exact .inr (by simp)
set_option maxHeartbeats 2000000 in
set_option maxRecDepth 100000 in
theorem clone27 (w : World) (v : Value) (t : List UInt8) (hv : Bs w v t) (hbig : t.length ≤ 140737488355328) :
    Calls Tryd.prog 27 #[v] w fun e w' => ∃ v', e = .returned v' ∧ Bts w' w.heap.size v' t ∧ Below w.heap.size w w' := by
  obtain ⟨p, cap, rfl, h1, h2, h3, h4⟩ := hv
  have q22 : ∀ (w : World) (a : Option Addr) (n c n' c' : Nat), (binOp .eql 43 (.slice a n c) (.slice none n' c')).run Tryd.prog w = .ok (.bool a.isNone) w := fun w a n c n' c' => Lib.run_eql_slice_nil w _ _ a n c n' c' Tryd.underlying43
  obtain ⟨i0, hi, hz0, hz1, hz2⟩ := info_parts info5
  cases p with
  | none =>
    have ht : t = [] := List.eq_nil_of_length_eq_zero (by have := h3 rfl; omega)
    subst ht
    go_enter Tryd.func27, Tryd.ntmps27
    go_wp2
    go_ret
    exact ⟨_, rfl, World.ownsRow_nil _ _ _ _, Below.refl _ _⟩
  | some a =>
    have hnews : ∀ j u, (enc t)[j]? = some u → w.cell? (a.add j) = some u := by
      intro j u hu
      rcases h4 with rfl | ⟨g, o, e, hc⟩
      · simp [enc] at hu
      · injection e with e
        subst e
        rw [Go.WideShapes.add_plain]
        exact hc j u hu
    have HN : Hid (∀ j u, (enc t)[j]? = some u → w.cell? (a.add j) = some u) := hnews
    clear hnews h4
    go_enter Tryd.func27, Tryd.ntmps27
    go_wp2_with (at_builtin; refine wpList_append_own _ rfl _ _ 43 rfl w.heap.size 5 i0 (.int .u8 0) 1 1 Tryd.underlying43 hi hz0 hz1 hz2 rfl (by decide) _ _ _ rfl (World.ownsRow_made w #[] 0 (Nat.le_refl _) (Nat.zero_le _) rfl) a t.length cap (enc t) rfl ?qc1 ?qc2 ?qc3 ?qc4 ?qc5 ?qc6 ?_)
    case qc1 => rw [len_enc]; omega
    case qc2 => exact fun j u hu => Lib.cell?_alloc_some _ (HN.out j u hu)
    case qc3 => exact one_enc t
    case qc4 => unfold maxLen; omega
    case qc5 => omega
    case qc6 => simp
    intro v' w1 hown hgrow hnil
    go_wp2
    go_ret
    refine ⟨v', rfl, ?_, ((Below.refl _ w).alloc (Nat.le_refl _) _).grown hgrow (by simp) (by intro k hk; simp [Value.ownBlock] at hk; omega)⟩
    unfold Bts
    simpa using hown
end Go.Proofs.YtnclhjjhobbbjaaDoor
namespace Go.Proofs.YtnclhjjhobbbjaaDoor
open Go.RowKit Go.Maps Go.ChangeMaps Go.MapKept Go.WideShapes

theorem cells5 : Tryd.prog.cellsOf 5 = 1 := by kernel_rfl
theorem items26 (a b : List UInt8) (w : World) : ∀ is : List Nat, (∀ i ∈ is, i < a.length ∧ i < b.length) → (Op.eqItems 9999 5 1 (enc a).toArray (enc b).toArray is).run Tryd.prog w = .ok (is.all fun i => a.getD i 0 == b.getD i 0) w
  | [], _ => by simp [Op.eqItems]
  | i :: is, h => by
    have ih := items26 a b w is fun j hj => h j (by simp [hj])
    obtain ⟨h1, h2⟩ := h i (by simp)
    have e1 : (enc a)[i]? = some (.int .u8 (a.getD i 0).toNat) := by simp [enc, h1]
    have e2 : (enc b)[i]? = some (.int .u8 (b.getD i 0).toNat) := by simp [enc, h2]
    have e3 : (((a.getD i 0).toNat : Int) == ((b.getD i 0).toNat : Int)) = (a.getD i 0 == b.getD i 0) := by
      rw [Bool.eq_iff_iff]
      simp only [beq_iff_eq]
      constructor
      · intro e; exact UInt8.toNat_inj.1 (by omega)
      · intro e; rw [e]
    simp only [Op.eqItems, List.all_cons]
    generalize a.getD i 0 = x at *
    generalize b.getD i 0 = y at *
    simp [go_sem, e1, e2, e3, ih]
    by_cases hxy : x = y <;> simp [hxy]
theorem all_same (a b : List UInt8) (n : Nat) (ha : a.length = n) (hb : b.length = n) : ((List.range n).all fun i => a.getD i 0 == b.getD i 0) = decide (a = b) := by
  rw [Bool.eq_iff_iff, List.all_eq_true, decide_eq_true_iff]
  constructor
  · intro h
    apply List.ext_getElem (by omega)
    intro j h1 h2
    have := h j (List.mem_range.2 (by omega))
    simpa [h1, h2] using this
  · rintro rfl j -
    simp
theorem eq26 (a b : List UInt8) (ha : a.length = 128) (hb : b.length = 128) (w : World) : (Op.equalIn 10000 66 (.agg (enc a).toArray) (.agg (enc b).toArray)).run Tryd.prog w = .ok (decide (a = b)) w := by
  obtain ⟨i, hi⟩ := info_of_underlying Tryd.underlying5
  rw [run_equalIn_array w 9999 _ _ Tryd.underlying66 hi, cells5, items26 a b w _ (fun i hi => by rw [ha, hb]; exact ⟨List.mem_range.1 hi, List.mem_range.1 hi⟩), all_same a b 128 ha hb]
theorem eq26a (a b : List UInt8) (ha : a.length = 128) (hb : b.length = 128) (w : World) : (Op.equalIn 10000 66 (.agg (encA a)) (.agg (encA b))).run Tryd.prog w = .ok (decide (a = b)) w := eq26 a b ha hb w
theorem eq26b (a b : List UInt8) (ha : a.length = 128) (hb : b.length = 128) (w : World) : (Op.equalIn 10000 66 (.agg (enc a).toArray) (.agg (encA b))).run Tryd.prog w = .ok (decide (a = b)) w := eq26 a b ha hb w
end Go.Proofs.YtnclhjjhobbbjaaDoor
namespace Go.Proofs.YtnclhjjhobbbjaaDoor
open Go.RowKit
set_option linter.unusedVariables false      -- a walk need not use every condition

/-- A sector is laid. -/
theorem wpList_alloc26 {ops : Array Oper} {rest : List Oper} {op : Oper} {a : Act} {w : World} {Q : Exit → Act → World → Prop} (hgd : op.guard = none) (ho : op.op = .alloc 66)
    (h : ∀ w', Below w.heap.size w w' → w'.heap.size = w.heap.size + 1 → Sec w' w.heap.size zer → wpList Tryd.prog ops Q rest (a.put op.dst (.pointer (some ⟨w.heap.size, 0, none⟩))) w') : wpList Tryd.prog ops Q (op :: rest) a w :=
  wpList_plain hgd fun _ hK => by
    unfold Oper.wp execOp
    simp only [ho, Sem.run_bind, Instr.alloc, newVar, newRow, Tryd.zeroValue66, run_newObj_alloc, Sem.run_pure, Result.andThen_ok]
    have hz : (Value.agg Tryd.zeroCells66).cells = encA zer := zc
    simp [go_sem]
    rw [zc]
    exact hK _ _ (h _ (bel1 w _) (World.size_alloc w _) (Sec.new w len_zer))
/-- A byte of a sector is stored. -/
theorem wpList_byte {ops : Array Oper} {rest : List Oper} {op : Oper} {a : Act} {w : World} {Q : Exit → Act → World → Prop} (hgd : op.guard = none) (x y : Operand) (ho : op.op = .store 5 x y)
    (g i : Nat) (l : List UInt8) (c : UInt8) (hx : a.eval x = .pointer (some ⟨g, i, none⟩)) (hy : a.eval y = .int .u8 c.toNat) (hS : Sec w g l) (hi : i < 128)
    (h : ∀ w', w.grownBy w' (some g) → w'.heap.size = w.heap.size → Sec w' g (l.set i c) → wpList Tryd.prog ops Q rest (a.put op.dst undef) w') : wpList Tryd.prog ops Q (op :: rest) a w := by
  refine wpList_plain hgd fun _ hK => ?_
  obtain ⟨c1, c2⟩ := hS.cell hi
  have hw := h _ (gr_set w g i (.int .u8 c.toNat)) (by simp [World.setCell]) (hS.set hi c)
  unfold Oper.wp execOp
  simp only [ho, hx, hy]
  simp [go_sem, c1, c2]
  exact hK _ _ hw
end Go.Proofs.YtnclhjjhobbbjaaDoor
