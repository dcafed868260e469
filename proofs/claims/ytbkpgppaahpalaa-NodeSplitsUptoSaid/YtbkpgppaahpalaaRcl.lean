/-
  Which nodes may be: the document's Check, all of it.
-/
import Derived.Test.YtbkpgppaahpalaaRck
import Derived.Laws.Cover1
import Derived.Laws.Cover2
namespace Go.Proofs.Ytbkpgppaahpalaa
open Go.RowKit Go.Sort
set_option linter.unusedVariables false      -- a walk need not use every condition

theorem bthen {a b c : World} (h : Below a.heap.size a b) (k : Below b.heap.size b c) : Below a.heap.size a c := h.trans (k.mono h.size)
theorem key42b (w : World) (b : Value) (t : List UInt8) (hb : Bs w b t) : Calls Try.prog 42 #[b] w fun e w' => e = .returned (.bool (keyOk t)) ∧ Below w.heap.size w w' :=
  (key42 w b t hb).mono fun e w' ⟨h1, h2⟩ => ⟨h1, by rw [h2]; exact Below.refl _ _⟩
def shp (n : Nd) : Bool := if n.leaf then decide (n.keys.length + n.kids.length = 0) else decide (n.cells.length = 0) && decide (n.kids.length = n.keys.length + 1)
theorem may_split (n : Nd) : may n = (shp n && (mayC [] n.cells && (mayK [] n.keys && n.kids.all pageOk))) := by
  unfold may shp leafOk innerOk
  cases n.leaf with
  | true =>
    simp only [if_true]
    cases hk : n.keys with
    | nil =>
      cases hi : n.kids with
      | nil => simp [mayK]
      | cons a l => simp
    | cons a l => simp
  | false =>
    simp only [Bool.false_eq_true, if_false]
    cases hc : n.cells with
    | nil => simp [mayC, Bool.and_assoc]
    | cons a l => simp
/-- The key ahead of the place i. -/
def pkC (L : List C) : Nat → List UInt8
  | 0 => []
  | i + 1 => ((L[i]?).map C.key).getD []
def pkK (L : List (List UInt8)) : Nat → List UInt8
  | 0 => []
  | i + 1 => (L[i]?).getD []
theorem mayC_step {L : List C} {i : Nat} (h : i < L.length) : mayC (pkC L i) (L.drop i) = (fol (pkC L i) L[i].key && valOk L[i] && mayC (pkC L (i + 1)) (L.drop (i + 1))) := by
  rw [List.drop_eq_getElem_cons h]
  have e : pkC L (i + 1) = L[i].key := by unfold pkC; simp [h]
  rw [e]
  rfl
theorem mayK_step {L : List (List UInt8)} {i : Nat} (h : i < L.length) : mayK (pkK L i) (L.drop i) = (fol (pkK L i) L[i] && mayK (pkK L (i + 1)) (L.drop (i + 1))) := by
  rw [List.drop_eq_getElem_cons h]
  have e : pkK L (i + 1) = L[i] := by unfold pkK; simp [h]
  rw [e]
  rfl
theorem all_step {L : List Int} {i : Nat} (h : i < L.length) : (L.drop i).all pageOk = (pageOk L[i] && (L.drop (i + 1)).all pageOk) := by
  rw [List.drop_eq_getElem_cons h]
  rfl
theorem pkC_succ {L : List C} {j : Nat} (h : j < L.length) : pkC L (j + 1) = L[j].key := by unfold pkC; simp [h]
theorem pkK_succ {L : List (List UInt8)} {j : Nat} (h : j < L.length) : pkK L (j + 1) = L[j] := by unfold pkK; simp [h]
theorem mixed : Try.prog.follows .mixedOrders = true := by kernel_rfl
set_option maxHeartbeats 2000000 in
theorem check_leaf_no (w : World) (v : Value) (n : Nd) (h : NdS w v n) (hk : n.keys.length ≤ 1152921504606846976) (hi : n.kids.length ≤ 1152921504606846976) (hL : n.leaf = true) (hs : ¬ n.keys.length + n.kids.length = 0) :
    Calls Try.prog 14 #[v] w fun e w' => e = .returned (.int .i64 (chkE false)) ∧ Below w.heap.size w w' := by
  obtain ⟨vc, vk, vi, rfl, hC, hK, hI⟩ := h
  have HC := Lib.hid hC
  have HK := Lib.hid hK
  have HI := Lib.hid hI
  obtain ⟨pc, cc, rfl, -, lc⟩ := hC.hdr
  obtain ⟨pk, ck, rfl, -, lk⟩ := hK.hdr
  obtain ⟨pi, ci, rfl, -, li⟩ := hI.hdr
  clear hC hK hI
  rw [hL]
  have hsz : (0 : Int) < (n.keys.length : Int) + (n.kids.length : Int) := by omega
  have hB := Lib.hid (bel1 w (Obj.cells #[.bool true, .slice pc n.cells.length cc, .slice pk n.keys.length ck, .slice pi n.kids.length ci] 26))
  go_enter Try.func14, Try.ntmps14
  go_wp2
  go_ret
  exact ⟨rfl, hB.out⟩
set_option maxHeartbeats 2000000 in
theorem check_inner_no (w : World) (v : Value) (n : Nd) (h : NdS w v n) (hk : n.keys.length ≤ 1152921504606846976) (hi : n.kids.length ≤ 1152921504606846976) (hL : n.leaf = false) (hs : ¬ (n.cells.length = 0 ∧ n.kids.length = n.keys.length + 1)) :
    Calls Try.prog 14 #[v] w fun e w' => e = .returned (.int .i64 (chkE false)) ∧ Below w.heap.size w w' := by
  obtain ⟨vc, vk, vi, rfl, hC, hK, hI⟩ := h
  have HC := Lib.hid hC
  have HK := Lib.hid hK
  have HI := Lib.hid hI
  obtain ⟨pc, cc, rfl, -, lc⟩ := hC.hdr
  obtain ⟨pk, ck, rfl, -, lk⟩ := hK.hdr
  obtain ⟨pi, ci, rfl, -, li⟩ := hI.hdr
  clear hC hK hI
  rw [hL]
  have hB := Lib.hid (bel1 w (Obj.cells #[.bool false, .slice pc n.cells.length cc, .slice pk n.keys.length ck, .slice pi n.kids.length ci] 26))
  by_cases h0 : n.cells.length = 0
  · have z0 : ¬ (0 : Int) < (n.cells.length : Int) := by omega
    have z1 : ((n.kids.length : Int) == (n.keys.length : Int) + 1) = false := by simp; omega
    have z2 : ((n.kids.length : Int) != (n.keys.length : Int) + 1) = true := by simp; omega
    have z3 : (decide (0 < n.cells.length)) = false := decide_eq_false (by omega)
    generalize n.cells.length = N at *
    clear h0 hs HC
    go_enter Try.func14, Try.ntmps14
    go_wp2
    go_ret
    exact ⟨rfl, hB.out⟩
  · have z0 : (0 : Int) < (n.cells.length : Int) := by omega
    go_enter Try.func14, Try.ntmps14
    go_wp2
    go_ret
    exact ⟨rfl, hB.out⟩
set_option maxHeartbeats 8000000 in
set_option maxRecDepth 100000 in
theorem check_leaf_yes (w : World) (v : Value) (n : Nd) (h : NdS w v n) (hk : n.keys.length ≤ 1152921504606846976) (hi : n.kids.length ≤ 1152921504606846976) (hL : n.leaf = true) (hs : n.keys.length + n.kids.length = 0) :
    Calls Try.prog 14 #[v] w fun e w' => e = .returned (.int .i64 (chkE (mayC [] n.cells && (mayK [] n.keys && n.kids.all pageOk)))) ∧ Below w.heap.size w w' := by
  obtain ⟨vc, vk, vi, rfl, hC, hK, hI⟩ := h
  have HC := Lib.hid hC
  have HK := Lib.hid hK
  have HI := Lib.hid hI
  obtain ⟨pc, cc, rfl, -, lc⟩ := hC.hdr
  obtain ⟨pk, ck, rfl, -, lk⟩ := hK.hdr
  obtain ⟨pi, ci, rfl, -, li⟩ := hI.hdr
  clear hC hK hI
  rw [hL]
  have hsz : ¬ (0 : Int) < (n.keys.length : Int) + (n.kids.length : Int) := by omega
  have hB := Lib.hid (bel1 w (Obj.cells #[.bool true, .slice pc n.cells.length cc, .slice pk n.keys.length ck, .slice pi n.kids.length ci] 26))
  have hA := Lib.hid (World.alloc_heap_new w (Obj.cells #[.bool true, .slice pc n.cells.length cc, .slice pk n.keys.length ck, .slice pi n.kids.length ci] 26))
  obtain ⟨Res, hRes⟩ : ∃ R, (mayC [] n.cells && (mayK [] n.keys && n.kids.all pageOk)) = R := ⟨_, rfl⟩
  rw [hRes]
  have HR := Lib.hid hRes
  clear hRes
  generalize hN : n.cells.length = N at *
  have HN := Lib.hid hN
  clear hN
  generalize hM : n.keys.length = M at *
  have HM := Lib.hid hM
  clear hM
  generalize hP : n.kids.length = P at *
  have HP := Lib.hid hP
  clear hP
  have c41 := cell41
  have c42 := key42b
  go_enter Try.func14, Try.ntmps14
  go_wp2
  clear hk hi
  go_loopg [3] N (fun g s3 wr => ∃ (i : Nat), i + g = N ∧ s3 = .int .i64 i ∧ Hid (Below w.heap.size w wr) ∧ Hid (wr.heap[w.heap.size]? = some (Obj.cells #[.bool true, .slice pc N cc, .slice pk M ck, .slice pi P ci] 26)) ∧ Hid ((mayC (pkC n.cells i) (n.cells.drop i) && (mayK [] n.keys && n.kids.all pageOk)) = Res))
  case atStart => exact ⟨0, by omega, rfl, hB.out, hA.out, HR.out⟩
  case round =>
    obtain ⟨i, hig, rfl, hb, hba, hm⟩ := hrel
    obtain ⟨a0, a1, a2, a3⟩ := four_of hba.out
    cases gk with
    | succ g =>
      have hi : i < n.cells.length := by have := HN.out; omega
      have hiz : (i : Int) < (N : Int) := by omega
      have hi0 : (0 : Int) ≤ (i : Int) := by omega
      obtain ⟨g0, o0, cap0, k, x, e, z0, z1, z2, z3, hBk, hBx, hIo, hIl⟩ := (HC.out.on hb.out).at hi
      injection e with e1 e2 e3
      subst e1 e3
      have hm' := hm.out
      rw [mayC_step hi] at hm'
      have HM' := Lib.hid hm'
      clear hm hm' e2
      have HA := Lib.hid hba.out
      have q41 : ∀ d os, Calls Try.prog 41 #[.agg #[k, x, .int .i64 n.cells[i].over, .int .i64 n.cells[i].len]] (grow (redrawn wr d) os) fun e w'' => e = .returned (.bool (keyOk n.cells[i].key && valOk n.cells[i])) ∧ ∃ p : Regrown, w'' = grow (redrawn wr p.d) p.os := fun d os => Calls.regrown_of (c41 _ _ n.cells[i] ⟨k, x, rfl, hBk.on (below_regrown wr d os), hBx.on (below_regrown wr d os), hIo, hIl⟩)
      have sk : ∀ d os, (convert 27 9 k).run Try.prog (grow (redrawn wr d) os) = .ok (.string ⟨n.cells[i].key.toArray⟩) (grow (redrawn wr d) os) := fun d os => (hBk.on (below_regrown wr d os)).str
      obtain ⟨kp, kc, ek, -⟩ := id hBk
      obtain ⟨xp, xc, ex, -⟩ := id hBx
      subst ek ex
      clear hBk hBx
      have ka0 := cell_regrown a1
      have kz0 := cell_regrown z0
      have kz1 := cell_regrown z1
      have kz2 := cell_regrown z2
      have kz3 := cell_regrown z3
      cases hB1 : (keyOk n.cells[i].key && valOk n.cells[i]) with
      | false =>
        have hr : Hid (false = Res) := by
          have := HM'.out
          rw [fol_eq] at this
          have e : (keyOk n.cells[i].key && !(Op.bytesLess n.cells[i].key (pkC n.cells i) || n.cells[i].key == pkC n.cells i) && valOk n.cells[i]) = false := by
            revert hB1; cases keyOk n.cells[i].key <;> cases valOk n.cells[i] <;> simp
          rw [e] at this
          exact this
        rw [hB1] at q41
        clear HM' hB1 hba
        generalize n.cells[i].over = K3 at *
        generalize n.cells[i].len = K4 at *
        generalize n.cells[i].key.length = K1 at *
        generalize n.cells[i].val.length = K2 at *
        go_wp2
        refine wp_region_quiet_below mixed (by kernel_rfl) ?_
        repeat (go_big_quiet_step (exact q41 _ _))
        refine wpQuiet_nil ?_
        intro _ hw'
        obtain ⟨⟨dq, osq⟩, hw''⟩ := hw'
        subst hw''
        have B7 := Lib.hid (below_regrown wr dq osq)
        generalize grow (redrawn wr dq) osq = w7 at B7 ⊢
        go_wp2
        go_ret
        exact ⟨by rw [← hr.out]; rfl, bthen hb.out B7.out⟩
      | true =>
        by_cases hi1 : i = 0
        · have HM2 : Hid ((mayC (pkC n.cells (i + 1)) (n.cells.drop (i + 1)) && (mayK [] n.keys && n.kids.all pageOk)) = Res) := by
            have := HM'.out
            have e : pkC n.cells i = [] := by rw [hi1]; rfl
            rw [e, fol_first, hB1, Bool.true_and] at this
            exact this
          have hnz : (decide (0 < i)) = false := decide_eq_false (by omega)
          have hnz' : (decide ((0 : Int) < (i : Int))) = false := decide_eq_false (by omega)
          rw [hB1] at q41
          clear HM' hB1 hba hi1
          generalize n.cells[i].over = K3 at *
          generalize n.cells[i].len = K4 at *
          generalize n.cells[i].key.length = K1 at *
          generalize n.cells[i].val.length = K2 at *
          go_wp2
          refine wp_region_quiet_below mixed (by kernel_rfl) ?_
          repeat (go_big_quiet_step (exact q41 _ _))
          refine wpQuiet_nil ?_
          intro _ hw'
          obtain ⟨⟨dq, osq⟩, hw''⟩ := hw'
          subst hw''
          have B7 := Lib.hid (below_regrown wr dq osq)
          generalize grow (redrawn wr dq) osq = w7 at B7 ⊢
          go_wp2
          go_roundg g
          case measure => omega
          case rel => exact ⟨i + 1, by omega, by first | rfl | simp, bthen hb.out B7.out, blk_on B7.out HA.out, HM2⟩
        · obtain ⟨j, rfl⟩ : ∃ j, i = j + 1 := ⟨i - 1, by omega⟩
          have hj : j < n.cells.length := by omega
          obtain ⟨g1, o1, cap1, k', x', e, y0, -, -, -, hBk', -⟩ := (HC.out.on hb.out).at hj
          injection e with e1 e2 e3
          injection e1 with e1
          injection e1 with e1 e4
          subst e1 e4 e3
          clear e2
          have sk' : ∀ d os, (convert 27 9 k').run Try.prog (grow (redrawn wr d) os) = .ok (.string ⟨n.cells[j].key.toArray⟩) (grow (redrawn wr d) os) := fun d os => (hBk'.on (below_regrown wr d os)).str
          obtain ⟨kp', kc', ek', -⟩ := id hBk'
          subst ek'
          clear hBk'
          have ky0 := cell_regrown y0
          have HM2 := HM'.out
          rw [fol_eq, pkC_succ hj] at HM2
          have hb1 : keyOk n.cells[j + 1].key = true := by revert hB1; cases keyOk n.cells[j + 1].key <;> simp
          have hb2 : valOk n.cells[j + 1] = true := by revert hB1; cases valOk n.cells[j + 1] <;> simp
          rw [hb1, hb2, Bool.true_and, Bool.and_true] at HM2
          have hlt : Op.bytesLess (⟨n.cells[j + 1].key.toArray⟩ : ByteArray).toList (⟨n.cells[j].key.toArray⟩ : ByteArray).toList = Op.bytesLess n.cells[j + 1].key n.cells[j].key := by rw [arr_list, arr_list]
          have heq := arr_beq n.cells[j + 1].key n.cells[j].key
          have hj1 : IntKind.i64.wrap (((j + 1 : Nat) : Int) - 1) = (j : Int) := by rw [IntKind.wrap_i64]; omega
          have hj2 : (j : Int) < (N : Int) := by omega
          have hj3 : (0 : Int) ≤ (j : Int) := by omega
          have hj4 : (0 : Int) < ((j + 1 : Nat) : Int) := by omega
          rw [hB1] at q41
          clear HM' hB1 hba hb1 hb2
          generalize Op.bytesLess n.cells[j + 1].key n.cells[j].key = L1 at *
          generalize (n.cells[j + 1].key == n.cells[j].key) = L2 at *
          generalize (⟨n.cells[j + 1].key.toArray⟩ : ByteArray) = S1 at *
          generalize (⟨n.cells[j].key.toArray⟩ : ByteArray) = S2 at *
          generalize n.cells[j + 1].over = K3 at *
          generalize n.cells[j + 1].len = K4 at *
          generalize n.cells[j + 1].key.length = K1 at *
          generalize n.cells[j + 1].val.length = K2 at *
          generalize n.cells[j].key.length = K5 at *
          have HM3 := Lib.hid HM2
          clear HM2
          cases hor : (L1 || L2) with
          | true =>
            have hr : Hid (false = Res) := by have := HM3.out; rw [hor] at this; exact this
            clear HM3
            revert hor
            cases L1 <;> cases L2 <;> intro hor
            · cases hor
            all_goals
              go_wp2
              refine wp_region_quiet_below mixed (by kernel_rfl) ?_
              repeat (go_big_quiet_step (exact q41 _ _))
              refine wpQuiet_nil ?_
              intro _ hw'
              obtain ⟨⟨dq, osq⟩, hw''⟩ := hw'
              subst hw''
              have B7 := Lib.hid (below_regrown wr dq osq)
              generalize grow (redrawn wr dq) osq = w7 at B7 ⊢
              go_wp2
              go_ret
              exact ⟨by rw [← hr.out]; rfl, bthen hb.out B7.out⟩
          | false =>
            have HM4 : Hid ((mayC (pkC n.cells (j + 1 + 1)) (n.cells.drop (j + 1 + 1)) && (mayK [] n.keys && n.kids.all pageOk)) = Res) := by have := HM3.out; rw [hor] at this; exact this
            clear HM3
            obtain ⟨rfl, rfl⟩ : L1 = false ∧ L2 = false := by revert hor; cases L1 <;> cases L2 <;> simp
            go_wp2
            refine wp_region_quiet_below mixed (by kernel_rfl) ?_
            repeat (go_big_quiet_step (exact q41 _ _))
            refine wpQuiet_nil ?_
            intro _ hw'
            obtain ⟨⟨dq, osq⟩, hw''⟩ := hw'
            subst hw''
            have B7 := Lib.hid (below_regrown wr dq osq)
            generalize grow (redrawn wr dq) osq = w7 at B7 ⊢
            go_wp2
            go_roundg g
            case measure => omega
            case rel => exact ⟨j + 1 + 1, by omega, by first | rfl | simp, bthen hb.out B7.out, blk_on B7.out HA.out, HM4⟩
    | zero =>
      have hix : ¬ (i : Int) < (N : Int) := by omega
      have HA := Lib.hid hba.out
      have Hb := Lib.hid hb.out
      have HR2 : Hid ((mayK [] n.keys && n.kids.all pageOk) = Res) := by
        have := hm.out
        rw [List.drop_eq_nil_of_le (by have := HN.out; omega)] at this
        exact this
      clear hba hb hm a0 HR
      obtain ⟨wo, rfl⟩ : ∃ v, v = wr := ⟨_, rfl⟩
      go_wp2
      clear a1 a2 a3
      go_loopg [4] M (fun g s4 wr => ∃ (i : Nat), i + g = M ∧ s4 = .int .i64 i ∧ Hid (Below w.heap.size w wr) ∧ Hid (wr.heap[w.heap.size]? = some (Obj.cells #[.bool true, .slice pc N cc, .slice pk M ck, .slice pi P ci] 26)) ∧ Hid ((mayK (pkK n.keys i) (n.keys.drop i) && n.kids.all pageOk) = Res))
      case atStart => exact ⟨0, by omega, rfl, Hb.out, HA.out, HR2.out⟩
      case round =>
        clear HA Hb hix hig
        obtain ⟨i', rfl⟩ : ∃ v, v = i := ⟨_, rfl⟩
        obtain ⟨i, hig, rfl, hb, hba, hm⟩ := hrel
        obtain ⟨a0, a1, a2, a3⟩ := four_of hba.out
        cases gk with
        | succ g => exact absurd hs (by omega)
        | zero =>
          have hix : ¬ (i : Int) < (M : Int) := by omega
          have HA := Lib.hid hba.out
          have Hb := Lib.hid hb.out
          have HR3 : Hid (n.kids.all pageOk = Res) := by
            have := hm.out
            rw [List.drop_eq_nil_of_le (by have := HM.out; omega)] at this
            exact this
          clear hba hb hm a0 HR2
          obtain ⟨wo2, rfl⟩ : ∃ v, v = wr := ⟨_, rfl⟩
          go_wp2
          clear a1 a2 a3
          go_loopg [5] P (fun g s5 wr => ∃ (i : Nat), i + g = P ∧ s5 = .int .i64 i ∧ Hid (Below w.heap.size w wr) ∧ Hid (wr.heap[w.heap.size]? = some (Obj.cells #[.bool true, .slice pc N cc, .slice pk M ck, .slice pi P ci] 26)) ∧ Hid ((n.kids.drop i).all pageOk = Res))
          case atStart => exact ⟨0, by omega, rfl, Hb.out, HA.out, HR3.out⟩
          case round =>
            clear HA Hb hix hig
            obtain ⟨i'', rfl⟩ : ∃ v, v = i := ⟨_, rfl⟩
            obtain ⟨i, hig, rfl, hb, hba, hm⟩ := hrel
            obtain ⟨a0, a1, a2, a3⟩ := four_of hba.out
            cases gk with
            | succ g => exact absurd hs (by omega)
            | zero =>
              have hix : ¬ (i : Int) < (P : Int) := by omega
              have hr : Hid (true = Res) := by
                have := hm.out
                rw [List.drop_eq_nil_of_le (by have := HP.out; omega)] at this
                exact this
              clear hm
              go_wp2
              go_ret
              exact ⟨by rw [← hr.out]; rfl, hb.out⟩
set_option maxHeartbeats 16000000 in
set_option maxRecDepth 100000 in
theorem check_inner_yes (w : World) (v : Value) (n : Nd) (h : NdS w v n) (hk : n.keys.length ≤ 1152921504606846976) (hi : n.kids.length ≤ 1152921504606846976) (hL : n.leaf = false) (h0 : n.cells.length = 0) (h1 : n.kids.length = n.keys.length + 1) :
    Calls Try.prog 14 #[v] w fun e w' => e = .returned (.int .i64 (chkE (mayC [] n.cells && (mayK [] n.keys && n.kids.all pageOk)))) ∧ Below w.heap.size w w' := by
  obtain ⟨vc, vk, vi, rfl, hC, hK, hI⟩ := h
  have HC := Lib.hid hC
  have HK := Lib.hid hK
  have HI := Lib.hid hI
  obtain ⟨pc, cc, rfl, -, lc⟩ := hC.hdr
  obtain ⟨pk, ck, rfl, -, lk⟩ := hK.hdr
  obtain ⟨pi, ci, rfl, -, li⟩ := hI.hdr
  clear hC hK hI
  rw [hL]
  have z0 : (decide (0 < n.cells.length)) = false := decide_eq_false (by omega)
  have z1 : ((n.kids.length : Int) == (n.keys.length : Int) + 1) = true := by simp; omega
  have z2 : ((n.kids.length : Int) != (n.keys.length : Int) + 1) = false := by simp; omega
  clear h0 h1
  have hB := Lib.hid (bel1 w (Obj.cells #[.bool false, .slice pc n.cells.length cc, .slice pk n.keys.length ck, .slice pi n.kids.length ci] 26))
  have hA := Lib.hid (World.alloc_heap_new w (Obj.cells #[.bool false, .slice pc n.cells.length cc, .slice pk n.keys.length ck, .slice pi n.kids.length ci] 26))
  obtain ⟨Res, hRes⟩ : ∃ R, (mayC [] n.cells && (mayK [] n.keys && n.kids.all pageOk)) = R := ⟨_, rfl⟩
  rw [hRes]
  have HR := Lib.hid hRes
  clear hRes
  generalize hN : n.cells.length = N at *
  have HN := Lib.hid hN
  clear hN
  generalize hM : n.keys.length = M at *
  have HM := Lib.hid hM
  clear hM
  generalize hP : n.kids.length = P at *
  have HP := Lib.hid hP
  clear hP
  have c41 := cell41
  have c42 := key42b
  go_enter Try.func14, Try.ntmps14
  go_wp2
  clear hk hi
  go_loopg [3] N (fun g s3 wr => ∃ (i : Nat), i + g = N ∧ s3 = .int .i64 i ∧ Hid (Below w.heap.size w wr) ∧ Hid (wr.heap[w.heap.size]? = some (Obj.cells #[.bool false, .slice pc N cc, .slice pk M ck, .slice pi P ci] 26)) ∧ Hid ((mayC (pkC n.cells i) (n.cells.drop i) && (mayK [] n.keys && n.kids.all pageOk)) = Res))
  case atStart => exact ⟨0, by omega, rfl, hB.out, hA.out, HR.out⟩
  case round =>
    obtain ⟨i, hig, rfl, hb, hba, hm⟩ := hrel
    obtain ⟨a0, a1, a2, a3⟩ := four_of hba.out
    cases gk with
    | succ g =>
      have hi : i < n.cells.length := by have := HN.out; omega
      have hiz : (i : Int) < (N : Int) := by omega
      have hi0 : (0 : Int) ≤ (i : Int) := by omega
      obtain ⟨g0, o0, cap0, k, x, e, z0, z1, z2, z3, hBk, hBx, hIo, hIl⟩ := (HC.out.on hb.out).at hi
      injection e with e1 e2 e3
      subst e1 e3
      have hm' := hm.out
      rw [mayC_step hi] at hm'
      have HM' := Lib.hid hm'
      clear hm hm' e2
      have HA := Lib.hid hba.out
      have q41 : ∀ d os, Calls Try.prog 41 #[.agg #[k, x, .int .i64 n.cells[i].over, .int .i64 n.cells[i].len]] (grow (redrawn wr d) os) fun e w'' => e = .returned (.bool (keyOk n.cells[i].key && valOk n.cells[i])) ∧ ∃ p : Regrown, w'' = grow (redrawn wr p.d) p.os := fun d os => Calls.regrown_of (c41 _ _ n.cells[i] ⟨k, x, rfl, hBk.on (below_regrown wr d os), hBx.on (below_regrown wr d os), hIo, hIl⟩)
      have sk : ∀ d os, (convert 27 9 k).run Try.prog (grow (redrawn wr d) os) = .ok (.string ⟨n.cells[i].key.toArray⟩) (grow (redrawn wr d) os) := fun d os => (hBk.on (below_regrown wr d os)).str
      obtain ⟨kp, kc, ek, -⟩ := id hBk
      obtain ⟨xp, xc, ex, -⟩ := id hBx
      subst ek ex
      clear hBk hBx
      have ka0 := cell_regrown a1
      have kz0 := cell_regrown z0
      have kz1 := cell_regrown z1
      have kz2 := cell_regrown z2
      have kz3 := cell_regrown z3
      cases hB1 : (keyOk n.cells[i].key && valOk n.cells[i]) with
      | false =>
        have hr : Hid (false = Res) := by
          have := HM'.out
          rw [fol_eq] at this
          have e : (keyOk n.cells[i].key && !(Op.bytesLess n.cells[i].key (pkC n.cells i) || n.cells[i].key == pkC n.cells i) && valOk n.cells[i]) = false := by
            revert hB1; cases keyOk n.cells[i].key <;> cases valOk n.cells[i] <;> simp
          rw [e] at this
          exact this
        rw [hB1] at q41
        clear HM' hB1 hba
        generalize n.cells[i].over = K3 at *
        generalize n.cells[i].len = K4 at *
        generalize n.cells[i].key.length = K1 at *
        generalize n.cells[i].val.length = K2 at *
        go_wp2
        refine wp_region_quiet_below mixed (by kernel_rfl) ?_
        repeat (go_big_quiet_step (exact q41 _ _))
        refine wpQuiet_nil ?_
        intro _ hw'
        obtain ⟨⟨dq, osq⟩, hw''⟩ := hw'
        subst hw''
        have B7 := Lib.hid (below_regrown wr dq osq)
        generalize grow (redrawn wr dq) osq = w7 at B7 ⊢
        go_wp2
        go_ret
        exact ⟨by rw [← hr.out]; rfl, bthen hb.out B7.out⟩
      | true =>
        by_cases hi1 : i = 0
        · have HM2 : Hid ((mayC (pkC n.cells (i + 1)) (n.cells.drop (i + 1)) && (mayK [] n.keys && n.kids.all pageOk)) = Res) := by
            have := HM'.out
            have e : pkC n.cells i = [] := by rw [hi1]; rfl
            rw [e, fol_first, hB1, Bool.true_and] at this
            exact this
          have hnz : (decide (0 < i)) = false := decide_eq_false (by omega)
          have hnz' : (decide ((0 : Int) < (i : Int))) = false := decide_eq_false (by omega)
          rw [hB1] at q41
          clear HM' hB1 hba hi1
          generalize n.cells[i].over = K3 at *
          generalize n.cells[i].len = K4 at *
          generalize n.cells[i].key.length = K1 at *
          generalize n.cells[i].val.length = K2 at *
          go_wp2
          refine wp_region_quiet_below mixed (by kernel_rfl) ?_
          repeat (go_big_quiet_step (exact q41 _ _))
          refine wpQuiet_nil ?_
          intro _ hw'
          obtain ⟨⟨dq, osq⟩, hw''⟩ := hw'
          subst hw''
          have B7 := Lib.hid (below_regrown wr dq osq)
          generalize grow (redrawn wr dq) osq = w7 at B7 ⊢
          go_wp2
          go_roundg g
          case measure => omega
          case rel => exact ⟨i + 1, by omega, by first | rfl | simp, bthen hb.out B7.out, blk_on B7.out HA.out, HM2⟩
        · obtain ⟨j, rfl⟩ : ∃ j, i = j + 1 := ⟨i - 1, by omega⟩
          have hj : j < n.cells.length := by omega
          obtain ⟨g1, o1, cap1, k', x', e, y0, -, -, -, hBk', -⟩ := (HC.out.on hb.out).at hj
          injection e with e1 e2 e3
          injection e1 with e1
          injection e1 with e1 e4
          subst e1 e4 e3
          clear e2
          have sk' : ∀ d os, (convert 27 9 k').run Try.prog (grow (redrawn wr d) os) = .ok (.string ⟨n.cells[j].key.toArray⟩) (grow (redrawn wr d) os) := fun d os => (hBk'.on (below_regrown wr d os)).str
          obtain ⟨kp', kc', ek', -⟩ := id hBk'
          subst ek'
          clear hBk'
          have ky0 := cell_regrown y0
          have HM2 := HM'.out
          rw [fol_eq, pkC_succ hj] at HM2
          have hb1 : keyOk n.cells[j + 1].key = true := by revert hB1; cases keyOk n.cells[j + 1].key <;> simp
          have hb2 : valOk n.cells[j + 1] = true := by revert hB1; cases valOk n.cells[j + 1] <;> simp
          rw [hb1, hb2, Bool.true_and, Bool.and_true] at HM2
          have hlt : Op.bytesLess (⟨n.cells[j + 1].key.toArray⟩ : ByteArray).toList (⟨n.cells[j].key.toArray⟩ : ByteArray).toList = Op.bytesLess n.cells[j + 1].key n.cells[j].key := by rw [arr_list, arr_list]
          have heq := arr_beq n.cells[j + 1].key n.cells[j].key
          have hj1 : IntKind.i64.wrap (((j + 1 : Nat) : Int) - 1) = (j : Int) := by rw [IntKind.wrap_i64]; omega
          have hj2 : (j : Int) < (N : Int) := by omega
          have hj3 : (0 : Int) ≤ (j : Int) := by omega
          have hj4 : (0 : Int) < ((j + 1 : Nat) : Int) := by omega
          rw [hB1] at q41
          clear HM' hB1 hba hb1 hb2
          generalize Op.bytesLess n.cells[j + 1].key n.cells[j].key = L1 at *
          generalize (n.cells[j + 1].key == n.cells[j].key) = L2 at *
          generalize (⟨n.cells[j + 1].key.toArray⟩ : ByteArray) = S1 at *
          generalize (⟨n.cells[j].key.toArray⟩ : ByteArray) = S2 at *
          generalize n.cells[j + 1].over = K3 at *
          generalize n.cells[j + 1].len = K4 at *
          generalize n.cells[j + 1].key.length = K1 at *
          generalize n.cells[j + 1].val.length = K2 at *
          generalize n.cells[j].key.length = K5 at *
          have HM3 := Lib.hid HM2
          clear HM2
          cases hor : (L1 || L2) with
          | true =>
            have hr : Hid (false = Res) := by have := HM3.out; rw [hor] at this; exact this
            clear HM3
            revert hor
            cases L1 <;> cases L2 <;> intro hor
            · cases hor
            all_goals
              go_wp2
              refine wp_region_quiet_below mixed (by kernel_rfl) ?_
              repeat (go_big_quiet_step (exact q41 _ _))
              refine wpQuiet_nil ?_
              intro _ hw'
              obtain ⟨⟨dq, osq⟩, hw''⟩ := hw'
              subst hw''
              have B7 := Lib.hid (below_regrown wr dq osq)
              generalize grow (redrawn wr dq) osq = w7 at B7 ⊢
              go_wp2
              go_ret
              exact ⟨by rw [← hr.out]; rfl, bthen hb.out B7.out⟩
          | false =>
            have HM4 : Hid ((mayC (pkC n.cells (j + 1 + 1)) (n.cells.drop (j + 1 + 1)) && (mayK [] n.keys && n.kids.all pageOk)) = Res) := by have := HM3.out; rw [hor] at this; exact this
            clear HM3
            obtain ⟨rfl, rfl⟩ : L1 = false ∧ L2 = false := by revert hor; cases L1 <;> cases L2 <;> simp
            go_wp2
            refine wp_region_quiet_below mixed (by kernel_rfl) ?_
            repeat (go_big_quiet_step (exact q41 _ _))
            refine wpQuiet_nil ?_
            intro _ hw'
            obtain ⟨⟨dq, osq⟩, hw''⟩ := hw'
            subst hw''
            have B7 := Lib.hid (below_regrown wr dq osq)
            generalize grow (redrawn wr dq) osq = w7 at B7 ⊢
            go_wp2
            go_roundg g
            case measure => omega
            case rel => exact ⟨j + 1 + 1, by omega, by first | rfl | simp, bthen hb.out B7.out, blk_on B7.out HA.out, HM4⟩
    | zero =>
      have hix : ¬ (i : Int) < (N : Int) := by omega
      have HA := Lib.hid hba.out
      have Hb := Lib.hid hb.out
      have HR2 : Hid ((mayK [] n.keys && n.kids.all pageOk) = Res) := by
        have := hm.out
        rw [List.drop_eq_nil_of_le (by have := HN.out; omega)] at this
        exact this
      clear hba hb hm a0 HR
      obtain ⟨wo, rfl⟩ : ∃ v, v = wr := ⟨_, rfl⟩
      go_wp2
      clear a1 a2 a3
      go_loopg [4] M (fun g s4 wr => ∃ (i : Nat), i + g = M ∧ s4 = .int .i64 i ∧ Hid (Below w.heap.size w wr) ∧ Hid (wr.heap[w.heap.size]? = some (Obj.cells #[.bool false, .slice pc N cc, .slice pk M ck, .slice pi P ci] 26)) ∧ Hid ((mayK (pkK n.keys i) (n.keys.drop i) && n.kids.all pageOk) = Res))
      case atStart => exact ⟨0, by omega, rfl, Hb.out, HA.out, HR2.out⟩
      case round =>
        clear HA Hb hix hig
        obtain ⟨i', rfl⟩ : ∃ v, v = i := ⟨_, rfl⟩
        obtain ⟨i, hig, rfl, hb, hba, hm⟩ := hrel
        obtain ⟨a0, a1, a2, a3⟩ := four_of hba.out
        cases gk with
        | succ g =>
          have hi : i < n.keys.length := by have := HM.out; omega
          have hiz : (i : Int) < (M : Int) := by omega
          have hi0 : (0 : Int) ≤ (i : Int) := by omega
          obtain ⟨g0, o0, cap0, k, e, z0, hBk⟩ := (HK.out.on hb.out).at hi
          injection e with e1 e2 e3
          subst e1 e3
          have hm' := hm.out
          rw [mayK_step hi] at hm'
          have HM' := Lib.hid hm'
          clear hm hm' e2
          have HA := Lib.hid hba.out
          have q42 : ∀ d os, Calls Try.prog 42 #[k] (grow (redrawn wr d) os) fun e w'' => e = .returned (.bool (keyOk n.keys[i])) ∧ ∃ p : Regrown, w'' = grow (redrawn wr p.d) p.os := fun d os => Calls.regrown_of (c42 _ _ n.keys[i] (hBk.on (below_regrown wr d os)))
          have sk : ∀ d os, (convert 27 9 k).run Try.prog (grow (redrawn wr d) os) = .ok (.string ⟨n.keys[i].toArray⟩) (grow (redrawn wr d) os) := fun d os => (hBk.on (below_regrown wr d os)).str
          obtain ⟨kp, kc, ek, -⟩ := id hBk
          subst ek
          clear hBk
          have ka0 := cell_regrown a2
          have kz0 := cell_regrown z0
          cases hB1 : keyOk n.keys[i] with
          | false =>
            have hr : Hid (false = Res) := by
              have := HM'.out
              rw [fol_eq, hB1] at this
              exact this
            rw [hB1] at q42
            clear HM' hB1 hba
            generalize n.keys[i].length = K1 at *
            go_wp2
            refine wp_region_quiet_below mixed (by kernel_rfl) ?_
            repeat (go_big_quiet_step (exact q42 _ _))
            refine wpQuiet_nil ?_
            intro _ hw'
            obtain ⟨⟨dq, osq⟩, hw''⟩ := hw'
            subst hw''
            have B7 := Lib.hid (below_regrown wr dq osq)
            generalize grow (redrawn wr dq) osq = w7 at B7 ⊢
            go_wp2
            go_ret
            exact ⟨by rw [← hr.out]; rfl, bthen hb.out B7.out⟩
          | true =>
            by_cases hi1 : i = 0
            · have HM2 : Hid ((mayK (pkK n.keys (i + 1)) (n.keys.drop (i + 1)) && n.kids.all pageOk) = Res) := by
                have := HM'.out
                have e : pkK n.keys i = [] := by rw [hi1]; rfl
                rw [e, fol_first, hB1, Bool.true_and] at this
                exact this
              have hnz : (decide (0 < i)) = false := decide_eq_false (by omega)
              have hnz' : (decide ((0 : Int) < (i : Int))) = false := decide_eq_false (by omega)
              rw [hB1] at q42
              clear HM' hB1 hba hi1
              generalize n.keys[i].length = K1 at *
              go_wp2
              refine wp_region_quiet_below mixed (by kernel_rfl) ?_
              repeat (go_big_quiet_step (exact q42 _ _))
              refine wpQuiet_nil ?_
              intro _ hw'
              obtain ⟨⟨dq, osq⟩, hw''⟩ := hw'
              subst hw''
              have B7 := Lib.hid (below_regrown wr dq osq)
              generalize grow (redrawn wr dq) osq = w7 at B7 ⊢
              go_wp2
              go_roundg g
              case measure => omega
              case rel => exact ⟨i + 1, by omega, by first | rfl | simp, bthen hb.out B7.out, blk_on B7.out HA.out, HM2⟩
            · obtain ⟨j, rfl⟩ : ∃ j, i = j + 1 := ⟨i - 1, by omega⟩
              have hj : j < n.keys.length := by omega
              obtain ⟨g1, o1, cap1, k', e, y0, hBk'⟩ := (HK.out.on hb.out).at hj
              injection e with e1 e2 e3
              injection e1 with e1
              injection e1 with e1 e4
              subst e1 e4 e3
              clear e2
              have sk' : ∀ d os, (convert 27 9 k').run Try.prog (grow (redrawn wr d) os) = .ok (.string ⟨n.keys[j].toArray⟩) (grow (redrawn wr d) os) := fun d os => (hBk'.on (below_regrown wr d os)).str
              obtain ⟨kp', kc', ek', -⟩ := id hBk'
              subst ek'
              clear hBk'
              have ky0 := cell_regrown y0
              have HM2 := HM'.out
              rw [fol_eq, pkK_succ hj, hB1, Bool.true_and] at HM2
              have hlt : Op.bytesLess (⟨n.keys[j + 1].toArray⟩ : ByteArray).toList (⟨n.keys[j].toArray⟩ : ByteArray).toList = Op.bytesLess n.keys[j + 1] n.keys[j] := by rw [arr_list, arr_list]
              have heq := arr_beq n.keys[j + 1] n.keys[j]
              have hj1 : IntKind.i64.wrap (((j + 1 : Nat) : Int) - 1) = (j : Int) := by rw [IntKind.wrap_i64]; omega
              have hj2 : (j : Int) < (M : Int) := by omega
              have hj3 : (0 : Int) ≤ (j : Int) := by omega
              have hj4 : (0 : Int) < ((j + 1 : Nat) : Int) := by omega
              rw [hB1] at q42
              clear HM' hB1 hba
              generalize Op.bytesLess n.keys[j + 1] n.keys[j] = L1 at *
              generalize (n.keys[j + 1] == n.keys[j]) = L2 at *
              generalize (⟨n.keys[j + 1].toArray⟩ : ByteArray) = S1 at *
              generalize (⟨n.keys[j].toArray⟩ : ByteArray) = S2 at *
              generalize n.keys[j + 1].length = K1 at *
              generalize n.keys[j].length = K5 at *
              have HM3 := Lib.hid HM2
              clear HM2
              cases hor : (L1 || L2) with
              | true =>
                have hr : Hid (false = Res) := by have := HM3.out; rw [hor] at this; exact this
                clear HM3
                revert hor
                cases L1 <;> cases L2 <;> intro hor
                · cases hor
                all_goals
                  go_wp2
                  refine wp_region_quiet_below mixed (by kernel_rfl) ?_
                  repeat (go_big_quiet_step (exact q42 _ _))
                  refine wpQuiet_nil ?_
                  intro _ hw'
                  obtain ⟨⟨dq, osq⟩, hw''⟩ := hw'
                  subst hw''
                  have B7 := Lib.hid (below_regrown wr dq osq)
                  generalize grow (redrawn wr dq) osq = w7 at B7 ⊢
                  go_wp2
                  go_ret
                  exact ⟨by rw [← hr.out]; rfl, bthen hb.out B7.out⟩
              | false =>
                have HM4 : Hid ((mayK (pkK n.keys (j + 1 + 1)) (n.keys.drop (j + 1 + 1)) && n.kids.all pageOk) = Res) := by have := HM3.out; rw [hor] at this; exact this
                clear HM3
                obtain ⟨rfl, rfl⟩ : L1 = false ∧ L2 = false := by revert hor; cases L1 <;> cases L2 <;> simp
                go_wp2
                refine wp_region_quiet_below mixed (by kernel_rfl) ?_
                repeat (go_big_quiet_step (exact q42 _ _))
                refine wpQuiet_nil ?_
                intro _ hw'
                obtain ⟨⟨dq, osq⟩, hw''⟩ := hw'
                subst hw''
                have B7 := Lib.hid (below_regrown wr dq osq)
                generalize grow (redrawn wr dq) osq = w7 at B7 ⊢
                go_wp2
                go_roundg g
                case measure => omega
                case rel => exact ⟨j + 1 + 1, by omega, by first | rfl | simp, bthen hb.out B7.out, blk_on B7.out HA.out, HM4⟩
        | zero =>
          have hix : ¬ (i : Int) < (M : Int) := by omega
          have HA := Lib.hid hba.out
          have Hb := Lib.hid hb.out
          have HR3 : Hid (n.kids.all pageOk = Res) := by
            have := hm.out
            rw [List.drop_eq_nil_of_le (by have := HM.out; omega)] at this
            exact this
          clear hba hb hm a0 HR2
          obtain ⟨wo2, rfl⟩ : ∃ v, v = wr := ⟨_, rfl⟩
          go_wp2
          clear a1 a2 a3
          go_loopg [5] P (fun g s5 wr => ∃ (i : Nat), i + g = P ∧ s5 = .int .i64 i ∧ Hid (Below w.heap.size w wr) ∧ Hid (wr.heap[w.heap.size]? = some (Obj.cells #[.bool false, .slice pc N cc, .slice pk M ck, .slice pi P ci] 26)) ∧ Hid ((n.kids.drop i).all pageOk = Res))
          case atStart => exact ⟨0, by omega, rfl, Hb.out, HA.out, HR3.out⟩
          case round =>
            clear HA Hb hix hig
            obtain ⟨i'', rfl⟩ : ∃ v, v = i := ⟨_, rfl⟩
            obtain ⟨i, hig, rfl, hb, hba, hm⟩ := hrel
            obtain ⟨a0, a1, a2, a3⟩ := four_of hba.out
            cases gk with
            | succ g =>
              have hi : i < n.kids.length := by have := HP.out; omega
              have hiz : (i : Int) < (P : Int) := by omega
              have hi0 : (0 : Int) ≤ (i : Int) := by omega
              obtain ⟨g0, o0, cap0, e, z0, -⟩ := (HI.out.on hb.out).at hi
              injection e with e1 e2 e3
              subst e1 e3
              have hm' := hm.out
              rw [all_step hi] at hm'
              have HM' := Lib.hid hm'
              clear hm hm' e2
              have HA := Lib.hid hba.out
              clear hba
              unfold pageOk at HM'
              generalize n.kids[i] = x at *
              by_cases x1 : x < 1
              · have hr : Hid (false = Res) := by have := HM'.out; rw [decide_eq_false (show ¬ 1 ≤ x by omega), Bool.false_and, Bool.false_and] at this; exact this
                go_wp2
                go_ret
                exact ⟨by rw [← hr.out]; rfl, hb.out⟩
              · by_cases x2 : 2048 ≤ x
                · have hr : Hid (false = Res) := by have := HM'.out; rw [decide_eq_false (show ¬ x < 2048 by omega), Bool.and_false, Bool.false_and] at this; exact this
                  go_wp2
                  go_ret
                  exact ⟨by rw [← hr.out]; rfl, hb.out⟩
                · have hr : Hid ((n.kids.drop (i + 1)).all pageOk = Res) := by have := HM'.out; rw [decide_eq_true (show 1 ≤ x by omega), decide_eq_true (show x < 2048 by omega), Bool.true_and, Bool.true_and] at this; exact this
                  clear HM'
                  go_wp2
                  go_roundg g
                  case measure => omega
                  case rel => exact ⟨i + 1, by omega, by first | rfl | simp, hb.out, HA.out, hr⟩
            | zero =>
              have hix : ¬ (i : Int) < (P : Int) := by omega
              have hr : Hid (true = Res) := by
                have := hm.out
                rw [List.drop_eq_nil_of_le (by have := HP.out; omega)] at this
                exact this
              clear hm
              go_wp2
              go_ret
              exact ⟨by rw [← hr.out]; rfl, hb.out⟩
theorem check14 (w : World) (v : Value) (n : Nd) (h : NdS w v n) (hk : n.keys.length ≤ 1152921504606846976) (hi : n.kids.length ≤ 1152921504606846976) :
    Calls Try.prog 14 #[v] w fun e w' => e = .returned (.int .i64 (chkE (may n))) ∧ Below w.heap.size w w' := by
  rw [may_split]
  unfold shp
  cases hL : n.leaf with
  | true =>
    simp only [if_true]
    by_cases hs : n.keys.length + n.kids.length = 0
    · rw [decide_eq_true hs, Bool.true_and]
      exact check_leaf_yes w v n h hk hi hL hs
    · rw [decide_eq_false hs, Bool.false_and]
      exact check_leaf_no w v n h hk hi hL hs
  | false =>
    simp only [Bool.false_eq_true, if_false]
    by_cases hs : n.cells.length = 0 ∧ n.kids.length = n.keys.length + 1
    · rw [decide_eq_true hs.1, decide_eq_true hs.2, Bool.true_and, Bool.true_and]
      exact check_inner_yes w v n h hk hi hL hs.1 hs.2
    · have e : (decide (n.cells.length = 0) && decide (n.kids.length = n.keys.length + 1)) = false := by
        by_cases h0 : n.cells.length = 0
        · rw [decide_eq_false (fun h1 => hs ⟨h0, h1⟩), Bool.and_false]
        · rw [decide_eq_false h0, Bool.false_and]
      rw [e, Bool.false_and]
      exact check_inner_no w v n h hk hi hL hs
end Go.Proofs.Ytbkpgppaahpalaa
