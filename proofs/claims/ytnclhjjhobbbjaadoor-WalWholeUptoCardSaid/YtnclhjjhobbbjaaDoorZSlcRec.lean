/-
  Bytes that are sliced off, wherever they lie: b[lo:] and b[lo:hi].
  What recordsOf of package wal does: the records whose bytes these are.
-/
import Derived.Test.YtnclhjjhobbbjaaDoorZCtmRctBsxNumpNumTFuse
import Derived.Test.YtnclhjjhobbbjaaDoorZRcom
namespace Go.Proofs.YtnclhjjhobbbjaaDoor
open Go.RowKit
set_option linter.unusedVariables false      -- a walk need not use every condition

theorem run_bdrop {w : World} {v : Value} {t : List UInt8} (h : Bs w v t) {k : Nat} (hk : k ≤ t.length) : ∃ q c, (Instr.sliceAt 43 v (some (.int .i64 k)) none none).run Tryd.prog w = .ok (.slice q (t.length - k) c) w ∧ ∀ w0, Bs w0 v t → Bs w0 (.slice q (t.length - k) c) (t.drop k) := by
  obtain ⟨p, cap, rfl, h1, h2, h3, h4⟩ := h
  refine ⟨if cap = k then p else p.map (·.add k), cap - k, ?_, ?_⟩
  · have e1 : (0 : Int) ≤ (k : Int) := by omega
    have e2 : (k : Int) ≤ (t.length : Int) := by omega
    simp [go_sem, e1, e2, Tryd.underlying43]
  · exact fun w0 h0 => h0.drop hk
theorem run_bmid {w : World} {v : Value} {t : List UInt8} (h : Bs w v t) {k m : Nat} (hkm : k ≤ m) (hm : m ≤ t.length) : ∃ q c, (Instr.sliceAt 43 v (some (.int .i64 k)) (some (.int .i64 m)) none).run Tryd.prog w = .ok (.slice q (m - k) c) w ∧ ∀ w0, Bs w0 v t → Bs w0 (.slice q (m - k) c) ((t.drop k).take (m - k)) := by
  obtain ⟨p, cap, rfl, h1, h2, h3, h4⟩ := h
  refine ⟨if cap = k then p else p.map (·.add k), cap - k, ?_, ?_⟩
  · have e1 : (0 : Int) ≤ (k : Int) := by omega
    have e2 : (k : Int) ≤ (m : Int) := by omega
    have e4 : (m : Int) ≤ (cap : Int) := by omega
    simp [go_sem, e1, e2, e4, Tryd.underlying43]
  · intro w0 h0
    have hd := h0.drop (n := k) (by omega : k ≤ t.length)
    rw [show t.length - k = (t.drop k).length by simp] at hd
    exact hd.take (by simp; omega)
theorem wpList_bdrop {ops : Array Oper} {rest : List Oper} {o : Oper} {a : Act} {w : World} {Q : Exit → Act → World → Prop} (hgd : o.guard = none) (x y : Operand) (ho : o.op = .slice 43 x (some y) none none)
    (v : Value) (t : List UInt8) (k : Nat) (hx : a.eval x = v) (hy : a.eval y = .int .i64 k) (h : Bs w v t) (hk : k ≤ t.length)
    (hK : ∀ q c, (∀ w0, Bs w0 v t → Bs w0 (.slice q (t.length - k) c) (t.drop k)) → wpList Tryd.prog ops Q rest (a.put o.dst (.slice q (t.length - k) c)) w) : wpList Tryd.prog ops Q (o :: rest) a w :=
  wpList_plain hgd fun _ hk' => by
    obtain ⟨q, c, hr, hb⟩ := run_bdrop h hk
    unfold Oper.wp execOp
    simp only [ho, Option.map_some, Option.map_none, hx, hy, Sem.run_bind, hr, Result.andThen_ok, Sem.run_pure]
    exact hk' _ _ (hK q c hb)
theorem wpList_bmid {ops : Array Oper} {rest : List Oper} {o : Oper} {a : Act} {w : World} {Q : Exit → Act → World → Prop} (hgd : o.guard = none) (x y z : Operand) (ho : o.op = .slice 43 x (some y) (some z) none)
    (v : Value) (t : List UInt8) (k m : Nat) (hx : a.eval x = v) (hy : a.eval y = .int .i64 k) (hz : a.eval z = .int .i64 m) (h : Bs w v t) (hkm : k ≤ m) (hm : m ≤ t.length)
    (hK : ∀ q c, (∀ w0, Bs w0 v t → Bs w0 (.slice q (m - k) c) ((t.drop k).take (m - k))) → wpList Tryd.prog ops Q rest (a.put o.dst (.slice q (m - k) c)) w) : wpList Tryd.prog ops Q (o :: rest) a w :=
  wpList_plain hgd fun _ hk' => by
    obtain ⟨q, c, hr, hb⟩ := run_bmid h hkm hm
    unfold Oper.wp execOp
    simp only [ho, Option.map_some, Option.map_none, hx, hy, hz, Sem.run_bind, hr, Result.andThen_ok, Sem.run_pure]
    exact hk' _ _ (hK q c hb)
end Go.Proofs.YtnclhjjhobbbjaaDoor
namespace Go.Proofs.YtnclhjjhobbbjaaDoor
open Go.RowKit Go.Maps
set_option linter.unusedVariables false      -- a walk need not use every condition
attribute [local go_sem ↓] Go.wp_at_zero Go.wp_at_succ

theorem take65_ok (w : World) (b : Value) (t : List UInt8) (hb : Bs w b t) {a k : Nat} (h : tk t = some (a, k)) :
    Calls Tryd.prog 65 #[b] w fun e w' => e = .returned (.tuple #[.int .u64 a, .int .i64 k, .int .i64 0]) ∧ w' = w := by
  have hk := tk_back h
  unfold tk at h
  cases hf : fb t with
  | none => rw [hf] at h; cases h
  | some i =>
    rw [hf] at h
    simp only at h
    cases hF : inF (i + 1) (t.getD i 0) with
    | false => rw [hF] at h; cases h
    | true =>
      rw [hF, if_pos rfl] at h
      injection h with h
      injection h with h1 h2
      subst h1 h2
      exact take_ok w b t hb i hf hF hk.2.1
theorem take65_no (w : World) (b : Value) (t : List UInt8) (hb : Bs w b t) (h : tk t = none) :
    Calls Tryd.prog 65 #[b] w fun e w' => ∃ n : Int, n ≠ 0 ∧ e = .returned (.tuple #[.int .u64 0, .int .i64 0, .int .i64 n]) ∧ w' = w := by
  unfold tk at h
  cases hf : fb t with
  | none => exact (take_none w b t hb hf).mono fun e w' ⟨h1, h2⟩ => ⟨11, by decide, h1, h2⟩
  | some i =>
    rw [hf] at h
    simp only at h
    cases hF : inF (i + 1) (t.getD i 0) with
    | true => rw [hF, if_pos rfl] at h; cases h
    | false => exact (take_bad w b t hb i hf hF).mono fun e w' ⟨h1, h2⟩ => ⟨12, by decide, h1, h2⟩
/-- What is left to be read comes to what all comes to. -/
def rcL (L : Rs) (c : Nat) (bt : List UInt8) : Option (Rs × List UInt8) := (rcN c bt).map fun x => (L ++ x.1, x.2)
theorem rcL_start (c : Nat) (bt : List UInt8) : rcL [] c bt = rcN c bt := by
  unfold rcL
  cases rcN c bt with
  | none => rfl
  | some x => rfl
theorem rcL_done (L : Rs) (bt : List UInt8) : rcL L 0 bt = some (L, bt) := by simp [rcL, rcN]
theorem rcL_no {L : Rs} {c : Nat} {bt : List UInt8} (h : tk bt = none) : rcL L (c + 1) bt = none := by simp [rcL, rcN, h]
theorem rcL_long {L : Rs} {c : Nat} {bt : List UInt8} {m k : Nat} (h : tk bt = some (m, k)) (hm : ¬ m ≤ bt.length - k) : rcL L (c + 1) bt = none := by simp [rcL, rcN, h, hm]
theorem rcL_step {L : Rs} {c : Nat} {bt : List UInt8} {m k : Nat} (h : tk bt = some (m, k)) (hm : m ≤ bt.length - k) : rcL L (c + 1) bt = rcL (L ++ [(bt.drop k).take m]) c (bt.drop (k + m)) := by
  unfold rcL
  rw [rcN, h]
  simp only [if_pos hm]
  cases rcN c (bt.drop (k + m)) with
  | none => rfl
  | some x => simp
/-- What recordsOf answers. -/
def RecR (t : List UInt8) (w : World) (e : Ending) (w' : World) : Prop :=
  ∃ p n c, e = .returned (.tuple #[.slice p n c, .bool (rc t).isSome]) ∧ (∀ rs, rc t = some rs → RowB w' w.heap.size (.slice p n c) rs) ∧ Below w.heap.size w w'
theorem rowB_app {ops : Array Oper} {rest : List Oper} {o : Oper} {a : Act} {w : World} {Q : Exit → Act → World → Prop} (hgd : o.guard = none) (s x : Operand)
    (ho : o.op = .call { callee := .builtin .append, args := #[s, x], argTypes := #[35, 35] }) (base g0 : Nat) (v y : Value) (L : Rs) (u : List UInt8) (hs : a.eval s = v) (hx : a.eval x = .slice (some ⟨g0, 0, none⟩) 1 1)
    (h : RowB w base v L) (hu : Bts w base y u) (hy : w.cell? ⟨g0, 0, none⟩ = some y) (hbase : base ≤ w.heap.size) (hlen : L.length + 1 ≤ 4398046511104)
    (hK : ∀ g cap w', RowB w' base (.slice (some ⟨g, 0, none⟩) (L.length + 1) cap) (L ++ [u]) → w.grownBy w' v.ownBlock → Below base w w' → wpList Tryd.prog ops Q rest (a.put o.dst (.slice (some ⟨g, 0, none⟩) (L.length + 1) cap)) w') : wpList Tryd.prog ops Q (o :: rest) a w :=
  wpList_plain hgd fun _ hk => by
    obtain ⟨v', w', hr, h2, h3, g, cap, rfl⟩ := row_app w base g0 v y L u h hu hy hbase hlen o.type
    obtain ⟨vs, ho', -⟩ := h
    have hB : Below base w w' := (Below.refl base w).grown h3 hbase (fun j e => (World.ownsRow.lt ho' j e).1)
    unfold Oper.wp execOp
    simp only [ho, resolve, invoke, builtin, Sem.run_bind, Sem.run_pure, Result.andThen_ok, List.map_toArray, List.map_cons, List.map_nil, hs, hx, hr]
    exact hk _ _ (hK g cap w' h2 h3 hB)
theorem RowB.hdr {w : World} {base : Nat} {v : Value} {L : Rs} (h : RowB w base v L) : ∃ p c, v = .slice p L.length c := by
  obtain ⟨p, c, rfl, -⟩ := h.bss
  exact ⟨p, c, rfl⟩
set_option maxHeartbeats 2000000 in
set_option maxRecDepth 100000 in
theorem recordsOf67 (w : World) (v : Value) (t : List UInt8) (hv : Bs w v t) (hlen : t.length ≤ 1099511627776) : Calls Tryd.prog 67 #[v] w (RecR t w) := by
  have HV := Lib.hid hv
  cases h0 : tk t with
  | none =>
    have c := take65_no w v t hv h0
    have HR : Hid (rc t = none) := by show rc t = none; unfold rc; rw [h0]
    obtain ⟨p, cap, rfl, -⟩ := hv
    clear h0
    go_enter Tryd.func67, Tryd.ntmps67
    go_wp2_with (first | (go_at_call 65; refine c.mono ?_; rintro e w' ⟨n, hn, rfl, rfl⟩))
    go_ret2
    exact ⟨none, 0, 0, by rw [HR.out]; rfl, fun rs e => (by rw [HR.out] at e; cases e), Below.refl _ _⟩
  | some x =>
    obtain ⟨n, k⟩ := x
    have c := take65_ok w v t hv h0
    obtain ⟨hbk, hn64, hk1, hk2, -⟩ := tk_back h0
    have HR : Hid (rc t = rcE (rcN n (t.drop k))) := by show rc t = _; unfold rc; rw [h0]
    obtain ⟨p, cap, rfl, hcap, hcm, -⟩ := hv
    unfold maxLen at hcm
    have HDL : Hid ((t.drop k).length = t.length - k) := by show _ = _; simp
    clear h0 hbk
    go_enter Tryd.func67, Tryd.ntmps67
    go_wp2_with (first
      | (go_at_call 65; refine c.mono ?_; rintro e w' ⟨rfl, rfl⟩)
      | (with_reducible show wpList _ _ _ (Oper.mk _ (Op.slice 43 (Operand.tmp 20) _ _ _) _ _ _ _ :: _) _ _
         refine wpList_bdrop rfl _ _ rfl _ t k rfl rfl HV.out hk2 ?_; intro q0 qc0 hq0; have HD := Lib.hid (hq0 _ HV.out); clear hq0))
    generalize t.drop k = bt0 at *
    go_loopg [0, 4, 7] bt0.length (fun g s0 s4 s7 wr => ∃ (cn : Nat) (bt : List UInt8) (L : Rs), Hid (bt.length = g) ∧ s4 = .int .u64 cn ∧ Hid (cn < 18446744073709551616) ∧ Hid (rcL L cn bt = rcN n bt0) ∧ Hid (Bs w' s0 bt) ∧ Hid (RowB wr w'.heap.size s7 L) ∧ Hid (L.length + bt.length ≤ 1099511627776) ∧ Hid (Below w'.heap.size w' wr))
    case atStart => exact ⟨n, bt0, [], (rfl : _ = _), rfl, hn64, rcL_start _ _, HD.out, rowB_nil _ _, by show _ ≤ _; have := HDL.out; simp; omega, Below.refl _ _⟩
    case round =>
      obtain ⟨cn, bt, L, hg, rfl, hcn, hsp, hB, hL, hLen, hb⟩ := hrel
      have HB := Lib.hid hB.out
      obtain ⟨q, qc, rfl, hqc, hqm, -⟩ := hB.out
      obtain ⟨lp, lc, rfl⟩ := hL.out.hdr
      unfold maxLen at hqm
      have hbl : bt.length ≤ 9223372036854775807 := by omega
      clear c
      by_cases hc0 : cn = 0
      · subst hc0
        have hE : Hid (rc t = if bt.length = 0 then some L else none) := by
          show rc t = _
          rw [HR.out, ← hsp.out, rcL_done]
          cases bt with
          | nil => rfl
          | cons a b => rfl
        clear hsp hB
        by_cases hb0 : bt.length = 0
        · rw [if_pos hb0] at hE
          rw [hb0]
          go_wp2
          go_ret2
          exact ⟨_, _, _, by rw [hE.out]; rfl, fun rs e => (by rw [hE.out] at e; injection e with e; subst e; exact hL.out), hb.out⟩
        · rw [if_neg hb0] at hE
          have hz2 : ((bt.length : Int) == 0) = false := by rw [beq_eq_false_iff_ne]; omega
          go_wp2
          go_ret2
          exact ⟨_, _, _, by rw [hE.out]; rfl, fun rs e => (by rw [hE.out] at e; cases e), hb.out⟩
      · obtain ⟨cm, hcm1⟩ : ∃ cm, Hid (cn = cm + 1) := ⟨cn - 1, by show _ = _; omega⟩
        have hc1 : (0 : Int) < (cn : Int) := by omega
        have hc2 : IntKind.u64.wrap ((cn : Int) - 1) = (cm : Int) := by have := hcn.out; have := hcm1.out; rw [IntKind.wrap_u64]; omega
        have HBw := Lib.hid (HB.out.on hb.out)
        have hsp2 : Hid (rcL L (cm + 1) bt = rcN n bt0) := by show _ = _; rw [← hcm1.out]; exact hsp.out
        cases ht : tk bt with
        | none =>
          have cT := take65_no wr _ bt HBw.out ht
          have hE : Hid (rc t = none) := by show rc t = none; rw [HR.out, ← hsp2.out, rcL_no ht]; rfl
          clear hsp hsp2 hB ht hc2
          go_wp2_with (first | (go_at_call 65; refine cT.mono ?_; rintro e w2 ⟨n2, hn2, rfl, rfl⟩; have hn3 : (n2 != 0) = true := (by simp; exact hn2)))
          go_ret2
          exact ⟨none, 0, 0, by rw [hE.out]; rfl, fun rs e => (by rw [hE.out] at e; cases e), hb.out⟩
        | some x =>
          obtain ⟨m, k2⟩ := x
          have cT := take65_ok wr _ bt HBw.out ht
          obtain ⟨-, hm64, hk21, hk22, -⟩ := tk_back ht
          have e1 : IntKind.i64.wrap ((bt.length : Int) - (k2 : Int)) = ((bt.length - k2 : Nat) : Int) := by rw [IntKind.wrap_i64]; omega
          have e2 : IntKind.u64.wrap (((bt.length - k2 : Nat) : Int)) = ((bt.length - k2 : Nat) : Int) := by rw [IntKind.wrap_u64]; omega
          obtain ⟨D, hD⟩ : ∃ D, bt.length - k2 = D := ⟨_, rfl⟩
          rw [hD] at e1 e2
          by_cases hm : m ≤ D
          · have e3 : IntKind.i64.wrap (m : Int) = (m : Int) := by rw [IntKind.wrap_i64]; omega
            have e4 : IntKind.i64.wrap ((k2 : Int) + (m : Int)) = ((k2 + m : Nat) : Int) := by rw [IntKind.wrap_i64]; omega
            have hmz : ¬ ((D : Int) < (m : Int)) := by omega
            have hst : Hid (rcL (L ++ [(bt.drop k2).take m]) cm (bt.drop (k2 + m)) = rcN n bt0) := by show _ = _; rw [← hsp2.out, rcL_step ht (by omega)]
            have hu : Hid ((bt.drop k2).take (k2 + m - k2) = (bt.drop k2).take m) := by show _ = _; rw [Nat.add_sub_cancel_left]
            have hul : Hid (((bt.drop k2).take m).length ≤ 1099511627776) := by have := hLen.out; show _ ≤ _; simp; omega
            have hle := Lib.hid (show k2 + m ≤ bt.length by omega)
            have hdl : Hid ((bt.drop (k2 + m)).length = bt.length - (k2 + m)) := by show _ = _; simp
            have hLL := hLen.out
            have hbz := hb.out.size
            generalize (bt.drop k2).take m = U at *
            have HLr := Lib.hid hL.out
            clear hsp hsp2 hB ht hL hD
            go_wp2_with (first
              | (go_at_call 65; refine cT.mono ?_; rintro e w2 ⟨rfl, rfl⟩)
              | (with_reducible show wpList _ _ _ (Oper.mk _ (Op.slice 43 (Operand.tmp 49) _ _ _) _ _ _ _ :: _) _ _
                 refine wpList_bmid rfl _ _ _ rfl _ bt k2 (k2 + m) rfl rfl rfl HBw.out (Nat.le_add_right _ _) hle.out ?_; intro q1 qc1 hq1; have HU := Lib.hid (hq1 _ HBw.out); rw [hu.out, Nat.add_sub_cancel_left] at HU; clear hq1)
              | (go_at_call 27; refine (clone27 _ _ U HU.out (by have := hul.out; omega)).mono ?_
                 rintro e w3 ⟨y, rfl, hbt, hb3⟩
                 have HB3 := Lib.hid (hb.out.trans (hb3.mono hbz))
                 have HY := Lib.hid (hbt.mono hbz)
                 have HL3 := Lib.hid (HLr.out.on hb3)
                 have hy1 : y.oneCell' = true := hbt.bs.one
                 obtain ⟨yp, yc, rfl, -⟩ := hbt.bs
                 clear hbt hb3)
              | (at_builtin; refine rowB_app rfl _ _ rfl w'.heap.size w3.heap.size _ (.slice yp U.length yc) L U rfl rfl (HL3.out.on (bel1 _ _)) (HY.out.on (bel1 _ _)) (cell_new _ _ _) (by have := HB3.out.size; simp; omega) (by omega) ?_
                 intro g4 c4 w4 hR4 hg4 hb4
                 have HR4 := Lib.hid hR4
                 have HB4 := Lib.hid ((HB3.out.trans ((bel1 w3 (.cells #[.slice yp U.length yc] 43)).mono HB3.out.size)).trans hb4)
                 clear hR4 hg4 hb4)
              | (with_reducible show wpList _ _ _ (Oper.mk _ (Op.slice 43 (Operand.tmp 56) _ _ _) _ _ _ _ :: _) _ _
                 refine wpList_bdrop rfl _ _ rfl _ bt (k2 + m) rfl rfl (HB.out.on HB4.out) hle.out ?_; intro q5 qc5 hq5; have HD5 := Lib.hid (hq5 _ HB.out); clear hq5))
            go_roundg (bt.length - (k2 + m))
            case measure => have := hg.out; omega
            case rel => exact ⟨cm, bt.drop (k2 + m), L ++ [U], hdl, by first | rfl | simp, by show _ < _; have := hcn.out; have := hcm1.out; omega, hst, HD5, HR4, by show _ ≤ _; rw [hdl.out]; simp; omega, HB4⟩
          · have hE : Hid (rc t = none) := by show rc t = none; rw [HR.out, ← hsp2.out, rcL_long ht (by omega)]; rfl
            have hmz : (D : Int) < (m : Int) := by omega
            clear hsp hsp2 hB ht hc2 hD
            go_wp2_with (first | (go_at_call 65; refine cT.mono ?_; rintro e w2 ⟨rfl, rfl⟩))
            go_ret2
            exact ⟨none, 0, 0, by rw [hE.out]; rfl, fun rs e => (by rw [hE.out] at e; cases e), hb.out⟩
end Go.Proofs.YtnclhjjhobbbjaaDoor
