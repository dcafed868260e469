/-
  Bytes of one's own; what bytes.Clone does.
  Bytes put behind bytes of one's own.
  Slices of slices of bytes; both Joins.
  Arguments that are bytes or slices of bytes, and what their bulk says.
  Numbers in groups of 7 bits, as mathematics: there and back. No walk.
  A commit as bytes, its frames, and what is read of frames one behind the other, as mathematics. No walk.
-/
import Derived.Test.YtnclhjjhobbbjaaDoorZPutn
import Derived.Deep.AppendLies
import Derived.Deep.Upon
import Derived.Lib.AppendZeros
import Derived.Deep.LoopGhost
import Derived.Test.YtnclhjjhobbbjaaDoorZSumShlSmallCallDirtyWrite
import Derived.WalkKit
namespace Go.Proofs.YtnclhjjhobbbjaaDoor
open Go.RowKit
set_option linter.unusedVariables false      -- a walk need not use every condition

/-- Bytes of one's own. -/
def Bts (w : World) (base : Nat) (v : Value) (t : List UInt8) : Prop := w.ownsRow base 5 1 v t.length (enc t)
theorem Bts.bs {w : World} {base : Nat} {v : Value} {t : List UInt8} (h : Bts w base v t) : Bs w v t := by
  unfold Bts at h
  rcases h.2 with ⟨rfl, h0⟩ | ⟨g, cap, cur, rfl, hbg, hg, hnc, hcm, hcs, htake⟩
  · have : t = [] := List.eq_nil_of_length_eq_zero h0
    subst this
    exact bs_nil w
  · refine ⟨_, cap, rfl, hnc, hcm, fun e => (by cases e), .inr ⟨g, 0, rfl, fun j u hu => ?_⟩⟩
    have := h.cells (g := g) rfl j u hu
    rw [Go.WideShapes.add_plain] at this
    exact this
theorem Bts.on {w w' : World} {base : Nat} {v : Value} {t : List UInt8} (h : Bts w base v t) (hb : Below w.heap.size w w') : Bts w' base v t := by
  unfold Bts at *
  refine World.ownsRow.kept h (gr_bel hb none) ?_
  cases hv : v.ownBlock with
  | none => exact .inl rfl
  | some g => exact .inr (by simp)
set_option maxHeartbeats 2000000 in
set_option maxRecDepth 100000 in
theorem clone27 (w : World) (v : Value) (t : List UInt8) (hv : Bs w v t) (hbig : t.length ≤ 140737488355328) :
    Calls Tryd.prog 27 #[v] w fun e w' => ∃ v', e = .returned v' ∧ Bts w' w.heap.size v' t ∧ Below w.heap.size w w' := by
  obtain ⟨p, cap, rfl, h1, h2, h3, h4⟩ := hv
  have q22 : ∀ (w : World) (a : Option Addr) (n c n' c' : Nat), (binOp .eql 43 (.slice a n c) (.slice none n' c')).run Tryd.prog w = .ok (.bool a.isNone) w := fun w a n c n' c' => Lib.run_eql_slice_nil w _ _ a n c n' c' Tryd.underlying43
  obtain ⟨i0, hi, hz0, hz1, hz2⟩ := info_parts info5
  cases p with
  | none =>
    have ht : t = [] := List.eq_nil_of_length_eq_zero (by have := h3 rfl; omega)
    subst ht
    go_enter Tryd.func27, Tryd.ntmps27
    go_wp2
    go_ret
    exact ⟨_, rfl, World.ownsRow_nil _ _ _ _, Below.refl _ _⟩
  | some a =>
    have hnews : ∀ j u, (enc t)[j]? = some u → w.cell? (a.add j) = some u := by
      intro j u hu
      rcases h4 with rfl | ⟨g, o, e, hc⟩
      · simp [enc] at hu
      · injection e with e
        subst e
        rw [Go.WideShapes.add_plain]
        exact hc j u hu
    have HN : Hid (∀ j u, (enc t)[j]? = some u → w.cell? (a.add j) = some u) := hnews
    clear hnews h4
    go_enter Tryd.func27, Tryd.ntmps27
    go_wp2_with (at_builtin; refine wpList_append_own _ rfl _ _ 43 rfl w.heap.size 5 i0 (.int .u8 0) 1 1 Tryd.underlying43 hi hz0 hz1 hz2 rfl (by decide) _ _ _ rfl (World.ownsRow_made w #[] 0 (Nat.le_refl _) (Nat.zero_le _) rfl) a t.length cap (enc t) rfl ?qc1 ?qc2 ?qc3 ?qc4 ?qc5 ?qc6 ?_)
    case qc1 => rw [len_enc]; omega
    case qc2 => exact fun j u hu => Lib.cell?_alloc_some _ (HN.out j u hu)
    case qc3 => exact one_enc t
    case qc4 => unfold maxLen; omega
    case qc5 => omega
    case qc6 => simp
    intro v' w1 hown hgrow hnil
    go_wp2
    go_ret
    refine ⟨v', rfl, ?_, ((Below.refl _ w).alloc (Nat.le_refl _) _).grown hgrow (by simp) (by intro k hk; simp [Value.ownBlock] at hk; omega)⟩
    unfold Bts
    simpa using hown
end Go.Proofs.YtnclhjjhobbbjaaDoor
namespace Go.Proofs.YtnclhjjhobbbjaaDoor
open Go.RowKit
set_option linter.unusedVariables false      -- a walk need not use every condition

theorem app_run (w : World) (base : Nat) (v x : Value) (t u : List UInt8) (hown : Bts w base v t) (hx : Bs w x u) (hlen : t.length + u.length ≤ 140737488355328) (hbase : base ≤ w.heap.size) (ty : TypeId) :
    ∃ v' w', (Builtin.append_ #[43, 43] ty #[v, x]).run Tryd.prog w = .ok v' w' ∧ Bts w' base v' (t ++ u) ∧ w.grownBy w' v.ownBlock := by
  obtain ⟨i0, hi, hz0, hz1, hz2⟩ := info_parts info5
  obtain ⟨p, cap, rfl, h1, h2, h3, h4⟩ := hx
  by_cases hu : u = []
  · subst hu
    have hsrc : Src Tryd.prog i0.size 43 (.slice p 0 cap) 0 [] w := by
      cases p with
      | none => exact Src.ofNil (w := w) Tryd.underlying43 cap
      | some a => exact Src.ofSlice (w := w) Tryd.underlying43 a 0 cap [] (by simp) (by simp) (by simp)
    have hs : ∃ q n c, v = .slice q n c ∧ n ≤ c := by
      rcases hown.2 with ⟨rfl, h0⟩ | ⟨g, cap, cur, rfl, hbg, hg, hnc, hcm, hcs, htake⟩
      · exact ⟨none, 0, 0, rfl, Nat.le_refl _⟩
      · exact ⟨_, _, cap, rfl, hnc⟩
    obtain ⟨q, n, c, rfl, hnc⟩ := hs
    refine ⟨_, w, run_append_nothing w 43 43 ty 5 i0 Tryd.underlying43 hi q n c hnc _ hsrc, by rw [List.append_nil]; exact hown, ⟨rfl, rfl, rfl, Nat.le_refl _, fun _ _ _ => rfl⟩⟩
  · obtain ⟨g, o, rfl, hc⟩ : ∃ g o, p = some ⟨g, o, none⟩ ∧ w.rangeAt g o (enc u) := h4.resolve_left hu
    have hpos : 0 < u.length := by cases u with
      | nil => exact absurd rfl hu
      | cons a b => simp
    obtain ⟨g', cap', w', hr, ho, hg, -, -⟩ := run_append_lies (P := Tryd.prog) w 43 ty base 5 i0 (.int .u8 0) 1 1 Tryd.underlying43 hi hz0 hz1 hz2 rfl (by decide) v t.length (enc t) hown ⟨g, o, none⟩ u.length cap (enc u) (by rw [len_enc]; omega) (fun j y hy => by rw [Go.WideShapes.add_plain]; exact hc j y hy) (one_enc u) hpos (by unfold maxLen; omega) (by omega) hbase w.heap.size rfl
    refine ⟨_, w', hr, ?_, hg⟩
    unfold Bts
    rw [List.length_append, enc, List.map_append]
    exact ho
theorem Bts.below {w w' : World} {base : Nat} {v : Value} {t : List UInt8} (h : Bts w base v t) (hg : w.grownBy w' v.ownBlock) (hbase : base ≤ w.heap.size) : Below base w w' :=
  ⟨hg.os, hg.tape, hg.output, hg.size, fun k hk => hg.block k (by omega) (fun e => by have := (World.ownsRow.lt h k e.symm).1; omega)⟩
theorem wpList_app {ops : Array Oper} {rest : List Oper} {o : Oper} {a : Act} {w : World} {Q : Exit → Act → World → Prop} (hgd : o.guard = none) (s x : Operand)
    (ho : o.op = .call { callee := .builtin .append, args := #[s, x], argTypes := #[43, 43] }) (base : Nat) (v y : Value) (t u : List UInt8) (hs : a.eval s = v) (hy : a.eval x = y) (hown : Bts w base v t) (hx : Bs w y u)
    (hlen : t.length + u.length ≤ 140737488355328) (hbase : base ≤ w.heap.size)
    (h : ∀ v' w', Bts w' base v' (t ++ u) → w.grownBy w' v.ownBlock → wpList Tryd.prog ops Q rest (a.put o.dst v') w') : wpList Tryd.prog ops Q (o :: rest) a w :=
  wpList_plain hgd fun _ hK => by
    obtain ⟨v', w', hr, h2, h3⟩ := app_run w base v y t u hown hx hlen hbase o.type
    unfold Oper.wp execOp
    simp only [ho, resolve, invoke, builtin, Sem.run_bind, Sem.run_pure, Result.andThen_ok, List.map_toArray, List.map_cons, List.map_nil, hs, hy, hr]
    exact hK _ _ (h v' w' h2 h3)
end Go.Proofs.YtnclhjjhobbbjaaDoor
namespace Go.Proofs.YtnclhjjhobbbjaaDoor
open Go.RowKit
set_option linter.unusedVariables false      -- a walk need not use every condition
attribute [local go_sem ↓] Go.wp_at_zero Go.wp_at_succ

/-- Slices of bytes that lie one behind the other, wherever that is. -/
def Bss (w : World) (v : Value) (L : List (List UInt8)) : Prop := ∃ p cap, v = .slice p L.length cap ∧
  (L = [] ∨ ∃ g o, p = some ⟨g, o, none⟩ ∧ ∀ i (h : i < L.length), ∃ x, w.cell? ⟨g, o + i, none⟩ = some x ∧ Bs w x L[i])
theorem Bss.on {w w' : World} {v : Value} {L : List (List UInt8)} (h : Bss w v L) (hb : Below w.heap.size w w') : Bss w' v L := by
  obtain ⟨p, cap, rfl, h⟩ := h
  refine ⟨p, cap, rfl, ?_⟩
  rcases h with h | ⟨g, o, rfl, h⟩
  · exact .inl h
  · refine .inr ⟨g, o, rfl, fun i hi => ?_⟩
    obtain ⟨x, hx, hB⟩ := h i hi
    exact ⟨x, (World.cell?_of_block (w := w) (a := ⟨g, o + i, none⟩) (hb.block _ (World.block_lt_of_cell? w ⟨g, o + i, none⟩ hx))).trans hx, hB.on hb⟩
theorem flat_succ (L : List (List UInt8)) {i : Nat} (h : i < L.length) : (L.take (i + 1)).flatten = (L.take i).flatten ++ L[i] := by
  rw [List.take_succ_eq_append_getElem h, List.flatten_append, List.flatten_cons, List.flatten_nil, List.append_nil]
theorem flat_le (L : List (List UInt8)) (i : Nat) : (L.take i).flatten.length ≤ L.flatten.length := by
  have h := List.take_append_drop i L
  have h2 : L.flatten = (L.take i).flatten ++ (L.drop i).flatten := by rw [← List.flatten_append, h]
  rw [h2]; simp
set_option maxHeartbeats 2000000 in
set_option maxRecDepth 100000 in
theorem grow86 (w : World) (n : Nat) (hn : n ≤ 140737488355328) :
    Calls Tryd.prog 86 #[.slice none 0 0, .int .i64 n] w fun e w' => ∃ v', e = .returned v' ∧ Bts w' w.heap.size v' [] ∧ Below w.heap.size w w' := by
  obtain ⟨i0, hi, hz0, hz1, hz2⟩ := info_parts info5
  by_cases h0 : n = 0
  · subst h0
    go_enter Tryd.func86, Tryd.ntmps86
    go_wp2
    go_ret
    exact ⟨_, rfl, World.ownsRow_nil _ _ _ _, Below.refl _ _⟩
  · have hr := Lib.run_append_nil_zeros (P := Tryd.prog) w 43 3 43 5 i0 (.int .u8 0) .i64 .i64 Tryd.underlying43 Tryd.underlying3 hi hz0 n (by omega) (by rw [hz1]; decide) (by omega) (by rw [hz2]; omega)
    have hcap : n ≤ grownCap w n 0 5 ∧ grownCap w n 0 5 ≤ maxLen := ⟨grownCap_ge _ _ _ _, grownCap_le_maxLen _ _ _ _ (by unfold maxLen; omega)⟩
    have hnz : (n : Int) ≤ 140737488355328 := by omega
    have hn0 : (0 : Int) < (n : Int) := by omega
    generalize hc : grownCap w n 0 5 = c at *
    go_enter Tryd.func86, Tryd.ntmps86
    go_wp2_with (at_builtin; refine Lib.wpList_append_run _ rfl _ _ _ _ rfl _ _ rfl rfl _ _ hr ?_)
    go_ret
    refine ⟨_, rfl, ?_, ?_⟩
    · refine ⟨rfl, .inr ⟨w.heap.size, c, _, rfl, Nat.le_refl _, heap_alloc_last w.drew _, Nat.zero_le _, hcap.2, ?_, rfl⟩⟩
      have hz : ∀ k, (Builtin.zeroCells #[Value.int .u8 0] k).size = k := fun k => by simp [Builtin.zeroCells]
      rw [Array.size_append, hz, hz]
      omega
    · exact (Below.refl _ w).drew.alloc (Nat.le_refl _) _
set_option maxHeartbeats 2000000 in
set_option maxRecDepth 100000 in
theorem concat81 (w : World) (v : Value) (L : List (List UInt8)) (hv : Bss w v L) (hn : L.length ≤ 140737488355328) (hlen : L.flatten.length ≤ 140737488355328) :
    Calls Tryd.prog 81 #[v] w fun e w' => ∃ v', e = .returned v' ∧ Bts w' w.heap.size v' L.flatten ∧ Below w.heap.size w w' := by
  have HV := Lib.hid hv
  have c51 := grow86
  obtain ⟨p, cap, rfl, -⟩ := hv
  have hnz : (L.length : Int) ≤ 140737488355328 := by omega
  go_enter Tryd.func81, Tryd.ntmps81
  go_wp2
  go_loopg [3, 11] L.length (fun g s3 s11 wr => ∃ i : Nat, i + g = L.length ∧ s11 = .int .i64 i ∧ s3 = .int .i64 ((L.take i).flatten.length : Nat) ∧ w = wr)
  case atStart => exact ⟨0, by omega, rfl, by simp, rfl⟩
  case round =>
    obtain ⟨i, hig, rfl, rfl, rfl⟩ := hrel
    cases gk with
    | succ g =>
      have hi : i < L.length := by omega
      have hiz : (i : Int) < (L.length : Int) := by omega
      have hi0 : (0 : Int) ≤ (i : Int) := by omega
      obtain ⟨p', cap', e, hel⟩ := HV.out
      injection e with e1 e2 e3
      subst e1 e3
      obtain ⟨b, o, rfl, hel2⟩ := hel.resolve_left (fun e => by rw [e] at hi; simp at hi)
      obtain ⟨x, hx, hxB⟩ := hel2 i hi
      obtain ⟨xp, xc, rfl, -⟩ := hxB
      have hfl : (L.take i).flatten.length + L[i].length ≤ 140737488355328 := by
        have := flat_le L (i + 1)
        rw [flat_succ L hi, List.length_append] at this
        omega
      have HF : Hid ((L.take (i + 1)).flatten.length = (L.take i).flatten.length + L[i].length) := by
        show _ = _
        rw [flat_succ L hi, List.length_append]
      generalize (L.take i).flatten.length = T at *
      generalize L[i].length = U at *
      have hs : IntKind.i64.wrap ((T : Int) + (U : Int)) = ((T + U : Nat) : Int) := by rw [IntKind.wrap_i64]; omega
      have hs0 : ¬ (((T + U : Nat) : Int) < 0) := by omega
      clear hel hel2
      go_wp2
      go_roundg g
      case measure => omega
      case rel => exact ⟨i + 1, by omega, by first | rfl | simp, by rw [HF.out]; simp, rfl⟩
    | zero =>
      obtain rfl : i = L.length := by omega
      rw [List.take_length]
      generalize hF : L.flatten.length = F at *
      have HFl := Lib.hid hF
      clear hF
      go_wp2_with (go_at_call 86; refine (c51 _ F (by omega)).mono ?_; rintro e w1 ⟨v1, rfl, hB1, hb1⟩)
      have HB1 := Lib.hid hB1
      have Hb1 := Lib.hid hb1
      clear hB1 hb1
      go_loopg [6, 27] L.length (fun g s6 s27 wr => ∃ i : Nat, i + g = L.length ∧ s27 = .int .i64 i ∧ Bts wr w.heap.size s6 (L.take i).flatten ∧ Below w.heap.size w wr)
      case atStart => exact ⟨0, by omega, rfl, HB1.out, Hb1.out⟩
      case round =>
        obtain ⟨i, hig, rfl, hB, hb⟩ := hrel
        have HB := Lib.hid hB
        have Hb := Lib.hid hb
        have hbz := hb.size
        clear hB hb
        cases gk with
        | zero =>
          obtain rfl : i = L.length := by omega
          go_wp2
          go_ret
          exact ⟨_, rfl, by have := HB.out; rwa [List.take_length] at this, Hb.out⟩
        | succ g =>
          have hi : i < L.length := by omega
          have hiz : (i : Int) < (L.length : Int) := by omega
          have hi0 : (0 : Int) ≤ (i : Int) := by omega
          obtain ⟨p', cap', e, hel⟩ := HV.out.on Hb.out
          injection e with e1 e2 e3
          subst e1 e3
          obtain ⟨b, o, rfl, hel2⟩ := hel.resolve_left (fun e => by rw [e] at hi; simp at hi)
          obtain ⟨x, hx, hxB⟩ := hel2 i hi
          have HX := Lib.hid hxB
          obtain ⟨xp, xc, rfl, -⟩ := hxB
          have hfl : Hid ((L.take i).flatten.length + L[i].length ≤ 140737488355328) := by
            have := flat_le L (i + 1)
            have h2 := HFl.out
            rw [flat_succ L hi, List.length_append] at this
            show _ ≤ _
            omega
          have HF := Lib.hid (flat_succ L hi)
          generalize (L.take i).flatten = T at *
          generalize L[i] = U at *
          clear hel hel2
          go_wp2_with (at_builtin; refine wpList_app rfl _ _ rfl w.heap.size _ _ T U rfl rfl HB.out HX.out hfl.out hbz ?_; intro v' w' hbt hgr)
          go_roundg g
          case measure => omega
          case rel => exact ⟨i + 1, by omega, by first | rfl | simp, by rw [HF.out]; exact hbt, Hb.out.trans (HB.out.below hgr hbz)⟩
theorem join68 (w : World) (v : Value) (L : List (List UInt8)) (hv : Bss w v L) (hn : L.length ≤ 140737488355328) (hlen : L.flatten.length ≤ 140737488355328) :
    Calls Tryd.prog 68 #[v] w fun e w' => ∃ v', e = .returned v' ∧ Bts w' w.heap.size v' L.flatten ∧ Below w.heap.size w w' := by
  have c47 := concat81 w v L hv hn hlen
  obtain ⟨p, cap, rfl, -⟩ := hv
  go_enter Tryd.func68, Tryd.ntmps68
  go_wp2_with (go_at_call 81; refine c47.mono ?_; rintro e w1 ⟨v1, rfl, hB1, hb1⟩)
  go_ret
  exact ⟨_, rfl, hB1, hb1⟩
end Go.Proofs.YtnclhjjhobbbjaaDoor
namespace Go.Proofs.YtnclhjjhobbbjaaDoor
open Go.ChangeShapes Go.WideShapes Go.ChangeAt Go.RowKit

theorem bulk_one {H : Type} (d : DataW H) : 1 ≤ Rows.uptoBulk d := by
  cases d with
  | lit l => cases l <;> simp [Rows.uptoBulk]
  | _ => simp [Rows.uptoBulk]
theorem bulk_len {H : Type} : ∀ l : List (DataW H), l.length ≤ Rows.uptoBulkAll l
  | [] => by simp
  | x :: r => by
    have := bulk_one x
    have := bulk_len r
    simp only [Rows.uptoBulkAll, List.length_cons]
    omega
theorem bulk_slice {H : Type} (e s : List (DataW H)) : e.length ≤ Rows.uptoBulk (.slice e s) := by
  have := bulk_len e
  simp only [Rows.uptoBulk]
  omega
theorem bulk_flat {H : Type} : ∀ (E : List (DataW H)) (L : List (List UInt8)), L.length = E.length → (∀ i (h : i < L.length) (h' : i < E.length), L[i].length ≤ Rows.uptoBulk E[i]) → L.flatten.length ≤ Rows.uptoBulkAll E
  | [], L, hl, _ => by
    have : L = [] := List.eq_nil_of_length_eq_zero hl
    subst this
    simp
  | x :: E, [], hl, _ => by simp at hl
  | x :: E, a :: L, hl, h => by
    have h0 := h 0 (by simp) (by simp)
    have hr := bulk_flat E L (by simpa using hl) (fun i hi hi' => h (i + 1) (by simpa using hi) (by simpa using hi'))
    simp only [List.getElem_cons_zero] at h0
    simp only [Rows.uptoBulkAll, List.flatten_cons, List.length_append]
    omega
theorem cells22 : Tryd.prog.cellsOf 43 = 1 := by kernel_rfl
set_option maxRecDepth 100000 in
theorem open_bytesU {H : Type} {enc : TypeId × Value → H} {W : World} (n : Nat) (cs : List Value) (x : DataW H × List MemPlace) (h : DataW.trod enc Tryd.prog W 0 (fun _ => true) true n 43 cs = some x) :
    ∃ (v : Value) (t : List UInt8), cs = [v] ∧ Bs W v t ∧ t.length ≤ Rows.uptoBulk x.1 := by
  rcases DataW.trod_slice Tryd.underlying43 h with ⟨hcs, -⟩ | ⟨a, len, cap, elems, rest, m, rfl, hcs, hx, hb, hl, hm, hlen, hel, hsp, hns⟩
  · exact ⟨_, [], hcs, bs_nil W, by simp⟩
  · subst hx
    rw [cells5'] at hel
    have hr := bulk_slice (elems.map (·.1)) (rest.map (·.1))
    rw [List.length_map, hlen] at hr
    have hadd : ∀ n, (a.add n).block = a.block ∧ (a.add n).off = a.off + n := by
      intro n; unfold Addr.add; split <;> simp_all
    have each : ∀ i, i < len → ∃ c : UInt8, (i = 0 → a.spot = none) ∧ W.cell? ⟨a.block, a.off + i, none⟩ = some (.int .u8 c.toNat) := by
      intro i hi
      have he := hel i hi
      rw [List.getElem?_eq_getElem (by omega), Option.bind_eq_some_iff] at he
      obtain ⟨ci, hci, htr⟩ := he
      obtain ⟨x, rfl, -, hwf⟩ := DataW.trod_int Tryd.underlying5 htr
      obtain ⟨c, rfl⟩ := byte_of hwf
      obtain ⟨h1, h2, -⟩ := cells_range hci (by omega)
      rw [(hadd (i * 1)).1, (hadd (i * 1)).2] at h2
      refine ⟨c, fun hi0 => ?_, ?_⟩
      · subst hi0
        simpa [Addr.add] using h1
      · have := h2 0 _ rfl
        simpa using this
    by_cases h0 : len = 0
    · subst h0
      exact ⟨_, [], hcs, ⟨some a, cap, rfl, by simp, hm, fun e => (by cases e), .inl rfl⟩, by simp⟩
    · obtain ⟨o0, hs0, hr0⟩ := each 0 (by omega)
      have hsn := hs0 rfl
      let g : Nat → UInt8 := fun i => if h : i < len then (each i h).choose else o0
      have hg : ∀ i (h : i < len), W.cell? ⟨a.block, a.off + i, none⟩ = some (.int .u8 (g i).toNat) := fun i h => by
        show W.cell? ⟨a.block, a.off + i, none⟩ = some (.int .u8 (if h : i < len then (each i h).choose else o0).toNat)
        rw [dif_pos h]; exact (each i h).choose_spec.2
      refine ⟨_, (List.range len).map g, hcs, ⟨some a, cap, by simp, by simpa using hl, hm, fun e => (by cases e), .inr ⟨a.block, a.off, ?_, fun j v hv => ?_⟩⟩, by rw [List.length_map, List.length_range]; exact hr⟩
      · obtain ⟨b, o, sp⟩ := a
        have : sp = none := hsn
        subst this
        rfl
      · unfold YtnclhjjhobbbjaaDoor.enc at hv
        simp only [List.map_map, List.getElem?_map, Option.map_eq_some_iff] at hv
        obtain ⟨i, hi, rfl⟩ := hv
        obtain ⟨hj, e⟩ := List.getElem?_eq_some_iff.1 hi
        simp at hj e
        subst e
        exact hg j hj
set_option maxRecDepth 100000 in
theorem arg_bytesU {H : Type} {enc : TypeId × Value → H} {W : World} {base : Nat} {v : Value} {d : DataW H} {ps : List MemPlace} (hval : Value.okWide Tryd.prog W .any base 43 v) (h : DataW.Trod enc Tryd.prog W 0 (fun _ => true) true 43 v d ps) :
    ∃ t : List UInt8, Bs W v t ∧ t.length ≤ Rows.uptoBulk d := by
  obtain ⟨a0, len0, cap0, rfl⟩ := okWide_slice Tryd.underlying43 hval
  obtain ⟨n, hn⟩ := h
  obtain ⟨v', t, hcs, hB, hl⟩ := open_bytesU n _ _ hn
  simp [Value.cells] at hcs
  subst hcs
  exact ⟨t, hB, hl⟩
set_option maxRecDepth 100000 in
theorem arg_bssU {H : Type} {enc : TypeId × Value → H} {W : World} {base : Nat} {v : Value} {d : DataW H} {ps : List MemPlace} (hval : Value.okWide Tryd.prog W .any base 35 v) (h : DataW.Trod enc Tryd.prog W 0 (fun _ => true) true 35 v d ps) :
    ∃ L : List (List UInt8), Bss W v L ∧ L.length ≤ Rows.uptoBulk d ∧ L.flatten.length ≤ Rows.uptoBulk d := by
  obtain ⟨a0, len0, cap0, rfl⟩ := okWide_slice Tryd.underlying35 hval
  obtain ⟨n, hn⟩ := h
  rcases DataW.trod_slice Tryd.underlying35 hn with ⟨hcs, -⟩ | ⟨a, len, cap, elems, rest, m, rfl, hcs, hx, hb, hl, hm, hlen, hel, hsp, hns⟩
  · simp [Value.cells] at hcs
    obtain ⟨rfl, rfl, rfl⟩ := hcs
    exact ⟨[], ⟨none, 0, rfl, .inl rfl⟩, by simp, by simp⟩
  · simp [Value.cells] at hcs
    obtain ⟨rfl, rfl, rfl⟩ := hcs
    simp only [Prod.mk.injEq] at hx
    obtain ⟨rfl, rfl⟩ := hx
    rw [cells22] at hel
    have hr := bulk_slice (elems.map (·.1)) (rest.map (·.1))
    rw [List.length_map, hlen] at hr
    have hadd : ∀ n, (a.add n).block = a.block ∧ (a.add n).off = a.off + n := by
      intro n; unfold Addr.add; split <;> simp_all
    have each : ∀ i (hi : i < len0), ∃ o : List UInt8, (i = 0 → a.spot = none) ∧ (∃ x, W.cell? ⟨a.block, a.off + i, none⟩ = some x ∧ Bs W x o) ∧ o.length ≤ Rows.uptoBulk ((elems.map (·.1))[i]'(by rw [List.length_map, hlen]; exact hi)) := by
      intro i hi
      have he := hel i hi
      rw [List.getElem?_eq_getElem (by omega), Option.bind_eq_some_iff] at he
      obtain ⟨ci, hci, htr⟩ := he
      obtain ⟨x, o, rfl, hB, hbl⟩ := open_bytesU m ci _ htr
      obtain ⟨h1, h2, -⟩ := cells_range hci (by omega)
      rw [(hadd (i * 1)).1, (hadd (i * 1)).2] at h2
      refine ⟨o, fun hi0 => ?_, ⟨x, ?_, hB⟩, by rw [List.getElem_map]; exact hbl⟩
      · subst hi0
        simpa [Addr.add] using h1
      · have := h2 0 _ rfl
        simpa using this
    by_cases h0 : len0 = 0
    · subst h0
      exact ⟨[], ⟨some a, cap0, rfl, .inl rfl⟩, by simp, by simp⟩
    · obtain ⟨o0, hs0, -⟩ := each 0 (by omega)
      have hsn := hs0 rfl
      let g : Nat → List UInt8 := fun i => if h : i < len0 then (each i h).choose else o0
      have hg : ∀ i (h : i < len0), (∃ x, W.cell? ⟨a.block, a.off + i, none⟩ = some x ∧ Bs W x (g i)) ∧ (g i).length ≤ Rows.uptoBulk ((elems.map (·.1))[i]'(by rw [List.length_map, hlen]; exact h)) := fun i h => by
        have hs := (each i h).choose_spec.2
        have e : g i = (each i h).choose := dif_pos h
        rw [e]
        exact hs
      refine ⟨(List.range len0).map g, ⟨some a, cap0, by simp, .inr ⟨a.block, a.off, ?_, fun i hi => ?_⟩⟩, by rw [List.length_map, List.length_range]; exact hr, ?_⟩
      · obtain ⟨b, o, sp⟩ := a
        have : sp = none := hsn
        subst this
        rfl
      · simp only [List.length_map, List.length_range] at hi
        simp only [List.getElem_map, List.getElem_range]
        exact (hg i hi).1
      · have hf := bulk_flat (elems.map (·.1)) ((List.range len0).map g) (by simp [hlen]) (fun i hi hi' => by
          simp only [List.length_map, List.length_range] at hi
          rw [List.getElem_map, List.getElem_range]
          exact (hg i hi).2)
        simp only [Rows.uptoBulk]
        omega
end Go.Proofs.YtnclhjjhobbbjaaDoor
namespace Go.Proofs.YtnclhjjhobbbjaaDoor

theorem toNat_of {n : Nat} (h : n < 256) : (UInt8.ofNat n).toNat = n := by rw [UInt8.toNat_ofNat', Nat.mod_eq_of_lt (by omega)]
/-! ### Numbers in groups of 7 bits -/

/-- The bytes of u, of at most f + 1 groups. -/
def vntF : Nat → Nat → List UInt8
  | 0, u => [UInt8.ofNat u]
  | f + 1, u => if u < 128 then [UInt8.ofNat u] else UInt8.ofNat (u % 128 + 128) :: vntF f (u / 128)
/-- The bytes of a number of 64 bits. -/
def vnt (u : Nat) : List UInt8 := vntF 9 u
theorem vntF_pos (f u : Nat) : 0 < (vntF f u).length := by
  cases f with
  | zero => simp [vntF]
  | succ f => unfold vntF; split <;> simp
theorem vntF_le (f u : Nat) : (vntF f u).length ≤ f + 1 := by
  induction f generalizing u with
  | zero => simp [vntF]
  | succ f ih => unfold vntF; split <;> simp; exact ih _
theorem vntF_low (f u : Nat) (h : u < 128) : vntF f u = [UInt8.ofNat u] := by
  cases f with
  | zero => rfl
  | succ f => unfold vntF; rw [if_pos h]
theorem vntF_high (f u : Nat) (h : 128 ≤ u) : vntF (f + 1) u = UInt8.ofNat (u % 128 + 128) :: vntF f (u / 128) := by
  rw [vntF, if_neg (by omega)]
theorem vnt_le (u : Nat) : (vnt u).length ≤ 10 := vntF_le 9 u
theorem vnt_pos (u : Nat) : 0 < (vnt u).length := vntF_pos 9 u

/-- The first byte below 128. -/
def fb : List UInt8 → Option Nat
  | [] => none
  | c :: r => if c.toNat < 128 then some 0 else (fb r).map (· + 1)
/-- The number that groups say. -/
def gv : List UInt8 → Nat
  | [] => 0
  | c :: r => c.toNat % 128 + 128 * gv r
/-- So many groups, with that last one, are in the one form. -/
def inF (n : Nat) (c : UInt8) : Bool := decide (n ≤ 10) && (decide (n ≠ 10) || decide (c.toNat ≤ 1)) && (decide (c.toNat ≠ 0) || decide (n = 1))
theorem fb_lt : ∀ {l : List UInt8} {i : Nat}, fb l = some i → i < l.length
  | [], _, h => by cases h
  | c :: r, i, h => by
    simp only [fb] at h
    split at h
    · injection h with h; subst h; simp
    · cases hr : fb r with
      | none => rw [hr] at h; cases h
      | some j =>
        rw [hr] at h
        injection h with h
        have := fb_lt hr
        subst h
        simp; omega
theorem fb_app : ∀ {l : List UInt8} {i : Nat} (r : List UInt8), fb l = some i → fb (l ++ r) = some i
  | [], _, _, h => by cases h
  | c :: l, i, r, h => by
    simp only [fb, List.cons_append] at h ⊢
    split at h
    · rw [if_pos (by assumption)]; exact h
    · rw [if_neg (by assumption)]
      cases hr : fb l with
      | none => rw [hr] at h; cases h
      | some j => rw [fb_app r hr]; rw [hr] at h; exact h
/-- Groups: all but the last from 128 on. -/
theorem vntF_spec : ∀ (f u : Nat), u < 128 ^ (f + 1) → fb (vntF f u) = some ((vntF f u).length - 1) ∧ gv (vntF f u) = u ∧ ∃ c, (vntF f u)[(vntF f u).length - 1]? = some c ∧ (1 < (vntF f u).length → c.toNat ≠ 0) ∧ c.toNat < 128 ∧ 128 ^ ((vntF f u).length - 1) * c.toNat ≤ u := by
  intro f
  induction f with
  | zero =>
    intro u hu
    have hu' : u < 128 := by simpa using hu
    have e := toNat_of (show u < 256 by omega)
    simp only [vntF, List.length_cons, List.length_nil, fb, gv]
    refine ⟨by rw [if_pos (by omega)], by omega, UInt8.ofNat u, rfl, fun h => by omega, by omega, by rw [e]; simp⟩
  | succ f ih =>
    intro u hu
    by_cases h : u < 128
    · rw [vntF_low _ _ h]
      have e := toNat_of (show u < 256 by omega)
      simp only [List.length_cons, List.length_nil, fb, gv]
      refine ⟨by rw [if_pos (by omega)], by omega, UInt8.ofNat u, rfl, fun h => by omega, by omega, by rw [e]; simp⟩
    · rw [vntF_high _ _ (by omega)]
      have e := toNat_of (show u % 128 + 128 < 256 by omega)
      obtain ⟨h1, h2, c, h3, h4, h5, h6⟩ := ih (u / 128) (by rw [Nat.pow_succ] at hu; omega)
      have hp := vntF_pos f (u / 128)
      generalize vntF f (u / 128) = l at *
      simp only [List.length_cons, fb, gv]
      rw [if_neg (by omega), h1, h2]
      refine ⟨by simp; omega, by omega, c, ?_, fun _ => ?_, h5, ?_⟩
      · rw [show l.length + 1 - 1 = (l.length - 1) + 1 by omega, List.getElem?_cons_succ]; exact h3
      · by_cases hl : 1 < l.length
        · exact h4 hl
        · have hl1 : l.length = 1 := by omega
          match l, hl1 with
          | [d], _ =>
            simp at h3
            simp [gv] at h2
            subst h3
            omega
      · rw [show l.length + 1 - 1 = (l.length - 1) + 1 by omega, Nat.pow_succ]
        have : 128 ^ (l.length - 1) * 128 * c.toNat = 128 * (128 ^ (l.length - 1) * c.toNat) := by
          rw [Nat.mul_comm (128 ^ (l.length - 1)) 128, Nat.mul_assoc]
        omega
theorem gv_lt : ∀ (l : List UInt8) (c : UInt8), gv (l ++ [c]) < 128 ^ l.length * (c.toNat % 128 + 1)
  | [], c => by simp [gv]
  | d :: l, c => by
    have h := gv_lt l c
    simp only [List.cons_append, gv, List.length_cons, Nat.pow_succ]
    have hd := Nat.mod_lt d.toNat (show 128 > 0 by omega)
    have : 128 ^ l.length * 128 * (c.toNat % 128 + 1) = 128 * (128 ^ l.length * (c.toNat % 128 + 1)) := by
      rw [Nat.mul_comm (128 ^ l.length) 128, Nat.mul_assoc]
    omega
theorem gv_pos : ∀ (l : List UInt8) (c : UInt8), c.toNat % 128 ≠ 0 → 0 < gv (l ++ [c])
  | [], c, h => by simp [gv]; omega
  | d :: l, c, h => by
    have := gv_pos l c h
    simp only [List.cons_append, gv]; omega
/-- Groups in the one form are those of the number that they say. -/
theorem vnt_gv : ∀ (l : List UInt8) (c : UInt8) (f : Nat), (∀ d ∈ l, 128 ≤ d.toNat) → c.toNat < 128 → (l ≠ [] → c.toNat ≠ 0) → l.length ≤ f → vntF f (gv (l ++ [c])) = l ++ [c]
  | [], c, f, _, hc, _, _ => by
    simp only [List.nil_append, gv]
    rw [Nat.mod_eq_of_lt hc, Nat.mul_zero, Nat.add_zero, vntF_low _ _ hc, UInt8.ofNat_toNat]
  | d :: l, c, f, hl, hc, hne, hf => by
    have hc0 := hne (by simp)
    obtain ⟨f, rfl⟩ : ∃ g, f = g + 1 := ⟨f - 1, by simp at hf; omega⟩
    have hp := gv_pos l c (by omega)
    have ih := vnt_gv l c f (fun x hx => hl x (by simp [hx])) hc (fun _ => hc0) (by simpa using hf)
    have hd := hl d (by simp)
    have hd2 := d.toNat_lt
    simp only [List.cons_append, gv]
    rw [vntF_high _ _ (by omega), show (d.toNat % 128 + 128 * gv (l ++ [c])) / 128 = gv (l ++ [c]) by omega, ih, show (d.toNat % 128 + 128 * gv (l ++ [c])) % 128 + 128 = d.toNat by omega, UInt8.ofNat_toNat]
theorem fb_split : ∀ {t : List UInt8} {i : Nat}, fb t = some i → ∃ (l : List UInt8) (c : UInt8) (r : List UInt8), t = l ++ c :: r ∧ l.length = i ∧ (∀ d ∈ l, 128 ≤ d.toNat) ∧ c.toNat < 128
  | [], _, h => by cases h
  | c :: t, i, h => by
    simp only [fb] at h
    by_cases hc : c.toNat < 128
    · rw [if_pos hc] at h
      injection h with h
      exact ⟨[], c, t, rfl, h, fun _ h => (by cases h), hc⟩
    · rw [if_neg hc] at h
      cases hr : fb t with
      | none => rw [hr] at h; cases h
      | some j =>
        rw [hr] at h
        injection h with h
        obtain ⟨l, d, r, e, h1, h2, h3⟩ := fb_split hr
        exact ⟨c :: l, d, r, by rw [e]; rfl, by rw [List.length_cons, h1]; exact h, fun x hx => by
          rcases List.mem_cons.1 hx with rfl | hx
          · omega
          · exact h2 x hx, h3⟩

/-- The number with which bytes begin, and how many bytes it has. -/
def tk (t : List UInt8) : Option (Nat × Nat) := match fb t with
  | none => none
  | some i => if inF (i + 1) (t.getD i 0) then some (gv (t.take (i + 1)), i + 1) else none
theorem tk_there (u : Nat) (hu : u < 18446744073709551616) (r : List UInt8) : tk (vnt u ++ r) = some (u, (vnt u).length) := by
  obtain ⟨h1, h2, c, h3, h4, h5, h6⟩ := vntF_spec 9 u (by omega)
  have hl := vntF_le 9 u
  have hp := vntF_pos 9 u
  unfold tk vnt
  generalize vntF 9 u = l at *
  rw [fb_app r h1]
  have hi : l.length - 1 + 1 = l.length := by omega
  have hg : (l ++ r).getD (l.length - 1) 0 = c := by
    rw [List.getD_eq_getElem?_getD, List.getElem?_append_left (by omega), h3]; rfl
  have hF : inF (l.length - 1 + 1) c = true := by
    unfold inF
    rw [hi]
    have a1 : l.length ≤ 10 := by omega
    have a2 : l.length ≠ 10 ∨ c.toNat ≤ 1 := by
      by_cases h : l.length = 10
      · right
        rw [h] at h6
        have e : 128 ^ (10 - 1) = 9223372036854775808 := by decide
        rw [e] at h6
        omega
      · exact .inl h
    have a3 : c.toNat ≠ 0 ∨ l.length = 1 := by
      by_cases h : 1 < l.length
      · exact .inl (h4 h)
      · exact .inr (by omega)
    simp only [decide_eq_true a1, Bool.true_and, Bool.and_eq_true, Bool.or_eq_true, decide_eq_true_eq]
    exact ⟨a2, a3⟩
  simp only [hg, hF, if_true]
  rw [hi, List.take_left, h2]
theorem tk_back {t : List UInt8} {u k : Nat} (h : tk t = some (u, k)) : t = vnt u ++ t.drop k ∧ u < 18446744073709551616 ∧ 1 ≤ k ∧ k ≤ t.length ∧ k = (vnt u).length := by
  unfold tk at h
  cases hf : fb t with
  | none => rw [hf] at h; cases h
  | some i =>
    rw [hf] at h
    obtain ⟨l, c, s, rfl, h1, h2, h3⟩ := fb_split hf
    subst h1
    have hg : (l ++ c :: s).getD l.length 0 = c := by
      rw [List.getD_eq_getElem?_getD, List.getElem?_append_right (Nat.le_refl _)]; simp
    simp only [hg] at h
    by_cases hF : inF (l.length + 1) c = true
    · rw [if_pos hF] at h
      injection h with h
      injection h with e1 e2
      have hq : l ++ c :: s = (l ++ [c]) ++ s := by simp
      have hn : l.length + 1 = (l ++ [c]).length := by simp
      have ht : (l ++ c :: s).take (l.length + 1) = l ++ [c] := by rw [hq, hn, List.take_left]
      have hd : (l ++ c :: s).drop (l.length + 1) = s := by rw [hq, hn, List.drop_left]
      rw [ht] at e1
      subst e2
      rw [hd]
      unfold inF at hF
      simp only [Bool.and_eq_true, Bool.or_eq_true, decide_eq_true_eq] at hF
      obtain ⟨⟨a1, a2⟩, a3⟩ := hF
      have he := vnt_gv l c 9 h2 h3 (fun hne => by
        rcases a3 with a3 | a3
        · exact a3
        · exact absurd (List.eq_nil_of_length_eq_zero (by omega)) hne) (by omega)
      rw [e1] at he
      refine ⟨?_, ?_, by omega, by simp, by unfold vnt; rw [he]; simp⟩
      · unfold vnt; rw [he]; simp
      · have hlt := gv_lt l c
        rw [e1, Nat.mod_eq_of_lt h3] at hlt
        by_cases h9 : l.length = 9
        · have hc1 : c.toNat ≤ 1 := by omega
          rw [h9] at hlt
          have : 128 ^ 9 * (c.toNat + 1) ≤ 128 ^ 9 * 2 := Nat.mul_le_mul_left _ (by omega)
          omega
        · have h8 : 128 ^ l.length ≤ 128 ^ 8 := Nat.pow_le_pow_right (by omega) (by omega)
          have : 128 ^ l.length * (c.toNat + 1) ≤ 128 ^ 8 * 128 := Nat.mul_le_mul h8 (by omega)
          omega
    · rw [if_neg hF] at h; cases h
end Go.Proofs.YtnclhjjhobbbjaaDoor
namespace Go.Proofs.YtnclhjjhobbbjaaDoor

/-! ### Bytes in pieces -/

/-- The piece x. -/
def pc (t : List UInt8) (x : Nat) : List UInt8 := (t.drop (112 * x)).take 112
/-- How many pieces. -/
def pn (t : List UInt8) : Nat := (t.length + 111) / 112
def cutL (t : List UInt8) : List (List UInt8) := (List.range (pn t)).map (pc t)
theorem cut_len (t : List UInt8) : (cutL t).length = pn t := by simp [cutL]
theorem pc_len (t : List UInt8) (x : Nat) : (pc t x).length = min 112 (t.length - 112 * x) := by simp [pc]
theorem pc_le (t : List UInt8) (x : Nat) : (pc t x).length ≤ 112 := by rw [pc_len]; omega
theorem pcs_take (t : List UInt8) : ∀ k, ((List.range k).map (pc t)).flatten = t.take (112 * k)
  | 0 => by simp
  | k + 1 => by
    rw [List.range_succ, List.map_append, List.flatten_append, pcs_take t k, show 112 * (k + 1) = 112 * k + 112 by omega, List.take_add]
    simp [pc]
theorem cut_flat (t : List UInt8) : (cutL t).flatten = t := by
  unfold cutL
  rw [pcs_take, List.take_of_length_le (by unfold pn; omega)]
theorem cut_at (t : List UInt8) {x : Nat} (h : x < (cutL t).length) : (cutL t)[x] = pc t x := by simp [cutL]

/-! ### A commit's bytes -/

abbrev Rs := List (List UInt8)
abbrev Cs := List Rs
def rby (r : List UInt8) : List UInt8 := vnt r.length ++ r
def rsb (rs : Rs) : List UInt8 := (rs.map rby).flatten
/-- A commit's bytes. -/
def cby (rs : Rs) : List UInt8 := vnt rs.length ++ rsb rs
/-- So many records, and what is left. -/
def rcN : Nat → List UInt8 → Option (Rs × List UInt8)
  | 0, t => some ([], t)
  | n + 1, t => match tk t with
    | none => none
    | some (m, k) => if m ≤ t.length - k then (rcN n (t.drop (k + m))).map (fun x => ((t.drop k).take m :: x.1, x.2)) else none
/-- What is left of all. -/
def rcE : Option (Rs × List UInt8) → Option Rs
  | some (l, []) => some l
  | _ => none
/-- The records whose bytes these are. -/
def rc (t : List UInt8) : Option Rs := match tk t with
  | none => none
  | some (n, k) => rcE (rcN n (t.drop k))
/-- Numbers in it have room. -/
def okC (c : Rs) : Prop := c.length < 18446744073709551616 ∧ ∀ r ∈ c, r.length < 18446744073709551616
theorem rsb_cons (r : List UInt8) (rs : Rs) : rsb (r :: rs) = vnt r.length ++ (r ++ rsb rs) := by simp [rsb, rby]
theorem rsb_nil : rsb [] = [] := rfl
theorem rsb_app (a b : Rs) : rsb (a ++ b) = rsb a ++ rsb b := by simp [rsb]
theorem rcN_there : ∀ (rs : Rs) (t : List UInt8), (∀ r ∈ rs, r.length < 18446744073709551616) → rcN rs.length (rsb rs ++ t) = some (rs, t)
  | [], t, _ => rfl
  | r :: rs, t, h => by
    have ih := rcN_there rs t (fun x hx => h x (List.mem_cons_of_mem _ hx))
    have hr := h r (by simp)
    rw [rsb_cons, List.length_cons, rcN, List.append_assoc, tk_there _ hr]
    have h1 : r.length ≤ (vnt r.length ++ (r ++ rsb rs ++ t)).length - (vnt r.length).length := by simp
    simp only [if_pos h1]
    have h2 : (vnt r.length ++ (r ++ rsb rs ++ t)).drop ((vnt r.length).length + r.length) = rsb rs ++ t := by
      rw [← List.drop_drop, List.drop_left, List.append_assoc, List.drop_left]
    have h3 : ((vnt r.length ++ (r ++ rsb rs ++ t)).drop (vnt r.length).length).take r.length = r := by
      rw [List.drop_left, List.append_assoc, List.take_left]
    rw [h2, h3, ih]
    rfl
theorem rc_cby {rs : Rs} (h : okC rs) : rc (cby rs) = some rs := by
  unfold rc cby
  rw [tk_there _ h.1]
  simp only
  rw [List.drop_left]
  have := rcN_there rs [] h.2
  rw [List.append_nil] at this
  rw [this]
  rfl
theorem rc_nil : rc [] = none := rfl
theorem cby_pos (rs : Rs) : 0 < (cby rs).length := by
  unfold cby
  have := vnt_pos rs.length
  rw [List.length_append]
  omega
theorem pn_pos (rs : Rs) : 0 < pn (cby rs) := by
  have := cby_pos rs
  unfold pn
  omega

/-! ### What is read of frames -/

abbrev Fra := Nat → Option (Int × Int × List UInt8)
/-- What the frames from i on have, up to the next one that ends a commit. -/
def pcs (F : Fra) (e : Int) : Nat → Nat → Option (List (List UInt8))
  | 0, _ => none
  | k + 1, i => match F i with
    | none => none
    | some (K, N, P) => if N = e * 65536 + i then (if K = 3 then some [P] else if K = 2 then (pcs F e k (i + 1)).map (P :: ·) else none) else none
def rdc (F : Fra) (e : Int) (left i : Nat) : Option (Rs × Nat) := match pcs F e left i with
  | none => none
  | some ps => (rc ps.flatten).map fun r => (r, ps.length)
/-- All commits from u on, and where they end. -/
def rds (F : Fra) (e : Int) (slots : Nat) : Nat → Nat → Cs × Nat
  | 0, u => ([], u)
  | g + 1, u => match rdc F e (slots - u) u with
    | none => ([], u)
    | some (r, n) => (r :: (rds F e slots g (u + n)).1, (rds F e slots g (u + n)).2)
/-- The frame x of a commit whose first one stands in the slot i. -/
def fof (e : Int) (t : List UInt8) (i x : Nat) : Int × Int × List UInt8 := (if x + 1 = pn t then 3 else 2, e * 65536 + ((i + x : Nat) : Int), pc t x)
theorem fof_last (e : Int) {t : List UInt8} (i : Nat) {x : Nat} (h : x + 1 = pn t) : fof e t i x = (3, e * 65536 + ((i + x : Nat) : Int), pc t x) := by unfold fof; rw [if_pos h]
theorem fof_mid (e : Int) {t : List UInt8} (i : Nat) {x : Nat} (h : ¬ x + 1 = pn t) : fof e t i x = (2, e * 65536 + ((i + x : Nat) : Int), pc t x) := by unfold fof; rw [if_neg h]
def laidC (F : Fra) (e : Int) (i : Nat) (c : Rs) : Prop := ∀ x, x < pn (cby c) → F (i + x) = some (fof e (cby c) i x)
/-- Commits that stand from i on to j. -/
def laid (F : Fra) (e : Int) : Nat → Cs → Nat → Prop
  | i, [], j => i = j
  | i, c :: cs, j => laidC F e i c ∧ laid F e (i + pn (cby c)) cs j
def unfit (F : Fra) (e : Int) (j : Nat) : Prop := ∀ K N P, F j = some (K, N, P) → N ≠ e * 65536 + j
theorem pcs_from {F : Fra} {e : Int} {t : List UInt8} {i : Nat} (h : ∀ x, x < pn t → F (i + x) = some (fof e t i x)) :
    ∀ (d x k : Nat), x + d + 1 = pn t → d + 1 ≤ k → pcs F e k (i + x) = some ((cutL t).drop x)
  | d, x, 0, _, hk => by omega
  | d, x, k + 1, hx, hk => by
    have hl : x < (cutL t).length := by rw [cut_len]; omega
    rw [pcs, h x (by omega), List.drop_eq_getElem_cons hl, cut_at]
    cases d with
    | zero =>
      rw [fof_last e i (show x + 1 = pn t by omega), List.drop_eq_nil_of_le (by rw [cut_len]; omega)]
      simp
    | succ d =>
      rw [fof_mid e i (show ¬ x + 1 = pn t by omega)]
      simp only [if_true, show ¬ (2 : Int) = 3 by decide, if_false]
      have := pcs_from h d (x + 1) k (by omega) (by omega)
      rw [show i + x + 1 = i + (x + 1) by omega, this]
      rfl
theorem rdc_laid {F : Fra} {e : Int} {c : Rs} {i k : Nat} (h : laidC F e i c) (hk : pn (cby c) ≤ k) (ho : okC c) : rdc F e k i = some (c, pn (cby c)) := by
  have hp := pn_pos c
  have := pcs_from h (pn (cby c) - 1) 0 k (by omega) (by omega)
  unfold rdc
  rw [Nat.add_zero, List.drop_zero] at this
  rw [this]
  simp only
  rw [cut_flat, rc_cby ho, cut_len]
  rfl
theorem pcs_unfit {F : Fra} {e : Int} {j : Nat} (h : unfit F e j) (k : Nat) : pcs F e k j = none := by
  cases k with
  | zero => rfl
  | succ k =>
    rw [pcs]
    cases hF : F j with
    | none => rfl
    | some y =>
      obtain ⟨K, N, P⟩ := y
      simp only
      rw [if_neg (h K N P hF)]
theorem rdc_unfit {F : Fra} {e : Int} {j : Nat} (h : unfit F e j) (k : Nat) : rdc F e k j = none := by
  unfold rdc
  rw [pcs_unfit h]
theorem pcs_part {F : Fra} {e : Int} {t : List UInt8} {i x0 : Nat} (hx : x0 < pn t) (h : ∀ y, y < x0 → F (i + y) = some (fof e t i y)) (hu : unfit F e (i + x0)) :
    ∀ (d y k : Nat), y + d = x0 → pcs F e k (i + y) = none
  | 0, y, k, hy => by
    obtain rfl : y = x0 := by omega
    exact pcs_unfit hu k
  | d + 1, y, 0, hy => rfl
  | d + 1, y, k + 1, hy => by
    rw [pcs, h y (by omega)]
    rw [fof_mid e i (show ¬ y + 1 = pn t by omega)]
    simp only [if_true, show ¬ (2 : Int) = 3 by decide, if_false]
    have := pcs_part hx h hu d (y + 1) k (by omega)
    rw [show i + y + 1 = i + (y + 1) by omega, this]
    rfl
theorem rdc_part {F : Fra} {e : Int} {t : List UInt8} {i x0 : Nat} (hx : x0 < pn t) (h : ∀ y, y < x0 → F (i + y) = some (fof e t i y)) (hu : unfit F e (i + x0)) (k : Nat) : rdc F e k i = none := by
  have := pcs_part hx h hu x0 0 k (by omega)
  rw [Nat.add_zero] at this
  unfold rdc
  rw [this]
theorem rdc_zero (F : Fra) (e : Int) (i : Nat) : rdc F e 0 i = none := rfl
theorem rds_laid {F : Fra} {e : Int} {slots j : Nat} (hj : j ≤ slots) (hs : rdc F e (slots - j) j = none) : ∀ (cs : Cs) (i g : Nat), laid F e i cs j → cs.length < g → (∀ c ∈ cs, okC c) → rds F e slots g i = (cs, j)
  | [], i, g, h, hg, _ => by
    obtain rfl : i = j := h
    obtain ⟨g, rfl⟩ : ∃ k, g = k + 1 := ⟨g - 1, by simp at hg; omega⟩
    rw [rds, hs]
  | c :: cs, i, g, h, hg, ho => by
    obtain ⟨h1, h2⟩ := h
    obtain ⟨g, rfl⟩ : ∃ k, g = k + 1 := ⟨g - 1, by simp at hg; omega⟩
    have hle : ∀ (cs : Cs) (i : Nat), laid F e i cs j → i ≤ j := by
      intro cs
      induction cs with
      | nil => intro i h; exact Nat.le_of_eq h
      | cons c cs ih => intro i h; have := ih _ h.2; omega
    have := hle cs _ h2
    rw [rds, rdc_laid h1 (by omega) (ho c (by simp))]
    simp only
    rw [rds_laid hj hs cs _ g h2 (by simp at hg; omega) (fun c hc => ho c (List.mem_cons_of_mem _ hc))]
theorem laid_le {F : Fra} {e : Int} {j : Nat} : ∀ (cs : Cs) (i : Nat), laid F e i cs j → i + cs.length ≤ j
  | [], i, h => Nat.le_of_eq h
  | c :: cs, i, h => by
    have := laid_le cs _ h.2
    have := pn_pos c
    simp
    omega
theorem laid_snoc {F : Fra} {e : Int} {j : Nat} {c : Rs} (hc : laidC F e j c) : ∀ (cs : Cs) (i : Nat), laid F e i cs j → laid F e i (cs ++ [c]) (j + pn (cby c))
  | [], i, h => by
    obtain rfl : i = j := h
    exact ⟨hc, rfl⟩
  | d :: cs, i, h => ⟨h.1, laid_snoc hc cs _ h.2⟩
/-- What is laid says so of each slot. -/
theorem laid_at {F : Fra} {e : Int} {j : Nat} : ∀ (cs : Cs) (i : Nat), laid F e i cs j → ∀ y, i ≤ y → y < j → ∃ K P, F y = some (K, e * 65536 + y, P)
  | [], i, h, y, h1, h2 => by have : i = j := h; omega
  | c :: cs, i, h, y, h1, h2 => by
    by_cases hy : y < i + pn (cby c)
    · have := h.1 (y - i) (by omega)
      rw [show i + (y - i) = y by omega] at this
      refine ⟨(fof e (cby c) i (y - i)).1, (fof e (cby c) i (y - i)).2.2, this.trans ?_⟩
      simp only [fof, show i + (y - i) = y by omega]
    · exact laid_at cs _ h.2 y (by omega) h2
theorem laid_same {F G : Fra} {e : Int} {j : Nat} : ∀ (cs : Cs) (i : Nat), laid F e i cs j → (∀ y, i ≤ y → y < j → G y = F y) → laid G e i cs j
  | [], i, h, _ => h
  | c :: cs, i, h, hG => by
    have hl := laid_le cs _ h.2
    exact ⟨fun x hx => (hG _ (by omega) (by omega)).trans (h.1 x hx), laid_same cs _ h.2 (fun y h1 h2 => hG y (by omega) h2)⟩
end Go.Proofs.YtnclhjjhobbbjaaDoor
