/-
  What replay does.
  A pager as it is built: its cells. No walk.
  What a page has on a disk; what is read of it; what replay and Format leave. Mathematics alone.
  What readCommits and Open of package wal do: as before, and that what they hand back lies where nothing was.
  What readBase does.
-/
import Derived.Test.YtfakgfmgofblgaaGreatDoorZSr
import Derived.Test.YtfakgfmgofblgaaGreatDoorZPrPg
import Derived.Test.YtfakgfmgofblgaaGreatDoorZFt
import Derived.Test.YtfakgfmgofblgaaGreatDoorZRg
import Derived.Test.YtfakgfmgofblgaaGreatDoorZFoWdWgWlBa
import Derived.Test.YtfakgfmgofblgaaGreatDoorZPoKyLpPq
namespace Go.Proofs.YtfakgfmgofblgaaGreatDoor
open Go.RowKit Go.Maps Go.WideShapes Go.Sort Go.Shelf
set_option linter.unusedVariables false      -- a walk need not use every condition
attribute [local go_sem ↓] Go.wp_at_zero Go.wp_at_succ

def wanted (b : Ba) (m : Nat → Option (List UInt8)) : List Nat := (keysM m).filter fun k => b.has k
def repl (s : Dsk) (L : Lg) (P : Pgr) (m : Nat → Option (List UInt8)) : Int × Lg × Dsk := setl s L P.slots (fun i => ((wanted P.was m).getD i 0, (m ((wanted P.was m).getD i 0)).getD [])) (wanted P.was m).length
def repR (x : Int × Lg × Dsk) : Int × Lg × Dsk := (if x.1 = 6 then 0 else x.1, x.2)
theorem row_intE {X : Nat → Prop} {w : World} {base : Nat} {v : Value} {L : List Nat} (h : w.ownsRow base 3 1 v L.length (nums L)) (hX : ∀ k, X k → k < base) : (sl intE).E X w v L := by
  obtain ⟨q, cap, rfl, hq⟩ := row_at h
  refine ⟨q, cap, rfl, ?_⟩
  rcases hq with hq | ⟨rb, rfl, h1, h2, h3⟩
  · exact .inl hq
  · refine .inr ⟨rb, 0, rfl, fun hx => by have := hX _ hx; omega, fun i hi => ⟨_, by have := h3 i hi; rw [Nat.zero_add]; exact this, rfl⟩⟩
set_option maxHeartbeats 4000000 in
set_option maxRecDepth 100000 in
theorem replay51 (X : Nat → Prop) (w : World) (d pb mb l p ms mk ml base : Nat) (tv : Value) (s : Dsk) (L : Lg) (P : Pgr) (h : At w d pb mb s) (hL : LAt w d pb mb l L) (hT : TabOk w) (hP : PAt w d l p ms mk ml base tv P) (hpl : (hpay L.slots L.note).length ≤ 112)
    (mm : Nat) (m : Nat → Option (List UInt8)) (hm : LmAt X w mm m) (hX : X d ∧ X pb ∧ X mb) (hXb : ∀ k, X k → k < w.heap.size) (hnm : ¬ X mm) (hnp : ∀ k, Xp p ms mk ml tv k → ¬ X k) :
    Calls Tryz.prog 51 #[.pointer (some ⟨p, 0, none⟩), .map (some mm)] w fun e w' => LogR (repR (repl s L P m)) d pb mb l w e w' ∧ w'.cell? ⟨l, 3, none⟩ = w.cell? ⟨l, 3, none⟩ := by
  have HA := Lib.hid h
  have HLA := Lib.hid hL
  have HT := Lib.hid hT
  have HP := Lib.hid hP
  have HM := Lib.hid hm
  obtain ⟨FR, hFR⟩ : ∃ FR, repl s L P m = FR := ⟨_, rfl⟩
  have HFR := Lib.hid hFR
  rw [hFR]
  clear hFR
  unfold repl at HFR
  obtain ⟨mv, hMV, hSy⟩ := hm
  have hkeys := hSy.keys
  obtain ⟨nn, D, ho, ht⟩ := hMV
  have b0 := bel1 w (.cells #[.map (some mm)] 95)
  have HB0 := Lib.hid b0
  have HBX := Lib.hid (heap_alloc_last w (.cells #[.map (some mm)] 95))
  have cK := keysBy_c (some mm) (w.alloc (.cells #[.map (some mm)] 95))
  have cS := sortedBy_c (w.alloc (.cells #[.map (some mm)] 95)) (ho.alloc _) (by rw [sizeV ho ht]; have := keysM_len mv; omega)
  have HPm : Hid ((ints (keysM m)).Perm (intKeys D)) := by show (ints (keysM m)).Perm _; rw [← hkeys]; exact keysV_perm ho ht
  have HKl : Hid ((keysM m).length ≤ 2048) := keysM_len m
  have HKm : Hid (∀ k ∈ keysM m, k < 2048 ∧ (m k).isSome = true) := fun k hk => mem_keysM.1 hk
  have HKs : Hid ((keysM m).Pairwise (· < ·)) := keysM_sorted m
  obtain ⟨K, hK⟩ : ∃ K, keysM m = K := ⟨_, rfl⟩
  unfold wanted at HFR
  rw [hK] at HPm HKl HKm HKs HFR
  clear hK hkeys ho ht hSy h hL hT hP b0
  rw [World.size_alloc] at cK cS
  go_enter Tryz.func51, Tryz.ntmps51
  go_wp2_with (first
    | (go_at_call 110; refine cK.mono ?_; rintro e w' ⟨rfl, ew⟩; rw [ew]; clear ew w')
    | (go_at_call 66; refine cS.mono ?_; rintro e w2 ⟨v, ss, rfl, hS, hrow, hnil, hb⟩
       have hp : ss.Perm (ints K) := hS.trans HPm.out.symm
       have hl : ss.length = K.length := by rw [hp.length_eq]; simp [ints]
       rw [sort_ints HKs.out hp, nums_eq, hl] at hrow
       have HB2 : Hid (Below w.heap.size w w2) := bel_then HB0.out (((Below.refl _ _).alloc (Nat.le_refl _) _).trans (hb.mono (by simp)))
       have HZ2 : Hid (w.heap.size + 2 ≤ w2.heap.size) := by show _ ≤ _; have := hb.size; simp at this; omega
       have HBX2 : Hid (w2.heap[w.heap.size]? = some (.cells #[.map (some mm)] 95)) := (hb.block _ (by omega)).trans (blk_on (bel1 _ _) HBX.out)
       obtain ⟨q, cap, rfl, hq⟩ := row_at hrow
       have HQ := Lib.hid hq
       clear hS hrow hnil hb hp hl hq))
  obtain ⟨N, hN⟩ : ∃ N, K.length = N := ⟨_, rfl⟩
  have HN := Lib.hid hN
  simp only [hN]
  clear hN
  have HNl : Hid (N ≤ 2048) := by show _ ≤ _; rw [← HN.out]; exact HKl.out
  go_loopg [5, 13] N (fun gk s5 s13 wr => ∃ (i : Nat) (tp : Option Addr) (tc : Nat), i + gk = N ∧ s13 = .int .i64 i ∧ s5 = .slice tp ((K.take i).filter fun k => P.was.has k).length tc ∧ Hid (wr.ownsRow w2.heap.size 3 1 (.slice tp ((K.take i).filter fun k => P.was.has k).length tc) ((K.take i).filter fun k => P.was.has k).length (nums ((K.take i).filter fun k => P.was.has k))) ∧ Hid (Below w2.heap.size w2 wr))
  case atStart => exact ⟨0, none, 0, by omega, rfl, rfl, World.ownsRow_nil _ _ _ _, Below.refl _ _⟩
  case round =>
    obtain ⟨i, tp, tc, hig, rfl, rfl, hR, hB⟩ := hrel
    have HBr := Lib.hid (bel_then HB2.out hB.out)
    cases gk with
    | zero =>
      obtain rfl : i = N := by omega
      have hKt : K.take i = K := List.take_of_length_le (by have := HN.out; omega)
      rw [hKt] at hR ⊢
      have c70 := settleR70 X wr d pb mb l p ms mk ml base tv s L P (HA.out.on HBr.out) (HLA.out.on HBr.out) (tab_on HT.out HBr.out) (HP.out.on HBr.out) hpl w.heap.size mm m (blk_on hB.out HBX2.out) (HM.out.kp (Kp.bel HBr.out) hnm) hX (fun hx => by have := hXb _ hx; omega) hnm hnp _ _ (row_intE hR.out (fun k hk => by have := hXb _ hk; have := HZ2.out; omega)) (fun k hk => HKm.out k (List.mem_filter.1 hk).1) (by have := List.length_filter_le (fun k => P.was.has k) K; have := HKl.out; omega)
      rw [HFR.out] at c70
      generalize K.filter (fun k => P.was.has k) = FK at *
      obtain ⟨fe, fl, fs⟩ := FR
      by_cases h6 : fe = 6
      · subst h6
        go_wp2_with (first | (go_at_call 70; refine c70.mono ?_; rintro e w3 ⟨⟨rfl, hA3, hL3, hK3, hT3⟩, hc3⟩))
        go_ret
        exact ⟨⟨rfl, hA3, hL3, (Kp.bel HBr.out).trans hK3, hT3⟩, hc3.trans (cell3_bel HLA.out HBr.out)⟩
      · have h6b : (fe == 6) = false := by simpa using h6
        go_wp2_with (first | (go_at_call 70; refine c70.mono ?_; rintro e w3 ⟨⟨rfl, hA3, hL3, hK3, hT3⟩, hc3⟩))
        go_ret
        exact ⟨⟨by show Ending.returned (.int .i64 fe) = _; simp [repR, h6], hA3, hL3, (Kp.bel HBr.out).trans hK3, hT3⟩, hc3.trans (cell3_bel HLA.out HBr.out)⟩
    | succ g =>
      have hi : i < K.length := by have := HN.out; omega
      have hiz : (i : Int) < (N : Int) := by omega
      have hNl := HNl.out
      obtain ⟨rb, rfl, hrb1, hrb2, hrc⟩ := HQ.out.resolve_left (fun e => by rw [e] at hi; cases hi)
      obtain ⟨pg, hpg⟩ : ∃ pg, K[i] = pg := ⟨_, rfl⟩
      have hpm := HKm.out pg (by rw [← hpg]; exact List.getElem_mem hi)
      have hcel : wr.cell? ⟨rb, i, none⟩ = some (.int .i64 (pg : Int)) := by
        have h1 := hrc i hi
        rw [hpg] at h1
        exact cell_on hB.out h1
      have c111 := has111 wr p 4 P.was (HP.out.on HBr.out).was pg hpm.1
      have HTK : Hid (K.take (i + 1) = K.take i ++ [pg]) := by
        show _ = _
        rw [List.take_add_one, List.getElem?_eq_getElem hi, hpg]
        rfl
      have HFl : Hid (((K.take i).filter fun k => P.was.has k).length ≤ 2048) := by
        show _ ≤ _
        have h1 := List.length_filter_le (fun k => P.was.has k) (K.take i)
        have h2 := List.length_take_le i K
        have := HKl.out
        rw [List.length_take] at h1
        omega
      have HFE : Hid ((K.take (i + 1)).filter (fun k => P.was.has k) = (K.take i).filter (fun k => P.was.has k) ++ (if P.was.has pg then [pg] else [])) := by
        show _ = _
        rw [HTK.out, List.filter_append]
        congr 1
        cases hh : P.was.has pg <;> simp [hh]
      clear hrc hpg hi
      generalize (K.take i).filter (fun k => P.was.has k) = F at *
      cases hh : P.was.has pg with
      | true =>
        rw [hh] at c111 HFE
        simp only [if_true] at HFE
        go_wp2_with (first
          | (go_at_call 111; refine c111.mono ?_; rintro e w' ⟨rfl, ew⟩; rw [ew]; clear ew w')
          | (at_builtin
             refine wpList_appI rfl _ _ rfl w2.heap.size wr.heap.size _ F pg rfl rfl (hR.out.alloc _) (cell_new _ _ _) (by have := hB.out.size; simp; omega) (by have := HFl.out; omega) ?_
             intro v6 w6 hr6 hg6 hv6 hb6 hs6
             obtain ⟨g6, c6, rfl⟩ := hs6
             have HR6 := Lib.hid hr6
             have HB6 := Lib.hid ((bel_then hB.out (bel1 _ _)).trans hb6)
             clear hr6 hg6 hv6 hb6))
        go_roundg g
        case measure => omega
        case rel => exact ⟨i + 1, some ⟨g6, 0, none⟩, c6, by omega, by first | rfl | go_num | (simp; unfold wrap64; omega), by rw [HFE.out]; first | rfl | simp, by show World.ownsRow _ _ _ _ _ _ _; rw [HFE.out]; exact HR6.out, HB6⟩
      | false =>
        rw [hh] at c111 HFE
        simp only [Bool.false_eq_true, if_false, List.append_nil] at HFE
        go_wp2_with (first
          | (go_at_call 111; refine c111.mono ?_; rintro e w' ⟨rfl, ew⟩; rw [ew]; clear ew w'))
        go_roundg g
        case measure => omega
        case rel => exact ⟨i + 1, _, _, by omega, by first | rfl | go_num | (simp; unfold wrap64; omega), by rw [HFE.out], by show World.ownsRow _ _ _ _ _ _ _; rw [HFE.out]; exact hR.out, hB⟩
end Go.Proofs.YtfakgfmgofblgaaGreatDoor
namespace Go.Proofs.YtfakgfmgofblgaaGreatDoor
open Go.RowKit Go.Maps

theorem fill_cells : ∀ (l : List Value) (o i : Nat) (z : Array Value), o + i + l.length ≤ z.size →
    ((l.zipIdx i).foldl (fun cs x => cs.setIfInBounds (o + x.2) x.1) z).toList = z.toList.take (o + i) ++ l ++ z.toList.drop (o + i + l.length)
  | [], o, i, z, h => by simp
  | v :: l, o, i, z, h => by
    rw [List.zipIdx_cons, List.foldl_cons, fill_cells l o (i + 1) _ (by simp at h ⊢; omega)]
    have hlt : o + i < z.toList.length := by simp at h ⊢; omega
    rw [Array.toList_setIfInBounds, List.length_cons, show o + (i + 1) = o + i + 1 by omega, show o + i + (l.length + 1) = o + i + 1 + l.length by omega]
    rw [List.take_set, List.drop_set_of_lt (by omega), List.take_succ_eq_append_getElem hlt, List.set_append_right _ _ (by simp; omega)]
    have hm : min (o + i) z.size = o + i := by simp at hlt; omega
    simp [hm]
theorem fill_step {place : Nat → Option (Nat × Nat)} {i : Nat} {v : Value} {rest : List (Nat × Value)} (A B C c : List Value) (hp : place i = some (A.length, B.length)) (hv : v.cells = c.toArray) (hl : c.length = B.length) :
    Instr.fill place (A ++ (B ++ C)).toArray ((i, v) :: rest) = Instr.fill place (A ++ (c ++ C)).toArray rest := by
  rw [Instr.fill, hp]
  simp only [hv, List.size_toArray]
  rw [if_neg (by simp [hl])]
  congr 1
  apply Array.ext'
  have f := fill_cells c A.length 0 (A ++ (B ++ C)).toArray (by simp [hl])
  have e3 : c.toArray.zipIdx.toList = c.zipIdx 0 := by simp
  rw [← Array.foldl_toList, e3, f]
  simp [hl]
/-- A pager's cells. -/
def pagC (a b c d e g h : List Value) : List Value := a ++ (b ++ (c ++ (d ++ (e ++ ([.bool false, .bool false] ++ (g ++ (h ++ [.bool false])))))))
theorem zero69 : (Tryz.prog.info? 69).bind (·.zero) = some (.agg (pagC [.pointer none] [.pointer none] [.int .i64 0, .int .i64 0] Ba.none.cells Ba.none.cells [.int .i64 0, .map none, .map none, .slice none 0 0] [.map none]).toArray) := by kernel_rfl
def places69 : List (Nat × Nat) := [(0, 1), (1, 1), (2, 2), (4, 260), (264, 260), (524, 1), (525, 1), (526, 4), (530, 1), (531, 1)]
theorem pl69 : (match Tryz.prog.underlying 69 with | some (.struct fields) => fields.toList.mapM (fun f => (Tryz.prog.info? f.type).map fun i => (f.offset, i.size)) | _ => none) = some places69 := by kernel_rfl
set_option maxRecDepth 100000 in
theorem built69 (pd pl : Option Addr) (a b : Value) (D : List Value) (hD : D.length = 260) (r m1 m2 t : Value) (ml : Option Nat) :
    Tryz.prog.built 69 [(0, .pointer pd), (1, .pointer pl), (2, .agg #[a, b]), (3, .agg D.toArray), (4, .agg D.toArray), (7, .agg #[r, m1, m2, t]), (8, .map ml)] = some (pagC [.pointer pd] [.pointer pl] [a, b] D D [r, m1, m2, t] [.map ml]).toArray := by
  obtain ⟨it, hi, hz⟩ := Option.bind_eq_some_iff.1 zero69
  have h := pl69
  rw [Tryz.underlying69] at h
  simp only at h
  have hN : Ba.none.cells.length = 260 := Ba.len Ba.none_ok
  unfold Program.built
  rw [hi, Tryz.underlying69]
  simp only
  rw [hz, h]
  simp only [Value.cells]
  generalize Ba.none.cells = N at *
  have pq : ∀ i x, places69[i]? = some x → (places69.toArray[i]?) = some x := fun i x e => by rw [List.getElem?_toArray]; exact e
  rw [show (pagC [.pointer none] [.pointer none] [.int .i64 0, .int .i64 0] N N [.int .i64 0, .map none, .map none, .slice none 0 0] [.map none]) = [] ++ ([.pointer none] ++ ([.pointer none] ++ ([.int .i64 0, .int .i64 0] ++ (N ++ (N ++ ([.bool false, .bool false] ++ ([.int .i64 0, .map none, .map none, .slice none 0 0] ++ ([.map none] ++ [.bool false])))))))) from rfl]
  rw [fill_step [] [Value.pointer none] _ [Value.pointer pd] (pq _ _ rfl) rfl rfl]
  rw [List.nil_append, fill_step [Value.pointer pd] [Value.pointer none] _ [Value.pointer pl] (pq _ _ rfl) rfl rfl]
  rw [← List.append_assoc, fill_step ([Value.pointer pd] ++ [Value.pointer pl]) [Value.int IntKind.i64 0, Value.int IntKind.i64 0] _ [a, b] (pq _ _ rfl) rfl rfl]
  rw [← List.append_assoc, fill_step (([Value.pointer pd] ++ [Value.pointer pl]) ++ [a, b]) N _ D (pq _ _ (by rw [hN]; rfl)) rfl (by rw [hD, hN])]
  rw [← List.append_assoc, fill_step ((([Value.pointer pd] ++ [Value.pointer pl]) ++ [a, b]) ++ D) N _ D (pq _ _ (by rw [hN, List.length_append, hD]; rfl)) rfl (by rw [hD, hN])]
  rw [← List.append_assoc, ← List.append_assoc, fill_step (((((([Value.pointer pd] ++ [Value.pointer pl]) ++ [a, b]) ++ D) ++ D) ++ [Value.bool false, Value.bool false])) [Value.int IntKind.i64 0, Value.map none, Value.map none, Value.slice none 0 0] _ [r, m1, m2, t] (pq _ _ (by simp [hD]; rfl)) rfl rfl]
  rw [← List.append_assoc, fill_step ((((((([Value.pointer pd] ++ [Value.pointer pl]) ++ [a, b]) ++ D) ++ D) ++ [Value.bool false, Value.bool false])) ++ [r, m1, m2, t]) [Value.map none] _ [Value.map ml] (pq _ _ (by simp [hD]; rfl)) rfl rfl]
  simp [Instr.fill, pagC]
theorem lie_sub {w : World} {g : Nat} (A B C : List Value) {o : Nat} (h : Lie w g 0 (A ++ (B ++ C))) (ho : A.length = o) : Lie w g o B := by
  subst ho
  refine ⟨fun j v hj => ?_, fun j hj => ?_⟩
  · have := h.rg (A.length + j) v (by rw [List.getElem?_append_right (by omega), Nat.add_sub_cancel_left, List.getElem?_append_left (List.getElem?_eq_some_iff.1 hj).1]; exact hj)
    rwa [Nat.zero_add] at this
  · have := h.th (A.length + j) (by simp; omega)
    rwa [Nat.zero_add] at this
theorem Lie.at {w : World} {g o : Nat} {cs : List Value} (h : Lie w g o cs) {i : Nat} {v : Value} (hi : cs[i]? = some v) : w.cell? ⟨g, o + i, none⟩ = some v := h.rg i v hi
theorem Lie.fz {w : World} {g o : Nat} {cs : List Value} (h : Lie w g o cs) {i : Nat} (hi : i < cs.length) : w.frozen? ⟨g, o + i, none⟩ = false := (h.th i hi).2
/-- A pager that was just opened. -/
def Pgr.new (slots pages : Nat) (x : Ba) (room : Nat) : Pgr := ⟨slots, pages, x, x, false, false, ⟨room, fun _ => none, fun _ => none, []⟩, fun _ => none, false⟩
theorem pag_at {w : World} {d l p ms mk ml base slots pages room : Nat} {x : Ba} (ok : x.Ok)
    (h : Lie w p 0 (pagC [.pointer (some ⟨d, 0, none⟩)] [.pointer (some ⟨l, 0, none⟩)] [.int .i64 slots, .int .i64 pages] x.cells x.cells [.int .i64 room, .map (some ms), .map (some mk), .slice none 0 0] [.map (some ml)]))
    (hms : MapAt shA w ms (fun _ => none)) (hmk : MapAt shA w mk (fun _ => none)) (hml : MapAt spA w ml (fun _ => none)) (hne : ms ≠ mk) (hl : ml ≠ ms ∧ ml ≠ mk) (hb : p < base ∧ ms < base ∧ mk < base ∧ ml < base ∧ base ≤ w.heap.size)
    (hs : 1 ≤ slots ∧ slots ≤ 4096) (hp : 2 ≤ pages ∧ pages ≤ 2048) (hr : room ≤ 256) : PAt w d l p ms mk ml base (.slice none 0 0) (Pgr.new slots pages x room) := by
  have hD : x.cells.length = 260 := Ba.len ok
  have l0 := lie_sub [] [.pointer (some ⟨d, 0, none⟩)] _ (o := 0) h rfl
  have l1 := lie_sub [.pointer (some ⟨d, 0, none⟩)] [.pointer (some ⟨l, 0, none⟩)] _ (o := 1) h rfl
  have l2 := lie_sub ([.pointer (some ⟨d, 0, none⟩)] ++ [.pointer (some ⟨l, 0, none⟩)]) [.int .i64 slots, .int .i64 pages] _ (o := 2) (by simpa [pagC] using h) rfl
  have l4 := lie_sub (([.pointer (some ⟨d, 0, none⟩)] ++ [.pointer (some ⟨l, 0, none⟩)]) ++ [.int .i64 slots, .int .i64 pages]) x.cells _ (o := 4) (by simpa [pagC] using h) rfl
  have l5 := lie_sub ((([.pointer (some ⟨d, 0, none⟩)] ++ [.pointer (some ⟨l, 0, none⟩)]) ++ [.int .i64 slots, .int .i64 pages]) ++ x.cells) x.cells _ (o := 264) (by simpa [pagC] using h) (by simp [hD])
  have l6 := lie_sub (((([.pointer (some ⟨d, 0, none⟩)] ++ [.pointer (some ⟨l, 0, none⟩)]) ++ [.int .i64 slots, .int .i64 pages]) ++ x.cells) ++ x.cells) [.bool false, .bool false] _ (o := 524) (by simpa [pagC] using h) (by simp [hD])
  have l7 := lie_sub ((((([.pointer (some ⟨d, 0, none⟩)] ++ [.pointer (some ⟨l, 0, none⟩)]) ++ [.int .i64 slots, .int .i64 pages]) ++ x.cells) ++ x.cells) ++ [.bool false, .bool false]) [.int .i64 room, .map (some ms), .map (some mk), .slice none 0 0] _ (o := 526) (by simpa [pagC] using h) (by simp [hD])
  have l8 := lie_sub (((((([.pointer (some ⟨d, 0, none⟩)] ++ [.pointer (some ⟨l, 0, none⟩)]) ++ [.int .i64 slots, .int .i64 pages]) ++ x.cells) ++ x.cells) ++ [.bool false, .bool false]) ++ [.int .i64 room, .map (some ms), .map (some mk), .slice none 0 0]) [.map (some ml), .bool false] [] (o := 530) (by simpa [pagC] using h) (by simp [hD])
  exact { h0 := l0.at (i := 0) rfl, h1 := l1.at (i := 0) rfl, h2 := l2.at (i := 0) rfl, h3 := l2.at (i := 1) rfl, was := l4.ba ok, now := l5.ba ok, mv := l6.at (i := 0) rfl, rw := l6.at (i := 1) rfl,
          po := { c0 := l7.at (i := 0) rfl, c1 := l7.at (i := 1) rfl, c2 := l7.at (i := 2) rfl, c3 := l7.at (i := 3) rfl, fz := l7.fz (i := 3) (by simp), tn := World.ownsRow_nil _ _ _ _, s := hms, k := hmk, ne := hne, lt := ⟨hb.1, hb.2.1, hb.2.2.1, hb.2.2.2.2⟩, ls := fun _ _ e => (by cases e), lk := fun _ _ e => (by cases e), lg := Nat.zero_le _, pg := fun _ e => (by cases e), rm := hr },
          lc := l8.at (i := 0) rfl, lg := hml, br := l8.at (i := 1) rfl,
          fz := fun i hi => by
            rcases hi with rfl | rfl | rfl
            · exact l6.fz (i := 0) (by decide)
            · exact l6.fz (i := 1) (by decide)
            · exact l8.fz (i := 1) (by simp)
          ml := ⟨hb.2.2.2.1, hl.1, hl.2⟩, sl := hs, pg := hp }
theorem wpList_build69 {ops : Array Oper} {rest : List Oper} {op : Oper} {act : Act} {w : World} {Q : Exit → Act → World → Prop} (hgd : op.guard = none) (x0 x1 x2 x3 x4 x7 x8 : Operand) (ho : op.op = .build 69 #[(0, x0), (1, x1), (2, x2), (3, x3), (4, x4), (7, x7), (8, x8)])
    (pd pl : Option Addr) (a b : Value) (D : List Value) (hD : D.length = 260) (r m1 m2 t : Value) (ml : Option Nat) (h0 : act.eval x0 = .pointer pd) (h1 : act.eval x1 = .pointer pl) (h2 : act.eval x2 = .agg #[a, b]) (h3 : act.eval x3 = .agg D.toArray) (h4 : act.eval x4 = .agg D.toArray) (h7 : act.eval x7 = .agg #[r, m1, m2, t]) (h8 : act.eval x8 = .map ml)
    (h : wpList Tryz.prog ops Q rest (act.put op.dst (.agg (pagC [.pointer pd] [.pointer pl] [a, b] D D [r, m1, m2, t] [.map ml]).toArray)) w) : wpList Tryz.prog ops Q (op :: rest) act w := by
  have e : Tryz.prog.built 69 ((#[(0, x0), (1, x1), (2, x2), (3, x3), (4, x4), (7, x7), (8, x8)] : Array (Nat × Operand)).map fun (i, x) => (i, act.eval x)).toList = some (pagC [.pointer pd] [.pointer pl] [a, b] D D [r, m1, m2, t] [.map ml]).toArray := by
    simpa [h0, h1, h2, h3, h4, h7, h8] using built69 pd pl a b D hD r m1 m2 t ml
  refine wpList_build hgd 69 _ ho (by rw [e]; rfl) ?_
  rw [e]
  exact h
end Go.Proofs.YtfakgfmgofblgaaGreatDoor
namespace Go.Proofs.YtfakgfmgofblgaaGreatDoor
open Go.RowKit Go.Maps
set_option linter.unusedVariables false

/-- The page has b on the disk. -/
def PgOn (s : Dsk) (slots page : Nat) (b : List UInt8) : Prop := ∀ i, i < 4 → s.con (2 + slots + 4 * page + i) = some (sealB 4 ((4 * page + i : Nat) : Int) (pc b i))
theorem get_on {s : Dsk} {slots page : Nat} {b : List UInt8} (hd : s.down = false) (hN : 2 + slots + 4 * page + 4 ≤ s.N) (hp : page ≤ 4096) (h : PgOn s slots page b) {i : Nat} (hi : i < 4) :
    s.get ((2 + slots + 4 * page + i : Nat) : Int) 4 ((4 * page + i : Nat) : Int) = (pc b i, 0) := by
  unfold Dsk.get
  rcases read_con (s := s) (i := 2 + slots + 4 * page + i) hd (by omega) with ⟨x, h1, h2⟩ | ⟨h1, -⟩
  · rw [h i hi] at h1
    injection h1 with h1
    rw [h2, ← h1]
    have hn : ((4 * page + i : Nat) : Int) ≤ 9223372036854775807 := by omega
    obtain ⟨a1, a2, a3, a4⟩ := open_seal hn (okF4 (4 * page + i) b i)
    generalize sealB 4 ((4 * page + i : Nat) : Int) (pc b i) = S at *
    unfold getB
    rw [if_neg (fun e => e rfl), if_neg (fun e => e a4), if_neg (fun e => e a1), if_neg (fun e => e a2), a3]
  · rw [h i hi] at h1; cases h1
theorem pc_full {b : List UInt8} {i : Nat} (h : pc b (i + 1) ≠ []) : (pc b i).length = 112 := by
  have h1 : 112 * (i + 1) < b.length := by
    apply Classical.byContradiction
    intro hn
    exact h (by unfold pc; rw [List.drop_eq_nil_of_le (by omega)]; rfl)
  unfold pc
  rw [List.length_take, List.length_drop]
  omega
theorem rpo_on {s : Dsk} {slots page : Nat} {b : List UInt8} (hd : s.down = false) (hN : 2 + slots + 4 * page + 4 ≤ s.N) (hp : page ≤ 4096) (h : PgOn s slots page b) : ∀ x, x ≤ 4 → s.rpo (2 + slots + 4 * page) (4 * page) x = (0, (List.range x).map (pc b))
  | 0, _ => rfl
  | x + 1, hx => by
    have ih := rpo_on hd hN hp h x (by omega)
    have hg := get_on hd hN hp h (i := x) (by omega)
    rw [Dsk.rpo, ih, if_neg (fun e => e rfl), hg, if_neg (fun e => e rfl), if_neg, List.range_succ, List.map_append]
    · rfl
    · rintro ⟨h1, h2, h3⟩
      obtain ⟨y, rfl⟩ : ∃ y, x = y + 1 := ⟨x - 1, by omega⟩
      have h4 := pc_full h1
      have h5 : ((List.range (y + 1)).map (pc b)).getD (y + 1 - 1) [] = pc b y := by simp [List.getD]
      rw [h5] at h3
      omega
theorem pc4 {b : List UInt8} (hb : b.length ≤ 448) : ((List.range 4).map (pc b)).flatten = b := by
  rw [pcs_take, List.take_of_length_le (by omega)]
theorem rpg_on {s : Dsk} {slots page : Nat} {b : List UInt8} (hd : s.down = false) (hN : 2 + slots + 4 * page + 4 ≤ s.N) (hp : page ≤ 4096) (hb : b.length ≤ 448) (h : PgOn s slots page b) : s.rpg slots page = (b, 0) := by
  unfold Dsk.rpg
  rw [rpo_on hd hN hp h 4 (Nat.le_refl _), if_neg (fun e => e rfl), pc4 hb]
theorem Fmtd.on {s : Dsk} {N slots pages : Nat} (h : Fmtd s N slots pages) {page : Nat} (hp : page < pages) : PgOn s slots page (if page = 0 then Ba.empty.bytes pages else []) := by
  intro i hi
  have h1 := h.pg (4 * page + i) (by omega)
  rw [show 2 + slots + (4 * page + i) = 2 + slots + 4 * page + i by omega, show (4 * page + i) / 4 = page by omega, show (4 * page + i) % 4 = i by omega] at h1
  exact h1
theorem Ba.none_has (p : Nat) (hp : p < 2048) : Ba.none.has p = false := by
  have h : ∀ q : Fin 2048, Ba.none.has q.1 = false := by decide +kernel
  exact h ⟨p, hp⟩
theorem Ba.empty_fit {pages : Nat} (h1 : 1 ≤ pages) : Ba.empty.Fit pages := by
  refine ⟨Ba.empty_ok, fun p h2 h3 => ?_, ?_⟩
  · unfold Ba.empty
    rw [Ba.has_put Ba.none_ok (by decide), Ba.none_has p h3]
    have : ¬ p = 0 := by omega
    simp [this]
  · unfold Ba.empty
    rw [Ba.has_put Ba.none_ok (by decide)]
    simp
theorem tlen_le {pages : Nat} (h : pages ≤ 2048) : tlen pages ≤ 256 := by unfold tlen; omega
theorem Ba.bytes_le {b : Ba} (h : b.Ok) {pages : Nat} (hp : pages ≤ 2048) : (b.bytes pages).length ≤ 448 := by
  rw [Ba.bytes_len h hp]
  have := tlen_le hp
  omega
theorem keysM_nil : keysM (lastM []) = [] := keysM_none
theorem wanted_nil (b : Ba) : wanted b (lastM []) = [] := by unfold wanted; rw [keysM_nil]; rfl
/-- Where nothing is in the log, it is begun anew, and that is all. -/
theorem repl_nil {s : Dsk} {L : Lg} {P : Pgr} : repl s L P (lastM []) = rst s L := by
  unfold repl
  rw [wanted_nil]
  unfold setl
  rw [if_neg (fun e => e rfl)]
  rfl
end Go.Proofs.YtfakgfmgofblgaaGreatDoor
namespace Go.Proofs.YtfakgfmgofblgaaGreatDoor
open Go.RowKit Go.Maps
set_option linter.unusedVariables false      -- a walk need not use every condition
attribute [local go_sem ↓] Go.wp_at_zero Go.wp_at_succ

theorem rowG_slX {α : Type} {T : TypeId} {E : Elem α} {Z : Nat → Prop} {w : World} {base : Nat} {v : Value} {L : List α} (h : RowG T (E.ban Z) w base v L) (hZ : ∀ k, Z k → k < base) : (sl E).E Z w v L := by
  obtain ⟨vs, ho, he⟩ := h
  rcases ho.2 with ⟨rfl, h0⟩ | ⟨g, cap, cur, rfl, hbg, hg, hnc, hcm, hcs, htake⟩
  · have : L = [] := List.eq_nil_of_length_eq_zero h0
    subst this
    exact ⟨none, 0, rfl, .inl rfl⟩
  · refine ⟨_, cap, rfl, .inr ⟨g, 0, rfl, fun hz => by have := hZ g hz; omega, fun i hi => ?_⟩⟩
    obtain ⟨x, hx, hE⟩ := he i hi
    have := ho.cells (g := g) rfl i x hx
    rw [Go.WideShapes.add_plain] at this
    exact ⟨x, this, E.mono hE (fun _ _ h => .inr h)⟩
/-- What readCommits answers. -/
def RcsX (x : Cs × Nat) (d pb mb l : Nat) (s : Dsk) (L : Lg) (w : World) (e : Ending) (w' : World) : Prop :=
  ∃ p c, e = .returned (.slice p x.1.length c) ∧ (sl (sl bytesE)).E (fun k => k < w.heap.size) w' (.slice p x.1.length c) x.1 ∧ At w' d pb mb s ∧ LAt w' d pb mb l { L with used := x.2 } ∧ Kp (fun k => k = l) w w'
set_option maxHeartbeats 4000000 in
set_option maxRecDepth 100000 in
theorem readCommitsX101 (w : World) (d pb mb l : Nat) (s : Dsk) (L : Lg) (h0 : At w d pb mb s) (hL0 : LAt w d pb mb l L) (hT0 : TabOk w) (hd : s.down = false) (hN : 2 + L.slots ≤ s.N) :
    Calls Tryz.prog 101 #[.pointer (some ⟨l, 0, none⟩)] w (RcsX (rds s.fr L.e L.slots (L.slots - L.used + 1) L.used) d pb mb l s L w) := by
  have h := Lib.hid h0
  have hT := Lib.hid hT0
  have hL := Lib.hid hL0
  have hus := hL0.us
  have hsl := hL0.sl
  have hlt := hL0.lt
  have hne := hL0.ne
  have hnz := hL0.nz hT0
  have lts := h0.lts
  obtain ⟨i0, hi', hz0, hz1, hz2⟩ := info_parts info35
  obtain ⟨R, hR⟩ : ∃ R, rds s.fr L.e L.slots (L.slots - L.used + 1) L.used = R := ⟨_, rfl⟩
  rw [hR]
  have HR := Lib.hid hR
  obtain ⟨nv, hblk, hnv⟩ := hL0.blk
  have HBK := Lib.hid hblk
  have mkL : ∀ (W : World) (u : Nat), u ≤ L.slots → W.heap[l]? = some (.cells #[.pointer (some ⟨d, 0, none⟩), .int .i64 L.e, .int .i64 L.slots, nv, .int .i64 u, .bool L.stale, .bool L.broken] 144) → Kp (fun k => k = l) w W → LAt W d pb mb l { L with used := u } := fun W u hu hb hk =>
    { hL0 with blk := ⟨nv, hb, hnv.kp (hk.mono fun k e => .inr (.inr (.inr e)))⟩, us := hu }
  have mkA : ∀ W, Kp (fun k => k = l) w W → At W d pb mb s := fun W hk => h0.same (hk.block _ lts.1 (fun e => hne.1 e.symm)) (hk.block _ lts.2.1 (fun e => hne.2.1 e.symm)) (hk.block _ lts.2.2.1 (fun e => hne.2.2 e.symm))
  have MKL := Lib.hid mkL
  have MKA := Lib.hid mkA
  obtain ⟨np, nc, rfl, -⟩ := hnv.1
  obtain ⟨z0, z1, z2, z3, z4, z5, z6, -⟩ := seven_of hblk
  clear h0 hT0 hL0 hR mkL mkA hnv hblk
  go_enter Tryz.func101, Tryz.ntmps101
  go_wp2
  go_loopg [3] (L.slots - L.used + 1) (fun gk s3 wr => ∃ (u : Nat) (acc : Cs), L.slots - u < gk ∧ u ≤ L.slots ∧ Hid (acc.length ≤ u) ∧ Hid (RowG 127 ((sl bytesE).ban (fun k => k < w.heap.size)) wr w.heap.size s3 acc) ∧ Hid (R = (acc ++ (rds s.fr L.e L.slots gk u).1, (rds s.fr L.e L.slots gk u).2)) ∧ Hid (wr.heap[l]? = some (.cells #[.pointer (some ⟨d, 0, none⟩), .int .i64 L.e, .int .i64 L.slots, .slice np L.note.length nc, .int .i64 u, .bool L.stale, .bool L.broken] 144)) ∧ Hid (Kp (fun k => k = l) w wr))
  case atStart => exact ⟨L.used, [], by omega, hus, Nat.zero_le _, rowG_nil _ _ _ _, by show R = _; rw [← HR.out]; rfl, HBK.out, Kp.refl _ _⟩
  case round =>
    clear z0 z1 z2 z3 z4 z5 z6
    obtain ⟨u, acc, hgu, huS, hacc, hrow, hsp, hbk, hK⟩ := hrel
    obtain ⟨g, rfl⟩ : ∃ g, gk = g + 1 := ⟨gk - 1, by omega⟩
    have hTr : TabOk wr := tab_blk hT.out (hK.out.block 0 (World.block_lt_of_cell? w _ (tab_zero hT.out)) (fun e => hnz e.symm))
    have c56 := readCommit144 wr d pb mb l s _ (MKA.out wr hK.out) (MKL.out wr u huS hbk.out hK.out) hTr hd hN
    obtain ⟨ap, ac, rfl⟩ := hrow.out.hdr
    simp only at c56
    cases hrd : rdc s.fr L.e (L.slots - u) u with
    | none =>
      rw [hrd] at c56
      have hRs : R = (acc, u) := by rw [hsp.out, rds, hrd]; simp
      subst hRs
      unfold RcR at c56
      clear hsp hrd
      go_wp2_with (go_at_call 144; refine c56.mono ?_; rintro e w1 ⟨p1, n1, q1, k1, rfl, hk1, -, hb1⟩; have hk0 := hk1 rfl; subst hk0; have HB1 := Lib.hid hb1; clear hk1 hb1)
      go_ret
      have hK1 := hK.out.trans (Kp.bel HB1.out)
      exact ⟨ap, ac, rfl, rowG_slX (hrow.out.on HB1.out) (fun _ h => h), MKA.out _ hK1, MKL.out _ u huS (blk_on HB1.out hbk.out) hK1, hK1⟩
    | some y =>
      obtain ⟨r, n⟩ := y
      rw [hrd] at c56
      have hn := rdc_some hrd
      have hRs : Hid (R = ((acc ++ [r]) ++ (rds s.fr L.e L.slots g (u + n)).1, (rds s.fr L.e L.slots g (u + n)).2)) := by show R = _; rw [hsp.out, rds, hrd]; simp
      unfold RcR at c56
      have e1 : IntKind.i64.wrap ((u : Int) + (n : Int)) = ((u + n : Nat) : Int) := by rw [IntKind.wrap_i64]; omega
      have hn0 : ((n : Int) == 0) = false := by rw [beq_eq_false_iff_ne]; omega
      have hbz := hK.out.size
      clear hsp hrd
      go_wp2_with (first
        | (go_at_call 144; refine c56.mono ?_; rintro e w1 ⟨p1, n1, q1, k1, rfl, -, hk1, hb1⟩
           obtain ⟨hk0, hr1⟩ := hk1 _ _ rfl
           subst hk0
           have HB1 := Lib.hid hb1
           have HR1 := Lib.hid (show (sl bytesE).E (fun k => ((Value.slice ap acc.length ac).ownBlock = some k) ∨ k < w.heap.size) w1 (.slice p1 n1 q1) r from rowB_sl hr1 (fun k hk => by
             rcases hk with hk | hk
             · obtain ⟨vs, ho, -⟩ := hrow.out
               exact .inl (World.ownsRow.lt ho k hk).2
             · exact .inl (Nat.lt_of_lt_of_le hk hbz)))
           clear hk1 hb1 hr1)
        | (at_builtin
           refine rowG_app 127 90 ((sl bytesE).ban (fun k => k < w.heap.size)) Tryz.underlying90 i0 hi' (.slice none 0 0) hz0 hz1 hz2 rfl rfl _ _ rfl w.heap.size w1.heap.size _ (.slice p1 n1 q1) acc r rfl rfl ((hrow.out.on HB1.out).on (bel1 _ _)) ((sl bytesE).kp HR1.out (Kp.bel (bel1 _ _))) (cell_new _ _ _) (by have := HB1.out.size; simp; omega) (by have := hacc.out; omega) ?_
           intro g7 c7 w7 hR7 hg7 hb7
           have HR7 := Lib.hid hR7
           have HK7 := Lib.hid ((hK.out.trans (Kp.bel (bel_then HB1.out (bel1 w1 (.cells #[.slice p1 n1 q1] 127))))).bel2 hb7)
           have k7 := (hb7.block l hlt).trans (blk_on (bel_then HB1.out (bel1 w1 (.cells #[.slice p1 n1 q1] 127))) hbk.out)
           have Hk7 := Lib.hid k7
           obtain ⟨-, -, -, -, y4, -, -, yf⟩ := seven_of k7
           have yf4 := yf 4
           clear hR7 hg7 hb7 k7 yf))
      go_roundg g
      case measure => omega
      case rel =>
        have hKs : Kp (fun k => k = l) w7 (w7.setCell ⟨l, 4, none⟩ (.int .i64 ((u + k1 : Nat) : Int))) := Kp.grown (gr_set w7 l 4 _) rfl
        refine ⟨u + k1, acc ++ [r], by omega, by omega, by show _ ≤ _; have := hacc.out; simp; omega, ?_, hRs, ?_, ?_⟩
        · exact HR7.out.kpZ (hKs.mono fun k e => by rw [e]; exact hlt) (fun k e => e)
        · show _ = _
          rw [blk_set Hk7.out]
          rfl
        · exact HK7.out.trans hKs
/-- What Open answers. -/
def OpX (e : Int) (slots : Nat) (note : List UInt8) (x : Cs × Nat) (d pb mb : Nat) (s : Dsk) (w : World) (r : Ending) (w' : World) : Prop :=
  ∃ l np nc p c, r = .returned (.tuple #[.pointer (some ⟨l, 0, none⟩), .slice np note.length nc, .slice p x.1.length c, .int .i64 0]) ∧ w.heap.size ≤ l ∧ Bs w' (.slice np note.length nc) note ∧ (sl (sl bytesE)).E (fun k => k < w.heap.size) w' (.slice p x.1.length c) x.1 ∧
    At w' d pb mb s ∧ LAt w' d pb mb l ⟨e, slots, note, x.2, true, false⟩ ∧ Below w.heap.size w w' ∧ TabOk w'
set_option maxHeartbeats 4000000 in
set_option maxRecDepth 100000 in
theorem openX44 (w : World) (d pb mb : Nat) (s : Dsk) (h : At w d pb mb s) (hT : TabOk w) (hd : s.down = false) (e : Int) (slots : Nat) (note : List UInt8) (hh : s.head = (e, slots, note)) (he : 0 < e) (he2 : e ≤ 1099511627776) (hs1 : 1 ≤ slots) (hs2 : slots ≤ 4096) (hsN : 2 + slots ≤ s.N) (hnl : note.length ≤ 112) :
    Calls Tryz.prog 44 #[.pointer (some ⟨d, 0, none⟩)] w (OpX e slots note (rds s.fr e slots (slots + 1) 0) d pb mb s w) := by
  have c24 := madeDisk98 w d pb mb s h
  have c10 := down38 w d pb mb s h
  rw [hd] at c10
  have c36 := newest99 w d pb mb s h hT hd (by omega)
  rw [hh] at c36
  unfold HdR at c36
  simp only at c36
  have HA := Lib.hid h
  have HT := Lib.hid hT
  have lts := Lib.hid h.lts
  have c38 := fun (W : World) (l : Nat) (hA : At W d pb mb s) (hL : LAt W d pb mb l ⟨e, slots, note, 0, true, false⟩) (hTT : TabOk W) => readCommitsX101 W d pb mb l s _ hA hL hTT hd hsN
  simp only [Nat.sub_zero] at c38
  obtain ⟨X, hX⟩ : ∃ X, rds s.fr e slots (slots + 1) 0 = X := ⟨_, rfl⟩
  rw [hX]
  rw [hX] at c38
  unfold RcsX at c38
  obtain ⟨cs, us⟩ := X
  simp only at c38
  have cIs := fun (W : World) (q : Value) (hq : q.oneCell' = true) => isRight100 W e (.int .i64 slots) q rfl hq
  rw [decide_eq_true he] at cIs
  clear h hT hh hX
  go_enter Tryz.func44, Tryz.ntmps44
  go_wp2_with (first
    | (go_at_call 98; refine c24.mono ?_; rintro r w1 ⟨rfl, hw⟩; subst hw)
    | (go_at_call 38; refine c10.mono ?_; rintro r w1 ⟨rfl, hw⟩; subst hw)
    | (go_at_call 99; refine c36.mono ?_; rintro r w2 ⟨p2, q2, rfl, hbs, hfr, hb2⟩
       have HB2 := Lib.hid hb2
       have HBS := Lib.hid hbs
       have HFR := Lib.hid hfr
       have HF3 := Lib.hid (heap_alloc_last w2 (.cells #[.int .i64 e, .int .i64 slots, .slice p2 note.length q2] 141))
       clear hbs hfr hb2)
    | (go_at_call 100; refine (cIs _ _ rfl).mono ?_; rintro r w4 ⟨rfl, hw4⟩
       have HB4 : Hid (Below (w2.alloc (.cells #[.int .i64 e, .int .i64 slots, .slice p2 note.length q2] 141)).heap.size (w2.alloc (.cells #[.int .i64 e, .int .i64 slots, .slice p2 note.length q2] 141)) w4) := by show Below _ _ _; rw [hw4]; exact bel1 _ _
       have k4 := blk_on HB4.out HF3.out
       obtain ⟨y0, y1, y2, -⟩ := three_of k4
       have HK4 := Lib.hid k4
       have hB24 : Below w2.heap.size w2 w4 := bel_then (bel1 w2 _) HB4.out
       have HB14 := Lib.hid (bel_then HB2.out hB24)
       have hz := hB24.size
       have hx4 : BsX (X4 d pb mb w4.heap.size) w2 (.slice p2 note.length q2) note := bsX_fresh HBS.out HFR.out (fun k hk => by
         have := lts.out
         rcases hk with hk | hk | hk | hk <;> omega)
       have HX5 := Lib.hid ((hx4.on hB24).on (bel1 w4 (.cells #[.pointer (some ⟨d, 0, none⟩), .int .i64 e, .int .i64 slots, .slice p2 note.length q2, .int .i64 0, .bool true, .bool false] 144)))
       have HL5 : Hid (LAt (w4.alloc (.cells #[.pointer (some ⟨d, 0, none⟩), .int .i64 e, .int .i64 slots, .slice p2 note.length q2, .int .i64 0, .bool true, .bool false] 144)) d pb mb w4.heap.size ⟨e, slots, note, 0, true, false⟩) := by
         have := lts.out
         have := HB14.out.size
         exact { blk := ⟨_, heap_alloc_last w4 _, HX5.out⟩, ne := ⟨by omega, by omega, by omega⟩, pos := he, top := he2, sl := ⟨hs1, hs2⟩, us := Nat.zero_le _, nt := hnl }
       have HB15 := Lib.hid (bel_then HB14.out (bel1 w4 (.cells #[.pointer (some ⟨d, 0, none⟩), .int .i64 e, .int .i64 slots, .slice p2 note.length q2, .int .i64 0, .bool true, .bool false] 144)))
       clear hw4 k4 hB24 hx4 hz)
    | (go_at_call 101; refine (c38 _ _ (HA.out.on HB15.out) HL5.out (tab_on HT.out HB15.out)).mono ?_; rintro r w6 ⟨p6, q6, rfl, hE6, hA6, hL6, hK6⟩
       have HE6 := Lib.hid hE6
       have HA6 := Lib.hid hA6
       have HL6 := Lib.hid hL6
       have HK6 := Lib.hid hK6
       have k6 := (hK6.block w2.heap.size (Nat.lt_of_lt_of_le (Array.getElem?_eq_some_iff.1 HK4.out).1 (bel1 w4 _).size) (by have := (Array.getElem?_eq_some_iff.1 HK4.out).1; omega)).trans (blk_on (bel1 w4 _) HK4.out)
       obtain ⟨-, -, x2, -⟩ := three_of k6
       have HX6 := Lib.hid (HX5.out.kp (hK6.mono fun k hk => .inr (.inr (.inr hk))))
       clear hE6 hA6 hL6 hK6 k6)
    | (go_at_call 62; refine (clone62 _ _ note HX6.out.1 (by omega)).mono ?_; rintro r w7 ⟨v7, rfl, hbt, hb7⟩
       have HBT := Lib.hid hbt.bs
       have HB7 := Lib.hid hb7
       obtain ⟨p7, q7, rfl, -⟩ := hbt.bs
       clear hbt hb7))
  refine bodyPost_ret (v := .tuple #[.pointer (some ⟨w4.heap.size, 0, none⟩), .slice p7 note.length q7, .slice p6 cs.length q6, .int .i64 0]) ?_ rfl ?_
  · exact results_tmp4 Tryz.results44 _ _
  · have hsz := HB14.out.size
    have hKb : Below w1.heap.size (w4.alloc (.cells #[.pointer (some ⟨d, 0, none⟩), .int .i64 e, .int .i64 slots, .slice p2 note.length q2, .int .i64 0, .bool true, .bool false] 144)) w6 := HK6.out.below (fun k hk => by subst hk; exact hsz) HB15.out.size
    have hB6 := (HB15.out.trans hKb).trans (HB7.out.mono (Nat.le_trans HB15.out.size HK6.out.size))
    exact ⟨w4.heap.size, p7, q7, p6, q6, rfl, hsz, HBT.out, (sl (sl bytesE)).mono ((sl (sl bytesE)).on HE6.out HB7.out) (fun k _ hk => Nat.lt_of_lt_of_le hk HB15.out.size), HA6.out.on HB7.out, HL6.out.on HB7.out, hB6, tab_on HT.out hB6⟩
end Go.Proofs.YtfakgfmgofblgaaGreatDoor
namespace Go.Proofs.YtfakgfmgofblgaaGreatDoor
open Go.RowKit Go.Maps
set_option linter.unusedVariables false      -- a walk need not use every condition
attribute [local go_sem ↓] Go.wp_at_zero Go.wp_at_succ

set_option maxHeartbeats 4000000 in
set_option maxRecDepth 100000 in
theorem readBase48 (X : Nat → Prop) (w : World) (d pb mb : Nat) (s : Dsk) (h : At w d pb mb s) (hT : TabOk w) (slots pages : Nat) (hs : slots ≤ 4096) (hp1 : 1 ≤ pages) (hp : pages ≤ 2048) (ml : Nat) (m : Nat → Option (List UInt8)) (hm : LmAt X w ml m) (x : Ba) (hx : x.Fit pages)
    (hb : m 0 = some (x.bytes pages) ∨ m 0 = none ∧ s.rpg slots 0 = (x.bytes pages, 0)) :
    Calls Tryz.prog 48 #[.pointer (some ⟨d, 0, none⟩), .agg #[.int .i64 slots, .int .i64 pages], .map (some ml)] w fun e w' => e = .returned (.tuple #[.agg x.cells.toArray, .int .i64 0]) ∧ Below w.heap.size w w' := by
  have HA := Lib.hid h
  have HT := Lib.hid hT
  have c106 := fun (W : World) (V : Value) (hV : Bs W V (x.bytes pages)) => baseOf106 W V x pages hx hp1 hp hV
  have zv := zv63
  have ok0 := Ba.none_ok
  generalize Ba.none = N at *
  have ok1 := hx.ok
  have hi := hi63 ok1
  have h1 := Ba.one x
  have hl0 := Ba.len ok0
  have hl1 := Ba.len ok1
  obtain ⟨mv, hM, hS⟩ := hm
  generalize x.cells = E at *
  have HK0 := Lib.hid (heap_alloc_last w (.cells #[.int .i64 (slots : Int), .int .i64 (pages : Int)] 60))
  have HB0 := Lib.hid (bel1 w (.cells #[.int .i64 (slots : Int), .int .i64 (pages : Int)] 60))
  rcases hb with h0 | ⟨h0, hr⟩
  · obtain ⟨-, q, c, hq, hB⟩ := (hS 0).2 _ h0
    have HBy := Lib.hid hB.1
    have hlk := Lib.hid (fun (W : World) (hb : Below w.heap.size w W) => (hM.on hb).look (k := 0) (by decide) true)
    rw [hq] at hlk
    clear h hT hM hS hB hq h0 hx
    generalize x.bytes pages = BB at *
    go_enter Tryz.func48, Tryz.ntmps48
    go_wp2_with (first
      | (with_reducible show wpList _ _ _ (Oper.mk (some 6) (Op.alloc 63) _ _ _ _ :: _) _ _
         refine wpList_allocZ 63 _ zv rfl rfl ?_; intro w1 B1 s1 L1
         have lk := hlk.out w1 (bel_then HB0.out B1)
         simp only [Int.natCast_zero, lkw, if_true] at lk
         have HL1 := Lib.hid L1
         have HB1 := Lib.hid (bel_then HB0.out B1)
         have HK1 := Lib.hid (blk_on B1 HK0.out)
         obtain ⟨l0, l1, -⟩ := pair_of HK1.out
         clear B1 L1)
      | (go_at_call 106; refine (c106 _ _ (HBy.out.on HB1.out)).mono ?_; rintro e w2 ⟨rfl, hb2⟩; have HB2 := Lib.hid hb2; clear hb2 lk l0 l1)
      | (with_reducible show wpList _ _ _ (Oper.mk (some 11) (Op.alloc 63) _ _ _ _ :: _) _ _
         refine wpList_allocZ 63 _ zv rfl rfl ?_; intro w3 B3 s3 L3
         have T3 : w3.there w2.heap.size 0 E.length := by rw [hl1, ← hl0]; exact L3.th
         have HB3 := Lib.hid (bel_then HB2.out B3)
         have HL3 := Lib.hid (HL1.out.blk ((bel_then HB2.out B3).block _ (by have := s1.out; rw [World.size_alloc] at *; omega)))
         clear L3 B3)
      | (with_reducible show wpList _ _ _ (Oper.mk _ (Op.store 63 (Operand.tmp 11) _) _ _ _ _ :: _) _ _
         refine wpList_storeZ 63 E hi h1 rfl _ _ rfl w2.heap.size 0 rfl rfl T3 ?_
         intro w4 g4 L4 t4 r4 z4
         have hr4 := L4.rg
         have HL4 := Lib.hid (HL3.out.blk (g4.block _ (by have := s1.out; have := s3.out; have := HB2.out.size; rw [World.size_alloc] at *; omega) (fun e => by injection e with e; have := s1.out; have := HB2.out.size; rw [World.size_alloc] at *; omega)))
         have HB4 := Lib.hid (HB3.out.grown g4 HB3.out.size (fun k e => by injection e with e; have := HB2.out.size; omega))
         have T4 : w4.there (w.heap.size + 1) 0 E.length := by rw [hl1, ← hl0]; have := HL4.out.th; rwa [World.size_alloc] at this
         clear g4 L4 t4 r4 T3)
      | (with_reducible show wpList _ _ _ (Oper.mk _ (Op.load 63 (Operand.tmp 11)) _ _ _ _ :: _) _ _
         refine wpList_load_mid rfl 63 _ rfl _ _ rfl _ _ hr4 Tryz.underlying63 rfl hi ?_)
      | (with_reducible show wpList _ _ _ (Oper.mk _ (Op.store 63 (Operand.tmp 6) _) _ _ _ _ :: _) _ _
         refine wpList_storeZ 63 E hi h1 rfl _ _ rfl (w.heap.size + 1) 0 rfl rfl T4 ?_
         intro w5 g5 L5 t5 r5 z5))
    refine bodyPost_ret (results_cellZ2 Tryz.results48 _ _ (w.heap.size + 1) E rfl L5.rg Tryz.underlying63 rfl hi) rfl ?_
    exact ⟨rfl, (bel_then HB1.out HB4.out).grown g5 (bel_then HB1.out HB4.out).size (fun k e => by injection e with e; omega)⟩
  · have hq := (hS 0).1 h0
    have hlk := Lib.hid (fun (W : World) (hb : Below w.heap.size w W) => (hM.on hb).look (k := 0) (by decide) true)
    rw [hq] at hlk
    have c105 := fun (W : World) (hb : Below w.heap.size w W) => readPage105 W d pb mb s (HA.out.on hb) (tab_on HT.out hb) slots 0 pages hs (by decide)
    rw [hr] at c105
    simp only [Int.natCast_zero] at c105
    clear h hT hM hS hq h0 hx hr
    generalize x.bytes pages = BB at *
    go_enter Tryz.func48, Tryz.ntmps48
    go_wp2_with (first
      | (with_reducible show wpList _ _ _ (Oper.mk (some 6) (Op.alloc 63) _ _ _ _ :: _) _ _
         refine wpList_allocZ 63 _ zv rfl rfl ?_; intro w1 B1 s1 L1
         have lk := hlk.out w1 (bel_then HB0.out B1)
         simp only [Int.natCast_zero, lkw, if_true] at lk
         have HL1 := Lib.hid L1
         have HB1 := Lib.hid (bel_then HB0.out B1)
         have HK1 := Lib.hid (blk_on B1 HK0.out)
         obtain ⟨l0, l1, -⟩ := pair_of HK1.out
         clear B1 L1)
      | (go_at_call 105; refine (c105 _ HB1.out).mono ?_; rintro e w6 ⟨v6, rfl, hv6, hf6, hb6⟩; have HV6 := Lib.hid hv6; have HB6 := Lib.hid hb6
         obtain ⟨vp, vc, rfl, -⟩ := hv6
         have HK6 := Lib.hid (blk_on hb6 HK1.out)
         obtain ⟨l60, l61, -⟩ := pair_of HK6.out
         clear hb6 hf6 lk l0 l1)
      | (go_at_call 106; refine (c106 _ _ HV6.out).mono ?_; rintro e w2 ⟨rfl, hb2⟩; have HB2 := Lib.hid (bel_then HB6.out hb2); clear hb2 l60 l61)
      | (with_reducible show wpList _ _ _ (Oper.mk (some 11) (Op.alloc 63) _ _ _ _ :: _) _ _
         refine wpList_allocZ 63 _ zv rfl rfl ?_; intro w3 B3 s3 L3
         have T3 : w3.there w2.heap.size 0 E.length := by rw [hl1, ← hl0]; exact L3.th
         have HB3 := Lib.hid (bel_then HB2.out B3)
         have HL3 := Lib.hid (HL1.out.blk ((bel_then HB2.out B3).block _ (by have := s1.out; rw [World.size_alloc] at *; omega)))
         clear L3 B3)
      | (with_reducible show wpList _ _ _ (Oper.mk _ (Op.store 63 (Operand.tmp 11) _) _ _ _ _ :: _) _ _
         refine wpList_storeZ 63 E hi h1 rfl _ _ rfl w2.heap.size 0 rfl rfl T3 ?_
         intro w4 g4 L4 t4 r4 z4
         have hr4 := L4.rg
         have HL4 := Lib.hid (HL3.out.blk (g4.block _ (by have := s1.out; have := s3.out; have := HB2.out.size; rw [World.size_alloc] at *; omega) (fun e => by injection e with e; have := s1.out; have := HB2.out.size; rw [World.size_alloc] at *; omega)))
         have HB4 := Lib.hid (HB3.out.grown g4 HB3.out.size (fun k e => by injection e with e; have := HB2.out.size; omega))
         have T4 : w4.there (w.heap.size + 1) 0 E.length := by rw [hl1, ← hl0]; have := HL4.out.th; rwa [World.size_alloc] at this
         clear g4 L4 t4 r4 T3)
      | (with_reducible show wpList _ _ _ (Oper.mk _ (Op.load 63 (Operand.tmp 11)) _ _ _ _ :: _) _ _
         refine wpList_load_mid rfl 63 _ rfl _ _ rfl _ _ hr4 Tryz.underlying63 rfl hi ?_)
      | (with_reducible show wpList _ _ _ (Oper.mk _ (Op.store 63 (Operand.tmp 6) _) _ _ _ _ :: _) _ _
         refine wpList_storeZ 63 E hi h1 rfl _ _ rfl (w.heap.size + 1) 0 rfl rfl T4 ?_
         intro w5 g5 L5 t5 r5 z5))
    refine bodyPost_ret (results_cellZ2 Tryz.results48 _ _ (w.heap.size + 1) E rfl L5.rg Tryz.underlying63 rfl hi) rfl ?_
    exact ⟨rfl, (bel_then HB1.out HB4.out).grown g5 (bel_then HB1.out HB4.out).size (fun k e => by injection e with e; omega)⟩
end Go.Proofs.YtfakgfmgofblgaaGreatDoor
