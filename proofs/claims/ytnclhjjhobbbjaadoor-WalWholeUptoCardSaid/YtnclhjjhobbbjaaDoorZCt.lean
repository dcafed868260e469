/-
  What sector.Cut does.
-/
import Derived.Test.YtnclhjjhobbbjaaDoorZChk
import Derived.Test.YtnclhjjhobbbjaaDoorZCtmRctBsxNumpNumTFuse
import Derived.Deep.RegionLaw
namespace Go.Proofs.YtnclhjjhobbbjaaDoor
open Go.RowKit Go.Shelf
set_option linter.unusedVariables false      -- a walk need not use every condition
attribute [local go_sem] Oper.semAt_some

theorem fin_map (t : List UInt8) : (List.finRange (pn t)).map (fun x => pc t x.1) = cutL t := by
  unfold cutL
  refine List.ext_getElem (by simp) fun i h1 h2 => ?_
  simp
theorem boxed_own' (B : Nat) (t : TypeId) (v : Value) {α : Type} : Own (fun (_ : α) W => Boxed W B t v) := by
  rintro s X Y row hv hg hrow
  refine hv.kept hg (fun e' => ?_)
  obtain ⟨o, ho, hc⟩ := hrow B e'.symm
  rw [show X.heap[B]? = _ from hv] at ho; cases ho; cases hc
theorem rowB_own {α : Type} (n₀ B : Nat) (f : α → List (List UInt8)) : Own (fun s W => ∃ v, Boxed W B 35 v ∧ RowB W n₀ v (f s)) := by
  rintro s X Y row ⟨v, hv, hr⟩ hg hrow
  exact ⟨v, boxed_own' (α := Unit) B 35 v () X Y row hv hg hrow, hr.nc hg hrow⟩
theorem RowB.ge {w : World} {n₀ j : Nat} {v : Value} {L : List (List UInt8)} (h : RowB w n₀ v L) (hj : j < n₀) : some j ≠ v.ownBlock := by
  obtain ⟨vs, ho, -⟩ := h
  intro e
  have := (World.ownsRow.lt ho j e.symm).1
  omega
theorem RowB.mono {w : World} {b b' : Nat} {v : Value} {L : List (List UInt8)} (h : RowB w b' v L) (hb : b ≤ b') : RowB w b v L := by
  obtain ⟨vs, ho, he⟩ := h
  refine ⟨vs, ⟨ho.1, ?_⟩, fun i hi => ?_⟩
  · rcases ho.2 with h | ⟨g, cap, cur, rfl, hbg, r⟩
    · exact .inl h
    · exact .inr ⟨g, cap, cur, rfl, Nat.le_trans hb hbg, r⟩
  · obtain ⟨x, hx, hB⟩ := he i hi
    exact ⟨x, hx, hB.mono hb⟩
theorem others_bel {W w1 : World} (hb : Below W.heap.size W w1) : KeepsOthers W w1 := ⟨hb.size, fun k o hk _ => blk_on hb hk⟩
theorem row_cells {w : World} {n₀ : Nat} {v : Value} {L : List (List UInt8)} (h : RowB w n₀ v L) : ∀ (j : Nat) (o : Obj), v.ownBlock = some j → w.heap[j]? = some o → o.isCells = true := by
  intro j o ej hj
  obtain ⟨vs, ho, -⟩ := h
  rcases ho.2 with ⟨rfl, _⟩ | ⟨g, cap, cur, rfl, _, hgb, _⟩
  · simp [Value.ownBlock] at ej
  · obtain rfl : g = j := by simpa [Value.ownBlock] using ej
    rw [hgb] at hj; cases hj; rfl
/-- What a round leaves. -/
theorem cut_step {W w1 w2 : World} {B : Nat} {v v2 S I : Value} {L L2 : List (List UInt8)} {o : Obj} (hv : Boxed W B 35 v) (hvS : Boxed W (B + 1) 43 S) (hvN : Boxed W (B + 1 + 1) 3 I) (hz : B + 3 ≤ W.heap.size)
    (hb : Below W.heap.size W w1) (hrow : RowB w1 (B + 3) v L) (hR2 : RowB w2 (B + 3) v2 L2) (hg2 : (w1.alloc o).grownBy w2 v.ownBlock) :
    Boxed w1 B 35 v ∧ Boxed w2 B 35 v ∧ Boxed (w2.setCell ⟨B, 0, none⟩ v2) B 35 v2 ∧ RowB (w2.setCell ⟨B, 0, none⟩ v2) (B + 3) v2 L2 ∧ KeepsOthers W (w2.setCell ⟨B, 0, none⟩ v2) ∧ Below B W (w2.setCell ⟨B, 0, none⟩ v2) ∧
      Boxed (w2.setCell ⟨B, 0, none⟩ v2) (B + 1) 43 S ∧ Boxed (w2.setCell ⟨B, 0, none⟩ v2) (B + 1 + 1) 3 I := by
  have z1 := hb.size
  have a1 : Boxed w1 B 35 v := blk_on hb hv
  have a2 : Boxed w2 B 35 v := (a1.alloc o).kept hg2 (hrow.ge (by omega))
  have s1 : Boxed w1 (B + 1) 43 S := blk_on hb hvS
  have s2 : Boxed w2 (B + 1) 43 S := (s1.alloc o).kept hg2 (hrow.ge (by omega))
  have i1 : Boxed w1 (B + 1 + 1) 3 I := blk_on hb hvN
  have i2 : Boxed w2 (B + 1 + 1) 3 I := (i1.alloc o).kept hg2 (hrow.ge (by omega))
  refine ⟨a1, a2, a2.set v2, hR2.set a2 v2, ?_, ?_, s2.other (by omega) v2, i2.other (by omega) v2⟩
  · exact (others_bel hb).trans (((KeepsOthers.alloc w1 o).trans (KeepsOthers.of_grownBy hg2 (row_cells (hrow.on (bel1 w1 o))))).trans (KeepsOthers.setCell _ _ _))
  · refine (hb.mono (by omega)).trans ?_
    exact ((hrow.bel hg2 (by omega)).mono (by omega)).setCell (p := ⟨B, 0, none⟩) (Nat.le_refl B) v2
theorem piece_bs {w : World} {g o cap x : Nat} {t : List UInt8} (h : Bs w (.slice (some ⟨g, o, none⟩) t.length cap) t) (hx : x < pn t) : Bs w (.slice (some ⟨g, o + 112 * x, none⟩) (pl t.length x) (pl t.length x)) (pc t x) := by
  have hcap : t.length ≤ cap := by obtain ⟨p, c, e, h1, -⟩ := h; injection e with _ _ e3; omega
  unfold pn at hx
  have h1 := bs_drop h (n := 112 * x) (by omega)
  rw [← List.length_drop] at h1
  have hl : (t.drop (112 * x)).length = t.length - 112 * x := by simp
  have h2 := bs_take h1 (n := pl t.length x) (c := pl t.length x) (by unfold pl; omega) (Nat.le_refl _) (by unfold pl; omega)
  have e : (t.drop (112 * x)).take (pl t.length x) = pc t x := by
    unfold pc pl
    by_cases h : 112 ≤ t.length - 112 * x
    · rw [Nat.min_eq_left h]
    · rw [Nat.min_eq_right (by omega), List.take_of_length_le (by omega), List.take_of_length_le (by omega)]
  rwa [e] at h2
set_option maxRecDepth 100000 in
set_option maxHeartbeats 4000000 in
theorem cut50 (w : World) (v : Value) (t : List UInt8) (hv : Bs w v t) (hlen : t.length ≤ 4398046511104) :
    CallsIn Fence.wide 3 Tryd.prog 50 #[v] w fun e w' => ∃ v', e = .returned v' ∧ RowB w' w.heap.size v' (cutL t) ∧ Below w.heap.size w w' := by
  have HV := Lib.hid hv
  obtain ⟨p, cap, rfl, h1, h2, h3, h4⟩ := hv
  obtain ⟨b, o, hp⟩ : ∃ b o, 0 < t.length → p = some ⟨b, o, none⟩ := by
    rcases h4 with rfl | ⟨g, o, rfl, -⟩
    · exact ⟨0, 0, fun h => absurd h (by simp)⟩
    · exact ⟨g, o, fun _ => rfl⟩
  clear h3 h4
  unfold maxLen at h2
  obtain ⟨B, hB⟩ : ∃ B, w.heap.size = B := ⟨_, rfl⟩
  refine callsIn_of_wp_marks Tryd.func50 rfl trivial ?_ rfl
  simp only [Tryd.ntmps50, List.size_toArray, List.length_cons, List.length_nil, Nat.reduceAdd, Nat.reduceSub, Array.replicate_succ, Array.replicate_zero, List.push_toArray, List.append_toArray, List.nil_append, List.cons_append]
  gi_wp2_with (refine ⟨trivial, ?_⟩; gi_at_call 61; refine (callsIn_wide.2 (chunk61 _ _ _ _ rfl _)).mono ?_; rintro e w' ⟨rfl, rfl⟩)
  obtain ⟨W0, hW0⟩ : ∃ W0, ((w.alloc (.cells #[.slice none 0 0] 35)).alloc (.cells #[.slice p t.length cap] 43)).alloc (.cells #[.int .i64 112] 3) = W0 := ⟨_, rfl⟩
  have bO := ((Boxed.new w 35 (.slice none 0 0)).alloc (.cells #[.slice p t.length cap] 43)).alloc (.cells #[.int .i64 112] 3)
  have bS := (Boxed.new (w.alloc (.cells #[.slice none 0 0] 35)) 43 (.slice p t.length cap)).alloc (.cells #[.int .i64 112] 3)
  have bN := Boxed.new ((w.alloc (.cells #[.slice none 0 0] 35)).alloc (.cells #[.slice p t.length cap] 43)) 3 (.int .i64 112)
  have hB0 : Below w.heap.size w W0 := by
    rw [← hW0]
    exact (((Below.refl _ w).alloc (Nat.le_refl _) _).alloc (by simp) _).alloc (by simp; omega) _
  have hsz : W0.heap.size = B + 3 := by rw [← hW0]; simp [hB]
  rw [World.size_alloc, World.size_alloc, hB] at bN
  rw [World.size_alloc, hB] at bS
  rw [hB] at bO hB0
  rw [hW0] at bO bS bN
  simp only [hW0]
  refine wpIn_rangeFunc_ownG rfl (by omega) (gf := 72) (lb := #[.pointer (some ⟨B + 1, 0, none⟩), .pointer (some ⟨B + 1 + 1, 0, none⟩)]) rfl trivial (enters_of Tryd.func72 (by kernel_rfl) rfl)
    (chunk_stops 2 (by omega) (B + 1) b o t.length cap p hp h1 (by omega) hlen (pn t) rfl W0 (by omega) bS.cell bN.cell) (fun h k => ⟨k.1.trans h.1, k.2.trans h.2⟩) ?hKb (Below.refl _ _) (fun _ => rfl)
    (fun pre W => (∃ v, Boxed W B 35 v ∧ RowB W (B + 3) v (pre.map fun x => pc t x.1)) ∧ Boxed W (B + 1) 43 (.slice p t.length cap) ∧ Boxed W (B + 1 + 1) 3 (.int .i64 112) ∧ Below B w W ∧ B + 3 ≤ W.heap.size)
    (fun _ _ _ => False)
    ?hI
    (fun _ _ _ _ _ hs _ _ => hs)
    ⟨⟨_, bO, rowB_nil _ _⟩, bS, bN, hB0, by omega⟩
    (fun x => { tmps := #[.slice p t.length cap, undef, .slice none 0 0, .pointer (some ⟨B, 0, none⟩), .slice (some ⟨b, o + 112 * x.1, none⟩) (pl t.length x.1) (pl t.length x.1), .slice p t.length cap, .func (.func 72) #[] #[.pointer (some ⟨B + 1, 0, none⟩), .pointer (some ⟨B + 1 + 1, 0, none⟩)], .slice (some ⟨b, o + 112 * x.1, none⟩) (pl t.length x.1) (pl t.length x.1), undef, undef, undef, undef, undef, undef], defers := [] }) ?assign ?body ?done ?stop
  case hKb =>
    intro W l o o' hl _ _ _
    exact ⟨World.cell?_of_block (World.putObj_heap_other (by show B + 1 ≠ l; omega)), World.cell?_of_block (World.putObj_heap_other (by show B + 1 + 1 ≠ l; omega))⟩
  case hI =>
    refine OwnFrom.and (Own.from (rowB_own (B + 3) B (fun pre : List (Fin (pn t)) => pre.map fun x => pc t x.1)) _)
      (OwnFrom.and (Own.from (boxed_own _ _ _) _) (OwnFrom.and (Own.from (boxed_own _ _ _) _) (OwnFrom.and ?_ ?_)))
    · rw [← hB] 
      exact ownFrom_below (Nat.le_refl _) (by omega)
    · intro s X Y row hs hg _
      exact Nat.le_trans hs hg.size
  case assign =>
    intro l x W K hK
    gi_wp2
    exact hK
  case body =>
    rintro l pre x W ⟨⟨v, hv, hrow⟩, hvS, hvN, hBW, hzW⟩ hlt
    have hx := x.2
    have hpN : 0 < t.length := by unfold pn at hx; omega
    obtain rfl := hp hpN
    have hBW' : Below w.heap.size w W := by rw [hB]; exact hBW
    have hpb := (piece_bs HV.out hx).on (bel_then hBW' ((Below.refl W.heap.size W).drew))
    have hpl : (pc t x.1).length ≤ 140737488355328 := by rw [pc_len]; omega
    have c37 := clone27 W.drew _ (pc t x.1) hpb hpl
    have hc := hv.cell
    have hcd : W.drew.cell? ⟨B, 0, none⟩ = some v := hc
    have hpre : (pre.map fun x => pc t x.1).length + 1 ≤ 4398046511104 := by rw [List.length_map]; have hq : pn t = (t.length + 111) / 112 := rfl; omega
    have Hrow := Lib.hid hrow
    have Hv := Lib.hid hv
    have HX := Lib.hid (And.intro hvS (And.intro hvN (And.intro hBW hzW)))
    have mixed : Tryd.prog.follows .mixedOrders = true := by kernel_rfl
    clear hpb hrow
    gi_wp2
    gi_region_with_o (first
      | (refine ⟨trivial, ?_⟩; gi_at_call 27; refine (callsIn_wide.2 c37).mono ?_
         rintro e w1 ⟨y, rfl, hbt, hb1⟩
         have hb1' : Below W.heap.size W w1 := ⟨hb1.os, hb1.tape, hb1.output, hb1.size, hb1.block⟩
         have hz1 := hb1'.size
         have hbt' : Bts w1 (B + 3) y (pc t x.1) := hbt.mono hzW
         obtain ⟨v2, w2, hap, hR2, hg2, g2, c2, rfl⟩ := row_app (w1.alloc (.cells #[y] 43)) (B + 3) w1.heap.size v y _ _ ((Hrow.out.on hb1').on (bel1 _ _)) (Bts.on hbt' (bel1 _ _)) (cell_new _ _ _) (by simp; omega) hpre 35
         obtain ⟨yp, yc, rfl, -⟩ := hbt.bs
         have stp := Lib.hid (cut_step Hv.out hvS hvN hzW hb1' (Hrow.out.on hb1') hR2 hg2)
         have k0 : (w1.alloc (.cells #[.slice yp (pc t x.1).length yc] 43)).cell? ⟨B, 0, none⟩ = some v := (stp.out.1.alloc _).cell
         have k1 := stp.out.1.cell
         have k2 := stp.out.2.1.cell
         have k3 := stp.out.2.1.frozen
         simp [go_sem] at hap
         clear hR2 hg2 hbt hb1 hbt' hb1'))
    all_goals
      clear hap
      gi_wp2
      obtain ⟨-, -, t3, t4, t5, t6, t7, t8⟩ := stp.out
      simp only [List.length_map] at t3 t4 t5 t6 t7 t8
      refine ⟨t5.from _, ⟨t7.cell.trans HX.out.1.cell.symm, t8.cell.trans HX.out.2.1.cell.symm⟩, ⟨_, t3, ?_⟩, t7, t8, HX.out.2.2.1.trans t6, Nat.le_trans HX.out.2.2.2 t5.size⟩
      rw [List.map_append]
      exact t4
  case done =>
    rintro D ys W hD rfl ⟨⟨v, hv, hrow⟩, hvS, hvN, hBW, hzW⟩ hK
    have hc := hv.cell
    rw [fin_map] at hrow
    have hDl : D < W.heap.size := (Array.getElem?_eq_some_iff.1 hK).1
    obtain ⟨vp, vc, rfl, -⟩ := hrow.bss
    gi_wp2
    refine ⟨by simp, .inl ⟨_, _, rfl, run_takeDeferred hK, ?_⟩⟩
    refine ⟨_, results_tmp rfl _ _ _, _, rfl, ?_, ?_⟩
    · rw [hB]
      exact (hrow.nc (grownBy_putObj' W D _) (fun r e => by cases e; exact ⟨_, hK, rfl⟩)).mono (by omega)
    · rw [hB]
      refine hBW.trans ?_
      have hg := grownBy_putObj' W D (.deferred none)
      exact ⟨hg.os, hg.tape, hg.output, hg.size, fun k hk => hg.block k (by omega) (fun e => by injection e with e; omega)⟩
  case stop =>
    rintro D c pre W _ _ h _
    exact h.elim
end Go.Proofs.YtnclhjjhobbbjaaDoor
