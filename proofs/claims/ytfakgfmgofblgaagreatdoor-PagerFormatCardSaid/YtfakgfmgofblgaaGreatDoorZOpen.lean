/-
  What Open of package sector does.
-/
import Derived.Test.YtfakgfmgofblgaaGreatDoorZSeal
import Derived.Test.YtfakgfmgofblgaaGreatDoorZArr
import Derived.Deep.CutRange
namespace Go.Proofs.YtfakgfmgofblgaaGreatDoor
open Go.RowKit
set_option linter.unusedVariables false      -- a walk need not use every condition
attribute [local go_sem ↓] Go.wp_at_zero Go.wp_at_succ

/-! ### What a sector says -/
def opK (s : List UInt8) : Int := ((s.getD 0 0).toNat : Int)
def opL (s : List UInt8) : Nat := (s.getD 1 0).toNat
def opN (s : List UInt8) : Int := sgn (be ((s.drop 2).take 8))
def opP (s : List UInt8) : List UInt8 := (s.drop 10).take (opL s)
/-- Is it the sector of a frame? -/
def opOk (s : List UInt8) : Bool := decide (opL s ≤ 112) && (okF (opK s) (opN s) (opP s) && decide (sealB (opK s) (opN s) (opP s) = s))
def oK (s : List UInt8) : Int := if opOk s then opK s else 0
def oN (s : List UInt8) : Int := if opOk s then opN s else 0
def oP (s : List UInt8) : List UInt8 := if opOk s then opP s else []
def oE (s : List UInt8) : Int := if opOk s then 0 else 50
theorem opN_le (s : List UInt8) : opN s ≤ 9223372036854775807 := wrap_i64.2
theorem opN_ge (s : List UInt8) : -9223372036854775808 ≤ opN s := wrap_i64.1
theorem len_opP {s : List UInt8} (hs : s.length = 128) (h : opL s ≤ 112) : (opP s).length = opL s := by simp [opP, hs]; omega
theorem results24 {fn : Func} {p u : Tmp} (h : fn.results = #[.cell p 190, .tmp u]) (tmps : Array Value) (w : World) (g : Nat) (a b c : Value) (hp : tmps.getD p undef = .pointer (some ⟨g, 0, none⟩)) (hr : w.heap[g]? = some (.cells #[a, b, c] 190)) :
    (results fn tmps).run Tryz.prog w = .ok (.tuple #[.agg #[a, b, c], tmps.getD u undef]) w := by
  have hv := run_loadVar_mid (P := Tryz.prog) w g 0 190 [a, b, c] _ (by
    have := World.rangeAt_of_block hr 0 3
    simpa using this) Tryz.underlying190 rfl (by kernel_rfl)
  rw [results_cell_tmp h, hp]
  simp only [asAddr, Sem.run_pure, Result.andThen, hv]
set_option maxHeartbeats 800000 in
set_option maxRecDepth 100000 in
theorem open_long (w : World) (s : List UInt8) (hs : s.length = 128) (hL : ¬ opL s ≤ 112) :
    Calls Tryz.prog 153 #[.agg (encA s)] w fun e w' => e = .returned (.tuple #[frm 0 0 (.slice none 0 0), .int .i64 50]) ∧ Below w.heap.size w w' := by
  have HS : Sec (w.alloc (.cells (encA s) 118)) w.heap.size s := Sec.new w hs
  obtain ⟨c1, -⟩ := (HS.on (bel1 _ (.cells #[.int .i64 0, .int .i64 0, .slice none 0 0] 190))).cell (i := 1) (by omega)
  have hL' : (112 : Int) < ((s.getD 1 0).toNat : Int) := by unfold opL at hL; omega
  generalize s.getD 1 0 = c at *
  clear HS hL
  unfold frm
  go_enter Tryz.func153, Tryz.ntmps153
  go_wp2
  refine bodyPost_ret (v := .tuple #[.agg #[.int .i64 0, .int .i64 0, .slice none 0 0], .int .i64 50]) (results24 Tryz.results153 _ _ (w.heap.size + 1) _ _ _ rfl ?_) rfl ⟨rfl, (bel1 w _).alloc (by simp) _⟩
  have := heap_alloc_last (w.alloc (.cells (encA s) 118)) (.cells #[.int .i64 0, .int .i64 0, .slice none 0 0] 190)
  rwa [World.size_alloc] at this
theorem wrap_small {x : Nat} (h : x < 1000) : IntKind.i64.wrap (x : Int) = (x : Int) := by
  simp [IntKind.wrap, IntKind.signed, IntKind.bits]
  omega
theorem box_fr {w : World} {g : Nat} {a b c : Value} {t : TypeId} (e : w.heap[g]? = some (.cells #[a, b, c] t)) (i : Nat) : w.frozen? ⟨g, i, none⟩ = false := by simp [World.frozen?, e]
/-- Three cells of one block are stored. -/
def put3 (w : World) (g : Nat) (x y z : Value) : World := ((w.setCell ⟨g, 0, none⟩ x).setCell ⟨g, 1, none⟩ y).setCell ⟨g, 2, none⟩ z
theorem set3 {w : World} {g b i : Nat} {v x y z : Value} (hne : b ≠ g) (h : w.cell? ⟨b, i, none⟩ = some v) : (((w.setCell ⟨g, 0, none⟩ x).setCell ⟨g, 1, none⟩ y).setCell ⟨g, 2, none⟩ z).cell? ⟨b, i, none⟩ = some v := by
  rw [World.cell?_setCell_other _ _ _ _ (fun e => hne (by injection e with e; exact e.symm)), World.cell?_setCell_other _ _ _ _ (fun e => hne (by injection e with e; exact e.symm)), World.cell?_setCell_other _ _ _ _ (fun e => hne (by injection e with e; exact e.symm))]
  exact h
theorem gr_put3 (w : World) (g : Nat) (x y z : Value) : w.grownBy (put3 w g x y z) (some g) := ((gr_set w g 0 x).trans (gr_set _ g 1 y)).trans (gr_set _ g 2 z)
theorem blk_put3 {w : World} {g : Nat} {t : TypeId} {a b c : Value} (h : w.heap[g]? = some (.cells #[a, b, c] t)) (x y z : Value) : (put3 w g x y z).heap[g]? = some (.cells #[x, y, z] t) := by
  simp [put3, World.setCell, Array.getElem?_modify, h]
theorem some_on {w w' : World} {a : Addr} {v : Value} (hb : Below w.heap.size w w') (h : w.cell? a = some v) : w'.cell? a = some v :=
  (World.cell?_of_block (w := w) (a := a) (hb.block _ (World.block_lt_of_cell? w a h))).trans h
/-- Where an Open stands: its sector, its result's cells, and what was there ahead. -/
structure Opn (w W : World) (s : List UInt8) : Prop where
  sec : Sec W w.heap.size s
  res : ∃ a b c, W.heap[w.heap.size + 1]? = some (.cells #[a, b, c] 190)
  bel : Below w.heap.size w W
  sz : w.heap.size + 2 ≤ W.heap.size
theorem Opn.on {w W W' : World} {s : List UInt8} (h : Opn w W s) (hb : Below W.heap.size W W') : Opn w W' s := by
  have z := h.sz
  refine ⟨h.sec.on hb, ?_, h.bel.trans (hb.mono (by omega)), by have := hb.size; omega⟩
  obtain ⟨a, b, c, e⟩ := h.res
  exact ⟨a, b, c, (hb.block _ (by omega)).trans e⟩
theorem Bs.grownB {w w' : World} {v : Value} {t : List UInt8} {b : Nat} (h : Bs w v t) (hg : w.grownBy w' (some b)) (hb : ∀ g o n c, v = .slice (some ⟨g, o, none⟩) n c → g ≠ b) : Bs w' v t := by
  obtain ⟨p, cap, rfl, h1, h2, h3, h4⟩ := h
  refine ⟨p, cap, rfl, h1, h2, h3, ?_⟩
  rcases h4 with h4 | ⟨g, o, rfl, hc⟩
  · exact .inl h4
  · refine .inr ⟨g, o, rfl, fun j u hu => ?_⟩
    have h0 := hc j u hu
    exact (World.cell?_of_block (w := w) (a := ⟨g, o + j, none⟩) (hg.block _ (World.block_lt_of_cell? w _ h0) (fun e => hb g o _ _ rfl (by injection e)))).trans h0
/-- A slice that lies behind a place of the heap, if anywhere. -/
def Fresh (base : Nat) (v : Value) : Prop := ∀ g o n c, v = .slice (some ⟨g, o, none⟩) n c → base ≤ g
theorem Fresh.mono {a b : Nat} {v : Value} (h : Fresh b v) (hab : a ≤ b) : Fresh a v := fun g o n c e => Nat.le_trans hab (h g o n c e)
theorem Bts.fresh {w : World} {base : Nat} {v : Value} {t : List UInt8} (h : Bts w base v t) : Fresh base v := by
  intro g o n c e
  rcases h.2 with ⟨rfl, h0⟩ | ⟨g', cap, cur, rfl, hbg, hg, hnc, hcm, hcs, htake⟩
  · cases e
  · injection e with e1 e2 e3
    injection e1 with e1
    injection e1 with e1
    omega
theorem Opn.grown {w W W' : World} {s : List UInt8} {b : Nat} (h : Opn w W s) (hg : W.grownBy W' (some b)) (hb : w.heap.size + 2 ≤ b) : Opn w W' s := by
  have z := h.sz
  refine ⟨h.sec.grown hg (by omega), ?_, h.bel.grown hg (by omega) (fun k e => by injection e with e; omega), by have := hg.size; omega⟩
  obtain ⟨a, b, c, e⟩ := h.res
  exact ⟨a, b, c, (hg.block _ (by omega) (fun e => by injection e with e; omega)).trans e⟩
set_option maxHeartbeats 3200000 in
set_option maxRecDepth 100000 in
theorem open_short (w : World) (s : List UInt8) (hs : s.length = 128) (hL : opL s ≤ 112) (hT : TabOk w) :
    Calls Tryz.prog 153 #[.agg (encA s)] w fun e w' => ∃ pv, e = .returned (.tuple #[frm (oK s) (oN s) pv, .int .i64 (oE s)]) ∧ Bs w' pv (oP s) ∧ Fresh w.heap.size pv ∧ Below w.heap.size w w' := by
  have S0 : Opn w ((w.alloc (.cells (encA s) 118)).alloc (.cells #[.int .i64 0, .int .i64 0, .slice none 0 0] 190)) s := by
    refine ⟨(Sec.new w hs).on (bel1 _ _), ⟨.int .i64 0, .int .i64 0, .slice none 0 0, ?_⟩, (bel1 w _).alloc (by simp) _, by simp⟩
    have := heap_alloc_last (w.alloc (.cells (encA s) 118)) (.cells #[.int .i64 0, .int .i64 0, .slice none 0 0] 190)
    rwa [World.size_alloc] at this
  obtain ⟨c0, -⟩ := S0.sec.cell (i := 0) (by omega)
  obtain ⟨c1, -⟩ := S0.sec.cell (i := 1) (by omega)
  have hL' : ¬ (112 : Int) < ((s.getD 1 0).toNat : Int) := by unfold opL at hL; omega
  have HE0 : Hid (opK s = ((s.getD 0 0).toNat : Int)) := rfl
  have HE1 : Hid (opL s = (s.getD 1 0).toNat) := rfl
  have hr2 : Hid (∀ W, Sec W w.heap.size s → W.rangeAt w.heap.size 2 (enc ((s.drop 2).take 8))) := fun W hW => by
    obtain ⟨p, cap, e, -, -, -, h⟩ := hW.bs (o := 2) (n := 8) (c := 126) (by omega) (by omega) (by decide)
    injection e with e1 e2 e3
    rcases h with h | ⟨g, o, e4, h⟩
    · exfalso
      have : ((s.drop 2).take 8).length = 8 := by simp [hs]
      rw [h] at this; cases this
    · rw [← e1] at e4
      injection e4 with e4
      injection e4 with e5 e6
      subst e5 e6
      exact h
  have hB : Hid (∀ W, Sec W w.heap.size s → Bs W (.slice (some ⟨w.heap.size, 10, none⟩) (opL s) 118) (opP s)) := fun W hW => hW.bs (o := 10) (n := opL s) (c := 118) (by omega) (by omega) (by decide)
  have h8 : ((s.drop 2).take 8).length = 8 := by simp [hs]
  have H8 := Lib.hid h8
  have HPL := Lib.hid (len_opP hs hL)
  rw [HE1.out] at hB
  have HS0 := Lib.hid S0
  have HL := Lib.hid hL
  have HTT := Lib.hid hT
  clear S0 hL hT h8
  unfold frm
  go_enter Tryz.func153, Tryz.ntmps153
  generalize s.getD 0 0 = a0 at *
  generalize s.getD 1 0 = a1 at *
  go_wp2
  have hq0 : a0.toNat < 256 := UInt8.toNat_lt a0
  have hq1 : a1.toNat < 256 := UInt8.toNat_lt a1
  have hw0 : IntKind.i64.wrap (a0.toNat : Int) = (a0.toNat : Int) := wrap_small (by omega)
  have hw1 : IntKind.i64.wrap (a1.toNat : Int) = (a1.toNat : Int) := wrap_small (by omega)
  have hw2 : IntKind.i64.wrap (10 + (a1.toNat : Int)) = 10 + (a1.toNat : Int) := by
    have := wrap_small (x := 10 + a1.toNat) (by omega)
    rw [show ((10 + a1.toNat : Nat) : Int) = 10 + (a1.toNat : Int) by omega] at this
    exact this
  have ha1 : (10 : Int) ≤ 10 + (a1.toNat : Int) := by omega
  have ha0 : (0 : Int) ≤ 10 + (a1.toNat : Int) := by omega
  have hB2 : Hid (∀ W, Sec W w.heap.size s → Bs W (.slice (some ⟨w.heap.size, 10, none⟩) ((10 + (a1.toNat : Int)).toNat - 10) 118) (opP s)) := fun W hW => by
    rw [show (10 + (a1.toNat : Int)).toNat - 10 = a1.toNat by omega]
    exact hB.out W hW
  have ha2 : (10 : Int) + (a1.toNat : Int) ≤ 128 := by omega
  obtain ⟨W, hW⟩ : ∃ W, (w.alloc (.cells (encA s) 118)).alloc (.cells #[.int .i64 0, .int .i64 0, .slice none 0 0] 190) = W := ⟨_, rfl⟩
  rw [hW] at c0 c1 HS0 ⊢
  clear hW
  have HN : Hid (w.heap.size ≠ W.heap.size) := by
    have := HS0.out.sz
    show w.heap.size ≠ W.heap.size
    omega
  generalize hN0 : sgn (be ((s.drop 2).take 8)) = n0 at *
  go_cut [4] from 11 to 22 (fun s4 wx => ∃ f pp pc, s4 = .pointer (some ⟨f, 0, none⟩) ∧ Hid (Opn w wx s) ∧ wx.heap[f]? = some (.cells #[.int .i64 a0.toNat, .int .i64 n0, .slice pp (opP s).length pc] 190) ∧ Hid (Bs wx (.slice pp (opP s).length pc) (opP s)) ∧ Hid (Fresh (w.heap.size + 2) (.slice pp (opP s).length pc)))
  case first =>
    go_region_held3 (fun u => u.cell? ⟨w.heap.size, 0, none⟩ = some (.int .u8 a0.toNat) ∧ u.cell? ⟨w.heap.size, 1, none⟩ = some (.int .u8 a1.toNat)) (first | exact ⟨c0, c1⟩ | exact ⟨d0, d1⟩ | exact ⟨some_on (bel1 _ _) c0, some_on (bel1 _ _) c1⟩ | exact ⟨some_on (bel1 _ _) d0, some_on (bel1 _ _) d1⟩ | exact ⟨set3 HN.out d0, set3 HN.out d1⟩ | go_keep | go_keep_ranges)
      (first
        | (go_at_call 179; refine (takeN179 _ w.heap.size 2 126 ((s.drop 2).take 8) H8.out (by first | exact hr2.out _ HS0.out.sec.drew | exact hr2.out _ (HS0.out.on (bel1 _ _)).sec.drew | exact hr2.out _ HO1.out.sec)).mono ?_; rintro e W' ⟨rfl, rfl⟩; rw [hN0])
        | (go_at_call 62; refine (clone62 _ _ _ (hB2.out _ (by first | exact HS0.out.sec.drew | exact (HS0.out.on (bel1 _ _)).sec.drew)) (by rw [HPL.out]; have := HL.out; omega)).mono ?_; rintro e W1 ⟨pv, rfl, hbt, hb1⟩
           have hbw : Below W.heap.size W W1 := by first | exact bel_then ((Below.refl _ W).drew) hb1 | exact bel_then (bel_then (bel1 W _) (Below.refl _ _).drew) hb1
           have O1 := HS0.out.on hbw
           (first
            | (have fz : W1.heap[W.heap.size]? = some (.cells #[.int .i64 0, .int .i64 0, .slice none 0 0] 190) := blk_on hb1 (show (W.alloc (.cells #[.int .i64 0, .int .i64 0, .slice none 0 0] 190)).drew.heap[W.heap.size]? = some (.cells #[.int .i64 0, .int .i64 0, .slice none 0 0] 190) from heap_alloc_last W _)
               obtain ⟨f0, f1, f2⟩ := box_of fz
               have f3 := box_fr fz)
            | skip)
           have d0 := some_on hbw c0
           have d1 := some_on hbw c1
           have HO1 := Lib.hid O1
           have HBT := Lib.hid hbt.bs
           have HFR := Lib.hid hbt.fresh
           obtain ⟨pp, pc, epv, -⟩ := hbt.bs
           subst epv
           clear hbt O1 hbw))

    all_goals
      go_wp2
      go_meet
      case rel =>
        have hz0 := HS0.out.sz
        first
        | exact ⟨W.heap.size, pp, pc, rfl, HO1.out.grown (gr_put3 _ _ _ _ _) hz0, blk_put3 fz _ _ _, HBT.out.grownB (gr_put3 _ _ _ _ _) (fun g o n c e => by have := HFR.out g o n c e; simp at this; omega), HFR.out.mono (by simp; omega)⟩
        | exact ⟨W1.heap.size, pp, pc, rfl, HO1.out.on (bel1 _ _), heap_alloc_last _ _, HBT.out.on (bel1 _ _), HFR.out.mono (by simp; omega)⟩
  case rest =>
    obtain ⟨f, pp, pc, rfl, HO, hbx, HBT, HFR⟩ := hcut
    obtain ⟨b0, b1, b2⟩ := box_of hbx
    have cS := seal180 wc a0.toNat n0 (.slice pp (opP s).length pc) (opP s) HBT.out (tab_on HTT.out HO.out.bel) (by rw [← hN0]; exact opN_le s)
    have HEs : Hid (sealB (opK s) (opN s) (opP s) = sealB a0.toNat n0 (opP s)) := by
      show sealB (opK s) (opN s) (opP s) = _
      rw [HE0.out, ← hN0]; rfl
    have HOk : Hid (okF (opK s) (opN s) (opP s) = okF a0.toNat n0 (opP s)) := by
      show okF (opK s) (opN s) (opP s) = _
      rw [HE0.out, ← hN0]; rfl
    have HN1 : Hid (opN s = n0) := hN0
    have hls := len_sealB (a0.toNat : Int) n0 (opP s)
    have HLs := Lib.hid hls
    unfold sealE at cS
    unfold frm at cS
    clear hls hN0 hr2 hB hB2
    cases hok : okF (a0.toNat : Int) n0 (opP s) with
    | false =>
      rw [hok] at cS
      simp only [Bool.false_eq_true, if_false] at cS
      obtain ⟨Z, hZ⟩ : ∃ Z, sealB (a0.toNat : Int) n0 (opP s) = Z := ⟨_, rfl⟩
      rw [hZ] at cS HLs
      clear hZ HEs
      go_wp2_with (first
        | (go_at_call 180; refine cS.mono ?_; rintro e W2 ⟨rfl, hb2⟩)
        | (show wpList _ _ _ (Oper.mk (some 5) (Op.alloc 118) _ _ _ _ :: _) _ _
           refine wpList_alloc26 rfl rfl ?_; intro W3 hW3 zW3 sW3)
        | (show wpList _ _ _ (Oper.mk _ (Op.store 118 (Operand.tmp 5) _) _ _ _ _ :: _) _ _
           refine wpList_store26 rfl _ _ rfl W2.heap.size 0 Z rfl rfl sW3.th HLs.out ?_; intro w4 g4 r4 t4 z4
           have O4 : Opn w w4 s := ((HO.out.on hb2).on hW3).grown g4 (by have := HO.out.sz; have := hb2.size; omega)
           obtain ⟨q0, q1, q2, e4⟩ := O4.res
           obtain ⟨r0, r1, r2⟩ := box_of e4
           have rf := box_fr e4
           have HO4 := Lib.hid O4
           clear O4 g4 t4 sW3 hW3 hb2))
      have hno : opOk s = false := by unfold opOk; rw [HOk.out]; simp [hok]
      have h1 : oK s = 0 := by unfold oK; rw [hno, if_neg (by decide)]
      have h2 : oN s = 0 := by unfold oN; rw [hno, if_neg (by decide)]
      have h3 : oP s = [] := by unfold oP; rw [hno, if_neg (by decide)]
      have h4 : oE s = 50 := by unfold oE; rw [hno, if_neg (by decide)]
      rw [h1, h2, h3, h4]
      refine bodyPost_ret (v := .tuple #[.agg #[.int .i64 0, .int .i64 0, .slice none 0 0], .int .i64 50]) (results24 Tryz.results153 _ _ (w.heap.size + 1) _ _ _ rfl (blk_put3 e4 _ _ _)) rfl ⟨.slice none 0 0, rfl, bs_nil _, fun _ _ _ _ e => (by cases e), ?_⟩
      have := HO4.out.sz
      exact HO4.out.bel.grown (gr_put3 _ _ _ _ _) (by omega) (fun k e => by injection e with e; omega)
    | true =>
      rw [hok] at cS
      simp only [if_true] at cS
      obtain ⟨Z, hZ⟩ : ∃ Z, sealB (a0.toNat : Int) n0 (opP s) = Z := ⟨_, rfl⟩
      rw [hZ] at cS HLs HEs
      clear hZ
      have hi1 : (Tryz.prog.info? 118).map (·.size) = some (enc Z).length := by rw [size26, len_enc, HLs.out]
      have hi2 : (Tryz.prog.info? 118).map (·.size) = some (enc s).length := by rw [size26, len_enc, hs]
      have heq := fun w => eq26 Z s HLs.out hs w
      by_cases hzs : Z = s
      · have hok2 : opOk s = true := by
          unfold opOk; rw [HOk.out, HEs.out, hok]; simp [hzs, HL.out]
        rw [decide_eq_true hzs] at heq
        have h1 : oK s = a0.toNat := by unfold oK; rw [hok2, if_pos rfl]; exact HE0.out
        have h2 : oN s = n0 := by unfold oN; rw [hok2, if_pos rfl]; exact HN1.out
        have h3 : oP s = opP s := by unfold oP; rw [hok2, if_pos rfl]
        have h4 : oE s = 0 := by unfold oE; rw [hok2, if_pos rfl]
        have HH := Lib.hid (And.intro h1 (And.intro h2 (And.intro h3 h4)))
        clear HEs HOk hok2 hzs h1 h2 h3 h4
        go_wp2_with (first
          | (go_at_call 180; refine cS.mono ?_; rintro e W2 ⟨rfl, hb2⟩)
          | (show wpList _ _ _ (Oper.mk (some 5) (Op.alloc 118) _ _ _ _ :: _) _ _
             refine wpList_alloc26 rfl rfl ?_; intro W3 hW3 zW3 sW3)
          | (show wpList _ _ _ (Oper.mk _ (Op.store 118 (Operand.tmp 5) _) _ _ _ _ :: _) _ _
             refine wpList_store26 rfl _ _ rfl W2.heap.size 0 Z rfl rfl sW3.th HLs.out ?_; intro w4 g4 r4 t4 z4
             have hbw4 : Below wc.heap.size wc w4 := (bel_then hb2 hW3).grown g4 (by have := hb2.size; have := hW3.size; omega) (fun k e => by injection e with e; have := hb2.size; omega)
             have O4 : Opn w w4 s := HO.out.on hbw4
             obtain ⟨q0, q1, q2, e4⟩ := O4.res
             obtain ⟨r0, r1, r2⟩ := box_of e4
             have rf := box_fr e4
             clear b0 b1 b2
             obtain ⟨b0, b1, b2⟩ := box_of (blk_on hbw4 hbx)
             have HBT4 := Lib.hid (HBT.out.on hbw4)
             have HO4 := Lib.hid O4
             have HR4 := Lib.hid r4
             clear O4 t4 sW3 hbx g4 r4 hbw4 hW3 hb2)
          | (show wpList _ _ _ (Oper.mk _ (Op.load 118 (Operand.tmp 5)) _ _ _ _ :: _) _ _
             refine wpList_want (by kernel_rfl) fun KK hKK => wp_load_mid 118 _ rfl _ _ rfl _ _ HR4.out Tryz.underlying118 rfl hi1 (hKK _ _ ?_); clear hKK KK)
          | (show wpList _ _ _ (Oper.mk _ (Op.load 118 (Operand.tmp 1)) _ _ _ _ :: _) _ _
             refine wpList_want (by kernel_rfl) fun KK hKK => wp_load_mid 118 _ rfl _ _ rfl _ _ HO4.out.sec.at_ Tryz.underlying118 rfl hi2 (hKK _ _ ?_); clear hKK KK))
        obtain ⟨h1, h2, h3, h4⟩ := HH.out
        rw [h1, h2, h3, h4]
        refine bodyPost_ret (v := .tuple #[.agg #[.int .i64 a0.toNat, .int .i64 n0, .slice pp (opP s).length pc], .int .i64 0]) (results24 Tryz.results153 _ _ (w.heap.size + 1) _ _ _ rfl (blk_put3 e4 _ _ _)) rfl ⟨.slice pp (opP s).length pc, rfl, ?_, HFR.out.mono (by omega), ?_⟩
        · have := HO4.out.sz
          exact HBT4.out.grownB (gr_put3 _ _ _ _ _) (fun g o n c e => by have := HFR.out g o n c e; omega)
        · have := HO4.out.sz
          exact HO4.out.bel.grown (gr_put3 _ _ _ _ _) (by omega) (fun k e => by injection e with e; omega)
      · have hno : opOk s = false := by
          unfold opOk; rw [HOk.out, HEs.out, hok]; simp [hzs]
        rw [decide_eq_false hzs] at heq
        have h1 : oK s = 0 := by unfold oK; rw [hno, if_neg (by decide)]
        have h2 : oN s = 0 := by unfold oN; rw [hno, if_neg (by decide)]
        have h3 : oP s = [] := by unfold oP; rw [hno, if_neg (by decide)]
        have h4 : oE s = 50 := by unfold oE; rw [hno, if_neg (by decide)]
        have HH := Lib.hid (And.intro h1 (And.intro h2 (And.intro h3 h4)))
        clear HEs HOk hno hzs h1 h2 h3 h4
        go_wp2_with (first
          | (go_at_call 180; refine cS.mono ?_; rintro e W2 ⟨rfl, hb2⟩)
          | (show wpList _ _ _ (Oper.mk (some 5) (Op.alloc 118) _ _ _ _ :: _) _ _
             refine wpList_alloc26 rfl rfl ?_; intro W3 hW3 zW3 sW3)
          | (show wpList _ _ _ (Oper.mk _ (Op.store 118 (Operand.tmp 5) _) _ _ _ _ :: _) _ _
             refine wpList_store26 rfl _ _ rfl W2.heap.size 0 Z rfl rfl sW3.th HLs.out ?_; intro w4 g4 r4 t4 z4
             have hbw4 : Below wc.heap.size wc w4 := (bel_then hb2 hW3).grown g4 (by have := hb2.size; have := hW3.size; omega) (fun k e => by injection e with e; have := hb2.size; omega)
             have O4 : Opn w w4 s := HO.out.on hbw4
             obtain ⟨q0, q1, q2, e4⟩ := O4.res
             obtain ⟨r0, r1, r2⟩ := box_of e4
             have rf := box_fr e4
             clear b0 b1 b2
             obtain ⟨b0, b1, b2⟩ := box_of (blk_on hbw4 hbx)
             have HBT4 := Lib.hid (HBT.out.on hbw4)
             have HO4 := Lib.hid O4
             have HR4 := Lib.hid r4
             clear O4 t4 sW3 hbx g4 r4 hbw4 hW3 hb2)
          | (show wpList _ _ _ (Oper.mk _ (Op.load 118 (Operand.tmp 5)) _ _ _ _ :: _) _ _
             refine wpList_want (by kernel_rfl) fun KK hKK => wp_load_mid 118 _ rfl _ _ rfl _ _ HR4.out Tryz.underlying118 rfl hi1 (hKK _ _ ?_); clear hKK KK)
          | (show wpList _ _ _ (Oper.mk _ (Op.load 118 (Operand.tmp 1)) _ _ _ _ :: _) _ _
             refine wpList_want (by kernel_rfl) fun KK hKK => wp_load_mid 118 _ rfl _ _ rfl _ _ HO4.out.sec.at_ Tryz.underlying118 rfl hi2 (hKK _ _ ?_); clear hKK KK))
        obtain ⟨h1, h2, h3, h4⟩ := HH.out
        rw [h1, h2, h3, h4]
        refine bodyPost_ret (v := .tuple #[.agg #[.int .i64 0, .int .i64 0, .slice none 0 0], .int .i64 50]) (results24 Tryz.results153 _ _ (w.heap.size + 1) _ _ _ rfl (blk_put3 e4 _ _ _)) rfl ⟨.slice none 0 0, rfl, bs_nil _, fun _ _ _ _ e => (by cases e), ?_⟩
        have := HO4.out.sz
        exact HO4.out.bel.grown (gr_put3 _ _ _ _ _) (by omega) (fun k e => by injection e with e; omega)
end Go.Proofs.YtfakgfmgofblgaaGreatDoor
