/-
  What the document's Open does.
-/
import Derived.Test.YtafnelpcnfmhfaaDoorRseal
import Derived.Test.YtafnelpcnfmhfaaDoorOpm
import Derived.Test.YtafnelpcnfmhfaaDoorApp
import Derived.Deep.RegionWith
import Derived.Deep.CutRange
namespace Go.Proofs.YtafnelpcnfmhfaaDoor
open Go.RowKit
set_option linter.unusedVariables false      -- a walk need not use every condition
attribute [local go_sem ↓] Go.wp_at_zero Go.wp_at_succ

theorem or_i64 {u c : Nat} (hu : u * 256 < 18446744073709551616) (hc : c < 256) (x : Int) (hx : x = sgn (u * 256)) : bits .or .i64 x (c : Int) = sgn (u * 256 + c) := by
  subst hx
  have e : bits .or .i64 (sgn (u * 256)) (c : Int) = IntKind.i64.wrap ((BitVec.ofInt 64 (sgn (u * 256)) ||| BitVec.ofInt 64 (c : Int)).toNat : Int) := rfl
  have e1 : (BitVec.ofInt 64 (sgn (u * 256))).toNat = u * 256 := by
    rw [BitVec.toNat_ofInt]
    unfold sgn wrap64
    omega
  rw [e, BitVec.toNat_or, e1, ofInt_toNat 64 c (by omega), or_low u c hc, IntKind.wrap_i64]
  simp only [sgn, wrap64]
theorem sgn_shl {u : Nat} (hu : u * 256 < 18446744073709551616) : IntKind.i64.wrap (sgn u * 256) = sgn (u * 256) := by
  unfold sgn wrap64
  rw [IntKind.wrap_i64]
  omega
/-- Where the document's Open stands. -/
structure Ron (w W : World) (s : List UInt8) (k n : Int) (pv : Value) : Prop where
  opn : Opn w W s
  box : W.heap[w.heap.size + 2]? = some (.cells #[.int .i64 k, .int .i64 n, pv] 24)
theorem set_cell1 {w : World} {g : Nat} {t : TypeId} {a b c : Value} (h : w.heap[g]? = some (.cells #[a, b, c] t)) (u : Value) : (w.setCell ⟨g, 1, none⟩ u).heap[g]? = some (.cells #[a, u, c] t) := by
  simp [World.setCell, Array.getElem?_modify, h]
theorem set_cell2 {w : World} {g : Nat} {t : TypeId} {a b c : Value} (h : w.heap[g]? = some (.cells #[a, b, c] t)) (u : Value) : (w.setCell ⟨g, 2, none⟩ u).heap[g]? = some (.cells #[a, b, u] t) := by
  simp [World.setCell, Array.getElem?_modify, h]
theorem Ron.set1 {w W : World} {s : List UInt8} {k n : Int} {pv : Value} (h : Ron w W s k n pv) (m : Int) : Ron w (W.setCell ⟨w.heap.size + 2, 1, none⟩ (.int .i64 m)) s k m pv :=
  ⟨h.opn.grown (gr_set W (w.heap.size + 2) 1 _) (Nat.le_refl _), set_cell1 h.box _⟩
theorem Ron.drew {w W : World} {s : List UInt8} {k n : Int} {pv : Value} (h : Ron w W s k n pv) : Ron w W.drew s k n pv :=
  ⟨h.opn.on (Below.refl _ _).drew, h.box⟩
set_option maxHeartbeats 3200000 in
set_option maxRecDepth 100000 in
theorem ropen11 (w : World) (s : List UInt8) (hs : s.length = 128) :
    Calls Tryd.prog 11 #[.agg (encA s)] w fun e w' => ∃ pv, e = .returned (.tuple #[frm (oK s) (oN s) pv, .int .i64 (oE s)]) ∧ Bs w' pv (oP s) ∧ Below w.heap.size w w' := by
  obtain ⟨K, hK⟩ : ∃ K : Int, opK s = K := ⟨_, rfl⟩
  have hK0 : ((s.getD 0 0).toNat : Int) = K := hK
  have hw0 : IntKind.i64.wrap K = K := by
    rw [← hK0]
    exact wrap_small (by have := UInt8.toNat_lt (s.getD 0 0); omega)
  have R0 : Ron w (((w.alloc (.cells (encA s) 26)).alloc (.cells #[.int .i64 0, .int .i64 0, .slice none 0 0] 24)).alloc (.cells #[.int .i64 K, .int .i64 0, .slice none 0 0] 24)) s K (sgn (be (((s.drop 2).take 8).take 0))) (.slice none 0 0) := by
    have o1 : Opn w ((w.alloc (.cells (encA s) 26)).alloc (.cells #[.int .i64 0, .int .i64 0, .slice none 0 0] 24)) s := by
      refine ⟨(Sec.new w hs).on (bel1 _ _), ⟨.int .i64 0, .int .i64 0, .slice none 0 0, ?_⟩, (bel1 w _).alloc (by simp) _, by simp⟩
      have := heap_alloc_last (w.alloc (.cells (encA s) 26)) (.cells #[.int .i64 0, .int .i64 0, .slice none 0 0] 24)
      rwa [World.size_alloc] at this
    refine ⟨o1.on (bel1 _ _), ?_⟩
    rw [show sgn (be (((s.drop 2).take 8).take 0)) = 0 by simp [be, sgn, wrap64]]
    have := heap_alloc_last ((w.alloc (.cells (encA s) 26)).alloc (.cells #[.int .i64 0, .int .i64 0, .slice none 0 0] 24)) (.cells #[.int .i64 K, .int .i64 0, .slice none 0 0] 24)
    rwa [World.size_alloc, World.size_alloc] at this
  obtain ⟨c0, -⟩ := (Sec.on (Sec.new w hs) (bel1 _ (.cells #[.int .i64 0, .int .i64 0, .slice none 0 0] 24))).cell (i := 0) (by omega)
  rw [hK0] at c0
  have HK := Lib.hid hK
  have HR0 := Lib.hid R0
  clear R0 hK hK0
  unfold frm
  go_enter Tryd.func11, Tryd.ntmps11
  go_wp2
  obtain ⟨W0, hW0⟩ : ∃ W0, ((w.alloc (.cells (encA s) 26)).alloc (.cells #[.int .i64 0, .int .i64 0, .slice none 0 0] 24)).alloc (.cells #[.int .i64 K, .int .i64 0, .slice none 0 0] 24) = W0 := ⟨_, rfl⟩
  rw [hW0] at HR0 ⊢
  clear hW0 c0
  have hl8 : ((s.drop 2).take 8).length = 8 := by simp [hs]
  go_loopg [5] 8 (fun gk s5 wr => ∃ i : Nat, i + gk = 8 ∧ s5 = .int .i64 i ∧ Hid (Ron w wr s K (sgn (be (((s.drop 2).take 8).take i))) (.slice none 0 0)))
  case atStart => exact ⟨0, by omega, rfl, HR0⟩
  case round =>
    obtain ⟨i, hig, rfl, HR⟩ := hrel
    cases gk with
    | zero =>
      obtain rfl : i = 8 := by omega
      have hN : sgn (be (((s.drop 2).take 8).take 8)) = opN s := by
        unfold opN
        rw [List.take_of_length_le (by omega)]
      rw [hN] at HR
      have HNl := Lib.hid (opN_le s)
      have HN0 : Hid (opN s = opN s) := rfl
      obtain ⟨N, hNN⟩ : ∃ N, opN s = N := ⟨_, rfl⟩
      rw [hNN] at HR HNl
      have HNN := Lib.hid hNN
      clear hN hNN HN0 HR0
      obtain ⟨c1, -⟩ := HR.out.opn.sec.cell (i := 1) (by omega)
      obtain ⟨q0, q1, q2, e4⟩ := HR.out.opn.res
      obtain ⟨r0, r1, r2⟩ := box_of e4
      have rf := box_fr e4
      obtain ⟨b0, b1, b2⟩ := box_of HR.out.box
      have bf := box_fr HR.out.box
      have HL1 : Hid (opL s = (s.getD 1 0).toNat) := rfl
      by_cases hL : opL s ≤ 112
      · have HPL := Lib.hid (len_opP hs hL)
        have HLL := Lib.hid hL
        have hL' : ¬ (112 : Int) < ((s.getD 1 0).toNat : Int) := by rw [HL1.out] at hL; omega
        have hBs : Hid (∀ W, Sec W w.heap.size s → Bs W (.slice (some ⟨w.heap.size, 10, none⟩) (opL s) 118) (opP s)) := fun W hW => hW.bs (o := 10) (n := opL s) (c := 118) (by omega) (by omega) (by decide)
        rw [HL1.out] at hBs
        generalize s.getD 1 0 = a1 at *
        have hq1 : a1.toNat < 256 := UInt8.toNat_lt a1
        have hw1 : IntKind.i64.wrap (a1.toNat : Int) = (a1.toNat : Int) := wrap_small (by omega)
        have hw2 : IntKind.i64.wrap (10 + (a1.toNat : Int)) = 10 + (a1.toNat : Int) := by
          have := wrap_small (x := 10 + a1.toNat) (by omega)
          rw [show ((10 + a1.toNat : Nat) : Int) = 10 + (a1.toNat : Int) by omega] at this
          exact this
        have ha1 : (10 : Int) ≤ 10 + (a1.toNat : Int) := by omega
        have ha0 : (0 : Int) ≤ 10 + (a1.toNat : Int) := by omega
        have ha2 : (10 : Int) + (a1.toNat : Int) ≤ 128 := by omega
        have hB2 : Hid (∀ W, Sec W w.heap.size s → Bs W (.slice (some ⟨w.heap.size, 10, none⟩) ((10 + (a1.toNat : Int)).toNat - 10) 118) (opP s)) := fun W hW => by
          rw [show (10 + (a1.toNat : Int)).toNat - 10 = a1.toNat by omega]
          exact hBs.out W hW
        obtain ⟨v', W1, hap, hbt, hgr⟩ := app_run wr.drew wr.heap.size (.slice none 0 0) _ [] (opP s) (World.ownsRow_nil _ _ _ _) (hB2.out _ HR.out.opn.sec.drew) (by rw [HPL.out]; have := HLL.out; simp; omega) (Nat.le_refl _) 22
        rw [List.nil_append] at hbt
        have hb1 : Below wr.heap.size wr W1 := ⟨hgr.os, hgr.tape, hgr.output, hgr.size, fun k hk => hgr.block k hk (fun e => by cases e)⟩
        have hfr := hbt.fresh
        have hO1 := HR.out.opn.on hb1
        have hbx1 := blk_on hb1 HR.out.box
        obtain ⟨pp, pc, epv, -⟩ := hbt.bs
        have hBT1 := hbt.bs
        subst epv
        obtain ⟨f0, f1, f2⟩ := box_of hbx1
        have ff := box_fr hbx1
        have d1 := some_on hb1 c1
        have HO1 := Lib.hid hO1
        have HBX1 := Lib.hid hbx1
        have HBT1 := Lib.hid hBT1
        have HFR := Lib.hid hfr
        have hne : w.heap.size ≠ w.heap.size + 2 := by omega
        clear hO1 hbx1 hBT1 hfr hbt hgr hL
        go_wp2
        simp [go_sem] at hap
        go_cut [4] from 30 to 38 (fun s4 wx => s4 = .pointer (some ⟨w.heap.size + 1 + 1, 0, none⟩) ∧ wx = W1.setCell ⟨w.heap.size + 1 + 1, 2, none⟩ (.slice pp (opP s).length pc))
        case first =>
          go_region_with (fail)
          all_goals
            go_wp2
            go_meet
            case rel => exact ⟨rfl, rfl⟩
        case rest =>
          obtain ⟨rfl, hwc⟩ := hcut
          have HO : Hid (Opn w wc s) := by
            rw [hwc]
            exact HO1.out.grown (gr_set W1 (w.heap.size + 2) 2 _) (Nat.le_refl _)
          have hbx : wc.heap[w.heap.size + 2]? = some (.cells #[.int .i64 K, .int .i64 N, .slice pp (opP s).length pc] 24) := by
            rw [hwc]
            exact set_cell2 HBX1.out _
          have HBT : Hid (Bs wc (.slice pp (opP s).length pc) (opP s)) := by
            rw [hwc]
            exact HBT1.out.grownB (gr_set W1 (w.heap.size + 2) 2 _) (fun g o n c e => by have := HFR.out g o n c e; have := (Array.getElem?_eq_some_iff.1 HR.out.box).1; omega)
          clear hwc hap f0 f1 f2 ff d1 HO1 HBX1 HBT1 b0 b1 b2 bf r0 r1 r2 rf e4 c1
          obtain ⟨b0, b1, b2⟩ := box_of hbx
          have cS := rseal9 wc K N (.slice pp (opP s).length pc) (opP s) HBT.out HNl.out
          have HEs : Hid (sealB (opK s) (opN s) (opP s) = sealB K N (opP s)) := by
            show sealB (opK s) (opN s) (opP s) = _
            rw [HK.out, HNN.out]
          have HOk : Hid (okF (opK s) (opN s) (opP s) = okF K N (opP s)) := by
            show okF (opK s) (opN s) (opP s) = _
            rw [HK.out, HNN.out]
          have HLs := Lib.hid (len_sealB K N (opP s))
          unfold sealE at cS
          unfold frm at cS
          clear hBs hB2
          cases hok : okF K N (opP s) with
          | false =>
            rw [hok] at cS
            simp only [Bool.false_eq_true, if_false] at cS
            have hno : opOk s = false := by unfold opOk; rw [HOk.out]; simp [hok]
            have h1 : oK s = 0 := by unfold oK; rw [hno, if_neg (by decide)]
            have h2 : oN s = 0 := by unfold oN; rw [hno, if_neg (by decide)]
            have h3 : oP s = [] := by unfold oP; rw [hno, if_neg (by decide)]
            have h4 : oE s = 50 := by unfold oE; rw [hno, if_neg (by decide)]
            have HH := Lib.hid (And.intro h1 (And.intro h2 (And.intro h3 h4)))
            clear h1 h2 h3 h4 hno
            obtain ⟨Z, hZ⟩ : ∃ Z, sealB K N (opP s) = Z := ⟨_, rfl⟩
            rw [hZ] at cS HLs
            clear hZ HEs
            go_wp2_with (first
              | (go_at_call 9; refine cS.mono ?_; rintro e W2 ⟨rfl, hb2⟩)
              | (with_reducible show wpList _ _ _ (Oper.mk (some 6) (Op.alloc 26) _ _ _ _ :: _) _ _
                 refine wpList_alloc26 rfl rfl ?_; intro W3 hW3 zW3 sW3)
              | (with_reducible show wpList _ _ _ (Oper.mk _ (Op.store 26 (Operand.tmp 6) _) _ _ _ _ :: _) _ _
                 refine wpList_store26 rfl _ _ rfl W2.heap.size 0 Z rfl rfl sW3.th HLs.out ?_; intro w4 g4 r4 t4 z4
                 have hbw4 : Below wc.heap.size wc w4 := (bel_then hb2 hW3).grown g4 (by have := hb2.size; have := hW3.size; omega) (fun k e => by injection e with e; have := hb2.size; omega)
                 have O4 : Opn w w4 s := HO.out.on hbw4
                 obtain ⟨q0, q1, q2, e4⟩ := O4.res
                 obtain ⟨r0, r1, r2⟩ := box_of e4
                 have rf := box_fr e4
                 clear b0 b1 b2
                 obtain ⟨b0, b1, b2⟩ := box_of (blk_on hbw4 hbx)
                 have HBT4 := Lib.hid (HBT.out.on hbw4)
                 have HO4 := Lib.hid O4
                 have HR4 := Lib.hid r4
                 clear O4 t4 sW3 hbx g4 r4 hbw4 hW3 hb2))
            obtain ⟨h1, h2, h3, h4⟩ := HH.out
            rw [h1, h2, h3, h4]
            refine bodyPost_ret (v := .tuple #[.agg #[.int .i64 0, .int .i64 0, .slice none 0 0], .int .i64 50]) (results24 Tryd.results11 _ _ (w.heap.size + 1) _ _ _ rfl (blk_put3 e4 _ _ _)) rfl ⟨.slice none 0 0, rfl, bs_nil _, ?_⟩
            have := HO4.out.sz
            exact HO4.out.bel.grown (gr_put3 _ _ _ _ _) (by omega) (fun k e => by injection e with e; omega)
          | true =>
            rw [hok] at cS
            simp only [if_true] at cS
            obtain ⟨Z, hZ⟩ : ∃ Z, sealB K N (opP s) = Z := ⟨_, rfl⟩
            rw [hZ] at cS HLs HEs
            clear hZ
            have hi1 : (Tryd.prog.info? 26).map (·.size) = some (enc Z).length := by rw [size26, len_enc, HLs.out]
            have hi2 : (Tryd.prog.info? 26).map (·.size) = some (enc s).length := by rw [size26, len_enc, hs]
            have heq := fun w => eq26 Z s HLs.out hs w
            by_cases hzs : Z = s
            · have hok2 : opOk s = true := by
                unfold opOk; rw [HOk.out, HEs.out, hok]; simp [hzs, HLL.out]
              rw [decide_eq_true hzs] at heq
              have h1 : oK s = K := by unfold oK; rw [hok2, if_pos rfl]; exact HK.out
              have h2 : oN s = N := by unfold oN; rw [hok2, if_pos rfl]; exact HNN.out
              have h3 : oP s = opP s := by unfold oP; rw [hok2, if_pos rfl]
              have h4 : oE s = 0 := by unfold oE; rw [hok2, if_pos rfl]
              have HH := Lib.hid (And.intro h1 (And.intro h2 (And.intro h3 h4)))
              clear HEs HOk hok2 hzs h1 h2 h3 h4
              go_wp2_with (first
                | (go_at_call 9; refine cS.mono ?_; rintro e W2 ⟨rfl, hb2⟩)
                | (with_reducible show wpList _ _ _ (Oper.mk (some 6) (Op.alloc 26) _ _ _ _ :: _) _ _
                   refine wpList_alloc26 rfl rfl ?_; intro W3 hW3 zW3 sW3)
                | (with_reducible show wpList _ _ _ (Oper.mk _ (Op.store 26 (Operand.tmp 6) _) _ _ _ _ :: _) _ _
                   refine wpList_store26 rfl _ _ rfl W2.heap.size 0 Z rfl rfl sW3.th HLs.out ?_; intro w4 g4 r4 t4 z4
                   have hbw4 : Below wc.heap.size wc w4 := (bel_then hb2 hW3).grown g4 (by have := hb2.size; have := hW3.size; omega) (fun k e => by injection e with e; have := hb2.size; omega)
                   have O4 : Opn w w4 s := HO.out.on hbw4
                   obtain ⟨q0, q1, q2, e4⟩ := O4.res
                   obtain ⟨r0, r1, r2⟩ := box_of e4
                   have rf := box_fr e4
                   clear b0 b1 b2
                   obtain ⟨b0, b1, b2⟩ := box_of (blk_on hbw4 hbx)
                   have HBT4 := Lib.hid (HBT.out.on hbw4)
                   have HO4 := Lib.hid O4
                   have HR4 := Lib.hid r4
                   clear O4 t4 sW3 hbx g4 r4 hbw4 hW3 hb2)
                | (with_reducible show wpList _ _ _ (Oper.mk _ (Op.load 26 (Operand.tmp 6)) _ _ _ _ :: _) _ _
                   refine wpList_want (by kernel_rfl) fun KK hKK => wp_load_mid 26 _ rfl _ _ rfl _ _ HR4.out Tryd.underlying26 rfl hi1 (hKK _ _ ?_); clear hKK KK)
                | (with_reducible show wpList _ _ _ (Oper.mk _ (Op.load 26 (Operand.tmp 1)) _ _ _ _ :: _) _ _
                   refine wpList_want (by kernel_rfl) fun KK hKK => wp_load_mid 26 _ rfl _ _ rfl _ _ HO4.out.sec.at_ Tryd.underlying26 rfl hi2 (hKK _ _ ?_); clear hKK KK))
              obtain ⟨h1, h2, h3, h4⟩ := HH.out
              rw [h1, h2, h3, h4]
              refine bodyPost_ret (v := .tuple #[.agg #[.int .i64 K, .int .i64 N, .slice pp (opP s).length pc], .int .i64 0]) (results24 Tryd.results11 _ _ (w.heap.size + 1) _ _ _ rfl (blk_put3 e4 _ _ _)) rfl ⟨.slice pp (opP s).length pc, rfl, ?_, ?_⟩
              · have hz := HR.out.opn.sz
                exact HBT4.out.grownB (gr_put3 _ _ _ _ _) (fun g o n c e => by have := HFR.out g o n c e; omega)
              · have := HO4.out.sz
                exact HO4.out.bel.grown (gr_put3 _ _ _ _ _) (by omega) (fun k e => by injection e with e; omega)
            · have hno : opOk s = false := by
                unfold opOk; rw [HOk.out, HEs.out, hok]; simp [hzs]
              rw [decide_eq_false hzs] at heq
              have h1 : oK s = 0 := by unfold oK; rw [hno, if_neg (by decide)]
              have h2 : oN s = 0 := by unfold oN; rw [hno, if_neg (by decide)]
              have h3 : oP s = [] := by unfold oP; rw [hno, if_neg (by decide)]
              have h4 : oE s = 50 := by unfold oE; rw [hno, if_neg (by decide)]
              have HH := Lib.hid (And.intro h1 (And.intro h2 (And.intro h3 h4)))
              clear h1 h2 h3 h4 hno
              clear HEs HOk hzs
              go_wp2_with (first
                | (go_at_call 9; refine cS.mono ?_; rintro e W2 ⟨rfl, hb2⟩)
                | (with_reducible show wpList _ _ _ (Oper.mk (some 6) (Op.alloc 26) _ _ _ _ :: _) _ _
                   refine wpList_alloc26 rfl rfl ?_; intro W3 hW3 zW3 sW3)
                | (with_reducible show wpList _ _ _ (Oper.mk _ (Op.store 26 (Operand.tmp 6) _) _ _ _ _ :: _) _ _
                   refine wpList_store26 rfl _ _ rfl W2.heap.size 0 Z rfl rfl sW3.th HLs.out ?_; intro w4 g4 r4 t4 z4
                   have hbw4 : Below wc.heap.size wc w4 := (bel_then hb2 hW3).grown g4 (by have := hb2.size; have := hW3.size; omega) (fun k e => by injection e with e; have := hb2.size; omega)
                   have O4 : Opn w w4 s := HO.out.on hbw4
                   obtain ⟨q0, q1, q2, e4⟩ := O4.res
                   obtain ⟨r0, r1, r2⟩ := box_of e4
                   have rf := box_fr e4
                   clear b0 b1 b2
                   obtain ⟨b0, b1, b2⟩ := box_of (blk_on hbw4 hbx)
                   have HBT4 := Lib.hid (HBT.out.on hbw4)
                   have HO4 := Lib.hid O4
                   have HR4 := Lib.hid r4
                   clear O4 t4 sW3 hbx g4 r4 hbw4 hW3 hb2)
                | (with_reducible show wpList _ _ _ (Oper.mk _ (Op.load 26 (Operand.tmp 6)) _ _ _ _ :: _) _ _
                   refine wpList_want (by kernel_rfl) fun KK hKK => wp_load_mid 26 _ rfl _ _ rfl _ _ HR4.out Tryd.underlying26 rfl hi1 (hKK _ _ ?_); clear hKK KK)
                | (with_reducible show wpList _ _ _ (Oper.mk _ (Op.load 26 (Operand.tmp 1)) _ _ _ _ :: _) _ _
                   refine wpList_want (by kernel_rfl) fun KK hKK => wp_load_mid 26 _ rfl _ _ rfl _ _ HO4.out.sec.at_ Tryd.underlying26 rfl hi2 (hKK _ _ ?_); clear hKK KK))
              obtain ⟨h1, h2, h3, h4⟩ := HH.out
              rw [h1, h2, h3, h4]
              refine bodyPost_ret (v := .tuple #[.agg #[.int .i64 0, .int .i64 0, .slice none 0 0], .int .i64 50]) (results24 Tryd.results11 _ _ (w.heap.size + 1) _ _ _ rfl (blk_put3 e4 _ _ _)) rfl ⟨.slice none 0 0, rfl, bs_nil _, ?_⟩
              have := HO4.out.sz
              exact HO4.out.bel.grown (gr_put3 _ _ _ _ _) (by omega) (fun k e => by injection e with e; omega)
      · have hL' : (112 : Int) < ((s.getD 1 0).toNat : Int) := by rw [HL1.out] at hL; omega
        have hno : opOk s = false := by unfold opOk; rw [decide_eq_false hL, Bool.false_and]
        have h1 : oK s = 0 := by unfold oK; rw [hno, if_neg (by decide)]
        have h2 : oN s = 0 := by unfold oN; rw [hno, if_neg (by decide)]
        have h3 : oP s = [] := by unfold oP; rw [hno, if_neg (by decide)]
        have h4 : oE s = 50 := by unfold oE; rw [hno, if_neg (by decide)]
        have HH := Lib.hid (And.intro h1 (And.intro h2 (And.intro h3 h4)))
        generalize s.getD 1 0 = a1 at *
        clear h1 h2 h3 h4 hno hL
        go_wp2
        obtain ⟨h1, h2, h3, h4⟩ := HH.out
        rw [h1, h2, h3, h4]
        refine bodyPost_ret (v := .tuple #[.agg #[.int .i64 0, .int .i64 0, .slice none 0 0], .int .i64 50]) (results24 Tryd.results11 _ _ (w.heap.size + 1) _ _ _ rfl (blk_put3 e4 _ _ _)) rfl ⟨.slice none 0 0, rfl, bs_nil _, ?_⟩
        have := HR.out.opn.sz
        exact HR.out.opn.bel.grown (gr_put3 _ _ _ _ _) (by omega) (fun k e => by injection e with e; omega)
    | succ q =>
      have hi : i < 8 := by omega
      have hiz : (i : Int) < 8 := by omega
      have hiz0 : (0 : Int) ≤ (i : Int) := by omega
      obtain ⟨b0, b1, b2⟩ := box_of HR.out.box
      have bf := box_fr HR.out.box 1
      obtain ⟨cs, -⟩ := HR.out.opn.sec.cell (i := 2 + i) (by omega)
      obtain ⟨c, hcc⟩ : ∃ c : UInt8, s.getD (2 + i) 0 = c := ⟨_, rfl⟩
      rw [hcc] at cs
      have hc8 : c.toNat < 256 := UInt8.toNat_lt c
      have hT : be (((s.drop 2).take 8).take (i + 1)) = be (((s.drop 2).take 8).take i) * 256 + c.toNat := by
        rw [List.take_succ_eq_append_getElem (by omega), be_app]
        congr 2
        rw [← hcc]
        simp [show 2 + i < s.length by omega, List.getElem_take, List.getElem_drop]
      have hb : be (((s.drop 2).take 8).take i) < 256 ^ i := by
        have := be_lt (((s.drop 2).take 8).take i)
        rwa [List.length_take, hl8, show min i 8 = i by omega] at this
      have hb7 : be (((s.drop 2).take 8).take i) < 72057594037927936 := Nat.lt_of_lt_of_le hb (by
        have : 256 ^ i ≤ 256 ^ 7 := Nat.pow_le_pow_right (by decide) (by omega)
        omega)
      have HT := Lib.hid hT
      generalize be (((s.drop 2).take 8).take i) = u at *
      have e1 := sgn_shl (u := u) (by omega)
      have e2 := or_i64 (u := u) (c := c.toNat) (by omega) hc8 _ rfl
      have e3 : IntKind.i64.wrap (2 + (i : Int)) = 2 + (i : Int) := by
        have := wrap_small (x := 2 + i) (by omega)
        rw [show ((2 + i : Nat) : Int) = 2 + (i : Int) by omega] at this
        exact this
      have e4 : IntKind.i64.wrap (c.toNat : Int) = (c.toNat : Int) := wrap_small (by omega)
      have e5 : (2 + (i : Int)).toNat = 2 + i := by omega
      have e6 : (2 : Int) + (i : Int) < 128 := by omega
      have e7 : (0 : Int) ≤ 2 + (i : Int) := by omega
      have HS := Lib.hid (HR.out.drew.set1 (sgn (u * 256 + c.toNat)))
      clear hb hT hcc
      go_wp2
      go_region
      go_wp2
      go_roundg q
      case measure => omega
      case rel => exact ⟨i + 1, by omega, by simp, by rw [HT.out]; exact HS⟩
end Go.Proofs.YtafnelpcnfmhfaaDoor
