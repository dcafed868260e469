/-
  Same of package node, of any two nodes.
-/
import Derived.Test.YtbkpgppaahpalaaSqa
namespace Go.Proofs.Ytbkpgppaahpalaa
open Go.RowKit
set_option linter.unusedVariables false      -- a walk need not use every condition

set_option maxHeartbeats 4000000 in
set_option maxRecDepth 100000 in
theorem eqf56 (w : World) (v u : Value) (L M : List C) (hv : Cs w v L) (hu : Cs w u M) :
    Calls Try.prog 56 #[v, u, .func (.func 57) #[] #[]] w fun e w' => e = .returned (.bool (lEq cEq L M)) ∧ Below w.heap.size w w' := by
  have c57 := sameCell57
  have HV := Lib.hid hv
  have HU := Lib.hid hu
  obtain ⟨p, cp, rfl, -, lp⟩ := hv.hdr
  obtain ⟨q, cq, rfl, -, lq⟩ := hu.hdr
  clear hv hu
  obtain ⟨r, hr⟩ : ∃ r, lEq cEq L M = r := ⟨_, rfl⟩
  rw [hr]
  have HR := Lib.hid hr
  clear hr
  by_cases hlen : L.length = M.length
  case neg =>
    have hr := HR.out
    rw [lEq_no_len hlen] at hr
    subst hr
    have hz : ¬ (L.length : Int) = (M.length : Int) := by omega
    go_enter Try.func56, Try.ntmps56
    go_wp2
    go_ret
    exact ⟨rfl, Below.refl _ _⟩
  case pos =>
    have HL := Lib.hid hlen
    rw [← hlen] at HU ⊢
    obtain ⟨N, hN⟩ : ∃ N, L.length = N := ⟨_, rfl⟩
    rw [hN] at HV HU lp ⊢
    have HN := Lib.hid hN
    clear hlen hN lq
    go_enter Try.func56, Try.ntmps56
    go_wp2
    go_loopg [17] N (fun g s17 wr => ∃ i : Nat, i + g = N ∧ s17 = .int .i64 i ∧ Hid (Below w.heap.size w wr) ∧ Hid (∀ j (hj : j < i) (h1 : j < L.length) (h2 : j < M.length), cEq L[j] M[j] = true))
    case atStart => exact ⟨0, by omega, rfl, Below.refl _ _, fun j hj => absurd hj (Nat.not_lt_zero _)⟩
    case round =>
      obtain ⟨i, hig, rfl, hb, hall⟩ := hrel
      cases gk with
      | zero =>
        obtain rfl : i = N := by omega
        have hr : r = true := HR.out.symm.trans (lEq_true HL.out (fun j h1 h2 => hall.out j (by have := HN.out; omega) h1 h2))
        subst hr
        clear hall
        go_wp2
        go_ret
        exact ⟨rfl, hb.out⟩
      | succ g =>
        have hi : i < L.length := by have := HN.out; omega
        have hi2 : i < M.length := by have := HN.out; have := HL.out; omega
        have hiz : (i : Int) < (N : Int) := by omega
        have hi0 : (0 : Int) ≤ (i : Int) := by omega
        obtain ⟨b, o, c0, k, x, e, z0, z1, z2, z3, hk, hx, hio, hil⟩ := (HV.out.on hb.out).at hi
        obtain ⟨b', o', c0', k', x', e', y0, y1, y2, y3, hk', hx', hio', hil'⟩ := (HU.out.on hb.out).at hi2
        injection e with e1 e2 e3
        injection e' with e1' e2' e3'
        subst e1 e3 e1' e3'
        have hq := lEq_no_at (f := cEq) hi hi2
        have hall' := fun (hq : cEq L[i] M[i] = true) => (show ∀ j (hj : j < i + 1) (h1 : j < L.length) (h2 : j < M.length), cEq L[j] M[j] = true from fun j hj h1 h2 => by
            by_cases h : j < i
            · exact hall.out j h h1 h2
            · obtain rfl : j = i := by omega
              exact hq)
        have HQ := Lib.hid hq
        replace hall' := Lib.hid hall'
        clear hall e2 e2' hq
        have HX : Hid (CeS wr (.agg #[k, x, .int .i64 L[i].over, .int .i64 L[i].len]) L[i]) := ⟨k, x, rfl, hk, hx, hio, hil⟩
        have HY : Hid (CeS wr (.agg #[k', x', .int .i64 M[i].over, .int .i64 M[i].len]) M[i]) := ⟨k', x', rfl, hk', hx', hio', hil'⟩
        obtain ⟨kp, kc, rfl, -⟩ := hk
        obtain ⟨xp, xc, rfl, -⟩ := hx
        obtain ⟨kp', kc', rfl, -⟩ := hk'
        obtain ⟨xp', xc', rfl, -⟩ := hx'
        have sB : Below wr.heap.size wr ((wr.alloc (.cells #[.slice kp L[i].key.length kc, .slice xp L[i].val.length xc, .int .i64 L[i].over, .int .i64 L[i].len] 44)).alloc (.cells #[.slice kp' M[i].key.length kc', .slice xp' M[i].val.length xc', .int .i64 M[i].over, .int .i64 M[i].len] 44)) := bel_then (bel1 _ _) (bel1 _ _)
        have hgz0 : b < wr.heap.size := World.block_lt_of_cell? wr ⟨b, _, none⟩ z0
        have hgz1 : b' < wr.heap.size := World.block_lt_of_cell? wr ⟨b', _, none⟩ y0
        generalize L[i] = X at *
        generalize M[i] = Y at *
        have c1 := fun u (hu : Below wr.heap.size wr u) => c57 u _ _ X Y (CeS.on HX.out hu) (CeS.on HY.out hu)
        obtain ⟨qq, hqq⟩ : ∃ q, cEq X Y = q := ⟨_, rfl⟩
        rw [hqq] at c1 HQ hall'
        have HB := Lib.hid sB
        generalize X.key.length = K1 at *
        generalize X.val.length = K2 at *
        generalize X.over = K3 at *
        generalize X.len = K4 at *
        generalize Y.key.length = J1 at *
        generalize Y.val.length = J2 at *
        generalize Y.over = J3 at *
        generalize Y.len = J4 at *
        have C1 := Lib.hid c1
        clear sB hio hil hio' hil' c1 HX HY c57
        cases qq with
        | true =>
          have HA := Lib.hid (hall'.out rfl)
          clear HQ hall'
          go_wp2_with (go_at_call 57; refine (C1.out _ HB.out).mono ?_; rintro e w1 ⟨rfl, hb1⟩)
          go_roundg g
          case measure => omega
          case rel => exact ⟨i + 1, by omega, by first | rfl | simp, bel_then (bel_then hb.out HB.out) hb1, fun j hj h1 h2 => HA.out j hj h1 h2⟩
        | false =>
          have hr : r = false := HR.out.symm.trans (HQ.out rfl)
          subst hr
          clear HQ hall'
          go_wp2_with (go_at_call 57; refine (C1.out _ HB.out).mono ?_; rintro e w1 ⟨rfl, hb1⟩)
          go_ret
          exact ⟨rfl, bel_then (bel_then hb.out HB.out) hb1⟩
set_option maxHeartbeats 4000000 in
set_option maxRecDepth 100000 in
theorem same25 (w : World) (a b : Value) (x y : Nd) (ha : NdS w a x) (hb : NdS w b y) :
    Calls Try.prog 25 #[a, b] w fun e w' => e = .returned (.bool (nEq x y)) ∧ Below w.heap.size w w' := by
  have c56 := eqf56
  have c58 := eqf58
  have c59 := equal59
  obtain ⟨vc, vk, vi, rfl, hC, hK, hI⟩ := ha
  obtain ⟨uc, uk, ui, rfl, hC', hK', hI'⟩ := hb
  have HC := Lib.hid hC
  have HK := Lib.hid hK
  have HI := Lib.hid hI
  have HC' := Lib.hid hC'
  have HK' := Lib.hid hK'
  have HI' := Lib.hid hI'
  obtain ⟨pc, cc, rfl, -, lc⟩ := hC.hdr
  obtain ⟨pk, ck, rfl, -, lk⟩ := hK.hdr
  obtain ⟨pi, ci, rfl, -, li⟩ := hI.hdr
  obtain ⟨qc, dc, rfl, -, -⟩ := hC'.hdr
  obtain ⟨qk, dk, rfl, -, -⟩ := hK'.hdr
  obtain ⟨qi, di, rfl, -, -⟩ := hI'.hdr
  clear hC hK hI hC' hK' hI'
  obtain ⟨A, hA⟩ : ∃ A, A = Obj.cells #[.bool x.leaf, .slice pc x.cells.length cc, .slice pk x.keys.length ck, .slice pi x.kids.length ci] 26 := ⟨_, rfl⟩
  obtain ⟨B, hB⟩ : ∃ B, B = Obj.cells #[.bool y.leaf, .slice qc y.cells.length dc, .slice qk y.keys.length dk, .slice qi y.kids.length di] 26 := ⟨_, rfl⟩
  have HBa : Hid (((w.alloc A).alloc B).heap[w.heap.size]? = some A) := blk_on (bel1 _ _) (World.alloc_heap_new w A)
  have HBb : Hid (((w.alloc A).alloc B).heap[w.heap.size + 1]? = some B) := by
    have := World.alloc_heap_new (w.alloc A) B
    rwa [show (w.alloc A).heap.size = w.heap.size + 1 by simp] at this
  have HB0 : Hid (Below w.heap.size w ((w.alloc A).alloc B)) := bel_then (bel1 _ _) (bel1 _ _)
  have e1 := fun u (hu : Below w.heap.size w u) => c56 u _ _ _ _ (HC.out.on hu) (HC'.out.on hu)
  have e2 := fun u (hu : Below w.heap.size w u) => c58 u _ _ _ _ (HK.out.on hu) (HK'.out.on hu)
  have e3 := fun u (hu : Below w.heap.size w u) => c59 u _ _ _ _ (HI.out.on hu) (HI'.out.on hu)
  rw [hA, hB] at HBa HBb HB0
  unfold nEq
  obtain ⟨x1, x2, x3, x4⟩ := x
  obtain ⟨y1, y2, y3, y4⟩ := y
  simp only at *
  generalize lEq cEq x2 y2 = b2 at *
  generalize lEq kEq x3 y3 = b3 at *
  generalize lEq iEq x4 y4 = b4 at *
  generalize x2.length = n2 at *
  generalize x3.length = n3 at *
  generalize x4.length = n4 at *
  generalize y2.length = m2 at *
  generalize y3.length = m3 at *
  generalize y4.length = m4 at *
  have E1 := Lib.hid e1
  have E2 := Lib.hid e2
  have E3 := Lib.hid e3
  clear hA hB A B e1 e2 e3 c56 c58 c59 HC HK HI HC' HK' HI'
  go_enter Try.func25, Try.ntmps25
  cases hl : x1 == y1 with
  | false =>
    have hl' : ¬ x1 = y1 := by simpa using hl
    go_wp2
    go_ret
    exact ⟨by simp, HB0.out⟩
  | true =>
    obtain rfl : x1 = y1 := by simpa using hl
    go_wp2_with (fail)
    refine (E1.out _ HB0.out).mono ?_
    rintro e w1 ⟨rfl, hb1⟩
    have HB1 := Lib.hid (bel_then HB0.out hb1)
    obtain ⟨a0, a1, a2, a3⟩ := four_of (blk_on hb1 HBa.out)
    obtain ⟨c0, c1, c2, c3⟩ := four_of (blk_on hb1 HBb.out)
    have HA1 := Lib.hid (blk_on hb1 HBa.out)
    have HA2 := Lib.hid (blk_on hb1 HBb.out)
    clear hb1
    cases b2 with
    | false =>
      go_wp2
      go_ret
      exact ⟨by simp, HB1.out⟩
    | true =>
      go_wp2_with (fail)
      refine (E2.out _ HB1.out).mono ?_
      rintro e w2 ⟨rfl, hb2⟩
      have HB2 := Lib.hid (bel_then HB1.out hb2)
      obtain ⟨a0, a1, a2, a3⟩ := four_of (blk_on hb2 HA1.out)
      obtain ⟨c0, c1, c2, c3⟩ := four_of (blk_on hb2 HA2.out)
      clear hb2
      cases b3 with
      | false =>
        go_wp2
        go_ret
        exact ⟨by simp, HB2.out⟩
      | true =>
        go_wp2_with (fail)
        refine (E3.out _ HB2.out).mono ?_
        rintro e w3 ⟨rfl, hb3⟩
        have HB3 := Lib.hid (bel_then HB2.out hb3)
        clear hb3
        go_wp2
        go_ret
        exact ⟨by simp, HB3.out⟩
end Go.Proofs.Ytbkpgppaahpalaa
