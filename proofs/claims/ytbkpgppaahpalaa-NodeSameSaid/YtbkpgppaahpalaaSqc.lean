/-
  The document's Same, of any two nodes.
-/
import Derived.Test.YtbkpgppaahpalaaSqb
import Derived.BigQuiet
namespace Go.Proofs.Ytbkpgppaahpalaa
open Go.RowKit
set_option linter.unusedVariables false      -- a walk need not use every condition

theorem nEq_no {x y : Nd} (h : x.leaf ≠ y.leaf ∨ x.cells.length ≠ y.cells.length ∨ x.keys.length ≠ y.keys.length ∨ x.kids.length ≠ y.kids.length) : nEq x y = false := by
  unfold nEq
  rcases h with h | h | h | h
  · simp [h]
  · simp [lEq_no_len h]
  · simp [lEq_no_len h]
  · simp [lEq_no_len h]
theorem nEq_cells {x y : Nd} {i : Nat} (hl : i < x.cells.length) (hm : i < y.cells.length) (h : cEq x.cells[i] y.cells[i] = false) : nEq x y = false := by
  unfold nEq; simp [lEq_no_at hl hm h]
theorem nEq_keys {x y : Nd} {i : Nat} (hl : i < x.keys.length) (hm : i < y.keys.length) (h : kEq x.keys[i] y.keys[i] = false) : nEq x y = false := by
  unfold nEq; simp [lEq_no_at hl hm h]
theorem nEq_kids {x y : Nd} {i : Nat} (hl : i < x.kids.length) (hm : i < y.kids.length) (h : iEq x.kids[i] y.kids[i] = false) : nEq x y = false := by
  unfold nEq; simp [lEq_no_at hl hm h]
theorem nEq_all {x y : Nd} (h0 : x.leaf = y.leaf) (h1 : lEq cEq x.cells y.cells = true) (h2 : lEq kEq x.keys y.keys = true) (h3 : lEq iEq x.kids y.kids = true) : nEq x y = true := by
  unfold nEq; simp [h0, h1, h2, h3]
theorem str_ne {t u : List UInt8} (h : ¬ t = u) : ¬ (⟨t.toArray⟩ : ByteArray).toList = (⟨u.toArray⟩ : ByteArray).toList := fun e => h (by
  have := arr_beq t u
  rw [e, beq_self_eq_true] at this
  exact beq_iff_eq.1 this.symm)
theorem cEq_split {x y : C} (h : cEq x y = false) : ¬ x.key = y.key ∨ (x.key = y.key ∧ (¬ x.val = y.val ∨ (x.val = y.val ∧ (¬ x.over = y.over ∨ (x.over = y.over ∧ ¬ x.len = y.len))))) := by
  unfold cEq at h
  by_cases h1 : x.key = y.key
  · by_cases h2 : x.val = y.val
    · by_cases h3 : x.over = y.over
      · by_cases h4 : x.len = y.len
        · simp [h1, h2, h3, h4] at h
        · exact .inr ⟨h1, .inr ⟨h2, .inr ⟨h3, h4⟩⟩⟩
      · exact .inr ⟨h1, .inr ⟨h2, .inl h3⟩⟩
    · exact .inr ⟨h1, .inl h2⟩
  · exact .inl h1
theorem cEq_eq {x y : C} (h : cEq x y = true) : x = y := by
  unfold cEq at h
  simp only [Bool.and_eq_true, decide_eq_true_eq, beq_iff_eq] at h
  obtain ⟨⟨⟨h1, h2⟩, h3⟩, h4⟩ := h
  obtain ⟨a, b, c, d⟩ := x
  obtain ⟨a', b', c', d'⟩ := y
  simp only at h1 h2 h3 h4
  rw [h1, h2, h3, h4]
set_option maxHeartbeats 16000000 in
set_option maxRecDepth 100000 in
theorem same20q (w : World) (a b : Value) (x y : Nd) (ha : NdS w a x) (hb : NdS w b y) :
    Calls Try.prog 20 #[a, b] w fun e w' => e = .returned (.bool (nEq x y)) ∧ Below w.heap.size w w' := by
  obtain ⟨vc, vk, vi, rfl, hC, hK, hI⟩ := ha
  obtain ⟨uc, uk, ui, rfl, hC', hK', hI'⟩ := hb
  have HC := Lib.hid hC
  have HK := Lib.hid hK
  have HI := Lib.hid hI
  have HC' := Lib.hid hC'
  have HK' := Lib.hid hK'
  have HI' := Lib.hid hI'
  obtain ⟨pc, cc, rfl, -, lc⟩ := hC.hdr
  obtain ⟨pk, ck, rfl, -, lk⟩ := hK.hdr
  obtain ⟨pi, ci, rfl, -, li⟩ := hI.hdr
  obtain ⟨qc, dc, rfl, -, lc'⟩ := hC'.hdr
  obtain ⟨qk, dk, rfl, -, lk'⟩ := hK'.hdr
  obtain ⟨qi, di, rfl, -, li'⟩ := hI'.hdr
  clear hC hK hI hC' hK' hI'
  obtain ⟨r, hr⟩ : ∃ r, nEq x y = r := ⟨_, rfl⟩
  rw [hr]
  have HR := Lib.hid hr
  clear hr
  obtain ⟨A, hA⟩ : ∃ A, A = Obj.cells #[.bool x.leaf, .slice pc x.cells.length cc, .slice pk x.keys.length ck, .slice pi x.kids.length ci] 26 := ⟨_, rfl⟩
  obtain ⟨B, hB⟩ : ∃ B, B = Obj.cells #[.bool y.leaf, .slice qc y.cells.length dc, .slice qk y.keys.length dk, .slice qi y.kids.length di] 26 := ⟨_, rfl⟩
  have HBa : Hid (((w.alloc A).alloc B).heap[w.heap.size]? = some A) := blk_on (bel1 _ _) (World.alloc_heap_new w A)
  have HBb : Hid (((w.alloc A).alloc B).heap[w.heap.size + 1]? = some B) := by
    have := World.alloc_heap_new (w.alloc A) B
    rwa [show (w.alloc A).heap.size = w.heap.size + 1 by simp] at this
  have HB0 : Hid (Below w.heap.size w ((w.alloc A).alloc B)) := bel_then (bel1 _ _) (bel1 _ _)
  rw [hA, hB] at HBa HBb HB0
  clear hA hB A B
  by_cases d0 : x.leaf = y.leaf
  case neg =>
    obtain rfl : r = false := HR.out.symm.trans (nEq_no (.inl d0))
    obtain ⟨lx, hlx⟩ : ∃ z, x.leaf = z := ⟨_, rfl⟩
    obtain ⟨ly, hly⟩ : ∃ z, y.leaf = z := ⟨_, rfl⟩
    rw [hlx, hly] at d0 HB0 HBa HBb ⊢
    clear hlx hly
    cases lx with
    | false =>
      cases ly with
      | false => exact absurd rfl d0
      | true =>
        clear d0
        go_enter Try.func20, Try.ntmps20
        go_wp2
        go_ret
        exact ⟨rfl, HB0.out⟩
    | true =>
      cases ly with
      | true => exact absurd rfl d0
      | false =>
        clear d0
        go_enter Try.func20, Try.ntmps20
        go_wp2
        go_ret
        exact ⟨rfl, HB0.out⟩
  have D0 := Lib.hid d0
  clear d0
  rw [← D0.out] at HBa HBb HB0 ⊢
  obtain ⟨lf, hlf⟩ : ∃ lf, x.leaf = lf := ⟨_, rfl⟩
  rw [hlf] at HBa HBb HB0 ⊢
  clear hlf
  by_cases d1 : x.cells.length = y.cells.length
  case neg =>
    obtain rfl : r = false := HR.out.symm.trans (nEq_no (.inr (.inl d1)))
    have d1' : ¬ (x.cells.length : Int) = (y.cells.length : Int) := by omega
    go_enter Try.func20, Try.ntmps20
    go_wp2
    go_ret
    exact ⟨rfl, HB0.out⟩
  have D1 := Lib.hid d1
  clear d1
  rw [← D1.out] at HBa HBb HB0 HC' ⊢
  by_cases d2 : x.keys.length = y.keys.length
  case neg =>
    obtain rfl : r = false := HR.out.symm.trans (nEq_no (.inr (.inr (.inl d2))))
    have d2' : ¬ (x.keys.length : Int) = (y.keys.length : Int) := by omega
    go_enter Try.func20, Try.ntmps20
    go_wp2
    go_ret
    exact ⟨rfl, HB0.out⟩
  have D2 := Lib.hid d2
  clear d2
  rw [← D2.out] at HBa HBb HB0 HK' ⊢
  by_cases d3 : x.kids.length = y.kids.length
  case neg =>
    obtain rfl : r = false := HR.out.symm.trans (nEq_no (.inr (.inr (.inr d3))))
    have d3' : ¬ (x.kids.length : Int) = (y.kids.length : Int) := by omega
    go_enter Try.func20, Try.ntmps20
    go_wp2
    go_ret
    exact ⟨rfl, HB0.out⟩
  have D3 := Lib.hid d3
  clear d3
  rw [← D3.out] at HBa HBb HB0 HI' ⊢
  clear lc' lk' li'
  generalize hN : x.cells.length = N at *
  have HN := Lib.hid hN
  clear hN
  generalize hM : x.keys.length = M at *
  have HM := Lib.hid hM
  clear hM
  generalize hP : x.kids.length = P at *
  have HP := Lib.hid hP
  clear hP
  go_enter Try.func20, Try.ntmps20
  go_wp2
  go_loopg [5] N (fun g s5 wr => ∃ (i : Nat), i + g = N ∧ s5 = .int .i64 i ∧ Hid (Below w.heap.size w wr) ∧ Hid (wr.heap[w.heap.size]? = some (Obj.cells #[.bool lf, .slice pc N cc, .slice pk M ck, .slice pi P ci] 26)) ∧ Hid (wr.heap[w.heap.size + 1]? = some (Obj.cells #[.bool lf, .slice qc N dc, .slice qk M dk, .slice qi P di] 26)) ∧ Hid (∀ j (hj : j < i) (h1 : j < x.cells.length) (h2 : j < y.cells.length), cEq x.cells[j] y.cells[j] = true))
  case atStart => exact ⟨0, by omega, rfl, HB0.out, HBa.out, HBb.out, fun j hj => absurd hj (Nat.not_lt_zero _)⟩
  case round =>
    obtain ⟨i, hig, rfl, hb, hba, hbb, hall⟩ := hrel
    obtain ⟨a0, a1, a2, a3⟩ := four_of hba.out
    obtain ⟨b0, b1, b2, b3⟩ := four_of hbb.out
    cases gk with
    | succ g =>
      have hi : i < x.cells.length := by have := HN.out; omega
      have hi2 : i < y.cells.length := by have := HN.out; have := D1.out; omega
      have hiz : (i : Int) < (N : Int) := by omega
      have hi0 : (0 : Int) ≤ (i : Int) := by omega
      obtain ⟨g0, o0, cap0, k, v, e, z0, z1, z2, z3, hBk, hBx, hIo, hIl⟩ := (HC.out.on hb.out).at hi
      obtain ⟨g1, o1', cap1, k', v', e', y0, y1, y2, y3, hBk', hBx', hIo', hIl'⟩ := (HC'.out.on hb.out).at hi2
      injection e with e1 e2 e3
      injection e' with e1' e2' e3'
      subst e1 e3 e1' e3'
      have HA := Lib.hid hba.out
      have HB := Lib.hid hbb.out
      have hno := nEq_cells (x := x) (y := y) hi hi2
      have hyes := fun (hq : cEq x.cells[i] y.cells[i] = true) => (show ∀ j (hj : j < i + 1) (h1 : j < x.cells.length) (h2 : j < y.cells.length), cEq x.cells[j] y.cells[j] = true from fun j hj h1 h2 => by
            by_cases h : j < i
            · exact hall.out j h h1 h2
            · obtain rfl : j = i := by omega
              exact hq)
      have HNO := Lib.hid hno
      have HYES := Lib.hid hyes
      clear hno hyes hall
      generalize x.cells[i] = c at *
      generalize y.cells[i] = d at *
      obtain ⟨kp, kc, ek, -⟩ := id hBk
      obtain ⟨xp, xc, ex, -⟩ := id hBx
      obtain ⟨kp', kc', ek', -⟩ := id hBk'
      obtain ⟨xp', xc', ex', -⟩ := id hBx'
      subst ek ex ek' ex'
      have sB : Below wr.heap.size wr ((wr.alloc (.cells #[.slice kp c.key.length kc, .slice xp c.val.length xc, .int .i64 c.over, .int .i64 c.len] 44)).alloc (.cells #[.slice kp' d.key.length kc', .slice xp' d.val.length xc', .int .i64 d.over, .int .i64 d.len] 44)) := bel_then (bel1 _ _) (bel1 _ _)
      have s1 := (hBk.on sB).str
      have s2 := (hBk'.on sB).str
      have s3 := (hBx.on sB).str
      have s4 := (hBx'.on sB).str
      have hz0 : w.heap.size < wr.heap.size := World.block_lt_of_cell? wr ⟨w.heap.size, 0, none⟩ a0
      have hz1 : w.heap.size + 1 < wr.heap.size := World.block_lt_of_cell? wr ⟨w.heap.size + 1, 0, none⟩ b0
      have hgz0 : g0 < wr.heap.size := World.block_lt_of_cell? wr ⟨g0, _, none⟩ z0
      have hgz1 : g1 < wr.heap.size := World.block_lt_of_cell? wr ⟨g1, _, none⟩ y0
      have hsp : (cEq c d = true ∧ (⟨c.key.toArray⟩ : ByteArray) = ⟨d.key.toArray⟩ ∧ (⟨c.val.toArray⟩ : ByteArray) = ⟨d.val.toArray⟩ ∧ c.over = d.over ∧ c.len = d.len) ∨ (cEq c d = false ∧ (¬ (⟨c.key.toArray⟩ : ByteArray).toList = (⟨d.key.toArray⟩ : ByteArray).toList ∨ ((⟨c.key.toArray⟩ : ByteArray) = ⟨d.key.toArray⟩ ∧ (¬ (⟨c.val.toArray⟩ : ByteArray).toList = (⟨d.val.toArray⟩ : ByteArray).toList ∨ ((⟨c.val.toArray⟩ : ByteArray) = ⟨d.val.toArray⟩ ∧ (¬ c.over = d.over ∨ (c.over = d.over ∧ ¬ c.len = d.len))))))) := by
        cases h : cEq c d with
        | true => rw [cEq_eq h]; exact .inl ⟨rfl, rfl, rfl, rfl, rfl⟩
        | false =>
          refine .inr ⟨rfl, ?_⟩
          rcases cEq_split h with h | ⟨h1, h | ⟨h2, h | ⟨h3, h4⟩⟩⟩
          · exact .inl (str_ne h)
          · exact .inr ⟨by rw [h1], .inl (str_ne h)⟩
          · exact .inr ⟨by rw [h1], .inr ⟨by rw [h2], .inl h⟩⟩
          · exact .inr ⟨by rw [h1], .inr ⟨by rw [h2], .inr ⟨h3, h4⟩⟩⟩
      generalize cEq c d = q at *
      generalize (⟨c.key.toArray⟩ : ByteArray) = S1 at *
      generalize (⟨c.val.toArray⟩ : ByteArray) = S2 at *
      generalize (⟨d.key.toArray⟩ : ByteArray) = T1 at *
      generalize (⟨d.val.toArray⟩ : ByteArray) = T2 at *
      generalize c.key.length = K1 at *
      generalize c.val.length = K2 at *
      generalize c.over = K3 at *
      generalize c.len = K4 at *
      generalize d.key.length = J1 at *
      generalize d.val.length = J2 at *
      generalize d.over = J3 at *
      generalize d.len = J4 at *
      have HsB := Lib.hid sB
      clear e2 e2' sB hBk hBx hBk' hBx' hba hbb hIo hIl hIo' hIl'
      rcases hsp with ⟨rfl, rfl, rfl, rfl, rfl⟩ | ⟨rfl, hsp⟩
      · have HALL := Lib.hid (HYES.out rfl)
        clear HNO HYES
        go_wp2
        go_roundg g
        case measure => omega
        case rel => exact ⟨i + 1, by omega, by first | rfl | simp, bel_then hb.out HsB.out, blk_on HsB.out HA.out, blk_on HsB.out HB.out, fun j hj h1 h2 => HALL.out j hj h1 h2⟩
      · obtain rfl : r = false := HR.out.symm.trans (HNO.out rfl)
        clear HNO HYES
        rcases hsp with hsp | ⟨rfl, hsp | ⟨rfl, hsp | ⟨rfl, hsp⟩⟩⟩
        · go_wp2
          go_ret
          exact ⟨rfl, bel_then hb.out HsB.out⟩
        · go_wp2
          go_ret
          exact ⟨rfl, bel_then hb.out HsB.out⟩
        · go_wp2
          go_ret
          exact ⟨rfl, bel_then hb.out HsB.out⟩
        · go_wp2
          go_ret
          exact ⟨rfl, bel_then hb.out HsB.out⟩
    | zero =>
      obtain rfl : i = N := by omega
      have HA := Lib.hid hba.out
      have HB := Lib.hid hbb.out
      have Hb := Lib.hid hb.out
      have HCS : Hid (lEq cEq x.cells y.cells = true) := lEq_true (HN.out.trans D1.out) (fun j h1 h2 => hall.out j (by have := HN.out; omega) h1 h2)
      clear hba hbb hb a0 b0 hall
      obtain ⟨wo, rfl⟩ : ∃ v, v = wr := ⟨_, rfl⟩
      go_wp2
      go_loopg [8] M (fun g s8 wr => ∃ (j : Nat), j + g = M ∧ s8 = .int .i64 j ∧ Hid (Below w.heap.size w wr) ∧ Hid (wr.heap[w.heap.size]? = some (Obj.cells #[.bool lf, .slice pc i cc, .slice pk M ck, .slice pi P ci] 26)) ∧ Hid (wr.heap[w.heap.size + 1]? = some (Obj.cells #[.bool lf, .slice qc i dc, .slice qk M dk, .slice qi P di] 26)) ∧ Hid (∀ t (ht : t < j) (h1 : t < x.keys.length) (h2 : t < y.keys.length), kEq x.keys[t] y.keys[t] = true))
      case atStart => exact ⟨0, by omega, rfl, Hb.out, HA.out, HB.out, fun j hj => absurd hj (Nat.not_lt_zero _)⟩
      case round =>
        clear a1 b1 a2 a3 b2 b3
        obtain ⟨j, hjg, rfl, hb, hba, hbb, hall⟩ := hrel
        obtain ⟨a0, a1, a2, a3⟩ := four_of hba.out
        obtain ⟨b0, b1, b2, b3⟩ := four_of hbb.out
        cases gk with
        | succ g =>
          have hj : j < x.keys.length := by have := HM.out; omega
          have hj2 : j < y.keys.length := by have := HM.out; have := D2.out; omega
          have hjz : (j : Int) < (M : Int) := by omega
          have hj0 : (0 : Int) ≤ (j : Int) := by omega
          obtain ⟨g0, o0, cap0, k, e, z0, hBk⟩ := (HK.out.on hb.out).at hj
          obtain ⟨g1, o1', cap1, k', e', y0, hBk'⟩ := (HK'.out.on hb.out).at hj2
          injection e with e1 e2 e3
          injection e' with e1' e2' e3'
          subst e1 e3 e1' e3'
          have hno := nEq_keys (x := x) (y := y) hj hj2
          have hyes := fun (hq : kEq x.keys[j] y.keys[j] = true) => (show ∀ t (ht : t < j + 1) (h1 : t < x.keys.length) (h2 : t < y.keys.length), kEq x.keys[t] y.keys[t] = true from fun t ht h1 h2 => by
            by_cases h : t < j
            · exact hall.out t h h1 h2
            · obtain rfl : t = j := by omega
              exact hq)
          have HNO := Lib.hid hno
          have HYES := Lib.hid hyes
          clear hno hyes hall
          generalize x.keys[j] = c at *
          generalize y.keys[j] = d at *
          obtain ⟨kp, kc, ek, -⟩ := id hBk
          obtain ⟨kp', kc', ek', -⟩ := id hBk'
          subst ek ek'
          have s1 := (hBk.on (Below.refl _ wr).drew).str
          have s2 := (hBk'.on (Below.refl _ wr).drew).str
          have hsp : (kEq c d = true ∧ (⟨c.toArray⟩ : ByteArray) = ⟨d.toArray⟩) ∨ (kEq c d = false ∧ ¬ (⟨c.toArray⟩ : ByteArray).toList = (⟨d.toArray⟩ : ByteArray).toList) := by
            unfold kEq
            by_cases h : c = d
            · subst h; exact .inl ⟨by simp, rfl⟩
            · exact .inr ⟨by simp [h], str_ne h⟩
          have hsq : kEq c d = false → ((⟨c.toArray⟩ : ByteArray).toList == (⟨d.toArray⟩ : ByteArray).toList) = false := fun h => by rw [arr_beq]; exact h
          generalize kEq c d = q at *
          generalize (⟨c.toArray⟩ : ByteArray) = S1 at *
          generalize (⟨d.toArray⟩ : ByteArray) = T1 at *
          generalize c.length = K1 at *
          generalize d.length = J1 at *
          have HA2 := Lib.hid hba.out
          have HB2 := Lib.hid hbb.out
          clear e2 e2' hBk hBk' hba hbb HA HB Hb
          rcases hsp with ⟨rfl, rfl⟩ | ⟨rfl, hsp⟩
          · have HALL := Lib.hid (HYES.out rfl)
            clear HNO HYES hsq
            go_wp2
            go_region_with (fail)
            all_goals
              go_wp2
              go_roundg g
              case measure => omega
              case rel => exact ⟨j + 1, by omega, by first | rfl | simp, hb.out.drew, HA2.out, HB2.out, fun t ht h1 h2 => HALL.out t ht h1 h2⟩
          · obtain rfl : r = false := HR.out.symm.trans (HNO.out rfl)
            replace hsq := hsq rfl
            clear HNO HYES
            go_wp2
            go_region_with (fail)
            all_goals
              go_wp2
              go_ret
              exact ⟨rfl, hb.out.drew⟩
        | zero =>
          obtain rfl : j = M := by omega
          have HA2 := Lib.hid hba.out
          have HB2 := Lib.hid hbb.out
          have Hb2 := Lib.hid hb.out
          have HKS : Hid (lEq kEq x.keys y.keys = true) := lEq_true (HM.out.trans D2.out) (fun t h1 h2 => hall.out t (by have := HM.out; omega) h1 h2)
          clear hba hbb hb a0 a1 b0 b1 HA HB Hb hall
          obtain ⟨wo2, rfl⟩ : ∃ v, v = wr := ⟨_, rfl⟩
          go_wp2
          go_loopg [9] P (fun g s9 wr => ∃ (m : Nat), m + g = P ∧ s9 = .int .i64 m ∧ Hid (Below w.heap.size w wr) ∧ Hid (wr.heap[w.heap.size]? = some (Obj.cells #[.bool lf, .slice pc i cc, .slice pk j ck, .slice pi P ci] 26)) ∧ Hid (wr.heap[w.heap.size + 1]? = some (Obj.cells #[.bool lf, .slice qc i dc, .slice qk j dk, .slice qi P di] 26)) ∧ Hid (∀ t (ht : t < m) (h1 : t < x.kids.length) (h2 : t < y.kids.length), iEq x.kids[t] y.kids[t] = true))
          case atStart => exact ⟨0, by omega, rfl, Hb2.out, HA2.out, HB2.out, fun j hj => absurd hj (Nat.not_lt_zero _)⟩
          case round =>
            clear a2 b2 a3 b3
            obtain ⟨m, hmg, rfl, hb, hba, hbb, hall⟩ := hrel
            obtain ⟨a0, a1, a2, a3⟩ := four_of hba.out
            obtain ⟨b0, b1, b2, b3⟩ := four_of hbb.out
            cases gk with
            | succ g =>
              have hm : m < x.kids.length := by have := HP.out; omega
              have hm2 : m < y.kids.length := by have := HP.out; have := D3.out; omega
              have hmz : (m : Int) < (P : Int) := by omega
              have hm0 : (0 : Int) ≤ (m : Int) := by omega
              obtain ⟨g0, o0, cap0, e, z0, -⟩ := (HI.out.on hb.out).at hm
              obtain ⟨g1, o1', cap1, e', y0, -⟩ := (HI'.out.on hb.out).at hm2
              injection e with e1 e2 e3
              injection e' with e1' e2' e3'
              subst e1 e3 e1' e3'
              have hno := nEq_kids (x := x) (y := y) hm hm2
              have hyes := fun (hq : iEq x.kids[m] y.kids[m] = true) => (show ∀ t (ht : t < m + 1) (h1 : t < x.kids.length) (h2 : t < y.kids.length), iEq x.kids[t] y.kids[t] = true from fun t ht h1 h2 => by
                by_cases h : t < m
                · exact hall.out t h h1 h2
                · obtain rfl : t = m := by omega
                  exact hq)
              have HNO := Lib.hid hno
              have HYES := Lib.hid hyes
              clear hno hyes hall
              generalize x.kids[m] = c at *
              generalize y.kids[m] = d at *
              have HA3 := Lib.hid hba.out
              have HB3 := Lib.hid hbb.out
              clear e2 e2' hba hbb HA2 HB2 Hb2
              by_cases hcd : c = d
              · have HALL := Lib.hid (HYES.out (by simp [iEq, hcd]))
                subst hcd
                clear HNO HYES
                go_wp2
                go_region_with (fail)
                all_goals
                 go_wp2
                 go_roundg g
                 case measure => omega
                 case rel => exact ⟨m + 1, by omega, by first | rfl | simp, hb.out.drew, HA3.out, HB3.out, fun t ht h1 h2 => HALL.out t ht h1 h2⟩
              · obtain rfl : r = false := HR.out.symm.trans (HNO.out (by simp [iEq, hcd]))
                clear HNO HYES
                go_wp2
                go_region_with (fail)
                all_goals
                 go_wp2
                 go_ret
                 exact ⟨rfl, hb.out.drew⟩
            | zero =>
              obtain rfl : m = P := by omega
              obtain rfl : r = true := HR.out.symm.trans (nEq_all D0.out HCS.out HKS.out (lEq_true (HP.out.trans D3.out) (fun t h1 h2 => hall.out t (by have := HP.out; omega) h1 h2)))
              clear hall
              go_wp2
              go_ret
              exact ⟨rfl, hb.out⟩
end Go.Proofs.Ytbkpgppaahpalaa
