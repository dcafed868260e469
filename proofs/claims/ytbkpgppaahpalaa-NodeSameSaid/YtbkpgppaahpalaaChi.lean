/-
  Which nodes may be: inner nodes; Check.
-/
import Derived.Test.YtbkpgppaahpalaaChl
namespace Go.Proofs.Ytbkpgppaahpalaa
open Go.RowKit
set_option linter.unusedVariables false      -- a walk need not use every condition

theorem kidBad81 (w : World) (x : Int) : Calls Try.prog 81 #[.int .i64 x] w fun e w' => e = .returned (.bool (!pageOk x)) ∧ w' = w := by
  have c82 := pageMay82 w x
  generalize pageOk x = b at *
  go_enter Try.func81, Try.ntmps81
  go_wp2_with (go_at_call 82; refine c82.mono ?_; rintro e w' ⟨rfl, rfl⟩)
  go_ret
  exact ⟨rfl, rfl⟩
set_option maxHeartbeats 2000000 in
set_option maxRecDepth 100000 in
theorem index94 (w : World) (v : Value) (L : List Int) (h : Is w v L) :
    Calls Try.prog 94 #[v, .func (.func 81) #[] #[]] w fun e w' => ∃ r : Int, e = .returned (.int .i64 r) ∧ decide (0 ≤ r) = !L.all pageOk ∧ w' = w := by
  have H := Lib.hid h
  obtain ⟨p, c, rfl, -, l⟩ := h.hdr
  have c81 := kidBad81
  obtain ⟨Res, hRes⟩ : ∃ R, L.all pageOk = R := ⟨_, rfl⟩
  rw [hRes]
  have HR := Lib.hid hRes
  clear hRes h
  generalize hN : L.length = N at *
  have HN := Lib.hid hN
  clear hN
  go_enter Try.func94, Try.ntmps94
  go_wp2
  go_loopg [8] N (fun g s8 wr => ∃ (i : Nat), i + g = N ∧ s8 = .int .i64 i ∧ Hid ((L.drop i).all pageOk = Res) ∧ wr = w)
  case atStart => exact ⟨0, by omega, rfl, HR.out, rfl⟩
  case round =>
    obtain ⟨i, hig, rfl, hm, rfl⟩ := hrel
    cases gk with
    | zero =>
      obtain rfl : i = N := by omega
      have hr : Hid (true = Res) := by have := hm.out; rw [← HN.out, List.drop_length] at this; exact this
      go_wp2
      go_ret
      exact ⟨_, rfl, by rw [← hr.out]; rfl, rfl⟩
    | succ g =>
      have hi : i < L.length := by have := HN.out; omega
      have hiz : (i : Int) < (N : Int) := by omega
      have hi0 : (0 : Int) ≤ (i : Int) := by omega
      obtain ⟨g0, o0, cap0, e, q0, hI⟩ := H.out.at hi
      injection e with e1 e2 e3
      subst e1 e3
      have hm' : Hid ((pageOk L[i] && (L.drop (i + 1)).all pageOk) = Res) := by have := hm.out; rw [List.drop_eq_getElem_cons hi] at this; exact this
      generalize L[i] = x at *
      have d81 := c81 wr x
      generalize pageOk x = b at *
      clear e2 hm
      cases b with
      | false =>
        have hr : Hid (false = Res) := hm'.out
        go_wp2_with (go_at_call 81; refine d81.mono ?_; rintro e w' ⟨rfl, ew⟩; rw [ew]; clear ew w')
        go_ret
        exact ⟨_, rfl, by rw [← hr.out]; simp, rfl⟩
      | true =>
        go_wp2_with (go_at_call 81; refine d81.mono ?_; rintro e w' ⟨rfl, ew⟩; rw [ew]; clear ew w')
        go_roundg g
        case measure => omega
        case rel => exact ⟨i + 1, by omega, by first | rfl | simp, hm'.out, rfl⟩
set_option maxHeartbeats 1000000 in
theorem contains80 (w : World) (v : Value) (L : List Int) (h : Is w v L) :
    Calls Try.prog 80 #[v, .func (.func 81) #[] #[]] w fun e w' => e = .returned (.bool (!L.all pageOk)) ∧ w' = w := by
  have c94 := index94 w v L h
  obtain ⟨p, c, rfl, -, l⟩ := h.hdr
  generalize (!L.all pageOk) = b at *
  go_enter Try.func80, Try.ntmps80
  go_wp2_with (go_at_call 94; refine c94.mono ?_; rintro e w' ⟨r, rfl, hr, rfl⟩)
  go_ret
  exact ⟨by rw [← hr]; rfl, rfl⟩
set_option maxHeartbeats 4000000 in
set_option maxRecDepth 100000 in
theorem innerMay40 (w : World) (v : Value) (n : Nd) (h : NdS w v n) :
    Calls Try.prog 40 #[v] w fun e w' => e = .returned (.bool (innerOk n)) ∧ Below w.heap.size w w' := by
  obtain ⟨vc, vk, vi, rfl, hC, hK, hI⟩ := h
  obtain ⟨pc, cc, rfl, -, lc⟩ := hC.hdr
  have HK := Lib.hid hK
  have HI := Lib.hid hI
  obtain ⟨pk, ck, rfl, -, lk⟩ := hK.hdr
  obtain ⟨pi, ci, rfl, -, li⟩ := hI.hdr
  clear hC hK hI
  unfold innerOk
  rw [empty_len]
  by_cases hc : n.cells.length = 0
  · have hc0 : (n.cells.length : Int) = 0 := by omega
    by_cases hi : n.kids.length = n.keys.length + 1
    · rw [decide_eq_true hc, decide_eq_true hi, Bool.true_and, Bool.true_and]
      obtain ⟨Res, hRes⟩ : ∃ R, mayK [] n.keys = R := ⟨_, rfl⟩
      rw [hRes]
      have HR := Lib.hid hRes
      have c80 := fun (u : World) (hu : Below w.heap.size w u) => contains80 u _ _ (HI.out.on hu)
      generalize n.kids.all pageOk = A at *
      generalize hM : n.kids.length = M at *
      clear hRes HI hM
      generalize hN : n.keys.length = N at *
      have HN := Lib.hid hN
      clear hN hc
      have hwN : IntKind.i64.wrap ((N : Int) + 1) = (N : Int) + 1 := by rw [IntKind.wrap_i64]; omega
      have hMz : (M : Int) = (N : Int) + 1 := by omega
      clear hi
      have c78 := follows78
      go_enter Try.func40, Try.ntmps40
      go_wp2
      go_loopg [3, 23] N (fun g s3 s23 wr => ∃ (i : Nat) (last : List UInt8), i + g = N ∧ s23 = .int .i64 i ∧ Hid (Bs wr s3 last) ∧ Hid (mayK last (n.keys.drop i) = Res) ∧ wr = w.alloc (.cells #[.bool n.leaf, .slice pc n.cells.length cc, .slice pk N ck, .slice pi M ci] 26))
      case atStart => exact ⟨0, [], by omega, rfl, bs_nil _, HR.out, rfl⟩
      case round =>
        obtain ⟨i, last, hig, rfl, hl, hm, rfl⟩ := hrel
        cases gk with
        | zero =>
          obtain rfl : i = N := by omega
          have hr : Hid (true = Res) := by have := hm.out; rw [← HN.out, List.drop_length] at this; exact this
          go_wp2_with (go_at_call 80; refine (c80 _ (bel1 _ _)).mono ?_; rintro e w' ⟨rfl, rfl⟩)
          go_ret
          exact ⟨by rw [← hr.out]; simp, bel1 _ _⟩
        | succ g =>
          have hi : i < n.keys.length := by have := HN.out; omega
          have hiz : (i : Int) < (N : Int) := by omega
          have hi0 : (0 : Int) ≤ (i : Int) := by omega
          obtain ⟨g0, o0, cap0, k, e, q0, hBk⟩ := (HK.out.on (bel1 w (.cells #[.bool n.leaf, .slice pc n.cells.length cc, .slice pk N ck, .slice pi M ci] 26))).at hi
          injection e with e1 e2 e3
          subst e1 e3
          have hm' : Hid ((fol last n.keys[i] && mayK n.keys[i] (n.keys.drop (i + 1))) = Res) := by have := hm.out; rw [List.drop_eq_getElem_cons hi] at this; exact this
          clear hm
          generalize n.keys[i] = c at *
          have d78 := c78 _ _ _ _ _ hl.out hBk
          have HB := Lib.hid hBk
          obtain ⟨kp, kc, rfl, -⟩ := hBk
          obtain ⟨lp, lc', rfl, -⟩ := hl.out
          generalize hf : fol last c = F at *
          clear hf e2
          cases F with
          | false =>
            have hr : Hid (false = Res) := by have := hm'.out; exact this
            go_wp2_with (go_at_call 78; refine d78.mono ?_; rintro e w' ⟨rfl, ew⟩; rw [ew]; clear ew w')
            go_ret
            exact ⟨by rw [← hr.out]; rfl, bel1 _ _⟩
          | true =>
            go_wp2_with (go_at_call 78; refine d78.mono ?_; rintro e w' ⟨rfl, ew⟩; rw [ew]; clear ew w')
            go_roundg g
            case measure => omega
            case rel => exact ⟨i + 1, c, by omega, by first | rfl | simp, HB, hm'.out, rfl⟩
    · have hwN : ((n.kids.length : Int) != wrap64 ((n.keys.length : Int) + 1)) = true := by unfold wrap64; simp; omega
      rw [decide_eq_false hi, Bool.and_false, Bool.false_and, Bool.false_and]
      go_enter Try.func40, Try.ntmps40
      go_wp2
      go_ret
      exact ⟨rfl, bel1 _ _⟩
  · have hk0 : (0 : Int) < (n.cells.length : Int) := by omega
    rw [decide_eq_false hc, Bool.false_and, Bool.false_and, Bool.false_and]
    go_enter Try.func40, Try.ntmps40
    go_wp2
    go_ret
    exact ⟨rfl, bel1 _ _⟩
/-- OK, or ErrNode. -/
def chkE (b : Bool) : Int := if b then 0 else 80
set_option maxHeartbeats 2000000 in
theorem check13 (w : World) (v : Value) (n : Nd) (h : NdS w v n) :
    Calls Try.prog 13 #[v] w fun e w' => e = .returned (.int .i64 (chkE (may n))) ∧ Below w.heap.size w w' := by
  have cl := fun u hu => leafMay39 u v n (h.on hu)
  have ci := fun u hu => innerMay40 u v n (h.on hu)
  obtain ⟨vc, vk, vi, rfl, hC, hK, hI⟩ := h
  obtain ⟨pc, cc, rfl, -, lc⟩ := hC.hdr
  obtain ⟨pk, ck, rfl, -, lk⟩ := hK.hdr
  obtain ⟨pi, ci', rfl, -, li⟩ := hI.hdr
  clear hC hK hI
  unfold may
  cases hL : n.leaf with
  | true =>
    rw [hL] at cl
    rw [if_pos rfl]
    clear ci
    cases hr : leafOk n with
    | true =>
      rw [hr] at cl
      go_enter Try.func13, Try.ntmps13
      go_wp2_with (go_at_call 39; refine (cl _ (bel1 _ _)).mono ?_; rintro e w2 ⟨rfl, hB2⟩)
      go_ret
      exact ⟨rfl, (bel1 _ _).trans (hB2.mono (by simp))⟩
    | false =>
      rw [hr] at cl
      go_enter Try.func13, Try.ntmps13
      go_wp2_with (go_at_call 39; refine (cl _ (bel1 _ _)).mono ?_; rintro e w2 ⟨rfl, hB2⟩; have hcl := cell_past hB2 (ncell4 w _ _ _ _ 26).1)
      go_ret
      exact ⟨rfl, (bel1 _ _).trans (hB2.mono (by simp))⟩
  | false =>
    rw [hL] at ci
    rw [if_neg (by decide)]
    clear cl
    cases hr : innerOk n with
    | true =>
      rw [hr] at ci
      go_enter Try.func13, Try.ntmps13
      go_wp2_with (go_at_call 40; refine (ci _ (bel1 _ _)).mono ?_; rintro e w2 ⟨rfl, hB2⟩)
      go_ret
      exact ⟨rfl, (bel1 _ _).trans (hB2.mono (by simp))⟩
    | false =>
      rw [hr] at ci
      go_enter Try.func13, Try.ntmps13
      go_wp2_with (go_at_call 40; refine (ci _ (bel1 _ _)).mono ?_; rintro e w2 ⟨rfl, hB2⟩)
      go_ret
      exact ⟨rfl, (bel1 _ _).trans (hB2.mono (by simp))⟩
end Go.Proofs.Ytbkpgppaahpalaa
