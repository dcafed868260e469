/-
  What Text of package value does with lists, and with any value that may be.
-/
import Derived.Test.YtbicodlclmdgaaaGreatDoorTextH
namespace Go.Proofs.YtbicodlclmdgaaaGreatDoor
open Go.RowKit
set_option linter.unusedVariables false      -- a walk need not use every condition

set_option maxHeartbeats 1000000 in
theorem ptw_str (w0 : World) (n : Int) (s : ByteArray) (l : List V) (d : Int) (hd : d ≤ 8) : PTw w0 (.mk 2 n s l) d (strT s.data.toList) := by
  intro w b t0 sl hin hB hb ht
  obtain ⟨p1, n1, q1, rfl⟩ := hin.header
  unfold V.agg
  simp only [V.k, V.n, V.s]
  have hd' : ¬ (8 : Int) < d := by omega
  have c86 := putStr86g s w0 (w.alloc (.cells #[.int .i64 2, .int .i64 n, .string s, .slice p1 n1 q1] 24)) b t0 (hB.alloc hB.size _) (World.ownsRow.alloc hb _) ht
  clear ht hb
  go_enter Tryz.func62, Tryz.ntmps62
  go_wp2_with (go_at_call 86; refine c86.mono ?_; rintro e w1 ⟨b1, rfl, hb1, hB1⟩)
  go_ret
  exact ⟨b1, rfl, hb1, hB1⟩
theorem hne9 {w : World} {base : Nat} {v : Value} {t : List UInt8} (h : Bts w base v t) : some w.heap.size ≠ v.ownBlock := fun e => by
  have := (World.ownsRow.lt h _ e.symm).2
  omega
/-- What stands between a list's brackets. -/
def lt (txt : V → List UInt8) : Bool → List V → List UInt8
  | _, [] => []
  | f, v :: r => sep f ++ txt v ++ lt txt false r
theorem lt_drop (txt : V → List UInt8) (f : Bool) {l : List V} {i : Nat} (hi : i < l.length) : lt txt f (l.drop i) = sep f ++ txt l[i] ++ lt txt false (l.drop (i + 1)) := by
  rw [List.drop_eq_getElem_cons hi]
  simp only [lt]
set_option maxHeartbeats 1000000 in
set_option maxRecDepth 20000 in
theorem putList88 (txt : V → List UInt8) (l : List V) (d : Int) (w0 : World) (hpt : ∀ x ∈ l, PTw w0 x d (txt x)) (w : World) (b : Value) (t0 : List UInt8) (sl : Value) (hS : Sl w0 0 l sl) (hB : Below w0.heap.size w0 w) (hb : Bts w w0.heap.size b t0)
    (ht : t0.length + (lt txt true l).length + 2 ≤ 140737488355328) :
    Calls Tryz.prog 88 #[b, sl, .int .i64 d] w fun e w' => ∃ b', e = .returned b' ∧ Bts w' w0.heap.size b' (t0 ++ (91 :: (lt txt true l ++ [93]))) ∧ Below w0.heap.size w0 w' := by
  obtain ⟨p, cap, rfl, hc, hcm, h56, hx⟩ := hS
  unfold maxLen at hcm
  go_enter Tryz.func88, Tryz.ntmps88
  go_wp2_with (at_builtin; refine wpList_app_byts _ rfl _ _ rfl w0.heap.size _ t0 rfl (World.ownsRow.alloc hb _) ⟨w.heap.size, 0, none⟩ 1 [91] rfl (cells_new _ [.int .u8 91] _) (by simp; omega) (by have := hB.size; simp; omega) ?_; intro v1 w1 hb1 hg1)
  have hB1 := bel_app hB hb hg1
  clear hg1
  go_loopg [0, 14] l.length (fun c v i wr => ∃ (j : Nat) (tc : List UInt8), c + j = l.length ∧ i = .int .i64 j ∧ Hid (Bts wr w0.heap.size v tc) ∧ Hid (Below w0.heap.size w0 wr) ∧ Hid (tc ++ lt txt (decide (j = 0)) (l.drop j) = t0 ++ [91] ++ lt txt true l))
  case atStart => exact ⟨0, t0 ++ [91], rfl, rfl, hb1, hB1, by show _ = _; simp⟩
  case round =>
    clear hb1 hB1
    obtain ⟨j, tc, hj, rfl, hbr, hBr, htc⟩ := hrel
    by_cases hlt : j < l.length
    · obtain ⟨bx, ox, rfl, -, hx1⟩ := hx.resolve_left (by intro e; rw [e] at hlt; simp at hlt)
      obtain ⟨sk, k0, k1, k2, k3, hk⟩ := hx1.at j hlt
      have cK := hpt l[j] (List.getElem_mem hlt)
      have hmt := lt_drop txt (decide (j = 0)) hlt
      obtain ⟨R, hR'⟩ : ∃ R, Hid (R = lt txt false (l.drop (j + 1))) := ⟨lt txt false (l.drop (j + 1)), (rfl : _ = _)⟩
      rw [← hR'.out] at hmt
      generalize l[j] = xk at *
      have htc2 : tc ++ (sep (decide (j = 0)) ++ txt xk ++ R) = t0 ++ [91] ++ lt txt true l := by rw [← hmt]; exact htc.out
      have hL : tc.length + ((sep (decide (j = 0))).length + (txt xk).length + R.length) = t0.length + 1 + (lt txt true l).length := by
        have := congrArg List.length htc2
        simp only [List.length_append, List.length_cons, List.length_nil] at this
        omega
      unfold PTw V.agg at cK
      obtain ⟨pk, nk, ck, rfl⟩ := hk.header
      have hwj : IntKind.i64.wrap ((j : Int) + 1) = ((j + 1 : Nat) : Int) := by rw [IntKind.wrap_i64]; omega
      have y0 := some_on hBr.out k0
      have y1 := some_on hBr.out k1
      have y2 := some_on hBr.out k2
      have y3 := some_on hBr.out k3
      have i1 : (j : Int) < (l.length : Int) := by omega
      clear hx hpt hx1 hmt htc
      by_cases hj0 : j = 0
      · have hz : ¬ (0 : Int) < (j : Int) := by omega
        rw [decide_eq_true hj0] at hL htc2
        have n1 : tc.length + (txt xk).length ≤ 140737488355328 := by omega
        have htc' : Hid (tc ++ txt xk ++ R = t0 ++ [91] ++ lt txt true l) := by show _ = _; rw [← htc2]; simp [sep]
        clear htc2 hL hj0
        go_wp2_with (first
          | (go_at_call 62; refine (cK _ _ tc _ hk (hBr.out.alloc hBr.out.size _) (World.ownsRow.alloc hbr.out _) n1).mono ?_; rintro e w3 ⟨b3, rfl, hb3, hB3⟩))
        have hb5 : Hid (Bts w3 w0.heap.size b3 (tc ++ txt xk)) := hb3
        clear hb3
        go_roundg (gk - 1)
        case rel =>
          refine ⟨j + 1, _, by omega, by rw [← hwj]; go_num, hb5, hB3, ?_⟩
          show _ = _
          rw [decide_eq_false (by omega), ← hR'.out]; exact htc'.out
        case measure => omega
      · have hz : (0 : Int) < (j : Int) := by omega
        rw [decide_eq_false hj0] at hL htc2
        simp only [sep, Bool.false_eq_true, if_false, List.length_cons, List.length_nil] at hL
        have n0 : tc.length + (⟨#[44, 32]⟩ : ByteArray).size ≤ 140737488355328 := by
          rw [show (⟨#[44, 32]⟩ : ByteArray).size = 2 from rfl]; omega
        have n1 : (tc ++ [44, 32]).length + (txt xk).length ≤ 140737488355328 := by
          simp only [List.length_append, List.length_cons, List.length_nil]; omega
        have htc' : Hid (tc ++ [44, 32] ++ txt xk ++ R = t0 ++ [91] ++ lt txt true l) := by show _ = _; rw [← htc2]; simp [sep]
        clear htc2 hL hj0
        go_wp2_with (first
          | (at_builtin; refine wpList_app_str _ rfl _ _ rfl rfl w0.heap.size _ _ rfl (World.ownsRow.alloc hbr.out _) ⟨#[44, 32]⟩ rfl (by decide) n0 (hBr.out.alloc hBr.out.size _).size ?_; intro b2 w2 hb2 hg2; have hB2 := below_app (hBr.out.alloc hBr.out.size _) (World.ownsRow.alloc hbr.out _) hg2; have z9 := (hg2.block wr.heap.size (by simp) (hne9 hbr.out)).trans (blk_new wr _); obtain ⟨z0, z1, z2, z3, zf⟩ := four_of z9; clear hg2)
          | (go_at_call 62; refine (cK _ _ (tc ++ [44, 32]) _ hk hB2 hb2 n1).mono ?_; rintro e w3 ⟨b3, rfl, hb3, hB3⟩))
        have hb5 : Hid (Bts w3 w0.heap.size b3 (tc ++ [44, 32] ++ txt xk)) := hb3
        clear hb3
        go_roundg (gk - 1)
        case rel =>
          refine ⟨j + 1, _, by omega, by rw [← hwj]; go_num, hb5, hB3, ?_⟩
          show _ = _
          rw [decide_eq_false (by omega), ← hR'.out]; exact htc'.out
        case measure => omega
    · obtain rfl : j = l.length := by omega
      have hd0 : l.drop l.length = [] := List.drop_of_length_le (by omega)
      rw [hd0] at htc
      have htc2 := htc.out
      simp only [lt, List.append_nil] at htc2
      rw [htc2] at hbr
      have hlen : Hid ((t0 ++ [91] ++ lt txt true l).length + 1 ≤ 140737488355328) := by
        show _ ≤ _
        simp only [List.length_append, List.length_cons, List.length_nil]; omega
      clear htc htc2 hd0 hpt hx
      go_wp2_with (at_builtin; refine wpList_app_byts _ rfl _ _ rfl w0.heap.size _ _ rfl (World.ownsRow.alloc hbr.out _) ⟨wr.heap.size, 0, none⟩ 1 [93] rfl (cells_new _ [.int .u8 93] _) hlen.out (by have := hBr.out.size; simp; omega) ?_; intro v3 w3 hb3 hg3)
      have hB3 := bel_app hBr.out hbr.out hg3
      clear hg3
      go_ret
      refine ⟨v3, rfl, ?_, hB3⟩
      simpa using hb3

set_option maxHeartbeats 1000000 in
theorem ptw_list (w0 : World) (txt : V → List UInt8) (n : Int) (s : ByteArray) (l : List V) (d : Int) (hd0 : 0 ≤ d) (hd : d ≤ 8) (hpt : ∀ x ∈ l, PTw w0 x (d + 1) (txt x)) : PTw w0 (.mk 4 n s l) d (91 :: (lt txt true l ++ [93])) := by
  intro w b t0 sl hin hB hb ht
  have hS := ((V.in_iff _ _ _ _).1 hin).2.2.2
  simp only [V.l] at hS
  have hlen : t0.length + (lt txt true l).length + 2 ≤ 140737488355328 := by
    simp only [List.length_cons, List.length_append, List.length_nil] at ht
    omega
  unfold V.agg
  simp only [V.k, V.n, V.s]
  have hd' : ¬ (8 : Int) < d := by omega
  have j1 : IntKind.i64.wrap (d + 1) = d + 1 := by rw [IntKind.wrap_i64]; omega
  have c88 := putList88 txt l (d + 1) w0 hpt (w.alloc (.cells #[.int .i64 4, .int .i64 n, .string s, sl] 24)) b t0 sl hS (hB.alloc hB.size _) (World.ownsRow.alloc hb _) hlen
  clear hpt ht hb
  go_enter Tryz.func62, Tryz.ntmps62
  go_wp2_with (go_at_call 88; refine c88.mono ?_; rintro e w1 ⟨b1, rfl, hb1, hB1⟩)
  go_ret
  exact ⟨b1, rfl, hb1, hB1⟩
set_option maxHeartbeats 1000000 in
theorem ptw_map (w0 : World) (txt : V → List UInt8) (n : Int) (s : ByteArray) (l : List V) (m : Nat) (hl2 : l.length = 2 * m) (d : Int) (hd0 : 0 ≤ d) (hd : d ≤ 8) (hpt : ∀ x ∈ l, PTw w0 x (d + 1) (txt x)) : PTw w0 (.mk 5 n s l) d (123 :: (mt txt true l ++ [125])) := by
  intro w b t0 sl hin hB hb ht
  have hS := ((V.in_iff _ _ _ _).1 hin).2.2.2
  simp only [V.l] at hS
  have hlen : t0.length + (mt txt true l).length + 2 ≤ 140737488355328 := by
    simp only [List.length_cons, List.length_append, List.length_nil] at ht
    omega
  unfold V.agg
  simp only [V.k, V.n, V.s]
  have hd' : ¬ (8 : Int) < d := by omega
  have j1 : IntKind.i64.wrap (d + 1) = d + 1 := by rw [IntKind.wrap_i64]; omega
  have c89 := putMap89w txt l m hl2 (d + 1) w0 hpt (w.alloc (.cells #[.int .i64 5, .int .i64 n, .string s, sl] 24)) b t0 sl hS (hB.alloc hB.size _) (World.ownsRow.alloc hb _) hlen
  clear hpt ht hb
  go_enter Tryz.func62, Tryz.ntmps62
  go_wp2_with (go_at_call 89; refine c89.mono ?_; rintro e w1 ⟨b1, rfl, hb1, hB1⟩)
  go_ret
  exact ⟨b1, rfl, hb1, hB1⟩
theorem lt_txtL (d : Nat) : ∀ (f : Bool) (l : List V), lt (fun x => x.txt d) f l = txtL l d f
  | _, [] => by simp [lt, txtL]
  | f, v :: l => by simp [lt, txtL, lt_txtL d false l]
theorem mt_txtM (d : Nat) : ∀ (f : Bool) (l : List V), mt (fun x => x.txt d) f l = txtM l d f
  | _, [] => by simp [mt, txtM]
  | _, [_] => by simp [mt, txtM]
  | f, a :: b :: l => by simp [mt, txtM, mt_txtM d false l, sep]
theorem ptw_all (w0 : World) (ht : TabOk w0) : ∀ (N d : Nat), d + N = 9 → ∀ v : V, v.wide → v.may d = true → PTw w0 v d (v.txt d)
  | 0, d, hd, v, _, hm => by
    obtain ⟨k, n, s, l⟩ := v
    have h9 : ¬ ((d : Int) ≤ 8) := by omega
    simp [V.may, h9] at hm
  | N + 1, d, hd, v, hw, hm => by
    obtain ⟨k, n, s, l⟩ := v
    have h8 : ¬ 8 < d := by omega
    have hd8 : (d : Int) ≤ 8 := by omega
    simp only [V.wide] at hw
    simp only [V.may, Bool.and_eq_true] at hm
    obtain ⟨⟨-, -⟩, hk⟩ := hm
    simp only [V.txt, oneT, if_neg h8]
    by_cases k1 : k = 1
    · subst k1
      rw [if_pos rfl]
      exact ptw_int w0 ht n hw.1 s l d hd8
    rw [if_neg k1] at hk ⊢
    by_cases k2 : k = 2
    · subst k2
      rw [if_pos rfl]
      exact ptw_str w0 n s l d hd8
    rw [if_neg k2] at hk ⊢
    by_cases k3 : k = 3
    · subst k3
      rw [if_pos rfl]
      exact ptw_bool w0 n s l d hd8
    rw [if_neg k3] at hk ⊢
    by_cases k6 : k = 6
    · subst k6
      rw [if_neg (by decide), if_neg (by decide), if_pos rfl]
      exact ptw_vertex w0 ht n hw.1 s l d hd8
    by_cases k7 : k = 7
    · subst k7
      rw [if_neg (by decide), if_neg (by decide), if_neg (by decide), if_pos rfl]
      exact ptw_edge w0 ht n hw.1 s l d hd8
    rw [if_neg (by omega)] at hk
    by_cases k4 : k = 4
    · subst k4
      simp only [if_true, Bool.and_eq_true, decide_eq_true_eq] at hk
      rw [if_pos rfl, ← lt_txtL (d + 1) true l]
      refine ptw_list w0 (fun x => x.txt (d + 1)) n s l d (by omega) hd8 fun x hx => ?_
      have := ptw_all w0 ht N (d + 1) (by omega) x (wideL_mem hw.2 x hx) (by have := allMay_mem hk.2 x hx; rwa [show ((d + 1 : Nat) : Int) = (d : Int) + 1 by omega])
      rwa [show ((d + 1 : Nat) : Int) = (d : Int) + 1 by omega] at this
    rw [if_neg k4] at hk ⊢
    by_cases k5 : k = 5
    · subst k5
      simp only [if_true, Bool.and_eq_true, decide_eq_true_eq] at hk
      rw [if_pos rfl, ← mt_txtM (d + 1) true l]
      refine ptw_map w0 (fun x => x.txt (d + 1)) n s l (l.length / 2) (by omega) d (by omega) hd8 fun x hx => ?_
      have := ptw_all w0 ht N (d + 1) (by omega) x (wideL_mem hw.2 x hx) (by have := allMay_mem hk.1.2 x hx; rwa [show ((d + 1 : Nat) : Int) = (d : Int) + 1 by omega])
      rwa [show ((d + 1 : Nat) : Int) = (d : Int) + 1 by omega] at this
    rw [if_neg k5] at hk
    exact absurd hk (by simp)
set_option maxHeartbeats 1000000 in
/-- Text of a value that may be. -/
theorem text41g (v : V) (hm : v.may 1 = true) (hl : (v.txt 1).length ≤ 140737488355328) (sl : Value) (w : World) (ht : TabOk w) (hin : v.In w 0 sl) :
    Calls Tryz.prog 41 #[v.agg sl] w fun e w' => e = .returned (.string ⟨(v.txt 1).toArray⟩) ∧ Below w.heap.size w w' := by
  have c62 := ptw_all w ht 8 1 rfl v (V.In.wide v sl hin) hm (w.alloc (.cells #[.int .i64 v.k, .int .i64 v.n, .string v.s, sl] 24)) (.slice none 0 0) [] sl hin (bel1 w _) (World.ownsRow_nil _ _ _ _) (by simpa using hl)
  obtain ⟨p1, n1, q1, rfl⟩ := hin.header
  generalize v.txt 1 = t at *
  unfold V.agg at c62 ⊢
  go_enter Tryz.func41, Tryz.ntmps41
  go_wp2_with (go_at_call 62; refine c62.mono ?_; rintro e w1 ⟨b1, rfl, hb1, hB1⟩; have hcv := bts_str hb1)
  go_ret
  exact ⟨rfl, hB1⟩
end Go.Proofs.YtbicodlclmdgaaaGreatDoor
