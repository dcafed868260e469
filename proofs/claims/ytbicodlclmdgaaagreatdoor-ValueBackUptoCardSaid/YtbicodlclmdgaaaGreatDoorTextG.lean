/-
  What Text of package value does with values that may be.
-/
import Derived.Test.YtbicodlclmdgaaaGreatDoorText
import Derived.Test.YtbicodlclmdgaaaGreatDoorBackC
import Derived.Test.YtbicodlclmdgaaaGreatDoorRoC
import Derived.Deep.RegionLaw
import Derived.Deep.AppendLies
namespace Go.Proofs.YtbicodlclmdgaaaGreatDoor
open Go.RowKit
set_option linter.unusedVariables false      -- a walk need not use every condition

/-- putText puts t behind, for a value of that world. -/
def PTw (w0 : World) (v : V) (d : Int) (t : List UInt8) : Prop := ∀ (w : World) (b : Value) (t0 : List UInt8) (sl : Value), v.In w0 0 sl → Below w0.heap.size w0 w → Bts w w0.heap.size b t0 → t0.length + t.length ≤ 140737488355328 →
  Calls Tryz.prog 62 #[b, v.agg sl, .int .i64 d] w fun e w' => ∃ b', e = .returned b' ∧ Bts w' w0.heap.size b' (t0 ++ t) ∧ Below w0.heap.size w0 w'
theorem own_none {w : World} {base : Nat} {e : TypeId} {size : Nat} {v : Value} {n : Nat} {xs : List Value} (h : w.ownsRow base e size v n xs) : v.ownBlock = none ∨ v.ownBlock ≠ (none : Option Nat) := by
  cases v.ownBlock with
  | none => exact .inl rfl
  | some g => exact .inr (by simp)
theorem gl1 : Tryz.prog.globalNamed "internal/strconv.uint64pow10" = some 1 := by kernel_rfl
theorem TabOk.lt {w : World} (h : TabOk w) : 1 < w.heap.size := by
  unfold TabOk Lib.TabIs World.var? at h
  rw [gl1] at h
  by_cases hb : 1 < w.heap.size
  · exact hb
  · simp only [Option.bind_some] at h
    rw [Array.getElem?_eq_none (by omega)] at h
    cases h
theorem TabOk.on {w w' : World} (h : TabOk w) (hb : Below w.heap.size w w') : TabOk w' := by
  have hl := h.lt
  unfold TabOk Lib.TabIs World.var? at h ⊢
  rw [gl1] at h ⊢
  simp only [Option.bind_some] at h ⊢
  rw [hb.block 1 hl]; exact h

set_option maxHeartbeats 1000000 in
theorem ptw_int (w0 : World) (ht : TabOk w0) (n : Int) (hn : I64 n) (s : ByteArray) (l : List V) (d : Int) (hd : d ≤ 8) : PTw w0 (.mk 1 n s l) d (Lib.itoa n) := by
  intro w b t0 sl hin hB hb ht0
  obtain ⟨p1, n1, q1, rfl⟩ := hin.header
  have c85 := fun w hw => numText_any n (i64_fits hn) w hw
  have hpos : 0 < (Lib.itoa n).length := by obtain ⟨c, x, e, -⟩ := itoa_head n; rw [e]; simp
  generalize Lib.itoa n = D at *
  unfold Bts at hb
  unfold V.agg
  simp only [V.k, V.n, V.s]
  have hd' : ¬ (8 : Int) < d := by omega
  have hb' := hb.alloc (.cells #[.int .i64 1, .int .i64 n, .string s, .slice p1 n1 q1] 24)
  have hB' := hB.alloc hB.size (.cells #[.int .i64 1, .int .i64 n, .string s, .slice p1 n1 q1] 24)
  have c85' := c85 _ (ht.on hB')
  go_enter Tryz.func62, Tryz.ntmps62
  go_wp2_with (first
    | (go_at_call 85; refine c85'.mono ?_; rintro e w1 ⟨rfl, hb1⟩)
    | (at_builtin; refine wpList_append_str _ rfl _ _ rfl rfl w0.heap.size _ _ _ rfl (World.ownsRow.kept hb' (gr_bel hb1 none) (own_none hb')) ⟨D.toArray⟩ rfl (by show 0 < D.toArray.size; simpa using hpos) (by show t0.length + D.toArray.size ≤ _; simpa using ht0) (by have := hb1.size; have := hB'.size; omega) ?_; intro v' w2 hown hgrow))
  have hB1 := hB'.trans (hb1.mono hB'.size)
  have hfin := below_app hB1 (World.ownsRow.kept hb' (gr_bel hb1 none) (own_none hb')) hgrow
  clear hgrow
  go_ret
  exact ⟨v', rfl, bts_app (u := D) hown (by show t0.length + D.toArray.size = _; simp), hfin⟩
set_option maxHeartbeats 1000000 in
theorem truth87b (b : Bool) (w : World) : Calls Tryz.prog 87 #[.bool b] w fun e w' => e = .returned (.string ⟨(if b then [116, 114, 117, 101] else [102, 97, 108, 115, 101] : List UInt8).toArray⟩) ∧ w' = w := by
  cases b
  · go_enter Tryz.func87, Tryz.ntmps87
    go_wp2
    go_ret
    exact ⟨rfl, rfl⟩
  · go_enter Tryz.func87, Tryz.ntmps87
    go_wp2
    go_ret
    exact ⟨rfl, rfl⟩
set_option maxHeartbeats 1000000 in
theorem ptw_bool (w0 : World) (n : Int) (s : ByteArray) (l : List V) (d : Int) (hd : d ≤ 8) : PTw w0 (.mk 3 n s l) d (boolT n) := by
  intro w b t0 sl hin hB hb ht0
  obtain ⟨p1, n1, q1, rfl⟩ := hin.header
  obtain ⟨yes, hy⟩ : ∃ yes, (n != 0) = yes := ⟨_, rfl⟩
  have c87 := fun w => truth87b yes w
  have hD : boolT n = (if yes then [116, 114, 117, 101] else [102, 97, 108, 115, 101] : List UInt8) := by
    unfold boolT
    rw [← hy]
    by_cases h : n = 0
    · simp [h]
    · simp [h]
  rw [hD] at ht0 ⊢
  have hpos : 0 < (if yes then [116, 114, 117, 101] else [102, 97, 108, 115, 101] : List UInt8).length := by cases yes <;> decide
  generalize (if yes then [116, 114, 117, 101] else [102, 97, 108, 115, 101] : List UInt8) = D at *
  unfold Bts at hb
  unfold V.agg
  simp only [V.k, V.n, V.s]
  have hd' : ¬ (8 : Int) < d := by omega
  have hb' := hb.alloc (.cells #[.int .i64 3, .int .i64 n, .string s, .slice p1 n1 q1] 24)
  have hB' := hB.alloc hB.size (.cells #[.int .i64 3, .int .i64 n, .string s, .slice p1 n1 q1] 24)
  clear hD
  go_enter Tryz.func62, Tryz.ntmps62
  go_wp2_with (first
    | (go_at_call 87; refine (c87 _).mono ?_; rintro e w1 ⟨rfl, rfl⟩)
    | (at_builtin; refine wpList_append_str _ rfl _ _ rfl rfl w0.heap.size _ _ _ rfl hb' ⟨D.toArray⟩ rfl (by show 0 < D.toArray.size; simpa using hpos) (by show t0.length + D.toArray.size ≤ _; simpa using ht0) hB'.size ?_; intro v' w2 hown hgrow))
  have hfin := below_app hB' hb' hgrow
  clear hgrow
  go_ret
  exact ⟨v', rfl, bts_app (u := D) hown (by show t0.length + D.toArray.size = _; simp), hfin⟩
set_option maxHeartbeats 1000000 in
set_option maxRecDepth 20000 in
theorem ptw_vertex (w0 : World) (ht : TabOk w0) (n : Int) (hn : I64 n) (s : ByteArray) (l : List V) (d : Int) (hd : d ≤ 8) : PTw w0 (.mk 6 n s l) d ([118, 91] ++ Lib.itoa n ++ [93]) := by
  intro w b t0 sl hin hB hb ht0
  obtain ⟨p1, n1, q1, rfl⟩ := hin.header
  have c85 := fun w hw => numText_any n (i64_fits hn) w hw
  have hDl := Lib.itoa_length_le n hn.1 hn.2
  generalize Lib.itoa n = D at *
  unfold Bts at hb
  unfold V.agg
  simp only [V.k, V.n, V.s]
  have hd' : ¬ (8 : Int) < d := by omega
  have hb' := hb.alloc (.cells #[.int .i64 6, .int .i64 n, .string s, .slice p1 n1 q1] 24)
  have hB' := hB.alloc hB.size (.cells #[.int .i64 6, .int .i64 n, .string s, .slice p1 n1 q1] 24)
  have c85' := c85 _ (ht.on hB')
  have hU : ((⟨#[118, 91]⟩ : ByteArray) ++ ⟨D.toArray⟩ ++ ⟨#[93]⟩).data.toList = [118, 91] ++ D ++ [93] := by simp
  have hUs : ((⟨#[118, 91]⟩ : ByteArray) ++ ⟨D.toArray⟩ ++ ⟨#[93]⟩).size = ([118, 91] ++ D ++ [93]).length := by rw [← hU, Array.length_toList]; rfl
  have hU0 : 0 < ((⟨#[118, 91]⟩ : ByteArray) ++ ⟨D.toArray⟩ ++ ⟨#[93]⟩).size := by rw [hUs]; simp
  have hUt : t0.length + ((⟨#[118, 91]⟩ : ByteArray) ++ ⟨D.toArray⟩ ++ ⟨#[93]⟩).size ≤ 140737488355328 := by rw [hUs]; exact ht0
  have hD1 : ¬ 9223372036854775807 < 2 + D.length := by omega
  have hD2 : ¬ 9223372036854775807 < 2 + D.length + 1 := by omega
  clear ht0 hUs
  go_enter Tryz.func62, Tryz.ntmps62
  go_wp2_with (first
    | (go_at_call 85; refine c85'.mono ?_; rintro e w1 ⟨rfl, hb1⟩)
    | (at_builtin; refine wpList_app_str _ rfl _ _ rfl rfl w0.heap.size _ _ rfl (World.ownsRow.kept hb' (gr_bel hb1 none) (own_none hb')) ((⟨#[118, 91]⟩ : ByteArray) ++ ⟨D.toArray⟩ ++ ⟨#[93]⟩) rfl hU0 hUt (by have := hb1.size; have := hB'.size; omega) ?_; intro v' w2 hown hgrow))
  have hB1 := hB'.trans (hb1.mono hB'.size)
  have hfin := below_app hB1 (World.ownsRow.kept hb' (gr_bel hb1 none) (own_none hb')) hgrow
  clear hgrow
  rw [hU] at hown
  go_ret
  exact ⟨v', rfl, hown, hfin⟩
set_option maxHeartbeats 1000000 in
set_option maxRecDepth 20000 in
theorem ptw_edge (w0 : World) (ht : TabOk w0) (n : Int) (hn : I64 n) (s : ByteArray) (l : List V) (d : Int) (hd : d ≤ 8) : PTw w0 (.mk 7 n s l) d ([101, 91] ++ Lib.itoa n ++ [93]) := by
  intro w b t0 sl hin hB hb ht0
  obtain ⟨p1, n1, q1, rfl⟩ := hin.header
  have c85 := fun w hw => numText_any n (i64_fits hn) w hw
  have hDl := Lib.itoa_length_le n hn.1 hn.2
  generalize Lib.itoa n = D at *
  unfold Bts at hb
  unfold V.agg
  simp only [V.k, V.n, V.s]
  have hd' : ¬ (8 : Int) < d := by omega
  have hb' := hb.alloc (.cells #[.int .i64 7, .int .i64 n, .string s, .slice p1 n1 q1] 24)
  have hB' := hB.alloc hB.size (.cells #[.int .i64 7, .int .i64 n, .string s, .slice p1 n1 q1] 24)
  have c85' := c85 _ (ht.on hB')
  have hU : ((⟨#[101, 91]⟩ : ByteArray) ++ ⟨D.toArray⟩ ++ ⟨#[93]⟩).data.toList = [101, 91] ++ D ++ [93] := by simp
  have hUs : ((⟨#[101, 91]⟩ : ByteArray) ++ ⟨D.toArray⟩ ++ ⟨#[93]⟩).size = ([101, 91] ++ D ++ [93]).length := by rw [← hU, Array.length_toList]; rfl
  have hU0 : 0 < ((⟨#[101, 91]⟩ : ByteArray) ++ ⟨D.toArray⟩ ++ ⟨#[93]⟩).size := by rw [hUs]; simp
  have hUt : t0.length + ((⟨#[101, 91]⟩ : ByteArray) ++ ⟨D.toArray⟩ ++ ⟨#[93]⟩).size ≤ 140737488355328 := by rw [hUs]; exact ht0
  have hD1 : ¬ 9223372036854775807 < 2 + D.length := by omega
  have hD2 : ¬ 9223372036854775807 < 2 + D.length + 1 := by omega
  clear ht0 hUs
  go_enter Tryz.func62, Tryz.ntmps62
  go_wp2_with (first
    | (go_at_call 85; refine c85'.mono ?_; rintro e w1 ⟨rfl, hb1⟩)
    | (at_builtin; refine wpList_app_str _ rfl _ _ rfl rfl w0.heap.size _ _ rfl (World.ownsRow.kept hb' (gr_bel hb1 none) (own_none hb')) ((⟨#[101, 91]⟩ : ByteArray) ++ ⟨D.toArray⟩ ++ ⟨#[93]⟩) rfl hU0 hUt (by have := hb1.size; have := hB'.size; omega) ?_; intro v' w2 hown hgrow))
  have hB1 := hB'.trans (hb1.mono hB'.size)
  have hfin := below_app hB1 (World.ownsRow.kept hb' (gr_bel hb1 none) (own_none hb')) hgrow
  clear hgrow
  rw [hU] at hown
  go_ret
  exact ⟨v', rfl, hown, hfin⟩
set_option maxHeartbeats 1000000 in
theorem putMap89w (txt : V → List UInt8) (l : List V) (m : Nat) (hl2 : l.length = 2 * m) (d : Int) (w0 : World) (hpt : ∀ x ∈ l, PTw w0 x d (txt x)) (w : World) (b : Value) (t0 : List UInt8) (sl : Value) (hS : Sl w0 0 l sl) (hB : Below w0.heap.size w0 w) (hb : Bts w w0.heap.size b t0)
    (ht : t0.length + (mt txt true l).length + 2 ≤ 140737488355328) :
    Calls Tryz.prog 89 #[b, sl, .int .i64 d] w fun e w' => ∃ b', e = .returned b' ∧ Bts w' w0.heap.size b' (t0 ++ (123 :: (mt txt true l ++ [125]))) ∧ Below w0.heap.size w0 w' := by
  obtain ⟨p, cap, rfl, hc, hcm, h56, hx⟩ := hS
  go_enter Tryz.func89, Tryz.ntmps89
  go_wp2_with (at_builtin; refine wpList_app_byts _ rfl _ _ rfl w0.heap.size _ t0 rfl (World.ownsRow.alloc hb _) ⟨w.heap.size, 0, none⟩ 1 [123] rfl (cells_new _ [.int .u8 123] _) (by simp; omega) (by have := hB.size; simp; omega) ?_; intro v1 w1 hb1 hg1)
  have hB1 := bel_app hB hb hg1
  clear hg1
  go_loopg [0, 7] m (fun c v i wr => ∃ (j : Nat) (tc : List UInt8), c + j = m ∧ i = .int .i64 ((2 * j + 1 : Nat) : Int) ∧ Hid (Bts wr w0.heap.size v tc) ∧ Hid (Below w0.heap.size w0 wr) ∧ Hid (tc ++ mt txt (decide (j = 0)) (l.drop (2 * j)) = t0 ++ [123] ++ mt txt true l))
  case atStart => exact ⟨0, t0 ++ [123], rfl, rfl, hb1, hB1, by show _ = _; simp⟩
  case round =>
    obtain ⟨j, tc, hj, rfl, hbr, hBr, htc⟩ := hrel
    by_cases hlt : j < m
    · obtain ⟨bx, ox, rfl, -, hx1⟩ := hx.resolve_left (by intro e; rw [e] at hl2; simp at hl2; omega)
      obtain ⟨q, hq⟩ : ∃ q, Hid (q = 2 * j) := ⟨_, rfl⟩
      obtain ⟨i', hi'⟩ : ∃ i', Hid (i' = 2 * j + 1) := ⟨_, rfl⟩
      have hq' := hq.out
      have hi'' := hi'.out
      have hqi : i' = q + 1 := by omega
      rw [← hi'.out]
      rw [← hq.out] at htc
      have hql : q < l.length := by omega
      have hil : i' < l.length := by omega
      obtain ⟨sk, k0, k1, k2, k3, hk⟩ := hx1.at q hql
      obtain ⟨sv, v0, v1', v2, v3, hv⟩ := hx1.at i' hil
      have cK := hpt l[q] (List.getElem_mem hql)
      have cV := hpt l[i'] (List.getElem_mem hil)
      obtain ⟨R, hR'⟩ : ∃ R, Hid (R = mt txt false (l.drop (2 * (j + 1)))) := ⟨_, rfl⟩
      have hmt : Hid (∀ f, mt txt f (l.drop q) = (if f then [] else [44, 32]) ++ txt l[q] ++ [58, 32] ++ txt l[i'] ++ R) := fun f => by
        rw [hR'.out]
        have := mt_drop txt f (l := l) (i := q) (by omega)
        simp only [← hqi] at this
        rw [show 2 * (j + 1) = q + 2 by omega]; exact this
      have hL : Hid (tc.length + (mt txt (decide (j = 0)) (l.drop q)).length = t0.length + 1 + (mt txt true l).length) := by
        have := congrArg List.length htc.out
        simp only [List.length_append, List.length_cons, List.length_nil] at this
        show _ = _
        omega
      have wA : IntKind.i64.wrap ((i' : Int) - 1) = (q : Int) := by rw [IntKind.wrap_i64]; omega
      have wB : IntKind.i64.wrap (q : Int) = (q : Int) := by rw [IntKind.wrap_i64]; omega
      have wC : IntKind.i64.wrap ((i' : Int) + 2) = ((2 * (j + 1) + 1 : Nat) : Int) := by rw [IntKind.wrap_i64]; omega
      have i1 : (q : Int) < 2 * (m : Int) := by omega
      have i2 : (i' : Int) < 2 * (m : Int) := by omega
      generalize l[q] = xk at *
      generalize l[i'] = xv at *
      unfold PTw V.agg at cK cV
      obtain ⟨pk, nk, ck, rfl⟩ := hk.header
      obtain ⟨pv', nv, cv, rfl⟩ := hv.header
      clear hx hpt hx1 hq' hi''
      have hqi' : Hid (i' = q + 1) := hqi
      clear hqi
      by_cases hj0 : j = 0
      · have hlt1 : ¬ (1 : Int) < (i' : Int) := by have := hi'.out; omega
        have h1 := hmt.out true
        rw [decide_eq_true hj0] at hL htc
        have hn : tc.length + (txt xk).length + 2 + (txt xv).length ≤ 140737488355328 := by
          have := hL.out
          rw [h1] at this
          simp only [if_true, List.length_append, List.length_cons, List.length_nil] at this
          omega
        have htc' : Hid (tc ++ txt xk ++ [58, 32] ++ txt xv ++ R = t0 ++ [123] ++ mt txt true l) := by
          have := htc.out
          rw [h1] at this
          show _ = _
          rw [← this]
          simp
        have y0 := some_on hBr.out k0
        have y1 := some_on hBr.out k1
        have y2 := some_on hBr.out k2
        have y3 := some_on hBr.out k3
        have n1 : tc.length + (txt xk).length ≤ 140737488355328 := by omega
        have n2 : (tc ++ txt xk).length + (⟨#[58, 32]⟩ : ByteArray).size ≤ 140737488355328 := by
          rw [List.length_append, show (⟨#[58, 32]⟩ : ByteArray).size = 2 from rfl]; omega
        have n3 : (tc ++ txt xk ++ [58, 32]).length + (txt xv).length ≤ 140737488355328 := by
          simp only [List.length_append, List.length_cons, List.length_nil]; omega
        clear h1 hL htc hn
        have tokA : Hid True := trivial
        go_wp2_with (first
          | (go_at_call 62; clear tokA; refine (cK _ _ tc _ hk hBr.out hbr.out n1).mono ?_; rintro e w3 ⟨b3, rfl, hb3, hB3⟩)
          | (at_builtin; refine wpList_app_str _ rfl _ _ rfl rfl w0.heap.size _ _ rfl hb3 ⟨#[58, 32]⟩ rfl (by decide) n2 hB3.size ?_; intro b4 w4 hb4 hg4; have hB4 := below_app hB3 hb3 hg4; have z0 := some_on hB4 v0; have z1 := some_on hB4 v1'; have z2 := some_on hB4 v2; have z3 := some_on hB4 v3; clear hg4)
          | (go_at_call 62; refine (cV _ _ (tc ++ txt xk ++ [58, 32]) _ hv hB4 hb4 n3).mono ?_; rintro e w5 ⟨b5, rfl, hb5, hB5⟩))
        have hb5' : Hid (Bts w5 w0.heap.size b5 (tc ++ txt xk ++ [58, 32] ++ txt xv)) := hb5
        clear hb5 hb4 hb3
        go_roundg (gk - 1)
        case rel =>
          refine ⟨j + 1, _, by omega, ?_, hb5', hB5, ?_⟩
          · exact congrArg (Value.int .i64) (by omega)
          · show _ = _
            rw [decide_eq_false (by omega), ← hR'.out]; exact htc'.out
        case measure => omega
      · have hlt1 : (1 : Int) < (i' : Int) := by have := hi'.out; omega
        have h1 := hmt.out false
        rw [decide_eq_false hj0] at hL htc
        have hn : tc.length + 2 + (txt xk).length + 2 + (txt xv).length ≤ 140737488355328 := by
          have := hL.out
          rw [h1] at this
          simp only [Bool.false_eq_true, if_false, List.length_append, List.length_cons, List.length_nil] at this
          omega
        have htc' : Hid (tc ++ [44, 32] ++ txt xk ++ [58, 32] ++ txt xv ++ R = t0 ++ [123] ++ mt txt true l) := by
          have := htc.out
          rw [h1] at this
          show _ = _
          rw [← this]
          simp
        have n0 : tc.length + (⟨#[44, 32]⟩ : ByteArray).size ≤ 140737488355328 := by
          rw [show (⟨#[44, 32]⟩ : ByteArray).size = 2 from rfl]; omega
        have n1 : (tc ++ [44, 32]).length + (txt xk).length ≤ 140737488355328 := by
          simp only [List.length_append, List.length_cons, List.length_nil]; omega
        have n2 : (tc ++ [44, 32] ++ txt xk).length + (⟨#[58, 32]⟩ : ByteArray).size ≤ 140737488355328 := by
          simp only [List.length_append, List.length_cons, List.length_nil]
          rw [show (⟨#[58, 32]⟩ : ByteArray).size = 2 from rfl]; omega
        have n3 : (tc ++ [44, 32] ++ txt xk ++ [58, 32]).length + (txt xv).length ≤ 140737488355328 := by
          simp only [List.length_append, List.length_cons, List.length_nil]; omega
        clear h1 hL htc hn
        have tokA : Hid True := trivial
        go_wp2_with (first
          | (at_builtin; refine wpList_app_str _ rfl _ _ rfl rfl w0.heap.size _ _ rfl hbr.out ⟨#[44, 32]⟩ rfl (by decide) n0 hBr.out.size ?_; intro b2 w2 hb2 hg2; have hB2 := below_app hBr.out hbr.out hg2; have y0 := some_on hB2 k0; have y1 := some_on hB2 k1; have y2 := some_on hB2 k2; have y3 := some_on hB2 k3; clear hg2)
          | (go_at_call 62; clear tokA; refine (cK _ _ (tc ++ [44, 32]) _ hk hB2 hb2 n1).mono ?_; rintro e w3 ⟨b3, rfl, hb3, hB3⟩)
          | (at_builtin; refine wpList_app_str _ rfl _ _ rfl rfl w0.heap.size _ _ rfl hb3 ⟨#[58, 32]⟩ rfl (by decide) n2 hB3.size ?_; intro b4 w4 hb4 hg4; have hB4 := below_app hB3 hb3 hg4; have z0 := some_on hB4 v0; have z1 := some_on hB4 v1'; have z2 := some_on hB4 v2; have z3 := some_on hB4 v3; clear hg4)
          | (go_at_call 62; refine (cV _ _ (tc ++ [44, 32] ++ txt xk ++ [58, 32]) _ hv hB4 hb4 n3).mono ?_; rintro e w5 ⟨b5, rfl, hb5, hB5⟩))
        have hb5' : Hid (Bts w5 w0.heap.size b5 (tc ++ [44, 32] ++ txt xk ++ [58, 32] ++ txt xv)) := hb5
        clear hb5 hb4 hb3 hb2
        go_roundg (gk - 1)
        case rel =>
          refine ⟨j + 1, _, by omega, ?_, hb5', hB5, ?_⟩
          · exact congrArg (Value.int .i64) (by omega)
          · show _ = _
            rw [decide_eq_false (by omega), ← hR'.out]; exact htc'.out
        case measure => omega
    · obtain rfl : j = m := by omega
      have hd0 : l.drop (2 * j) = [] := List.drop_of_length_le (by omega)
      rw [hd0, show mt txt (decide (j = 0)) [] = [] by simp [mt], List.append_nil] at htc
      rw [htc.out] at hbr
      have hlen : Hid ((t0 ++ [123] ++ mt txt true l).length + 1 ≤ 140737488355328) := by
        show _ ≤ _
        simp only [List.length_append, List.length_cons, List.length_nil]; omega
      obtain ⟨i', hi'⟩ : ∃ i', Hid (i' = 2 * j + 1) := ⟨_, rfl⟩
      have hi'' : ¬ (i' : Int) < 2 * (j : Int) := by have := hi'.out; omega
      rw [← hi'.out]
      clear htc hd0 hpt
      go_wp2_with (at_builtin; refine wpList_app_byts _ rfl _ _ rfl w0.heap.size _ _ rfl (World.ownsRow.alloc hbr.out _) ⟨wr.heap.size, 0, none⟩ 1 [125] rfl (cells_new _ [.int .u8 125] _) hlen.out (by have := hBr.out.size; simp; omega) ?_; intro v3 w3 hb3 hg3)
      have hB3 := bel_app hBr.out hbr.out hg3
      clear hg3
      go_ret
      refine ⟨v3, rfl, ?_, hB3⟩
      simpa using hb3

end Go.Proofs.YtbicodlclmdgaaaGreatDoor
