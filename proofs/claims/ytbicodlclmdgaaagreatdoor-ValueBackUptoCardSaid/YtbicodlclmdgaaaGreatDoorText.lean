/-
  What Text of package value does with plain strings, truths, small numbers, and maps of what it does so with.
-/
import Derived.Test.YtbicodlclmdgaaaGreatDoorByt
import Derived.Test.YtbicodlclmdgaaaGreatDoorRdrB
import Derived.Deep.LoopGhost
namespace Go.Proofs.YtbicodlclmdgaaaGreatDoor
open Go.RowKit

/-- putText puts t behind. -/
def PT (v : V) (d : Int) (t : List UInt8) : Prop := ∀ (w0 w : World) (b : Value) (t0 : List UInt8) (sl : Value), v.In w0 0 sl → Below w0.heap.size w0 w → Bts w w0.heap.size b t0 → t0.length + t.length ≤ 140737488355328 →
  Calls Tryz.prog 62 #[b, v.agg sl, .int .i64 d] w fun e w' => ∃ b', e = .returned b' ∧ Bts w' w0.heap.size b' (t0 ++ t) ∧ Below w0.heap.size w0 w'

set_option maxHeartbeats 1000000 in
theorem truth87 (w : World) : Calls Tryz.prog 87 #[.bool true] w fun e w' => e = .returned (.string ⟨#[116, 114, 117, 101]⟩) ∧ w' = w := by
  go_enter Tryz.func87, Tryz.ntmps87
  go_wp2
  go_ret
  exact ⟨rfl, rfl⟩

set_option maxHeartbeats 2000000 in
theorem pt_true (d : Int) (hd : d ≤ 8) : PT (.mk 3 1 ⟨#[]⟩ []) d [116, 114, 117, 101] := by
  intro w0 w b t0 sl hin hB hb ht
  unfold Bts at hb
  unfold V.agg
  simp only [V.k, V.n, V.s]
  have hd' : ¬ (8 : Int) < d := by omega
  have hb' := hb.alloc (.cells #[.int .i64 3, .int .i64 1, .string ⟨#[]⟩, sl] 24)
  have hB' := hB.alloc hB.size (.cells #[.int .i64 3, .int .i64 1, .string ⟨#[]⟩, sl] 24)
  simp only [List.length_cons, List.length_nil] at ht
  go_enter Tryz.func62, Tryz.ntmps62
  go_wp2_with (first
    | (go_at_call 87; refine (truth87 _).mono ?_; rintro e w1 ⟨rfl, rfl⟩)
    | (at_builtin; refine wpList_append_str _ rfl _ _ rfl rfl w0.heap.size _ _ _ rfl hb' ⟨#[116, 114, 117, 101]⟩ rfl (by decide) (by show t0.length + 4 ≤ _; omega) hB'.size ?_; intro v' w2 hown hgrow))
  have hfin := below_app hB' hb' hgrow
  clear hgrow
  go_ret
  exact ⟨v', rfl, bts_app (u := [116, 114, 117, 101]) hown rfl, hfin⟩

set_option maxHeartbeats 2000000 in
theorem pt_small (n : Nat) (hn : n < 100) (d : Int) (hd : d ≤ 8) : PT (.mk 1 n ⟨#[]⟩ []) d (Lib.decDigits n) := by
  intro w0 w b t0 sl hin hB hb ht
  have c85 : ∀ w, Calls Tryz.prog 85 #[.int .i64 n] w fun e w' => e = .returned (.string ⟨(Lib.decDigits n).toArray⟩) ∧ w' = w := fun w => by
    have c104 : ∀ w, Calls Tryz.prog 104 #[.int .i64 n, .int .i64 10] w fun e w' => e = .returned (.string ⟨(Lib.decDigits n).toArray⟩) ∧ w' = w := fun w => Any.strconv_FormatInt_10_small lays173 n hn w
    go_enter Tryz.func85, Tryz.ntmps85
    go_wp2_with (go_at_call 104; refine (c104 _).mono ?_; rintro e w1 ⟨rfl, rfl⟩)
    go_ret
    exact ⟨rfl, rfl⟩
  have hpos : 0 < (Lib.decDigits n).length := by rw [Lib.decDigits_length]; exact Lib.nDigits_pos n
  generalize Lib.decDigits n = D at *
  unfold Bts at hb
  unfold V.agg
  simp only [V.k, V.n, V.s]
  have hd' : ¬ (8 : Int) < d := by omega
  have hb' := hb.alloc (.cells #[.int .i64 1, .int .i64 n, .string ⟨#[]⟩, sl] 24)
  have hB' := hB.alloc hB.size (.cells #[.int .i64 1, .int .i64 n, .string ⟨#[]⟩, sl] 24)
  go_enter Tryz.func62, Tryz.ntmps62
  go_wp2_with (first
    | (go_at_call 85; refine (c85 _).mono ?_; rintro e w1 ⟨rfl, rfl⟩)
    | (at_builtin; refine wpList_append_str _ rfl _ _ rfl rfl w0.heap.size _ _ _ rfl hb' ⟨D.toArray⟩ rfl (by show 0 < D.toArray.size; simpa using hpos) (by show t0.length + D.toArray.size ≤ _; simpa using ht) hB'.size ?_; intro v' w2 hown hgrow))
  have hfin := below_app hB' hb' hgrow
  clear hgrow
  go_ret
  exact ⟨v', rfl, bts_app (u := D) hown (by show t0.length + D.toArray.size = _; simp), hfin⟩

theorem bel_app {w0 w w' : World} {v : Value} {t : List UInt8} {o : Obj} (hB : Below w0.heap.size w0 w) (hb : Bts w w0.heap.size v t) (hg : (w.alloc o).grownBy w' v.ownBlock) : Below w0.heap.size w0 w' :=
  below_app (hB.alloc hB.size o) (World.ownsRow.alloc hb o) hg

set_option maxHeartbeats 2000000 in
theorem putStr86 (s : ByteArray) (hX : Plain s.data.toList) (w0 w : World) (b : Value) (t0 : List UInt8) (hB : Below w0.heap.size w0 w) (hb : Bts w w0.heap.size b t0) (ht : t0.length + s.size + 2 ≤ 140737488355328) :
    Calls Tryz.prog 86 #[b, .string s] w fun e w' => ∃ b', e = .returned b' ∧ Bts w' w0.heap.size b' (t0 ++ (39 :: (s.data.toList ++ [39]))) ∧ Below w0.heap.size w0 w' := by
  go_enter Tryz.func86, Tryz.ntmps86
  go_wp2_with (at_builtin; refine wpList_app_byts _ rfl _ _ rfl w0.heap.size _ t0 rfl (World.ownsRow.alloc hb _) ⟨w.heap.size, 0, none⟩ 1 [39] rfl (cells_new _ [.int .u8 39] _) (by simp; omega) (by have := hB.size; simp; omega) ?_; intro v1 w1 hb1 hg1)
  have hB1 := bel_app hB hb hg1
  clear hg1
  go_loopg [0, 12] s.size (fun c v i wr => ∃ j : Nat, c + j = s.size ∧ i = .int .i64 j ∧ Hid (Bts wr w0.heap.size v (t0 ++ [39] ++ s.data.toList.take j)) ∧ Hid (Below w0.heap.size w0 wr))
  case atStart => exact ⟨0, rfl, rfl, by show Bts _ _ _ _; simpa using hb1, hB1⟩
  case round =>
    obtain ⟨j, hj, rfl, hbr, hBr⟩ := hrel
    by_cases hlt : j < s.size
    · have htk : Hid (s.data.toList.take (j + 1) = s.data.toList.take j ++ [s[j]]) := take_snoc s j hlt
      obtain ⟨x1, x2, x3, x4⟩ := hX s[j] (mem_at s j hlt)
      have hlen : Hid ((t0 ++ [39] ++ s.data.toList.take j).length = t0.length + 1 + j) := by show _ = _; simp; omega
      have b1 : ((s[j].toNat : Int) == 39) = false := by simp; omega
      have b2 : ((s[j].toNat : Int) == 92) = false := by simp; omega
      go_wp2_with (first
        | (go_at_call 105; refine (noSign_no s[j] _ x1 x2).mono ?_; rintro e wr ⟨rfl, rfl⟩)
        | (at_builtin; refine wpList_app_byts _ rfl _ _ rfl w0.heap.size _ _ rfl (World.ownsRow.alloc hbr.out _) ⟨wr.heap.size, 0, none⟩ 1 [s[j]] rfl (cells_new _ [.int .u8 s[j].toNat] _) (by rw [hlen.out]; show t0.length + 1 + j + 1 ≤ _; omega) (by have := hBr.out.size; simp; omega) ?_; intro v3 w3 hb3 hg3))
      have hB3 := bel_app hBr.out hbr.out hg3
      clear hg3
      go_roundg (gk - 1)
      case rel =>
        refine ⟨j + 1, by omega, by go_num, ?_, hB3⟩
        show Bts _ _ _ _
        rw [htk.out, ← List.append_assoc]; exact hb3
      case measure => omega
    · obtain rfl : j = s.size := by omega
      have htk : s.data.toList.take s.size = s.data.toList := List.take_of_length_le (by simp)
      rw [htk] at hbr
      have hlen : Hid ((t0 ++ [39] ++ s.data.toList).length = t0.length + 1 + s.size) := by show _ = _; simp; omega
      clear htk
      go_wp2_with (at_builtin; refine wpList_app_byts _ rfl _ _ rfl w0.heap.size _ _ rfl (World.ownsRow.alloc hbr.out _) ⟨wr.heap.size, 0, none⟩ 1 [39] rfl (cells_new _ [.int .u8 39] _) (by rw [hlen.out]; show t0.length + 1 + s.size + 1 ≤ _; omega) (by have := hBr.out.size; simp; omega) ?_; intro v3 w3 hb3 hg3)
      have hB3 := bel_app hBr.out hbr.out hg3
      clear hg3
      go_ret
      refine ⟨v3, rfl, ?_, hB3⟩
      simpa using hb3

set_option maxHeartbeats 2000000 in
theorem pt_str (s : ByteArray) (hX : Plain s.data.toList) (d : Int) (hd : d ≤ 8) : PT (.mk 2 0 s []) d (39 :: (s.data.toList ++ [39])) := by
  intro w0 w b t0 sl hin hB hb ht
  have hlen : t0.length + s.size + 2 ≤ 140737488355328 := by
    simp only [List.length_cons, List.length_append, List.length_nil, Array.length_toList] at ht
    have : s.data.size = s.size := rfl
    omega
  unfold V.agg
  simp only [V.k, V.n, V.s]
  have hd' : ¬ (8 : Int) < d := by omega
  have c86 := putStr86 s hX w0 (w.alloc (.cells #[.int .i64 2, .int .i64 0, .string s, sl] 24)) b t0 (hB.alloc hB.size _) (World.ownsRow.alloc hb _) hlen
  clear hX ht hb
  go_enter Tryz.func62, Tryz.ntmps62
  go_wp2_with (go_at_call 86; refine c86.mono ?_; rintro e w1 ⟨b1, rfl, hb1, hB1⟩)
  go_ret
  exact ⟨b1, rfl, hb1, hB1⟩

/-- What stands between a map's braces. -/
def mt (txt : V → List UInt8) : Bool → List V → List UInt8
  | f, k :: v :: r => (if f then [] else [44, 32]) ++ txt k ++ [58, 32] ++ txt v ++ mt txt false r
  | _, _ => []
theorem mt_drop (txt : V → List UInt8) (f : Bool) {l : List V} {i : Nat} (hi : i + 1 < l.length) : mt txt f (l.drop i) = (if f then [] else [44, 32]) ++ txt l[i] ++ [58, 32] ++ txt l[i + 1] ++ mt txt false (l.drop (i + 2)) := by
  rw [List.drop_eq_getElem_cons (show i < l.length by omega), List.drop_eq_getElem_cons hi]
  simp only [mt]

set_option maxHeartbeats 1000000 in
theorem putMap89 (txt : V → List UInt8) (l : List V) (m : Nat) (hl2 : l.length = 2 * m) (d : Int) (hpt : ∀ x ∈ l, PT x d (txt x)) (w0 w : World) (b : Value) (t0 : List UInt8) (sl : Value) (hS : Sl w0 0 l sl) (hB : Below w0.heap.size w0 w) (hb : Bts w w0.heap.size b t0)
    (ht : t0.length + (mt txt true l).length + 2 ≤ 140737488355328) :
    Calls Tryz.prog 89 #[b, sl, .int .i64 d] w fun e w' => ∃ b', e = .returned b' ∧ Bts w' w0.heap.size b' (t0 ++ (123 :: (mt txt true l ++ [125]))) ∧ Below w0.heap.size w0 w' := by
  obtain ⟨p, cap, rfl, hc, hcm, h56, hx⟩ := hS
  go_enter Tryz.func89, Tryz.ntmps89
  go_wp2_with (at_builtin; refine wpList_app_byts _ rfl _ _ rfl w0.heap.size _ t0 rfl (World.ownsRow.alloc hb _) ⟨w.heap.size, 0, none⟩ 1 [123] rfl (cells_new _ [.int .u8 123] _) (by simp; omega) (by have := hB.size; simp; omega) ?_; intro v1 w1 hb1 hg1)
  have hB1 := bel_app hB hb hg1
  clear hg1
  go_loopg [0, 7] m (fun c v i wr => ∃ (j : Nat) (tc : List UInt8), c + j = m ∧ i = .int .i64 ((2 * j + 1 : Nat) : Int) ∧ Hid (Bts wr w0.heap.size v tc) ∧ Hid (Below w0.heap.size w0 wr) ∧ Hid (tc ++ mt txt (decide (j = 0)) (l.drop (2 * j)) = t0 ++ [123] ++ mt txt true l))
  case atStart => exact ⟨0, t0 ++ [123], rfl, rfl, hb1, hB1, by show _ = _; simp⟩
  case round =>
    obtain ⟨j, tc, hj, rfl, hbr, hBr, htc⟩ := hrel
    by_cases hlt : j < m
    · obtain ⟨bx, ox, rfl, -, hx1⟩ := hx.resolve_left (by intro e; rw [e] at hl2; simp at hl2; omega)
      obtain ⟨q, hq⟩ : ∃ q, Hid (q = 2 * j) := ⟨_, rfl⟩
      obtain ⟨i', hi'⟩ : ∃ i', Hid (i' = 2 * j + 1) := ⟨_, rfl⟩
      have hq' := hq.out
      have hi'' := hi'.out
      have hqi : i' = q + 1 := by omega
      rw [← hi'.out]
      rw [← hq.out] at htc
      have hql : q < l.length := by omega
      have hil : i' < l.length := by omega
      obtain ⟨sk, k0, k1, k2, k3, hk⟩ := hx1.at q hql
      obtain ⟨sv, v0, v1', v2, v3, hv⟩ := hx1.at i' hil
      have cK := hpt l[q] (List.getElem_mem hql)
      have cV := hpt l[i'] (List.getElem_mem hil)
      obtain ⟨R, hR'⟩ : ∃ R, Hid (R = mt txt false (l.drop (2 * (j + 1)))) := ⟨_, rfl⟩
      have hmt : Hid (∀ f, mt txt f (l.drop q) = (if f then [] else [44, 32]) ++ txt l[q] ++ [58, 32] ++ txt l[i'] ++ R) := fun f => by
        rw [hR'.out]
        have := mt_drop txt f (l := l) (i := q) (by omega)
        simp only [← hqi] at this
        rw [show 2 * (j + 1) = q + 2 by omega]; exact this
      have hL : Hid (tc.length + (mt txt (decide (j = 0)) (l.drop q)).length = t0.length + 1 + (mt txt true l).length) := by
        have := congrArg List.length htc.out
        simp only [List.length_append, List.length_cons, List.length_nil] at this
        show _ = _
        omega
      have wA : IntKind.i64.wrap ((i' : Int) - 1) = (q : Int) := by rw [IntKind.wrap_i64]; omega
      have wB : IntKind.i64.wrap (q : Int) = (q : Int) := by rw [IntKind.wrap_i64]; omega
      have wC : IntKind.i64.wrap ((i' : Int) + 2) = ((2 * (j + 1) + 1 : Nat) : Int) := by rw [IntKind.wrap_i64]; omega
      have i1 : (q : Int) < 2 * (m : Int) := by omega
      have i2 : (i' : Int) < 2 * (m : Int) := by omega
      generalize l[q] = xk at *
      generalize l[i'] = xv at *
      unfold PT V.agg at cK cV
      obtain ⟨pk, nk, ck, rfl⟩ := hk.header
      obtain ⟨pv', nv, cv, rfl⟩ := hv.header
      clear hx hpt hx1 hq' hi''
      have hqi' : Hid (i' = q + 1) := hqi
      clear hqi
      by_cases hj0 : j = 0
      · have hlt1 : ¬ (1 : Int) < (i' : Int) := by have := hi'.out; omega
        have h1 := hmt.out true
        rw [decide_eq_true hj0] at hL htc
        have hn : tc.length + (txt xk).length + 2 + (txt xv).length ≤ 140737488355328 := by
          have := hL.out
          rw [h1] at this
          simp only [if_true, List.length_append, List.length_cons, List.length_nil] at this
          omega
        have htc' : Hid (tc ++ txt xk ++ [58, 32] ++ txt xv ++ R = t0 ++ [123] ++ mt txt true l) := by
          have := htc.out
          rw [h1] at this
          show _ = _
          rw [← this]
          simp
        have y0 := some_on hBr.out k0
        have y1 := some_on hBr.out k1
        have y2 := some_on hBr.out k2
        have y3 := some_on hBr.out k3
        have n1 : tc.length + (txt xk).length ≤ 140737488355328 := by omega
        have n2 : (tc ++ txt xk).length + (⟨#[58, 32]⟩ : ByteArray).size ≤ 140737488355328 := by
          rw [List.length_append, show (⟨#[58, 32]⟩ : ByteArray).size = 2 from rfl]; omega
        have n3 : (tc ++ txt xk ++ [58, 32]).length + (txt xv).length ≤ 140737488355328 := by
          simp only [List.length_append, List.length_cons, List.length_nil]; omega
        clear h1 hL htc hn
        have tokA : Hid True := trivial
        go_wp2_with (first
          | (go_at_call 62; clear tokA; refine (cK w0 _ _ tc _ hk hBr.out hbr.out n1).mono ?_; rintro e w3 ⟨b3, rfl, hb3, hB3⟩)
          | (at_builtin; refine wpList_app_str _ rfl _ _ rfl rfl w0.heap.size _ _ rfl hb3 ⟨#[58, 32]⟩ rfl (by decide) n2 hB3.size ?_; intro b4 w4 hb4 hg4; have hB4 := below_app hB3 hb3 hg4; have z0 := some_on hB4 v0; have z1 := some_on hB4 v1'; have z2 := some_on hB4 v2; have z3 := some_on hB4 v3; clear hg4)
          | (go_at_call 62; refine (cV w0 _ _ (tc ++ txt xk ++ [58, 32]) _ hv hB4 hb4 n3).mono ?_; rintro e w5 ⟨b5, rfl, hb5, hB5⟩))
        have hb5' : Hid (Bts w5 w0.heap.size b5 (tc ++ txt xk ++ [58, 32] ++ txt xv)) := hb5
        clear hb5 hb4 hb3
        go_roundg (gk - 1)
        case rel =>
          refine ⟨j + 1, _, by omega, ?_, hb5', hB5, ?_⟩
          · exact congrArg (Value.int .i64) (by omega)
          · show _ = _
            rw [decide_eq_false (by omega), ← hR'.out]; exact htc'.out
        case measure => omega
      · have hlt1 : (1 : Int) < (i' : Int) := by have := hi'.out; omega
        have h1 := hmt.out false
        rw [decide_eq_false hj0] at hL htc
        have hn : tc.length + 2 + (txt xk).length + 2 + (txt xv).length ≤ 140737488355328 := by
          have := hL.out
          rw [h1] at this
          simp only [Bool.false_eq_true, if_false, List.length_append, List.length_cons, List.length_nil] at this
          omega
        have htc' : Hid (tc ++ [44, 32] ++ txt xk ++ [58, 32] ++ txt xv ++ R = t0 ++ [123] ++ mt txt true l) := by
          have := htc.out
          rw [h1] at this
          show _ = _
          rw [← this]
          simp
        have n0 : tc.length + (⟨#[44, 32]⟩ : ByteArray).size ≤ 140737488355328 := by
          rw [show (⟨#[44, 32]⟩ : ByteArray).size = 2 from rfl]; omega
        have n1 : (tc ++ [44, 32]).length + (txt xk).length ≤ 140737488355328 := by
          simp only [List.length_append, List.length_cons, List.length_nil]; omega
        have n2 : (tc ++ [44, 32] ++ txt xk).length + (⟨#[58, 32]⟩ : ByteArray).size ≤ 140737488355328 := by
          simp only [List.length_append, List.length_cons, List.length_nil]
          rw [show (⟨#[58, 32]⟩ : ByteArray).size = 2 from rfl]; omega
        have n3 : (tc ++ [44, 32] ++ txt xk ++ [58, 32]).length + (txt xv).length ≤ 140737488355328 := by
          simp only [List.length_append, List.length_cons, List.length_nil]; omega
        clear h1 hL htc hn
        have tokA : Hid True := trivial
        go_wp2_with (first
          | (at_builtin; refine wpList_app_str _ rfl _ _ rfl rfl w0.heap.size _ _ rfl hbr.out ⟨#[44, 32]⟩ rfl (by decide) n0 hBr.out.size ?_; intro b2 w2 hb2 hg2; have hB2 := below_app hBr.out hbr.out hg2; have y0 := some_on hB2 k0; have y1 := some_on hB2 k1; have y2 := some_on hB2 k2; have y3 := some_on hB2 k3; clear hg2)
          | (go_at_call 62; clear tokA; refine (cK w0 _ _ (tc ++ [44, 32]) _ hk hB2 hb2 n1).mono ?_; rintro e w3 ⟨b3, rfl, hb3, hB3⟩)
          | (at_builtin; refine wpList_app_str _ rfl _ _ rfl rfl w0.heap.size _ _ rfl hb3 ⟨#[58, 32]⟩ rfl (by decide) n2 hB3.size ?_; intro b4 w4 hb4 hg4; have hB4 := below_app hB3 hb3 hg4; have z0 := some_on hB4 v0; have z1 := some_on hB4 v1'; have z2 := some_on hB4 v2; have z3 := some_on hB4 v3; clear hg4)
          | (go_at_call 62; refine (cV w0 _ _ (tc ++ [44, 32] ++ txt xk ++ [58, 32]) _ hv hB4 hb4 n3).mono ?_; rintro e w5 ⟨b5, rfl, hb5, hB5⟩))
        have hb5' : Hid (Bts w5 w0.heap.size b5 (tc ++ [44, 32] ++ txt xk ++ [58, 32] ++ txt xv)) := hb5
        clear hb5 hb4 hb3 hb2
        go_roundg (gk - 1)
        case rel =>
          refine ⟨j + 1, _, by omega, ?_, hb5', hB5, ?_⟩
          · exact congrArg (Value.int .i64) (by omega)
          · show _ = _
            rw [decide_eq_false (by omega), ← hR'.out]; exact htc'.out
        case measure => omega
    · obtain rfl : j = m := by omega
      have hd0 : l.drop (2 * j) = [] := List.drop_of_length_le (by omega)
      rw [hd0, show mt txt (decide (j = 0)) [] = [] by simp [mt], List.append_nil] at htc
      rw [htc.out] at hbr
      have hlen : Hid ((t0 ++ [123] ++ mt txt true l).length + 1 ≤ 140737488355328) := by
        show _ ≤ _
        simp only [List.length_append, List.length_cons, List.length_nil]; omega
      obtain ⟨i', hi'⟩ : ∃ i', Hid (i' = 2 * j + 1) := ⟨_, rfl⟩
      have hi'' : ¬ (i' : Int) < 2 * (j : Int) := by have := hi'.out; omega
      rw [← hi'.out]
      clear htc hd0 hpt
      go_wp2_with (at_builtin; refine wpList_app_byts _ rfl _ _ rfl w0.heap.size _ _ rfl (World.ownsRow.alloc hbr.out _) ⟨wr.heap.size, 0, none⟩ 1 [125] rfl (cells_new _ [.int .u8 125] _) hlen.out (by have := hBr.out.size; simp; omega) ?_; intro v3 w3 hb3 hg3)
      have hB3 := bel_app hBr.out hbr.out hg3
      clear hg3
      go_ret
      refine ⟨v3, rfl, ?_, hB3⟩
      simpa using hb3

set_option maxHeartbeats 2000000 in
theorem pt_map (txt : V → List UInt8) (l : List V) (m : Nat) (hl2 : l.length = 2 * m) (d : Int) (hd0 : 0 ≤ d) (hd : d ≤ 8) (hpt : ∀ x ∈ l, PT x (d + 1) (txt x)) : PT (.mk 5 0 ⟨#[]⟩ l) d (123 :: (mt txt true l ++ [125])) := by
  intro w0 w b t0 sl hin hB hb ht
  have hS := ((V.in_iff _ _ _ _).1 hin).2.2.2
  simp only [V.l] at hS
  have hlen : t0.length + (mt txt true l).length + 2 ≤ 140737488355328 := by
    simp only [List.length_cons, List.length_append, List.length_nil] at ht
    omega
  unfold V.agg
  simp only [V.k, V.n, V.s]
  have hd' : ¬ (8 : Int) < d := by omega
  have j1 : IntKind.i64.wrap (d + 1) = d + 1 := by rw [IntKind.wrap_i64]; omega
  have c89 := putMap89 txt l m hl2 (d + 1) hpt w0 (w.alloc (.cells #[.int .i64 5, .int .i64 0, .string ⟨#[]⟩, sl] 24)) b t0 sl hS (hB.alloc hB.size _) (World.ownsRow.alloc hb _) hlen
  clear hpt ht hb
  go_enter Tryz.func62, Tryz.ntmps62
  go_wp2_with (go_at_call 89; refine c89.mono ?_; rintro e w1 ⟨b1, rfl, hb1, hB1⟩)
  go_ret
  exact ⟨b1, rfl, hb1, hB1⟩

set_option maxHeartbeats 1000000 in
theorem text41 (v : V) (t : List UInt8) (hpt : PT v 1 t) (ht : t.length ≤ 140737488355328) (sl : Value) (w : World) (hin : v.In w 0 sl) :
    Calls Tryz.prog 41 #[v.agg sl] w fun e w' => e = .returned (.string ⟨t.toArray⟩) ∧ Below w.heap.size w w' := by
  have c62 := hpt w (w.alloc (.cells #[.int .i64 v.k, .int .i64 v.n, .string v.s, sl] 24)) (.slice none 0 0) [] sl hin (bel1 w _) (World.ownsRow_nil _ _ _ _) (by simpa using ht)
  obtain ⟨p1, n1, q1, rfl⟩ := hin.header
  unfold V.agg at c62 ⊢
  clear hpt
  go_enter Tryz.func41, Tryz.ntmps41
  go_wp2_with (go_at_call 62; refine c62.mono ?_; rintro e w1 ⟨b1, rfl, hb1, hB1⟩; have hcv := bts_str hb1)
  go_ret
  exact ⟨rfl, hB1⟩
end Go.Proofs.YtbicodlclmdgaaaGreatDoor
