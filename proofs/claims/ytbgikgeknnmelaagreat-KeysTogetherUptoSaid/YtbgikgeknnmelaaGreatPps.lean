/-
  isId, numbers, putText, putProps of package keys.
-/
import Derived.Test.YtbgikgeknnmelaaGreatKey3
namespace Go.Proofs.YtbgikgeknnmelaaGreat
open Go.RowKit
set_option linter.unusedVariables false      -- a walk need not use every condition

set_option maxHeartbeats 400000 in
theorem isId40 (n : Int) (w : World) : Calls Tryz.prog 40 #[.int .i64 n] w fun e w' => e = .returned (.bool (idB n)) ∧ w' = w := by
  unfold idB
  by_cases h1 : 1 ≤ n
  · by_cases h2 : n ≤ 281474976710656
    · rw [decide_eq_true h1, decide_eq_true h2]
      go_enter Tryz.func40, Tryz.ntmps40
      go_wp2
      go_ret
      exact ⟨rfl, rfl⟩
    · rw [decide_eq_true h1, decide_eq_false h2]
      go_enter Tryz.func40, Tryz.ntmps40
      go_wp2
      go_ret
      exact ⟨rfl, rfl⟩
  · rw [decide_eq_false h1, Bool.false_and]
    go_enter Tryz.func40, Tryz.ntmps40
    go_wp2
    go_ret
    exact ⟨rfl, rfl⟩
/-- A slice of whole numbers. -/
def Ns (w : World) (v : Value) (l : List Int) : Prop := ∃ p cap, v = .slice p l.length cap ∧ l.length ≤ cap ∧ cap ≤ maxLen ∧ (∀ n ∈ l, I64 n) ∧
  (l = [] ∨ ∃ g o, p = some ⟨g, o, none⟩ ∧ ∀ i (h : i < l.length), w.cell? ⟨g, o + i, none⟩ = some (.int .i64 l[i]))
theorem ns_lit (W : World) (l : List Int) (hl : ∀ n ∈ l, I64 n) (hm : l.length ≤ maxLen) : Ns (W.alloc (.cells (l.map fun n => Value.int .i64 n).toArray 2)) (.slice (some ⟨W.heap.size, 0, none⟩) l.length l.length) l := by
  refine ⟨_, l.length, rfl, Nat.le_refl _, hm, hl, .inr ⟨W.heap.size, 0, rfl, fun i hi => ?_⟩⟩
  have hc := cells_new W (l.map fun n => Value.int .i64 n) 2 i (.int .i64 l[i]) (by simp [hi])
  rw [Go.WideShapes.add_plain] at hc
  exact hc
theorem numsQ_take {l : List Int} {j : Nat} (hj : j < l.length) : numsQ (l.take (j + 1)) = numsQ (l.take j) ++ numQ l[j] := by
  unfold numsQ
  rw [List.take_succ_eq_append_getElem hj, List.flatMap_append]; simp
theorem numQ_pos_of {u : Nat} : numQ (u : Int) = enc u := by unfold numQ; rw [show (max (u : Int) 0).toNat = u by omega]
theorem numQ_neg {n : Int} (h : n < 0) : numQ n = enc 0 := by unfold numQ; rw [show (max n 0).toNat = 0 by omega]
set_option maxHeartbeats 1000000 in
set_option maxRecDepth 20000 in
theorem numbers50 (l : List Int) (hll : l.length ≤ 100) (sl : Value) (w : World) (hl : Ns w sl l) : Calls Tryz.prog 50 #[sl] w (AppR w (numsQ l)) := by
  obtain ⟨p, cap, rfl, hc, hcm, hI, hx⟩ := hl
  unfold maxLen at hcm
  go_enter Tryz.func50, Tryz.ntmps50
  go_wp2
  go_loopg [3, 8] l.length (fun c v i wr => ∃ (j : Nat) (tc : List UInt8), c + j = l.length ∧ i = .int .i64 j ∧ Hid (tc = numsQ (l.take j)) ∧ tc.length ≤ 10 * j ∧ Hid (Bts wr w.heap.size v tc) ∧ Hid (Below w.heap.size w wr))
  case atStart => exact ⟨0, [], rfl, rfl, (rfl : _ = _), Nat.le_refl _, World.ownsRow_nil _ _ _ _, Below.refl _ _⟩
  case round =>
    obtain ⟨j, tc, hj, rfl, htc, hlen, hbr, hBr⟩ := hrel
    by_cases hlt : j < l.length
    · obtain ⟨g, o, rfl, hcell⟩ := hx.resolve_left (by intro e; rw [e] at hlt; simp at hlt)
      have c0 := some_on hBr.out (hcell j hlt)
      have hIj := hI l[j] (List.getElem_mem hlt)
      have hnt := numsQ_take hlt
      have hql := numQ_len l[j]
      obtain ⟨n, hn⟩ : ∃ n, l[j] = n := ⟨_, rfl⟩
      rw [hn] at c0 hIj hnt hql
      have hO := hbr.out
      have hB := hBr.out
      clear hcell hI hn hx
      by_cases h0 : 0 ≤ n
      · obtain ⟨u, rfl⟩ := Int.eq_ofNat_of_zero_le h0
        rw [numQ_pos_of] at hnt hql
        have hnew : Hid (tc ++ enc u = numsQ (l.take (j + 1))) := by show _ = _; rw [hnt, htc.out]
        clear hnt htc
        unfold I64 at hIj
        have c75 := fun w => putNil75 u (by omega) w
        generalize enc u = E at *
        go_wp2_with (first
          | (go_at_call 75; refine (c75 _).mono ?_; rintro e w1 ⟨v1, rfl, hb1, hB1⟩; have hB2 := bel_then hB (hB1.mono (Nat.le_refl _)); have hO1 : Bts w1 w.heap.size _ tc := own_bel hO hB1; have hbs := hb1.bs)
          | (at_builtin; refine wpList_app_bs _ rfl _ _ rfl w.heap.size _ tc rfl hO1 _ E rfl hbs (by omega) hB2.size ?_; intro v3 w3 hb3 hg3; have hB3 := below_app hB2 hO1 hg3; clear hg3))
        go_roundg (gk - 1)
        case rel => exact ⟨j + 1, tc ++ E, by omega, by go_num, hnew, by simp; omega, hb3, hB3⟩
        case measure => omega
      · have hneg : n < 0 := by omega
        rw [numQ_neg hneg] at hnt hql
        have hnew : Hid (tc ++ enc 0 = numsQ (l.take (j + 1))) := by show _ = _; rw [hnt, htc.out]
        clear hnt htc
        unfold I64 at hIj
        have c75 := fun w => putNil75 0 (by omega) w
        generalize enc 0 = E at *
        go_wp2_with (first
          | (go_at_call 75; refine (c75 _).mono ?_; rintro e w1 ⟨v1, rfl, hb1, hB1⟩; have hB2 := bel_then hB (hB1.mono (Nat.le_refl _)); have hO1 : Bts w1 w.heap.size _ tc := own_bel hO hB1; have hbs := hb1.bs)
          | (at_builtin; refine wpList_app_bs _ rfl _ _ rfl w.heap.size _ tc rfl hO1 _ E rfl hbs (by omega) hB2.size ?_; intro v3 w3 hb3 hg3; have hB3 := below_app hB2 hO1 hg3; clear hg3))
        go_roundg (gk - 1)
        case rel => exact ⟨j + 1, tc ++ E, by omega, by go_num, hnew, by simp; omega, hb3, hB3⟩
        case measure => omega
    · obtain rfl : j = l.length := by omega
      rw [List.take_length] at htc
      go_wp2
      go_ret
      exact ⟨_, rfl, by rw [← htc.out]; exact hbr.out, hBr.out⟩
set_option maxHeartbeats 1000000 in
set_option maxRecDepth 20000 in
theorem putText43 (s : ByteArray) (hs : s.size ≤ 1048570) (w0 w : World) (b : Value) (t0 : List UInt8) (hB : Below w0.heap.size w0 w) (hb : Bts w w0.heap.size b t0) (ht : t0.length ≤ 140737478355328) :
    Calls Tryz.prog 43 #[b, .string s] w (AppR w0 (t0 ++ textQ s)) := by
  have hs0 : s.size ≤ 1048570 := hs
  have hlit := ns_lit w [(s.size : Int)] (by intro n hn; simp at hn; subst hn; unfold I64; omega) (by unfold maxLen; simp)
  have c50 := numbers50 [(s.size : Int)] (by simp) _ _ hlit
  have hq : t0 ++ textQ s = t0 ++ numsQ [(s.size : Int)] ++ s.data.toList := by simp [textQ, numsQ]
  rw [hq]
  have hp : 0 < (numsQ [(s.size : Int)]).length := by have := numQ_pos s.size; simpa [numsQ] using this
  have hl := numsQ_len [(s.size : Int)]
  simp only [List.length_cons, List.length_nil] at hl
  generalize numsQ [(s.size : Int)] = Q at *
  have hB0 := hB.trans ((bel1 w (.cells #[.int .i64 (s.size : Int)] 2)).mono hB.size)
  have hb0 := World.ownsRow.alloc hb (.cells #[.int .i64 (s.size : Int)] 2)
  clear hlit
  go_enter Tryz.func43, Tryz.ntmps43
  go_wp2_with (first
    | (go_at_call 50; refine c50.mono ?_; rintro e w1 ⟨b1, rfl, hb1, hB1⟩; have hB2 := hB0.trans (hB1.mono hB0.size); have hO1 : Bts w1 w0.heap.size b t0 := own_bel hb0 hB1; have hbs := hb1.bs)
    | (at_builtin; refine wpList_app_bs _ rfl _ _ rfl w0.heap.size _ t0 rfl hO1 _ Q rfl hbs (by omega) hB2.size ?_; intro v3 w3 hb3 hg3; have hB3 := below_app hB2 hO1 hg3; clear hg3)
    | (at_builtin; refine wpList_app_str _ rfl _ _ rfl rfl w0.heap.size _ (t0 ++ Q) rfl hb3 s rfl (.inr (by simp; omega)) (by simp; omega) hB3.size ?_; intro v4 w4 hb4 hg4; have hB4 := below_app hB3 hb3 hg4; clear hg4))
  go_ret
  exact ⟨v4, rfl, hb4, hB4⟩
end Go.Proofs.YtbgikgeknnmelaaGreat
