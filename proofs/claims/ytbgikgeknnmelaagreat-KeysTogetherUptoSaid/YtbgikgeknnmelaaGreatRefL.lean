/-
  The document's Key (rambleref03): strings, and the whole.
-/
import Derived.Test.YtbgikgeknnmelaaGreatRefK
namespace Go.Proofs.YtbgikgeknnmelaaGreat
open Go.RowKit
set_option linter.unusedVariables false      -- a walk need not use every condition

theorem app_blk {w w' : World} {base : Nat} {v : Value} {t : List UInt8} {ob : Obj} {g : Nat} {cs : Array Value} (hb : Bts w base v t) (hk : w.heap[g]? = some (.cells cs 29)) (hg : (w.alloc ob).grownBy w' v.ownBlock) : w'.heap[g]? = some (.cells cs 29) :=
  (hg.block g (by have := (Array.getElem?_eq_some_iff.1 hk).1; simp; omega) (own_ne hb hk)).trans (blk_old hk)
set_option maxHeartbeats 1000000 in
set_option maxRecDepth 20000 in
theorem refForm_str (s : ByteArray) (hs : s.size ≤ 128) (w : World) (sl : Value) (hin : (V.mk 2 0 s []).In w 0 sl) :
    Calls Tryz.prog 104 #[(V.mk 2 0 s []).agg sl] w fun e w' => ∃ b, e = .returned b ∧ Bts w' w.heap.size b (kForm (.mk 2 0 s [])) ∧ Below w.heap.size w w' := by
  obtain ⟨p1, n1, q1, rfl⟩ := hin.header
  rw [kForm_str]
  unfold V.agg
  simp only [V.k, V.n, V.s]
  have hlit := bts_lit1 (w.alloc (.cells #[.int .i64 2, .int .i64 0, .string s, .slice p1 n1 q1] 29)) w.heap.size (by simp) 2
  rw [World.size_alloc] at hlit
  have hB1 := bel2 w (.cells #[.int .i64 2, .int .i64 0, .string s, .slice p1 n1 q1] 29) (.cells #[.int .u8 (2 : UInt8).toNat] 5)
  have hk1 := blk_old (o' := .cells #[.int .u8 (2 : UInt8).toNat] 5) (blk_new w (.cells #[.int .i64 2, .int .i64 0, .string s, .slice p1 n1 q1] 29))
  have hfl : (s.data.toList.flatMap mk1).length ≤ 256 := by have := flat1_len s.data.toList; have e : s.data.toList.length = s.size := Array.length_toList; omega
  go_enter Tryz.func104, Tryz.ntmps104
  go_wp2
  go_loopg [3, 4] s.size (fun c v i wr => ∃ (j : Nat) (tc : List UInt8), c + j = s.size ∧ i = .int .i64 j ∧ Hid (tc = [2] ++ (s.data.toList.take j).flatMap mk1) ∧ Hid (tc.length + ((s.data.toList.drop j).flatMap mk1).length ≤ 300) ∧ Hid (Bts wr w.heap.size v tc) ∧ Hid (wr.heap[w.heap.size]? = some (.cells #[.int .i64 2, .int .i64 0, .string s, .slice p1 n1 q1] 29)) ∧ Hid (Below w.heap.size w wr))
  case atStart => exact ⟨0, [2], rfl, rfl, (rfl : _ = _), by show _ ≤ _; simp at hfl ⊢; omega, hlit, hk1, hB1⟩
  case round =>
    clear hlit hB1 hk1
    obtain ⟨j, tc, hj, rfl, htc, hlen, hbr, hkr, hBr⟩ := hrel
    obtain ⟨y0, y1, y2, y3, yf⟩ := four_of hkr.out
    have hle := hlen.out
    by_cases hlt : j < s.size
    · have htk := flat1_snoc s hlt
      obtain ⟨c, hc⟩ : ∃ c, Hid (s[j] = c) := ⟨s[j], (rfl : s[j] = s[j])⟩
      have hnew : Hid (tc ++ mk1 c = [2] ++ (s.data.toList.take (j + 1)).flatMap mk1) := by
        show _ = _
        rw [htk, hc.out, htc.out]; simp
      obtain ⟨L, hLd⟩ : ∃ L, Hid (L = ((s.data.toList.drop (j + 1)).flatMap mk1).length) := ⟨((s.data.toList.drop (j + 1)).flatMap mk1).length, (rfl : _ = _)⟩
      have hL : tc.length + ((mk1 c).length + L) ≤ 300 := by
        have h1 := hlen.out
        rw [List.drop_eq_getElem_cons (show j < s.data.toList.length by simpa using hlt), List.flatMap_cons, List.length_append, ← hLd.out, show s.data.toList[j]'(by simpa using hlt) = c from hc.out] at h1
        exact h1
      clear htk hle hlen
      by_cases h0 : c = 0
      · have hch : mk1 c = [0, 255] := by unfold mk1; rw [if_pos h0]
        have b1 : ((s[j].toNat : Int) == 0) = true := by rw [hc.out, h0]; decide
        have hcz : s[j] = 0 := by rw [hc.out, h0]
        rw [hch] at hnew hL
        simp only [List.length_cons, List.length_nil] at hL
        have hnew' : Hid (tc ++ [s[j]] ++ [255] = [2] ++ (s.data.toList.take (j + 1)).flatMap mk1) := by show _ = _; rw [← hnew.out, hcz]; simp
        clear h0 hch hnew hcz
        go_wp2_with (first
          | (at_builtin; refine wpList_app_byts _ rfl _ _ rfl w.heap.size _ _ rfl (World.ownsRow.alloc hbr.out _) ⟨wr.heap.size, 0, none⟩ 1 [s[j]] rfl (cells_new _ [.int .u8 s[j].toNat] _) (by simp; omega) (by have := hBr.out.size; simp; omega) ?_; intro v3 w3 hb3 hg3; have hB3 := bel_app hBr.out hbr.out hg3; have hk3 := app_blk hbr.out hkr.out hg3; obtain ⟨z0, z1, z2, z3, zf⟩ := four_of hk3; clear hg3 hbr)
          | (at_builtin; refine wpList_app_byts _ rfl _ _ rfl w.heap.size _ _ rfl (World.ownsRow.alloc hb3 _) ⟨w3.heap.size, 0, none⟩ 1 [255] rfl (cells_new _ [.int .u8 255] _) (by simp; omega) (by have := hB3.size; simp; omega) ?_; intro v4 w4 hb4 hg4; have hB4 := bel_app hB3 hb3 hg4; have hk4 := app_blk hb3 hk3 hg4; clear hg4 hb3))
        go_roundg (gk - 1)
        case rel => exact ⟨j + 1, tc ++ [s[j]] ++ [255], by omega, by go_num, hnew', by show _ ≤ _; rw [← hLd.out]; simp; omega, hb4, hk4, hB4⟩
        case measure => omega
      · have hch : mk1 c = [c] := by unfold mk1; rw [if_neg h0]
        have b1 : ((s[j].toNat : Int) == 0) = false := by rw [hc.out]; have := pos_of_ne h0; simp; omega
        rw [hch] at hnew hL
        simp only [List.length_cons, List.length_nil] at hL
        have hnew' : Hid (tc ++ [s[j]] = [2] ++ (s.data.toList.take (j + 1)).flatMap mk1) := by show _ = _; rw [← hnew.out, hc.out]
        clear h0 hch hnew
        go_wp2_with (first
          | (at_builtin; refine wpList_app_byts _ rfl _ _ rfl w.heap.size _ _ rfl (World.ownsRow.alloc hbr.out _) ⟨wr.heap.size, 0, none⟩ 1 [s[j]] rfl (cells_new _ [.int .u8 s[j].toNat] _) (by simp; omega) (by have := hBr.out.size; simp; omega) ?_; intro v3 w3 hb3 hg3; have hB3 := bel_app hBr.out hbr.out hg3; have hk3 := app_blk hbr.out hkr.out hg3; obtain ⟨z0, z1, z2, z3, zf⟩ := four_of hk3; clear hg3 hbr))
        go_roundg (gk - 1)
        case rel => exact ⟨j + 1, tc ++ [s[j]], by omega, by go_num, hnew', by show _ ≤ _; rw [← hLd.out]; simp; omega, hb3, hk3, hB3⟩
        case measure => omega
    · obtain rfl : j = s.size := by omega
      have htk : s.data.toList.take s.size = s.data.toList := List.take_of_length_le (by simp)
      rw [htk] at htc
      clear htk
      go_wp2_with (at_builtin; refine wpList_app_byts _ rfl _ _ rfl w.heap.size _ _ rfl (World.ownsRow.alloc hbr.out _) ⟨wr.heap.size, 0, none⟩ 2 [0, 1] rfl (cells_new _ [.int .u8 0, .int .u8 1] _) (by simp; omega) (by have := hBr.out.size; simp; omega) ?_; intro v3 w3 hb3 hg3; have hB3 := bel_app hBr.out hbr.out hg3; clear hg3)
      rw [htc.out] at hb3
      go_ret
      refine ⟨v3, rfl, ?_, hB3⟩
      unfold marked
      simpa using hb3
theorem refForm104 (v : V) (hv : bad v = 0) (w : World) (sl : Value) (hin : v.In w 0 sl) :
    Calls Tryz.prog 104 #[v.agg sl] w fun e w' => ∃ b, e = .returned b ∧ Bts w' w.heap.size b (kForm v) ∧ Below w.heap.size w w' := by
  cases kk_of hv with
  | num k n hk => exact refForm_num k n hk w sl hin
  | bool n hn => exact refForm_bool n hn w sl hin
  | str s hs => exact refForm_str s hs w sl hin
set_option maxHeartbeats 2000000 in
set_option maxRecDepth 20000 in
theorem refKey79 (l : List V) (sl : Value) (w : World) (hl : Sl w 0 l sl) (hsz : (keyL l).length ≤ 140737488355328) :
    Calls Tryz.prog 79 #[sl] w (KeyR l w) := by
  obtain ⟨p, cap, rfl, hc, hcm, h56, hx⟩ := hl
  unfold maxLen at hcm
  go_enter Tryz.func79, Tryz.ntmps79
  go_wp2
  go_loopg [4, 5] l.length (fun c v i wr => ∃ (j : Nat), c + j = l.length ∧ i = .int .i64 j ∧ Hid (∀ i (hi : i < l.length), i < j → bad l[i] = 0) ∧ Hid (Bts wr w.heap.size v (keyL (l.take j))) ∧ Hid (Below w.heap.size w wr))
  case atStart => exact ⟨0, rfl, rfl, fun i _ h => absurd h (Nat.not_lt_zero _), World.ownsRow_nil _ _ _ _, Below.refl _ _⟩
  case round =>
    obtain ⟨j, hj, rfl, hall, hbr, hBr⟩ := hrel
    by_cases hlt : j < l.length
    · obtain ⟨bx, ox, rfl, -, hx1⟩ := hx.resolve_left (by intro e; rw [e] at hlt; simp at hlt)
      obtain ⟨sk, k0, k1, k2, k3, hk⟩ := hx1.at j hlt
      have hB := hBr.out
      have y0 := some_on hB k0
      have y1 := some_on hB k1
      have y2 := some_on hB k2
      have y3 := some_on hB k3
      have c30 := refCheck14 (l[j]'hlt) sk wr (hk.on hB)
      have c33 := fun hb u h => refForm104 (l[j]'hlt) hb u sk h
      have hsp := keyL_split hlt
      have hkt := Lib.hid (keyL_take hlt)
      have hkp := kForm_pos (l[j]'hlt)
      have hat := Lib.hid (fun h => bads_at hlt hall.out h)
      have hall' : Hid (bad l[j] = 0 → ∀ i (hi : i < l.length), i < j + 1 → bad l[i] = 0) := fun h i hi hij => by
        by_cases e : i = j
        · subst e; exact h
        · exact hall.out i hi (by omega)
      unfold V.err at c30
      clear hall
      generalize l[j] = x at *
      unfold V.agg at c30 c33
      obtain ⟨pk, nk, ck, rfl⟩ := hk.header
      clear k0 k1 k2 k3 hx hx1
      cases hm : x.may 1 with
      | false =>
        have hbad : bad x = 20 := by unfold bad; rw [hm]; rfl
        rw [hm] at c30
        simp only [Bool.false_eq_true, if_false] at c30
        have hat' : Hid (bads l = 20) := (hat.out (by omega)).trans hbad
        clear hm hat hall' c33
        go_wp2_with (go_at_call 58; refine c30.mono ?_; rintro e w1 ⟨rfl, hb1⟩)
        go_ret2
        exact KeyR.no hat'.out (by decide) (hB.trans (hb1.mono hB.size))
      | true =>
        rw [hm] at c30
        simp only [if_true] at c30
        by_cases h45 : x.k = 4 ∨ x.k = 5
        · have hbad : bad x = 21 := by unfold bad; rw [hm, if_neg (by decide), if_pos h45]
          have hat' : Hid (bads l = 21) := (hat.out (by omega)).trans hbad
          clear hm hat hall' c33
          rcases h45 with h4 | h5
          · have e1 : (x.k == 4) = true := by simp [h4]
            clear h4
            go_wp2_with (go_at_call 58; refine c30.mono ?_; rintro e w1 ⟨rfl, hb1⟩; have z0 := some_on hb1 y0)
            go_ret2
            exact KeyR.no hat'.out (by decide) (hB.trans (hb1.mono hB.size))
          · have e1 : (x.k == 4) = false := by simp [h5]
            have e2 : (x.k == 5) = true := by simp [h5]
            clear h5
            go_wp2_with (go_at_call 58; refine c30.mono ?_; rintro e w1 ⟨rfl, hb1⟩; have z0 := some_on hb1 y0)
            go_ret2
            exact KeyR.no hat'.out (by decide) (hB.trans (hb1.mono hB.size))
        · have hbad : bad x = 0 := by unfold bad; rw [hm, if_neg (by decide), if_neg h45]
          have e1 : (x.k == 4) = false := by simp; omega
          have e2 : (x.k == 5) = false := by simp; omega
          have c33 := c33 hbad
          have hall' := Lib.hid (hall'.out hbad)
          clear hm hat h45 hbad
          go_wp2_with (first
            | (go_at_call 58; refine c30.mono ?_; rintro e w1 ⟨rfl, hb1⟩; have z0 := some_on hb1 y0; have z1 := some_on hb1 y1; have z2 := some_on hb1 y2; have z3 := some_on hb1 y3; have hB1 := hB.trans (hb1.mono hB.size); have hin1 := hk.on hB1; have hO1 : Bts w1 w.heap.size _ _ := own_bel hbr.out hb1)
            | (go_at_call 104; refine (c33 _ hin1).mono ?_; rintro e w2 ⟨b2, rfl, hb2, hB2⟩; obtain ⟨g2, cap2, rfl, hc2⟩ := hb2.told hkp; have hO2 : Bts w2 w.heap.size _ _ := own_bel hO1 hB2; have hB2' := hB1.trans (hB2.mono hB1.size); clear hb2)
            | (at_builtin; refine wpList_app_byts _ rfl _ _ rfl w.heap.size _ _ rfl hO2 ⟨g2, 0, none⟩ cap2 (kForm x) rfl hc2 (by omega) hB2'.size ?_; intro v3 w3 hb3 hg3; have hB3 := below_app hB2' hO2 hg3; clear hg3))
          have hb3' : Hid (Bts w3 w.heap.size v3 (keyL (l.take (j + 1)))) := by show Bts _ _ _ _; rw [hkt.out]; exact hb3
          clear hb3
          go_roundg (gk - 1)
          case rel => exact ⟨j + 1, by omega, by go_num, hall', hb3', hB3⟩
          case measure => omega
    · obtain rfl : j = l.length := by omega
      have hz : Hid (bads l = 0) := bads_all fun i hi => hall.out i hi hi
      have hbr' : Hid (Bts wr w.heap.size u4 (keyL l)) := by have := hbr.out; rwa [List.take_length] at this
      clear hall hbr hx
      go_wp2
      go_ret2
      unfold KeyR
      rw [hz.out]
      exact ⟨u4, rfl, hbr'.out, hBr.out⟩
end Go.Proofs.YtbgikgeknnmelaaGreat
