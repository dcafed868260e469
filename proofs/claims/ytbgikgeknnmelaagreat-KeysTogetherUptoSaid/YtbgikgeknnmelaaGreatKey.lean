/-
  What slices.Clone does with bytes; what putMarked, wordOf, putForm and Key of package codec do.
-/
import Derived.Test.YtbgikgeknnmelaaGreatBs
import Derived.Test.YtbgikgeknnmelaaGreatKeyM
import Derived.Laws.Bits64b
namespace Go.Proofs.YtbgikgeknnmelaaGreat
open Go.RowKit
set_option linter.unusedVariables false      -- a walk need not use every condition

theorem byte_one (l : List UInt8) : ∀ y ∈ (l.map fun d => Value.int .u8 d.toNat), y.oneCell' = true := by
  intro y hy
  obtain ⟨d, -, rfl⟩ := List.mem_map.1 hy
  rfl
/-- slices.Clone of nil. -/
theorem clone_nil (w : World) : Calls Tryz.prog 101 #[.slice none 0 0] w fun e w' => e = .returned (.slice none 0 0) ∧ w' = w := by
  have hsn := fun w => Lib.run_eql_slice_nil (P := Tryz.prog) w 36 5 none 0 0 0 0 Tryz.underlying36
  go_enter Tryz.func101, Tryz.ntmps101
  go_wp2
  go_ret
  exact ⟨rfl, rfl⟩
set_option maxHeartbeats 1000000 in
set_option maxRecDepth 20000 in
/-- slices.Clone: bytes of one's own. -/
theorem clone101 (w : World) (v : Value) (t : List UInt8) (h : Bs w v t) (ht : t.length ≤ 140737488355328) :
    Calls Tryz.prog 101 #[v] w fun e w' => ∃ b, e = .returned b ∧ Bts w' w.heap.size b t ∧ Below w.heap.size w w' := by
  obtain ⟨i0, hi, hz0, hz1, hz2⟩ := info_parts info5
  obtain ⟨p, cap, rfl, h1, h2, h3, h4⟩ := h
  have hsn := fun w => Lib.run_eql_slice_nil (P := Tryz.prog) w 36 5 p t.length cap 0 0 Tryz.underlying36
  have hlit : (w.alloc (.cells #[] 5)).ownsRow w.heap.size 5 1 (.slice (some ⟨w.heap.size, 0, none⟩) 0 0) 0 [] := World.ownsRow_lit w #[] 0 (Nat.le_refl _) (by decide) rfl
  have H3 := Lib.hid hlit
  clear hlit
  cases p with
  | none =>
    rcases h4 with rfl | ⟨g, o, e, -⟩
    · have h3' := h3 rfl
      subst h3'
      refine (clone_nil w).mono ?_
      rintro e w' ⟨rfl, rfl⟩
      exact ⟨_, rfl, World.ownsRow_nil _ _ _ _, Below.refl _ _⟩
    · cases e
  | some ad =>
    have hc : ∀ (ob : Obj) (j : Nat) (u : Value), (t.map fun d => Value.int .u8 d.toNat)[j]? = some u → (w.alloc ob).cell? (ad.add j) = some u := fun ob j u hj => by
      rcases h4 with rfl | ⟨g, o, e, hc⟩
      · rw [List.map_nil, List.getElem?_nil] at hj; cases hj
      · injection e with e
        subst e
        have hjl : j < t.length := by have := (List.getElem?_eq_some_iff.1 hj).1; simpa using this
        rw [Go.WideShapes.add_plain]
        rw [List.getElem?_map, List.getElem?_eq_getElem hjl] at hj
        simp only [Option.map_some, Option.some.injEq] at hj
        rw [← hj]
        exact some_on (bel1 w ob) (hc j hjl)
    have H1 := Lib.hid hc
    clear hc h4
    go_enter Tryz.func101, Tryz.ntmps101
    go_wp2_with (first
      | (at_builtin; refine wpList_append_own _ rfl _ _ 36 rfl w.heap.size 5 i0 (.int .u8 0) 1 1 Tryz.underlying36 hi hz0 hz1 hz2 rfl (by decide) _ _ _ rfl H3.out ad t.length cap (t.map fun d => Value.int .u8 d.toNat) rfl (by simp) (H1.out _) (byte_one t) (by unfold maxLen; omega) (by omega) (by simp) ?_)
      | go_in)
    intro v' w1 hown' hgrow _
    have hS : Below w.heap.size w w1 := ((Below.refl _ w).alloc (Nat.le_refl _) _).grown hgrow (by simp) (fun k e => by simp [Value.ownBlock] at e; omega)
    have HO : Hid (Bts w1 w.heap.size v' t) := by
      show Bts _ _ _ _
      unfold Bts
      simpa using hown'
    clear hgrow hown' H1 H3
    go_wp2
    go_ret
    exact ⟨_, rfl, HO.out, hS⟩

theorem take_snoc (s : ByteArray) (j : Nat) (hj : j < s.size) : s.data.toList.take (j + 1) = s.data.toList.take j ++ [s[j]] := by
  rw [List.take_succ_eq_append_getElem (by simpa using hj)]; rfl
theorem flat1_snoc (s : ByteArray) {j : Nat} (hj : j < s.size) : (s.data.toList.take (j + 1)).flatMap mk1 = (s.data.toList.take j).flatMap mk1 ++ mk1 s[j] := by
  rw [take_snoc s j hj, List.flatMap_append]; simp
theorem flat1_ge : ∀ l : List UInt8, l.length ≤ (l.flatMap mk1).length
  | [] => by simp
  | c :: l => by
    have h2 := flat1_ge l
    have h1 : 1 ≤ (mk1 c).length := by unfold mk1; split <;> simp
    simp only [List.flatMap_cons, List.length_append, List.length_cons]; omega

set_option maxHeartbeats 600000 in
set_option maxRecDepth 20000 in
theorem putMarked121 (s : ByteArray) (w0 w : World) (b : Value) (t0 : List UInt8) (hB : Below w0.heap.size w0 w) (hb : Bts w w0.heap.size b t0) (ht : t0.length + (marked s.data.toList).length ≤ 140737488355328) :
    Calls Tryz.prog 121 #[b, .string s] w fun e w' => ∃ b', e = .returned b' ∧ Bts w' w0.heap.size b' (t0 ++ marked s.data.toList) ∧ Below w0.heap.size w0 w' := by
  have ht' : t0.length + (s.data.toList.flatMap mk1).length + 2 ≤ 140737488355328 := by
    unfold marked at ht
    simp only [List.length_cons, List.length_append, List.length_nil] at ht
    omega
  have hsz : s.size ≤ 140737488355328 := by have := flat1_ge s.data.toList; rw [Array.length_toList] at this; have e : s.data.size = s.size := rfl; omega
  clear ht
  go_enter Tryz.func121, Tryz.ntmps121
  go_wp2
  go_loopg [0, 8] s.size (fun c v i wr => ∃ (j : Nat) (tc : List UInt8), c + j = s.size ∧ i = .int .i64 j ∧ Hid (tc = t0 ++ (s.data.toList.take j).flatMap mk1) ∧ Hid (tc.length + ((s.data.toList.drop j).flatMap mk1).length + 2 ≤ 140737488355328) ∧ Hid (Bts wr w0.heap.size v tc) ∧ Hid (Below w0.heap.size w0 wr))
  case atStart => exact ⟨0, t0, rfl, rfl, by show _ = _; simp, by show _ ≤ _; simp at ht' ⊢; omega, hb, hB⟩
  case round =>
    clear hb hB
    obtain ⟨j, tc, hj, rfl, htc, hlen, hbr, hBr⟩ := hrel
    by_cases hlt : j < s.size
    · have htk := flat1_snoc s hlt
      obtain ⟨c, hc⟩ : ∃ c, Hid (s[j] = c) := ⟨s[j], (rfl : s[j] = s[j])⟩
      have hnew : Hid (tc ++ mk1 c = t0 ++ (s.data.toList.take (j + 1)).flatMap mk1) := by
        show _ = _
        rw [htk, hc.out, htc.out]; simp
      obtain ⟨L, hLd⟩ : ∃ L, Hid (L = ((s.data.toList.drop (j + 1)).flatMap mk1).length) := ⟨((s.data.toList.drop (j + 1)).flatMap mk1).length, (rfl : _ = _)⟩
      have hL : tc.length + ((mk1 c).length + L) + 2 ≤ 140737488355328 := by
        have h1 := hlen.out
        rw [List.drop_eq_getElem_cons (show j < s.data.toList.length by simpa using hlt), List.flatMap_cons, List.length_append, ← hLd.out, show s.data.toList[j]'(by simpa using hlt) = c from hc.out] at h1
        exact h1
      clear htk
      by_cases h0 : c = 0
      · have hch : mk1 c = [0, 255] := by unfold mk1; rw [if_pos h0]
        have b1 : ((s[j].toNat : Int) == 0) = true := by rw [hc.out, h0]; decide
        have hcz : s[j] = 0 := by rw [hc.out, h0]
        rw [hch] at hnew hL
        simp only [List.length_cons, List.length_nil] at hL
        have hnew' : Hid (tc ++ [s[j]] ++ [255] = t0 ++ (s.data.toList.take (j + 1)).flatMap mk1) := by show _ = _; rw [← hnew.out, hcz]; simp
        clear h0 hch hnew hcz
        go_wp2_with (first
          | (at_builtin; refine wpList_app_byts _ rfl _ _ rfl w0.heap.size _ _ rfl (World.ownsRow.alloc hbr.out _) ⟨wr.heap.size, 0, none⟩ 1 [s[j]] rfl (cells_new _ [.int .u8 s[j].toNat] _) (by simp; omega) (by have := hBr.out.size; simp; omega) ?_; intro v3 w3 hb3 hg3; have hB3 := bel_app hBr.out hbr.out hg3; clear hg3 hbr)
          | (at_builtin; refine wpList_app_byts _ rfl _ _ rfl w0.heap.size _ _ rfl (World.ownsRow.alloc hb3 _) ⟨w3.heap.size, 0, none⟩ 1 [255] rfl (cells_new _ [.int .u8 255] _) (by simp; omega) (by have := hB3.size; simp; omega) ?_; intro v4 w4 hb4 hg4; have hB4 := bel_app hB3 hb3 hg4; clear hg4 hb3))
        go_roundg (gk - 1)
        case rel => exact ⟨j + 1, tc ++ [s[j]] ++ [255], by omega, by go_num, hnew', by show _ ≤ _; rw [← hLd.out]; simp; omega, hb4, hB4⟩
        case measure => omega
      · have hch : mk1 c = [c] := by unfold mk1; rw [if_neg h0]
        have b1 : ((s[j].toNat : Int) == 0) = false := by rw [hc.out]; have := pos_of_ne h0; simp; omega
        rw [hch] at hnew hL
        simp only [List.length_cons, List.length_nil] at hL
        have hnew' : Hid (tc ++ [s[j]] = t0 ++ (s.data.toList.take (j + 1)).flatMap mk1) := by show _ = _; rw [← hnew.out, hc.out]
        clear h0 hch hnew
        go_wp2_with (first
          | (at_builtin; refine wpList_app_byts _ rfl _ _ rfl w0.heap.size _ _ rfl (World.ownsRow.alloc hbr.out _) ⟨wr.heap.size, 0, none⟩ 1 [s[j]] rfl (cells_new _ [.int .u8 s[j].toNat] _) (by simp; omega) (by have := hBr.out.size; simp; omega) ?_; intro v3 w3 hb3 hg3; have hB3 := bel_app hBr.out hbr.out hg3; clear hg3 hbr))
        go_roundg (gk - 1)
        case rel => exact ⟨j + 1, tc ++ [s[j]], by omega, by go_num, hnew', by show _ ≤ _; rw [← hLd.out]; simp; omega, hb3, hB3⟩
        case measure => omega
    · obtain rfl : j = s.size := by omega
      have htk : s.data.toList.take s.size = s.data.toList := List.take_of_length_le (by simp)
      rw [htk] at htc
      clear htk
      have hlen' := hlen.out
      go_wp2_with (at_builtin; refine wpList_app_byts _ rfl _ _ rfl w0.heap.size _ _ rfl (World.ownsRow.alloc hbr.out _) ⟨wr.heap.size, 0, none⟩ 2 [0, 1] rfl (cells_new _ [.int .u8 0, .int .u8 1] _) (by simp; omega) (by have := hBr.out.size; simp; omega) ?_; intro v3 w3 hb3 hg3)
      have hB3 := bel_app hBr.out hbr.out hg3
      clear hg3
      rw [htc.out] at hb3
      go_ret
      refine ⟨v3, rfl, ?_, hB3⟩
      unfold marked
      simpa using hb3
end Go.Proofs.YtbgikgeknnmelaaGreat
