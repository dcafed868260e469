/-
  What Text of package value does with strings.
-/
import Derived.Test.YtbicodlclmdgaaaGreatDoorTextG
namespace Go.Proofs.YtbicodlclmdgaaaGreatDoor
open Go.RowKit
set_option linter.unusedVariables false      -- a walk need not use every condition

theorem flat_snoc (s : ByteArray) {j : Nat} (hj : j < s.size) : (s.data.toList.take (j + 1)).flatMap chT = (s.data.toList.take j).flatMap chT ++ chT s[j] := by
  rw [take_snoc s j hj, List.flatMap_append]; simp
theorem and15 (c : UInt8) : bits .and .u8 (c.toNat : Int) 15 = ((c.toNat % 16 : Nat) : Int) := by
  have h : ∀ n, n < 256 → bits .and .u8 ((n : Nat) : Int) 15 = ((n % 16 : Nat) : Int) := by decide +kernel
  exact h c.toNat (UInt8.toNat_lt c)
theorem hex_at {a : Nat} (h : a < 16) : (⟨#[48, 49, 50, 51, 52, 53, 54, 55, 56, 57, 97, 98, 99, 100, 101, 102]⟩ : ByteArray)[a]'h = hexd a := by
  have k : ∀ a (h : a < 16), (⟨#[48, 49, 50, 51, 52, 53, 54, 55, 56, 57, 97, 98, 99, 100, 101, 102]⟩ : ByteArray)[a]'h = hexd a := by decide +kernel
  exact k a h
set_option maxHeartbeats 600000 in
set_option maxRecDepth 20000 in
theorem putStr86g (s : ByteArray) (w0 w : World) (b : Value) (t0 : List UInt8) (hB : Below w0.heap.size w0 w) (hb : Bts w w0.heap.size b t0) (ht : t0.length + (strT s.data.toList).length ≤ 140737488355328) :
    Calls Tryz.prog 86 #[b, .string s] w fun e w' => ∃ b', e = .returned b' ∧ Bts w' w0.heap.size b' (t0 ++ strT s.data.toList) ∧ Below w0.heap.size w0 w' := by
  obtain ⟨i0, hi, hz0, hz1, hz2⟩ := info_parts info5
  have ht' : t0.length + 1 + (s.data.toList.flatMap chT).length + 1 ≤ 140737488355328 := by
    unfold strT at ht
    simp only [List.length_cons, List.length_append, List.length_nil] at ht
    omega
  clear ht
  go_enter Tryz.func86, Tryz.ntmps86
  go_wp2_with (at_builtin; refine wpList_app_byts _ rfl _ _ rfl w0.heap.size _ t0 rfl (World.ownsRow.alloc hb _) ⟨w.heap.size, 0, none⟩ 1 [39] rfl (cells_new _ [.int .u8 39] _) (by simp; omega) (by have := hB.size; simp; omega) ?_; intro v1 w1 hb1 hg1)
  have hB1 := bel_app hB hb hg1
  clear hg1
  go_loopg [0, 12] s.size (fun c v i wr => ∃ (j : Nat) (tc : List UInt8), c + j = s.size ∧ i = .int .i64 j ∧ Hid (tc = t0 ++ [39] ++ (s.data.toList.take j).flatMap chT) ∧ Hid (tc.length + ((s.data.toList.drop j).flatMap chT).length + 1 ≤ 140737488355328) ∧ Hid (Bts wr w0.heap.size v tc) ∧ Hid (Below w0.heap.size w0 wr))
  case atStart => exact ⟨0, t0 ++ [39], rfl, rfl, by show _ = _; simp, by show _ ≤ _; simp at ht' ⊢; omega, hb1, hB1⟩
  case round =>
    clear hb1 hB1
    obtain ⟨j, tc, hj, rfl, htc, hlen, hbr, hBr⟩ := hrel
    by_cases hlt : j < s.size
    · have htk := flat_snoc s hlt
      obtain ⟨c, hc⟩ : ∃ c, Hid (s[j] = c) := ⟨s[j], (rfl : s[j] = s[j])⟩
      have hcl := chT_len c
      have hnew : Hid (tc ++ chT c = t0 ++ [39] ++ (s.data.toList.take (j + 1)).flatMap chT) := by
        show _ = _
        rw [htk, hc.out, htc.out]; simp
      obtain ⟨L, hLd⟩ : ∃ L, Hid (L = ((s.data.toList.drop (j + 1)).flatMap chT).length) := ⟨((s.data.toList.drop (j + 1)).flatMap chT).length, (rfl : _ = _)⟩
      have hL : tc.length + ((chT c).length + L) + 1 ≤ 140737488355328 := by
        have h1 := hlen.out
        rw [List.drop_eq_getElem_cons (show j < s.data.toList.length by simpa using hlt), List.flatMap_cons, List.length_append, ← hLd.out, show s.data.toList[j]'(by simpa using hlt) = c from hc.out] at h1
        exact h1
      have hsj : j < 140737488355328 := by have := flat_len (s.data.toList); rw [Array.length_toList] at this; have e : s.data.size = s.size := rfl; omega
      have hwj : IntKind.i64.wrap ((j : Int) + 1) = ((j + 1 : Nat) : Int) := by rw [IntKind.wrap_i64]; omega
      clear htk
      by_cases hq : c.toNat = 39 ∨ c.toNat = 92
      · have hch : chT c = [92, c] := by unfold chT; rw [if_pos hq]
        rw [hch] at hnew hL
        simp only [List.length_cons, List.length_nil] at hL
        rcases hq with h39 | h92
        · have b1 : ((s[j].toNat : Int) == 39) = true := by rw [hc.out]; simp; omega
          clear h39 hch
          go_wp2_with (at_builtin; refine wpList_app_byts _ rfl _ _ rfl w0.heap.size _ _ rfl (World.ownsRow.alloc hbr.out _) ⟨wr.heap.size, 0, none⟩ 2 [92, s[j]] rfl (cells_new _ [.int .u8 92, .int .u8 s[j].toNat] _) (by simp; omega) (by have := hBr.out.size; simp; omega) ?_; intro v3 w3 hb3 hg3)
          have hB3 := bel_app hBr.out hbr.out hg3
          clear hg3
          go_roundg (gk - 1)
          case rel => exact ⟨j + 1, tc ++ [92, s[j]], by omega, by go_num, by rw [hc.out]; exact hnew, by show _ ≤ _; rw [← hLd.out]; simp; omega, hb3, hB3⟩
          case measure => omega
        · have b1 : ((s[j].toNat : Int) == 39) = false := by rw [hc.out]; simp; omega
          have b2 : ((s[j].toNat : Int) == 92) = true := by rw [hc.out]; simp; omega
          clear h92 hch
          go_wp2_with (at_builtin; refine wpList_app_byts _ rfl _ _ rfl w0.heap.size _ _ rfl (World.ownsRow.alloc hbr.out _) ⟨wr.heap.size, 0, none⟩ 2 [92, s[j]] rfl (cells_new _ [.int .u8 92, .int .u8 s[j].toNat] _) (by simp; omega) (by have := hBr.out.size; simp; omega) ?_; intro v3 w3 hb3 hg3)
          have hB3 := bel_app hBr.out hbr.out hg3
          clear hg3
          go_roundg (gk - 1)
          case rel => exact ⟨j + 1, tc ++ [92, s[j]], by omega, by go_num, by rw [hc.out]; exact hnew, by show _ ≤ _; rw [← hLd.out]; simp; omega, hb3, hB3⟩
          case measure => omega
      · have b1 : ((s[j].toNat : Int) == 39) = false := by rw [hc.out]; simp; omega
        have b2 : ((s[j].toNat : Int) == 92) = false := by rw [hc.out]; simp; omega
        cases hn : noSg c with
        | false =>
          have hch : chT c = [c] := by unfold chT; rw [if_neg hq, hn]; rfl
          rw [hch] at hnew hL
          simp only [List.length_cons, List.length_nil] at hL
          have n1 : (decide ((s[j].toNat : Int) < 32) || decide (126 < (s[j].toNat : Int))) = false := by rw [hc.out]; unfold noSg at hn; simp at hn ⊢; omega
          have c105 := fun w => noSign_is _ _ n1 w
          clear hq hch hn n1
          go_wp2_with (first
            | (go_at_call 105; refine (c105 _).mono ?_; rintro e w2 ⟨rfl, rfl⟩)
            | (at_builtin; refine wpList_app_byts _ rfl _ _ rfl w0.heap.size _ _ rfl (World.ownsRow.alloc hbr.out _) ⟨w2.heap.size, 0, none⟩ 1 [s[j]] rfl (cells_new _ [.int .u8 s[j].toNat] _) (by simp; omega) (by have := hBr.out.size; simp; omega) ?_; intro v3 w3 hb3 hg3))
          have hB3 := bel_app hBr.out hbr.out hg3
          clear hg3
          go_roundg (gk - 1)
          case rel => exact ⟨j + 1, tc ++ [s[j]], by omega, by go_num, by rw [hc.out]; exact hnew, by show _ ≤ _; rw [← hLd.out]; simp; omega, hb3, hB3⟩
          case measure => omega
        | true =>
          have hch : chT c = [92, 120, hexd (c.toNat / 16), hexd (c.toNat % 16)] := by unfold chT; rw [if_neg hq, hn]; rfl
          rw [hch] at hnew hL
          simp only [List.length_cons, List.length_nil] at hL
          have n1 : (decide ((s[j].toNat : Int) < 32) || decide (126 < (s[j].toNat : Int))) = true := by rw [hc.out]; unfold noSg at hn; simp at hn ⊢; omega
          have c105 := fun w => noSign_is _ _ n1 w
          clear hq hch hn n1
          go_wp2_with (first
            | (go_at_call 105; refine (c105 _).mono ?_; rintro e w2 ⟨rfl, rfl⟩))
          have hlt256 := UInt8.toNat_lt s[j]
          obtain ⟨A, hA⟩ : ∃ A : Nat, (s[j].toNat : Int) / 16 = (A : Int) := ⟨s[j].toNat / 16, by omega⟩
          obtain ⟨D, hD⟩ : ∃ D : Nat, Hid (D = s[j].toNat % 16) := ⟨s[j].toNat % 16, (rfl : s[j].toNat % 16 = s[j].toNat % 16)⟩
          have hD16 : D < 16 := by rw [hD.out]; omega
          have hA16 : A < 16 := by omega
          have hand : bits .and .u8 (s[j].toNat : Int) 15 = (D : Int) := by rw [hD.out]; exact and15 s[j]
          have e1 : (⟨#[48, 49, 50, 51, 52, 53, 54, 55, 56, 57, 97, 98, 99, 100, 101, 102]⟩ : ByteArray)[A]'hA16 = hexd A := hex_at hA16
          have e2 : (⟨#[48, 49, 50, 51, 52, 53, 54, 55, 56, 57, 97, 98, 99, 100, 101, 102]⟩ : ByteArray)[D]'hD16 = hexd D := hex_at hD16
          have i1 : (A : Int) < 16 := by omega
          have i2 : (D : Int) < 16 := by omega
          have hnew' : Hid (tc ++ [92, 120, hexd A, hexd D] = t0 ++ [39] ++ (s.data.toList.take (j + 1)).flatMap chT) := by
            show _ = _
            rw [← hnew.out, hD.out, hc.out, show c.toNat / 16 = A by rw [← hc.out]; omega]
          clear hnew hD hcl
          generalize hexd A = x1 at *
          generalize hexd D = x2 at *
          have hO := hbr.out
          unfold Bts at hO
          obtain ⟨OB, hOB⟩ : ∃ OB, OB = Obj.cells #[.int .u8 92, .int .u8 120, .int .u8 x1.toNat, .int .u8 x2.toNat] 5 := ⟨_, rfl⟩
          have hO7 : ((w2.alloc OB).drew).ownsRow w0.heap.size 5 1 u0 tc.length (tc.map fun c => Value.int .u8 c.toNat) := World.ownsRow.alloc hO OB
          have hN7 : ∀ j u, [Value.int .u8 92, .int .u8 120, .int .u8 x1.toNat, .int .u8 x2.toNat][j]? = some u → ((w2.alloc OB).drew).cell? ((⟨w2.heap.size, 0, none⟩ : Addr).add j) = some u := by rw [hOB]; exact cells_new w2 [.int .u8 92, .int .u8 120, .int .u8 x1.toNat, .int .u8 x2.toNat] _
          have hs7 : w0.heap.size ≤ ((w2.alloc OB).drew).heap.size := by
            show w0.heap.size ≤ (w2.alloc OB).heap.size
            have := hBr.out.size; simp; omega
          have hb7 : Below w0.heap.size w0 ((w2.alloc OB).drew) := (hBr.out.alloc hBr.out.size OB).drew
          rw [hOB] at hO7 hN7 hs7 hb7
          clear hOB hO
          go_region_law (first | (refine step_append_lies _ rfl _ _ 66 rfl w0.heap.size 5 i0 (.int .u8 0) 1 1 Tryz.underlying66 hi hz0 hz1 hz2 rfl (by decide) u0 tc.length (tc.map fun c => Value.int .u8 c.toNat) rfl hO7 ⟨w2.heap.size, 0, none⟩ 4 4 [.int .u8 92, .int .u8 120, .int .u8 x1.toNat, .int .u8 x2.toNat] rfl rfl hN7 (by simp [Value.oneCell']) (by decide) (by unfold maxLen; omega) (by omega) hs7 _ rfl ?_; intro g cap w7 hown hgrow hat hlt7))
          all_goals
            have hB7 := below_app hb7 hO7 hgrow
            have hb8 : Bts w7 w0.heap.size (.slice (some ⟨g, 0, none⟩) (tc.length + 4) cap) (tc ++ [92, 120, x1, x2]) := bts_app (u := [92, 120, x1, x2]) hown (by simp)
            clear hgrow hown hat hO7 hN7 hb7
            go_wp2
            go_roundg (gk - 1)
            case rel => exact ⟨j + 1, tc ++ [92, 120, x1, x2], by omega, by go_num, hnew', by show _ ≤ _; rw [← hLd.out]; simp; omega, hb8, hB7⟩
            case measure => omega
    · obtain rfl : j = s.size := by omega
      have htk : s.data.toList.take s.size = s.data.toList := List.take_of_length_le (by simp)
      rw [htk] at htc
      clear htk
      have hlen' := hlen.out
      go_wp2_with (at_builtin; refine wpList_app_byts _ rfl _ _ rfl w0.heap.size _ _ rfl (World.ownsRow.alloc hbr.out _) ⟨wr.heap.size, 0, none⟩ 1 [39] rfl (cells_new _ [.int .u8 39] _) (by simp; omega) (by have := hBr.out.size; simp; omega) ?_; intro v3 w3 hb3 hg3)
      have hB3 := bel_app hBr.out hbr.out hg3
      clear hg3
      rw [htc.out] at hb3
      go_ret
      refine ⟨v3, rfl, ?_, hB3⟩
      unfold strT
      simpa using hb3
end Go.Proofs.YtbicodlclmdgaaaGreatDoor
