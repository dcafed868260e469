/-
  The document's Take (rambleref03).
-/
import Derived.Test.YtekfbijkalamkaaRefM
namespace Go.Proofs.Ytekfbijkalamkaa
open Go.RowKit
set_option linter.unusedVariables false      -- a walk need not use every condition

theorem Bs.cells {w : World} {v : Value} {t : List UInt8} (h : Bs w v t) (h0 : t ≠ []) : ∃ g o cap, v = .slice (some ⟨g, o, none⟩) t.length cap ∧ t.length ≤ cap ∧ t.length ≤ 9223372036854775807 ∧ ∀ i (hi : i < t.length), w.cell? ⟨g, o + i, none⟩ = some (.int .u8 t[i].toNat) := by
  obtain ⟨p, cap, rfl, h1, h2, h3, h4⟩ := h
  unfold maxLen at h2
  rcases h4 with h4 | ⟨g, o, rfl, hc⟩
  · exact absurd h4 h0
  · exact ⟨g, o, cap, rfl, h1, by omega, hc⟩
theorem chkR_ok {v : V} {n : Int} {w : World} {e : Ending} {w' : World} (h : ChkR v n w e w') (hm : v.may 1 = true) : ∃ pv nv cv, e = .returned (.tuple #[.agg #[.int .i64 v.k, .int .i64 v.n, .string v.s, .slice pv nv cv], .int .i64 n, .int .i64 0]) ∧ v.In w' w.heap.size (.slice pv nv cv) ∧ Below w.heap.size w w' := by
  rcases h with ⟨-, sl, h1, h2, h3⟩ | ⟨h1, -⟩
  · obtain ⟨pv, nv, cv, rfl⟩ := h2.header
    exact ⟨pv, nv, cv, h1, h2, h3⟩
  · rw [hm] at h1; cases h1
theorem chkR_no {v : V} {n : Int} {w : World} {e : Ending} {w' : World} (h : ChkR v n w e w') (hm : v.may 1 = false) : e = .returned (.tuple #[.agg #[.int .i64 0, .int .i64 0, .string ⟨#[]⟩, .slice none 0 0], .int .i64 0, .int .i64 30]) ∧ Below w.heap.size w w' := by
  rcases h with ⟨h1, -⟩ | ⟨-, h2⟩
  · rw [hm] at h1; cases h1
  · exact h2
/-- A string's form. -/
def sForm (x : R (List UInt8)) : R V := thn x fun s q => .ok (.mk 2 0 ⟨s.toArray⟩ [], q)
theorem pForm_str {c : UInt8} (hc : c.toNat = 2) (tr : List UInt8) : pForm (c :: tr) = sForm (pMarked tr) := by
  simp only [pForm]; rw [if_neg (by omega), if_neg (by omega), if_pos hc]; rfl
set_option maxHeartbeats 2000000 in
set_option maxRecDepth 20000 in
theorem takeStr39 (w : World) (b : Value) (c0 : UInt8) (tr : List UInt8) (hc0 : c0.toNat = 2) (hb : Bs w b (c0 :: tr)) (ht : tr.length ≤ 1073741824) : Calls Try.prog 39 #[b] w (TakeR (pTake (c0 :: tr)) (c0 :: tr) w) := by
  have hspec : pTake (c0 :: tr) = chk (sForm (pMarked tr)) := by unfold pTake; rw [pForm_str hc0]
  rw [hspec]
  obtain ⟨T, hT⟩ : ∃ T, T = c0 :: tr := ⟨_, rfl⟩
  have hd1 : T.drop 1 = tr := by rw [hT]; rfl
  have hTl : T.length ≤ 1073741825 := by rw [hT]; simp; omega
  have hT0 : T ≠ [] := by rw [hT]; simp
  have hT1 : 1 ≤ T.length := by rw [hT]; simp
  rw [← hT] at hb ⊢
  clear hT hspec hc0
  obtain ⟨g, o, cap, rfl, hcap, -, hcell⟩ := hb.cells hT0
  have hnew := blk_new w (.cells #[.int .i64 0, .int .i64 0, .string ⟨#[]⟩, .slice none 0 0] 31)
  have hbel := bel1 w (.cells #[.int .i64 0, .int .i64 0, .string ⟨#[]⟩, .slice none 0 0] 31)
  have hsz : (w.alloc (.cells #[.int .i64 0, .int .i64 0, .string ⟨#[]⟩, .slice none 0 0] 31)).heap.size = w.heap.size + 1 := by simp
  obtain ⟨W, hW⟩ : ∃ W, W = w.alloc (.cells #[.int .i64 0, .int .i64 0, .string ⟨#[]⟩, .slice none 0 0] 31) := ⟨_, rfl⟩
  rw [← hW] at hnew hbel hsz
  have hce : Hid (∀ (w' : World), Below W.heap.size W w' → ∀ i (hi : i < T.length), w'.cell? ⟨g, o + i, none⟩ = some (.int .u8 T[i].toNat)) := fun w' hB i hi => some_on hB (some_on hbel (hcell i hi))
  have hke : Hid (∀ (w' : World), Below W.heap.size W w' → w'.heap[w.heap.size]? = some (.cells #[.int .i64 0, .int .i64 0, .string ⟨#[]⟩, .slice none 0 0] 31)) := fun w' hB => blk_on hB hnew
  clear hcell hb hT0
  go_enter Try.func39, Try.ntmps39
  go_wp2
  rw [← hW]
  go_loopg [5, 6] (T.length - 1) (fun c v i wr => ∃ (j : Nat) (acc : List UInt8), c + j = T.length ∧ 1 ≤ j ∧ i = .int .i64 j ∧ acc.length ≤ j ∧ Hid (pMarked tr = pre acc (pMarked (T.drop j))) ∧ Hid (Bts wr W.heap.size v acc) ∧ Hid (Below W.heap.size W wr))
  case atStart => exact ⟨1, [], by omega, Nat.le_refl _, rfl, by simp, by show _ = _; rw [hd1]; unfold pre; cases pMarked tr with | error e => rfl | ok y => obtain ⟨s, z⟩ := y; rfl, World.ownsRow_nil _ _ _ _, Below.refl _ _⟩
  case round =>
    obtain ⟨j, acc, hj, hj1, rfl, hal, hsp, hbr, hBr⟩ := hrel
    obtain ⟨x0, x1, x2, x3, xf⟩ := four_of (hke.out wr hBr.out)
    by_cases hlt : j < T.length
    · have hcj := hce.out wr hBr.out j hlt
      have hdj := List.drop_eq_getElem_cons hlt
      obtain ⟨d, hdd⟩ : ∃ d, Hid (T[j] = d) := ⟨T[j], (rfl : _ = _)⟩
      rw [hdd.out] at hcj hdj
      rw [hdj] at hsp
      have i1 : (j : Int) < (T.length : Int) := by omega
      have hz := byte_zero (c := d)
      by_cases hd0 : d = 0
      · rw [decide_eq_true hd0] at hz
        have hz' : ((d.toNat : Int) != 0) = false := by rw [bne, hz]; rfl
        rw [hd0] at hsp
        by_cases hl1 : j + 1 = T.length
        · have hE : Hid (chk (sForm (pMarked tr)) = .error 11) := by
            show _ = _
            rw [hsp.out, List.drop_eq_nil_of_le (by omega), pMarked_end]; rfl
          have i2 : ((j : Int) + 1 == (T.length : Int)) = true := by simp; omega
          clear hsp hdj hce hke hd0 hdd
          go_wp2
          have hfin := TakeR.put_no (t := T) (hE.out) (by decide) (bel_then hbel hBr.out)
          unfold put4 at hfin
          simp [bodyPost, results, Try.results39, go_sem, x0, x1, x2, x3]
          exact hfin
        · have hl2 : j + 1 < T.length := by omega
          have hce1 := hce.out wr hBr.out (j + 1) hl2
          have hdj1 := List.drop_eq_getElem_cons hl2
          obtain ⟨d', hdd'⟩ : ∃ d, Hid (T[j + 1] = d) := ⟨T[j + 1], (rfl : _ = _)⟩
          rw [hdd'.out] at hce1 hdj1
          rw [hdj1, pMarked_zero] at hsp
          have i2 : ((j : Int) + 1 == (T.length : Int)) = false := by simp; omega
          have i3 : (j : Int) + 1 < (T.length : Int) := by omega
          by_cases h1 : d' = 1
          · rw [if_pos h1, pre_ok] at hsp
            have b1 : ((d'.toNat : Int) == 1) = true := by rw [h1]; rfl
            have hE : Hid (sForm (pMarked tr) = .ok (.mk 2 0 ⟨acc.toArray⟩ [], T.drop (j + 1 + 1))) := by
              show _ = _
              rw [hsp.out]; simp [sForm, thn_ok]
            have hcv := bts_str hbr.out
            have hql : (T.length : Int) - ((T.drop (j + 1 + 1)).length : Int) = (j : Int) + 1 + 1 := by simp; omega
            have c38 := fun w => checked38 (.mk 2 0 ⟨acc.toArray⟩ []) ((j : Int) + 1 + 1) w (fun w lo => in_plain (by unfold I64; omega) (by unfold I64; omega) (by show acc.toArray.size ≤ _; simp; omega) w lo)
            unfold V.agg at c38
            simp only [V.k, V.n, V.s] at c38
            cases hm : (V.mk 2 0 ⟨acc.toArray⟩ []).may 1 with
            | true =>
              have hE' : Hid (chk (sForm (pMarked tr)) = .ok (.mk 2 0 ⟨acc.toArray⟩ [], T.drop (j + 1 + 1))) := chk_ok hE.out hm
              have hM := Lib.hid hm
              clear hm hsp hdj hdj1 hd0 hdd hdd' h1 hce
              go_wp2_with (go_at_call 38; refine (c38 _).mono ?_; rintro e w1 hrr; obtain ⟨pv, nv, cv, rfl, hin, hB1⟩ := chkR_ok hrr hM.out; clear hrr; simp only [V.k, V.n, V.s]; have hB1' := bel_then hBr.out hB1; obtain ⟨z0, z1, z2, z3, zf⟩ := four_of (hke.out w1 hB1'))
              have hfin := TakeR.put_ok (t := T) hE'.out (V.In.low hin (by have := hBr.out.size; omega)) (bel_then hbel hB1')
              unfold put4 at hfin
              rw [hql] at hfin
              simp [bodyPost, results, Try.results39, go_sem, z0, z1, z2, z3]
              exact hfin
            | false =>
              have hE' : Hid (chk (sForm (pMarked tr)) = .error 30) := chk_no hE.out hm
              have hM := Lib.hid hm
              clear hm hsp hdj hdj1 hd0 hdd hdd' h1 hce
              go_wp2_with (go_at_call 38; refine (c38 _).mono ?_; rintro e w1 hrr; obtain ⟨rfl, hB1⟩ := chkR_no hrr hM.out; clear hrr; have hB1' := bel_then hBr.out hB1; obtain ⟨z0, z1, z2, z3, zf⟩ := four_of (hke.out w1 hB1'))
              have hfin := TakeR.put_no (t := T) hE'.out (by decide) (bel_then hbel hB1')
              unfold put4 at hfin
              simp [bodyPost, results, Try.results39, go_sem, z0, z1, z2, z3]
              exact hfin
          · rw [if_neg h1] at hsp
            have n1 : d'.toNat ≠ 1 := fun e => h1 (UInt8.toNat_inj.1 e)
            have b1 : ((d'.toNat : Int) == 1) = false := by simp; omega
            by_cases h2 : d' = 255
            · rw [if_pos h2, pre_step] at hsp
              have b2 : ((d'.toNat : Int) != 255) = false := by rw [h2]; rfl
              clear hdj hdj1 hd0 hdd hdd' h1 h2 hce hke n1
              go_wp2_with (at_builtin; refine wpList_app_byts _ rfl _ _ rfl W.heap.size _ _ rfl (World.ownsRow.alloc hbr.out _) ⟨wr.heap.size, 0, none⟩ 1 [0] rfl (cells_new _ [.int .u8 0] _) (by simp; omega) (by have := hBr.out.size; simp; omega) ?_; intro v3 w3 hb3 hg3; have hB3 := bel_app hBr.out hbr.out hg3; clear hg3)
              go_roundg (gk - 2)
              case rel => exact ⟨j + 1 + 1, acc ++ [0], by omega, by omega, congrArg (Value.int .i64) (by omega), by simp; omega, hsp, hb3, hB3⟩
              case measure => omega
            · rw [if_neg h2, pre_err] at hsp
              have n2 : d'.toNat ≠ 255 := fun e => h2 (UInt8.toNat_inj.1 e)
              have b2 : ((d'.toNat : Int) != 255) = true := by simp; omega
              have hE : Hid (chk (sForm (pMarked tr)) = .error 30) := by show _ = _; rw [hsp.out]; rfl
              clear hdj hdj1 hd0 hdd hdd' h1 h2 hce hke n1 n2 hsp
              go_wp2
              have hfin := TakeR.put_no (t := T) (hE.out) (by decide) (bel_then hbel hBr.out)
              unfold put4 at hfin
              simp [bodyPost, results, Try.results39, go_sem, x0, x1, x2, x3]
              exact hfin
      · rw [decide_eq_false hd0] at hz
        have hz' : ((d.toNat : Int) != 0) = true := by rw [bne, hz]; rfl
        rw [pMarked_more hd0, pre_step] at hsp
        clear hdj hd0 hdd hce hke
        go_wp2_with (at_builtin; refine wpList_app_byts _ rfl _ _ rfl W.heap.size _ _ rfl (World.ownsRow.alloc hbr.out _) ⟨wr.heap.size, 0, none⟩ 1 [d] rfl (cells_new _ [.int .u8 d.toNat] _) (by simp; omega) (by have := hBr.out.size; simp; omega) ?_; intro v3 w3 hb3 hg3; have hB3 := bel_app hBr.out hbr.out hg3; clear hg3)
        go_roundg (gk - 1)
        case rel => exact ⟨j + 1, acc ++ [d], by omega, by omega, by go_num, by simp; omega, hsp, hb3, hB3⟩
        case measure => omega
    · obtain rfl : j = T.length := by omega
      have hE : Hid (chk (sForm (pMarked tr)) = .error 11) := by
        show _ = _
        rw [hsp.out, List.drop_length]; rfl
      clear hsp hce hke
      go_wp2
      have hfin := TakeR.put_no (t := T) (hE.out) (by decide) (bel_then hbel hBr.out)
      unfold put4 at hfin
      simp [bodyPost, results, Try.results39, go_sem, x0, x1, x2, x3]
      exact hfin
end Go.Proofs.Ytekfbijkalamkaa
