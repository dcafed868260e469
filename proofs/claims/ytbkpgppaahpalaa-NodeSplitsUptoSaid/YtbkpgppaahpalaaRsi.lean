/-
  The document's Split.
-/
import Derived.Test.YtbkpgppaahpalaaRsd
namespace Go.Proofs.Ytbkpgppaahpalaa
open Go.RowKit
set_option linter.unusedVariables false      -- a walk need not use every condition

set_option maxHeartbeats 16000000 in
set_option maxRecDepth 100000 in
theorem rsplit_inner (w : World) (v : Value) (n : Nd) (h : NdS w v n) (hf : Fit n) (ht : (form n).length ≤ 140737488340000) (hL : n.leaf = false) (hP : Parts n) :
    Calls Try.prog 23 #[v] w fun e w' => ∃ va vk vb, e = .returned (.tuple #[va, vk, vb]) ∧ NdS w' va (spl n).1 ∧ Bs w' vk (spl n).2.1 ∧ NdS w' vb (spl n).2.2 ∧ Below w.heap.size w w' := by
  rw [spl_best hP]
  have c24 := fun (u : World) (hu : Below w.heap.size w u) => rclone24 u v n (h.on hu) hf
  obtain ⟨vc, vk, vi, rfl, hC, hK, hI⟩ := h
  obtain ⟨pc, cc, rfl, -, lc⟩ := hC.hdr
  obtain ⟨pk, ck, rfl, -, lk⟩ := hK.hdr
  obtain ⟨pi, ci, rfl, -, li⟩ := hI.hdr
  clear hC hK hI
  have hpos := parts_pos hP
  have c55 := fun (u : World) (y : Value) (j : Nat) (hj : j < plN n) (hy : NdS u y n) => halves55 u y n (plA n + j) hy hf (parts_at hP hj)
  have hle := fun (j : Nat) (hj : j < plN n) => fF_le hP hj
  have c16 := fun (u : World) (y : Value) (j : Nat) (hj : j < plN n) (hy : NdS u y (hlv n (plA n + j)).1) => rsize16 u y _ hy (by have := hle j hj; unfold fF at this; omega)
  have d16 := fun (u : World) (y : Value) (j : Nat) (hj : j < plN n) (hy : NdS u y (hlv n (plA n + j)).2.2) => rsize16 u y _ hy (by have := hle j hj; unfold fS at this; omega)
  have hA : plA n = 0 := by unfold plA; rw [hL]; rfl
  have hNN : plN n = n.keys.length := by unfold plN; rw [hL]; rfl
  have hbi := best_is (fF n) (fS n) (plA n) (plN n) (fun j hj => by have := hle j hj; omega) hpos
  obtain ⟨W, hW⟩ : ∃ W, W = ((w.alloc (Obj.cells #[.bool n.leaf, .slice pc n.cells.length cc, .slice pk n.keys.length ck, .slice pi n.kids.length ci] 26)).alloc (Obj.cells #[.bool false, .slice none 0 0, .slice none 0 0, .slice none 0 0] 26)).alloc (Obj.cells #[.bool false, .slice none 0 0, .slice none 0 0, .slice none 0 0] 26) := ⟨_, rfl⟩
  obtain ⟨hWs, hWA, hW2, hW4⟩ : W.heap.size = w.heap.size + 3 ∧ W.heap[w.heap.size]? = some (Obj.cells #[.bool n.leaf, .slice pc n.cells.length cc, .slice pk n.keys.length ck, .slice pi n.kids.length ci] 26) ∧ W.heap[w.heap.size + 1]? = some (Obj.cells #[.bool false, .slice none 0 0, .slice none 0 0, .slice none 0 0] 26) ∧ W.heap[w.heap.size + 1 + 1]? = some (Obj.cells #[.bool false, .slice none 0 0, .slice none 0 0, .slice none 0 0] 26) := by rw [hW]; exact three_new w _ _ _
  have hWB : Below w.heap.size w W := by rw [hW]; exact bel_then (bel_then (bel1 _ _) (bel1 _ _)) (bel1 _ _)
  have c24' := c24 W hWB
  rw [hL] at c24' hW hWA ⊢
  have HWA := Lib.hid hWA
  have HW2 := Lib.hid hW2
  have HW4 := Lib.hid hW4
  have HWB := Lib.hid hWB
  have HW := Lib.hid hW
  have HL := Lib.hid hL
  obtain ⟨C, hCc⟩ : ∃ C, plN n = C := ⟨_, rfl⟩
  rw [hCc] at hpos c55 hle c16 d16 hbi hNN ⊢
  rw [hA] at c55 hle c16 d16 hbi ⊢
  have hPP : Hid (Parts n) := hP
  have hcl : C ≤ 9223372036854775000 := by rw [hNN]; have := hf.1; have := hf.2.1; omega
  clear hWs hWA hW2 hW4 hWB hA hCc c24 hP hL
  have HNN := Lib.hid hNN
  generalize hNc : n.cells.length = N at *
  generalize hMk : n.keys.length = M at *
  generalize hPi : n.kids.length = P at *
  have HN := Lib.hid hNc
  have HM := Lib.hid hMk
  have HPi := Lib.hid hPi
  clear hNc hMk hPi hNN
  have HC1 : Hid (M = C) := HNN.out.symm
  have hMP : Hid (M < P) := by
    rcases hPP.out with ⟨e, -⟩ | ⟨-, -, e⟩
    · rw [HL.out] at e; cases e
    · rw [HM.out, HPi.out] at e; exact e
  have z1 : IntKind.i64.wrap ((M : Int) - 1) = (C : Int) - 1 := by rw [IntKind.wrap_i64]; have := HC1.out; omega
  have z2 : ¬ (C : Int) - 1 < 0 := by omega
  have z3 : ¬ (P : Int) ≤ (M : Int) := by have := hMP.out; omega
  go_enter Try.func23, Try.ntmps23
  go_wp2_with (fail)
  rw [← HW.out]
  clear hW
  refine c24'.mono ?_
  rintro e w1 ⟨v1, rfl, hn1, hb1⟩
  obtain ⟨r1, f1, r2, f2, r3, f3, rfl⟩ := hn1.hdr
  have hA1 := blk_on hb1 HWA.out
  have h21 := Lib.hid (blk_on hb1 HW2.out)
  have h41 := Lib.hid (blk_on hb1 HW4.out)
  have g1 := gr_four w1 w.heap.size (.bool n.leaf) (.slice r1 n.cells.length f1) (.slice r2 n.keys.length f2) (.slice r3 n.kids.length f3)
  have HSp : Hid (Sp w ((((w1.setCell ⟨w.heap.size, 0, none⟩ (.bool n.leaf)).setCell ⟨w.heap.size, 1, none⟩ (.slice r1 n.cells.length f1)).setCell ⟨w.heap.size, 2, none⟩ (.slice r2 n.keys.length f2)).setCell ⟨w.heap.size, 3, none⟩ (.slice r3 n.kids.length f3)) (.slice r1 n.cells.length f1) (.slice r2 n.keys.length f2) (.slice r3 n.kids.length f3) n) :=
    ⟨bel_put (bel_then HWB.out hb1) g1 (Nat.le_refl _), blk_four hA1 _ _ _ _, blk_gr h21.out g1 (by omega), blk_gr h41.out g1 (by omega), (hn1.gr g1 hA1 (by decide) (by decide) (by decide) (by decide)).low HWB.out.size⟩
  obtain ⟨a0, a1, a2, a3⟩ := four_of hA1
  have af0 := four_fr hA1 0
  have af1 := four_fr hA1 1
  have af2 := four_fr hA1 2
  have af3 := four_fr hA1 3
  have HL2 := HL.out
  rw [HL2, HN.out, HM.out, HPi.out] at HSp
  have e1 := HN.out
  have e2 := HM.out
  have e3 := HPi.out
  simp only [HL2, e1, e2, e3]
  clear hb1 hn1 g1 hA1 c24' HWA HW2 HW4 HWB h21 h41 HL2 e1 e2 e3
  go_wp2_with (fail)
  obtain ⟨w2, hw2⟩ : ∃ u, u = ((((w1.setCell ⟨w.heap.size, 0, none⟩ (.bool false)).setCell ⟨w.heap.size, 1, none⟩ (.slice r1 N f1)).setCell ⟨w.heap.size, 2, none⟩ (.slice r2 M f2)).setCell ⟨w.heap.size, 3, none⟩ (.slice r3 P f3)) := ⟨_, rfl⟩
  rw [← hw2]
  rw [← hw2] at HSp
  clear hw2 a0 a1 a2 a3 af0 af1 af2 af3
  have hpm : ¬ P ≤ M := by have := hMP.out; omega
  simp only [hpm, decide_false, Bool.or_false]
  clear z3 hpm
  have hmx := fun (j : Nat) (hj : j < C) => hle j hj
  go_loopg [7, 8, 9] C (fun g s7 s8 s9 wr => ∃ (K j b l : Nat), j + g = C ∧ Hid (K = 0 + j) ∧ s9 = .int .i64 K ∧ s7 = .int .i64 b ∧ s8 = .int .i64 l ∧ Hid ((j = 0 → b = 0 ∧ l = 0) ∧ (0 < j → best (fF n) (fS n) 0 j = (b, l))) ∧ Hid (Sp w wr (.slice r1 N f1) (.slice r2 M f2) (.slice r3 P f3) n))
  case atStart => exact ⟨0, 0, 0, 0, by omega, rfl, rfl, rfl, rfl, ⟨fun _ => ⟨rfl, rfl⟩, fun h => absurd h (Nat.lt_irrefl _)⟩, HSp.out⟩
  case round =>
    obtain ⟨K, j, b, l, hjg, hK, rfl, rfl, rfl, hB, hS⟩ := hrel
    clear HSp
    obtain ⟨s1, s2, s3, s4, s5⟩ := hS.out
    rw [HL.out] at s2 s5
    obtain ⟨a0, a1, a2, a3⟩ := four_of s2
    cases gk with
    | zero =>
      have hbe := hB.out.2 (by omega)
      rw [show j = C by omega] at hbe
      have hb1 := hbi.1
      have hb2 := hbi.2.1
      rw [hbe] at hb1 hb2
      have HBE : Hid ((best (fF n) (fS n) 0 C).1 = b) := by show _ = _; rw [hbe]
      simp only at hb1 hb2
      obtain ⟨i, hi⟩ : ∃ i, b = 0 + i := ⟨b - 0, by omega⟩
      have d55 := c55 wr _ i (by omega) s5.s
      rw [← hi] at d55
      have hz : ¬ (K : Int) ≤ (C : Int) - 1 := by have := hK.out; omega
      have HS5 := Lib.hid s5
      have hkk : Hid (n.leaf = false → b < n.keys.length) := fun e => by rw [HL.out] at e; have := HC1.out; have := HM.out; omega
      obtain ⟨x0, x1, x2, x3⟩ := four_of s3
      obtain ⟨y0, y1, y2, y3⟩ := four_of s4
      clear hB hbe hb1 hb2 hbi c55 c16 d16 hle hmx hi hK
      go_wp2_with (fail)
      refine d55.mono ?_
      rintro e w3 ⟨va, vk, vb, rfl, hAB, hKy, hb3⟩
      have hn3 := HS5.out.on hb3
      obtain ⟨hA3, hB3⟩ := hAB w3 hn3.s
      have hky := Lib.hid (hKy.own HS5.out s1.size hkk.out hb3)
      obtain ⟨ap1, ac1, ap2, ac2, ap3, ac3, rfl⟩ := hA3.hdr
      obtain ⟨bp1, bc1, bp2, bc2, bp3, bc3, rfl⟩ := hB3.hdr
      obtain ⟨kp, kc, rfl, -, -⟩ := hky.out.bs.slice
      have HAB := Lib.hid hAB
      have h23 := Lib.hid (blk_on hb3 s3)
      have h43 := Lib.hid (blk_on hb3 s4)
      have HN3 := Lib.hid hn3
      have HB3 := Lib.hid (bel_then s1 hb3)
      obtain ⟨x0, x1, x2, x3⟩ := four_of h23.out
      obtain ⟨y0, y1, y2, y3⟩ := four_of h43.out
      have xf0 := four_fr h23.out 0
      have xf1 := four_fr h23.out 1
      have xf2 := four_fr h23.out 2
      have xf3 := four_fr h23.out 3
      have yf0 := four_fr h43.out 0
      have yf1 := four_fr h43.out 1
      have yf2 := four_fr h43.out 2
      have yf3 := four_fr h43.out 3
      clear hn3 hAB hKy hA3 hB3 hb3
      go_wp2
      have g1 := gr_four w3 (w.heap.size + 1) (.bool (hlv n b).1.leaf) (.slice ap1 (hlv n b).1.cells.length ac1) (.slice ap2 (hlv n b).1.keys.length ac2) (.slice ap3 (hlv n b).1.kids.length ac3)
      have b2 := blk_gr h43.out g1 (by omega)
      have hn4 := HN3.out.gr g1 h23.out (by decide) (by decide) (by decide) (by decide)
      have g2 := gr_four ((((w3.setCell ⟨w.heap.size + 1, 0, none⟩ (.bool (hlv n b).1.leaf)).setCell ⟨w.heap.size + 1, 1, none⟩ (.slice ap1 (hlv n b).1.cells.length ac1)).setCell ⟨w.heap.size + 1, 2, none⟩ (.slice ap2 (hlv n b).1.keys.length ac2)).setCell ⟨w.heap.size + 1, 3, none⟩ (.slice ap3 (hlv n b).1.kids.length ac3)) (w.heap.size + 1 + 1) (.bool (hlv n b).2.2.leaf) (.slice bp1 (hlv n b).2.2.cells.length bc1) (.slice bp2 (hlv n b).2.2.keys.length bc2) (.slice bp3 (hlv n b).2.2.kids.length bc3)
      have hn5 := hn4.gr g2 b2 (by decide) (by decide) (by decide) (by decide)
      have hk4 : Bts _ w.heap.size _ _ := own_other hky.out g1 h23.out (by decide)
      have hk5 : Bts _ w.heap.size _ _ := own_other hk4 g2 b2 (by decide)
      refine bodyPost_ret (results_split Try.results23 _ _ (w.heap.size + 1) (w.heap.size + 1 + 1) _ _ _ _ _ _ _ _ 26 26 rfl (blk_gr (blk_four h23.out _ _ _ _) g2 (by omega)) rfl (blk_four b2 _ _ _ _)) rfl ?_
      rw [HBE.out]
      exact ⟨_, _, _, rfl, (HAB.out _ hn5.s).1, hk5.bs, (HAB.out _ hn5.s).2, bel_put (bel_put HB3.out g1 (by omega)) g2 (by omega)⟩
    | succ g =>
      have hj : j < C := by omega
      have hkz : (K : Int) ≤ (C : Int) - 1 := by have := hK.out; omega
      have d55 := c55 wr _ j hj s5.s
      have e16 := fun u y => c16 u y j hj
      have g16 := fun u y => d16 u y j hj
      have hm9 := hmx j hj
      rw [← hK.out] at d55 e16 g16 hm9
      have HS5 := Lib.hid s5
      obtain ⟨HA, hHA⟩ : ∃ x : Nd, (hlv n K).1 = x := ⟨_, rfl⟩
      obtain ⟨HBn, hHB⟩ : ∃ x : Nd, (hlv n K).2.2 = x := ⟨_, rfl⟩
      obtain ⟨p1, hp1⟩ : ∃ x : Nat, fF n K = x := ⟨_, rfl⟩
      obtain ⟨p2, hp2⟩ : ∃ x : Nat, fS n K = x := ⟨_, rfl⟩
      have hq1 : (form HA).length = p1 := by rw [← hHA, ← hp1]; rfl
      have hq2 : (form HBn).length = p2 := by rw [← hHB, ← hp2]; rfl
      rw [hHA] at d55 e16
      rw [hHB] at d55 g16
      rw [hq1] at e16
      rw [hq2] at g16
      rw [hp1, hp2] at hm9
      have HBB : Hid ((j = 0 → b = 0 ∧ l = 0) ∧ (0 < j → best (fF n) (fS n) 0 j = (b, l))) := hB.out
      have HST : Hid (best (fF n) (fS n) 0 (j + 1) = orC (best (fF n) (fS n) 0 j) K p1 p2) := by show _ = _; rw [best, ← hK.out, hp1, hp2]
      have hKe := hK.out
      clear hB hHA hHB hp1 hp2 hq1 hq2 c55 c16 d16 hle hmx hbi
      have hS2 : Hid (∀ (u : World), Below wr.heap.size wr u → Sp w u (.slice r1 N f1) (.slice r2 M f2) (.slice r3 P f3) n) := fun u hu => hS.out.on hu
      have HE16 := Lib.hid e16
      have HG16 := Lib.hid g16
      clear e16 g16 hS
      have HM9 := Lib.hid hm9
      clear hm9
      have fin : ∀ (bn ln : Nat), (j = 0 ∨ max p1 p2 < l → bn = K ∧ ln = max p1 p2) → (¬ (j = 0 ∨ max p1 p2 < l) → bn = b ∧ ln = l) → best (fF n) (fS n) 0 (j + 1) = (bn, ln) := fun bn ln h1 h2 => by
        rw [HST.out]
        by_cases hj0 : j = 0
        · obtain ⟨rfl, rfl⟩ := h1 (.inl hj0)
          subst hj0
          rw [orC]
          exact if_pos (by have := HM9.out; have := ht; show _ < 9223372036854775807; omega)
        · rw [HBB.out.2 (by omega), orC]
          by_cases hc : max p1 p2 < l
          · obtain ⟨rfl, rfl⟩ := h1 (.inr hc)
            exact if_pos hc
          · obtain ⟨rfl, rfl⟩ := h2 (by omega)
            exact if_neg hc
      have FIN := Lib.hid fin
      clear fin HST
      have e8 : IntKind.i64.wrap ((K : Int) + 1) = ((K + 1 : Nat) : Int) := by rw [IntKind.wrap_i64]; omega
      have tk0 : Hid (∀ u, NdS u (.agg #[.bool false, .slice r1 N f1, .slice r2 M f2, .slice r3 P f3]) n → True) := fun _ _ => trivial
      have hcase : (j = 0 ∧ p1 < p2) ∨ (j = 0 ∧ ¬ p1 < p2) ∨ (0 < j ∧ p1 < p2 ∧ p2 < l) ∨ (0 < j ∧ p1 < p2 ∧ ¬ p2 < l) ∨ (0 < j ∧ ¬ p1 < p2 ∧ p1 < l) ∨ (0 < j ∧ ¬ p1 < p2 ∧ ¬ p1 < l) := by omega
      rcases hcase with hc | hc | hc | hc | hc | hc
      · obtain ⟨rfl, hc1⟩ := hc
        obtain rfl : K = 0 := by omega
        have hi1 :  (p1 : Int) < (p2 : Int) := by omega
        have hfin : Hid (best (fF n) (fS n) 0 (0 + 1) = (0, p2)) := FIN.out 0 p2 (by intro h; omega) (by intro h; omega)
        clear hc1 FIN HBB HM9
        have hKh := Lib.hid hKe
        clear hKe
        go_wp2_with (fail)
        refine d55.mono ?_
        rintro e w3 ⟨va, vk, vb, rfl, hAB, -, hb3⟩
        obtain ⟨hA3, hB3⟩ := hAB w3 (HS5.out.on hb3).s
        obtain ⟨ap1, ac1, ap2, ac2, ap3, ac3, rfl⟩ := hA3.hdr
        obtain ⟨bp1, bc1, bp2, bc2, bp3, bc3, rfl⟩ := hB3.hdr
        obtain ⟨w5, hw5⟩ : ∃ u, u = (w3.alloc (Obj.cells #[.bool HA.leaf, .slice ap1 HA.cells.length ac1, .slice ap2 HA.keys.length ac2, .slice ap3 HA.kids.length ac3] 26)).alloc (Obj.cells #[.bool HBn.leaf, .slice bp1 HBn.cells.length bc1, .slice bp2 HBn.keys.length bc2, .slice bp3 HBn.kids.length bc3] 26) := ⟨_, rfl⟩
        have h10 : Hid (w5.heap[w3.heap.size]? = some (Obj.cells #[.bool HA.leaf, .slice ap1 HA.cells.length ac1, .slice ap2 HA.keys.length ac2, .slice ap3 HA.kids.length ac3] 26)) := by rw [hw5]; exact blk_on (bel1 _ _) (World.alloc_heap_new w3 _)
        have h12 : Hid (w5.heap[w3.heap.size + 1]? = some (Obj.cells #[.bool HBn.leaf, .slice bp1 HBn.cells.length bc1, .slice bp2 HBn.keys.length bc2, .slice bp3 HBn.kids.length bc3] 26)) := by rw [hw5]; exact new2 w3 _ _
        have hb5 : Below w3.heap.size w3 w5 := by rw [hw5]; exact bel_then (bel1 _ _) (bel1 _ _)
        have HAn := Lib.hid (hA3.on hb5)
        have HBn5 := Lib.hid (hB3.on hb5)
        have Hb5 := Lib.hid (bel_then hb3 hb5)
        have Hw5 := Lib.hid hw5
        clear hAB hA3 hB3 hb3 hb5 d55 hw5
        go_wp2_with (fail)
        rw [← Hw5.out]
        have B0 : Below w5.heap.size w5 w5.drew := (Below.refl _ w5).drew
        obtain ⟨m0, m1, m2, m3⟩ := four_of (blk_on B0 h10.out)
        obtain ⟨n0, n1, n2, n3⟩ := four_of (blk_on B0 h12.out)
        have t1 : True := trivial
        have t2 : True := trivial
        go_region_with (first
          | (go_at_call 16; clear t1; with_reducible refine (HE16.out _ _ (HAn.out.on (by with_reducible assumption))).mono ?_; rintro e wa ⟨rfl, hba⟩; have Ba : Below w5.heap.size w5 wa := bel_then (by with_reducible assumption) hba; obtain ⟨m0, m1, m2, m3⟩ := four_of (blk_on Ba h10.out); obtain ⟨n0, n1, n2, n3⟩ := four_of (blk_on Ba h12.out); clear hba)
          | (go_at_call 16; clear t2; with_reducible refine (HG16.out _ _ (HBn5.out.on (by with_reducible assumption))).mono ?_; rintro e wb ⟨rfl, hbb⟩; have Bb : Below w5.heap.size w5 wb := bel_then (by with_reducible assumption) hbb; obtain ⟨m0, m1, m2, m3⟩ := four_of (blk_on Bb h10.out); obtain ⟨n0, n1, n2, n3⟩ := four_of (blk_on Bb h12.out); clear hbb))
        all_goals
          first
            | (have HSn := Lib.hid (hS2.out wb (bel_then Hb5.out Bb))
               go_wp2
               go_roundg g
               case measure => omega
               case rel => exact ⟨0 + 1, 0 + 1, 0, p2, by omega, (by have := hKh.out; show _ = _; omega), by first | rfl | simp, by first | rfl | simp, by first | rfl | simp, ⟨fun h => absurd h (Nat.succ_ne_zero _), fun _ => hfin.out⟩, HSn.out⟩)
            | (have HSn := Lib.hid (hS2.out wa (bel_then Hb5.out Ba))
               go_wp2
               go_roundg g
               case measure => omega
               case rel => exact ⟨0 + 1, 0 + 1, 0, p2, by omega, (by have := hKh.out; show _ = _; omega), by first | rfl | simp, by first | rfl | simp, by first | rfl | simp, ⟨fun h => absurd h (Nat.succ_ne_zero _), fun _ => hfin.out⟩, HSn.out⟩)
      · obtain ⟨rfl, hc1⟩ := hc
        obtain rfl : K = 0 := by omega
        have hi1 : ¬ (p1 : Int) < (p2 : Int) := by omega
        have hfin : Hid (best (fF n) (fS n) 0 (0 + 1) = (0, p1)) := FIN.out 0 p1 (by intro h; omega) (by intro h; omega)
        clear hc1 FIN HBB HM9
        have hKh := Lib.hid hKe
        clear hKe
        go_wp2_with (fail)
        refine d55.mono ?_
        rintro e w3 ⟨va, vk, vb, rfl, hAB, -, hb3⟩
        obtain ⟨hA3, hB3⟩ := hAB w3 (HS5.out.on hb3).s
        obtain ⟨ap1, ac1, ap2, ac2, ap3, ac3, rfl⟩ := hA3.hdr
        obtain ⟨bp1, bc1, bp2, bc2, bp3, bc3, rfl⟩ := hB3.hdr
        obtain ⟨w5, hw5⟩ : ∃ u, u = (w3.alloc (Obj.cells #[.bool HA.leaf, .slice ap1 HA.cells.length ac1, .slice ap2 HA.keys.length ac2, .slice ap3 HA.kids.length ac3] 26)).alloc (Obj.cells #[.bool HBn.leaf, .slice bp1 HBn.cells.length bc1, .slice bp2 HBn.keys.length bc2, .slice bp3 HBn.kids.length bc3] 26) := ⟨_, rfl⟩
        have h10 : Hid (w5.heap[w3.heap.size]? = some (Obj.cells #[.bool HA.leaf, .slice ap1 HA.cells.length ac1, .slice ap2 HA.keys.length ac2, .slice ap3 HA.kids.length ac3] 26)) := by rw [hw5]; exact blk_on (bel1 _ _) (World.alloc_heap_new w3 _)
        have h12 : Hid (w5.heap[w3.heap.size + 1]? = some (Obj.cells #[.bool HBn.leaf, .slice bp1 HBn.cells.length bc1, .slice bp2 HBn.keys.length bc2, .slice bp3 HBn.kids.length bc3] 26)) := by rw [hw5]; exact new2 w3 _ _
        have hb5 : Below w3.heap.size w3 w5 := by rw [hw5]; exact bel_then (bel1 _ _) (bel1 _ _)
        have HAn := Lib.hid (hA3.on hb5)
        have HBn5 := Lib.hid (hB3.on hb5)
        have Hb5 := Lib.hid (bel_then hb3 hb5)
        have Hw5 := Lib.hid hw5
        clear hAB hA3 hB3 hb3 hb5 d55 hw5
        go_wp2_with (fail)
        rw [← Hw5.out]
        have B0 : Below w5.heap.size w5 w5.drew := (Below.refl _ w5).drew
        obtain ⟨m0, m1, m2, m3⟩ := four_of (blk_on B0 h10.out)
        obtain ⟨n0, n1, n2, n3⟩ := four_of (blk_on B0 h12.out)
        have t1 : True := trivial
        have t2 : True := trivial
        go_region_with (first
          | (go_at_call 16; clear t1; with_reducible refine (HE16.out _ _ (HAn.out.on (by with_reducible assumption))).mono ?_; rintro e wa ⟨rfl, hba⟩; have Ba : Below w5.heap.size w5 wa := bel_then (by with_reducible assumption) hba; obtain ⟨m0, m1, m2, m3⟩ := four_of (blk_on Ba h10.out); obtain ⟨n0, n1, n2, n3⟩ := four_of (blk_on Ba h12.out); clear hba)
          | (go_at_call 16; clear t2; with_reducible refine (HG16.out _ _ (HBn5.out.on (by with_reducible assumption))).mono ?_; rintro e wb ⟨rfl, hbb⟩; have Bb : Below w5.heap.size w5 wb := bel_then (by with_reducible assumption) hbb; obtain ⟨m0, m1, m2, m3⟩ := four_of (blk_on Bb h10.out); obtain ⟨n0, n1, n2, n3⟩ := four_of (blk_on Bb h12.out); clear hbb))
        all_goals
          first
            | (have HSn := Lib.hid (hS2.out wb (bel_then Hb5.out Bb))
               go_wp2
               go_roundg g
               case measure => omega
               case rel => exact ⟨0 + 1, 0 + 1, 0, p1, by omega, (by have := hKh.out; show _ = _; omega), by first | rfl | simp, by first | rfl | simp, by first | rfl | simp, ⟨fun h => absurd h (Nat.succ_ne_zero _), fun _ => hfin.out⟩, HSn.out⟩)
            | (have HSn := Lib.hid (hS2.out wa (bel_then Hb5.out Ba))
               go_wp2
               go_roundg g
               case measure => omega
               case rel => exact ⟨0 + 1, 0 + 1, 0, p1, by omega, (by have := hKh.out; show _ = _; omega), by first | rfl | simp, by first | rfl | simp, by first | rfl | simp, ⟨fun h => absurd h (Nat.succ_ne_zero _), fun _ => hfin.out⟩, HSn.out⟩)
      · obtain ⟨hj0, hc1, hc2⟩ := hc
        have hKA : ¬ (K : Int) = 0 := by omega
        have hKB : ((K : Int) == 0) = false := by simp; omega
        have hi1 :  (p1 : Int) < (p2 : Int) := by omega
        have hi2 :  (p2 : Int) < (l : Int) := by omega
        have hfin : Hid (best (fF n) (fS n) 0 (j + 1) = (K, p2)) := FIN.out K p2 (by intro h; omega) (by intro h; omega)
        clear hc1 hc2 FIN HBB HM9
        have hKh := Lib.hid hKe
        clear hKe
        go_wp2_with (fail)
        refine d55.mono ?_
        rintro e w3 ⟨va, vk, vb, rfl, hAB, -, hb3⟩
        obtain ⟨hA3, hB3⟩ := hAB w3 (HS5.out.on hb3).s
        obtain ⟨ap1, ac1, ap2, ac2, ap3, ac3, rfl⟩ := hA3.hdr
        obtain ⟨bp1, bc1, bp2, bc2, bp3, bc3, rfl⟩ := hB3.hdr
        obtain ⟨w5, hw5⟩ : ∃ u, u = (w3.alloc (Obj.cells #[.bool HA.leaf, .slice ap1 HA.cells.length ac1, .slice ap2 HA.keys.length ac2, .slice ap3 HA.kids.length ac3] 26)).alloc (Obj.cells #[.bool HBn.leaf, .slice bp1 HBn.cells.length bc1, .slice bp2 HBn.keys.length bc2, .slice bp3 HBn.kids.length bc3] 26) := ⟨_, rfl⟩
        have h10 : Hid (w5.heap[w3.heap.size]? = some (Obj.cells #[.bool HA.leaf, .slice ap1 HA.cells.length ac1, .slice ap2 HA.keys.length ac2, .slice ap3 HA.kids.length ac3] 26)) := by rw [hw5]; exact blk_on (bel1 _ _) (World.alloc_heap_new w3 _)
        have h12 : Hid (w5.heap[w3.heap.size + 1]? = some (Obj.cells #[.bool HBn.leaf, .slice bp1 HBn.cells.length bc1, .slice bp2 HBn.keys.length bc2, .slice bp3 HBn.kids.length bc3] 26)) := by rw [hw5]; exact new2 w3 _ _
        have hb5 : Below w3.heap.size w3 w5 := by rw [hw5]; exact bel_then (bel1 _ _) (bel1 _ _)
        have HAn := Lib.hid (hA3.on hb5)
        have HBn5 := Lib.hid (hB3.on hb5)
        have Hb5 := Lib.hid (bel_then hb3 hb5)
        have Hw5 := Lib.hid hw5
        clear hAB hA3 hB3 hb3 hb5 d55 hw5
        go_wp2_with (fail)
        rw [← Hw5.out]
        have B0 : Below w5.heap.size w5 w5.drew := (Below.refl _ w5).drew
        obtain ⟨m0, m1, m2, m3⟩ := four_of (blk_on B0 h10.out)
        obtain ⟨n0, n1, n2, n3⟩ := four_of (blk_on B0 h12.out)
        have t1 : True := trivial
        have t2 : True := trivial
        go_region_with (first
          | (go_at_call 16; clear t1; with_reducible refine (HE16.out _ _ (HAn.out.on (by with_reducible assumption))).mono ?_; rintro e wa ⟨rfl, hba⟩; have Ba : Below w5.heap.size w5 wa := bel_then (by with_reducible assumption) hba; obtain ⟨m0, m1, m2, m3⟩ := four_of (blk_on Ba h10.out); obtain ⟨n0, n1, n2, n3⟩ := four_of (blk_on Ba h12.out); clear hba)
          | (go_at_call 16; clear t2; with_reducible refine (HG16.out _ _ (HBn5.out.on (by with_reducible assumption))).mono ?_; rintro e wb ⟨rfl, hbb⟩; have Bb : Below w5.heap.size w5 wb := bel_then (by with_reducible assumption) hbb; obtain ⟨m0, m1, m2, m3⟩ := four_of (blk_on Bb h10.out); obtain ⟨n0, n1, n2, n3⟩ := four_of (blk_on Bb h12.out); clear hbb))
        all_goals
          first
            | (have HSn := Lib.hid (hS2.out wb (bel_then Hb5.out Bb))
               go_wp2
               go_roundg g
               case measure => omega
               case rel => exact ⟨K + 1, j + 1, K, p2, by omega, (by have := hKh.out; show _ = _; omega), by first | rfl | simp, by first | rfl | simp, by first | rfl | simp, ⟨fun h => absurd h (Nat.succ_ne_zero _), fun _ => hfin.out⟩, HSn.out⟩)
            | (have HSn := Lib.hid (hS2.out wa (bel_then Hb5.out Ba))
               go_wp2
               go_roundg g
               case measure => omega
               case rel => exact ⟨K + 1, j + 1, K, p2, by omega, (by have := hKh.out; show _ = _; omega), by first | rfl | simp, by first | rfl | simp, by first | rfl | simp, ⟨fun h => absurd h (Nat.succ_ne_zero _), fun _ => hfin.out⟩, HSn.out⟩)
      · obtain ⟨hj0, hc1, hc2⟩ := hc
        have hKA : ¬ (K : Int) = 0 := by omega
        have hKB : ((K : Int) == 0) = false := by simp; omega
        have hi1 :  (p1 : Int) < (p2 : Int) := by omega
        have hi2 : ¬ (p2 : Int) < (l : Int) := by omega
        have hfin : Hid (best (fF n) (fS n) 0 (j + 1) = (b, l)) := FIN.out b l (by intro h; omega) (by intro h; omega)
        clear hc1 hc2 FIN HBB HM9
        have hKh := Lib.hid hKe
        clear hKe
        go_wp2_with (fail)
        refine d55.mono ?_
        rintro e w3 ⟨va, vk, vb, rfl, hAB, -, hb3⟩
        obtain ⟨hA3, hB3⟩ := hAB w3 (HS5.out.on hb3).s
        obtain ⟨ap1, ac1, ap2, ac2, ap3, ac3, rfl⟩ := hA3.hdr
        obtain ⟨bp1, bc1, bp2, bc2, bp3, bc3, rfl⟩ := hB3.hdr
        obtain ⟨w5, hw5⟩ : ∃ u, u = (w3.alloc (Obj.cells #[.bool HA.leaf, .slice ap1 HA.cells.length ac1, .slice ap2 HA.keys.length ac2, .slice ap3 HA.kids.length ac3] 26)).alloc (Obj.cells #[.bool HBn.leaf, .slice bp1 HBn.cells.length bc1, .slice bp2 HBn.keys.length bc2, .slice bp3 HBn.kids.length bc3] 26) := ⟨_, rfl⟩
        have h10 : Hid (w5.heap[w3.heap.size]? = some (Obj.cells #[.bool HA.leaf, .slice ap1 HA.cells.length ac1, .slice ap2 HA.keys.length ac2, .slice ap3 HA.kids.length ac3] 26)) := by rw [hw5]; exact blk_on (bel1 _ _) (World.alloc_heap_new w3 _)
        have h12 : Hid (w5.heap[w3.heap.size + 1]? = some (Obj.cells #[.bool HBn.leaf, .slice bp1 HBn.cells.length bc1, .slice bp2 HBn.keys.length bc2, .slice bp3 HBn.kids.length bc3] 26)) := by rw [hw5]; exact new2 w3 _ _
        have hb5 : Below w3.heap.size w3 w5 := by rw [hw5]; exact bel_then (bel1 _ _) (bel1 _ _)
        have HAn := Lib.hid (hA3.on hb5)
        have HBn5 := Lib.hid (hB3.on hb5)
        have Hb5 := Lib.hid (bel_then hb3 hb5)
        have Hw5 := Lib.hid hw5
        clear hAB hA3 hB3 hb3 hb5 d55 hw5
        go_wp2_with (fail)
        rw [← Hw5.out]
        have B0 : Below w5.heap.size w5 w5.drew := (Below.refl _ w5).drew
        obtain ⟨m0, m1, m2, m3⟩ := four_of (blk_on B0 h10.out)
        obtain ⟨n0, n1, n2, n3⟩ := four_of (blk_on B0 h12.out)
        have t1 : True := trivial
        have t2 : True := trivial
        go_region_with (first
          | (go_at_call 16; clear t1; with_reducible refine (HE16.out _ _ (HAn.out.on (by with_reducible assumption))).mono ?_; rintro e wa ⟨rfl, hba⟩; have Ba : Below w5.heap.size w5 wa := bel_then (by with_reducible assumption) hba; obtain ⟨m0, m1, m2, m3⟩ := four_of (blk_on Ba h10.out); obtain ⟨n0, n1, n2, n3⟩ := four_of (blk_on Ba h12.out); clear hba)
          | (go_at_call 16; clear t2; with_reducible refine (HG16.out _ _ (HBn5.out.on (by with_reducible assumption))).mono ?_; rintro e wb ⟨rfl, hbb⟩; have Bb : Below w5.heap.size w5 wb := bel_then (by with_reducible assumption) hbb; obtain ⟨m0, m1, m2, m3⟩ := four_of (blk_on Bb h10.out); obtain ⟨n0, n1, n2, n3⟩ := four_of (blk_on Bb h12.out); clear hbb))
        all_goals
          first
            | (have HSn := Lib.hid (hS2.out wb (bel_then Hb5.out Bb))
               go_wp2
               go_roundg g
               case measure => omega
               case rel => exact ⟨K + 1, j + 1, b, l, by omega, (by have := hKh.out; show _ = _; omega), by first | rfl | simp, by first | rfl | simp, by first | rfl | simp, ⟨fun h => absurd h (Nat.succ_ne_zero _), fun _ => hfin.out⟩, HSn.out⟩)
            | (have HSn := Lib.hid (hS2.out wa (bel_then Hb5.out Ba))
               go_wp2
               go_roundg g
               case measure => omega
               case rel => exact ⟨K + 1, j + 1, b, l, by omega, (by have := hKh.out; show _ = _; omega), by first | rfl | simp, by first | rfl | simp, by first | rfl | simp, ⟨fun h => absurd h (Nat.succ_ne_zero _), fun _ => hfin.out⟩, HSn.out⟩)
      · obtain ⟨hj0, hc1, hc2⟩ := hc
        have hKA : ¬ (K : Int) = 0 := by omega
        have hKB : ((K : Int) == 0) = false := by simp; omega
        have hi1 : ¬ (p1 : Int) < (p2 : Int) := by omega
        have hi2 :  (p1 : Int) < (l : Int) := by omega
        have hfin : Hid (best (fF n) (fS n) 0 (j + 1) = (K, p1)) := FIN.out K p1 (by intro h; omega) (by intro h; omega)
        clear hc1 hc2 FIN HBB HM9
        have hKh := Lib.hid hKe
        clear hKe
        go_wp2_with (fail)
        refine d55.mono ?_
        rintro e w3 ⟨va, vk, vb, rfl, hAB, -, hb3⟩
        obtain ⟨hA3, hB3⟩ := hAB w3 (HS5.out.on hb3).s
        obtain ⟨ap1, ac1, ap2, ac2, ap3, ac3, rfl⟩ := hA3.hdr
        obtain ⟨bp1, bc1, bp2, bc2, bp3, bc3, rfl⟩ := hB3.hdr
        obtain ⟨w5, hw5⟩ : ∃ u, u = (w3.alloc (Obj.cells #[.bool HA.leaf, .slice ap1 HA.cells.length ac1, .slice ap2 HA.keys.length ac2, .slice ap3 HA.kids.length ac3] 26)).alloc (Obj.cells #[.bool HBn.leaf, .slice bp1 HBn.cells.length bc1, .slice bp2 HBn.keys.length bc2, .slice bp3 HBn.kids.length bc3] 26) := ⟨_, rfl⟩
        have h10 : Hid (w5.heap[w3.heap.size]? = some (Obj.cells #[.bool HA.leaf, .slice ap1 HA.cells.length ac1, .slice ap2 HA.keys.length ac2, .slice ap3 HA.kids.length ac3] 26)) := by rw [hw5]; exact blk_on (bel1 _ _) (World.alloc_heap_new w3 _)
        have h12 : Hid (w5.heap[w3.heap.size + 1]? = some (Obj.cells #[.bool HBn.leaf, .slice bp1 HBn.cells.length bc1, .slice bp2 HBn.keys.length bc2, .slice bp3 HBn.kids.length bc3] 26)) := by rw [hw5]; exact new2 w3 _ _
        have hb5 : Below w3.heap.size w3 w5 := by rw [hw5]; exact bel_then (bel1 _ _) (bel1 _ _)
        have HAn := Lib.hid (hA3.on hb5)
        have HBn5 := Lib.hid (hB3.on hb5)
        have Hb5 := Lib.hid (bel_then hb3 hb5)
        have Hw5 := Lib.hid hw5
        clear hAB hA3 hB3 hb3 hb5 d55 hw5
        go_wp2_with (fail)
        rw [← Hw5.out]
        have B0 : Below w5.heap.size w5 w5.drew := (Below.refl _ w5).drew
        obtain ⟨m0, m1, m2, m3⟩ := four_of (blk_on B0 h10.out)
        obtain ⟨n0, n1, n2, n3⟩ := four_of (blk_on B0 h12.out)
        have t1 : True := trivial
        have t2 : True := trivial
        go_region_with (first
          | (go_at_call 16; clear t1; with_reducible refine (HE16.out _ _ (HAn.out.on (by with_reducible assumption))).mono ?_; rintro e wa ⟨rfl, hba⟩; have Ba : Below w5.heap.size w5 wa := bel_then (by with_reducible assumption) hba; obtain ⟨m0, m1, m2, m3⟩ := four_of (blk_on Ba h10.out); obtain ⟨n0, n1, n2, n3⟩ := four_of (blk_on Ba h12.out); clear hba)
          | (go_at_call 16; clear t2; with_reducible refine (HG16.out _ _ (HBn5.out.on (by with_reducible assumption))).mono ?_; rintro e wb ⟨rfl, hbb⟩; have Bb : Below w5.heap.size w5 wb := bel_then (by with_reducible assumption) hbb; obtain ⟨m0, m1, m2, m3⟩ := four_of (blk_on Bb h10.out); obtain ⟨n0, n1, n2, n3⟩ := four_of (blk_on Bb h12.out); clear hbb))
        all_goals
          first
            | (have HSn := Lib.hid (hS2.out wb (bel_then Hb5.out Bb))
               go_wp2
               go_roundg g
               case measure => omega
               case rel => exact ⟨K + 1, j + 1, K, p1, by omega, (by have := hKh.out; show _ = _; omega), by first | rfl | simp, by first | rfl | simp, by first | rfl | simp, ⟨fun h => absurd h (Nat.succ_ne_zero _), fun _ => hfin.out⟩, HSn.out⟩)
            | (have HSn := Lib.hid (hS2.out wa (bel_then Hb5.out Ba))
               go_wp2
               go_roundg g
               case measure => omega
               case rel => exact ⟨K + 1, j + 1, K, p1, by omega, (by have := hKh.out; show _ = _; omega), by first | rfl | simp, by first | rfl | simp, by first | rfl | simp, ⟨fun h => absurd h (Nat.succ_ne_zero _), fun _ => hfin.out⟩, HSn.out⟩)
      · obtain ⟨hj0, hc1, hc2⟩ := hc
        have hKA : ¬ (K : Int) = 0 := by omega
        have hKB : ((K : Int) == 0) = false := by simp; omega
        have hi1 : ¬ (p1 : Int) < (p2 : Int) := by omega
        have hi2 : ¬ (p1 : Int) < (l : Int) := by omega
        have hfin : Hid (best (fF n) (fS n) 0 (j + 1) = (b, l)) := FIN.out b l (by intro h; omega) (by intro h; omega)
        clear hc1 hc2 FIN HBB HM9
        have hKh := Lib.hid hKe
        clear hKe
        go_wp2_with (fail)
        refine d55.mono ?_
        rintro e w3 ⟨va, vk, vb, rfl, hAB, -, hb3⟩
        obtain ⟨hA3, hB3⟩ := hAB w3 (HS5.out.on hb3).s
        obtain ⟨ap1, ac1, ap2, ac2, ap3, ac3, rfl⟩ := hA3.hdr
        obtain ⟨bp1, bc1, bp2, bc2, bp3, bc3, rfl⟩ := hB3.hdr
        obtain ⟨w5, hw5⟩ : ∃ u, u = (w3.alloc (Obj.cells #[.bool HA.leaf, .slice ap1 HA.cells.length ac1, .slice ap2 HA.keys.length ac2, .slice ap3 HA.kids.length ac3] 26)).alloc (Obj.cells #[.bool HBn.leaf, .slice bp1 HBn.cells.length bc1, .slice bp2 HBn.keys.length bc2, .slice bp3 HBn.kids.length bc3] 26) := ⟨_, rfl⟩
        have h10 : Hid (w5.heap[w3.heap.size]? = some (Obj.cells #[.bool HA.leaf, .slice ap1 HA.cells.length ac1, .slice ap2 HA.keys.length ac2, .slice ap3 HA.kids.length ac3] 26)) := by rw [hw5]; exact blk_on (bel1 _ _) (World.alloc_heap_new w3 _)
        have h12 : Hid (w5.heap[w3.heap.size + 1]? = some (Obj.cells #[.bool HBn.leaf, .slice bp1 HBn.cells.length bc1, .slice bp2 HBn.keys.length bc2, .slice bp3 HBn.kids.length bc3] 26)) := by rw [hw5]; exact new2 w3 _ _
        have hb5 : Below w3.heap.size w3 w5 := by rw [hw5]; exact bel_then (bel1 _ _) (bel1 _ _)
        have HAn := Lib.hid (hA3.on hb5)
        have HBn5 := Lib.hid (hB3.on hb5)
        have Hb5 := Lib.hid (bel_then hb3 hb5)
        have Hw5 := Lib.hid hw5
        clear hAB hA3 hB3 hb3 hb5 d55 hw5
        go_wp2_with (fail)
        rw [← Hw5.out]
        have B0 : Below w5.heap.size w5 w5.drew := (Below.refl _ w5).drew
        obtain ⟨m0, m1, m2, m3⟩ := four_of (blk_on B0 h10.out)
        obtain ⟨n0, n1, n2, n3⟩ := four_of (blk_on B0 h12.out)
        have t1 : True := trivial
        have t2 : True := trivial
        go_region_with (first
          | (go_at_call 16; clear t1; with_reducible refine (HE16.out _ _ (HAn.out.on (by with_reducible assumption))).mono ?_; rintro e wa ⟨rfl, hba⟩; have Ba : Below w5.heap.size w5 wa := bel_then (by with_reducible assumption) hba; obtain ⟨m0, m1, m2, m3⟩ := four_of (blk_on Ba h10.out); obtain ⟨n0, n1, n2, n3⟩ := four_of (blk_on Ba h12.out); clear hba)
          | (go_at_call 16; clear t2; with_reducible refine (HG16.out _ _ (HBn5.out.on (by with_reducible assumption))).mono ?_; rintro e wb ⟨rfl, hbb⟩; have Bb : Below w5.heap.size w5 wb := bel_then (by with_reducible assumption) hbb; obtain ⟨m0, m1, m2, m3⟩ := four_of (blk_on Bb h10.out); obtain ⟨n0, n1, n2, n3⟩ := four_of (blk_on Bb h12.out); clear hbb))
        all_goals
          first
            | (have HSn := Lib.hid (hS2.out wb (bel_then Hb5.out Bb))
               go_wp2
               go_roundg g
               case measure => omega
               case rel => exact ⟨K + 1, j + 1, b, l, by omega, (by have := hKh.out; show _ = _; omega), by first | rfl | simp, by first | rfl | simp, by first | rfl | simp, ⟨fun h => absurd h (Nat.succ_ne_zero _), fun _ => hfin.out⟩, HSn.out⟩)
            | (have HSn := Lib.hid (hS2.out wa (bel_then Hb5.out Ba))
               go_wp2
               go_roundg g
               case measure => omega
               case rel => exact ⟨K + 1, j + 1, b, l, by omega, (by have := hKh.out; show _ = _; omega), by first | rfl | simp, by first | rfl | simp, by first | rfl | simp, ⟨fun h => absurd h (Nat.succ_ne_zero _), fun _ => hfin.out⟩, HSn.out⟩)
end Go.Proofs.Ytbkpgppaahpalaa
