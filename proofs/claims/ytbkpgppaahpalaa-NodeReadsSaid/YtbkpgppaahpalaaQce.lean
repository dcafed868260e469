/-
  The document's reader of cells.
-/
import Derived.Test.YtbkpgppaahpalaaQrd
namespace Go.Proofs.Ytbkpgppaahpalaa
open Go.RowKit
set_option linter.unusedVariables false      -- a walk need not use every condition

theorem Qk.spoil {w0 w u : World} {r : Nat} {s : RS} {bc : Nat} {k : Value} {o l : Int} {K : List UInt8} (h : Qk w0 w u r s bc k o l K) : Qk w0 w (u.setCell ⟨r, 1, none⟩ (.bool true)) r (qBad s) bc k o l K := h.step h.1.1.spoil
theorem Qk.rd {w0 w u : World} {r : Nat} {s : RS} {bc : Nat} {k : Value} {o l : Int} {K : List UInt8} (h : Qk w0 w u r s bc k o l K) : u.frozen? ⟨r, 1, none⟩ = false ∧ u.cell? ⟨r, 1, none⟩ = some (.bool s.2) ∧ ¬ r = bc ∧ ¬ bc = r ∧ ¬ r = w.heap.size ∧ ¬ w.heap.size = r := by
  obtain ⟨h1, h2, h3, h4, h5, h6⟩ := h
  obtain ⟨v, k1, -⟩ := h1.1
  exact ⟨four_fr k1 1, (two_of k1).2, by omega, by omega, by omega, by omega⟩
theorem qVal_len {s : RS} {k : List UInt8} : (qVal k s).2.1.length ≤ s.1.length := by
  have h1 := qOne_len (s := s)
  have h2 := qBytes_len (s := (qOne s).2)
  have h3 := qNum_len (m := 1099511627776) (s := (qOne s).2)
  have h4 := qNum_len (m := 2048) (s := (qNum 1099511627776 (qOne s).2).2)
  unfold qVal
  split
  · simp only; omega
  · split
    · simp only
      split
      · simp only [qBad]; omega
      · omega
    · simp only [qBad]; omega
theorem qCell_len {s : RS} : (qCell s).2.1.length ≤ s.1.length := Nat.le_trans qVal_len qBytes_len
set_option maxHeartbeats 6000000 in
set_option maxRecDepth 100000 in
theorem readCell50 (w0 w : World) (r : Nat) (s : RS) (h : Qd w0 w r s) (hs : s.1.length ≤ 448) :
    Calls Try.prog 50 #[.pointer (some ⟨r, 0, none⟩)] w fun e w' => ∃ v', e = .returned v' ∧ CeO w.heap.size w' v' (qCell s).1 ∧ Qq w0 r (qCell s).2 w w' := by
  have hrl := h.lt
  have hl1 := qBytes_len (s := s)
  have cB := fun (o : Obj) => bytes51 w0 (w.alloc o) r s (h.on (bel1 w o)) hs
  have hH : ∀ o, Qd w0 (w.alloc o) r s := fun o => h.on (bel1 w o)
  unfold qCell
  generalize (qBytes s).1 = K at *
  generalize (qBytes s).2 = s1 at *
  have hl2 := qOne_len (s := s1)
  have hn2 := qOne_lt s1
  unfold qVal
  have cN := fun (u : World) (hd : Qd w0 u r s1) => one48 w0 u r s1 hd (by omega)
  generalize (qOne s1).1 = m at *
  generalize (qOne s1).2 = s2 at *
  have cB2 := fun (u : World) (hd : Qd w0 u r s2) => bytes51 w0 u r s2 hd (by omega)
  have cN2 : ∀ (u : World) (hd : Qd w0 u r s2), Calls Try.prog 49 #[.pointer (some ⟨r, 0, none⟩), .int .i64 1099511627776] u fun e w' => e = .returned (.int .i64 ((qNum 1099511627776 s2).1 : Nat)) ∧ Qq w0 r (qNum 1099511627776 s2).2 u w' := fun u hd => num49 w0 u r s2 1099511627776 (by decide) hd
  have hn3 := qNum_le 1099511627776 s2
  obtain ⟨Z0, hZ0⟩ : ∃ Z, Z = Obj.cells #[.slice none 0 0, .slice none 0 0, .int .i64 0, .int .i64 0] 44 := ⟨_, rfl⟩
  have HZ : Hid ((w.alloc Z0).heap[w.heap.size]? = some Z0) := World.alloc_heap_new w Z0
  rw [hZ0] at HZ
  clear hZ0 Z0
  by_cases h0 : m = 0
  · rw [if_pos h0]
    subst h0
    simp only
    generalize (qBytes s2).1 = X at *
    generalize (qBytes s2).2 = s3 at *
    clear cN2 hn3
    have tk : True := trivial
    go_enter Try.func50, Try.ntmps50
    go_wp2_with (first
      | (go_at_call 51; clear tk; refine (cB _).mono ?_; rintro e w1 ⟨v1, rfl, hb1, hq1⟩; have HB1 := Lib.hid hb1; have HQ1 := Lib.hid hq1; obtain ⟨kp, kc, rfl, -⟩ := hb1.bs; clear hb1 hq1)
      | (go_at_call 48; refine (cN _ (HQ1.out.1.on (bel1 _ _))).mono ?_; rintro e w2 ⟨rfl, hq2⟩; have HQ2 := Lib.hid hq2; have HC2 := Lib.hid (blk_gr (World.alloc_heap_new w1 _) hq2.2 (by have := HQ1.out.2.size; simp at this; omega)); clear hq2)
      | (go_at_call 51; refine (cB2 _ HQ2.out.1).mono ?_; rintro e w3 ⟨v3, rfl, hb3, hq3⟩
         have HQ3 := Lib.hid hq3; have HB3 := Lib.hid hb3; obtain ⟨xp, xc, rfl, -⟩ := hb3.bs
         have hz1 := HQ1.out.2.size
         have hC3 := blk_gr HC2.out hq3.2 (by simp at hz1; omega)
         have hZ3 := blk_gr (blk_gr (blk_on (bel1 w1 _) (blk_gr HZ.out HQ1.out.2 (by omega))) HQ2.out.2 (by omega)) hq3.2 (by omega)
         obtain ⟨y0, y1, y2, y3⟩ := four_of hC3
         have yf1 := four_fr hC3 1
         obtain ⟨x0, x1, x2, x3⟩ := four_of hZ3
         have xf0 := four_fr hZ3 0
         have xf1 := four_fr hZ3 1
         have xf2 := four_fr hZ3 2
         have xf3 := four_fr hZ3 3
         have HC3 := Lib.hid hC3
         have HZ3 := Lib.hid hZ3
         have hne : w.heap.size ≠ w1.heap.size := by simp at hz1; omega
         have hne' : ¬ w1.heap.size = w.heap.size := by simp at hz1; omega
         clear hb3 hq3 hC3 hZ3))
    have hzA := HQ1.out.2.size
    simp only [World.size_alloc] at hzA
    have g1 := gr_set w3 w1.heap.size 1 (.slice xp X.length xc)
    have hZ4 := blk_gr HZ3.out g1 hne
    have hC4 := blk_setc (i := 1) HC3.out (.slice xp X.length xc)
    have g2 := gr_four (w3.setCell ⟨w1.heap.size, 1, none⟩ (.slice xp X.length xc)) w.heap.size (.slice kp K.length kc) (.slice xp X.length xc) (.int .i64 0) (.int .i64 0)
    have hZ5 := blk_four hZ4 (.slice kp K.length kc) (.slice xp X.length xc) (.int .i64 0) (.int .i64 0)
    have bk1 := (Qq.bts (HQ1.out.1.on (bel1 _ _)) HQ2.out (HB1.out.on (bel1 _ _)))
    have bk2 := Qq.bts HQ2.out.1 HQ3.out bk1
    have bk := own_other (own_other bk2 g1 HC3.out (by decide)) g2 hZ4 (by decide)
    have bx := own_other (own_other HB3.out g1 HC3.out (by decide)) g2 hZ4 (by decide)
    have q : Qq w0 r s3 w w3 := ⟨HQ3.out.1, ((gr_bel (bel1 w _) (some r)).trans HQ1.out.2).trans ((gr_bel (bel1 w1 _) (some r)).trans (HQ2.out.2.trans HQ3.out.2))⟩
    have q2 := (q.put g1 (by omega) hrl).put g2 (Nat.le_refl _) hrl
    have hz2 := HQ2.out.2.size
    simp only [World.size_alloc] at hz2
    refine bodyPost_ret (results_c44 Try.results50 _ _ w.heap.size _ _ _ _ 44 rfl hZ5) rfl ?_
    exact ⟨_, rfl, ⟨_, _, rfl, bk.mono (by simp), bx.mono (by omega), by unfold I64; simp, by unfold I64; simp⟩, q2⟩
  · rw [if_neg h0]
    have h0b : ((m : Int) == 0) = false := by simp; omega
    have tk2 : True := trivial
    by_cases h1 : m = 1
    · rw [if_pos h1]
      have cN3 : ∀ (u : World) (hd : Qd w0 u r (qNum 1099511627776 s2).2), Calls Try.prog 49 #[.pointer (some ⟨r, 0, none⟩), .int .i64 2048] u fun e w' => e = .returned (.int .i64 ((qNum 2048 (qNum 1099511627776 s2).2).1 : Nat)) ∧ Qq w0 r (qNum 2048 (qNum 1099511627776 s2).2).2 u w' := fun u hd => num49 w0 u r _ 2048 (by decide) hd
      have hn4 := qNum_le 2048 (qNum 1099511627776 s2).2
      simp only
      subst h1
      generalize (qNum 1099511627776 s2).1 = l at *
      generalize (qNum 1099511627776 s2).2 = s3 at *
      generalize (qNum 2048 s3).1 = ov at *
      generalize (qNum 2048 s3).2 = s4 at *
      clear cB2 h0 h0b
      by_cases hov : ov = 0
      · rw [if_pos hov]
        have hovb : ((ov : Int) == 0) = true := by simp; omega
        clear hov
        go_enter Try.func50, Try.ntmps50
        go_wp2_with (first
          | (go_at_call 51; refine (cB _).mono ?_; rintro e w1 ⟨v1, rfl, hb1, hq1⟩; have HB1 := Lib.hid hb1; have HQ1 := Lib.hid hq1; have hz1 := hq1.2.size; simp only [World.size_alloc] at hz1; have hne : ¬ w.heap.size = w1.heap.size := (by omega); have hne' : ¬ w1.heap.size = w.heap.size := (by omega); obtain ⟨kp, kc, rfl, -⟩ := hb1.bs; clear hb1 hq1 hz1)
          | (go_at_call 48; refine (cN _ (HQ1.out.1.on (bel1 _ _))).mono ?_; rintro e w2 ⟨rfl, hq2⟩
             have hP1 : Qk w0 w (w1.alloc (.cells #[.slice kp K.length kc, .slice none 0 0, .int .i64 0, .int .i64 0] 44)) r s1 w1.heap.size (.slice kp K.length kc) 0 0 K := ⟨⟨HQ1.out.1.on (bel1 _ _), ((gr_bel (bel1 w _) (some r)).trans HQ1.out.2).trans (gr_bel (bel1 w1 _) (some r))⟩, World.alloc_heap_new w1 _, blk_on (bel1 w1 _) (blk_gr HZ.out HQ1.out.2 (by omega)), (HB1.out.on (bel1 w1 _)).mono (by simp), (by have hz := HQ1.out.2.size; simp only [World.size_alloc] at hz; omega), hrl⟩
             have hP2 := hP1.step hq2
             have HP2 := Lib.hid hP2
             obtain ⟨⟨y0, y1, y2, y3⟩, yf2, yf3, ⟨x0, x1, x2, x3⟩, xf⟩ := hP2.facts
             obtain ⟨rf1, rc1, re1, re2, re3, re4⟩ := hP2.rd
             have xf0 := xf 0
             have xf1 := xf 1
             have xf2 := xf 2
             have xf3 := xf 3
             clear hq2 hP1 hP2 xf)
          | (go_at_call 49; clear tk2; refine (cN2 _ HP2.out.1.1).mono ?_; rintro e w3 ⟨rfl, hq3⟩
             have hP3 := HP2.out.step hq3
             have HP3 := Lib.hid (hP3.len (l : Int))
             obtain ⟨⟨y0, y1, y2, y3⟩, yf2, yf3, ⟨x0, x1, x2, x3⟩, xf⟩ := hP3.facts
             obtain ⟨rf1, rc1, re1, re2, re3, re4⟩ := hP3.rd
             have xf0 := xf 0
             have xf1 := xf 1
             have xf2 := xf 2
             have xf3 := xf 3
             clear hq3 hP3 xf)
          | (go_at_call 49; refine (cN3 _ HP3.out.1.1).mono ?_; rintro e w4 ⟨rfl, hq4⟩
             have hP4 := HP3.out.step hq4
             have HP4 := Lib.hid (hP4.over (ov : Int))
             obtain ⟨⟨y0, y1, y2, y3⟩, yf2, yf3, ⟨x0, x1, x2, x3⟩, xf⟩ := hP4.facts
             obtain ⟨rf1, rc1, re1, re2, re3, re4⟩ := hP4.rd
             have xf0 := xf 0
             have xf1 := xf 1
             have xf2 := xf 2
             have xf3 := xf 3
             clear hq4 hP4 xf))
        obtain ⟨d1, d2, d3⟩ := HP4.out.spoil.done (by unfold I64; omega) (by unfold I64; omega)
        refine bodyPost_ret (results_c44 Try.results50 _ _ w.heap.size _ _ _ _ 44 rfl d1) rfl ?_
        exact ⟨_, rfl, d2, d3⟩
      · rw [if_neg hov]
        have hovb : ((ov : Int) == 0) = false := by simp; omega
        clear hov
        go_enter Try.func50, Try.ntmps50
        go_wp2_with (first
          | (go_at_call 51; refine (cB _).mono ?_; rintro e w1 ⟨v1, rfl, hb1, hq1⟩; have HB1 := Lib.hid hb1; have HQ1 := Lib.hid hq1; have hz1 := hq1.2.size; simp only [World.size_alloc] at hz1; have hne : ¬ w.heap.size = w1.heap.size := (by omega); have hne' : ¬ w1.heap.size = w.heap.size := (by omega); obtain ⟨kp, kc, rfl, -⟩ := hb1.bs; clear hb1 hq1 hz1)
          | (go_at_call 48; refine (cN _ (HQ1.out.1.on (bel1 _ _))).mono ?_; rintro e w2 ⟨rfl, hq2⟩
             have hP1 : Qk w0 w (w1.alloc (.cells #[.slice kp K.length kc, .slice none 0 0, .int .i64 0, .int .i64 0] 44)) r s1 w1.heap.size (.slice kp K.length kc) 0 0 K := ⟨⟨HQ1.out.1.on (bel1 _ _), ((gr_bel (bel1 w _) (some r)).trans HQ1.out.2).trans (gr_bel (bel1 w1 _) (some r))⟩, World.alloc_heap_new w1 _, blk_on (bel1 w1 _) (blk_gr HZ.out HQ1.out.2 (by omega)), (HB1.out.on (bel1 w1 _)).mono (by simp), (by have hz := HQ1.out.2.size; simp only [World.size_alloc] at hz; omega), hrl⟩
             have hP2 := hP1.step hq2
             have HP2 := Lib.hid hP2
             obtain ⟨⟨y0, y1, y2, y3⟩, yf2, yf3, ⟨x0, x1, x2, x3⟩, xf⟩ := hP2.facts
             obtain ⟨rf1, rc1, re1, re2, re3, re4⟩ := hP2.rd
             have xf0 := xf 0
             have xf1 := xf 1
             have xf2 := xf 2
             have xf3 := xf 3
             clear hq2 hP1 hP2 xf)
          | (go_at_call 49; clear tk2; refine (cN2 _ HP2.out.1.1).mono ?_; rintro e w3 ⟨rfl, hq3⟩
             have hP3 := HP2.out.step hq3
             have HP3 := Lib.hid (hP3.len (l : Int))
             obtain ⟨⟨y0, y1, y2, y3⟩, yf2, yf3, ⟨x0, x1, x2, x3⟩, xf⟩ := hP3.facts
             obtain ⟨rf1, rc1, re1, re2, re3, re4⟩ := hP3.rd
             have xf0 := xf 0
             have xf1 := xf 1
             have xf2 := xf 2
             have xf3 := xf 3
             clear hq3 hP3 xf)
          | (go_at_call 49; refine (cN3 _ HP3.out.1.1).mono ?_; rintro e w4 ⟨rfl, hq4⟩
             have hP4 := HP3.out.step hq4
             have HP4 := Lib.hid (hP4.over (ov : Int))
             obtain ⟨⟨y0, y1, y2, y3⟩, yf2, yf3, ⟨x0, x1, x2, x3⟩, xf⟩ := hP4.facts
             obtain ⟨rf1, rc1, re1, re2, re3, re4⟩ := hP4.rd
             have xf0 := xf 0
             have xf1 := xf 1
             have xf2 := xf 2
             have xf3 := xf 3
             clear hq4 hP4 xf))
        obtain ⟨d1, d2, d3⟩ := HP4.out.done (by unfold I64; omega) (by unfold I64; omega)
        refine bodyPost_ret (results_c44 Try.results50 _ _ w.heap.size _ _ _ _ 44 rfl d1) rfl ?_
        exact ⟨_, rfl, d2, d3⟩
    · rw [if_neg h1]
      have h1b : ((m : Int) == 1) = false := by simp; omega
      clear cB2 cN2 h0 h1 hn3
      go_enter Try.func50, Try.ntmps50
      go_wp2_with (first
          | (go_at_call 51; refine (cB _).mono ?_; rintro e w1 ⟨v1, rfl, hb1, hq1⟩; have HB1 := Lib.hid hb1; have HQ1 := Lib.hid hq1; have hz1 := hq1.2.size; simp only [World.size_alloc] at hz1; have hne : ¬ w.heap.size = w1.heap.size := (by omega); have hne' : ¬ w1.heap.size = w.heap.size := (by omega); obtain ⟨kp, kc, rfl, -⟩ := hb1.bs; clear hb1 hq1 hz1)
          | (go_at_call 48; refine (cN _ (HQ1.out.1.on (bel1 _ _))).mono ?_; rintro e w2 ⟨rfl, hq2⟩
             have hP1 : Qk w0 w (w1.alloc (.cells #[.slice kp K.length kc, .slice none 0 0, .int .i64 0, .int .i64 0] 44)) r s1 w1.heap.size (.slice kp K.length kc) 0 0 K := ⟨⟨HQ1.out.1.on (bel1 _ _), ((gr_bel (bel1 w _) (some r)).trans HQ1.out.2).trans (gr_bel (bel1 w1 _) (some r))⟩, World.alloc_heap_new w1 _, blk_on (bel1 w1 _) (blk_gr HZ.out HQ1.out.2 (by omega)), (HB1.out.on (bel1 w1 _)).mono (by simp), (by have hz := HQ1.out.2.size; simp only [World.size_alloc] at hz; omega), hrl⟩
             have hP2 := hP1.step hq2
             have HP2 := Lib.hid hP2
             obtain ⟨⟨y0, y1, y2, y3⟩, yf2, yf3, ⟨x0, x1, x2, x3⟩, xf⟩ := hP2.facts
             obtain ⟨rf1, rc1, re1, re2, re3, re4⟩ := hP2.rd
             have xf0 := xf 0
             have xf1 := xf 1
             have xf2 := xf 2
             have xf3 := xf 3
             clear hq2 hP1 hP2 xf))
      obtain ⟨d1, d2, d3⟩ := HP2.out.spoil.done (by unfold I64; omega) (by unfold I64; omega)
      refine bodyPost_ret (results_c44 Try.results50 _ _ w.heap.size _ _ _ _ 44 rfl d1) rfl ?_
      exact ⟨_, rfl, d2, d3⟩
end Go.Proofs.Ytbkpgppaahpalaa
