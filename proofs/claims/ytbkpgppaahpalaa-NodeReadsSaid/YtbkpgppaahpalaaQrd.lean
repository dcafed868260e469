/-
  The document's reader of nodes: its calls.
-/
import Derived.Test.YtbkpgppaahpalaaQdr
import Derived.Test.YtbkpgppaahpalaaQtk
namespace Go.Proofs.Ytbkpgppaahpalaa
open Go.RowKit
set_option linter.unusedVariables false      -- a walk need not use every condition

theorem rtake_yes (w : World) (b : Value) (t : List UInt8) (hb : Bs w b t) (u k : Nat) (h : tk t = some (u, k)) : Calls Try.prog 89 #[b] w fun e w' => e = .returned (.tuple #[.int .u64 u, .int .i64 (k : Int), .int .i64 0]) ∧ w' = w :=
  (rtake89 w b t hb).mono fun e w' ⟨h1, h2⟩ => by
    rcases h1 with ⟨u', k', e1, rfl⟩ | ⟨e1, -⟩
    · rw [h] at e1
      injection e1 with e1
      injection e1 with e1 e2
      subst e1 e2
      exact ⟨rfl, h2⟩
    · rw [h] at e1; cases e1
theorem rtake_no (w : World) (b : Value) (t : List UInt8) (hb : Bs w b t) (h : tk t = none) : Calls Try.prog 89 #[b] w fun e w' => ∃ n : Int, n ≠ 0 ∧ e = .returned (.tuple #[.int .u64 0, .int .i64 0, .int .i64 n]) ∧ w' = w :=
  (rtake89 w b t hb).mono fun e w' ⟨h1, h2⟩ => by
    rcases h1 with ⟨u', k', e1, rfl⟩ | ⟨-, n, hn, rfl⟩
    · rw [h] at e1; cases e1
    · exact ⟨n, hn, rfl, h2⟩
theorem blk_second {w : World} {g : Nat} {t : TypeId} {x y : Value} (h : w.heap[g]? = some (.cells #[x, y] t)) (a : Value) : (w.setCell ⟨g, 1, none⟩ a).heap[g]? = some (.cells #[x, a] t) := by
  simp [World.setCell, Array.getElem?_modify, h]
theorem Qd.spoil {w0 w : World} {r : Nat} {s : RS} (h : Qd w0 w r s) : Qq w0 r (qBad s) w (w.setCell ⟨r, 1, none⟩ (.bool true)) := by
  obtain ⟨v, h1, h2, h3, h4⟩ := id h
  exact h.set (s' := qBad s) h2 _ (gr_set w r 1 _) (blk_second h1 _)
set_option maxHeartbeats 2000000 in
theorem num49 (w0 w : World) (r : Nat) (s : RS) (m : Nat) (hm : m ≤ 1099511627776) (h : Qd w0 w r s) : Calls Try.prog 49 #[.pointer (some ⟨r, 0, none⟩), .int .i64 m] w fun e w' => e = .returned (.int .i64 ((qNum m s).1 : Nat)) ∧ Qq w0 r (qNum m s).2 w w' := by
  have H := Lib.hid h
  have HS := Lib.hid h.spoil
  obtain ⟨v, h1, h2, h3, h4⟩ := h
  have hB := h2.on h3
  obtain ⟨q0, q1⟩ := two_of h1
  have f0 := four_fr h1 0
  have f1 := four_fr h1 1
  have HB1 := Lib.hid h1
  have HB2 := Lib.hid h2
  obtain ⟨p, cap, rfl, hlc, -, -, -⟩ := id h2
  unfold qNum
  have hmw : IntKind.u64.wrap (m : Int) = (m : Int) := by rw [IntKind.wrap_u64]; omega
  cases hf : s.2 with
  | true =>
    rw [if_pos rfl]
    rw [hf] at q1
    clear h1 h2 h3 hB
    go_enter Try.func49, Try.ntmps49
    go_wp2
    go_ret
    exact ⟨rfl, Qq.refl H.out⟩
  | false =>
    rw [if_neg (by decide)]
    rw [hf] at q1
    cases hk : tk s.1 with
    | none =>
      have c89 := rtake_no w _ s.1 hB hk
      clear h1 h2 h3 hB hk
      go_enter Try.func49, Try.ntmps49
      go_wp2_with (go_at_call 89; refine c89.mono ?_; rintro e w' ⟨n, hn, rfl, ew⟩; rw [ew]; clear ew w'; have hm1 : (n == 0) = false := (by simp; exact hn); have hm2 : (n != 0) = true := (by simp; exact hn); clear hn)
      go_ret
      exact ⟨rfl, HS.out⟩
    | some x =>
      obtain ⟨u, N⟩ := x
      simp only
      have c89 := rtake_yes w _ s.1 hB u N hk
      obtain ⟨-, hu, hN1, hNl, -⟩ := tk_back hk
      by_cases hle : u ≤ m
      · rw [if_pos hle]
        have hz : ¬ (m : Int) < (u : Int) := by omega
        have hw : IntKind.i64.wrap (u : Int) = (u : Int) := by rw [IntKind.wrap_i64]; omega
        have hdr := HB2.out.drop (n := N) hNl
        have hl9 := HB2.out.slice
        obtain ⟨-, -, -, -, hl9⟩ := hl9
        clear h1 h2 h3 hB hk
        have hB1 := HB1.out
        rw [hf] at hB1
        by_cases hcn : cap = N
        · subst hcn
          rw [if_pos rfl, Nat.sub_self, show s.1.length - cap = 0 by omega] at hdr
          have hq := Lib.hid (H.out.set (s' := (s.1.drop cap, false)) hdr _ (gr_set w r 0 _) (blk_first hB1 _))
          clear hB1
          generalize s.1.length = T at *
          clear hdr
          go_enter Try.func49, Try.ntmps49
          go_wp2_with (go_at_call 89; refine c89.mono ?_; rintro e w' ⟨rfl, ew⟩; rw [ew]; clear ew w')
          go_ret
          exact ⟨by first | rfl | simp, hq.out⟩
        · rw [if_neg hcn] at hdr
          have hq := Lib.hid (H.out.set (s' := (s.1.drop N, false)) hdr _ (gr_set w r 0 _) (blk_first hB1 _))
          clear hB1
          generalize s.1.length = T at *
          clear hdr
          go_enter Try.func49, Try.ntmps49
          go_wp2_with (go_at_call 89; refine c89.mono ?_; rintro e w' ⟨rfl, ew⟩; rw [ew]; clear ew w')
          go_ret
          exact ⟨by first | rfl | simp, hq.out⟩
      · rw [if_neg hle]
        have hz : (m : Int) < (u : Int) := by omega
        clear h1 h2 h3 hB hk
        go_enter Try.func49, Try.ntmps49
        go_wp2_with (go_at_call 89; refine c89.mono ?_; rintro e w' ⟨rfl, ew⟩; rw [ew]; clear ew w')
        go_ret
        exact ⟨rfl, HS.out⟩
set_option maxHeartbeats 2000000 in
theorem take88 (w0 w : World) (r : Nat) (s : RS) (l : Nat) (h : Qd w0 w r s) (hs : s.1.length ≤ 448) (hlt : l ≤ 1099511627776) :
    Calls Try.prog 88 #[.pointer (some ⟨r, 0, none⟩), .int .i64 l] w fun e w' => ∃ v', e = .returned v' ∧ Bts w' w.heap.size v' (qTake l s).1 ∧ Qq w0 r (qTake l s).2 w w' := by
  have H := Lib.hid h
  have HS := Lib.hid h.spoil
  obtain ⟨v, h1, h2, h3, h4⟩ := h
  obtain ⟨q0, q1⟩ := two_of h1
  have f0 := four_fr h1 0
  have f1 := four_fr h1 1
  have HK1 := Lib.hid h1
  have HK2 := Lib.hid h2
  have HK3 := Lib.hid h3
  obtain ⟨p, cap, rfl, hcc, hcm, -, -⟩ := id h2
  unfold qTake
  unfold maxLen at hcm
  cases hf : s.2 with
  | true =>
    rw [Bool.true_or, if_pos rfl]
    rw [hf] at q1
    clear h1 h2 h3
    go_enter Try.func88, Try.ntmps88
    go_wp2
    go_ret
    exact ⟨_, rfl, bts_nil _ _, HS.out⟩
  | false =>
    rw [Bool.false_or]
    rw [hf] at q1
    by_cases hl : s.1.length < l
    · rw [if_pos (decide_eq_true hl)]
      have hlz : (s.1.length : Int) < (l : Int) := by omega
      clear h1 h2 h3
      go_enter Try.func88, Try.ntmps88
      go_wp2
      go_ret
      exact ⟨_, rfl, bts_nil _ _, HS.out⟩
    · rw [if_neg (by simpa using hl)]
      have hlz : ¬ (s.1.length : Int) < (l : Int) := by omega
      have hn : l ≤ s.1.length := by omega
      have HT4 : Hid (Bs w (.slice p l cap) (s.1.take l)) := (HK2.out.on HK3.out).take hn
      have hdr : Bs w0 (.slice (if cap = l then p else p.map (·.add l)) (s.1.length - l) (cap - l)) (s.1.drop l) := HK2.out.drop hn
      have HL : Hid ((s.1.take l).length = l) := by show _ = _; simp; omega
      have hK1 := HK1.out
      rw [hf] at hK1
      have HK1' := Lib.hid hK1
      clear h1 h2 h3 hK1
      generalize s.1.take l = S at *
      by_cases hcn : cap = l
      · subst hcn
        obtain hT : s.1.length = cap := by omega
        rw [if_pos rfl, hT, Nat.sub_self] at hdr
        rw [hT] at q0 HK1'
        go_enter Try.func88, Try.ntmps88
        go_wp2_with (at_builtin; refine wpList_app rfl _ _ rfl w.heap.size _ _ [] S rfl rfl (bts_nil _ _) HT4.out (by have := HL.out; simp; omega) (Nat.le_refl _) ?_; intro v2 w2 hb2 hg2; have HB2 := Lib.hid (Bts.below (bts_nil w w.heap.size) hg2 (Nat.le_refl _)); have HK12 := Lib.hid (blk_on HB2.out HK1'.out); obtain ⟨x0, x1⟩ := two_of HK12.out; have g0 := four_fr HK12.out 0; rw [List.nil_append] at hb2; have HO2 := Lib.hid hb2; clear hb2 hg2)
        have HR2 : Qq w0 r s w w2 := (Qq.refl H.out).bel HB2.out
        have hq := HR2.1.set (s' := (s.1.drop cap, false)) hdr _ (gr_set w2 r 0 _) (blk_first HK12.out _)
        go_ret
        exact ⟨_, rfl, own_other HO2.out hq.2 HK12.out (by decide), HR2.trans hq⟩
      · rw [if_neg hcn] at hdr
        generalize hT : s.1.length = T at *
        have HT := Lib.hid hT
        clear hT
        go_enter Try.func88, Try.ntmps88
        go_wp2_with (at_builtin; refine wpList_app rfl _ _ rfl w.heap.size _ _ [] S rfl rfl (bts_nil _ _) HT4.out (by have := HL.out; simp; omega) (Nat.le_refl _) ?_; intro v2 w2 hb2 hg2; have HB2 := Lib.hid (Bts.below (bts_nil w w.heap.size) hg2 (Nat.le_refl _)); have HK12 := Lib.hid (blk_on HB2.out HK1'.out); obtain ⟨x0, x1⟩ := two_of HK12.out; have g0 := four_fr HK12.out 0; rw [List.nil_append] at hb2; have HO2 := Lib.hid hb2; clear hb2 hg2)
        have HR2 : Qq w0 r s w w2 := (Qq.refl H.out).bel HB2.out
        have hq := HR2.1.set (s' := (s.1.drop l, false)) hdr _ (gr_set w2 r 0 _) (blk_first HK12.out _)
        go_ret
        exact ⟨_, rfl, own_other HO2.out hq.2 HK12.out (by decide), HR2.trans hq⟩
theorem qNum_len {m : Nat} {s : RS} : (qNum m s).2.1.length ≤ s.1.length := by
  unfold qNum qBad
  split
  · simp
  · split
    · split
      · simp
      · simp
    · simp
theorem qTake_len {l : Nat} {s : RS} : (qTake l s).2.1.length ≤ s.1.length := by
  unfold qTake qBad
  split <;> simp
theorem qBytes_len {s : RS} : (qBytes s).2.1.length ≤ s.1.length := Nat.le_trans qTake_len qNum_len
theorem qOne_len {s : RS} : (qOne s).2.1.length ≤ s.1.length := by
  have := qTake_len (l := 1) (s := s)
  unfold qOne
  split
  · exact this
  · exact this
set_option maxHeartbeats 2000000 in
theorem one48 (w0 w : World) (r : Nat) (s : RS) (h : Qd w0 w r s) (hs : s.1.length ≤ 448) :
    Calls Try.prog 48 #[.pointer (some ⟨r, 0, none⟩)] w fun e w' => e = .returned (.int .u8 ((qOne s).1 : Nat)) ∧ Qq w0 r (qOne s).2 w w' := by
  have c88 : Calls Try.prog 88 #[.pointer (some ⟨r, 0, none⟩), .int .i64 1] w fun e w' => ∃ v', e = .returned v' ∧ Bts w' w.heap.size v' (qTake 1 s).1 ∧ Qq w0 r (qTake 1 s).2 w w' := take88 w0 w r s 1 h hs (by decide)
  unfold qOne
  cases hf : (qTake 1 s).2.2 with
  | true =>
    rw [if_pos rfl]
    generalize (qTake 1 s).2 = s1 at *
    go_enter Try.func48, Try.ntmps48
    go_wp2_with (go_at_call 88; refine c88.mono ?_; rintro e w1 ⟨v1, rfl, hb1, hq1⟩; have HQ := Lib.hid hq1; obtain ⟨v, k1, -⟩ := hq1.1; obtain ⟨x0, x1⟩ := two_of k1; rw [hf] at x1; obtain ⟨bp, bc, rfl, -⟩ := hb1.bs; clear hq1 k1 hb1)
    go_ret
    exact ⟨rfl, HQ.out⟩
  | false =>
    rw [if_neg (by decide)]
    obtain ⟨-, -, h3⟩ := qTake_back hf
    generalize (qTake 1 s).2 = s1 at *
    match hq : (qTake 1 s).1, h3 with
    | [c], _ =>
      rw [hq] at c88
      simp only [List.getD_cons_zero]
      go_enter Try.func48, Try.ntmps48
      go_wp2_with (go_at_call 88; refine c88.mono ?_; rintro e w1 ⟨v1, rfl, hb1, hq1⟩; have HQ := Lib.hid hq1; obtain ⟨v, k1, -⟩ := hq1.1; obtain ⟨x0, x1⟩ := two_of k1; rw [hf] at x1; obtain ⟨bg, bo, bc, rfl, -, -, hcell⟩ := hb1.bs.cells (by simp); have y0 := hcell 0 (by simp); simp only [List.getElem_cons_zero, Nat.add_zero] at y0; clear hq1 k1 hb1 hcell)
      go_ret
      exact ⟨rfl, HQ.out⟩
set_option maxHeartbeats 2000000 in
theorem bytes51 (w0 w : World) (r : Nat) (s : RS) (h : Qd w0 w r s) (hs : s.1.length ≤ 448) :
    Calls Try.prog 51 #[.pointer (some ⟨r, 0, none⟩)] w fun e w' => ∃ v', e = .returned v' ∧ Bts w' w.heap.size v' (qBytes s).1 ∧ Qq w0 r (qBytes s).2 w w' := by
  have c49 : Calls Try.prog 49 #[.pointer (some ⟨r, 0, none⟩), .int .i64 448] w fun e w' => e = .returned (.int .i64 ((qNum 448 s).1 : Nat)) ∧ Qq w0 r (qNum 448 s).2 w w' := num49 w0 w r s 448 (by decide) h
  have hl := qNum_len (m := 448) (s := s)
  have hn := qNum_le 448 s
  have c88 := fun (u : World) (hd : Qd w0 u r (qNum 448 s).2) => take88 w0 u r (qNum 448 s).2 (qNum 448 s).1 hd (by omega) (by omega)
  unfold qBytes
  generalize (qNum 448 s).1 = l at *
  generalize (qNum 448 s).2 = s1 at *
  go_enter Try.func51, Try.ntmps51
  go_wp2_with (first
    | (go_at_call 49; refine c49.mono ?_; rintro e w1 ⟨rfl, hq1⟩; have HQ := Lib.hid hq1; clear hq1)
    | (go_at_call 88; refine (c88 _ HQ.out.1).mono ?_; rintro e w2 ⟨v2, rfl, hb2, hq2⟩))
  go_ret
  exact ⟨_, rfl, hb2.mono HQ.out.2.size, HQ.out.trans hq2⟩
end Go.Proofs.Ytbkpgppaahpalaa
