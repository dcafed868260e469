/-
  The document's Parse.
-/
import Derived.Test.YtbkpgppaahpalaaQce
import Derived.Test.YtbkpgppaahpalaaRcl
import Derived.Test.YtbkpgppaahpalaaPar
namespace Go.Proofs.Ytbkpgppaahpalaa
open Go.RowKit
set_option linter.unusedVariables false      -- a walk need not use every condition

theorem qNode_other {s : RS} (h1 : ¬ (qOne s).1 = 1) (h2 : ¬ (qOne s).1 = 2) : qNode s = (nd0, qBad (qOne s).2) := by unfold qNode; rw [if_neg h1, if_neg h2]
theorem qNode_leaf {s : RS} (h1 : (qOne s).1 = 1) : qNode s = qLeaf (qOne s).2 := by unfold qNode; rw [if_pos h1]
theorem qNode_inner {s : RS} (h1 : (qOne s).1 = 2) : qNode s = qInner (qOne s).2 := by unfold qNode; rw [if_neg (by omega), if_pos h1]
/-- What the document's Parse answers. -/
def QPost (w : World) (t : List UInt8) (e : Ending) (w' : World) : Prop := ∃ v', e = .returned (.tuple #[v', .int .i64 (chkE (okQ t))]) ∧ NdO w.heap.size w' v' (if okQ t then (qNode (t, false)).1 else nd0) ∧ Below w.heap.size w w'
theorem QPost.no {w u : World} {t : List UInt8} (hok : okQ t = false) (hb : Below w.heap.size w u) : QPost w t (.returned (.tuple #[.agg #[.bool false, .slice none 0 0, .slice none 0 0, .slice none 0 0], .int .i64 80])) u := by
  unfold QPost
  rw [hok]
  exact ⟨_, rfl, ndo_zero _ _, hb⟩
theorem QPost.yes {w u : World} {t : List UInt8} {n : Nd} {vc vk vi : Value} (hok : okQ t = true) (hn : (qNode (t, false)).1 = n) (hN : NdO w.heap.size u (.agg #[.bool n.leaf, vc, vk, vi]) n) (hb : Below w.heap.size w u) : QPost w t (.returned (.tuple #[.agg #[.bool n.leaf, vc, vk, vi], .int .i64 0])) u := by
  unfold QPost
  rw [hok, if_pos rfl, hn]
  exact ⟨_, rfl, hN, hb⟩
theorem okQ_bad {t : List UInt8} {n : Nd} {s : RS} (h : qNode (t, false) = (n, s)) (hs : s.2 = true) : okQ t = false := by
  unfold okQ; rw [h]; simp [hs]
theorem okQ_rest {t : List UInt8} {n : Nd} {s : RS} (h : qNode (t, false) = (n, s)) (hs : ¬ s.1.length = 0) : okQ t = false := by
  unfold okQ; rw [h]; simp only; rw [decide_eq_false hs]; simp
theorem okQ_may {t : List UInt8} {n : Nd} {s : RS} (h : qNode (t, false) = (n, s)) (hl : t.length ≤ 448) (hf : s.2 = false) (hs : s.1.length = 0) : okQ t = may n := by
  unfold okQ; rw [h]; simp only; rw [decide_eq_true hs, decide_eq_true hl, hf]; simp
theorem Qn.lead {w0 w u : World} {r : Nat} {s : RS} {vc vk vi : Value} {n : Nd} (h : Qn w0 w u r s vc vk vi n) (b : Bool) : Qn w0 w (u.setCell ⟨w.heap.size, 0, none⟩ (.bool b)) r s vc vk vi ⟨b, n.cells, n.keys, n.kids⟩ := by
  obtain ⟨h1, h2, h4, h5, h6, h7⟩ := h
  have g := gr_set u w.heap.size 0 (.bool b)
  exact ⟨h1.put g (Nat.le_refl _) h7, blk_setc h2 _, h4.gr g h2 (by decide) (by decide), h5.gr g h2 (by decide) (by decide), h6.gr g h2 (by decide), h7⟩
theorem Qn.nds {w0 w u : World} {r : Nat} {s : RS} {vc vk vi : Value} {n : Nd} (h : Qn w0 w u r s vc vk vi n) : NdO w.heap.size u (.agg #[.bool n.leaf, vc, vk, vi]) n := ⟨_, _, _, rfl, h.2.2.1, h.2.2.2.1, h.2.2.2.2.1⟩
theorem Qn.spoil {w0 w u : World} {r : Nat} {s : RS} {vc vk vi : Value} {n : Nd} (h : Qn w0 w u r s vc vk vi n) : Qn w0 w (u.setCell ⟨r, 1, none⟩ (.bool true)) r (qBad s) vc vk vi n := h.step h.1.1.spoil
/-- What is at hand at the end. -/
theorem Qn.ends {w W u : World} {R : Nat} {s : RS} {vc vk vi : Value} {n : Nd} (h : Qn w W u R s vc vk vi n) (hR : R = w.heap.size + 1) (hZ : W.heap[w.heap.size]? = some (Obj.cells #[.bool false, .slice none 0 0, .slice none 0 0, .slice none 0 0] 26)) :
    u.heap[w.heap.size]? = some (Obj.cells #[.bool false, .slice none 0 0, .slice none 0 0, .slice none 0 0] 26) ∧ (∃ rp rc, u.cell? ⟨R, 0, none⟩ = some (.slice rp s.1.length rc)) ∧ u.cell? ⟨R, 1, none⟩ = some (.bool s.2) ∧ Below w.heap.size w u := by
  obtain ⟨⟨⟨v, k1, k2, k3, k4⟩, hg⟩, -⟩ := h
  obtain ⟨rp, rc, rfl, -⟩ := id k2
  exact ⟨blk_gr hZ hg (by omega), ⟨rp, rc, (two_of k1).1⟩, (two_of k1).2, k3⟩
set_option maxHeartbeats 16000000 in
set_option maxRecDepth 100000 in
theorem qparse_other (w : World) (p : Option Addr) (cap : Nat) (t : List UInt8) (h : Bs w (.slice p t.length cap) t) (hl : t.length ≤ 448) (hm : ¬ (qOne (t, false)).1 = 1 ∧ ¬ (qOne (t, false)).1 = 2) :
    Calls Try.prog 19 #[.slice p t.length cap] w fun e w' => QPost w t e w' := by
  have hlz : ¬ (448 : Int) < (t.length : Int) := by omega
  obtain ⟨W1, hW1⟩ : ∃ W, W = (w.alloc (Obj.cells #[.bool false, .slice none 0 0, .slice none 0 0, .slice none 0 0] 26)).alloc (Obj.cells #[.slice p t.length cap, .bool false] 69) := ⟨_, rfl⟩
  have hWs : W1.heap.size = w.heap.size + 1 + 1 := by rw [hW1]; simp
  obtain ⟨R, hR⟩ : ∃ R, R = w.heap.size + 1 := ⟨_, rfl⟩
  have hWZ : Hid (W1.heap[w.heap.size]? = some (Obj.cells #[.bool false, .slice none 0 0, .slice none 0 0, .slice none 0 0] 26)) := by
    show _ = _
    rw [hW1]
    exact blk_on (bel1 _ _) (World.alloc_heap_new w _)
  have hWR : W1.heap[R]? = some (Obj.cells #[.slice p t.length cap, .bool false] 69) := by
    rw [hW1, hR]
    have := World.alloc_heap_new (w.alloc (Obj.cells #[.bool false, .slice none 0 0, .slice none 0 0, .slice none 0 0] 26)) (Obj.cells #[.slice p t.length cap, .bool false] 69)
    rwa [World.size_alloc] at this
  have hWB : Below w.heap.size w W1 := by rw [hW1]; exact bel_then (bel1 _ _) (bel1 _ _)
  have hQ0 : Hid (Qn w W1 (W1.alloc (Obj.cells #[.bool false, .slice none 0 0, .slice none 0 0, .slice none 0 0] 26)) R (t, false) (.slice none 0 0) (.slice none 0 0) (.slice none 0 0) nd0) :=
    ⟨⟨⟨_, blk_on (bel1 _ _) hWR, h, bel_then hWB (bel1 _ _), by omega⟩, gr_bel (bel1 _ _) _⟩, World.alloc_heap_new W1 _, cso_nil _ _, kso_nil _ _, iso_nil _ _, by omega⟩
  have c48 := one48 w _ R (t, false) hQ0.out.1.1 hl
  have hl1 : (qOne (t, false)).2.1.length ≤ 448 := Nat.le_trans qOne_len hl
  have HN := Lib.hid (qNode_other hm.1 hm.2)
  generalize hs1 : (qOne (t, false)).2 = s1 at *
  clear hs1 hWR hWB h
  have HW1 := Lib.hid hW1
  have HWs := Lib.hid hWs
  have HR := Lib.hid hR
  have hm1 : (((qOne (t, false)).1 : Int) == 1) = false := by simp; omega
  have hm2 : (((qOne (t, false)).1 : Int) == 2) = false := by simp; omega
  generalize (qOne (t, false)).1 = m at *
  clear hm
  go_enter Try.func19, Try.ntmps19
  go_wp2_with (fail)
  rw [← HW1.out, ← HWs.out, ← HR.out]
  clear hW1 hWs hR
  refine c48.mono ?_
  rintro e w2 ⟨rfl, hq2⟩
  have HQ2 := Lib.hid (hQ0.out.step hq2)
  clear hq2 c48 hQ0
  have HE := Lib.hid (HQ2.out.ends HR.out hWZ.out)
  obtain ⟨-, ⟨rp, rc, q0⟩, q1, -⟩ := HE.out
  obtain ⟨⟨b0, b1, b2, b3⟩, bf⟩ := HQ2.out.box
  have bf0 := bf 0
  have bf1 := bf 1
  have bf2 := bf 2
  have bf3 := bf 3
  obtain ⟨x0, x1, x2, x3⟩ := four_of HE.out.1
  have xf0 := four_fr HE.out.1 0
  have xf1 := four_fr HE.out.1 1
  have xf2 := four_fr HE.out.1 2
  have xf3 := four_fr HE.out.1 3
  clear bf
  have hRf := Lib.hid HQ2.out.1.1.blk
  obtain ⟨v9, k9, -⟩ := HQ2.out.1.1
  have rf1 := four_fr k9 1
  have hok := Lib.hid (okQ_bad HN.out rfl)
  have hne1 : ¬ R = w.heap.size := by have := HR.out; omega
  have hne2 : ¬ w.heap.size = R := by have := HR.out; omega
  clear k9 HN
  go_wp2
  have HS := HQ2.out.spoil.ends HR.out hWZ.out
  have g := gr_four (w2.setCell ⟨R, 1, none⟩ (.bool true)) w.heap.size (.bool false) (.slice none 0 0) (.slice none 0 0) (.slice none 0 0)
  refine bodyPost_ret (results_c26t Try.results19 _ _ w.heap.size _ _ _ _ 26 rfl (blk_four HS.1 _ _ _ _)) rfl ?_
  exact QPost.no hok.out (bel_put HS.2.2.2 g (Nat.le_refl _))
set_option maxHeartbeats 16000000 in
set_option maxRecDepth 100000 in
theorem qparse_leaf (w : World) (p : Option Addr) (cap : Nat) (t : List UInt8) (h : Bs w (.slice p t.length cap) t) (hl : t.length ≤ 448) (hm : (qOne (t, false)).1 = 1) :
    Calls Try.prog 19 #[.slice p t.length cap] w fun e w' => QPost w t e w' := by
  have hlz : ¬ (448 : Int) < (t.length : Int) := by omega
  obtain ⟨W1, hW1⟩ : ∃ W, W = (w.alloc (Obj.cells #[.bool false, .slice none 0 0, .slice none 0 0, .slice none 0 0] 26)).alloc (Obj.cells #[.slice p t.length cap, .bool false] 69) := ⟨_, rfl⟩
  have hWs : W1.heap.size = w.heap.size + 1 + 1 := by rw [hW1]; simp
  obtain ⟨R, hR⟩ : ∃ R, R = w.heap.size + 1 := ⟨_, rfl⟩
  have hWZ : Hid (W1.heap[w.heap.size]? = some (Obj.cells #[.bool false, .slice none 0 0, .slice none 0 0, .slice none 0 0] 26)) := by
    show _ = _
    rw [hW1]
    exact blk_on (bel1 _ _) (World.alloc_heap_new w _)
  have hWR : W1.heap[R]? = some (Obj.cells #[.slice p t.length cap, .bool false] 69) := by
    rw [hW1, hR]
    have := World.alloc_heap_new (w.alloc (Obj.cells #[.bool false, .slice none 0 0, .slice none 0 0, .slice none 0 0] 26)) (Obj.cells #[.slice p t.length cap, .bool false] 69)
    rwa [World.size_alloc] at this
  have hWB : Below w.heap.size w W1 := by rw [hW1]; exact bel_then (bel1 _ _) (bel1 _ _)
  have hQ0 : Hid (Qn w W1 (W1.alloc (Obj.cells #[.bool false, .slice none 0 0, .slice none 0 0, .slice none 0 0] 26)) R (t, false) (.slice none 0 0) (.slice none 0 0) (.slice none 0 0) nd0) :=
    ⟨⟨⟨_, blk_on (bel1 _ _) hWR, h, bel_then hWB (bel1 _ _), by omega⟩, gr_bel (bel1 _ _) _⟩, World.alloc_heap_new W1 _, cso_nil _ _, kso_nil _ _, iso_nil _ _, by omega⟩
  have c48 := one48 w _ R (t, false) hQ0.out.1.1 hl
  have hl1 : (qOne (t, false)).2.1.length ≤ 448 := Nat.le_trans qOne_len hl
  have HN := Lib.hid (qNode_leaf hm)
  generalize hs1 : (qOne (t, false)).2 = s1 at *
  clear hs1 hWR hWB h
  have HW1 := Lib.hid hW1
  have HWs := Lib.hid hWs
  have HR := Lib.hid hR
  have e1 : (((1 : Nat)) : Int) = 1 := rfl
  rw [hm, e1] at c48
  clear e1 hm
  have c49 : ∀ (u : World) (hd : Qd w u R s1), Calls Try.prog 49 #[.pointer (some ⟨R, 0, none⟩), .int .i64 448] u fun e w' => e = .returned (.int .i64 ((qNum 448 s1).1 : Nat)) ∧ Qq w R (qNum 448 s1).2 u w' := fun u hd => num49 w u R s1 448 (by decide) hd
  have hl2 := qNum_len (m := 448) (s := s1)
  have hn2 := qNum_le 448 s1
  unfold qLeaf at HN
  generalize (qNum 448 s1).1 = m at *
  generalize (qNum 448 s1).2 = s2 at *
  obtain ⟨Res, hRes⟩ : ∃ R, rMany qCell m s2 = R := ⟨_, rfl⟩
  rw [hRes] at HN
  have HRes := Lib.hid hRes
  clear hRes
  have c50 := readCell50
  obtain ⟨i0, hi, hz0, hz1, hz2⟩ := info_parts infoE44
  go_enter Try.func19, Try.ntmps19
  go_wp2_with (fail)
  rw [← HW1.out, ← HWs.out, ← HR.out]
  clear hW1 hWs hR
  refine c48.mono ?_
  rintro e w2 ⟨rfl, hq2⟩
  have HQ2 := Lib.hid (hQ0.out.step hq2)
  clear hq2 c48 hQ0
  have HE := Lib.hid (HQ2.out.ends HR.out hWZ.out)
  obtain ⟨-, ⟨rp, rc, q0⟩, q1, -⟩ := HE.out
  obtain ⟨⟨b0, b1, b2, b3⟩, bf⟩ := HQ2.out.box
  have bf0 := bf 0
  have bf1 := bf 1
  have bf2 := bf 2
  have bf3 := bf 3
  obtain ⟨x0, x1, x2, x3⟩ := four_of HE.out.1
  have xf0 := four_fr HE.out.1 0
  have xf1 := four_fr HE.out.1 1
  have xf2 := four_fr HE.out.1 2
  have xf3 := four_fr HE.out.1 3
  clear bf
  go_wp2_with (go_at_call 49; refine (c49 _ (HQ2.out.lead true).1.1).mono ?_; rintro e w3 ⟨rfl, hq3⟩)
  have HQ3 := Lib.hid ((HQ2.out.lead true).step hq3)
  clear hq3 c49 HE q0 q1 b0 b1 b2 b3 bf0 bf1 bf2 bf3 x0 x1 x2 x3 xf0 xf1 xf2 xf3 HQ2
  go_loopg [6] m (fun g s6 wr => ∃ (s' : RS) (L : List C) (vc : Value), s6 = .int .i64 g ∧ L.length + g = m ∧ s'.1.length ≤ 448 ∧ Hid (Qn w W1 wr R s' vc (.slice none 0 0) (.slice none 0 0) ⟨true, L, [], []⟩) ∧ Hid ((L ++ (rMany qCell g s').1, (rMany qCell g s').2) = Res))
  case atStart => exact ⟨s2, [], _, rfl, by simp, by omega, HQ3.out, by show _ = _; rw [HRes.out]; rfl⟩
  case round =>
    clear HQ3 HRes
    obtain ⟨s', L, vc, rfl, hLg, hs9, hP, hRr⟩ := hrel
    obtain ⟨vs, ho, he⟩ := hP.out.2.2.1
    obtain ⟨vp, vcap, rfl, -⟩ := own_hdr ho
    have HLk : (⟨true, L, [], []⟩ : Nd).keys.length ≤ 1152921504606846976 := by simp
    have HLi : (⟨true, L, [], []⟩ : Nd).kids.length ≤ 1152921504606846976 := by simp
    have HE := Lib.hid (hP.out.ends HR.out hWZ.out)
    obtain ⟨-, ⟨rp, rc, q0⟩, q1, -⟩ := HE.out
    obtain ⟨⟨b0, b1, b2, b3⟩, bf⟩ := hP.out.box
    have bf0 := bf 0
    have bf1 := bf 1
    have bf2 := bf 2
    have bf3 := bf 3
    obtain ⟨x0, x1, x2, x3⟩ := four_of HE.out.1
    have xf0 := four_fr HE.out.1 0
    have xf1 := four_fr HE.out.1 1
    have xf2 := four_fr HE.out.1 2
    have xf3 := four_fr HE.out.1 3
    clear bf
    simp only [] at b0 b1
    cases gk with
    | zero =>
      have HNe : Hid (qNode (t, false) = ((⟨true, L, [], []⟩ : Nd), s')) := by
        show _ = _
        have := hRr.out
        simp only [rMany, List.append_nil] at this
        rw [HN.out, ← this]
      clear hRr HN ho he
      cases hf : s'.2 with
      | true =>
        have hok := Lib.hid (okQ_bad HNe.out hf)
        rw [hf] at q1
        clear HNe hf
        go_wp2
        have g := gr_four wr w.heap.size (.bool false) (.slice none 0 0) (.slice none 0 0) (.slice none 0 0)
        refine bodyPost_ret (results_c26t Try.results19 _ _ w.heap.size _ _ _ _ 26 rfl (blk_four HE.out.1 _ _ _ _)) rfl ?_
        exact QPost.no hok.out (bel_put HE.out.2.2.2 g (Nat.le_refl _))
      | false =>
        rw [hf] at q1
        generalize hT : s'.1.length = T at *
        by_cases hT0 : T = 0
        · have hTz : ¬ (0 : Int) < (T : Int) := by omega
          have hok : Hid (okQ t = may (⟨true, L, [], []⟩ : Nd)) := okQ_may HNe.out hl hf (by rw [hT]; exact hT0)
          have c14 := check14 wr _ _ hP.out.nds.s HLk HLi
          have HNn : Hid ((qNode (t, false)).1 = (⟨true, L, [], []⟩ : Nd)) := by show _ = _; rw [HNe.out]
          clear hf hT hT0 HNe
          cases hmy : may (⟨true, L, [], []⟩ : Nd) with
          | true =>
            rw [hmy] at c14 hok
            have e4 : chkE true = 0 := rfl
            rw [e4] at c14
            clear hmy e4
            go_wp2_with (go_at_call 14; refine c14.mono ?_; rintro e w9 ⟨rfl, hb9⟩
                         have HB9 := Lib.hid hb9
                         have HE9 := Lib.hid (blk_on hb9 HE.out.1)
                         obtain ⟨x0, x1, x2, x3⟩ := four_of HE9.out
                         have xf0 := four_fr HE9.out 0
                         have xf1 := four_fr HE9.out 1
                         have xf2 := four_fr HE9.out 2
                         have xf3 := four_fr HE9.out 3
                         obtain ⟨b0, b1, b2, b3⟩ := four_of (blk_on hb9 hP.out.2.1)
                         clear hb9)
            have g := gr_four w9 w.heap.size (.bool (⟨true, L, [], []⟩ : Nd).leaf) (.slice vp L.length vcap) (.slice none 0 0) (.slice none 0 0)
            refine bodyPost_ret (results_c26t Try.results19 _ _ w.heap.size _ _ _ _ 26 rfl (blk_four HE9.out _ _ _ _)) rfl ?_
            exact QPost.yes hok.out HNn.out (((hP.out.nds.on HB9.out).gr g HE9.out (by decide) (by decide) (by decide) (by decide)).low (by have := HWs.out; omega)) (bel_put (bel_then HE.out.2.2.2 HB9.out) g (Nat.le_refl _))
          | false =>
            rw [hmy] at c14 hok
            have e4 : chkE false = 80 := rfl
            rw [e4] at c14
            clear hmy e4
            go_wp2_with (go_at_call 14; refine c14.mono ?_; rintro e w9 ⟨rfl, hb9⟩
                         have HB9 := Lib.hid hb9
                         have HE9 := Lib.hid (blk_on hb9 HE.out.1)
                         obtain ⟨x0, x1, x2, x3⟩ := four_of HE9.out
                         have xf0 := four_fr HE9.out 0
                         have xf1 := four_fr HE9.out 1
                         have xf2 := four_fr HE9.out 2
                         have xf3 := four_fr HE9.out 3
                         clear hb9)
            have g := gr_four w9 w.heap.size (.bool false) (.slice none 0 0) (.slice none 0 0) (.slice none 0 0)
            refine bodyPost_ret (results_c26t Try.results19 _ _ w.heap.size _ _ _ _ 26 rfl (blk_four HE9.out _ _ _ _)) rfl ?_
            exact QPost.no hok.out (bel_put (bel_then HE.out.2.2.2 HB9.out) g (Nat.le_refl _))
        · have hTz : (0 : Int) < (T : Int) := by omega
          have hok := Lib.hid (okQ_rest HNe.out (by rw [hT]; exact hT0))
          clear hf hT hT0 HNe
          go_wp2
          have g := gr_four wr w.heap.size (.bool false) (.slice none 0 0) (.slice none 0 0) (.slice none 0 0)
          refine bodyPost_ret (results_c26t Try.results19 _ _ w.heap.size _ _ _ _ 26 rfl (blk_four HE.out.1 _ _ _ _)) rfl ?_
          exact QPost.no hok.out (bel_put HE.out.2.2.2 g (Nat.le_refl _))
    | succ g =>
      have hgz : (0 : Int) < ((g + 1 : Nat) : Int) := by omega
      cases hf : s'.2 with
      | true =>
        have HNe : Hid (qNode (t, false) = ((⟨true, L, [], []⟩ : Nd), s')) := by
          show _ = _
          have := hRr.out
          unfold rMany at this
          rw [if_pos hf] at this
          simp only [List.append_nil] at this
          rw [HN.out, ← this]
        clear hRr HN ho he
        have hok := Lib.hid (okQ_bad HNe.out hf)
        rw [hf] at q1
        clear HNe
        go_wp2
        have g := gr_four wr w.heap.size (.bool false) (.slice none 0 0) (.slice none 0 0) (.slice none 0 0)
        refine bodyPost_ret (results_c26t Try.results19 _ _ w.heap.size _ _ _ _ 26 rfl (blk_four HE.out.1 _ _ _ _)) rfl ?_
        exact QPost.no hok.out (bel_put HE.out.2.2.2 g (Nat.le_refl _))
      | false =>
        rw [hf] at q1
        have hR' : Hid (((L ++ [(qCell s').1]) ++ (rMany qCell g (qCell s').2).1, (rMany qCell g (qCell s').2).2) = Res) := by
          have := hRr.out; unfold rMany at this; rw [if_neg (by rw [hf]; decide)] at this; show _ = _; simpa using this
        have hs' := qCell_len (s := s')
        have c1 := c50 w wr.drew R s' (hP.out.1.1.on (Below.refl _ wr).drew) hs9
        generalize (qCell s').1 = cc at *
        generalize (qCell s').2 = s3 at *
        have HPd := Lib.hid (hP.out.on (Below.refl _ wr).drew)
        have hzz := hP.out.size
        have b1d : wr.drew.cell? ⟨W1.heap.size, 1, none⟩ = some (.slice vp L.length vcap) := b1
        clear hRr hP ho he vs HE x0 x1 x2 x3 xf0 xf1 xf2 xf3 bf0 bf2 bf3 b0 b2 b3
        go_wp2
        go_region_with (go_at_call 50; refine c1.mono ?_
                        rintro e w4 ⟨v4, rfl, ⟨k, x, rfl, hbk, hbx, hio, hil⟩, hq4⟩
                        have hP4 := HPd.out.step hq4
                        have hzw := hP4.size
                        have hbk2 := hbk
                        have hbx2 := hbx
                        obtain ⟨kp, kc, rfl, -⟩ := hbk2.bs
                        obtain ⟨xp, xc, rfl, -⟩ := hbx2.bs
                        have hP5 := hP4.on (bel1 w4 (.cells #[.slice kp cc.key.length kc, .slice xp cc.val.length xc, .int .i64 cc.over, .int .i64 cc.len] 44))
                        obtain ⟨vs, ho, he⟩ := hP5.2.2.1
                        have hcO : cellO W1.heap.size (w4.alloc (.cells #[.slice kp cc.key.length kc, .slice xp cc.val.length xc, .int .i64 cc.over, .int .i64 cc.len] 44)) cc [.slice kp cc.key.length kc, .slice xp cc.val.length xc, .int .i64 cc.over, .int .i64 cc.len] := ⟨_, _, rfl, (hbk.on (bel1 _ _)).mono (by simp; omega), (hbx.on (bel1 _ _)).mono (by simp; omega), hio, hil⟩
                        obtain ⟨g5, cap5, w5, hap, ho5, hg5⟩ := app_one 22 44 4 64 i0 _ Try.underlying22 hi hz0 hz1 hz2 rfl (by decide) (by decide) (by decide) _ W1.heap.size w4.heap.size _ _ vs _ 22 ho (range_lit w4 _ 44 (0, 0)) rfl (hcO.v.ones) (by simp; omega) (by simp only []; omega)
                        have hP6 := Lib.hid (hP5.cell ho he hcO ho5 hg5)
                        have hb5 := blk_keep ho hg5 hP5.2.1 (by decide)
                        obtain ⟨-, y1, -, -⟩ := four_of hb5
                        have yf1 := four_fr hb5 1
                        obtain ⟨⟨-, t1, -, -⟩, -⟩ := hP4.box
                        obtain ⟨⟨-, t2, -, -⟩, -⟩ := hP5.box
                        clear hbk hbx hq4 hbk2 hbx2 hcO ho5 hg5 ho he hb5 hP5 hP4
                        simp [go_sem] at hap)
        all_goals
          clear hap
          go_wp2
          go_roundg g
          case measure => omega
          case rel => exact ⟨s3, L ++ [cc], _, by first | rfl | go_num, by simp; omega, by omega, hP6, hR'⟩
set_option maxHeartbeats 16000000 in
set_option maxRecDepth 100000 in
theorem qparse_inner (w : World) (p : Option Addr) (cap : Nat) (t : List UInt8) (h : Bs w (.slice p t.length cap) t) (hl : t.length ≤ 448) (hm : (qOne (t, false)).1 = 2) :
    Calls Try.prog 19 #[.slice p t.length cap] w fun e w' => QPost w t e w' := by
  have hlz : ¬ (448 : Int) < (t.length : Int) := by omega
  obtain ⟨W1, hW1⟩ : ∃ W, W = (w.alloc (Obj.cells #[.bool false, .slice none 0 0, .slice none 0 0, .slice none 0 0] 26)).alloc (Obj.cells #[.slice p t.length cap, .bool false] 69) := ⟨_, rfl⟩
  have hWs : W1.heap.size = w.heap.size + 1 + 1 := by rw [hW1]; simp
  obtain ⟨R, hR⟩ : ∃ R, R = w.heap.size + 1 := ⟨_, rfl⟩
  have hWZ : Hid (W1.heap[w.heap.size]? = some (Obj.cells #[.bool false, .slice none 0 0, .slice none 0 0, .slice none 0 0] 26)) := by
    show _ = _
    rw [hW1]
    exact blk_on (bel1 _ _) (World.alloc_heap_new w _)
  have hWR : W1.heap[R]? = some (Obj.cells #[.slice p t.length cap, .bool false] 69) := by
    rw [hW1, hR]
    have := World.alloc_heap_new (w.alloc (Obj.cells #[.bool false, .slice none 0 0, .slice none 0 0, .slice none 0 0] 26)) (Obj.cells #[.slice p t.length cap, .bool false] 69)
    rwa [World.size_alloc] at this
  have hWB : Below w.heap.size w W1 := by rw [hW1]; exact bel_then (bel1 _ _) (bel1 _ _)
  have hQ0 : Hid (Qn w W1 (W1.alloc (Obj.cells #[.bool false, .slice none 0 0, .slice none 0 0, .slice none 0 0] 26)) R (t, false) (.slice none 0 0) (.slice none 0 0) (.slice none 0 0) nd0) :=
    ⟨⟨⟨_, blk_on (bel1 _ _) hWR, h, bel_then hWB (bel1 _ _), by omega⟩, gr_bel (bel1 _ _) _⟩, World.alloc_heap_new W1 _, cso_nil _ _, kso_nil _ _, iso_nil _ _, by omega⟩
  have c48 := one48 w _ R (t, false) hQ0.out.1.1 hl
  have hl1 : (qOne (t, false)).2.1.length ≤ 448 := Nat.le_trans qOne_len hl
  have HN := Lib.hid (qNode_inner hm)
  generalize hs1 : (qOne (t, false)).2 = s1 at *
  clear hs1 hWR hWB h
  have HW1 := Lib.hid hW1
  have HWs := Lib.hid hWs
  have HR := Lib.hid hR
  have e1 : (((2 : Nat)) : Int) = 2 := rfl
  rw [hm, e1] at c48
  clear e1 hm
  have c49 : ∀ (u : World) (hd : Qd w u R s1), Calls Try.prog 49 #[.pointer (some ⟨R, 0, none⟩), .int .i64 448] u fun e w' => e = .returned (.int .i64 ((qNum 448 s1).1 : Nat)) ∧ Qq w R (qNum 448 s1).2 u w' := fun u hd => num49 w u R s1 448 (by decide) hd
  have hl2 := qNum_len (m := 448) (s := s1)
  have hn2 := qNum_le 448 s1
  unfold qInner qKeys at HN
  generalize (qNum 448 s1).1 = m at *
  generalize (qNum 448 s1).2 = s2 at *
  obtain ⟨Res, hRes⟩ : ∃ R, rMany qBytes m s2 = R := ⟨_, rfl⟩
  rw [hRes] at HN
  have HRes := Lib.hid hRes
  clear hRes
  have c51 := bytes51
  obtain ⟨i0, hi, hz0, hz1, hz2⟩ := info_parts infoE27
  obtain ⟨j0, ji, jz0, jz1, jz2⟩ := info_parts infoE3
  have HI := Lib.hid (And.intro ji (And.intro jz0 (And.intro jz1 jz2)))
  clear ji jz0 jz1 jz2
  go_enter Try.func19, Try.ntmps19
  go_wp2_with (fail)
  rw [← HW1.out, ← HWs.out, ← HR.out]
  clear hW1 hWs hR
  refine c48.mono ?_
  rintro e w2 ⟨rfl, hq2⟩
  have HQ2 := Lib.hid (hQ0.out.step hq2)
  clear hq2 c48 hQ0
  have HE := Lib.hid (HQ2.out.ends HR.out hWZ.out)
  obtain ⟨-, ⟨rp, rc, q0⟩, q1, -⟩ := HE.out
  obtain ⟨⟨b0, b1, b2, b3⟩, bf⟩ := HQ2.out.box
  have bf0 := bf 0
  have bf1 := bf 1
  have bf2 := bf 2
  have bf3 := bf 3
  obtain ⟨x0, x1, x2, x3⟩ := four_of HE.out.1
  have xf0 := four_fr HE.out.1 0
  have xf1 := four_fr HE.out.1 1
  have xf2 := four_fr HE.out.1 2
  have xf3 := four_fr HE.out.1 3
  clear bf
  go_wp2_with (go_at_call 49; refine (c49 _ HQ2.out.1.1).mono ?_; rintro e w3 ⟨rfl, hq3⟩)
  have HQ3 := Lib.hid (HQ2.out.step hq3)
  clear hq3 c49 HE q0 q1 b0 b1 b2 b3 bf0 bf1 bf2 bf3 x0 x1 x2 x3 xf0 xf1 xf2 xf3 HQ2
  go_loopg [8] m (fun g s8 wr => ∃ (i : Nat) (s' : RS) (L : List (List UInt8)) (vk : Value), i + g = m ∧ s8 = .int .i64 i ∧ Hid (L.length = i) ∧ s'.1.length ≤ 448 ∧ Hid (Qn w W1 wr R s' (.slice none 0 0) vk (.slice none 0 0) ⟨false, [], L, []⟩) ∧ Hid ((L ++ (rMany qBytes g s').1, (rMany qBytes g s').2) = Res))
  case atStart => exact ⟨0, s2, [], _, by omega, rfl, (rfl : _ = _), by omega, HQ3.out, by show _ = _; rw [HRes.out]; rfl⟩
  case round =>
    clear HQ3 HRes
    obtain ⟨i, s', L, vk, hig, rfl, hLl, hs9, hP, hRr⟩ := hrel
    obtain ⟨vs, ho, he⟩ := hP.out.2.2.2.1
    obtain ⟨vp, vcap, rfl, -⟩ := own_hdr ho
    have HE := Lib.hid (hP.out.ends HR.out hWZ.out)
    obtain ⟨-, ⟨rp, rc, q0⟩, q1, -⟩ := HE.out
    obtain ⟨⟨b0, b1, b2, b3⟩, bf⟩ := hP.out.box
    have bf0 := bf 0
    have bf1 := bf 1
    have bf2 := bf 2
    have bf3 := bf 3
    obtain ⟨x0, x1, x2, x3⟩ := four_of HE.out.1
    have xf0 := four_fr HE.out.1 0
    have xf1 := four_fr HE.out.1 1
    have xf2 := four_fr HE.out.1 2
    have xf3 := four_fr HE.out.1 3
    clear bf
    simp only [] at b0 b1 b2 b3
    have ex : (gk = 0 ∨ s'.2 = true) ∨ (∃ g, gk = g + 1 ∧ s'.2 = false) := by
      cases gk with
      | zero => exact .inl (.inl rfl)
      | succ g => cases hf : s'.2 with
        | true => exact .inl (.inr rfl)
        | false => exact .inr ⟨g, rfl, rfl⟩
    rcases ex with ex | ⟨g, rfl, hf⟩
    · have hRL : Hid ((L, s') = Res) := by
        have := hRr.out
        show _ = _
        rcases ex with rfl | hf
        · simpa [rMany] using this
        · cases gk with
          | zero => simpa [rMany] using this
          | succ g => unfold rMany at this; rw [if_pos hf] at this; simpa using this
      obtain ⟨Res2, hRes2⟩ : ∃ R, rMany qKid (m + 1) s' = R := ⟨_, rfl⟩
      have HR2 := Lib.hid hRes2
      have HNb : Hid (qNode (t, false) = (⟨false, [], L, Res2.1⟩, Res2.2)) := by show _ = _; rw [HN.out, ← hRL.out, ← hRes2]
      have hLm : Hid (L.length ≤ m) := by show _ ≤ _; rw [hLl.out]; omega
      have HPo := Lib.hid hP.out
      clear hRes2 hRL HN hRr hP ho he
      have ex2 : ((i : Int) < (m : Int) ∧ s'.2 = true) ∨ ¬ (i : Int) < (m : Int) := by
        rcases ex with rfl | hf
        · exact .inr (by omega)
        · by_cases h : (i : Int) < (m : Int)
          · exact .inl ⟨h, hf⟩
          · exact .inr h
      clear ex
      obtain ⟨wo, rfl⟩ : ∃ v, v = wr := ⟨_, rfl⟩
      rcases ex2 with ⟨ex1, ex2⟩ | ex1
      · rw [ex2] at q1
        clear ex2
        go_wp2
        go_loopg [9] (m + 1) (fun g s9 wr => ∃ (j : Nat) (s' : RS) (K : List Int) (vi : Value), j + g = m + 1 ∧ s9 = .int .i64 j ∧ Hid (K.length = j) ∧ Hid (Qn w W1 wr R s' (.slice none 0 0) (.slice vp L.length vcap) vi ⟨false, [], L, K⟩) ∧ Hid ((K ++ (rMany qKid g s').1, (rMany qKid g s').2) = Res2))
        case atStart => exact ⟨0, s', [], _, by omega, rfl, (rfl : _ = _), HPo.out, by show _ = _; rw [HR2.out]; rfl⟩
        case round =>
          obtain ⟨so, hso⟩ : ∃ v, v = s' := ⟨_, rfl⟩
          clear HPo HR2 b0 b1 b2 b3 bf0 bf1 bf2 bf3 x0 x1 x2 x3 xf0 xf1 xf2 xf3 q0 q1 HE
          obtain ⟨j, s', K, vi, hjg, rfl, hKl, hP, hRr⟩ := hrel
          obtain ⟨vs, ho, he⟩ := hP.out.2.2.2.2.1
          obtain ⟨up, ucap, rfl, -⟩ := own_hdr ho
          have HLk : (⟨false, [], L, K⟩ : Nd).keys.length ≤ 1152921504606846976 := by have := hLm.out; simp only; omega
          have HLi : (⟨false, [], L, K⟩ : Nd).kids.length ≤ 1152921504606846976 := by have := hKl.out; simp only; omega
          have HE := Lib.hid (hP.out.ends HR.out hWZ.out)
          obtain ⟨-, ⟨rp, rc, q0⟩, q1, -⟩ := HE.out
          obtain ⟨⟨b0, b1, b2, b3⟩, bf⟩ := hP.out.box
          have bf0 := bf 0
          have bf1 := bf 1
          have bf2 := bf 2
          have bf3 := bf 3
          obtain ⟨x0, x1, x2, x3⟩ := four_of HE.out.1
          have xf0 := four_fr HE.out.1 0
          have xf1 := four_fr HE.out.1 1
          have xf2 := four_fr HE.out.1 2
          have xf3 := four_fr HE.out.1 3
          clear bf
          simp only [] at b0 b1 b2 b3
          cases gk with
          | zero =>
            have HNe : Hid (qNode (t, false) = ((⟨false, [], L, K⟩ : Nd), s')) := by
              show _ = _
              have := hRr.out
              simp only [rMany, List.append_nil] at this
              rw [HNb.out, ← this]
            have hjz : ¬ (j : Int) ≤ (m : Int) := by omega
            clear hRr HNb ho he
            cases hf : s'.2 with
            | true =>
              have hok := Lib.hid (okQ_bad HNe.out hf)
              rw [hf] at q1
              clear HNe hf
              go_wp2
              have g := gr_four wr w.heap.size (.bool false) (.slice none 0 0) (.slice none 0 0) (.slice none 0 0)
              refine bodyPost_ret (results_c26t Try.results19 _ _ w.heap.size _ _ _ _ 26 rfl (blk_four HE.out.1 _ _ _ _)) rfl ?_
              exact QPost.no hok.out (bel_put HE.out.2.2.2 g (Nat.le_refl _))
            | false =>
              rw [hf] at q1
              generalize hT : s'.1.length = T at *
              by_cases hT0 : T = 0
              · have hTz : ¬ (0 : Int) < (T : Int) := by omega
                have hok : Hid (okQ t = may (⟨false, [], L, K⟩ : Nd)) := okQ_may HNe.out hl hf (by rw [hT]; exact hT0)
                have c14 := check14 wr _ _ hP.out.nds.s HLk HLi
                have HNn : Hid ((qNode (t, false)).1 = (⟨false, [], L, K⟩ : Nd)) := by show _ = _; rw [HNe.out]
                clear hf hT hT0 HNe
                cases hmy : may (⟨false, [], L, K⟩ : Nd) with
                | true =>
                  rw [hmy] at c14 hok
                  have e4 : chkE true = 0 := rfl
                  rw [e4] at c14
                  clear hmy e4
                  go_wp2_with (go_at_call 14; refine c14.mono ?_; rintro e w9 ⟨rfl, hb9⟩
                               have HB9 := Lib.hid hb9
                               have HE9 := Lib.hid (blk_on hb9 HE.out.1)
                               obtain ⟨x0, x1, x2, x3⟩ := four_of HE9.out
                               have xf0 := four_fr HE9.out 0
                               have xf1 := four_fr HE9.out 1
                               have xf2 := four_fr HE9.out 2
                               have xf3 := four_fr HE9.out 3
                               obtain ⟨b0, b1, b2, b3⟩ := four_of (blk_on hb9 hP.out.2.1)
                               clear hb9)
                  have g := gr_four w9 w.heap.size (.bool (⟨false, [], L, K⟩ : Nd).leaf) (.slice none 0 0) (.slice vp L.length vcap) (.slice up K.length ucap)
                  refine bodyPost_ret (results_c26t Try.results19 _ _ w.heap.size _ _ _ _ 26 rfl (blk_four HE9.out _ _ _ _)) rfl ?_
                  exact QPost.yes hok.out HNn.out (((hP.out.nds.on HB9.out).gr g HE9.out (by decide) (by decide) (by decide) (by decide)).low (by have := HWs.out; omega)) (bel_put (bel_then HE.out.2.2.2 HB9.out) g (Nat.le_refl _))
                | false =>
                  rw [hmy] at c14 hok
                  have e4 : chkE false = 80 := rfl
                  rw [e4] at c14
                  clear hmy e4
                  go_wp2_with (go_at_call 14; refine c14.mono ?_; rintro e w9 ⟨rfl, hb9⟩
                               have HB9 := Lib.hid hb9
                               have HE9 := Lib.hid (blk_on hb9 HE.out.1)
                               obtain ⟨x0, x1, x2, x3⟩ := four_of HE9.out
                               have xf0 := four_fr HE9.out 0
                               have xf1 := four_fr HE9.out 1
                               have xf2 := four_fr HE9.out 2
                               have xf3 := four_fr HE9.out 3
                               clear hb9)
                  have g := gr_four w9 w.heap.size (.bool false) (.slice none 0 0) (.slice none 0 0) (.slice none 0 0)
                  refine bodyPost_ret (results_c26t Try.results19 _ _ w.heap.size _ _ _ _ 26 rfl (blk_four HE9.out _ _ _ _)) rfl ?_
                  exact QPost.no hok.out (bel_put (bel_then HE.out.2.2.2 HB9.out) g (Nat.le_refl _))
              · have hTz : (0 : Int) < (T : Int) := by omega
                have hok := Lib.hid (okQ_rest HNe.out (by rw [hT]; exact hT0))
                clear hf hT hT0 HNe
                go_wp2
                have g := gr_four wr w.heap.size (.bool false) (.slice none 0 0) (.slice none 0 0) (.slice none 0 0)
                refine bodyPost_ret (results_c26t Try.results19 _ _ w.heap.size _ _ _ _ 26 rfl (blk_four HE.out.1 _ _ _ _)) rfl ?_
                exact QPost.no hok.out (bel_put HE.out.2.2.2 g (Nat.le_refl _))
          | succ g =>
            have hjz : (j : Int) ≤ (m : Int) := by omega
            cases hf : s'.2 with
            | true =>
              have HNe : Hid (qNode (t, false) = ((⟨false, [], L, K⟩ : Nd), s')) := by
                show _ = _
                have := hRr.out
                unfold rMany at this
                rw [if_pos hf] at this
                simp only [List.append_nil] at this
                rw [HNb.out, ← this]
              clear hRr HNb ho he
              have hok := Lib.hid (okQ_bad HNe.out hf)
              rw [hf] at q1
              clear HNe
              go_wp2
              have g := gr_four wr w.heap.size (.bool false) (.slice none 0 0) (.slice none 0 0) (.slice none 0 0)
              refine bodyPost_ret (results_c26t Try.results19 _ _ w.heap.size _ _ _ _ 26 rfl (blk_four HE.out.1 _ _ _ _)) rfl ?_
              exact QPost.no hok.out (bel_put HE.out.2.2.2 g (Nat.le_refl _))
            | false =>
              rw [hf] at q1
              have hR' : Hid (((K ++ [(qKid s').1]) ++ (rMany qKid g (qKid s').2).1, (rMany qKid g (qKid s').2).2) = Res2) := by
                have := hRr.out; unfold rMany at this; rw [if_neg (by rw [hf]; decide)] at this; show _ = _; simpa using this
              have c1 : Calls Try.prog 49 #[.pointer (some ⟨R, 0, none⟩), .int .i64 2048] wr.drew fun e w' => e = .returned (.int .i64 ((qNum 2048 s').1 : Nat)) ∧ Qq w R (qNum 2048 s').2 wr.drew w' := num49 w wr.drew R s' 2048 (by decide) (hP.out.1.1.on (Below.refl _ wr).drew)
              have hn3 := qNum_le 2048 s'
              unfold qKid at hR'
              generalize (qNum 2048 s').1 = kd at *
              generalize (qNum 2048 s').2 = s3 at *
              have HPd := Lib.hid (hP.out.on (Below.refl _ wr).drew)
              have hzz := hP.out.size
              have b3d : wr.drew.cell? ⟨W1.heap.size, 3, none⟩ = some (.slice up K.length ucap) := b3
              clear hRr hP ho he vs HE x0 x1 x2 x3 xf0 xf1 xf2 xf3 bf0 bf1 bf2 b0 b1 b2
              go_wp2
              go_region_with (go_at_call 49; refine c1.mono ?_
                              rintro e w4 ⟨rfl, hq4⟩
                              have hP4 := HPd.out.step hq4
                              have hzw := hP4.size
                              have hP5 := hP4.on (bel1 w4 (.cells #[.int .i64 (kd : Int)] 3))
                              obtain ⟨vs, ho, he⟩ := hP5.2.2.2.2.1
                              obtain ⟨g5, cap5, w5, hap, ho5, hg5⟩ := app_one 24 3 1 8 j0 _ Try.underlying24 HI.out.1 HI.out.2.1 HI.out.2.2.1 HI.out.2.2.2 rfl (by decide) (by decide) (by decide) _ W1.heap.size w4.heap.size _ _ vs _ 24 ho (range_lit w4 [.int .i64 (kd : Int)] 3 (0, 0)) rfl (by simp [Value.oneCell']) (by simp; omega) (by have := hKl.out; simp only []; omega)
                              have hP6 := Lib.hid (hP5.kid ho he (c := (kd : Int)) (by unfold I64; omega) ho5 hg5)
                              have hb5 := blk_keep ho hg5 hP5.2.1 (by decide)
                              obtain ⟨-, -, -, y3⟩ := four_of hb5
                              have yf3 := four_fr hb5 3
                              obtain ⟨⟨-, -, -, t1⟩, -⟩ := hP4.box
                              obtain ⟨⟨-, -, -, t2⟩, -⟩ := hP5.box
                              clear hq4 ho5 hg5 ho he hb5 hP5 hP4
                              simp [go_sem] at hap)
              all_goals
                clear hap
                go_wp2
                go_roundg g
                case measure => omega
                case rel => exact ⟨j + 1, s3, K ++ [(kd : Int)], _, by omega, by first | rfl | go_num, (by show _ = _; rw [List.length_append, hKl.out]; rfl), hP6, hR'⟩
      · skip
        go_wp2
        go_loopg [9] (m + 1) (fun g s9 wr => ∃ (j : Nat) (s' : RS) (K : List Int) (vi : Value), j + g = m + 1 ∧ s9 = .int .i64 j ∧ Hid (K.length = j) ∧ Hid (Qn w W1 wr R s' (.slice none 0 0) (.slice vp L.length vcap) vi ⟨false, [], L, K⟩) ∧ Hid ((K ++ (rMany qKid g s').1, (rMany qKid g s').2) = Res2))
        case atStart => exact ⟨0, s', [], _, by omega, rfl, (rfl : _ = _), HPo.out, by show _ = _; rw [HR2.out]; rfl⟩
        case round =>
          obtain ⟨so, hso⟩ : ∃ v, v = s' := ⟨_, rfl⟩
          clear HPo HR2 b0 b1 b2 b3 bf0 bf1 bf2 bf3 x0 x1 x2 x3 xf0 xf1 xf2 xf3 q0 q1 HE
          obtain ⟨j, s', K, vi, hjg, rfl, hKl, hP, hRr⟩ := hrel
          obtain ⟨vs, ho, he⟩ := hP.out.2.2.2.2.1
          obtain ⟨up, ucap, rfl, -⟩ := own_hdr ho
          have HLk : (⟨false, [], L, K⟩ : Nd).keys.length ≤ 1152921504606846976 := by have := hLm.out; simp only; omega
          have HLi : (⟨false, [], L, K⟩ : Nd).kids.length ≤ 1152921504606846976 := by have := hKl.out; simp only; omega
          have HE := Lib.hid (hP.out.ends HR.out hWZ.out)
          obtain ⟨-, ⟨rp, rc, q0⟩, q1, -⟩ := HE.out
          obtain ⟨⟨b0, b1, b2, b3⟩, bf⟩ := hP.out.box
          have bf0 := bf 0
          have bf1 := bf 1
          have bf2 := bf 2
          have bf3 := bf 3
          obtain ⟨x0, x1, x2, x3⟩ := four_of HE.out.1
          have xf0 := four_fr HE.out.1 0
          have xf1 := four_fr HE.out.1 1
          have xf2 := four_fr HE.out.1 2
          have xf3 := four_fr HE.out.1 3
          clear bf
          simp only [] at b0 b1 b2 b3
          cases gk with
          | zero =>
            have HNe : Hid (qNode (t, false) = ((⟨false, [], L, K⟩ : Nd), s')) := by
              show _ = _
              have := hRr.out
              simp only [rMany, List.append_nil] at this
              rw [HNb.out, ← this]
            have hjz : ¬ (j : Int) ≤ (m : Int) := by omega
            clear hRr HNb ho he
            cases hf : s'.2 with
            | true =>
              have hok := Lib.hid (okQ_bad HNe.out hf)
              rw [hf] at q1
              clear HNe hf
              go_wp2
              have g := gr_four wr w.heap.size (.bool false) (.slice none 0 0) (.slice none 0 0) (.slice none 0 0)
              refine bodyPost_ret (results_c26t Try.results19 _ _ w.heap.size _ _ _ _ 26 rfl (blk_four HE.out.1 _ _ _ _)) rfl ?_
              exact QPost.no hok.out (bel_put HE.out.2.2.2 g (Nat.le_refl _))
            | false =>
              rw [hf] at q1
              generalize hT : s'.1.length = T at *
              by_cases hT0 : T = 0
              · have hTz : ¬ (0 : Int) < (T : Int) := by omega
                have hok : Hid (okQ t = may (⟨false, [], L, K⟩ : Nd)) := okQ_may HNe.out hl hf (by rw [hT]; exact hT0)
                have c14 := check14 wr _ _ hP.out.nds.s HLk HLi
                have HNn : Hid ((qNode (t, false)).1 = (⟨false, [], L, K⟩ : Nd)) := by show _ = _; rw [HNe.out]
                clear hf hT hT0 HNe
                cases hmy : may (⟨false, [], L, K⟩ : Nd) with
                | true =>
                  rw [hmy] at c14 hok
                  have e4 : chkE true = 0 := rfl
                  rw [e4] at c14
                  clear hmy e4
                  go_wp2_with (go_at_call 14; refine c14.mono ?_; rintro e w9 ⟨rfl, hb9⟩
                               have HB9 := Lib.hid hb9
                               have HE9 := Lib.hid (blk_on hb9 HE.out.1)
                               obtain ⟨x0, x1, x2, x3⟩ := four_of HE9.out
                               have xf0 := four_fr HE9.out 0
                               have xf1 := four_fr HE9.out 1
                               have xf2 := four_fr HE9.out 2
                               have xf3 := four_fr HE9.out 3
                               obtain ⟨b0, b1, b2, b3⟩ := four_of (blk_on hb9 hP.out.2.1)
                               clear hb9)
                  have g := gr_four w9 w.heap.size (.bool (⟨false, [], L, K⟩ : Nd).leaf) (.slice none 0 0) (.slice vp L.length vcap) (.slice up K.length ucap)
                  refine bodyPost_ret (results_c26t Try.results19 _ _ w.heap.size _ _ _ _ 26 rfl (blk_four HE9.out _ _ _ _)) rfl ?_
                  exact QPost.yes hok.out HNn.out (((hP.out.nds.on HB9.out).gr g HE9.out (by decide) (by decide) (by decide) (by decide)).low (by have := HWs.out; omega)) (bel_put (bel_then HE.out.2.2.2 HB9.out) g (Nat.le_refl _))
                | false =>
                  rw [hmy] at c14 hok
                  have e4 : chkE false = 80 := rfl
                  rw [e4] at c14
                  clear hmy e4
                  go_wp2_with (go_at_call 14; refine c14.mono ?_; rintro e w9 ⟨rfl, hb9⟩
                               have HB9 := Lib.hid hb9
                               have HE9 := Lib.hid (blk_on hb9 HE.out.1)
                               obtain ⟨x0, x1, x2, x3⟩ := four_of HE9.out
                               have xf0 := four_fr HE9.out 0
                               have xf1 := four_fr HE9.out 1
                               have xf2 := four_fr HE9.out 2
                               have xf3 := four_fr HE9.out 3
                               clear hb9)
                  have g := gr_four w9 w.heap.size (.bool false) (.slice none 0 0) (.slice none 0 0) (.slice none 0 0)
                  refine bodyPost_ret (results_c26t Try.results19 _ _ w.heap.size _ _ _ _ 26 rfl (blk_four HE9.out _ _ _ _)) rfl ?_
                  exact QPost.no hok.out (bel_put (bel_then HE.out.2.2.2 HB9.out) g (Nat.le_refl _))
              · have hTz : (0 : Int) < (T : Int) := by omega
                have hok := Lib.hid (okQ_rest HNe.out (by rw [hT]; exact hT0))
                clear hf hT hT0 HNe
                go_wp2
                have g := gr_four wr w.heap.size (.bool false) (.slice none 0 0) (.slice none 0 0) (.slice none 0 0)
                refine bodyPost_ret (results_c26t Try.results19 _ _ w.heap.size _ _ _ _ 26 rfl (blk_four HE.out.1 _ _ _ _)) rfl ?_
                exact QPost.no hok.out (bel_put HE.out.2.2.2 g (Nat.le_refl _))
          | succ g =>
            have hjz : (j : Int) ≤ (m : Int) := by omega
            cases hf : s'.2 with
            | true =>
              have HNe : Hid (qNode (t, false) = ((⟨false, [], L, K⟩ : Nd), s')) := by
                show _ = _
                have := hRr.out
                unfold rMany at this
                rw [if_pos hf] at this
                simp only [List.append_nil] at this
                rw [HNb.out, ← this]
              clear hRr HNb ho he
              have hok := Lib.hid (okQ_bad HNe.out hf)
              rw [hf] at q1
              clear HNe
              go_wp2
              have g := gr_four wr w.heap.size (.bool false) (.slice none 0 0) (.slice none 0 0) (.slice none 0 0)
              refine bodyPost_ret (results_c26t Try.results19 _ _ w.heap.size _ _ _ _ 26 rfl (blk_four HE.out.1 _ _ _ _)) rfl ?_
              exact QPost.no hok.out (bel_put HE.out.2.2.2 g (Nat.le_refl _))
            | false =>
              rw [hf] at q1
              have hR' : Hid (((K ++ [(qKid s').1]) ++ (rMany qKid g (qKid s').2).1, (rMany qKid g (qKid s').2).2) = Res2) := by
                have := hRr.out; unfold rMany at this; rw [if_neg (by rw [hf]; decide)] at this; show _ = _; simpa using this
              have c1 : Calls Try.prog 49 #[.pointer (some ⟨R, 0, none⟩), .int .i64 2048] wr.drew fun e w' => e = .returned (.int .i64 ((qNum 2048 s').1 : Nat)) ∧ Qq w R (qNum 2048 s').2 wr.drew w' := num49 w wr.drew R s' 2048 (by decide) (hP.out.1.1.on (Below.refl _ wr).drew)
              have hn3 := qNum_le 2048 s'
              unfold qKid at hR'
              generalize (qNum 2048 s').1 = kd at *
              generalize (qNum 2048 s').2 = s3 at *
              have HPd := Lib.hid (hP.out.on (Below.refl _ wr).drew)
              have hzz := hP.out.size
              have b3d : wr.drew.cell? ⟨W1.heap.size, 3, none⟩ = some (.slice up K.length ucap) := b3
              clear hRr hP ho he vs HE x0 x1 x2 x3 xf0 xf1 xf2 xf3 bf0 bf1 bf2 b0 b1 b2
              go_wp2
              go_region_with (go_at_call 49; refine c1.mono ?_
                              rintro e w4 ⟨rfl, hq4⟩
                              have hP4 := HPd.out.step hq4
                              have hzw := hP4.size
                              have hP5 := hP4.on (bel1 w4 (.cells #[.int .i64 (kd : Int)] 3))
                              obtain ⟨vs, ho, he⟩ := hP5.2.2.2.2.1
                              obtain ⟨g5, cap5, w5, hap, ho5, hg5⟩ := app_one 24 3 1 8 j0 _ Try.underlying24 HI.out.1 HI.out.2.1 HI.out.2.2.1 HI.out.2.2.2 rfl (by decide) (by decide) (by decide) _ W1.heap.size w4.heap.size _ _ vs _ 24 ho (range_lit w4 [.int .i64 (kd : Int)] 3 (0, 0)) rfl (by simp [Value.oneCell']) (by simp; omega) (by have := hKl.out; simp only []; omega)
                              have hP6 := Lib.hid (hP5.kid ho he (c := (kd : Int)) (by unfold I64; omega) ho5 hg5)
                              have hb5 := blk_keep ho hg5 hP5.2.1 (by decide)
                              obtain ⟨-, -, -, y3⟩ := four_of hb5
                              have yf3 := four_fr hb5 3
                              obtain ⟨⟨-, -, -, t1⟩, -⟩ := hP4.box
                              obtain ⟨⟨-, -, -, t2⟩, -⟩ := hP5.box
                              clear hq4 ho5 hg5 ho he hb5 hP5 hP4
                              simp [go_sem] at hap)
              all_goals
                clear hap
                go_wp2
                go_roundg g
                case measure => omega
                case rel => exact ⟨j + 1, s3, K ++ [(kd : Int)], _, by omega, by first | rfl | go_num, (by show _ = _; rw [List.length_append, hKl.out]; rfl), hP6, hR'⟩
    · rw [hf] at q1
      have hiz : (i : Int) < (m : Int) := by omega
      have hR' : Hid (((L ++ [(qBytes s').1]) ++ (rMany qBytes g (qBytes s').2).1, (rMany qBytes g (qBytes s').2).2) = Res) := by
        have := hRr.out; unfold rMany at this; rw [if_neg (by rw [hf]; decide)] at this; show _ = _; simpa using this
      have hs' := qBytes_len (s := s')
      have c1 := c51 w wr.drew R s' (hP.out.1.1.on (Below.refl _ wr).drew) hs9
      generalize (qBytes s').1 = cc at *
      generalize (qBytes s').2 = s3 at *
      have HPd := Lib.hid (hP.out.on (Below.refl _ wr).drew)
      have hzz := hP.out.size
      have b2d : wr.drew.cell? ⟨W1.heap.size, 2, none⟩ = some (.slice vp L.length vcap) := b2
      clear hRr hP ho he vs HE x0 x1 x2 x3 xf0 xf1 xf2 xf3 bf0 bf1 bf3 b0 b1 b3
      go_wp2
      go_region_with (go_at_call 51; refine c1.mono ?_
                      rintro e w4 ⟨v4, rfl, hbk, hq4⟩
                      have hP4 := HPd.out.step hq4
                      have hzw := hP4.size
                      have hbk2 := hbk
                      obtain ⟨kp, kc, rfl, -⟩ := hbk2.bs
                      have hP5 := hP4.on (bel1 w4 (.cells #[.slice kp cc.length kc] 27))
                      obtain ⟨vs, ho, he⟩ := hP5.2.2.2.1
                      have hcO : keyO W1.heap.size (w4.alloc (.cells #[.slice kp cc.length kc] 27)) cc [.slice kp cc.length kc] := ⟨_, rfl, (hbk.on (bel1 _ _)).mono (by simp; omega)⟩
                      obtain ⟨g5, cap5, w5, hap, ho5, hg5⟩ := app_one 23 27 1 24 i0 _ Try.underlying23 hi hz0 hz1 hz2 rfl (by decide) (by decide) (by decide) _ W1.heap.size w4.heap.size _ _ vs _ 23 ho (range_lit w4 _ 27 (0, 0)) rfl (hcO.v.ones) (by simp; omega) (by have := hLl.out; simp only []; omega)
                      have hP6 := Lib.hid (hP5.key ho he hcO ho5 hg5)
                      have hb5 := blk_keep ho hg5 hP5.2.1 (by decide)
                      obtain ⟨-, -, y2, -⟩ := four_of hb5
                      have yf2 := four_fr hb5 2
                      obtain ⟨⟨-, -, t1, -⟩, -⟩ := hP4.box
                      obtain ⟨⟨-, -, t2, -⟩, -⟩ := hP5.box
                      clear hbk hq4 hbk2 hcO ho5 hg5 ho he hb5 hP5 hP4
                      simp [go_sem] at hap)
      all_goals
        clear hap
        go_wp2
        go_roundg g
        case measure => omega
        case rel => exact ⟨i + 1, s3, L ++ [cc], _, by omega, by first | rfl | go_num, (by show _ = _; rw [List.length_append, hLl.out]; rfl), by omega, hP6, hR'⟩
set_option maxHeartbeats 2000000 in
set_option maxRecDepth 100000 in
theorem qparse_long (w : World) (p : Option Addr) (cap : Nat) (t : List UInt8) (hl : ¬ t.length ≤ 448) :
    Calls Try.prog 19 #[.slice p t.length cap] w fun e w' => QPost w t e w' := by
    have hlz : (448 : Int) < (t.length : Int) := by omega
    have hok : Hid (okQ t = false) := by show _ = _; unfold okQ; rw [decide_eq_false hl]; simp
    go_enter Try.func19, Try.ntmps19
    go_wp2
    refine bodyPost_ret (results_c26t Try.results19 _ _ w.heap.size _ _ _ _ 26 rfl (World.alloc_heap_new w _)) rfl ?_
    exact QPost.no hok.out (bel1 _ _)
theorem parse19 (w : World) (v : Value) (t : List UInt8) (h : Bs w v t) :
    Calls Try.prog 19 #[v] w fun e w' => ∃ v', e = .returned (.tuple #[v', .int .i64 (chkE (okP t))]) ∧ NdO w.heap.size w' v' (parN t) ∧ Below w.heap.size w w' := by
  have hb := h
  obtain ⟨p, cap, rfl, -⟩ := h
  have key : Calls Try.prog 19 #[.slice p t.length cap] w fun e w' => QPost w t e w' := by
    by_cases hl : t.length ≤ 448
    · by_cases h1 : (qOne (t, false)).1 = 1
      · exact qparse_leaf w p cap t hb hl h1
      · by_cases h2 : (qOne (t, false)).1 = 2
        · exact qparse_inner w p cap t hb hl h2
        · exact qparse_other w p cap t hb hl ⟨h1, h2⟩
    · exact qparse_long w p cap t hl
  refine key.mono fun e w' h => ?_
  unfold QPost at h
  rw [okQ_okP] at h
  unfold parN
  cases hok : okP t with
  | true =>
    rw [hok, if_pos rfl, node_same hok] at h
    rw [if_pos rfl]
    exact h
  | false =>
    rw [hok] at h
    exact h
end Go.Proofs.Ytbkpgppaahpalaa
