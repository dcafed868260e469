/-
  The reader of package node: bytes, cell.
-/
import Derived.Test.YtbkpgppaahpalaaRdr
namespace Go.Proofs.Ytbkpgppaahpalaa
open Go.RowKit
set_option linter.unusedVariables false      -- a walk need not use every condition

theorem fl_bs' {w : World} {v : Value} {t : List UInt8} (h : Bs w v t) : Fl w v 1 t.length (enc t) := by
  obtain ⟨p, cap, rfl, h1, h2, h3, h4⟩ := h
  refine ⟨p, cap, rfl, h1, h2, h3, by rw [len_enc]; omega, ?_⟩
  rcases h4 with rfl | ⟨g, o, rfl, hc⟩
  · exact .inl rfl
  · exact .inr ⟨g, o, rfl, hc⟩
theorem copiedB (w : World) (v : Value) (t : List UInt8) (h : Bs w v t) (ht : t.length ≤ 140737488355328) : Calls Try.prog 54 #[v] w fun e w' => ∃ v', e = .returned v' ∧ Bts w' w.heap.size v' t ∧ Below w.heap.size w w' :=
  copied54 w v t.length (enc t) (fl_bs' h) (one_enc t) (by omega)
/-- What is read leaves nothing behind but the reader. -/
theorem Rq.bel {w0 w w' w2 : World} {r : Nat} {s : RS} (h : Rq w0 r s w w') (hb : Below w'.heap.size w' w2) : Rq w0 r s w w2 :=
  ⟨h.1.on hb, h.2.trans (gr_bel hb _)⟩
set_option maxHeartbeats 2000000 in
set_option maxRecDepth 100000 in
theorem bytes98 (w0 w : World) (r : Nat) (s : RS) (h : Rd w0 w r s) (hs : s.1.length ≤ 448) :
    Calls Try.prog 98 #[.pointer (some ⟨r, 0, none⟩)] w fun e w' => ∃ v', e = .returned v' ∧ Bts w' w.heap.size v' (rBytes s).1 ∧ Rq w0 r (rBytes s).2 w w' := by
  have c84 := number84 w0 w r s h
  have hle : (rNum s).2.1.length ≤ 448 := by
    unfold rNum
    split
    · split
      · simp; omega
      · simp [bad]
    · simp [bad]
  have hlt := rNum_le s
  unfold rBytes
  generalize (rNum s).1 = l at *
  generalize (rNum s).2 = s1 at *
  by_cases hl : s1.1.length < l
  · rw [if_pos hl]
    have hlz : (s1.1.length : Int) < (l : Int) := by omega
    generalize hT : s1.1.length = T at *
    have HT := Lib.hid hT
    clear hT
    go_enter Try.func98, Try.ntmps98
    go_wp2_with (first
      | (go_at_call 84; refine c84.mono ?_; rintro e w1 ⟨rfl, hq1⟩; have c87 := fail87 w0 w1 r s1 hq1.1; have HQ1 := Lib.hid hq1; obtain ⟨v1, k1, k2, -, -⟩ := hq1.1; obtain ⟨q0, q1⟩ := two_of k1; obtain ⟨p, cap, rfl, -⟩ := k2; rw [HT.out] at q0; clear k1 hq1)
      | (go_at_call 87; refine c87.mono ?_; rintro e w2 ⟨rfl, hq2⟩))
    go_ret
    exact ⟨_, rfl, bts_nil _ _, HQ1.out.trans hq2⟩
  · rw [if_neg hl]
    have hlz : ¬ (s1.1.length : Int) < (l : Int) := by omega
    have hn : l ≤ s1.1.length := by omega
    generalize hT : s1.1.length = T at *
    have HT := Lib.hid hT
    clear hT
    go_enter Try.func98, Try.ntmps98
    go_wp2_with (go_at_call 84; refine c84.mono ?_; rintro e w1 ⟨rfl, hq1⟩; have HQ1 := Lib.hid hq1; obtain ⟨v1, k1, k2, k3, k4⟩ := hq1.1; obtain ⟨q0, q1⟩ := two_of k1; have HK1 := Lib.hid k1; have HK2 := Lib.hid k2; have HK3 := Lib.hid k3; obtain ⟨p, cap, e1, hcc, hcm, -, -⟩ := id k2; rw [HT.out] at e1 hcc; subst e1; clear k1 k2 k3 hq1)
    have HT4 : Hid (Bs w1 (.slice p l cap) (s1.1.take l)) := by
      have h5 := HK2.out.on HK3.out
      rw [← HT.out] at h5
      exact h5.take (by rw [HT.out]; exact hn)
    have hdr : Bs w0 (.slice (if cap = l then p else p.map (·.add l)) (T - l) (cap - l)) (s1.1.drop l) := by
      have h5 := HK2.out
      rw [← HT.out] at h5 ⊢
      exact h5.drop (by rw [HT.out]; exact hn)
    have c54 := copiedB w1 _ _ HT4.out (by rw [List.length_take]; omega)
    refine c54.mono ?_
    rintro e w2 ⟨v2, rfl, hb2, hB2⟩
    have HK12 := Lib.hid (blk_on hB2 HK1.out)
    obtain ⟨x0, x1⟩ := two_of HK12.out
    have f0 := four_fr HK12.out 0
    have HB2 := Lib.hid hB2
    have HO2 := Lib.hid hb2
    have HR2 : Hid (Rq w0 r s1 w w2) := HQ1.out.bel hB2
    have hgz := HQ1.out.2.size
    clear hB2 hb2 c54 HT4 c84 q0 q1
    unfold maxLen at hcm
    by_cases hcn : cap = l
    · subst hcn
      obtain rfl : T = cap := by omega
      rw [if_pos rfl, Nat.sub_self] at hdr
      have hq := HR2.out.1.set (s' := (s1.1.drop T, s1.2)) hdr _ (gr_set w2 r 0 _) (blk_first HK12.out _)
      have hbf := Lib.hid (own_other HO2.out hq.2 HK12.out (by decide))
      have HQ := Lib.hid (HR2.out.trans hq)
      clear hdr hq
      go_wp2
      go_ret
      exact ⟨_, rfl, hbf.out.mono hgz, HQ.out⟩
    · rw [if_neg hcn] at hdr
      have hq := HR2.out.1.set (s' := (s1.1.drop l, s1.2)) hdr _ (gr_set w2 r 0 _) (blk_first HK12.out _)
      have hbf := Lib.hid (own_other HO2.out hq.2 HK12.out (by decide))
      have HQ := Lib.hid (HR2.out.trans hq)
      clear hdr hq
      go_wp2
      go_ret
      exact ⟨_, rfl, hbf.out.mono hgz, HQ.out⟩
/-- A cell of one's own. -/
def CeO (base : Nat) (w : World) (v : Value) (c : C) : Prop := ∃ k x, v = .agg #[k, x, .int .i64 c.over, .int .i64 c.len] ∧ Bts w base k c.key ∧ Bts w base x c.val ∧ I64 c.over ∧ I64 c.len
theorem rNum_len {s : RS} : (rNum s).2.1.length ≤ s.1.length := by
  unfold rNum
  split
  · split
    · simp
    · simp [bad]
  · simp [bad]
theorem rBytes_len {s : RS} : (rBytes s).2.1.length ≤ s.1.length := by
  have := rNum_len (s := s)
  unfold rBytes
  split
  · simp [bad]
  · simp; omega
theorem Rd.lt {w0 w : World} {r : Nat} {s : RS} (h : Rd w0 w r s) : r < w.heap.size := by
  obtain ⟨u, h1, -⟩ := h
  exact (Array.getElem?_eq_some_iff.1 h1).1
theorem Bts.gr {w w' : World} {base r : Nat} {v : Value} {t : List UInt8} {c : Array Value} (h : Bts w base v t) (hg : w.grownBy w' (some r)) (hr : w.heap[r]? = some (.cells c 65)) : Bts w' base v t := own_other h hg hr (by decide)
theorem Rd.blk {w0 w : World} {r : Nat} {s : RS} (h : Rd w0 w r s) : ∃ c, w.heap[r]? = some (.cells c 65) := by
  obtain ⟨u, h1, -⟩ := h
  exact ⟨_, h1⟩
/-- Things of one's own, and boxes, behind what is read. -/
theorem Rq.bts {w0 w w' : World} {r base : Nat} {s s' : RS} {v : Value} {t : List UInt8} (hd : Rd w0 w r s) (h : Rq w0 r s' w w') (hb : Bts w base v t) : Bts w' base v t := by
  obtain ⟨c, hc⟩ := hd.blk
  exact hb.gr h.2 hc
/-- A block of one's own is turned. -/
theorem Rq.put {w0 w u u' : World} {r g : Nat} {s : RS} (h : Rq w0 r s w u) (hg : u.grownBy u' (some g)) (hge : w.heap.size ≤ g) (hr : r < w.heap.size) : Rq w0 r s w u' := by
  obtain ⟨⟨v, k1, k2, k3, k4⟩, h2⟩ := h
  refine ⟨⟨v, blk_gr k1 hg (by omega), k2, bel_put k3 hg (by omega), k4⟩, ⟨hg.os.trans h2.os, hg.tape.trans h2.tape, hg.output.trans h2.output, Nat.le_trans h2.size hg.size, fun k hk hne => (hg.block k (Nat.lt_of_lt_of_le hk h2.size) (fun e => by injection e with e; omega)).trans (h2.block k hk hne)⟩⟩
theorem blk_setn {w : World} {g i : Nat} {c : Array Value} {t : TypeId} (h : w.heap[g]? = some (.cells c t)) (u : Value) : ∃ c', (w.setCell ⟨g, i, none⟩ u).heap[g]? = some (.cells c' t) := ⟨_, blk_setc h u⟩
/-- Between the calls of cell: the reader, the cell's box, the result's. -/
def Pk (w0 w u : World) (r : Nat) (s : RS) (bc : Nat) (k : Value) (o l : Int) (K : List UInt8) : Prop :=
  Rq w0 r s w u ∧ u.heap[bc]? = some (.cells #[k, .slice none 0 0, .int .i64 o, .int .i64 l] 44) ∧ u.heap[w.heap.size]? = some (.cells #[.slice none 0 0, .slice none 0 0, .int .i64 0, .int .i64 0] 44) ∧ Bts u (w.heap.size + 1) k K ∧ w.heap.size < bc ∧ r < w.heap.size
theorem Pk.step {w0 w u u' : World} {r : Nat} {s s' : RS} {bc : Nat} {k : Value} {o l : Int} {K : List UInt8} (h : Pk w0 w u r s bc k o l K) (hq : Rq w0 r s' u u') : Pk w0 w u' r s' bc k o l K := by
  obtain ⟨h1, h2, h3, h4, h5, h6⟩ := h
  exact ⟨h1.trans hq, blk_gr h2 hq.2 (by omega), blk_gr h3 hq.2 (by omega), Rq.bts h1.1 hq h4, h5, h6⟩
theorem Pk.over {w0 w u : World} {r : Nat} {s : RS} {bc : Nat} {k : Value} {o l : Int} {K : List UInt8} (h : Pk w0 w u r s bc k o l K) (o' : Int) : Pk w0 w (u.setCell ⟨bc, 2, none⟩ (.int .i64 o')) r s bc k o' l K := by
  obtain ⟨h1, h2, h3, h4, h5, h6⟩ := h
  have g := gr_set u bc 2 (.int .i64 o')
  exact ⟨h1.put g (by omega) h6, blk_setc h2 _, blk_gr h3 g (by omega), own_other h4 g h2 (by decide), h5, h6⟩
theorem Pk.len {w0 w u : World} {r : Nat} {s : RS} {bc : Nat} {k : Value} {o l : Int} {K : List UInt8} (h : Pk w0 w u r s bc k o l K) (l' : Int) : Pk w0 w (u.setCell ⟨bc, 3, none⟩ (.int .i64 l')) r s bc k o l' K := by
  obtain ⟨h1, h2, h3, h4, h5, h6⟩ := h
  have g := gr_set u bc 3 (.int .i64 l')
  exact ⟨h1.put g (by omega) h6, blk_setc h2 _, blk_gr h3 g (by omega), own_other h4 g h2 (by decide), h5, h6⟩
/-- The cell is stored into the result's box. -/
theorem Pk.done {w0 w u : World} {r : Nat} {s : RS} {bc : Nat} {k : Value} {o l : Int} {K : List UInt8} (h : Pk w0 w u r s bc k o l K) (ho : I64 o) (hl : I64 l) :
    let U := (((u.setCell ⟨w.heap.size, 0, none⟩ k).setCell ⟨w.heap.size, 1, none⟩ (.slice none 0 0)).setCell ⟨w.heap.size, 2, none⟩ (.int .i64 o)).setCell ⟨w.heap.size, 3, none⟩ (.int .i64 l)
    U.heap[w.heap.size]? = some (.cells #[k, .slice none 0 0, .int .i64 o, .int .i64 l] 44) ∧ CeO w.heap.size U (.agg #[k, .slice none 0 0, .int .i64 o, .int .i64 l]) ⟨K, [], o, l⟩ ∧ Rq w0 r s w U := by
  obtain ⟨h1, h2, h3, h4, h5, h6⟩ := h
  have g := gr_four u w.heap.size k (.slice none 0 0) (.int .i64 o) (.int .i64 l)
  exact ⟨blk_four h3 _ _ _ _, ⟨_, _, rfl, (own_other h4 g h3 (by decide)).mono (by omega), bts_nil _ _, ho, hl⟩, h1.put g (Nat.le_refl _) h6⟩
theorem Pk.facts {w0 w u : World} {r : Nat} {s : RS} {bc : Nat} {k : Value} {o l : Int} {K : List UInt8} (h : Pk w0 w u r s bc k o l K) :
    (u.cell? ⟨bc, 0, none⟩ = some k ∧ u.cell? ⟨bc, 1, none⟩ = some (.slice none 0 0) ∧ u.cell? ⟨bc, 2, none⟩ = some (.int .i64 o) ∧ u.cell? ⟨bc, 3, none⟩ = some (.int .i64 l)) ∧ u.frozen? ⟨bc, 2, none⟩ = false ∧ u.frozen? ⟨bc, 3, none⟩ = false ∧
      (u.cell? ⟨w.heap.size, 0, none⟩ = some (.slice none 0 0) ∧ u.cell? ⟨w.heap.size, 1, none⟩ = some (.slice none 0 0) ∧ u.cell? ⟨w.heap.size, 2, none⟩ = some (.int .i64 0) ∧ u.cell? ⟨w.heap.size, 3, none⟩ = some (.int .i64 0)) ∧
      (∀ i, u.frozen? ⟨w.heap.size, i, none⟩ = false) := ⟨four_of h.2.1, four_fr h.2.1 2, four_fr h.2.1 3, four_of h.2.2.1, fun i => four_fr h.2.2.1 i⟩
set_option maxHeartbeats 4000000 in
set_option maxRecDepth 100000 in
theorem cell97 (w0 w : World) (r : Nat) (s : RS) (h : Rd w0 w r s) (hs : s.1.length ≤ 448) :
    Calls Try.prog 97 #[.pointer (some ⟨r, 0, none⟩)] w fun e w' => ∃ v', e = .returned v' ∧ CeO w.heap.size w' v' (rCell s).1 ∧ Rq w0 r (rCell s).2 w w' := by
  have hrl := h.lt
  have hl1 := rBytes_len (s := s)
  have cB := fun (o : Obj) => bytes98 w0 (w.alloc o) r s (h.on (bel1 w o)) hs
  have hH : ∀ o, Rd w0 (w.alloc o) r s := fun o => h.on (bel1 w o)
  unfold rCell
  generalize (rBytes s).1 = K at *
  generalize (rBytes s).2 = s1 at *
  have hl2 := rNum_len (s := s1)
  have hn2 := rNum_le s1
  unfold rVal
  have cN := fun (u : World) (hd : Rd w0 u r s1) => number84 w0 u r s1 hd
  generalize (rNum s1).1 = m at *
  generalize (rNum s1).2 = s2 at *
  have cB2 := fun (u : World) (hd : Rd w0 u r s2) => bytes98 w0 u r s2 hd (by omega)
  have cN2 := fun (u : World) (hd : Rd w0 u r s2) => number84 w0 u r s2 hd
  have hn3 := rNum_le s2
  by_cases h0 : m = 0
  · rw [if_pos h0]
    subst h0
    simp only
    generalize (rBytes s2).1 = X at *
    generalize (rBytes s2).2 = s3 at *
    clear cN2
    obtain ⟨Z0, hZ0⟩ : ∃ Z, Z = Obj.cells #[.slice none 0 0, .slice none 0 0, .int .i64 0, .int .i64 0] 44 := ⟨_, rfl⟩
    have HZ : Hid ((w.alloc Z0).heap[w.heap.size]? = some Z0) := World.alloc_heap_new w Z0
    rw [hZ0] at HZ
    clear hZ0 Z0
    have tk : True := trivial
    go_enter Try.func97, Try.ntmps97
    go_wp2_with (first
      | (go_at_call 98; clear tk; refine (cB _).mono ?_; rintro e w1 ⟨v1, rfl, hb1, hq1⟩; have HB1 := Lib.hid hb1; have HQ1 := Lib.hid hq1; obtain ⟨kp, kc, rfl, -⟩ := hb1.bs; clear hb1 hq1)
      | (go_at_call 84; refine (cN _ (HQ1.out.1.on (bel1 _ _))).mono ?_; rintro e w2 ⟨rfl, hq2⟩; have HQ2 := Lib.hid hq2; have HC2 := Lib.hid (blk_gr (World.alloc_heap_new w1 _) hq2.2 (by have := HQ1.out.2.size; simp at this; omega)); clear hq2)
      | (go_at_call 98; refine (cB2 _ HQ2.out.1).mono ?_; rintro e w3 ⟨v3, rfl, hb3, hq3⟩
         have HQ3 := Lib.hid hq3; have HB3 := Lib.hid hb3; obtain ⟨xp, xc, rfl, -⟩ := hb3.bs
         have hz1 := HQ1.out.2.size
         have hC3 := blk_gr HC2.out hq3.2 (by simp at hz1; omega)
         have hZ3 := blk_gr (blk_gr (blk_on (bel1 w1 _) (blk_gr HZ.out HQ1.out.2 (by omega))) HQ2.out.2 (by omega)) hq3.2 (by omega)
         obtain ⟨y0, y1, y2, y3⟩ := four_of hC3
         have yf1 := four_fr hC3 1
         obtain ⟨x0, x1, x2, x3⟩ := four_of hZ3
         have xf0 := four_fr hZ3 0
         have xf1 := four_fr hZ3 1
         have xf2 := four_fr hZ3 2
         have xf3 := four_fr hZ3 3
         have HC3 := Lib.hid hC3
         have HZ3 := Lib.hid hZ3
         have hne : w.heap.size ≠ w1.heap.size := by simp at hz1; omega
         have hne' : ¬ w1.heap.size = w.heap.size := by simp at hz1; omega
         clear hb3 hq3 hC3 hZ3))
    have hzA := HQ1.out.2.size
    simp only [World.size_alloc] at hzA
    have g1 := gr_set w3 w1.heap.size 1 (.slice xp X.length xc)
    have hZ4 := blk_gr HZ3.out g1 hne
    have hC4 := blk_setc (i := 1) HC3.out (.slice xp X.length xc)
    have g2 := gr_four (w3.setCell ⟨w1.heap.size, 1, none⟩ (.slice xp X.length xc)) w.heap.size (.slice kp K.length kc) (.slice xp X.length xc) (.int .i64 0) (.int .i64 0)
    have hZ5 := blk_four hZ4 (.slice kp K.length kc) (.slice xp X.length xc) (.int .i64 0) (.int .i64 0)
    have bk1 := (Rq.bts (HQ1.out.1.on (bel1 _ _)) HQ2.out (HB1.out.on (bel1 _ _)))
    have bk2 := Rq.bts HQ2.out.1 HQ3.out bk1
    have bk := own_other (own_other bk2 g1 HC3.out (by decide)) g2 hZ4 (by decide)
    have bx := own_other (own_other HB3.out g1 HC3.out (by decide)) g2 hZ4 (by decide)
    have q : Rq w0 r s3 w w3 := ⟨HQ3.out.1, ((gr_bel (bel1 w _) (some r)).trans HQ1.out.2).trans ((gr_bel (bel1 w1 _) (some r)).trans (HQ2.out.2.trans HQ3.out.2))⟩
    have q2 := (q.put g1 (by omega) hrl).put g2 (Nat.le_refl _) hrl
    have hz2 := HQ2.out.2.size
    simp only [World.size_alloc] at hz2
    refine bodyPost_ret (results_c44 Try.results97 _ _ w.heap.size _ _ _ _ 44 rfl hZ5) rfl ?_
    exact ⟨_, rfl, ⟨_, _, rfl, bk.mono (by simp), bx.mono (by omega), by unfold I64; simp, by unfold I64; simp⟩, q2⟩
  · rw [if_neg h0]
    have h0b : ((m : Int) == 0) = false := by simp; omega
    obtain ⟨Z0, hZ0⟩ : ∃ Z, Z = Obj.cells #[.slice none 0 0, .slice none 0 0, .int .i64 0, .int .i64 0] 44 := ⟨_, rfl⟩
    have HZ : Hid ((w.alloc Z0).heap[w.heap.size]? = some Z0) := World.alloc_heap_new w Z0
    rw [hZ0] at HZ
    clear hZ0 Z0
    have tk : True := trivial
    have tk2 : True := trivial
    by_cases h1 : m = 1
    · rw [if_pos h1]
      have cN3 := fun (u : World) (hd : Rd w0 u r (rNum s2).2) => number84 w0 u r (rNum s2).2 hd
      have hn4 := rNum_le (rNum s2).2
      simp only
      subst h1
      generalize (rNum s2).1 = l at *
      generalize (rNum s2).2 = s3 at *
      generalize (rNum s3).1 = ov at *
      generalize (rNum s3).2 = s4 at *
      clear cB2 h0 h0b
      by_cases hov : ov = 0
      · rw [if_pos hov]
        have hovb : ((ov : Int) == 0) = true := by simp; omega
        have hfl := fun (u : World) (hd : Rd w0 u r s4) => fail87 w0 u r s4 hd
        clear hov
        go_enter Try.func97, Try.ntmps97
        go_wp2_with (first
          | (go_at_call 98; refine (cB _).mono ?_; rintro e w1 ⟨v1, rfl, hb1, hq1⟩; have HB1 := Lib.hid hb1; have HQ1 := Lib.hid hq1; have hz1 := hq1.2.size; simp only [World.size_alloc] at hz1; have hne : ¬ w.heap.size = w1.heap.size := (by omega); have hne' : ¬ w1.heap.size = w.heap.size := (by omega); obtain ⟨kp, kc, rfl, -⟩ := hb1.bs; clear hb1 hq1 hz1)
          | (go_at_call 84; clear tk; refine (cN _ (HQ1.out.1.on (bel1 _ _))).mono ?_; rintro e w2 ⟨rfl, hq2⟩
             have hP1 : Pk w0 w (w1.alloc (.cells #[.slice kp K.length kc, .slice none 0 0, .int .i64 0, .int .i64 0] 44)) r s1 w1.heap.size (.slice kp K.length kc) 0 0 K := ⟨⟨HQ1.out.1.on (bel1 _ _), ((gr_bel (bel1 w _) (some r)).trans HQ1.out.2).trans (gr_bel (bel1 w1 _) (some r))⟩, World.alloc_heap_new w1 _, blk_on (bel1 w1 _) (blk_gr HZ.out HQ1.out.2 (by omega)), (HB1.out.on (bel1 w1 _)).mono (by simp), (by have hz := HQ1.out.2.size; simp only [World.size_alloc] at hz; omega), hrl⟩
             have hP2 := hP1.step hq2
             have HP2 := Lib.hid hP2
             obtain ⟨⟨y0, y1, y2, y3⟩, yf2, yf3, ⟨x0, x1, x2, x3⟩, xf⟩ := hP2.facts
             have xf0 := xf 0
             have xf1 := xf 1
             have xf2 := xf 2
             have xf3 := xf 3
             clear hq2 hP1 hP2 xf)
          | (go_at_call 84; clear tk2; refine (cN2 _ HP2.out.1.1).mono ?_; rintro e w3 ⟨rfl, hq3⟩
             have hP3 := HP2.out.step hq3
             have HP3 := Lib.hid (hP3.len (l : Int))
             obtain ⟨⟨y0, y1, y2, y3⟩, yf2, yf3, ⟨x0, x1, x2, x3⟩, xf⟩ := hP3.facts
             have xf0 := xf 0
             have xf1 := xf 1
             have xf2 := xf 2
             have xf3 := xf 3
             clear hq3 hP3 xf)
          | (go_at_call 84; refine (cN3 _ HP3.out.1.1).mono ?_; rintro e w4 ⟨rfl, hq4⟩
             have hP4 := HP3.out.step hq4
             have HP4 := Lib.hid (hP4.over (ov : Int))
             obtain ⟨⟨y0, y1, y2, y3⟩, yf2, yf3, ⟨x0, x1, x2, x3⟩, xf⟩ := hP4.facts
             have xf0 := xf 0
             have xf1 := xf 1
             have xf2 := xf 2
             have xf3 := xf 3
             clear hq4 hP4 xf)
          | (go_at_call 87; refine (hfl _ HP4.out.1.1).mono ?_; rintro e w5 ⟨rfl, hq5⟩
             have hP5 := HP4.out.step hq5
             have HP5 := Lib.hid hP5
             obtain ⟨⟨y0, y1, y2, y3⟩, yf2, yf3, ⟨x0, x1, x2, x3⟩, xf⟩ := hP5.facts
             have xf0 := xf 0
             have xf1 := xf 1
             have xf2 := xf 2
             have xf3 := xf 3
             clear hq5 hP5 xf))
        obtain ⟨d1, d2, d3⟩ := HP5.out.done (by unfold I64; omega) (by unfold I64; omega)
        refine bodyPost_ret (results_c44 Try.results97 _ _ w.heap.size _ _ _ _ 44 rfl d1) rfl ?_
        exact ⟨_, rfl, d2, d3⟩
      · rw [if_neg hov]
        have hovb : ((ov : Int) == 0) = false := by simp; omega
        clear hov
        go_enter Try.func97, Try.ntmps97
        go_wp2_with (first
          | (go_at_call 98; refine (cB _).mono ?_; rintro e w1 ⟨v1, rfl, hb1, hq1⟩; have HB1 := Lib.hid hb1; have HQ1 := Lib.hid hq1; have hz1 := hq1.2.size; simp only [World.size_alloc] at hz1; have hne : ¬ w.heap.size = w1.heap.size := (by omega); have hne' : ¬ w1.heap.size = w.heap.size := (by omega); obtain ⟨kp, kc, rfl, -⟩ := hb1.bs; clear hb1 hq1 hz1)
          | (go_at_call 84; clear tk; refine (cN _ (HQ1.out.1.on (bel1 _ _))).mono ?_; rintro e w2 ⟨rfl, hq2⟩
             have hP1 : Pk w0 w (w1.alloc (.cells #[.slice kp K.length kc, .slice none 0 0, .int .i64 0, .int .i64 0] 44)) r s1 w1.heap.size (.slice kp K.length kc) 0 0 K := ⟨⟨HQ1.out.1.on (bel1 _ _), ((gr_bel (bel1 w _) (some r)).trans HQ1.out.2).trans (gr_bel (bel1 w1 _) (some r))⟩, World.alloc_heap_new w1 _, blk_on (bel1 w1 _) (blk_gr HZ.out HQ1.out.2 (by omega)), (HB1.out.on (bel1 w1 _)).mono (by simp), (by have hz := HQ1.out.2.size; simp only [World.size_alloc] at hz; omega), hrl⟩
             have hP2 := hP1.step hq2
             have HP2 := Lib.hid hP2
             obtain ⟨⟨y0, y1, y2, y3⟩, yf2, yf3, ⟨x0, x1, x2, x3⟩, xf⟩ := hP2.facts
             have xf0 := xf 0
             have xf1 := xf 1
             have xf2 := xf 2
             have xf3 := xf 3
             clear hq2 hP1 hP2 xf)
          | (go_at_call 84; clear tk2; refine (cN2 _ HP2.out.1.1).mono ?_; rintro e w3 ⟨rfl, hq3⟩
             have hP3 := HP2.out.step hq3
             have HP3 := Lib.hid (hP3.len (l : Int))
             obtain ⟨⟨y0, y1, y2, y3⟩, yf2, yf3, ⟨x0, x1, x2, x3⟩, xf⟩ := hP3.facts
             have xf0 := xf 0
             have xf1 := xf 1
             have xf2 := xf 2
             have xf3 := xf 3
             clear hq3 hP3 xf)
          | (go_at_call 84; refine (cN3 _ HP3.out.1.1).mono ?_; rintro e w4 ⟨rfl, hq4⟩
             have hP4 := HP3.out.step hq4
             have HP4 := Lib.hid (hP4.over (ov : Int))
             obtain ⟨⟨y0, y1, y2, y3⟩, yf2, yf3, ⟨x0, x1, x2, x3⟩, xf⟩ := hP4.facts
             have xf0 := xf 0
             have xf1 := xf 1
             have xf2 := xf 2
             have xf3 := xf 3
             clear hq4 hP4 xf))
        obtain ⟨d1, d2, d3⟩ := HP4.out.done (by unfold I64; omega) (by unfold I64; omega)
        refine bodyPost_ret (results_c44 Try.results97 _ _ w.heap.size _ _ _ _ 44 rfl d1) rfl ?_
        exact ⟨_, rfl, d2, d3⟩
    · rw [if_neg h1]
      have h1b : ((m : Int) == 1) = false := by simp; omega
      have hfl := fun (u : World) (hd : Rd w0 u r s2) => fail87 w0 u r s2 hd
      clear cB2 cN2 h0 h1
      go_enter Try.func97, Try.ntmps97
      go_wp2_with (first
          | (go_at_call 98; refine (cB _).mono ?_; rintro e w1 ⟨v1, rfl, hb1, hq1⟩; have HB1 := Lib.hid hb1; have HQ1 := Lib.hid hq1; have hz1 := hq1.2.size; simp only [World.size_alloc] at hz1; have hne : ¬ w.heap.size = w1.heap.size := (by omega); have hne' : ¬ w1.heap.size = w.heap.size := (by omega); obtain ⟨kp, kc, rfl, -⟩ := hb1.bs; clear hb1 hq1 hz1)
          | (go_at_call 84; clear tk; refine (cN _ (HQ1.out.1.on (bel1 _ _))).mono ?_; rintro e w2 ⟨rfl, hq2⟩
             have hP1 : Pk w0 w (w1.alloc (.cells #[.slice kp K.length kc, .slice none 0 0, .int .i64 0, .int .i64 0] 44)) r s1 w1.heap.size (.slice kp K.length kc) 0 0 K := ⟨⟨HQ1.out.1.on (bel1 _ _), ((gr_bel (bel1 w _) (some r)).trans HQ1.out.2).trans (gr_bel (bel1 w1 _) (some r))⟩, World.alloc_heap_new w1 _, blk_on (bel1 w1 _) (blk_gr HZ.out HQ1.out.2 (by omega)), (HB1.out.on (bel1 w1 _)).mono (by simp), (by have hz := HQ1.out.2.size; simp only [World.size_alloc] at hz; omega), hrl⟩
             have hP2 := hP1.step hq2
             have HP2 := Lib.hid hP2
             obtain ⟨⟨y0, y1, y2, y3⟩, yf2, yf3, ⟨x0, x1, x2, x3⟩, xf⟩ := hP2.facts
             have xf0 := xf 0
             have xf1 := xf 1
             have xf2 := xf 2
             have xf3 := xf 3
             clear hq2 hP1 hP2 xf)
          | (go_at_call 87; refine (hfl _ HP2.out.1.1).mono ?_; rintro e w5 ⟨rfl, hq5⟩
             have hP5 := HP2.out.step hq5
             have HP5 := Lib.hid hP5
             obtain ⟨⟨y0, y1, y2, y3⟩, yf2, yf3, ⟨x0, x1, x2, x3⟩, xf⟩ := hP5.facts
             have xf0 := xf 0
             have xf1 := xf 1
             have xf2 := xf 2
             have xf3 := xf 3
             clear hq5 hP5 xf))
      obtain ⟨d1, d2, d3⟩ := HP5.out.done (by unfold I64; omega) (by unfold I64; omega)
      refine bodyPost_ret (results_c44 Try.results97 _ _ w.heap.size _ _ _ _ 44 rfl d1) rfl ?_
      exact ⟨_, rfl, d2, d3⟩
end Go.Proofs.Ytbkpgppaahpalaa
