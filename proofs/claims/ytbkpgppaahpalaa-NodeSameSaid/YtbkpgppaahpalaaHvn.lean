/-
  NodeHalves where nothing is asked, and where a node is not parted.
-/
import Derived.Test.YtbkpgppaahpalaaHvm
import Derived.Test.YtbkpgppaahpalaaSpn
import Derived.Test.YtbkpgppaahpalaaSam
namespace Go.Proofs.Ytbkpgppaahpalaa
open Go.RowKit
set_option linter.unusedVariables false      -- a walk need not use every condition

theorem eqS (w : World) (p : Option Addr) (n c : Nat) : (Op.equal 27 (Value.slice p n c) (Value.slice none 0 0)).run Try.prog w = .ok p.isNone w := by
  show (Op.equalIn (9999 + 1) 27 _ _).run Try.prog w = _
  rw [Op.equalIn]
  rw [Sem.run_bind, run_underlying Try.underlying27]
  cases p <;> rfl
theorem nil_eq (w : World) (p : Option Addr) (n c : Nat) : (binOp BinOp.eql 27 (Value.slice p n c) (Value.slice none 0 0)).run Try.prog w = .ok (.bool p.isNone) w := by
  show (do pure (Value.bool (← Op.equal 27 (Value.slice p n c) (Value.slice none 0 0)))).run Try.prog w = _
  rw [Sem.run_bind, eqS]
  rfl
def few8 (n : Nd) : Bool := decide (n.cells.length ≤ 300) && decide (n.keys.length ≤ 300)
theorem fewb21 (w : World) (v : Value) (n : Nd) (h : NdS w v n) : Calls Try.prog 21 #[v] w fun e w' => e = .returned (.bool (few8 n)) ∧ Below w.heap.size w w' := by
  obtain ⟨vc, vk, vi, rfl, hC, hK, hI⟩ := h
  obtain ⟨pc, cc, rfl, -, lc⟩ := hC.hdr
  obtain ⟨pk, ck, rfl, -, lk⟩ := hK.hdr
  obtain ⟨pi, ci, rfl, -, li⟩ := hI.hdr
  clear hC hK hI
  unfold few8
  generalize n.cells.length = N at *
  generalize n.keys.length = M at *
  by_cases h1 : N ≤ 300
  · have z1 : (N : Int) ≤ 300 := by omega
    by_cases h2 : M ≤ 300
    · have z2 : (M : Int) ≤ 300 := by omega
      rw [decide_eq_true h1, decide_eq_true h2]
      go_enter Try.func21, Try.ntmps21
      go_wp2
      go_ret
      exact ⟨rfl, bel1 _ _⟩
    · have z2 : ¬ (M : Int) ≤ 300 := by omega
      rw [decide_eq_true h1, decide_eq_false h2]
      go_enter Try.func21, Try.ntmps21
      go_wp2
      go_ret
      exact ⟨rfl, bel1 _ _⟩
  · have z1 : ¬ (N : Int) ≤ 300 := by omega
    rw [decide_eq_false h1]
    go_enter Try.func21, Try.ntmps21
    go_wp2
    go_ret
    exact ⟨by simp, bel1 _ _⟩
theorem nds_hdr {w : World} {v : Value} {n : Nd} (h : NdS w v n) : ∃ p1 c1 p2 c2 p3 c3, v = .agg #[.bool n.leaf, .slice p1 n.cells.length c1, .slice p2 n.keys.length c2, .slice p3 n.kids.length c3] := by
  obtain ⟨vc, vk, vi, rfl, hC, hK, hI⟩ := h
  obtain ⟨pc, cc, rfl, -, -⟩ := hC.hdr
  obtain ⟨pk, ck, rfl, -, -⟩ := hK.hdr
  obtain ⟨pi, ci, rfl, -, -⟩ := hI.hdr
  exact ⟨_, _, _, _, _, _, rfl⟩
theorem hlv_no0 (w : World) (v : Value) (n : Nd) (h : NdS w v n) (hm : may n = false) :
    Calls Try.prog 8 #[v] w fun e w' => e = .returned (.bool true) ∧ Below w.heap.size w w' := by
  have c13 := fun (u : World) (hu : Below w.heap.size w u) => check13 u v n (h.on hu)
  rw [hm, show chkE false = 80 from rfl] at c13
  obtain ⟨p1, c1, p2, c2, p3, c3, rfl⟩ := nds_hdr h
  generalize n.leaf = lf at *
  generalize n.cells.length = N at *
  generalize n.keys.length = M at *
  generalize n.kids.length = P at *
  have c12 := begun12
  have tk : True := trivial
  go_enter Try.func8, Try.ntmps8
  go_wp2_with (first
    | (go_at_call 12; clear tk; refine (c12 _).mono ?_; rintro e w1 ⟨rfl, hb1⟩
       have HB1 := Lib.hid (bel_then (bel1 _ _) hb1)
       obtain ⟨a0, a1, a2, a3⟩ := four_of (blk_on hb1 (World.alloc_heap_new w _))
       clear hb1)
    | (go_at_call 13; refine (c13 w1 HB1.out).mono ?_; rintro e w2 ⟨rfl, hb2⟩
       have HB2 := Lib.hid (bel_then HB1.out hb2)
       clear hb2)
    | (go_at_call 12; refine (c12 _).mono ?_; rintro e w3 ⟨rfl, hb3⟩))
  go_ret
  exact ⟨rfl, bel_then HB2.out hb3⟩
theorem hlv_no1 (w : World) (v : Value) (n : Nd) (h : NdS w v n) (hm : may n = true) (hw : few8 n = false) :
    Calls Try.prog 8 #[v] w fun e w' => e = .returned (.bool true) ∧ Below w.heap.size w w' := by
  have c13 := fun (u : World) (hu : Below w.heap.size w u) => check13 u v n (h.on hu)
  have c21 := fun (u : World) (hu : Below w.heap.size w u) => fewb21 u v n (h.on hu)
  rw [hm, show chkE true = 0 from rfl] at c13
  rw [hw] at c21
  obtain ⟨p1, c1, p2, c2, p3, c3, rfl⟩ := nds_hdr h
  generalize n.leaf = lf at *
  generalize n.cells.length = N at *
  generalize n.keys.length = M at *
  generalize n.kids.length = P at *
  have c12 := begun12
  have tk : True := trivial
  go_enter Try.func8, Try.ntmps8
  go_wp2_with (first
    | (go_at_call 12; clear tk; refine (c12 _).mono ?_; rintro e w1 ⟨rfl, hb1⟩
       have HB1 := Lib.hid (bel_then (bel1 _ _) hb1)
       have HA1 := Lib.hid (blk_on hb1 (World.alloc_heap_new w _))
       obtain ⟨a0, a1, a2, a3⟩ := four_of HA1.out
       clear hb1)
    | (go_at_call 13; refine (c13 w1 HB1.out).mono ?_; rintro e w2 ⟨rfl, hb2⟩
       have HB2 := Lib.hid (bel_then HB1.out hb2)
       obtain ⟨a0, a1, a2, a3⟩ := four_of (blk_on hb2 HA1.out)
       clear hb2)
    | (go_at_call 21; refine (c21 w2 HB2.out).mono ?_; rintro e w3 ⟨rfl, hb3⟩
       have HB3 := Lib.hid (bel_then HB2.out hb3)
       clear hb3)
    | (go_at_call 12; refine (c12 _).mono ?_; rintro e w4 ⟨rfl, hb4⟩))
  go_ret
  exact ⟨rfl, bel_then HB3.out hb4⟩
set_option maxHeartbeats 8000000 in
set_option maxRecDepth 100000 in
theorem hlv_nil (w : World) (v : Value) (n : Nd) (h : NdS w v n) (hm : may n = true) (hw : few8 n = true) (hf : Fit n) (hP : (n.leaf = true ∧ ¬ 1 < n.cells.length) ∨ (n.leaf = false ∧ n.keys.length = 0)) :
    Calls Try.prog 8 #[v] w fun e w' => e = .returned (.bool true) ∧ Below w.heap.size w w' := by
  have c13 := fun (u : World) (hu : Below w.heap.size w u) => check13 u v n (h.on hu)
  have c21 := fun (u : World) (hu : Below w.heap.size w u) => fewb21 u v n (h.on hu)
  have c22 : ∀ u, Below w.heap.size w u → Calls Try.prog 22 #[v] u fun e w' => ∃ va vb, e = .returned (.tuple #[va, .slice none 0 0, vb]) ∧ NdO u.heap.size w' va n ∧ NdO u.heap.size w' vb ⟨false, [], [], []⟩ ∧ Below u.heap.size u w' := fun u hu => by
    rcases hP with ⟨hL, h2⟩ | ⟨hL, h2⟩
    · exact split_nil0 u v n (h.on hu) hf hL h2
    · exact split_nil1 u v n (h.on hu) hf hL (by omega)
  have hz : n.cells.length < 2 ∧ n.keys.length = 0 := by
    rcases hP with ⟨hL, h2⟩ | ⟨hL, h2⟩
    · have := (may_leaf hL hm).1
      exact ⟨by omega, by rw [this]; rfl⟩
    · have := (may_inner hL hm).1
      exact ⟨by rw [this]; simp, h2⟩
  rw [hm, show chkE true = 0 from rfl] at c13
  rw [hw] at c21
  have HN := Lib.hid h
  obtain ⟨p1, c1, p2, c2, p3, c3, rfl⟩ := nds_hdr h
  have C13 := Lib.hid c13
  have C21 := Lib.hid c21
  have C22 := Lib.hid c22
  have z1 : (n.cells.length : Int) < 2 := by omega
  obtain ⟨-, hz2⟩ := hz
  rw [hz2] at C13 C21 C22 HN ⊢
  obtain ⟨Bz, hBz⟩ : ∃ x : Nd, (⟨false, [], [], []⟩ : Nd) = x := ⟨_, rfl⟩
  rw [hBz] at C22
  have HBZ := Lib.hid hBz
  have he : ∀ u, (binOp BinOp.eql 27 (.slice none 0 0) (.slice none 0 0)).run Try.prog u = .ok (.bool true) u := fun u => nil_eq u none 0 0
  clear c13 c21 c22 hP hm hw hf hz2 h hBz
  go_enter Try.func8, Try.ntmps8
  go_wp2_with (fail)
  refine (begun12 _).mono ?_
  rintro e w1 ⟨rfl, hb1⟩
  have HB1 := Lib.hid (bel_then (bel1 _ _) hb1)
  have HA1 := Lib.hid (blk_on hb1 (World.alloc_heap_new w _))
  obtain ⟨a0, a1, a2, a3⟩ := four_of HA1.out
  clear hb1
  go_wp2_with (fail)
  refine (C13.out _ HB1.out).mono ?_
  rintro e w2 ⟨rfl, hb2⟩
  have HB2 := Lib.hid (bel_then HB1.out hb2)
  have HA2 := Lib.hid (blk_on hb2 HA1.out)
  obtain ⟨a0, a1, a2, a3⟩ := four_of HA2.out
  clear hb2
  go_wp2_with (fail)
  refine (C21.out _ HB2.out).mono ?_
  rintro e w3 ⟨rfl, hb3⟩
  have HB3 := Lib.hid (bel_then HB2.out hb3)
  have HA3 := Lib.hid (blk_on hb3 HA2.out)
  obtain ⟨a0, a1, a2, a3⟩ := four_of HA3.out
  clear hb3
  go_wp2_with (fail)
  refine (C22.out _ HB3.out).mono ?_
  rintro e w4 ⟨va, vb, rfl, hna, hnb, hb4⟩
  obtain ⟨r1, f1, r2, f2, r3, f3, rfl⟩ := hna.hdr
  obtain ⟨s1, g1, s2, g2, s3, g3, rfl⟩ := hnb.hdr
  obtain ⟨w5, hw5⟩ : ∃ u, u = (w4.alloc (Obj.cells #[.bool n.leaf, .slice r1 n.cells.length f1, .slice r2 n.keys.length f2, .slice r3 n.kids.length f3] 26)).alloc (Obj.cells #[.bool Bz.leaf, .slice s1 Bz.cells.length g1, .slice s2 Bz.keys.length g2, .slice s3 Bz.kids.length g3] 26) := ⟨_, rfl⟩
  have hb5 : Below w4.heap.size w4 w5 := by rw [hw5]; exact bel_then (bel1 _ _) (bel1 _ _)
  have H3 : Hid (w5.heap[w4.heap.size]? = some (Obj.cells #[.bool n.leaf, .slice r1 n.cells.length f1, .slice r2 n.keys.length f2, .slice r3 n.kids.length f3] 26)) := by rw [hw5]; exact blk_on (bel1 _ _) (World.alloc_heap_new w4 _)
  have H5 : Hid (w5.heap[w4.heap.size + 1]? = some (Obj.cells #[.bool Bz.leaf, .slice s1 Bz.cells.length g1, .slice s2 Bz.keys.length g2, .slice s3 Bz.kids.length g3] 26)) := by rw [hw5]; exact new2 w4 _ _
  have HB5 := Lib.hid (bel_then (bel_then HB3.out hb4) hb5)
  have HA5 := Lib.hid (blk_on hb5 (blk_on hb4 HA3.out))
  have HNA := Lib.hid (hna.s.on hb5)
  have HNB := Lib.hid (hnb.s.on hb5)
  have HW5 := Lib.hid hw5
  obtain ⟨x0, x1, x2, x3⟩ := four_of H3.out
  obtain ⟨y0, y1, y2, y3⟩ := four_of H5.out
  obtain ⟨q0, q1, q2, q3⟩ := four_of HA5.out
  have hAl : w.heap.size < w4.heap.size := by have := (Array.getElem?_eq_some_iff.1 HA3.out).1; have := hb4.size; omega
  obtain ⟨v0, v1, v2, v3⟩ := four_of (blk_on hb4 HA3.out)
  clear hna hnb hb4 hb5 hw5 a0 a1 a2 a3
  go_wp2_with (fail)
  rw [← HW5.out]
  refine (same20 _ _ _ n HNA.out (HN.out.on HB5.out)).mono ?_
  rintro e w6 ⟨rfl, hb6⟩
  have HB6 := Lib.hid hb6
  obtain ⟨y0, y1, y2, y3⟩ := four_of (blk_on hb6 H5.out)
  obtain ⟨q0, q1, q2, q3⟩ := four_of (blk_on hb6 HA5.out)
  clear hb6
  go_wp2_with (fail)
  refine (same20 _ _ _ Bz (HNB.out.on HB6.out) (by rw [← HBZ.out]; exact ⟨_, _, _, rfl, cs_nil _, ks_nil _, is_nil _⟩)).mono ?_
  rintro e w7 ⟨rfl, hb7⟩
  obtain ⟨q0, q1, q2, q3⟩ := four_of (blk_on hb7 (blk_on HB6.out HA5.out))
  have HB7 := Lib.hid (bel_then (bel_then HB5.out HB6.out) hb7)
  clear hb7
  go_wp2
  go_ret
  exact ⟨rfl, HB7.out⟩
end Go.Proofs.Ytbkpgppaahpalaa
