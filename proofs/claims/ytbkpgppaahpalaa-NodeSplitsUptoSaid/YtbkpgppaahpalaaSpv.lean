/-
  NodeSplits' walk, of any node of some bulk.
-/
import Derived.Test.YtbkpgppaahpalaaSpl
import Derived.Test.YtbkpgppaahpalaaRsn
import Derived.Test.YtbkpgppaahpalaaSam
import Derived.Test.YtbkpgppaahpalaaRsp
import Derived.Test.YtbkpgppaahpalaaRsi
namespace Go.Proofs.Ytbkpgppaahpalaa
open Go.RowKit
set_option linter.unusedVariables false      -- a walk need not use every condition

def few (n : Nd) : Bool := decide (n.cells.length ≤ 300) && decide (n.keys.length ≤ 300)
theorem few21 (w : World) (v : Value) (n : Nd) (h : NdS w v n) : Calls Try.prog 21 #[v] w fun e w' => e = .returned (.bool (few n)) ∧ Below w.heap.size w w' := by
  obtain ⟨vc, vk, vi, rfl, hC, hK, hI⟩ := h
  obtain ⟨pc, cc, rfl, -, lc⟩ := hC.hdr
  obtain ⟨pk, ck, rfl, -, lk⟩ := hK.hdr
  obtain ⟨pi, ci, rfl, -, li⟩ := hI.hdr
  clear hC hK hI
  unfold few
  generalize n.cells.length = N at *
  generalize n.keys.length = M at *
  by_cases h1 : N ≤ 300
  · have z1 : (N : Int) ≤ 300 := by omega
    by_cases h2 : M ≤ 300
    · have z2 : (M : Int) ≤ 300 := by omega
      rw [decide_eq_true h1, decide_eq_true h2]
      go_enter Try.func21, Try.ntmps21
      go_wp2
      go_ret
      exact ⟨rfl, bel1 _ _⟩
    · have z2 : ¬ (M : Int) ≤ 300 := by omega
      rw [decide_eq_true h1, decide_eq_false h2]
      go_enter Try.func21, Try.ntmps21
      go_wp2
      go_ret
      exact ⟨rfl, bel1 _ _⟩
  · have z1 : ¬ (N : Int) ≤ 300 := by omega
    rw [decide_eq_false h1]
    go_enter Try.func21, Try.ntmps21
    go_wp2
    go_ret
    exact ⟨by simp, bel1 _ _⟩
theorem equal_same3 (w : World) (a b : Value) (t : List UInt8) (ha : Bs w a t) (hb : Bs w b t) : Calls Try.prog 17 #[a, b] w fun e w' => e = .returned (.bool true) ∧ w' = w := by
  have := equal17 w a b t t ha hb
  rwa [show (t == t) = true by simp] at this
theorem splits_no (w : World) (v : Value) (n : Nd) (h : NdS w v n) (hw : few n = false) :
    Calls Try.prog 5 #[v] w fun e w' => e = .returned (.bool true) ∧ Below w.heap.size w w' := by
  have c21 := fun (u : World) (hu : Below w.heap.size w u) => few21 u v n (h.on hu)
  rw [hw] at c21
  obtain ⟨p1, c1, p2, c2, p3, c3, rfl⟩ := h.hdr
  generalize n.leaf = lf at *
  generalize n.cells.length = N at *
  generalize n.keys.length = M at *
  generalize n.kids.length = P at *
  go_enter Try.func5, Try.ntmps5
  go_wp2_with (go_at_call 21; refine (c21 _ (bel1 _ _)).mono ?_; rintro e w1 ⟨rfl, hb1⟩)
  go_ret
  exact ⟨rfl, bel_then (bel1 _ _) hb1⟩
set_option maxHeartbeats 8000000 in
set_option maxRecDepth 100000 in
theorem splits_yes (w : World) (v : Value) (n : Nd) (h : NdS w v n) (hf : Fit n) (ht : (form n).length ≤ 140737488340000) (hw : few n = true)
    (c23 : ∀ u, Below w.heap.size w u → Calls Try.prog 23 #[v] u fun e w' => ∃ va vk vb, e = .returned (.tuple #[va, vk, vb]) ∧ NdS w' va (spl n).1 ∧ Bs w' vk (spl n).2.1 ∧ NdS w' vb (spl n).2.2 ∧ Below u.heap.size u w') :
    Calls Try.prog 5 #[v] w fun e w' => e = .returned (.bool true) ∧ Below w.heap.size w w' := by
  have c21 := fun (u : World) (hu : Below w.heap.size w u) => few21 u v n (h.on hu)
  have c22 := fun (u : World) (hu : Below w.heap.size w u) => split22 u v n (h.on hu) hf (by omega)
  rw [hw] at c21
  obtain ⟨A, hA⟩ : ∃ x : Nd, (spl n).1 = x := ⟨_, rfl⟩
  obtain ⟨B, hB⟩ : ∃ x : Nd, (spl n).2.2 = x := ⟨_, rfl⟩
  obtain ⟨K, hK⟩ : ∃ x : List UInt8, (spl n).2.1 = x := ⟨_, rfl⟩
  rw [hA, hB, hK] at c22 c23
  obtain ⟨p1, c1, p2, c2, p3, c3, rfl⟩ := h.hdr
  generalize n.leaf = lf at *
  generalize n.cells.length = N at *
  generalize n.keys.length = M at *
  generalize n.kids.length = P at *
  have C21 := Lib.hid c21
  have C22 := Lib.hid c22
  have C23 := Lib.hid c23
  clear c21 c22 c23 h hf ht hw hA hB hK
  have tk : True := trivial
  go_enter Try.func5, Try.ntmps5
  go_wp2_with (fail)
  refine (C21.out _ (bel1 _ _)).mono ?_
  rintro e w1 ⟨rfl, hb1⟩
  have HB1 := Lib.hid (bel_then (bel1 _ _) hb1)
  have HA1 := Lib.hid (blk_on hb1 (World.alloc_heap_new w _))
  obtain ⟨a0, a1, a2, a3⟩ := four_of HA1.out
  clear hb1
  go_wp2_with (fail)
  refine (C22.out _ HB1.out).mono ?_
  rintro e w2 ⟨va, vk, vb, rfl, hna, hnk, hnb, hb2⟩
  obtain ⟨r1, f1, r2, f2, r3, f3, rfl⟩ := hna.hdr
  obtain ⟨s1, g1, s2, g2, s3, g3, rfl⟩ := hnb.hdr
  obtain ⟨kp, kc, rfl, -, -⟩ := hnk.bs.slice
  obtain ⟨w3, hw3⟩ : ∃ u, u = (w2.alloc (Obj.cells #[.bool A.leaf, .slice r1 A.cells.length f1, .slice r2 A.keys.length f2, .slice r3 A.kids.length f3] 26)).alloc (Obj.cells #[.bool B.leaf, .slice s1 B.cells.length g1, .slice s2 B.keys.length g2, .slice s3 B.kids.length g3] 26) := ⟨_, rfl⟩
  have hb3 : Below w2.heap.size w2 w3 := by rw [hw3]; exact bel_then (bel1 _ _) (bel1 _ _)
  have H3 : Hid (w3.heap[w2.heap.size]? = some (Obj.cells #[.bool A.leaf, .slice r1 A.cells.length f1, .slice r2 A.keys.length f2, .slice r3 A.kids.length f3] 26)) := by rw [hw3]; exact blk_on (bel1 _ _) (World.alloc_heap_new w2 _)
  have H5 : Hid (w3.heap[w2.heap.size + 1]? = some (Obj.cells #[.bool B.leaf, .slice s1 B.cells.length g1, .slice s2 B.keys.length g2, .slice s3 B.kids.length g3] 26)) := by rw [hw3]; exact new2 w2 _ _
  have HB3 := Lib.hid (bel_then (bel_then HB1.out hb2) hb3)
  have HA3 := Lib.hid (blk_on hb3 (blk_on hb2 HA1.out))
  have HNA := Lib.hid (hna.s.on hb3)
  have HNB := Lib.hid (hnb.s.on hb3)
  have HNK := Lib.hid (hnk.bs.on hb3)
  have HW3 := Lib.hid hw3
  have hAl : w.heap.size < w2.heap.size := by have := (Array.getElem?_eq_some_iff.1 HA1.out).1; have := hb2.size; omega
  obtain ⟨q0, q1, q2, q3⟩ := four_of (blk_on hb2 HA1.out)
  clear hna hnk hnb hb2 hb3 hw3
  go_wp2_with (fail)
  rw [← HW3.out]
  refine (C23.out _ HB3.out).mono ?_
  rintro e w4 ⟨va, vk, vb, rfl, hna, hnk, hnb, hb4⟩
  obtain ⟨r1', f1', r2', f2', r3', f3', rfl⟩ := hna.hdr
  obtain ⟨s1', g1', s2', g2', s3', g3', rfl⟩ := hnb.hdr
  obtain ⟨kp', kc', rfl, -, -⟩ := hnk.slice
  obtain ⟨w5, hw5⟩ : ∃ u, u = (w4.alloc (Obj.cells #[.bool A.leaf, .slice r1' A.cells.length f1', .slice r2' A.keys.length f2', .slice r3' A.kids.length f3'] 26)).alloc (Obj.cells #[.bool B.leaf, .slice s1' B.cells.length g1', .slice s2' B.keys.length g2', .slice s3' B.kids.length g3'] 26) := ⟨_, rfl⟩
  have hb5 : Below w4.heap.size w4 w5 := by rw [hw5]; exact bel_then (bel1 _ _) (bel1 _ _)
  have H6 : Hid (w5.heap[w4.heap.size]? = some (Obj.cells #[.bool A.leaf, .slice r1' A.cells.length f1', .slice r2' A.keys.length f2', .slice r3' A.kids.length f3'] 26)) := by rw [hw5]; exact blk_on (bel1 _ _) (World.alloc_heap_new w4 _)
  have H8 : Hid (w5.heap[w4.heap.size + 1]? = some (Obj.cells #[.bool B.leaf, .slice s1' B.cells.length g1', .slice s2' B.keys.length g2', .slice s3' B.kids.length g3'] 26)) := by rw [hw5]; exact new2 w4 _ _
  have hb45 := bel_then hb4 hb5
  have HB5 := Lib.hid (bel_then HB3.out hb45)
  have X3 := Lib.hid (blk_on hb45 H3.out)
  have X5 := Lib.hid (blk_on hb45 H5.out)
  have HMA := Lib.hid (hna.on hb5)
  have HMB := Lib.hid (hnb.on hb5)
  have HMK := Lib.hid (hnk.on hb5)
  have HNA' := Lib.hid (HNA.out.on hb45)
  have HNB' := Lib.hid (HNB.out.on hb45)
  have HNK' := Lib.hid (HNK.out.on hb45)
  have HW5 := Lib.hid hw5
  clear hna hnk hnb hb4 hb5 hb45 hw5 q0 q1 q2 q3 a0 a1 a2 a3
  go_wp2_with (fail)
  rw [← HW5.out]
  refine (begun12 w5).mono ?_
  rintro e w6 ⟨rfl, hb6⟩
  have HB6 := Lib.hid hb6
  obtain ⟨m0, m1, m2, m3⟩ := four_of (blk_on hb6 X3.out)
  obtain ⟨n0, n1, n2, n3⟩ := four_of (blk_on hb6 H6.out)
  clear hb6
  go_wp2_with (fail)
  refine (same20 _ _ _ A (HNA'.out.on HB6.out) (HMA.out.on HB6.out)).mono ?_
  rintro e w7 ⟨rfl, hb7⟩
  have HB7 := Lib.hid (bel_then HB6.out hb7)
  obtain ⟨m0, m1, m2, m3⟩ := four_of (blk_on HB7.out X5.out)
  obtain ⟨n0, n1, n2, n3⟩ := four_of (blk_on HB7.out H8.out)
  clear hb7
  go_wp2_with (fail)
  refine (equal_same3 _ _ _ K (HNK'.out.on HB7.out) (HMK.out.on HB7.out)).mono ?_
  rintro e w8 ⟨rfl, ew⟩
  subst ew
  go_wp2_with (fail)
  refine (same20 _ _ _ B (HNB'.out.on HB7.out) (HMB.out.on HB7.out)).mono ?_
  rintro e w9 ⟨rfl, hb9⟩
  go_wp2
  go_ret
  exact ⟨rfl, bel_then (bel_then HB5.out HB7.out) hb9⟩
theorem rsplit23 (w : World) (v : Value) (n : Nd) (h : NdS w v n) (hf : Fit n) (ht : (form n).length ≤ 140737488340000) :
    Calls Try.prog 23 #[v] w fun e w' => ∃ va vk vb, e = .returned (.tuple #[va, vk, vb]) ∧ NdS w' va (spl n).1 ∧ Bs w' vk (spl n).2.1 ∧ NdS w' vb (spl n).2.2 ∧ Below w.heap.size w w' := by
  cases hL : n.leaf with
  | true =>
    by_cases h2 : 1 < n.cells.length
    · exact rsplit_leaf w v n h hf ht hL (.inl ⟨hL, h2⟩)
    · exact rsplit_no0 w v n h hf hL h2 hf.1 (fun h => h.elim (fun e => h2 e.2) (fun e => by rw [hL] at e; exact absurd e.1 (by decide)))
  | false =>
    by_cases h1 : 0 < n.keys.length
    · by_cases h2 : n.keys.length < n.kids.length
      · exact rsplit_inner w v n h hf ht hL (.inr ⟨hL, h1, h2⟩)
      · exact rsplit_no2 w v n h hf hL h1 h2 (fun h => h.elim (fun e => by rw [hL] at e; exact absurd e.1 (by decide)) (fun e => h2 e.2.2))
    · exact rsplit_no1 w v n h hf hL h1 (fun h => h.elim (fun e => by rw [hL] at e; exact absurd e.1 (by decide)) (fun e => h1 e.2.1))
theorem splits5 (w : World) (v : Value) (n : Nd) (h : NdS w v n) (hf : Fit n) (hm : massN n ≤ 1048576) :
    Calls Try.prog 5 #[v] w fun e w' => e = .returned (.bool true) ∧ Below w.heap.size w w' := by
  have ht : (form n).length ≤ 140737488340000 := by have := form_mass n; omega
  cases hw : few n with
  | false => exact splits_no w v n h hw
  | true => exact splits_yes w v n h hf ht hw fun u hu => rsplit23 u v n (h.on hu) hf ht
end Go.Proofs.Ytbkpgppaahpalaa
