/-
  A node is read as it was; what is read has those bytes: NodeBack's walk.
-/
import Derived.Test.YtbkpgppaahpalaaPar
import Derived.Test.YtbkpgppaahpalaaSam
import Derived.Lib.QuietBelow
namespace Go.Proofs.Ytbkpgppaahpalaa
open Go.RowKit
set_option linter.unusedVariables false      -- a walk need not use every condition

theorem flat_bound {α : Type} (f : α → List UInt8) (B : Nat) : ∀ (L : List α), (∀ a ∈ L, (f a).length ≤ B) → (L.flatMap f).length ≤ L.length * B
  | [], _ => by simp
  | a :: L, h => by
    have h1 := h a (by simp)
    have h2 := flat_bound f B L fun b hb => h b (by simp [hb])
    simp only [List.flatMap_cons, List.length_append, List.length_cons, Nat.succ_mul]
    omega
theorem keyF_len (k : List UInt8) : (keyF k).length ≤ 10 + k.length := by
  unfold keyF
  have := vnt_le k.length
  simp only [List.length_append]
  omega
theorem form_le {n : Nd} (hm : may n = true) (hf : Fit n) : (form n).length ≤ 4611686018427387904 := by
  obtain ⟨f1, f2, f3, -, -⟩ := hf
  unfold may at hm
  unfold form
  cases hl : n.leaf with
  | true =>
    rw [hl, if_pos rfl] at hm
    rw [if_pos rfl]
    unfold leafOk at hm
    simp only [Bool.and_eq_true] at hm
    have h1 := flat_bound cellF 200 n.cells fun c hc => by
      obtain ⟨h1, h2⟩ := mayC_mem hm.2 c hc
      unfold cellF valF
      unfold valOk at h2
      have k1 := keyF_len c.key
      have k2 := keyF_len c.val
      have k3 := nI_le c.len
      have k4 := nI_le c.over
      split
      · rename_i ho
        rw [if_pos ho] at h2
        simp only [Bool.and_eq_true, decide_eq_true_eq] at h2
        simp only [List.length_append, List.length_cons]
        omega
      · simp only [List.length_append, List.length_cons]
        omega
    have h2 := vnt_le n.cells.length
    simp only [List.length_cons, List.length_append]
    omega
  | false =>
    rw [hl, if_neg (by decide)] at hm
    rw [if_neg (by decide)]
    unfold innerOk at hm
    simp only [Bool.and_eq_true] at hm
    have h1 := flat_bound keyF 200 n.keys fun c hc => by
      have h1 := mayK_mem hm.1.2 c hc
      have := keyF_len c
      omega
    have h3 := flat_bound nI 10 n.kids fun c _ => nI_le c
    have h2 := vnt_le n.keys.length
    simp only [List.length_cons, List.length_append]
    omega
theorem beq_refl_bytes (t : List UInt8) : (t == t) = true := by simp
theorem equal_self (w : World) (a b : Value) (t : List UInt8) (ha : Bs w a t) (hb : Bs w b t) : Calls Try.prog 17 #[a, b] w fun e w' => e = .returned (.bool true) ∧ w' = w := by
  have := equal17 w a b t t ha hb
  rwa [beq_refl_bytes] at this
set_option maxHeartbeats 4000000 in
set_option maxRecDepth 100000 in
theorem back7_00 (w : World) (v b : Value) (n : Nd) (t : List UInt8) (h : NdS w v n) (hb : Bs w b t) (hf : Fit n) (h1 : ¬ (may n = true ∧ (form n).length ≤ 448)) (h2 : okP t = false) :
    Calls Try.prog 7 #[v, b] w fun e w' => e = .returned (.bool true) ∧ Below w.heap.size w w' := by
      have HT := Lib.hid hb
      have HN := Lib.hid h
      have HF := Lib.hid hf
      obtain ⟨vc, vk, vi, rfl, hC, hK, hI⟩ := h
      obtain ⟨pc, cc, rfl, -, lc⟩ := hC.hdr
      obtain ⟨pk, ck, rfl, -, lk⟩ := hK.hdr
      obtain ⟨pi, ci, rfl, -, li⟩ := hI.hdr
      obtain ⟨bp, bc, rfl, -⟩ := hb.slice
      clear hC hK hI hb
      have c12 := begun12 (w.alloc (Obj.cells #[.bool n.leaf, .slice pc n.cells.length cc, .slice pk n.keys.length ck, .slice pi n.kids.length ci] 26))
      have c10 := fun (u : World) (hx : NdS u (.agg #[.bool n.leaf, .slice pc n.cells.length cc, .slice pk n.keys.length ck, .slice pi n.kids.length ci]) n) => bytes10 u _ n hx (fun hm => form_le hm HF.out)
      have d18 := fun (u : World) (hx : Bs u (.slice bp t.length bc) t) => parse18 u _ t hx
      rw [h2] at d18
      have e1 : bytesE n ≠ 0 := by
        unfold bytesE
        by_cases hm : may n = true
        · rw [if_pos hm, if_neg (fun hh => h1 ⟨hm, hh⟩)]; decide
        · rw [if_neg hm]; decide
      generalize bytesE n = E at *
      generalize bytesB n = F at *
      clear h1
      have e4 : chkE false = 80 := rfl
      rw [e4] at d18
      generalize parN t = m at *
      clear e4 h2
      have tk : True := trivial
      go_enter Try.func7, Try.ntmps7
      go_wp2_with (first
        | (go_at_call 12; refine c12.mono ?_; rintro e w1 ⟨rfl, hb1⟩
           have HX := Lib.hid (blk_on hb1 (World.alloc_heap_new w (Obj.cells #[.bool n.leaf, .slice pc n.cells.length cc, .slice pk n.keys.length ck, .slice pi n.kids.length ci] 26))); obtain ⟨x0, x1, x2, x3⟩ := four_of HX.out
           have HB1 := Lib.hid (bel_then (bel1 w (Obj.cells #[.bool n.leaf, .slice pc n.cells.length cc, .slice pk n.keys.length ck, .slice pi n.kids.length ci] 26)) hb1)
           clear hb1)
        | (go_at_call 10; refine (c10 w1 (HN.out.on HB1.out)).mono ?_; rintro e w2 ⟨v2, rfl, hs2, hb2⟩
           have HS2 := Lib.hid hs2; obtain ⟨p2, d2, rfl, -⟩ := hs2.bs
           have HB2 := Lib.hid (bel_then HB1.out hb2)
           have HX2 := Lib.hid (blk_on hb2 HX.out)
           clear hs2 hb2))
      have HBp := HB2
      go_wp2_with (first
        | (go_at_call 18; refine (d18 _ (HT.out.on HBp.out)).mono ?_; rintro e w5 ⟨v5, rfl, hn5, hb5⟩
           have HN5 := Lib.hid hn5; obtain ⟨r1, f1, r2, f2, r3, f3, rfl⟩ := hn5.hdr
           have HB5 := Lib.hid (bel_then HBp.out hb5)
           clear hn5 hb5))
      go_ret
      exact ⟨rfl, bel_then HB5.out (bel1 w5 _)⟩
set_option maxHeartbeats 4000000 in
set_option maxRecDepth 100000 in
theorem back7_01 (w : World) (v b : Value) (n : Nd) (t : List UInt8) (h : NdS w v n) (hb : Bs w b t) (hf : Fit n) (h1 : ¬ (may n = true ∧ (form n).length ≤ 448)) (h2 : okP t = true) :
    Calls Try.prog 7 #[v, b] w fun e w' => e = .returned (.bool true) ∧ Below w.heap.size w w' := by
      have HT := Lib.hid hb
      have HN := Lib.hid h
      have HF := Lib.hid hf
      obtain ⟨vc, vk, vi, rfl, hC, hK, hI⟩ := h
      obtain ⟨pc, cc, rfl, -, lc⟩ := hC.hdr
      obtain ⟨pk, ck, rfl, -, lk⟩ := hK.hdr
      obtain ⟨pi, ci, rfl, -, li⟩ := hI.hdr
      obtain ⟨bp, bc, rfl, -⟩ := hb.slice
      clear hC hK hI hb
      have c12 := begun12 (w.alloc (Obj.cells #[.bool n.leaf, .slice pc n.cells.length cc, .slice pk n.keys.length ck, .slice pi n.kids.length ci] 26))
      have c10 := fun (u : World) (hx : NdS u (.agg #[.bool n.leaf, .slice pc n.cells.length cc, .slice pk n.keys.length ck, .slice pi n.kids.length ci]) n) => bytes10 u _ n hx (fun hm => form_le hm HF.out)
      have d18 := fun (u : World) (hx : Bs u (.slice bp t.length bc) t) => parse18 u _ t hx
      rw [h2] at d18
      have e1 : bytesE n ≠ 0 := by
        unfold bytesE
        by_cases hm : may n = true
        · rw [if_pos hm, if_neg (fun hh => h1 ⟨hm, hh⟩)]; decide
        · rw [if_neg hm]; decide
      generalize bytesE n = E at *
      generalize bytesB n = F at *
      clear h1
      obtain ⟨k1, k2, k3⟩ := okP_back h2
      have e3 : parN t = (rNode (t, false)).1 := by unfold parN; rw [if_pos h2]
      have e4 : chkE true = 0 := rfl
      rw [e3, e4] at d18
      generalize (rNode (t, false)).1 = m at *
      have d10 := fun (u : World) (x : Value) (hx : NdS u x m) => bytes10 u x m hx (fun _ => by rw [k1]; omega)
      have e1 : bytesE m = 0 := by unfold bytesE; rw [if_pos k2, k1, if_pos k3]
      have e2 : bytesB m = t := by unfold bytesB; rw [if_pos k2, k1, if_pos k3]
      rw [e1, e2] at d10
      clear e1 e2 e3 e4 k1 k2 k3 h2
      have tk : True := trivial
      go_enter Try.func7, Try.ntmps7
      go_wp2_with (first
        | (go_at_call 12; refine c12.mono ?_; rintro e w1 ⟨rfl, hb1⟩
           have HX := Lib.hid (blk_on hb1 (World.alloc_heap_new w (Obj.cells #[.bool n.leaf, .slice pc n.cells.length cc, .slice pk n.keys.length ck, .slice pi n.kids.length ci] 26))); obtain ⟨x0, x1, x2, x3⟩ := four_of HX.out
           have HB1 := Lib.hid (bel_then (bel1 w (Obj.cells #[.bool n.leaf, .slice pc n.cells.length cc, .slice pk n.keys.length ck, .slice pi n.kids.length ci] 26)) hb1)
           clear hb1)
        | (go_at_call 10; refine (c10 w1 (HN.out.on HB1.out)).mono ?_; rintro e w2 ⟨v2, rfl, hs2, hb2⟩
           have HS2 := Lib.hid hs2; obtain ⟨p2, d2, rfl, -⟩ := hs2.bs
           have HB2 := Lib.hid (bel_then HB1.out hb2)
           have HX2 := Lib.hid (blk_on hb2 HX.out)
           clear hs2 hb2))
      have HBp := HB2
      go_wp2_with (first
        | (go_at_call 18; refine (d18 _ (HT.out.on HBp.out)).mono ?_; rintro e w5 ⟨v5, rfl, hn5, hb5⟩
           have HN5 := Lib.hid hn5; obtain ⟨r1, f1, r2, f2, r3, f3, rfl⟩ := hn5.hdr
           have HB5 := Lib.hid (bel_then HBp.out hb5)
           clear hn5 hb5)
        | (go_at_call 10; refine (d10 _ _ (HN5.out.s.on (bel1 w5 _))).mono ?_; rintro e w6 ⟨v6, rfl, hs6, hb6⟩
           have HS6 := Lib.hid hs6; obtain ⟨p6, d6, rfl, -⟩ := hs6.bs
           have HB6 := Lib.hid (bel_then (bel_then HB5.out (bel1 w5 _)) hb6)
           clear hs6 hb6)
        | (go_at_call 17; refine (equal_self _ _ _ t HS6.out.bs (HT.out.on HB6.out)).mono ?_; rintro e w7 ⟨rfl, rfl⟩))
      go_ret
      exact ⟨rfl, HB6.out⟩
set_option maxHeartbeats 4000000 in
set_option maxRecDepth 100000 in
theorem back7_10 (w : World) (v b : Value) (n : Nd) (t : List UInt8) (h : NdS w v n) (hb : Bs w b t) (hf : Fit n) (h1 : may n = true ∧ (form n).length ≤ 448) (h2 : okP t = false) :
    Calls Try.prog 7 #[v, b] w fun e w' => e = .returned (.bool true) ∧ Below w.heap.size w w' := by
      have HT := Lib.hid hb
      have HN := Lib.hid h
      have HF := Lib.hid hf
      obtain ⟨vc, vk, vi, rfl, hC, hK, hI⟩ := h
      obtain ⟨pc, cc, rfl, -, lc⟩ := hC.hdr
      obtain ⟨pk, ck, rfl, -, lk⟩ := hK.hdr
      obtain ⟨pi, ci, rfl, -, li⟩ := hI.hdr
      obtain ⟨bp, bc, rfl, -⟩ := hb.slice
      clear hC hK hI hb
      have c12 := begun12 (w.alloc (Obj.cells #[.bool n.leaf, .slice pc n.cells.length cc, .slice pk n.keys.length ck, .slice pi n.kids.length ci] 26))
      have c10 := fun (u : World) (hx : NdS u (.agg #[.bool n.leaf, .slice pc n.cells.length cc, .slice pk n.keys.length ck, .slice pi n.kids.length ci]) n) => bytes10 u _ n hx (fun hm => form_le hm HF.out)
      have d18 := fun (u : World) (hx : Bs u (.slice bp t.length bc) t) => parse18 u _ t hx
      rw [h2] at d18
      obtain ⟨k1, k2⟩ := okP_there h1.1 h1.2
      have c18 := fun (u : World) (x : Value) (hx : Bs u x (form n)) => parse18 u x (form n) hx
      have e1 : bytesE n = 0 := by unfold bytesE; rw [if_pos h1.1, if_pos h1.2]
      have e2 : bytesB n = form n := by unfold bytesB; rw [if_pos h1.1, if_pos h1.2]
      have e3 : parN (form n) = n := by unfold parN; rw [if_pos k1]; exact k2
      have e4 : chkE true = 0 := rfl
      rw [e1, e2] at c10
      rw [k1, e3, e4] at c18
      have c15 := fun (u : World) (x : Value) (hx : NdS u x n) => size15 u x n hx (by have := h1.2; omega)
      have c20 := fun (u : World) (x y : Value) (hx : NdS u x n) (hy : NdS u y n) => same20 u x y n hx hy
      clear e1 e2 e3 e4 k1 k2 h1
      generalize form n = F at *
      have e4 : chkE false = 80 := rfl
      rw [e4] at d18
      generalize parN t = m at *
      clear e4 h2
      have tk : True := trivial
      go_enter Try.func7, Try.ntmps7
      go_wp2_with (first
        | (go_at_call 12; refine c12.mono ?_; rintro e w1 ⟨rfl, hb1⟩
           have HX := Lib.hid (blk_on hb1 (World.alloc_heap_new w (Obj.cells #[.bool n.leaf, .slice pc n.cells.length cc, .slice pk n.keys.length ck, .slice pi n.kids.length ci] 26))); obtain ⟨x0, x1, x2, x3⟩ := four_of HX.out
           have HB1 := Lib.hid (bel_then (bel1 w (Obj.cells #[.bool n.leaf, .slice pc n.cells.length cc, .slice pk n.keys.length ck, .slice pi n.kids.length ci] 26)) hb1)
           clear hb1)
        | (go_at_call 10; refine (c10 w1 (HN.out.on HB1.out)).mono ?_; rintro e w2 ⟨v2, rfl, hs2, hb2⟩
           have HS2 := Lib.hid hs2; obtain ⟨p2, d2, rfl, -⟩ := hs2.bs
           have HB2 := Lib.hid (bel_then HB1.out hb2)
           have HX2 := Lib.hid (blk_on hb2 HX.out)
           clear hs2 hb2)
        | (go_at_call 18; clear tk; refine (c18 w2 _ HS2.out.bs).mono ?_; rintro e w3 ⟨v3, rfl, hn3, hb3⟩
           have HN3 := Lib.hid hn3; obtain ⟨q1, d1, q2, dd2, q3, d3, rfl⟩ := hn3.hdr
           have HB3 := Lib.hid (bel_then HB2.out hb3)
           have HX3 := Lib.hid (blk_on hb3 HX2.out)
           have hlt3 : w.heap.size < w3.heap.size := (Array.getElem?_eq_some_iff.1 HX3.out).1
           obtain ⟨u0, u1, u2, u3⟩ := four_of HX3.out
           clear hn3 hb3)
        | (go_at_call 20; refine (c20 _ _ _ (HN3.out.s.on (bel1 w3 (.cells #[.bool n.leaf, .slice q1 n.cells.length d1, .slice q2 n.keys.length dd2, .slice q3 n.kids.length d3] 26))) (HN.out.on (bel_then HB3.out (bel1 w3 (.cells #[.bool n.leaf, .slice q1 n.cells.length d1, .slice q2 n.keys.length dd2, .slice q3 n.kids.length d3] 26))))).mono ?_; rintro e w4 ⟨rfl, hb4⟩
           have HB4 := Lib.hid (bel_then (bel_then HB3.out (bel1 w3 (.cells #[.bool n.leaf, .slice q1 n.cells.length d1, .slice q2 n.keys.length dd2, .slice q3 n.kids.length d3] 26))) hb4)
           have HX4 := Lib.hid (blk_on hb4 (blk_on (bel1 w3 (.cells #[.bool n.leaf, .slice q1 n.cells.length d1, .slice q2 n.keys.length dd2, .slice q3 n.kids.length d3] 26)) HX3.out)); obtain ⟨y0, y1, y2, y3⟩ := four_of HX4.out
           clear hb4)
        | (go_at_call 15; refine (c15 w4 _ (HN.out.on HB4.out)).mono ?_; rintro e w5' ⟨rfl, hb5'⟩
           have HB5' := Lib.hid (bel_then HB4.out hb5')
           clear hb5'))
      have HBp := HB5'
      go_wp2_with (first
        | (go_at_call 18; refine (d18 _ (HT.out.on HBp.out)).mono ?_; rintro e w5 ⟨v5, rfl, hn5, hb5⟩
           have HN5 := Lib.hid hn5; obtain ⟨r1, f1, r2, f2, r3, f3, rfl⟩ := hn5.hdr
           have HB5 := Lib.hid (bel_then HBp.out hb5)
           clear hn5 hb5))
      go_ret
      exact ⟨rfl, bel_then HB5.out (bel1 w5 _)⟩
set_option maxHeartbeats 4000000 in
set_option maxRecDepth 100000 in
theorem back7_11 (w : World) (v b : Value) (n : Nd) (t : List UInt8) (h : NdS w v n) (hb : Bs w b t) (hf : Fit n) (h1 : may n = true ∧ (form n).length ≤ 448) (h2 : okP t = true) :
    Calls Try.prog 7 #[v, b] w fun e w' => e = .returned (.bool true) ∧ Below w.heap.size w w' := by
      have HT := Lib.hid hb
      have HN := Lib.hid h
      have HF := Lib.hid hf
      obtain ⟨vc, vk, vi, rfl, hC, hK, hI⟩ := h
      obtain ⟨pc, cc, rfl, -, lc⟩ := hC.hdr
      obtain ⟨pk, ck, rfl, -, lk⟩ := hK.hdr
      obtain ⟨pi, ci, rfl, -, li⟩ := hI.hdr
      obtain ⟨bp, bc, rfl, -⟩ := hb.slice
      clear hC hK hI hb
      have c12 := begun12 (w.alloc (Obj.cells #[.bool n.leaf, .slice pc n.cells.length cc, .slice pk n.keys.length ck, .slice pi n.kids.length ci] 26))
      have c10 := fun (u : World) (hx : NdS u (.agg #[.bool n.leaf, .slice pc n.cells.length cc, .slice pk n.keys.length ck, .slice pi n.kids.length ci]) n) => bytes10 u _ n hx (fun hm => form_le hm HF.out)
      have d18 := fun (u : World) (hx : Bs u (.slice bp t.length bc) t) => parse18 u _ t hx
      rw [h2] at d18
      obtain ⟨k1, k2⟩ := okP_there h1.1 h1.2
      have c18 := fun (u : World) (x : Value) (hx : Bs u x (form n)) => parse18 u x (form n) hx
      have e1 : bytesE n = 0 := by unfold bytesE; rw [if_pos h1.1, if_pos h1.2]
      have e2 : bytesB n = form n := by unfold bytesB; rw [if_pos h1.1, if_pos h1.2]
      have e3 : parN (form n) = n := by unfold parN; rw [if_pos k1]; exact k2
      have e4 : chkE true = 0 := rfl
      rw [e1, e2] at c10
      rw [k1, e3, e4] at c18
      have c15 := fun (u : World) (x : Value) (hx : NdS u x n) => size15 u x n hx (by have := h1.2; omega)
      have c20 := fun (u : World) (x y : Value) (hx : NdS u x n) (hy : NdS u y n) => same20 u x y n hx hy
      clear e1 e2 e3 e4 k1 k2 h1
      generalize form n = F at *
      obtain ⟨k1, k2, k3⟩ := okP_back h2
      have e3 : parN t = (rNode (t, false)).1 := by unfold parN; rw [if_pos h2]
      have e4 : chkE true = 0 := rfl
      rw [e3, e4] at d18
      generalize (rNode (t, false)).1 = m at *
      have d10 := fun (u : World) (x : Value) (hx : NdS u x m) => bytes10 u x m hx (fun _ => by rw [k1]; omega)
      have e1 : bytesE m = 0 := by unfold bytesE; rw [if_pos k2, k1, if_pos k3]
      have e2 : bytesB m = t := by unfold bytesB; rw [if_pos k2, k1, if_pos k3]
      rw [e1, e2] at d10
      clear e1 e2 e3 e4 k1 k2 k3 h2
      have tk : True := trivial
      go_enter Try.func7, Try.ntmps7
      go_wp2_with (first
        | (go_at_call 12; refine c12.mono ?_; rintro e w1 ⟨rfl, hb1⟩
           have HX := Lib.hid (blk_on hb1 (World.alloc_heap_new w (Obj.cells #[.bool n.leaf, .slice pc n.cells.length cc, .slice pk n.keys.length ck, .slice pi n.kids.length ci] 26))); obtain ⟨x0, x1, x2, x3⟩ := four_of HX.out
           have HB1 := Lib.hid (bel_then (bel1 w (Obj.cells #[.bool n.leaf, .slice pc n.cells.length cc, .slice pk n.keys.length ck, .slice pi n.kids.length ci] 26)) hb1)
           clear hb1)
        | (go_at_call 10; refine (c10 w1 (HN.out.on HB1.out)).mono ?_; rintro e w2 ⟨v2, rfl, hs2, hb2⟩
           have HS2 := Lib.hid hs2; obtain ⟨p2, d2, rfl, -⟩ := hs2.bs
           have HB2 := Lib.hid (bel_then HB1.out hb2)
           have HX2 := Lib.hid (blk_on hb2 HX.out)
           clear hs2 hb2)
        | (go_at_call 18; clear tk; refine (c18 w2 _ HS2.out.bs).mono ?_; rintro e w3 ⟨v3, rfl, hn3, hb3⟩
           have HN3 := Lib.hid hn3; obtain ⟨q1, d1, q2, dd2, q3, d3, rfl⟩ := hn3.hdr
           have HB3 := Lib.hid (bel_then HB2.out hb3)
           have HX3 := Lib.hid (blk_on hb3 HX2.out)
           have hlt3 : w.heap.size < w3.heap.size := (Array.getElem?_eq_some_iff.1 HX3.out).1
           obtain ⟨u0, u1, u2, u3⟩ := four_of HX3.out
           clear hn3 hb3)
        | (go_at_call 20; refine (c20 _ _ _ (HN3.out.s.on (bel1 w3 (.cells #[.bool n.leaf, .slice q1 n.cells.length d1, .slice q2 n.keys.length dd2, .slice q3 n.kids.length d3] 26))) (HN.out.on (bel_then HB3.out (bel1 w3 (.cells #[.bool n.leaf, .slice q1 n.cells.length d1, .slice q2 n.keys.length dd2, .slice q3 n.kids.length d3] 26))))).mono ?_; rintro e w4 ⟨rfl, hb4⟩
           have HB4 := Lib.hid (bel_then (bel_then HB3.out (bel1 w3 (.cells #[.bool n.leaf, .slice q1 n.cells.length d1, .slice q2 n.keys.length dd2, .slice q3 n.kids.length d3] 26))) hb4)
           have HX4 := Lib.hid (blk_on hb4 (blk_on (bel1 w3 (.cells #[.bool n.leaf, .slice q1 n.cells.length d1, .slice q2 n.keys.length dd2, .slice q3 n.kids.length d3] 26)) HX3.out)); obtain ⟨y0, y1, y2, y3⟩ := four_of HX4.out
           clear hb4)
        | (go_at_call 15; refine (c15 w4 _ (HN.out.on HB4.out)).mono ?_; rintro e w5' ⟨rfl, hb5'⟩
           have HB5' := Lib.hid (bel_then HB4.out hb5')
           clear hb5'))
      have HBp := HB5'
      go_wp2_with (first
        | (go_at_call 18; refine (d18 _ (HT.out.on HBp.out)).mono ?_; rintro e w5 ⟨v5, rfl, hn5, hb5⟩
           have HN5 := Lib.hid hn5; obtain ⟨r1, f1, r2, f2, r3, f3, rfl⟩ := hn5.hdr
           have HB5 := Lib.hid (bel_then HBp.out hb5)
           clear hn5 hb5)
        | (go_at_call 10; refine (d10 _ _ (HN5.out.s.on (bel1 w5 _))).mono ?_; rintro e w6 ⟨v6, rfl, hs6, hb6⟩
           have HS6 := Lib.hid hs6; obtain ⟨p6, d6, rfl, -⟩ := hs6.bs
           have HB6 := Lib.hid (bel_then (bel_then HB5.out (bel1 w5 _)) hb6)
           clear hs6 hb6)
        | (go_at_call 17; refine (equal_self _ _ _ t HS6.out.bs (HT.out.on HB6.out)).mono ?_; rintro e w7 ⟨rfl, rfl⟩))
      go_ret
      exact ⟨rfl, HB6.out⟩
theorem back7 (w : World) (v b : Value) (n : Nd) (t : List UInt8) (h : NdS w v n) (hb : Bs w b t) (hf : Fit n) :
    Calls Try.prog 7 #[v, b] w fun e w' => e = .returned (.bool true) ∧ Below w.heap.size w w' := by
  by_cases h1 : may n = true ∧ (form n).length ≤ 448
  · cases h2 : okP t with
    | true => exact back7_11 w v b n t h hb hf h1 h2
    | false => exact back7_10 w v b n t h hb hf h1 h2
  · cases h2 : okP t with
    | true => exact back7_01 w v b n t h hb hf h1 h2
    | false => exact back7_00 w v b n t h hb hf h1 h2
end Go.Proofs.Ytbkpgppaahpalaa
