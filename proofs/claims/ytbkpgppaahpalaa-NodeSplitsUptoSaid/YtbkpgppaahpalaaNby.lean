/-
  The document's Size and Bytes; which nodes may be, how long they are, and their bytes: NodeBytes' walk.
-/
import Derived.Test.YtbkpgppaahpalaaFrn
import Derived.Test.YtbkpgppaahpalaaBck
namespace Go.Proofs.Ytbkpgppaahpalaa
open Go.RowKit Go.Sort
set_option linter.unusedVariables false      -- a walk need not use every condition

theorem sum_le {α : Type} (f : α → List UInt8) (mass : α → Nat) (B : Nat) : ∀ (L : List α), (∀ a ∈ L, (f a).length ≤ B * mass a) → (L.flatMap f).length ≤ B * sumOf mass L
  | [], _ => by simp
  | a :: L, h => by
    have h1 := h a (by simp)
    have h2 := sum_le f mass B L fun b hb => h b (by simp [hb])
    simp only [List.flatMap_cons, List.length_append, sumOf, Nat.mul_add]
    omega
theorem form_mass (n : Nd) : (form n).length ≤ 11 + 40 * massN n := by
  unfold form massN
  have v1 := vnt_le n.cells.length
  have v2 := vnt_le n.keys.length
  have h1 := sum_le cellF massC 40 n.cells fun c _ => by
    unfold cellF valF massC
    have k1 := keyF_len c.key
    have k2 := keyF_len c.val
    have k3 := nI_le c.len
    have k4 := nI_le c.over
    split <;> (simp only [List.length_append, List.length_cons]; omega)
  have h2 := sum_le keyF (fun k : List UInt8 => k.length + 1) 40 n.keys fun c _ => by
    have := keyF_len c
    omega
  have h3 := sum_le nI (fun _ : Int => 1) 40 n.kids fun c _ => by
    have := nI_le c
    omega
  split
  · simp only [List.length_cons, List.length_append]; omega
  · simp only [List.length_cons, List.length_append]; omega
set_option maxHeartbeats 1000000 in
theorem rsize16 (w : World) (v : Value) (n : Nd) (h : NdS w v n) (ht : (form n).length ≤ 140737488350000) :
    Calls Try.prog 16 #[v] w fun e w' => e = .returned (.int .i64 ((form n).length : Int)) ∧ Below w.heap.size w w' := by
  have c38 := fun u hu => form38 u v n (h.on hu) ht
  obtain ⟨vc, vk, vi, rfl, hC, hK, hI⟩ := h
  obtain ⟨pc, cc, rfl, -, lc⟩ := hC.hdr
  obtain ⟨pk, ck, rfl, -, lk⟩ := hK.hdr
  obtain ⟨pi, ci, rfl, -, li⟩ := hI.hdr
  clear hC hK hI ht
  generalize form n = F at *
  go_enter Try.func16, Try.ntmps16
  go_wp2_with (go_at_call 38; refine (c38 _ (bel1 _ _)).mono ?_; rintro e w1 ⟨v1, rfl, hb1, hB1⟩; obtain ⟨p1, c1, rfl, -⟩ := hb1.bs)
  go_ret
  exact ⟨rfl, bel_then (bel1 _ _) hB1⟩
set_option maxHeartbeats 4000000 in
theorem rbytes11 (w : World) (v : Value) (n : Nd) (h : NdS w v n) (hf : Fit n) (ht : (form n).length ≤ 140737488350000) :
    Calls Try.prog 11 #[v] w fun e w' => ∃ v', e = .returned (.tuple #[v', .int .i64 (bytesE n)]) ∧ Bts w' w.heap.size v' (bytesB n) ∧ Below w.heap.size w w' := by
  have c14 := fun u hu => check14 u v n (h.on hu) (by have := hf.2.1; omega) (by have := hf.2.2.1; omega)
  have c16 := fun u hu => rsize16 u v n (h.on hu) ht
  have c38 := fun u hu => form38 u v n (h.on hu) ht
  obtain ⟨vc, vk, vi, rfl, hC, hK, hI⟩ := h
  unfold bytesE bytesB
  obtain ⟨pc, cc, rfl, -, lc⟩ := hC.hdr
  obtain ⟨pk, ck, rfl, -, lk⟩ := hK.hdr
  obtain ⟨pi, ci, rfl, -, li⟩ := hI.hdr
  clear hC hK hI
  cases hm : may n with
  | false =>
    rw [hm] at c14
    rw [if_neg (by decide), if_neg (by decide)]
    clear c16 c38 ht hm hf
    have e80 : chkE false = 80 := rfl
    rw [e80] at c14
    go_enter Try.func11, Try.ntmps11
    go_wp2_with (go_at_call 14; refine (c14 _ (bel1 _ _)).mono ?_; rintro e w1 ⟨rfl, hB1⟩)
    go_ret2
    exact ⟨_, rfl, bts_nil _ _, bel_then (bel1 _ _) hB1⟩
  | true =>
    rw [hm] at c14
    have e0 : chkE true = 0 := rfl
    rw [e0] at c14
    rw [if_pos rfl, if_pos rfl]
    clear hm hf
    by_cases hs : (form n).length ≤ 448
    · rw [if_pos hs, if_pos hs]
      have hsz : ¬ (448 : Int) < ((form n).length : Int) := by omega
      generalize form n = F at *
      clear hs ht
      go_enter Try.func11, Try.ntmps11
      go_wp2_with (first
          | (go_at_call 14; refine (c14 _ (bel1 _ _)).mono ?_; rintro e w1 ⟨rfl, hB1⟩; obtain ⟨q0, q1, q2, q3⟩ := four_of (blk_on hB1 (World.alloc_heap_new w _)); have hb1 := bel_then (bel1 w _) hB1)
          | (go_at_call 16; refine (c16 _ hb1).mono ?_; rintro e w2 ⟨rfl, hB2⟩; obtain ⟨p0, p1, p2, p3⟩ := four_of (blk_on hB2 (blk_on hB1 (World.alloc_heap_new w _))); have hb2 := bel_then hb1 hB2)
          | (go_at_call 38; refine (c38 _ hb2).mono ?_; rintro e w3 ⟨v3, rfl, hb3, hB3⟩))
      go_ret2
      exact ⟨_, rfl, hb3.mono hb2.size, bel_then hb2 hB3⟩
    · rw [if_neg hs, if_neg hs]
      have hsz : (448 : Int) < ((form n).length : Int) := by omega
      generalize form n = F at *
      clear hs ht c38
      go_enter Try.func11, Try.ntmps11
      go_wp2_with (first
          | (go_at_call 14; refine (c14 _ (bel1 _ _)).mono ?_; rintro e w1 ⟨rfl, hB1⟩; obtain ⟨q0, q1, q2, q3⟩ := four_of (blk_on hB1 (World.alloc_heap_new w _)); have hb1 := bel_then (bel1 w _) hB1)
          | (go_at_call 16; refine (c16 _ hb1).mono ?_; rintro e w2 ⟨rfl, hB2⟩; have hb2 := bel_then hb1 hB2))
      go_ret2
      exact ⟨_, rfl, bts_nil _ _, hb2⟩
set_option maxHeartbeats 8000000 in
set_option maxRecDepth 100000 in
theorem nbytes3 (w : World) (v : Value) (n : Nd) (h : NdS w v n) (hf : Fit n) (hm : massN n ≤ 1048576) :
    Calls Try.prog 3 #[v] w fun e w' => e = .returned (.bool true) ∧ Below w.heap.size w w' := by
  have ht : (form n).length ≤ 140737488350000 := by have := form_mass n; omega
  have HN := Lib.hid h
  have c10 := fun (u : World) (hu : Below w.heap.size w u) => bytes10 u v n (HN.out.on hu) (fun _ => by omega)
  have c11 := fun (u : World) (hu : Below w.heap.size w u) => rbytes11 u v n (HN.out.on hu) hf ht
  have c13 := fun (u : World) (hu : Below w.heap.size w u) => check13 u v n (HN.out.on hu)
  have c14 := fun (u : World) (hu : Below w.heap.size w u) => check14 u v n (HN.out.on hu) (by have := hf.2.1; omega) (by have := hf.2.2.1; omega)
  have c15 := fun (u : World) (hu : Below w.heap.size w u) => size15 u v n (HN.out.on hu) (by omega)
  have c16 := fun (u : World) (hu : Below w.heap.size w u) => rsize16 u v n (HN.out.on hu) ht
  obtain ⟨vc, vk, vi, rfl, hC, hK, hI⟩ := h
  obtain ⟨pc, cc, rfl, -, lc⟩ := hC.hdr
  obtain ⟨pk, ck, rfl, -, lk⟩ := hK.hdr
  obtain ⟨pi, ci, rfl, -, li⟩ := hI.hdr
  clear hC hK hI ht hf hm HN
  generalize bytesE n = E at *
  generalize bytesB n = B at *
  generalize chkE (may n) = CE at *
  generalize (form n).length = FL at *
  go_enter Try.func3, Try.ntmps3
  go_wp2_with (first
    | (go_at_call 10; refine (c10 _ (bel1 _ _)).mono ?_; rintro e w1 ⟨v1, rfl, hs1, hb1⟩
       have HS1 := Lib.hid hs1; obtain ⟨p1, d1, rfl, -⟩ := hs1.bs
       have HB1 := Lib.hid (bel_then (bel1 w _) hb1)
       have HX1 := Lib.hid (blk_on hb1 (World.alloc_heap_new w _)); obtain ⟨x0, x1, x2, x3⟩ := four_of HX1.out
       clear hs1 hb1)
    | (go_at_call 11; refine (c11 _ HB1.out).mono ?_; rintro e w2 ⟨v2, rfl, hs2, hb2⟩
       have HS2 := Lib.hid hs2; obtain ⟨p2, d2, rfl, -⟩ := hs2.bs
       have HB2 := Lib.hid (bel_then HB1.out hb2)
       have HX2 := Lib.hid (blk_on hb2 HX1.out); obtain ⟨y0, y1, y2, y3⟩ := four_of HX2.out
       have HS1' := Lib.hid (HS1.out.on hb2)
       clear hs2 hb2))
  have q12 : ∀ d os, Calls Try.prog 12 #[] (grow (redrawn w2 d) os) fun e w'' => e = .returned (.bool true) ∧ ∃ p : Regrown, w'' = grow (redrawn w2 p.d) p.os := fun d os => Calls.regrown_of (begun12 _)
  have q13 := fun d os => Calls.regrown_of (c13 _ (bel_then HB2.out (below_regrown w2 d os)))
  have q14 := fun d os => Calls.regrown_of (c14 _ (bel_then HB2.out (below_regrown w2 d os)))
  have q15 := fun d os => Calls.regrown_of (c15 _ (bel_then HB2.out (below_regrown w2 d os)))
  have q16 := fun d os => Calls.regrown_of (c16 _ (bel_then HB2.out (below_regrown w2 d os)))
  have q17 : ∀ d os, Calls Try.prog 17 #[.slice p1 B.length d1, .slice p2 B.length d2] (grow (redrawn w2 d) os) fun e w'' => e = .returned (.bool true) ∧ ∃ p : Regrown, w'' = grow (redrawn w2 p.d) p.os := fun d os =>
    Calls.regrown_of ((equal_self _ _ _ B (HS1'.out.bs.on (below_regrown w2 d os)) (HS2.out.bs.on (below_regrown w2 d os))).mono fun e w' ⟨h1, h2⟩ => ⟨h1, by rw [h2]; exact Below.refl _ _⟩)
  have ky0 := cell_regrown y0
  have ky1 := cell_regrown y1
  have ky2 := cell_regrown y2
  have ky3 := cell_regrown y3
  clear c10 c11 c13 c14 c15 c16 HS1 HS2 HS1' HX1 x0 x1 x2 x3
  generalize B.length = BL at *
  refine wp_region_quiet_below mixed (by kernel_rfl) ?_
  repeat (go_big_quiet_step (first | exact q12 _ _ | exact q13 _ _ | exact q14 _ _ | exact q15 _ _ | exact q16 _ _ | exact q17 _ _))
  refine wpQuiet_nil ?_
  intro _ hw'
  obtain ⟨⟨dq, osq⟩, hw''⟩ := hw'
  subst hw''
  have B7 := Lib.hid (below_regrown w2 dq osq)
  generalize grow (redrawn w2 dq) osq = w7 at B7 ⊢
  go_wp2
  go_ret
  exact ⟨rfl, bel_then HB2.out B7.out⟩
end Go.Proofs.Ytbkpgppaahpalaa
