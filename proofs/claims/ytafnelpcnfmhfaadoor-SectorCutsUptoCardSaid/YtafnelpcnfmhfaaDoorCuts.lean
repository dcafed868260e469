/-
  The walk of SectorCuts.
-/
import Derived.Test.YtafnelpcnfmhfaaDoorCt
import Derived.Test.YtafnelpcnfmhfaaDoorEqf
import Derived.Test.YtafnelpcnfmhfaaDoorSame
namespace Go.Proofs.YtafnelpcnfmhfaaDoor
open Go.RowKit
set_option linter.unusedVariables false      -- a walk need not use every condition

set_option maxHeartbeats 4000000 in
set_option maxRecDepth 100000 in
theorem cuts5 (W : World) (v0 v1 : Value) (t : List UInt8) (L : List (List UInt8)) (h0 : Bs W v0 t) (h1 : Bss W v1 L) (ht : t.length ≤ 1048576) (hn : L.length ≤ 1048576) (hl : L.flatten.length ≤ 1048576) (hT : TabOk W) :
    Calls Tryd.prog 5 #[v0, v1] W fun e w' => e = .returned (.bool true) ∧ Below W.heap.size W w' := by
  have H0 := Lib.hid h0
  have H1 := Lib.hid h1
  have HT := Lib.hid hT
  have c27 := callsIn_wide.1 (cut27 W v0 t h0 (by omega))
  have hcl : (cutL t).length ≤ 140737488355328 := by rw [cut_len]; unfold pn; omega
  obtain ⟨p0, k0, rfl, -⟩ := h0
  obtain ⟨p1, k1, rfl, -⟩ := h1
  have c30 : ∀ w' : World, Bss w' (.slice p1 L.length k1) L → _ := fun w' h => join30 w' _ L h (by omega) (by omega)
  have c31 : ∀ w' : World, Bss w' (.slice p1 L.length k1) L → _ := fun w' h => rjoin31 w' _ L h (by omega) (by omega)
  generalize L.flatten = F at c30 c31 hl
  clear hT
  go_enter Tryd.func5, Tryd.ntmps5
  go_wp2_with (first
    | (go_at_call 27; refine c27.mono ?_
       rintro e w1 ⟨vx, rfl, hR1, hb1⟩
       have HX := Lib.hid hR1.bss
       have HB1 := Lib.hid hb1
       obtain ⟨px, kx, rfl, -⟩ := hR1.bss
       clear hR1 hb1 c27)
    | (go_at_call 28; refine (rcut28 _ _ t (H0.out.on HB1.out) (by omega)).mono ?_
       rintro e w2 ⟨vy, rfl, hR2, hb2⟩
       have HY := Lib.hid hR2.bss
       have HX2 := Lib.hid (HX.out.on hb2)
       have HB2 := Lib.hid (bel_then HB1.out hb2)
       obtain ⟨py, ky, rfl, -⟩ := hR2.bss
       clear hR2 hb2)
    | (go_at_call 12; refine (begun12 _ (tab_on HT.out HB2.out)).mono ?_
       rintro e w3 ⟨rfl, hb3⟩
       have HX3 := Lib.hid (HX2.out.on hb3)
       have HY3 := Lib.hid (HY.out.on hb3)
       have HB3 := Lib.hid (bel_then HB2.out hb3)
       clear hb3)
    | (go_at_call 29; refine (eqf29 _ _ _ (cutL t) HX3.out HY3.out hcl).mono ?_
       rintro e w4 ⟨rfl, rfl⟩)
    | (go_at_call 30; refine (join30 _ _ (cutL t) HX3.out hcl (by rw [cut_flat]; omega)).mono ?_
       rintro e w5 ⟨vj, rfl, hj, hb5⟩
       rw [cut_flat] at hj
       have HJ := Lib.hid hj.bs
       have HB5 := Lib.hid (bel_then HB3.out hb5)
       obtain ⟨pj, kj, rfl, -⟩ := hj.bs
       clear hj hb5)
    | (go_at_call 26; refine (equal26 _ _ _ t t HJ.out (H0.out.on HB5.out)).mono ?_
       rintro e w6 ⟨rfl, rfl⟩
       rw [beq_self_eq_true])
    | (go_at_call 30; refine (c30 _ (H1.out.on HB5.out)).mono ?_
       rintro e w7 ⟨vk, rfl, hk, hb7⟩
       have HK := Lib.hid hk.bs
       have HB7 := Lib.hid (bel_then HB5.out hb7)
       obtain ⟨pk, kk, rfl, -⟩ := hk.bs
       clear hk hb7)
    | (go_at_call 31; refine (c31 _ (H1.out.on HB7.out)).mono ?_
       rintro e w8 ⟨vl, rfl, hm, hb8⟩
       have HL := Lib.hid hm.bs
       have HK8 := Lib.hid (HK.out.on hb8)
       have HB8 := Lib.hid (bel_then HB7.out hb8)
       obtain ⟨pm, km, rfl, -⟩ := hm.bs
       clear hm hb8)
    | (go_at_call 26; refine (equal26 _ _ _ F F HK8.out HL.out).mono ?_
       rintro e w9 ⟨rfl, rfl⟩
       rw [beq_self_eq_true]))
  go_ret
  exact ⟨rfl, HB8.out⟩
end Go.Proofs.YtafnelpcnfmhfaaDoor
