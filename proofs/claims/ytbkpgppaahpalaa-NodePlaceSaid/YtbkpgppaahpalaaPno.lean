/-
  NodePlace where a condition fails: nothing is asked.
-/
import Derived.Test.YtbkpgppaahpalaaPlm
import Derived.Test.YtbkpgppaahpalaaBeg
namespace Go.Proofs.Ytbkpgppaahpalaa
open Go.RowKit
set_option linter.unusedVariables false      -- a walk need not use every condition

set_option maxHeartbeats 2000000 in
set_option maxRecDepth 100000 in
theorem new2' (w : World) (o o' : Obj) : ((w.alloc o).alloc o').heap[w.heap.size + 1]? = some o' := by
  have := World.alloc_heap_new (w.alloc o) o'
  rwa [World.size_alloc] at this
set_option maxHeartbeats 2000000 in
set_option maxRecDepth 100000 in
theorem place_no0 (w : World) (v x : Value) (n : Nd) (c : C) (h : NdS w v n) (hx : CeS w x c)  (hm : may n = false) :
    Calls Try.prog 9 #[v, x] w fun e w' => e = .returned (.bool true) ∧ Below w.heap.size w w' := by
  have c13 := fun (u : World) (hu : Below w.heap.size w u) => check13 u _ n (h.on hu)
  rw [hm, show chkE false = 80 from rfl] at c13
  obtain ⟨vc, vk, vi, rfl, hC, hK, hI⟩ := h
  obtain ⟨pc, cc, rfl, -, -⟩ := hC.hdr
  obtain ⟨pk, ck, rfl, -, -⟩ := hK.hdr
  obtain ⟨pi, ci, rfl, -, -⟩ := hI.hdr
  obtain ⟨ka, xa, rfl, hBk, hBx, hIo, hIl⟩ := hx
  obtain ⟨kp, kc, rfl, -, -⟩ := hBk.slice
  obtain ⟨xp, xc, rfl, -, -⟩ := hBx.slice
  clear hC hK hI hBk hBx hIo hIl
  generalize n.cells.length = N at *
  generalize n.keys.length = M at *
  generalize n.kids.length = P at *
  generalize c.key.length = K1 at *
  generalize c.val.length = K2 at *
  generalize c.over = xo at *
  generalize c.len = xl at *
  generalize n.leaf = lf at *
  have c12 := begun12
  have tk : True := trivial
  go_enter Try.func9, Try.ntmps9
  go_wp2_with (first
    | (go_at_call 12; clear tk; refine (c12 _).mono ?_; rintro e w1 ⟨rfl, hb1⟩
       have HB1 := Lib.hid (bel_then (bel_then (bel1 _ _) (bel1 _ _)) hb1)
       have HA1 := Lib.hid (blk_on hb1 (blk_on (bel1 _ _) (World.alloc_heap_new w _)))
       have HC1 := Lib.hid (blk_on hb1 (new2' w _ _))
       obtain ⟨a0, a1, a2, a3⟩ := four_of HA1.out
       obtain ⟨b0, b1, b2, b3⟩ := four_of HC1.out
       clear hb1)
    | (go_at_call 13; refine (c13 w1 HB1.out).mono ?_; rintro e w2 ⟨rfl, hb2⟩
       have HB2 := Lib.hid (bel_then HB1.out hb2)
       obtain ⟨a0, a1, a2, a3⟩ := four_of (blk_on hb2 HA1.out)
       obtain ⟨b0, b1, b2, b3⟩ := four_of (blk_on hb2 HC1.out)
       clear hb2)
    | (go_at_call 12; refine (c12 _).mono ?_; rintro e w3 ⟨rfl, hb3⟩))
  go_ret
  exact ⟨rfl, bel_then HB2.out hb3⟩
set_option maxHeartbeats 2000000 in
set_option maxRecDepth 100000 in
theorem place_no1 (w : World) (v x : Value) (n : Nd) (c : C) (h : NdS w v n) (hx : CeS w x c) (hm : may n = true) (hL : n.leaf = false) :
    Calls Try.prog 9 #[v, x] w fun e w' => e = .returned (.bool true) ∧ Below w.heap.size w w' := by
  have c13 := fun (u : World) (hu : Below w.heap.size w u) => check13 u _ n (h.on hu)
  rw [hm, show chkE true = 0 from rfl] at c13
  obtain ⟨vc, vk, vi, rfl, hC, hK, hI⟩ := h
  obtain ⟨pc, cc, rfl, -, -⟩ := hC.hdr
  obtain ⟨pk, ck, rfl, -, -⟩ := hK.hdr
  obtain ⟨pi, ci, rfl, -, -⟩ := hI.hdr
  obtain ⟨ka, xa, rfl, hBk, hBx, hIo, hIl⟩ := hx
  obtain ⟨kp, kc, rfl, -, -⟩ := hBk.slice
  obtain ⟨xp, xc, rfl, -, -⟩ := hBx.slice
  clear hC hK hI hBk hBx hIo hIl
  rw [hL] at c13 ⊢
  generalize n.cells.length = N at *
  generalize n.keys.length = M at *
  generalize n.kids.length = P at *
  generalize c.key.length = K1 at *
  generalize c.val.length = K2 at *
  generalize c.over = xo at *
  generalize c.len = xl at *
  have c12 := begun12
  have tk : True := trivial
  go_enter Try.func9, Try.ntmps9
  go_wp2_with (first
    | (go_at_call 12; clear tk; refine (c12 _).mono ?_; rintro e w1 ⟨rfl, hb1⟩
       have HB1 := Lib.hid (bel_then (bel_then (bel1 _ _) (bel1 _ _)) hb1)
       have HA1 := Lib.hid (blk_on hb1 (blk_on (bel1 _ _) (World.alloc_heap_new w _)))
       have HC1 := Lib.hid (blk_on hb1 (new2' w _ _))
       obtain ⟨a0, a1, a2, a3⟩ := four_of HA1.out
       obtain ⟨b0, b1, b2, b3⟩ := four_of HC1.out
       clear hb1)
    | (go_at_call 13; refine (c13 w1 HB1.out).mono ?_; rintro e w2 ⟨rfl, hb2⟩
       have HB2 := Lib.hid (bel_then HB1.out hb2)
       obtain ⟨a0, a1, a2, a3⟩ := four_of (blk_on hb2 HA1.out)
       obtain ⟨b0, b1, b2, b3⟩ := four_of (blk_on hb2 HC1.out)
       clear hb2)
    | (go_at_call 12; refine (c12 _).mono ?_; rintro e w3 ⟨rfl, hb3⟩))
  go_ret
  exact ⟨rfl, bel_then HB2.out hb3⟩
set_option maxHeartbeats 2000000 in
set_option maxRecDepth 100000 in
theorem place_no2 (w : World) (v x : Value) (n : Nd) (c : C) (h : NdS w v n) (hx : CeS w x c) (hm : may n = true) (hL : n.leaf = true) (h1 : c.key.length < 1) :
    Calls Try.prog 9 #[v, x] w fun e w' => e = .returned (.bool true) ∧ Below w.heap.size w w' := by
  have c13 := fun (u : World) (hu : Below w.heap.size w u) => check13 u _ n (h.on hu)
  rw [hm, show chkE true = 0 from rfl] at c13
  obtain ⟨vc, vk, vi, rfl, hC, hK, hI⟩ := h
  obtain ⟨pc, cc, rfl, -, -⟩ := hC.hdr
  obtain ⟨pk, ck, rfl, -, -⟩ := hK.hdr
  obtain ⟨pi, ci, rfl, -, -⟩ := hI.hdr
  obtain ⟨ka, xa, rfl, hBk, hBx, hIo, hIl⟩ := hx
  obtain ⟨kp, kc, rfl, -, -⟩ := hBk.slice
  obtain ⟨xp, xc, rfl, -, -⟩ := hBx.slice
  clear hC hK hI hBk hBx hIo hIl
  have z1 :  (c.key.length : Int) < 1 := by omega
  rw [hL] at c13 ⊢
  generalize n.cells.length = N at *
  generalize n.keys.length = M at *
  generalize n.kids.length = P at *
  generalize c.key.length = K1 at *
  generalize c.val.length = K2 at *
  generalize c.over = xo at *
  generalize c.len = xl at *
  have c12 := begun12
  have tk : True := trivial
  go_enter Try.func9, Try.ntmps9
  go_wp2_with (first
    | (go_at_call 12; clear tk; refine (c12 _).mono ?_; rintro e w1 ⟨rfl, hb1⟩
       have HB1 := Lib.hid (bel_then (bel_then (bel1 _ _) (bel1 _ _)) hb1)
       have HA1 := Lib.hid (blk_on hb1 (blk_on (bel1 _ _) (World.alloc_heap_new w _)))
       have HC1 := Lib.hid (blk_on hb1 (new2' w _ _))
       obtain ⟨a0, a1, a2, a3⟩ := four_of HA1.out
       obtain ⟨b0, b1, b2, b3⟩ := four_of HC1.out
       clear hb1)
    | (go_at_call 13; refine (c13 w1 HB1.out).mono ?_; rintro e w2 ⟨rfl, hb2⟩
       have HB2 := Lib.hid (bel_then HB1.out hb2)
       obtain ⟨a0, a1, a2, a3⟩ := four_of (blk_on hb2 HA1.out)
       obtain ⟨b0, b1, b2, b3⟩ := four_of (blk_on hb2 HC1.out)
       clear hb2)
    | (go_at_call 12; refine (c12 _).mono ?_; rintro e w3 ⟨rfl, hb3⟩))
  go_ret
  exact ⟨rfl, bel_then HB2.out hb3⟩
set_option maxHeartbeats 2000000 in
set_option maxRecDepth 100000 in
theorem place_no3 (w : World) (v x : Value) (n : Nd) (c : C) (h : NdS w v n) (hx : CeS w x c) (hm : may n = true) (hL : n.leaf = true) (h1 : ¬ c.key.length < 1) (h2 : 96 < c.key.length) :
    Calls Try.prog 9 #[v, x] w fun e w' => e = .returned (.bool true) ∧ Below w.heap.size w w' := by
  have c13 := fun (u : World) (hu : Below w.heap.size w u) => check13 u _ n (h.on hu)
  rw [hm, show chkE true = 0 from rfl] at c13
  obtain ⟨vc, vk, vi, rfl, hC, hK, hI⟩ := h
  obtain ⟨pc, cc, rfl, -, -⟩ := hC.hdr
  obtain ⟨pk, ck, rfl, -, -⟩ := hK.hdr
  obtain ⟨pi, ci, rfl, -, -⟩ := hI.hdr
  obtain ⟨ka, xa, rfl, hBk, hBx, hIo, hIl⟩ := hx
  obtain ⟨kp, kc, rfl, -, -⟩ := hBk.slice
  obtain ⟨xp, xc, rfl, -, -⟩ := hBx.slice
  clear hC hK hI hBk hBx hIo hIl
  have z1 : ¬ (c.key.length : Int) < 1 := by omega
  have z2 :  (96 : Int) < (c.key.length : Int) := by omega
  rw [hL] at c13 ⊢
  generalize n.cells.length = N at *
  generalize n.keys.length = M at *
  generalize n.kids.length = P at *
  generalize c.key.length = K1 at *
  generalize c.val.length = K2 at *
  generalize c.over = xo at *
  generalize c.len = xl at *
  have c12 := begun12
  have tk : True := trivial
  go_enter Try.func9, Try.ntmps9
  go_wp2_with (first
    | (go_at_call 12; clear tk; refine (c12 _).mono ?_; rintro e w1 ⟨rfl, hb1⟩
       have HB1 := Lib.hid (bel_then (bel_then (bel1 _ _) (bel1 _ _)) hb1)
       have HA1 := Lib.hid (blk_on hb1 (blk_on (bel1 _ _) (World.alloc_heap_new w _)))
       have HC1 := Lib.hid (blk_on hb1 (new2' w _ _))
       obtain ⟨a0, a1, a2, a3⟩ := four_of HA1.out
       obtain ⟨b0, b1, b2, b3⟩ := four_of HC1.out
       clear hb1)
    | (go_at_call 13; refine (c13 w1 HB1.out).mono ?_; rintro e w2 ⟨rfl, hb2⟩
       have HB2 := Lib.hid (bel_then HB1.out hb2)
       obtain ⟨a0, a1, a2, a3⟩ := four_of (blk_on hb2 HA1.out)
       obtain ⟨b0, b1, b2, b3⟩ := four_of (blk_on hb2 HC1.out)
       clear hb2)
    | (go_at_call 12; refine (c12 _).mono ?_; rintro e w3 ⟨rfl, hb3⟩))
  go_ret
  exact ⟨rfl, bel_then HB2.out hb3⟩
set_option maxHeartbeats 2000000 in
set_option maxRecDepth 100000 in
theorem place_no4 (w : World) (v x : Value) (n : Nd) (c : C) (h : NdS w v n) (hx : CeS w x c) (hm : may n = true) (hL : n.leaf = true) (h1 : ¬ c.key.length < 1) (h2 : ¬ 96 < c.key.length) (h3 : ¬ c.over = 0) :
    Calls Try.prog 9 #[v, x] w fun e w' => e = .returned (.bool true) ∧ Below w.heap.size w w' := by
  have c13 := fun (u : World) (hu : Below w.heap.size w u) => check13 u _ n (h.on hu)
  rw [hm, show chkE true = 0 from rfl] at c13
  obtain ⟨vc, vk, vi, rfl, hC, hK, hI⟩ := h
  obtain ⟨pc, cc, rfl, -, -⟩ := hC.hdr
  obtain ⟨pk, ck, rfl, -, -⟩ := hK.hdr
  obtain ⟨pi, ci, rfl, -, -⟩ := hI.hdr
  obtain ⟨ka, xa, rfl, hBk, hBx, hIo, hIl⟩ := hx
  obtain ⟨kp, kc, rfl, -, -⟩ := hBk.slice
  obtain ⟨xp, xc, rfl, -, -⟩ := hBx.slice
  clear hC hK hI hBk hBx hIo hIl
  have z1 : ¬ (c.key.length : Int) < 1 := by omega
  have z2 : ¬ (96 : Int) < (c.key.length : Int) := by omega
  rw [hL] at c13 ⊢
  generalize n.cells.length = N at *
  generalize n.keys.length = M at *
  generalize n.kids.length = P at *
  generalize c.key.length = K1 at *
  generalize c.val.length = K2 at *
  generalize c.over = xo at *
  generalize c.len = xl at *
  have c12 := begun12
  have tk : True := trivial
  go_enter Try.func9, Try.ntmps9
  go_wp2_with (first
    | (go_at_call 12; clear tk; refine (c12 _).mono ?_; rintro e w1 ⟨rfl, hb1⟩
       have HB1 := Lib.hid (bel_then (bel_then (bel1 _ _) (bel1 _ _)) hb1)
       have HA1 := Lib.hid (blk_on hb1 (blk_on (bel1 _ _) (World.alloc_heap_new w _)))
       have HC1 := Lib.hid (blk_on hb1 (new2' w _ _))
       obtain ⟨a0, a1, a2, a3⟩ := four_of HA1.out
       obtain ⟨b0, b1, b2, b3⟩ := four_of HC1.out
       clear hb1)
    | (go_at_call 13; refine (c13 w1 HB1.out).mono ?_; rintro e w2 ⟨rfl, hb2⟩
       have HB2 := Lib.hid (bel_then HB1.out hb2)
       obtain ⟨a0, a1, a2, a3⟩ := four_of (blk_on hb2 HA1.out)
       obtain ⟨b0, b1, b2, b3⟩ := four_of (blk_on hb2 HC1.out)
       clear hb2)
    | (go_at_call 12; refine (c12 _).mono ?_; rintro e w3 ⟨rfl, hb3⟩))
  go_ret
  exact ⟨rfl, bel_then HB2.out hb3⟩
set_option maxHeartbeats 2000000 in
set_option maxRecDepth 100000 in
theorem place_no5 (w : World) (v x : Value) (n : Nd) (c : C) (h : NdS w v n) (hx : CeS w x c) (hm : may n = true) (hL : n.leaf = true) (h1 : ¬ c.key.length < 1) (h2 : ¬ 96 < c.key.length) (h3 : c.over = 0) (h4 : ¬ c.len = 0) :
    Calls Try.prog 9 #[v, x] w fun e w' => e = .returned (.bool true) ∧ Below w.heap.size w w' := by
  have c13 := fun (u : World) (hu : Below w.heap.size w u) => check13 u _ n (h.on hu)
  rw [hm, show chkE true = 0 from rfl] at c13
  obtain ⟨vc, vk, vi, rfl, hC, hK, hI⟩ := h
  obtain ⟨pc, cc, rfl, -, -⟩ := hC.hdr
  obtain ⟨pk, ck, rfl, -, -⟩ := hK.hdr
  obtain ⟨pi, ci, rfl, -, -⟩ := hI.hdr
  obtain ⟨ka, xa, rfl, hBk, hBx, hIo, hIl⟩ := hx
  obtain ⟨kp, kc, rfl, -, -⟩ := hBk.slice
  obtain ⟨xp, xc, rfl, -, -⟩ := hBx.slice
  clear hC hK hI hBk hBx hIo hIl
  have z1 : ¬ (c.key.length : Int) < 1 := by omega
  have z2 : ¬ (96 : Int) < (c.key.length : Int) := by omega
  rw [hL] at c13 ⊢
  rw [h3]
  generalize n.cells.length = N at *
  generalize n.keys.length = M at *
  generalize n.kids.length = P at *
  generalize c.key.length = K1 at *
  generalize c.val.length = K2 at *
  generalize c.len = xl at *
  have c12 := begun12
  have tk : True := trivial
  go_enter Try.func9, Try.ntmps9
  go_wp2_with (first
    | (go_at_call 12; clear tk; refine (c12 _).mono ?_; rintro e w1 ⟨rfl, hb1⟩
       have HB1 := Lib.hid (bel_then (bel_then (bel1 _ _) (bel1 _ _)) hb1)
       have HA1 := Lib.hid (blk_on hb1 (blk_on (bel1 _ _) (World.alloc_heap_new w _)))
       have HC1 := Lib.hid (blk_on hb1 (new2' w _ _))
       obtain ⟨a0, a1, a2, a3⟩ := four_of HA1.out
       obtain ⟨b0, b1, b2, b3⟩ := four_of HC1.out
       clear hb1)
    | (go_at_call 13; refine (c13 w1 HB1.out).mono ?_; rintro e w2 ⟨rfl, hb2⟩
       have HB2 := Lib.hid (bel_then HB1.out hb2)
       obtain ⟨a0, a1, a2, a3⟩ := four_of (blk_on hb2 HA1.out)
       obtain ⟨b0, b1, b2, b3⟩ := four_of (blk_on hb2 HC1.out)
       clear hb2)
    | (go_at_call 12; refine (c12 _).mono ?_; rintro e w3 ⟨rfl, hb3⟩))
  go_ret
  exact ⟨rfl, bel_then HB2.out hb3⟩
set_option maxHeartbeats 2000000 in
set_option maxRecDepth 100000 in
theorem place_no6 (w : World) (v x : Value) (n : Nd) (c : C) (h : NdS w v n) (hx : CeS w x c) (hm : may n = true) (hL : n.leaf = true) (h1 : ¬ c.key.length < 1) (h2 : ¬ 96 < c.key.length) (h3 : c.over = 0) (h4 : c.len = 0) (h5 : 64 < c.val.length) :
    Calls Try.prog 9 #[v, x] w fun e w' => e = .returned (.bool true) ∧ Below w.heap.size w w' := by
  have c13 := fun (u : World) (hu : Below w.heap.size w u) => check13 u _ n (h.on hu)
  rw [hm, show chkE true = 0 from rfl] at c13
  obtain ⟨vc, vk, vi, rfl, hC, hK, hI⟩ := h
  obtain ⟨pc, cc, rfl, -, -⟩ := hC.hdr
  obtain ⟨pk, ck, rfl, -, -⟩ := hK.hdr
  obtain ⟨pi, ci, rfl, -, -⟩ := hI.hdr
  obtain ⟨ka, xa, rfl, hBk, hBx, hIo, hIl⟩ := hx
  obtain ⟨kp, kc, rfl, -, -⟩ := hBk.slice
  obtain ⟨xp, xc, rfl, -, -⟩ := hBx.slice
  clear hC hK hI hBk hBx hIo hIl
  have z1 : ¬ (c.key.length : Int) < 1 := by omega
  have z2 : ¬ (96 : Int) < (c.key.length : Int) := by omega
  have z5 :  (64 : Int) < (c.val.length : Int) := by omega
  rw [hL] at c13 ⊢
  rw [h3]
  rw [h4]
  generalize n.cells.length = N at *
  generalize n.keys.length = M at *
  generalize n.kids.length = P at *
  generalize c.key.length = K1 at *
  generalize c.val.length = K2 at *
  have c12 := begun12
  have tk : True := trivial
  go_enter Try.func9, Try.ntmps9
  go_wp2_with (first
    | (go_at_call 12; clear tk; refine (c12 _).mono ?_; rintro e w1 ⟨rfl, hb1⟩
       have HB1 := Lib.hid (bel_then (bel_then (bel1 _ _) (bel1 _ _)) hb1)
       have HA1 := Lib.hid (blk_on hb1 (blk_on (bel1 _ _) (World.alloc_heap_new w _)))
       have HC1 := Lib.hid (blk_on hb1 (new2' w _ _))
       obtain ⟨a0, a1, a2, a3⟩ := four_of HA1.out
       obtain ⟨b0, b1, b2, b3⟩ := four_of HC1.out
       clear hb1)
    | (go_at_call 13; refine (c13 w1 HB1.out).mono ?_; rintro e w2 ⟨rfl, hb2⟩
       have HB2 := Lib.hid (bel_then HB1.out hb2)
       obtain ⟨a0, a1, a2, a3⟩ := four_of (blk_on hb2 HA1.out)
       obtain ⟨b0, b1, b2, b3⟩ := four_of (blk_on hb2 HC1.out)
       clear hb2)
    | (go_at_call 12; refine (c12 _).mono ?_; rintro e w3 ⟨rfl, hb3⟩))
  go_ret
  exact ⟨rfl, bel_then HB2.out hb3⟩
end Go.Proofs.Ytbkpgppaahpalaa
