/-
  The reader of package node: node; Parse.
-/
import Derived.Test.YtbkpgppaahpalaaRdl
import Derived.Test.YtbkpgppaahpalaaRdi
namespace Go.Proofs.Ytbkpgppaahpalaa
open Go.RowKit
set_option linter.unusedVariables false      -- a walk need not use every condition

theorem NdO.gr {base : Nat} {w w' : World} {v : Value} {n : Nd} {b : Nat} {c : Array Value} {t : TypeId} {f : Nat × Nat} (h : NdO base w v n) (hg : w.grownBy w' (some b)) (hb : w.heap[b]? = some (.cells c t f)) (h5 : 5 ≠ t) (h44 : 44 ≠ t) (h27 : 27 ≠ t) (h3 : 3 ≠ t) : NdO base w' v n := by
  obtain ⟨vc, vk, vi, e, k1, k2, k3⟩ := h
  exact ⟨vc, vk, vi, e, k1.gr hg hb h5 h44, k2.gr hg hb h5 h27, k3.gr hg hb h3⟩
theorem NdO.low {base base' : Nat} {w : World} {v : Value} {n : Nd} (h : NdO base w v n) (hb : base' ≤ base) : NdO base' w v n := by
  obtain ⟨vc, vk, vi, e, ⟨cs, k1, k2⟩, ⟨ks, k3, k4⟩, ⟨is, k5, k6⟩⟩ := h
  exact ⟨vc, vk, vi, e, ⟨cs, k1.mono hb, k2.1, fun i hi => (k2.2 i hi).low hb⟩, ⟨ks, k3.mono hb, k4.1, fun i hi => (k4.2 i hi).low hb⟩, ⟨is, k5.mono hb, k6⟩⟩
theorem NdO.hdr {base : Nat} {w : World} {v : Value} {n : Nd} (h : NdO base w v n) : ∃ p1 c1 p2 c2 p3 c3, v = .agg #[.bool n.leaf, .slice p1 n.cells.length c1, .slice p2 n.keys.length c2, .slice p3 n.kids.length c3] := by
  obtain ⟨vc, vk, vi, e, ⟨cs, k1, -⟩, ⟨ks, k3, -⟩, ⟨is, k5, -⟩⟩ := h
  obtain ⟨p1, c1, rfl, -⟩ := own_hdr k1
  obtain ⟨p2, c2, rfl, -⟩ := own_hdr k3
  obtain ⟨p3, c3, rfl, -⟩ := own_hdr k5
  exact ⟨p1, c1, p2, c2, p3, c3, e⟩
theorem ndo_zero (base : Nat) (w : World) : NdO base w (.agg #[.bool false, .slice none 0 0, .slice none 0 0, .slice none 0 0]) nd0 := ⟨_, _, _, rfl, cso_nil _ _, kso_nil _ _, iso_nil _ _⟩
set_option maxHeartbeats 4000000 in
set_option maxRecDepth 100000 in
theorem node47 (w0 w : World) (r : Nat) (s : RS) (h : Rd w0 w r s) (hs : s.1.length ≤ 448) :
    Calls Try.prog 47 #[.pointer (some ⟨r, 0, none⟩)] w fun e w' => ∃ v', e = .returned v' ∧ NdO w.heap.size w' v' (rNode s).1 ∧ Rq w0 r (rNode s).2 w w' := by
  have hrl := h.lt
  have c84 := fun (o : Obj) => number84 w0 (w.alloc o) r s (h.on (bel1 w o))
  have hl1 := rNum_len (s := s)
  unfold rNode
  generalize (rNum s).1 = m at *
  generalize (rNum s).2 = s1 at *
  have HZ : Hid ((w.alloc (.cells #[.bool false, .slice none 0 0, .slice none 0 0, .slice none 0 0] 26)).heap[w.heap.size]? = some (.cells #[.bool false, .slice none 0 0, .slice none 0 0, .slice none 0 0] 26)) := World.alloc_heap_new w _
  by_cases h1 : m = 1
  · rw [if_pos h1]
    subst h1
    have c85 := fun (u : World) (hd : Rd w0 u r s1) => leaf85 w0 u r s1 hd (by omega)
    generalize (rLeaf s1).1 = n at *
    generalize (rLeaf s1).2 = s2 at *
    go_enter Try.func47, Try.ntmps47
    go_wp2_with (first
      | (go_at_call 84; refine (c84 _).mono ?_; rintro e w1 ⟨rfl, hq1⟩; have HQ1 := Lib.hid hq1; have HZ1 := Lib.hid (blk_gr HZ.out hq1.2 (by omega)); clear hq1)
      | (go_at_call 85; refine (c85 _ HQ1.out.1).mono ?_; rintro e w2 ⟨v2, rfl, hn2, hq2⟩; have HN2 := Lib.hid hn2; obtain ⟨p1, d1, p2, d2, p3, d3, rfl⟩ := hn2.hdr; have hZ2 := blk_gr HZ1.out hq2.2 (by omega); have HZ2 := Lib.hid hZ2; obtain ⟨x0, x1, x2, x3⟩ := four_of hZ2; have xf0 := four_fr hZ2 0; have xf1 := four_fr hZ2 1; have xf2 := four_fr hZ2 2; have xf3 := four_fr hZ2 3; have HQ2 := Lib.hid hq2; clear hq2 hn2 hZ2))
    have hz1 := HQ1.out.2.size
    simp only [World.size_alloc] at hz1
    have g := gr_four w2 w.heap.size (.bool n.leaf) (.slice p1 n.cells.length d1) (.slice p2 n.keys.length d2) (.slice p3 n.kids.length d3)
    have q : Rq w0 r s2 w w2 := ⟨HQ2.out.1, ((gr_bel (bel1 w _) (some r)).trans HQ1.out.2).trans HQ2.out.2⟩
    refine bodyPost_ret (results_c26 Try.results47 _ _ w.heap.size _ _ _ _ 26 rfl (blk_four HZ2.out _ _ _ _)) rfl ?_
    exact ⟨_, rfl, (HN2.out.gr g HZ2.out (by decide) (by decide) (by decide) (by decide)).low (by omega), q.put g (Nat.le_refl _) hrl⟩
  · rw [if_neg h1]
    have h1b : ((m : Int) == 1) = false := by simp; omega
    by_cases h2 : m = 2
    · rw [if_pos h2]
      subst h2
      have c86 := fun (u : World) (hd : Rd w0 u r s1) => inner86 w0 u r s1 hd (by omega)
      generalize (rInner s1).1 = n at *
      generalize (rInner s1).2 = s2 at *
      clear h1 h1b
      go_enter Try.func47, Try.ntmps47
      go_wp2_with (first
        | (go_at_call 84; refine (c84 _).mono ?_; rintro e w1 ⟨rfl, hq1⟩; have HQ1 := Lib.hid hq1; have HZ1 := Lib.hid (blk_gr HZ.out hq1.2 (by omega)); clear hq1)
        | (go_at_call 86; refine (c86 _ HQ1.out.1).mono ?_; rintro e w2 ⟨v2, rfl, hn2, hq2⟩; have HN2 := Lib.hid hn2; obtain ⟨p1, d1, p2, d2, p3, d3, rfl⟩ := hn2.hdr; have hZ2 := blk_gr HZ1.out hq2.2 (by omega); have HZ2 := Lib.hid hZ2; obtain ⟨x0, x1, x2, x3⟩ := four_of hZ2; have xf0 := four_fr hZ2 0; have xf1 := four_fr hZ2 1; have xf2 := four_fr hZ2 2; have xf3 := four_fr hZ2 3; have HQ2 := Lib.hid hq2; clear hq2 hn2 hZ2))
      have hz1 := HQ1.out.2.size
      simp only [World.size_alloc] at hz1
      have g := gr_four w2 w.heap.size (.bool n.leaf) (.slice p1 n.cells.length d1) (.slice p2 n.keys.length d2) (.slice p3 n.kids.length d3)
      have q : Rq w0 r s2 w w2 := ⟨HQ2.out.1, ((gr_bel (bel1 w _) (some r)).trans HQ1.out.2).trans HQ2.out.2⟩
      refine bodyPost_ret (results_c26 Try.results47 _ _ w.heap.size _ _ _ _ 26 rfl (blk_four HZ2.out _ _ _ _)) rfl ?_
      exact ⟨_, rfl, (HN2.out.gr g HZ2.out (by decide) (by decide) (by decide) (by decide)).low (by omega), q.put g (Nat.le_refl _) hrl⟩
    · rw [if_neg h2]
      have h2b : ((m : Int) == 2) = false := by simp; omega
      have c87 := fun (u : World) (hd : Rd w0 u r s1) => fail87 w0 u r s1 hd
      clear h1 h2
      go_enter Try.func47, Try.ntmps47
      go_wp2_with (first
        | (go_at_call 84; refine (c84 _).mono ?_; rintro e w1 ⟨rfl, hq1⟩; have HQ1 := Lib.hid hq1; have HZ1 := Lib.hid (blk_gr HZ.out hq1.2 (by omega)); clear hq1)
        | (go_at_call 87; refine (c87 _ HQ1.out.1).mono ?_; rintro e w2 ⟨rfl, hq2⟩; have hZ2 := blk_gr HZ1.out hq2.2 (by omega); have HZ2 := Lib.hid hZ2; obtain ⟨x0, x1, x2, x3⟩ := four_of hZ2; have xf0 := four_fr hZ2 0; have xf1 := four_fr hZ2 1; have xf2 := four_fr hZ2 2; have xf3 := four_fr hZ2 3; have HQ2 := Lib.hid hq2; clear hq2 hZ2))
      have g := gr_four w2 w.heap.size (.bool false) (.slice none 0 0) (.slice none 0 0) (.slice none 0 0)
      have q : Rq w0 r bad w w2 := ⟨HQ2.out.1, ((gr_bel (bel1 w _) (some r)).trans HQ1.out.2).trans HQ2.out.2⟩
      refine bodyPost_ret (results_c26 Try.results47 _ _ w.heap.size _ _ _ _ 26 rfl (blk_four HZ2.out _ _ _ _)) rfl ?_
      exact ⟨_, rfl, ndo_zero _ _, q.put g (Nat.le_refl _) hrl⟩
/-- The node that is parsed, or none. -/
def parN (b : List UInt8) : Nd := if okP b then (rNode (b, false)).1 else nd0
set_option maxHeartbeats 8000000 in
set_option maxRecDepth 100000 in
theorem parse_fail (w : World) (p : Option Addr) (cap : Nat) (t : List UInt8) (h : Bs w (.slice p t.length cap) t) (hl : t.length ≤ 448) (hf : (rNode (t, false)).2.2 = true) :
    Calls Try.prog 18 #[.slice p t.length cap] w fun e w' => ∃ v', e = .returned (.tuple #[v', .int .i64 80]) ∧ NdO w.heap.size w' v' nd0 ∧ Below w.heap.size w w' := by
    have HB := Lib.hid h
    have HZ : Hid ((w.alloc (.cells #[.bool false, .slice none 0 0, .slice none 0 0, .slice none 0 0] 26)).heap[w.heap.size]? = some (.cells #[.bool false, .slice none 0 0, .slice none 0 0, .slice none 0 0] 26)) := World.alloc_heap_new w _
    have hlz : ¬ (448 : Int) < (t.length : Int) := by omega
    have hRd : Hid (Rd w ((w.alloc (.cells #[.bool false, .slice none 0 0, .slice none 0 0, .slice none 0 0] 26)).alloc (.cells #[.slice p t.length cap, .bool false] 65)) (w.heap.size + 1) (t, false)) := by
      refine ⟨_, ?_, HB.out, bel_then (bel1 _ _) (bel1 _ _), by omega⟩
      have := World.alloc_heap_new (w.alloc (.cells #[.bool false, .slice none 0 0, .slice none 0 0, .slice none 0 0] 26)) (.cells #[.slice p t.length cap, .bool false] 65)
      rwa [World.size_alloc] at this
    have c47 := node47 w _ _ _ hRd.out hl
    generalize (rNode (t, false)).1 = n at *
    generalize (rNode (t, false)).2 = s at *
    clear hl h
    have HZ1 := Lib.hid (blk_on (bel1 _ (.cells #[.slice p t.length cap, .bool false] 65)) HZ.out)
    have c13 := fun (u : World) (x : Value) (hx : NdS u x n) => check13 u x n hx
    obtain ⟨T, hT⟩ : ∃ T, s.1.length = T := ⟨_, rfl⟩
    try rw [hT] at hT0
    have HT := Lib.hid hT
    clear hT
    clear c13
    go_enter Try.func18, Try.ntmps18
    go_wp2_with (first
      | (go_at_call 47; refine c47.mono ?_; rintro e w1 ⟨v1, rfl, hn1, hq1⟩
         have HN1 := Lib.hid hn1; obtain ⟨p1, d1, p2, d2, p3, d3, rfl⟩ := hn1.hdr
         obtain ⟨rv, k1, k2, k3, -⟩ := hq1.1
         obtain ⟨rp, rc, rfl, -⟩ := id k2
         have hz1 := hq1.2.size
         simp only [World.size_alloc] at hz1
         have hlt1 : w.heap.size + 1 < w1.heap.size := (by omega)
         have hlt0 : w.heap.size < w1.heap.size := (by omega)
         have hk1 := blk_on (bel1 w1 (.cells #[.bool n.leaf, .slice p1 n.cells.length d1, .slice p2 n.keys.length d2, .slice p3 n.kids.length d3] 26)) k1
         obtain ⟨r0, r1⟩ := two_of hk1
         rw [HT.out] at r0
         rw [hf] at r1
         have hZ2 := blk_on (bel1 w1 (.cells #[.bool n.leaf, .slice p1 n.cells.length d1, .slice p2 n.keys.length d2, .slice p3 n.kids.length d3] 26)) (blk_gr HZ1.out hq1.2 (by omega))
         have HZ2 := Lib.hid hZ2
         obtain ⟨x0, x1, x2, x3⟩ := four_of hZ2
         have xf0 := four_fr hZ2 0
         have xf1 := four_fr hZ2 1
         have xf2 := four_fr hZ2 2
         have xf3 := four_fr hZ2 3
         have hZw := blk_gr HZ1.out hq1.2 (by omega)
         obtain ⟨z0, z1, z2, z3⟩ := four_of hZw
         have zf0 := four_fr hZw 0
         have zf1 := four_fr hZw 1
         have zf2 := four_fr hZw 2
         have zf3 := four_fr hZw 3
         have HZW := Lib.hid hZw
         have HKW := Lib.hid k3
         clear hZw
         have HK3 := Lib.hid (bel_then k3 (bel1 w1 (.cells #[.bool n.leaf, .slice p1 n.cells.length d1, .slice p2 n.keys.length d2, .slice p3 n.kids.length d3] 26)))
         have HBX := Lib.hid (World.alloc_heap_new w1 (.cells #[.bool n.leaf, .slice p1 n.cells.length d1, .slice p2 n.keys.length d2, .slice p3 n.kids.length d3] 26))
         clear hn1 hq1 k1 k2 k3 hk1 hZ2))
    have g := gr_four w1 w.heap.size (.bool false) (.slice none 0 0) (.slice none 0 0) (.slice none 0 0)
    refine bodyPost_ret (results_c26t Try.results18 _ _ w.heap.size _ _ _ _ 26 rfl (blk_on (bel1 _ _) (blk_four HZW.out _ _ _ _))) rfl ?_
    exact ⟨_, rfl, ndo_zero _ _, bel_then (bel_put HKW.out g (Nat.le_refl _)) (bel1 _ _)⟩
set_option maxHeartbeats 8000000 in
set_option maxRecDepth 100000 in
theorem parse_rest (w : World) (p : Option Addr) (cap : Nat) (t : List UInt8) (h : Bs w (.slice p t.length cap) t) (hl : t.length ≤ 448) (hf : (rNode (t, false)).2.2 = false) (hT0 : ¬ (rNode (t, false)).2.1.length = 0) :
    Calls Try.prog 18 #[.slice p t.length cap] w fun e w' => ∃ v', e = .returned (.tuple #[v', .int .i64 80]) ∧ NdO w.heap.size w' v' nd0 ∧ Below w.heap.size w w' := by
    have HB := Lib.hid h
    have HZ : Hid ((w.alloc (.cells #[.bool false, .slice none 0 0, .slice none 0 0, .slice none 0 0] 26)).heap[w.heap.size]? = some (.cells #[.bool false, .slice none 0 0, .slice none 0 0, .slice none 0 0] 26)) := World.alloc_heap_new w _
    have hlz : ¬ (448 : Int) < (t.length : Int) := by omega
    have hRd : Hid (Rd w ((w.alloc (.cells #[.bool false, .slice none 0 0, .slice none 0 0, .slice none 0 0] 26)).alloc (.cells #[.slice p t.length cap, .bool false] 65)) (w.heap.size + 1) (t, false)) := by
      refine ⟨_, ?_, HB.out, bel_then (bel1 _ _) (bel1 _ _), by omega⟩
      have := World.alloc_heap_new (w.alloc (.cells #[.bool false, .slice none 0 0, .slice none 0 0, .slice none 0 0] 26)) (.cells #[.slice p t.length cap, .bool false] 65)
      rwa [World.size_alloc] at this
    have c47 := node47 w _ _ _ hRd.out hl
    generalize (rNode (t, false)).1 = n at *
    generalize (rNode (t, false)).2 = s at *
    clear hl h
    have HZ1 := Lib.hid (blk_on (bel1 _ (.cells #[.slice p t.length cap, .bool false] 65)) HZ.out)
    have c13 := fun (u : World) (x : Value) (hx : NdS u x n) => check13 u x n hx
    obtain ⟨T, hT⟩ : ∃ T, s.1.length = T := ⟨_, rfl⟩
    try rw [hT] at hT0
    have HT := Lib.hid hT
    clear hT
    have hTz : (0 : Int) < (T : Int) := by omega
    clear c13 hT0
    go_enter Try.func18, Try.ntmps18
    go_wp2_with (first
      | (go_at_call 47; refine c47.mono ?_; rintro e w1 ⟨v1, rfl, hn1, hq1⟩
         have HN1 := Lib.hid hn1; obtain ⟨p1, d1, p2, d2, p3, d3, rfl⟩ := hn1.hdr
         obtain ⟨rv, k1, k2, k3, -⟩ := hq1.1
         obtain ⟨rp, rc, rfl, -⟩ := id k2
         have hz1 := hq1.2.size
         simp only [World.size_alloc] at hz1
         have hlt1 : w.heap.size + 1 < w1.heap.size := (by omega)
         have hlt0 : w.heap.size < w1.heap.size := (by omega)
         have hk1 := blk_on (bel1 w1 (.cells #[.bool n.leaf, .slice p1 n.cells.length d1, .slice p2 n.keys.length d2, .slice p3 n.kids.length d3] 26)) k1
         obtain ⟨r0, r1⟩ := two_of hk1
         rw [HT.out] at r0
         rw [hf] at r1
         have hZ2 := blk_on (bel1 w1 (.cells #[.bool n.leaf, .slice p1 n.cells.length d1, .slice p2 n.keys.length d2, .slice p3 n.kids.length d3] 26)) (blk_gr HZ1.out hq1.2 (by omega))
         have HZ2 := Lib.hid hZ2
         obtain ⟨x0, x1, x2, x3⟩ := four_of hZ2
         have xf0 := four_fr hZ2 0
         have xf1 := four_fr hZ2 1
         have xf2 := four_fr hZ2 2
         have xf3 := four_fr hZ2 3
         have hZw := blk_gr HZ1.out hq1.2 (by omega)
         obtain ⟨z0, z1, z2, z3⟩ := four_of hZw
         have zf0 := four_fr hZw 0
         have zf1 := four_fr hZw 1
         have zf2 := four_fr hZw 2
         have zf3 := four_fr hZw 3
         have HZW := Lib.hid hZw
         have HKW := Lib.hid k3
         clear hZw
         have HK3 := Lib.hid (bel_then k3 (bel1 w1 (.cells #[.bool n.leaf, .slice p1 n.cells.length d1, .slice p2 n.keys.length d2, .slice p3 n.kids.length d3] 26)))
         have HBX := Lib.hid (World.alloc_heap_new w1 (.cells #[.bool n.leaf, .slice p1 n.cells.length d1, .slice p2 n.keys.length d2, .slice p3 n.kids.length d3] 26))
         clear hn1 hq1 k1 k2 k3 hk1 hZ2))
    have g := gr_four w1 w.heap.size (.bool false) (.slice none 0 0) (.slice none 0 0) (.slice none 0 0)
    refine bodyPost_ret (results_c26t Try.results18 _ _ w.heap.size _ _ _ _ 26 rfl (blk_on (bel1 _ _) (blk_four HZW.out _ _ _ _))) rfl ?_
    exact ⟨_, rfl, ndo_zero _ _, bel_then (bel_put HKW.out g (Nat.le_refl _)) (bel1 _ _)⟩
set_option maxHeartbeats 8000000 in
set_option maxRecDepth 100000 in
theorem parse_may (w : World) (p : Option Addr) (cap : Nat) (t : List UInt8) (h : Bs w (.slice p t.length cap) t) (hl : t.length ≤ 448) (hf : (rNode (t, false)).2.2 = false) (hT0 : (rNode (t, false)).2.1.length = 0) (hm : may (rNode (t, false)).1 = true) :
    Calls Try.prog 18 #[.slice p t.length cap] w fun e w' => ∃ v', e = .returned (.tuple #[v', .int .i64 0]) ∧ NdO w.heap.size w' v' (rNode (t, false)).1 ∧ Below w.heap.size w w' := by
    have HB := Lib.hid h
    have HZ : Hid ((w.alloc (.cells #[.bool false, .slice none 0 0, .slice none 0 0, .slice none 0 0] 26)).heap[w.heap.size]? = some (.cells #[.bool false, .slice none 0 0, .slice none 0 0, .slice none 0 0] 26)) := World.alloc_heap_new w _
    have hlz : ¬ (448 : Int) < (t.length : Int) := by omega
    have hRd : Hid (Rd w ((w.alloc (.cells #[.bool false, .slice none 0 0, .slice none 0 0, .slice none 0 0] 26)).alloc (.cells #[.slice p t.length cap, .bool false] 65)) (w.heap.size + 1) (t, false)) := by
      refine ⟨_, ?_, HB.out, bel_then (bel1 _ _) (bel1 _ _), by omega⟩
      have := World.alloc_heap_new (w.alloc (.cells #[.bool false, .slice none 0 0, .slice none 0 0, .slice none 0 0] 26)) (.cells #[.slice p t.length cap, .bool false] 65)
      rwa [World.size_alloc] at this
    have c47 := node47 w _ _ _ hRd.out hl
    generalize (rNode (t, false)).1 = n at *
    generalize (rNode (t, false)).2 = s at *
    clear hl h
    have HZ1 := Lib.hid (blk_on (bel1 _ (.cells #[.slice p t.length cap, .bool false] 65)) HZ.out)
    have c13 := fun (u : World) (x : Value) (hx : NdS u x n) => check13 u x n hx
    obtain ⟨T, hT⟩ : ∃ T, s.1.length = T := ⟨_, rfl⟩
    try rw [hT] at hT0
    have HT := Lib.hid hT
    clear hT
    have hTz : (T : Int) = 0 := by omega
    rw [hm] at c13
    have e0 : chkE true = 0 := rfl
    rw [e0] at c13
    clear hm hT0
    go_enter Try.func18, Try.ntmps18
    go_wp2_with (first
      | (go_at_call 47; refine c47.mono ?_; rintro e w1 ⟨v1, rfl, hn1, hq1⟩
         have HN1 := Lib.hid hn1; obtain ⟨p1, d1, p2, d2, p3, d3, rfl⟩ := hn1.hdr
         obtain ⟨rv, k1, k2, k3, -⟩ := hq1.1
         obtain ⟨rp, rc, rfl, -⟩ := id k2
         have hz1 := hq1.2.size
         simp only [World.size_alloc] at hz1
         have hlt1 : w.heap.size + 1 < w1.heap.size := (by omega)
         have hlt0 : w.heap.size < w1.heap.size := (by omega)
         have hk1 := blk_on (bel1 w1 (.cells #[.bool n.leaf, .slice p1 n.cells.length d1, .slice p2 n.keys.length d2, .slice p3 n.kids.length d3] 26)) k1
         obtain ⟨r0, r1⟩ := two_of hk1
         rw [HT.out] at r0
         rw [hf] at r1
         have hZ2 := blk_on (bel1 w1 (.cells #[.bool n.leaf, .slice p1 n.cells.length d1, .slice p2 n.keys.length d2, .slice p3 n.kids.length d3] 26)) (blk_gr HZ1.out hq1.2 (by omega))
         have HZ2 := Lib.hid hZ2
         obtain ⟨x0, x1, x2, x3⟩ := four_of hZ2
         have xf0 := four_fr hZ2 0
         have xf1 := four_fr hZ2 1
         have xf2 := four_fr hZ2 2
         have xf3 := four_fr hZ2 3
         have hZw := blk_gr HZ1.out hq1.2 (by omega)
         obtain ⟨z0, z1, z2, z3⟩ := four_of hZw
         have zf0 := four_fr hZw 0
         have zf1 := four_fr hZw 1
         have zf2 := four_fr hZw 2
         have zf3 := four_fr hZw 3
         clear hZw
         have HK3 := Lib.hid (bel_then k3 (bel1 w1 (.cells #[.bool n.leaf, .slice p1 n.cells.length d1, .slice p2 n.keys.length d2, .slice p3 n.kids.length d3] 26)))
         have HBX := Lib.hid (World.alloc_heap_new w1 (.cells #[.bool n.leaf, .slice p1 n.cells.length d1, .slice p2 n.keys.length d2, .slice p3 n.kids.length d3] 26))
         have d13 := c13 (w1.alloc (.cells #[.bool n.leaf, .slice p1 n.cells.length d1, .slice p2 n.keys.length d2, .slice p3 n.kids.length d3] 26)) _ (hn1.on (bel1 w1 (.cells #[.bool n.leaf, .slice p1 n.cells.length d1, .slice p2 n.keys.length d2, .slice p3 n.kids.length d3] 26))).s
         clear hn1 hq1 k1 k2 k3 hk1 hZ2)
      | (go_at_call 13; refine d13.mono ?_; rintro e w2 ⟨rfl, hB2⟩
         have hZ3 := blk_on hB2 HZ2.out
         have HZ3 := Lib.hid hZ3
         obtain ⟨x0, x1, x2, x3⟩ := four_of hZ3
         have xf0 := four_fr hZ3 0
         have xf1 := four_fr hZ3 1
         have xf2 := four_fr hZ3 2
         have xf3 := four_fr hZ3 3
         obtain ⟨y0, y1, y2, y3⟩ := four_of (blk_on hB2 HBX.out)
         have HB2 := Lib.hid hB2
         clear hB2 hZ3))
    have g := gr_four w2 w.heap.size (.bool n.leaf) (.slice p1 n.cells.length d1) (.slice p2 n.keys.length d2) (.slice p3 n.kids.length d3)
    refine bodyPost_ret (results_c26t Try.results18 _ _ w.heap.size _ _ _ _ 26 rfl (blk_four HZ3.out _ _ _ _)) rfl ?_
    exact ⟨_, rfl, (((HN1.out.on (bel1 _ _)).on HB2.out).gr g HZ3.out (by decide) (by decide) (by decide) (by decide)).low (by simp; omega), bel_put (bel_then HK3.out HB2.out) g (Nat.le_refl _)⟩
set_option maxHeartbeats 8000000 in
set_option maxRecDepth 100000 in
theorem parse_not (w : World) (p : Option Addr) (cap : Nat) (t : List UInt8) (h : Bs w (.slice p t.length cap) t) (hl : t.length ≤ 448) (hf : (rNode (t, false)).2.2 = false) (hT0 : (rNode (t, false)).2.1.length = 0) (hm : may (rNode (t, false)).1 = false) :
    Calls Try.prog 18 #[.slice p t.length cap] w fun e w' => ∃ v', e = .returned (.tuple #[v', .int .i64 80]) ∧ NdO w.heap.size w' v' nd0 ∧ Below w.heap.size w w' := by
    have HB := Lib.hid h
    have HZ : Hid ((w.alloc (.cells #[.bool false, .slice none 0 0, .slice none 0 0, .slice none 0 0] 26)).heap[w.heap.size]? = some (.cells #[.bool false, .slice none 0 0, .slice none 0 0, .slice none 0 0] 26)) := World.alloc_heap_new w _
    have hlz : ¬ (448 : Int) < (t.length : Int) := by omega
    have hRd : Hid (Rd w ((w.alloc (.cells #[.bool false, .slice none 0 0, .slice none 0 0, .slice none 0 0] 26)).alloc (.cells #[.slice p t.length cap, .bool false] 65)) (w.heap.size + 1) (t, false)) := by
      refine ⟨_, ?_, HB.out, bel_then (bel1 _ _) (bel1 _ _), by omega⟩
      have := World.alloc_heap_new (w.alloc (.cells #[.bool false, .slice none 0 0, .slice none 0 0, .slice none 0 0] 26)) (.cells #[.slice p t.length cap, .bool false] 65)
      rwa [World.size_alloc] at this
    have c47 := node47 w _ _ _ hRd.out hl
    generalize (rNode (t, false)).1 = n at *
    generalize (rNode (t, false)).2 = s at *
    clear hl h
    have HZ1 := Lib.hid (blk_on (bel1 _ (.cells #[.slice p t.length cap, .bool false] 65)) HZ.out)
    have c13 := fun (u : World) (x : Value) (hx : NdS u x n) => check13 u x n hx
    obtain ⟨T, hT⟩ : ∃ T, s.1.length = T := ⟨_, rfl⟩
    try rw [hT] at hT0
    have HT := Lib.hid hT
    clear hT
    have hTz : (T : Int) = 0 := by omega
    rw [hm] at c13
    have e0 : chkE false = 80 := rfl
    rw [e0] at c13
    clear hm hT0
    go_enter Try.func18, Try.ntmps18
    go_wp2_with (first
      | (go_at_call 47; refine c47.mono ?_; rintro e w1 ⟨v1, rfl, hn1, hq1⟩
         have HN1 := Lib.hid hn1; obtain ⟨p1, d1, p2, d2, p3, d3, rfl⟩ := hn1.hdr
         obtain ⟨rv, k1, k2, k3, -⟩ := hq1.1
         obtain ⟨rp, rc, rfl, -⟩ := id k2
         have hz1 := hq1.2.size
         simp only [World.size_alloc] at hz1
         have hlt1 : w.heap.size + 1 < w1.heap.size := (by omega)
         have hlt0 : w.heap.size < w1.heap.size := (by omega)
         have hk1 := blk_on (bel1 w1 (.cells #[.bool n.leaf, .slice p1 n.cells.length d1, .slice p2 n.keys.length d2, .slice p3 n.kids.length d3] 26)) k1
         obtain ⟨r0, r1⟩ := two_of hk1
         rw [HT.out] at r0
         rw [hf] at r1
         have hZ2 := blk_on (bel1 w1 (.cells #[.bool n.leaf, .slice p1 n.cells.length d1, .slice p2 n.keys.length d2, .slice p3 n.kids.length d3] 26)) (blk_gr HZ1.out hq1.2 (by omega))
         have HZ2 := Lib.hid hZ2
         obtain ⟨x0, x1, x2, x3⟩ := four_of hZ2
         have xf0 := four_fr hZ2 0
         have xf1 := four_fr hZ2 1
         have xf2 := four_fr hZ2 2
         have xf3 := four_fr hZ2 3
         have hZw := blk_gr HZ1.out hq1.2 (by omega)
         obtain ⟨z0, z1, z2, z3⟩ := four_of hZw
         have zf0 := four_fr hZw 0
         have zf1 := four_fr hZw 1
         have zf2 := four_fr hZw 2
         have zf3 := four_fr hZw 3
         clear hZw
         have HK3 := Lib.hid (bel_then k3 (bel1 w1 (.cells #[.bool n.leaf, .slice p1 n.cells.length d1, .slice p2 n.keys.length d2, .slice p3 n.kids.length d3] 26)))
         have HBX := Lib.hid (World.alloc_heap_new w1 (.cells #[.bool n.leaf, .slice p1 n.cells.length d1, .slice p2 n.keys.length d2, .slice p3 n.kids.length d3] 26))
         have d13 := c13 (w1.alloc (.cells #[.bool n.leaf, .slice p1 n.cells.length d1, .slice p2 n.keys.length d2, .slice p3 n.kids.length d3] 26)) _ (hn1.on (bel1 w1 (.cells #[.bool n.leaf, .slice p1 n.cells.length d1, .slice p2 n.keys.length d2, .slice p3 n.kids.length d3] 26))).s
         clear hn1 hq1 k1 k2 k3 hk1 hZ2)
      | (go_at_call 13; refine d13.mono ?_; rintro e w2 ⟨rfl, hB2⟩
         have hZ3 := blk_on hB2 HZ2.out
         have HZ3 := Lib.hid hZ3
         obtain ⟨x0, x1, x2, x3⟩ := four_of hZ3
         have xf0 := four_fr hZ3 0
         have xf1 := four_fr hZ3 1
         have xf2 := four_fr hZ3 2
         have xf3 := four_fr hZ3 3
         obtain ⟨y0, y1, y2, y3⟩ := four_of (blk_on hB2 HBX.out)
         have HB2 := Lib.hid hB2
         clear hB2 hZ3))
    have g := gr_four w2 w.heap.size (.bool false) (.slice none 0 0) (.slice none 0 0) (.slice none 0 0)
    refine bodyPost_ret (results_c26t Try.results18 _ _ w.heap.size _ _ _ _ 26 rfl (blk_four HZ3.out _ _ _ _)) rfl ?_
    exact ⟨_, rfl, ndo_zero _ _, bel_put (bel_then HK3.out HB2.out) g (Nat.le_refl _)⟩
set_option maxHeartbeats 2000000 in
set_option maxRecDepth 100000 in
theorem parse_long (w : World) (p : Option Addr) (cap : Nat) (t : List UInt8) (hl : ¬ t.length ≤ 448) :
    Calls Try.prog 18 #[.slice p t.length cap] w fun e w' => ∃ v', e = .returned (.tuple #[v', .int .i64 80]) ∧ NdO w.heap.size w' v' nd0 ∧ Below w.heap.size w w' := by
    have hlz : (448 : Int) < (t.length : Int) := by omega
    go_enter Try.func18, Try.ntmps18
    go_wp2
    refine bodyPost_ret (results_c26t Try.results18 _ _ w.heap.size _ _ _ _ 26 rfl (World.alloc_heap_new w _)) rfl ?_
    exact ⟨_, rfl, ndo_zero _ _, bel1 _ _⟩
theorem parse18 (w : World) (v : Value) (t : List UInt8) (h : Bs w v t) :
    Calls Try.prog 18 #[v] w fun e w' => ∃ v', e = .returned (.tuple #[v', .int .i64 (chkE (okP t))]) ∧ NdO w.heap.size w' v' (parN t) ∧ Below w.heap.size w w' := by
  have hb := h
  obtain ⟨p, cap, rfl, -⟩ := h
  unfold parN
  by_cases hl : t.length ≤ 448
  · cases hf : (rNode (t, false)).2.2 with
    | true =>
      have e : okP t = false := by unfold okP; rw [hf]; simp
      rw [e]
      exact parse_fail w p cap t hb hl hf
    | false =>
      by_cases hT : (rNode (t, false)).2.1.length = 0
      · cases hm : may (rNode (t, false)).1 with
        | true =>
          have e : okP t = true := by unfold okP; rw [hf, hm, decide_eq_true hl, decide_eq_true hT]; rfl
          rw [e]
          exact parse_may w p cap t hb hl hf hT hm
        | false =>
          have e : okP t = false := by unfold okP; rw [hm]; simp
          rw [e]
          exact parse_not w p cap t hb hl hf hT hm
      · have e : okP t = false := by unfold okP; rw [decide_eq_false hT]; simp
        rw [e]
        exact parse_rest w p cap t hb hl hf hT
  · have e : okP t = false := by unfold okP; rw [decide_eq_false hl]; simp
    rw [e]
    exact parse_long w p cap t hl
end Go.Proofs.Ytbkpgppaahpalaa
