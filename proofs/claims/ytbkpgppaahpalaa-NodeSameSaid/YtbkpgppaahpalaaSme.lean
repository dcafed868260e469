/-
  NodeSame's walk.
-/
import Derived.Test.YtbkpgppaahpalaaSqc
import Derived.Test.YtbkpgppaahpalaaAdo
import Derived.Test.YtbkpgppaahpalaaRcn
import Derived.Test.YtbkpgppaahpalaaIns
import Derived.Test.YtbkpgppaahpalaaHvn
import Derived.Test.YtbkpgppaahpalaaShm
import Derived.Deep.RegionHeld3
import Derived.BigQuiet
import Derived.Lib.QuietBelow
import Derived.Lib.SlBytesConst
namespace Go.Proofs.Ytbkpgppaahpalaa
open Go.RowKit Go.Sort
set_option linter.unusedVariables false      -- a walk need not use every condition

theorem nd_parts {base : Nat} {u : World} {l vc vk vi : Value} {n : Nd} (h : NdO base u (.agg #[l, vc, vk, vi]) n) : CsO base u vc n.cells ∧ KsO base u vk n.keys ∧ IsO base u vi n.kids := by
  obtain ⟨vc', vk', vi', e, hC, hK, hI⟩ := h
  injection e with e
  obtain rfl : vc = vc' := congrArg (fun a : Array Value => a.getD 1 undef) e
  obtain rfl : vk = vk' := congrArg (fun a : Array Value => a.getD 2 undef) e
  obtain rfl : vi = vi' := congrArg (fun a : Array Value => a.getD 3 undef) e
  exact ⟨hC, hK, hI⟩
theorem k_bs {w : World} {g : Nat} (h : w.heap[g]? = some (.cells #[.int .u8 107] 5 (1, 2))) : Bs w (.slice (some ⟨g, 0, none⟩) 1 1) [107] :=
  ⟨_, 1, rfl, Nat.le_refl _, by unfold maxLen; omega, fun e => (by cases e), .inr ⟨g, 0, rfl, fun j v hv => by
    cases j with
    | zero => simp [enc] at hv; simp [World.cell?, h, ← hv]
    | succ j => simp [enc] at hv⟩⟩
theorem nd_parts' {u : World} {l vc vk vi : Value} {n : Nd} (h : NdS u (.agg #[l, vc, vk, vi]) n) : Cs u vc n.cells ∧ Ks u vk n.keys ∧ Is u vi n.kids := by
  obtain ⟨vc', vk', vi', e, hC, hK, hI⟩ := h
  injection e with e
  obtain rfl : vc = vc' := congrArg (fun a : Array Value => a.getD 1 undef) e
  obtain rfl : vk = vk' := congrArg (fun a : Array Value => a.getD 2 undef) e
  obtain rfl : vi = vi' := congrArg (fun a : Array Value => a.getD 3 undef) e
  exact ⟨hC, hK, hI⟩
theorem bel_cell {B : Nat} {w u : World} {a : Addr} {v : Value} (h : Below B w u) (hl : a.block < B) (e : w.cell? a = some v) : u.cell? a = some v := by rw [h.cell hl]; exact e
set_option maxHeartbeats 16000000 in
set_option maxRecDepth 100000 in
theorem nsame_go (w : World) (va vb : Value) (a b : Nd) (ha : NdS w va a) (hb : NdS w vb b) (hf : Fit a) (hin : ∀ c, a.cells[0]? = some c → Fit (insN a c)) (had : Fit (adN a [107] 1)) (hl1 : (a.cells.length + 1) * 64 ≤ 140737488355328) (hl2 : (a.keys.length + 1) * 24 ≤ 140737488355328) (hl3 : (a.kids.length + 1) * 8 ≤ 140737488355328) :
    Calls Try.prog 6 #[va, vb] w fun e w' => e = .returned (.bool true) ∧ Below w.heap.size w w' := by
  have HA := Lib.hid ha
  have HB := Lib.hid hb
  have HF := Lib.hid hf
  have HIN := Lib.hid hin
  have HAD := Lib.hid had
  have HL := Lib.hid (And.intro hl1 (And.intro hl2 hl3))
  obtain ⟨p1, c1, p2, c2, p3, c3, rfl⟩ := nds_hdr ha
  obtain ⟨q1, d1, q2, d2, q3, d3, rfl⟩ := nds_hdr hb
  obtain ⟨lf, hlf⟩ : ∃ x, a.leaf = x := ⟨_, rfl⟩
  obtain ⟨mf, hmf⟩ : ∃ x, b.leaf = x := ⟨_, rfl⟩
  rw [hlf] at HA ⊢
  rw [hmf] at HB ⊢
  have HLF := Lib.hid hlf
  clear ha hb hf hin had hl1 hl2 hl3 hlf hmf
  obtain ⟨w1, hw1⟩ : ∃ u, u = (w.alloc (.cells #[.bool lf, .slice p1 a.cells.length c1, .slice p2 a.keys.length c2, .slice p3 a.kids.length c3] 26)).alloc (.cells #[.bool mf, .slice q1 b.cells.length d1, .slice q2 b.keys.length d2, .slice q3 b.kids.length d3] 26) := ⟨_, rfl⟩
  have HX1 : Hid (w1.heap[w.heap.size]? = some (.cells #[.bool lf, .slice p1 a.cells.length c1, .slice p2 a.keys.length c2, .slice p3 a.kids.length c3] 26)) := by rw [hw1]; exact blk_on (bel1 _ _) (World.alloc_heap_new w _)
  have HY1 : Hid (w1.heap[w.heap.size + 1]? = some (.cells #[.bool mf, .slice q1 b.cells.length d1, .slice q2 b.keys.length d2, .slice q3 b.kids.length d3] 26)) := by rw [hw1]; exact new2 w _ _
  have HB1 : Hid (Below w.heap.size w w1) := by rw [hw1]; exact bel_then (bel1 _ _) (bel1 _ _)
  have HW1 := Lib.hid hw1
  have hc24 := rclone24 w1 _ a (HA.out.on HB1.out) HF.out
  rw [hw1] at hc24
  have HC24 := Lib.hid hc24
  clear hw1 hc24
  go_enter Try.func6, Try.ntmps6
  go_wp2_with (fail)
  refine HC24.out.mono ?_
  rintro e w2 ⟨v2, rfl, hn2, hb2⟩
  rw [← HW1.out] at hn2 hb2
  obtain ⟨r1, e1, r2, e2, r3, e3, rfl⟩ := hn2.hdr
  rw [HLF.out] at hn2 ⊢
  have HW2 := Lib.hid (blk_on hb2 HX1.out)
  have HV2 := Lib.hid (blk_on hb2 HY1.out)
  have HN2 := Lib.hid hn2
  have HB2 := Lib.hid (bel_then HB1.out hb2)
  obtain ⟨w3, hw3⟩ : ∃ u, u = w2.alloc (.cells #[.bool lf, .slice r1 a.cells.length e1, .slice r2 a.keys.length e2, .slice r3 a.kids.length e3] 26) := ⟨_, rfl⟩
  have hb3 : Below w2.heap.size w2 w3 := by rw [hw3]; exact bel1 _ _
  have HX3 := Lib.hid (blk_on hb3 HW2.out)
  have HY3 := Lib.hid (blk_on hb3 HV2.out)
  have HB3 := Lib.hid (bel_then HB2.out hb3)
  have HN3 := Lib.hid (hn2.s.on hb3)
  have H53 : Hid (w3.heap[w2.heap.size]? = some (.cells #[.bool lf, .slice r1 a.cells.length e1, .slice r2 a.keys.length e2, .slice r3 a.kids.length e3] 26)) := by rw [hw3]; exact World.alloc_heap_new w2 _
  have HW3 := Lib.hid hw3
  have HA3 := Lib.hid (HA.out.on HB3.out)
  have HBB3 := Lib.hid (HB.out.on HB3.out)
  clear hn2 hb2 hw3 hb3
  go_wp2_with (fail)
  rw [← HW3.out]
  obtain ⟨r, hr⟩ : ∃ r, nEq a b = r := ⟨_, rfl⟩
  have q12 : ∀ d os, Calls Try.prog 12 #[] (grow (redrawn w3 d) os) fun e w'' => e = .returned (.bool true) ∧ ∃ p : Regrown, w'' = grow (redrawn w3 p.d) p.os := fun d os => Calls.regrown_of (begun12 _)
  have q25 := fun d os => Calls.regrown_of (same25 _ _ _ a b (HA3.out.on (below_regrown w3 d os)) (HBB3.out.on (below_regrown w3 d os)))
  have q26 := fun d os => Calls.regrown_of (same25 _ _ _ a a (HA3.out.on (below_regrown w3 d os)) (HA3.out.on (below_regrown w3 d os)))
  have q20 := fun d os => Calls.regrown_of (same20q _ _ _ a b (HA3.out.on (below_regrown w3 d os)) (HBB3.out.on (below_regrown w3 d os)))
  rw [nEq_self] at q26
  rw [hr] at q25 q20
  obtain ⟨x0, x1, x2, x3⟩ := four_of HX3.out
  obtain ⟨y0, y1, y2, y3⟩ := four_of HY3.out
  have kx0 := cell_regrown x0
  have kx1 := cell_regrown x1
  have kx2 := cell_regrown x2
  have kx3 := cell_regrown x3
  have ky0 := cell_regrown y0
  have ky1 := cell_regrown y1
  have ky2 := cell_regrown y2
  have ky3 := cell_regrown y3
  clear hr
  refine wp_region_quiet_below (by kernel_rfl) (by kernel_rfl) ?_
  go_big_quiet_step (exact q12 _ _)
  go_big_quiet_step (exact q12 _ _)
  go_big_quiet_step (exact q12 _ _)
  go_big_quiet_step (exact q12 _ _)
  go_big_quiet_step (exact q12 _ _)
  go_big_quiet_step (exact q25 _ _)
  go_big_quiet_step (exact q25 _ _)
  go_big_quiet_step (exact q25 _ _)
  go_big_quiet_step (exact q20 _ _)
  go_big_quiet_step (exact q20 _ _)
  go_big_quiet_step (exact q20 _ _)
  go_big_quiet_step (exact q20 _ _)
  go_big_quiet_step (exact q20 _ _)
  go_big_quiet_step (exact q20 _ _)
  go_big_quiet_step (exact q26 _ _)
  go_big_quiet_step (exact q26 _ _)
  go_big_quiet_step (exact q26 _ _)
  refine wpQuiet_nil ?_
  intro _ hw'
  obtain ⟨⟨dq, osq⟩, hw''⟩ := hw'
  subst hw''
  have hb4 := below_regrown w3 dq osq
  generalize grow (redrawn w3 dq) osq = w4 at hb4 ⊢
  have HX4 := Lib.hid (blk_on hb4 HX3.out)
  have H54 := Lib.hid (blk_on hb4 H53.out)
  have HB4 := Lib.hid (bel_then HB3.out hb4)
  have HA4 := Lib.hid (HA3.out.on hb4)
  have HN4 := Lib.hid (HN3.out.on hb4)
  have hz4 : w2.heap.size < w4.heap.size := (Array.getElem?_eq_some_iff.1 H54.out).1
  clear x0 x1 x2 x3 y0 y1 y2 y3 kx0 kx1 kx2 kx3 ky0 ky1 ky2 ky3 q12 q25 q26 q20 hb4
  obtain ⟨x0, x1, x2, x3⟩ := four_of HX4.out
  go_wp2_with (fail)
  refine (clone26 _ _ a HA4.out HF.out).mono ?_
  rintro e w5 ⟨v5, rfl, hn5, hb5⟩
  obtain ⟨s1, f1, s2, f2, s3, f3, rfl⟩ := hn5.hdr
  rw [HLF.out] at hn5 ⊢
  obtain ⟨w6, hw6⟩ : ∃ u, u = w5.alloc (.cells #[.bool lf, .slice s1 a.cells.length f1, .slice s2 a.keys.length f2, .slice s3 a.kids.length f3] 26) := ⟨_, rfl⟩
  have hb6 : Below w5.heap.size w5 w6 := by rw [hw6]; exact bel1 _ _
  have hB46 : Below w4.heap.size w4 w6 := bel_then hb5 hb6
  have HX6 := Lib.hid (blk_on hB46 HX4.out)
  have HN6 := Lib.hid (hn5.on hb6)
  have HT6 : Hid (w6.heap[w5.heap.size]? = some (.cells #[.bool lf, .slice s1 a.cells.length f1, .slice s2 a.keys.length f2, .slice s3 a.kids.length f3] 26)) := by rw [hw6]; exact World.alloc_heap_new w5 _
  have HW6 := Lib.hid hw6
  have HB46 := Lib.hid hB46
  have hz5 : w4.heap.size ≤ w5.heap.size := hb5.size
  have hz6 : w6.heap.size = w5.heap.size + 1 := by rw [hw6]; simp
  obtain ⟨x0, x1, x2, x3⟩ := four_of HX6.out
  obtain ⟨t0, t1, t2, t3⟩ := four_of HT6.out
  rw [HW6.out] at x0 x1 x2 x3 t0 t1 t2 t3
  clear hn5 hb5 hb6 hw6 hB46
  go_wp2_with (fail)
  rw [← HW6.out]
  refine (same20 _ _ _ a (HA4.out.on HB46.out) (by have := HN6.out.s; exact this)).mono ?_
  rintro e w7 ⟨rfl, hb7⟩
  have HB47 := Lib.hid (bel_then HB46.out hb7)
  have HX7 := Lib.hid (blk_on hb7 HX6.out)
  have HT7 := Lib.hid (blk_on hb7 HT6.out)
  have HN7 := Lib.hid (HN6.out.on hb7)
  have hz7 : w5.heap.size < w7.heap.size := (Array.getElem?_eq_some_iff.1 HT7.out).1
  obtain ⟨x0, x1, x2, x3⟩ := four_of HX7.out
  obtain ⟨t0, t1, t2, t3⟩ := four_of HT7.out
  clear hb7
  go_wp2
  have hnc : a.cells.length ≤ 9223372036854775807 := by have := HL.out.1; omega
  have hnk : a.keys.length ≤ 9223372036854775807 := by have := HL.out.2.1; omega
  have hni : a.kids.length ≤ 9223372036854775807 := by have := HL.out.2.2; omega
  have HKC := Lib.hid (nd_parts HN7.out).1
  have HKK := Lib.hid (nd_parts HN7.out).2.1
  have HKI := Lib.hid (nd_parts HN7.out).2.2
  have HT1 := Lib.hid t1
  have HT2 := Lib.hid t2
  have HT3 := Lib.hid t3
  clear x0 x1 x2 x3 t0 t1 t2 t3
  go_loopg [44] a.cells.length (fun g s44 wr => ∃ i : Nat, i + g = a.cells.length ∧ s44 = .int .i64 i ∧ Hid (Mut w4.heap.size w7 wr))
  case atStart => exact ⟨0, by omega, rfl, Mut.refl _ _⟩
  case round =>
    obtain ⟨i, hig, rfl, hm⟩ := hrel
    have ht1 := hm.out.hdr _ _ _ _ _ HT1.out
    have ht3 := hm.out.hdr _ _ _ _ _ HT3.out
    cases gk with
    | succ g =>
      have hi : i < a.cells.length := by omega
      have hiz : (i : Int) < (a.cells.length : Int) := by omega
      have hi0 : (0 : Int) ≤ (i : Int) := by omega
      obtain ⟨g0, cap0, k, e, hg0, hgs, hfr, z0, z2, z3, hk⟩ := HKC.out.cell hi
      injection e with ea eb ec
      subst ea ec
      obtain ⟨m3, y3⟩ := hm.out.int _ _ _ _ z3
      have yf := hm.out.fr g0 (i * 4 + 3) hgs (hfr _)
      have HK := Lib.hid hk
      generalize a.cells[i].key = ky at *
      obtain ⟨pk, ck, rfl, hkl⟩ := own_hdr hk
      have y0 := hm.out.hdr _ _ _ _ _ z0
      have s1' : ∀ x, (wr.setCell ⟨g0, i * 4 + 3, none⟩ (.int .i64 x)).cell? ⟨w5.heap.size, 1, none⟩ = some (.slice (some ⟨g0, 0, none⟩) a.cells.length f1) := fun x => (Mut.set hg0 y3 x).hdr _ _ _ _ _ ht1
      have s0' : ∀ x, (wr.setCell ⟨g0, i * 4 + 3, none⟩ (.int .i64 x)).cell? ⟨g0, i * 4, none⟩ = some (.slice pk ky.length ck) := fun x => (Mut.set hg0 y3 x).hdr _ _ _ _ _ y0
      have HM2 := Lib.hid (fun x => hm.out.trans (Mut.set hg0 y3 x))
      have HZ0 := Lib.hid z0
      clear eb z2 z3 z0 hk hfr ht3
      go_wp2
      go_loopg [63] ky.length (fun g s63 wr2 => ∃ j : Nat, j + g = ky.length ∧ s63 = .int .i64 j ∧ Hid (Mut w4.heap.size w7 wr2))
      case atStart => exact ⟨0, by omega, rfl, HM2.out _⟩
      case round =>
        obtain ⟨j, hjg, rfl, hm3⟩ := hrel
        clear s1' s0' y3 yf y0 ht1
        have ht1 := hm3.out.hdr _ _ _ _ _ HT1.out
        have y0 := hm3.out.hdr _ _ _ _ _ HZ0.out
        cases gk with
        | succ g' =>
          have hj : j < ky.length := by omega
          have hjz : (j : Int) < (ky.length : Int) := by omega
          have hj0 : (0 : Int) ≤ (j : Int) := by omega
          obtain ⟨gb, capb, eb, hgb, hbs, hbf, xb, hx⟩ := HK.out.byte hj
          injection eb with eba ebb ebc
          subst eba ebc
          obtain ⟨mb, xb'⟩ := hm3.out.int _ _ _ _ hx
          have bf := hm3.out.fr gb j hbs (hbf _)
          clear ebb hbf hx
          go_wp2
          go_roundg g'
          case measure => omega
          case rel => exact ⟨j + 1, by omega, by first | rfl | simp, hm3.out.trans (Mut.set hgb xb' _)⟩
        | zero =>
          go_wp2
          go_roundg g
          case measure => omega
          case rel => exact ⟨i + 1, by omega, by first | rfl | simp, hm3.out⟩
    | zero =>
      obtain rfl : i = a.cells.length := by omega
      clear ht1
      go_wp2
      go_loopg [82] a.kids.length (fun g s82 wr => ∃ i : Nat, i + g = a.kids.length ∧ s82 = .int .i64 i ∧ Hid (Mut w4.heap.size w7 wr))
      case atStart => exact ⟨0, by omega, rfl, hm.out⟩
      case round =>
        clear ht3 hm
        obtain ⟨i, hig, rfl, hm⟩ := hrel
        have ht3 := hm.out.hdr _ _ _ _ _ HT3.out
        have ht2 := hm.out.hdr _ _ _ _ _ HT2.out
        cases gk with
        | succ g =>
          have hi : i < a.kids.length := by omega
          have hiz : (i : Int) < (a.kids.length : Int) := by omega
          have hi0 : (0 : Int) ≤ (i : Int) := by omega
          obtain ⟨g0, cap0, e, hg0, hgs, hfr, z0⟩ := HKI.out.kid hi
          injection e with ea eb ec
          subst ea ec
          obtain ⟨m3, y3⟩ := hm.out.int _ _ _ _ z0
          have yf := hm.out.fr g0 i hgs (hfr _)
          clear eb z0 hfr ht2
          go_wp2
          go_roundg g
          case measure => omega
          case rel => exact ⟨i + 1, by omega, by first | rfl | simp, hm.out.trans (Mut.set hg0 y3 _)⟩
        | zero =>
          obtain rfl : i = a.kids.length := by omega
          clear ht3
          go_wp2
          go_loopg [96] a.keys.length (fun g s96 wr => ∃ i : Nat, i + g = a.keys.length ∧ s96 = .int .i64 i ∧ Hid (Mut w4.heap.size w7 wr))
          case atStart => exact ⟨0, by omega, rfl, hm.out⟩
          case round =>
            clear ht2 hm
            obtain ⟨i, hig, rfl, hm⟩ := hrel
            have ht2 := hm.out.hdr _ _ _ _ _ HT2.out
            cases gk with
            | succ g =>
              have hi : i < a.keys.length := by omega
              have hiz : (i : Int) < (a.keys.length : Int) := by omega
              have hi0 : (0 : Int) ≤ (i : Int) := by omega
              obtain ⟨g0, cap0, k, e, hg0, hgs, z0, hk⟩ := HKK.out.key hi
              injection e with ea eb ec
              subst ea ec
              have HK := Lib.hid hk
              generalize a.keys[i] = ky at *
              obtain ⟨pk, ck, rfl, hkl⟩ := own_hdr hk
              have y0 := hm.out.hdr _ _ _ _ _ z0
              have HZ0 := Lib.hid z0
              clear eb z0 hk
              go_wp2
              go_loopg [105] ky.length (fun g s105 wr2 => ∃ j : Nat, j + g = ky.length ∧ s105 = .int .i64 j ∧ Hid (Mut w4.heap.size w7 wr2))
              case atStart => exact ⟨0, by omega, rfl, hm.out⟩
              case round =>
                obtain ⟨j, hjg, rfl, hm3⟩ := hrel
                clear y0 ht2
                have ht2 := hm3.out.hdr _ _ _ _ _ HT2.out
                have y0 := hm3.out.hdr _ _ _ _ _ HZ0.out
                cases gk with
                | succ g' =>
                  have hj : j < ky.length := by omega
                  have hjz : (j : Int) < (ky.length : Int) := by omega
                  have hj0 : (0 : Int) ≤ (j : Int) := by omega
                  obtain ⟨gb, capb, eb, hgb, hbs, hbf, xb, hx⟩ := HK.out.byte hj
                  injection eb with eba ebb ebc
                  subst eba ebc
                  obtain ⟨mb, xb'⟩ := hm3.out.int _ _ _ _ hx
                  have bf := hm3.out.fr gb j hbs (hbf _)
                  clear ebb hbf hx
                  go_wp2
                  go_roundg g'
                  case measure => omega
                  case rel => exact ⟨j + 1, by omega, by first | rfl | simp, hm3.out.trans (Mut.set hgb xb' _)⟩
                | zero =>
                  go_wp2
                  go_roundg g
                  case measure => omega
                  case rel => exact ⟨i + 1, by omega, by first | rfl | simp, hm3.out⟩
            | zero =>
              obtain rfl : i = a.keys.length := by omega
              clear ht2
              have hBu := HB47.out.trans hm.out.bel
              have hlx : w.heap.size < w4.heap.size := (Array.getElem?_eq_some_iff.1 HX4.out).1
              have HSX := Lib.hid (fun u (hu : Below w4.heap.size w4 u) => (show u.heap[w.heap.size]? = some (.cells #[.bool lf, .slice p1 a.cells.length c1, .slice p2 a.keys.length c2, .slice p3 a.kids.length c3] 26) from (hu.block _ hlx).trans HX4.out))
              have HS5 := Lib.hid (fun u (hu : Below w4.heap.size w4 u) => (show u.heap[w2.heap.size]? = some (.cells #[.bool lf, .slice r1 a.cells.length e1, .slice r2 a.keys.length e2, .slice r3 a.kids.length e3] 26) from (hu.block _ hz4).trans H54.out))
              have HBu := Lib.hid hBu
              obtain ⟨x0, x1, x2, x3⟩ := four_of (HSX.out _ hBu)
              clear hBu hm
              by_cases h0 : 0 < a.cells.length
              case pos =>
                have h0z : (0 : Int) < (a.cells.length : Int) := by omega
                obtain ⟨g9, o9, cap9, k9, y9, e9, z0, z1, z2, z3, hk9, hy9, hio, hil⟩ := (nd_parts' HA4.out).1.at h0
                injection e9 with ea eb ec
                subst ea ec
                have hce : CeS w4 (.agg #[k9, y9, .int .i64 a.cells[0].over, .int .i64 a.cells[0].len]) a.cells[0] := ⟨k9, y9, rfl, hk9, hy9, hio, hil⟩
                obtain ⟨kp, kc, rfl, -, -⟩ := hk9.slice
                obtain ⟨yp, yc, rfl, -, -⟩ := hy9.slice
                obtain ⟨X, hX⟩ : ∃ X, insN a a.cells[0] = X := ⟨_, rfl⟩
                have C27 : Hid (∀ (u : World), Below w4.heap.size w4 u → Calls Try.prog 27 #[.agg #[.bool lf, .slice (some ⟨g9, o9, none⟩) a.cells.length c1, .slice p2 a.keys.length c2, .slice p3 a.kids.length c3], .agg #[.slice kp a.cells[0].key.length kc, .slice yp a.cells[0].val.length yc, .int .i64 a.cells[0].over, .int .i64 a.cells[0].len]] u fun e w' => ∃ v', e = .returned v' ∧ NdO w4.heap.size w' v' X ∧ Below u.heap.size u w') := fun u hu =>
                  (insert27 u _ _ a a.cells[0] (HA4.out.on hu) (CeS.on hce hu) (HIN.out _ (List.getElem?_eq_getElem h0)) HL.out.1).mono fun e w' ⟨v', h1, h2, h3⟩ => ⟨v', h1, by rw [← hX]; exact h2.low hu.size, h3⟩
                simp only [Nat.zero_mul, Nat.add_zero] at z0 z1 z2 z3
                generalize a.cells[0] = CC at *
                have HS : Hid (∀ u, Below w4.heap.size w4 u → ((u.cell? ⟨w.heap.size, 0, none⟩ = some (.bool lf) ∧ u.cell? ⟨w.heap.size, 1, none⟩ = some (.slice (some ⟨g9, o9, none⟩) a.cells.length c1) ∧ u.cell? ⟨w.heap.size, 2, none⟩ = some (.slice p2 a.keys.length c2) ∧ u.cell? ⟨w.heap.size, 3, none⟩ = some (.slice p3 a.kids.length c3)) ∧ u.cell? ⟨g9, o9, none⟩ = some (.slice kp CC.key.length kc) ∧ u.cell? ⟨g9, o9 + 1, none⟩ = some (.slice yp CC.val.length yc) ∧ u.cell? ⟨g9, o9 + 2, none⟩ = some (.int .i64 CC.over) ∧ u.cell? ⟨g9, o9 + 3, none⟩ = some (.int .i64 CC.len))) := fun u hu => ⟨four_of (HSX.out _ hu), cell_bel hu z0, cell_bel hu z1, cell_bel hu z2, cell_bel hu z3⟩
                have Q0 : Below w4.heap.size w4 wr.drew := HBu.out.drew
                clear z0 z1 z2 z3 hk9 hy9 hio hil hce hX eb x0 x2 x3
                generalize CC.key.length = n1 at *
                generalize CC.val.length = n2 at *
                generalize CC.over = n3 at *
                generalize CC.len = n4 at *
                go_wp2
                go_cut [12] from 124 to 129 (fun s12 wx => ∃ (T : Nat) (l1 l2 l3 : Value), s12 = .pointer (some ⟨T, 0, none⟩) ∧ Hid (w4.heap.size ≤ T ∧ T < wx.heap.size) ∧ Hid (wx.heap[T]? = some (Obj.cells #[.bool X.leaf, l1, l2, l3] 26)) ∧ Hid (Below w4.heap.size w4 wx) ∧ Hid (NdO w4.heap.size wx (.agg #[.bool X.leaf, l1, l2, l3]) X))
                case first =>
                  clear x1
                  have zz4 : w4.heap.size ≤ wr.heap.size := HBu.out.size
                  have zzd : w4.heap.size ≤ wr.drew.heap.size := HBu.out.size
                  go_region_held3 (fun u => (u.cell? ⟨w.heap.size, 0, none⟩ = some (.bool lf) ∧ u.cell? ⟨w.heap.size, 1, none⟩ = some (.slice (some ⟨g9, o9, none⟩) a.cells.length c1) ∧ u.cell? ⟨w.heap.size, 2, none⟩ = some (.slice p2 a.keys.length c2) ∧ u.cell? ⟨w.heap.size, 3, none⟩ = some (.slice p3 a.kids.length c3)) ∧ u.cell? ⟨g9, o9, none⟩ = some (.slice kp n1 kc) ∧ u.cell? ⟨g9, o9 + 1, none⟩ = some (.slice yp n2 yc) ∧ u.cell? ⟨g9, o9 + 2, none⟩ = some (.int .i64 n3) ∧ u.cell? ⟨g9, o9 + 3, none⟩ = some (.int .i64 n4)) (with_reducible exact HS.out _ (by first | with_reducible assumption | with_reducible exact bel_then (by with_reducible assumption) (bel1 _ _) | with_reducible exact bel_put (by with_reducible assumption) (gr_four _ _ _ _ _ _) (by omega) | with_reducible exact (bel_then HBu.out (bel1 _ _)).drew | with_reducible exact bel_then HBu.out.drew (bel1 _ _)))
                    (first
                      | (go_at_call 27; with_reducible refine (C27.out _ (by first | with_reducible assumption | with_reducible exact bel_then (by with_reducible assumption) (bel1 _ _) | with_reducible exact bel_put (by with_reducible assumption) (gr_four _ _ _ _ _ _) (by omega) | with_reducible exact (bel_then HBu.out (bel1 _ _)).drew | with_reducible exact bel_then HBu.out.drew (bel1 _ _))).mono ?_; rintro e wI ⟨vI, rfl, hnI, hbI⟩; obtain ⟨a1, b1, a2, b2, a3, b3, rfl⟩ := hnI.hdr; have QI : Below w4.heap.size w4 wI := bel_then (by first | with_reducible assumption | with_reducible exact bel_then (by with_reducible assumption) (bel1 _ _) | with_reducible exact bel_put (by with_reducible assumption) (gr_four _ _ _ _ _ _) (by omega) | with_reducible exact (bel_then HBu.out (bel1 _ _)).drew | with_reducible exact bel_then HBu.out.drew (bel1 _ _)) hbI; have zI := hbI.size; have zI2 := QI.size; (try (have BT := blk_on hbI (World.alloc_heap_new _ _); obtain ⟨tz0, tz1, tz2, tz3⟩ := four_of BT; have tf0 := four_fr BT 0; have tf1 := four_fr BT 1; have tf2 := four_fr BT 2; have tf3 := four_fr BT 3)); have HNI := Lib.hid hnI; clear hnI hbI))
                  all_goals
                    go_wp2
                    go_meet
                    case rel =>
                      first
                        | exact ⟨_, _, _, _, rfl, (show _ ∧ _ from ⟨QI.size, by rw [World.size_alloc]; omega⟩), World.alloc_heap_new _ _, bel_then QI (bel1 _ _), HNI.out.on (bel1 _ _)⟩
                        | exact ⟨_, _, _, _, rfl, (show _ ∧ _ from ⟨by omega, Nat.lt_of_lt_of_le (Array.getElem?_eq_some_iff.1 BT).1 (gr_four _ _ _ _ _ _).size⟩), blk_four BT _ _ _ _, bel_put QI (gr_four _ _ _ _ _ _) (by omega), HNI.out.gr (gr_four _ _ _ _ _ _) BT (by decide) (by decide) (by decide) (by decide)⟩
                case rest =>
                  obtain ⟨wx, rfl⟩ : ∃ v, v = wc := ⟨_, rfl⟩
                  obtain ⟨T, l1, l2, l3, rfl, hTz, hT, hBx, hNx⟩ := hcut
                  have HKX := Lib.hid (nd_parts hNx.out).1
                  obtain ⟨vv, hvo, -⟩ := HKX.out
                  obtain ⟨lp, lc, rfl, hlx2⟩ := own_hdr hvo
                  obtain ⟨t0, t1, t2, t3⟩ := four_of hT.out
                  have HTX := Lib.hid t1
                  clear hvo t0 t2 t3 x1
                  go_wp2
                  go_loopg [133] X.cells.length (fun g s133 wq => ∃ i : Nat, i + g = X.cells.length ∧ s133 = .int .i64 i ∧ Hid (Mut w4.heap.size wx wq))
                  case atStart => exact ⟨0, by omega, rfl, Mut.refl _ _⟩
                  case round =>
                    clear t1
                    obtain ⟨i, hig, rfl, hm⟩ := hrel
                    have ht1 := hm.out.hdr _ _ _ _ _ HTX.out
                    cases gk with
                    | succ g =>
                      have hi : i < X.cells.length := by omega
                      have hiz : (i : Int) < (X.cells.length : Int) := by omega
                      have hi0 : (0 : Int) ≤ (i : Int) := by omega
                      obtain ⟨g0, cap0, k, e, hg0, hgs, hfr, z0, z2, z3, hk⟩ := HKX.out.cell hi
                      injection e with ea eb ec
                      subst ea ec
                      obtain ⟨m3, y3⟩ := hm.out.int _ _ _ _ z2
                      have yf := hm.out.fr g0 (i * 4 + 2) hgs (hfr _)
                      clear eb z0 z2 z3 hk hfr
                      go_wp2
                      go_roundg g
                      case measure => omega
                      case rel => exact ⟨i + 1, by omega, by first | rfl | simp, hm.out.trans (Mut.set hg0 y3 _)⟩
                    | zero =>
                      clear ht1
                      have hBt := hBx.out.trans hm.out.bel
                      obtain ⟨x0, x1, x2, x3⟩ := four_of (HSX.out _ hBt)
                      obtain ⟨w9, hw9⟩ : ∃ x, x = wr.alloc (.cells #[.int .u8 107] 5 (1, 2)) := ⟨_, rfl⟩
                      have hb9 : Below wr.heap.size wr w9 := by rw [hw9]; exact bel1 _ _
                      have hk9 : w9.heap[wr.heap.size]? = some (.cells #[.int .u8 107] 5 (1, 2)) := by rw [hw9]; exact World.alloc_heap_new _ _
                      have hB9 := bel_then hBt hb9
                      have hbk := k_bs hk9
                      have kc27 := fun (w : World) (C : Array Value) (n c : Nat) => Lib.run_convert_bytes_const (P := Try.prog) w 27 5 C n c Try.underlying27 Try.underlying5
                      have hc28 := adopt28 w9 _ _ a [107] 1 (HA4.out.on hB9) hbk (by unfold I64; omega) HAD.out HL.out.2.1 HL.out.2.2
                      have HC28 := Lib.hid hc28
                      have HB9 := Lib.hid hB9
                      have HW9 := Lib.hid hw9
                      clear hw9 hb9 hk9 hB9 hbk hc28 hBt
                      go_wp2_with (fail)
                      rw [← HW9.out]
                      refine HC28.out.mono ?_
                      rintro e w10 ⟨v10, rfl, hn10, hb10⟩
                      have hB10 := bel_then HB9.out hb10
                      obtain ⟨Y, hY⟩ : ∃ Y, adN a [107] 1 = Y := ⟨_, rfl⟩
                      rw [hY] at hn10
                      obtain ⟨a1, b1, a2, b2, a3, b3, rfl⟩ := hn10.hdr
                      have hni' : Y.kids.length ≤ 9223372036854775807 := by rw [← hY]; simp [adN]; have := HL.out.2.2; omega
                      obtain ⟨w11, hw11⟩ : ∃ x, x = w10.alloc (.cells #[.bool Y.leaf, .slice a1 Y.cells.length b1, .slice a2 Y.keys.length b2, .slice a3 Y.kids.length b3] 26) := ⟨_, rfl⟩
                      have hb11 : Below w10.heap.size w10 w11 := by rw [hw11]; exact bel1 _ _
                      have HT11 : Hid (w11.heap[w10.heap.size]? = some (.cells #[.bool Y.leaf, .slice a1 Y.cells.length b1, .slice a2 Y.keys.length b2, .slice a3 Y.kids.length b3] 26)) := by rw [hw11]; exact World.alloc_heap_new _ _
                      have HN11 := Lib.hid ((hn10.on hb11).low HB9.out.size)
                      have HB11 := Lib.hid (bel_then hB10 hb11)
                      have HW11 := Lib.hid hw11
                      have HKI11 := Lib.hid (nd_parts HN11.out).2.2
                      obtain ⟨t0, t1, t2, t3⟩ := four_of HT11.out
                      have HT311 := Lib.hid t3
                      rw [HW11.out] at t3
                      clear t0 t1 t2 hn10 hb10 hB10 hY hb11 hw11 x0 x1 x2 x3
                      go_wp2
                      rw [← HW11.out]
                      go_loopg [153] Y.kids.length (fun g s153 wq => ∃ i : Nat, i + g = Y.kids.length ∧ s153 = .int .i64 i ∧ Hid (Mut w4.heap.size w11 wq))
                      case atStart => exact ⟨0, by omega, rfl, Mut.refl _ _⟩
                      case round =>
                        clear t3
                        obtain ⟨i, hig, rfl, hm⟩ := hrel
                        have ht3 := hm.out.hdr _ _ _ _ _ HT311.out
                        cases gk with
                        | succ g =>
                          have hi : i < Y.kids.length := by omega
                          have hiz : (i : Int) < (Y.kids.length : Int) := by omega
                          have hi0 : (0 : Int) ≤ (i : Int) := by omega
                          obtain ⟨g0, cap0, e, hg0, hgs, hfr, z0⟩ := HKI11.out.kid hi
                          injection e with ea eb ec
                          subst ea ec
                          obtain ⟨m3, y3⟩ := hm.out.int _ _ _ _ z0
                          have yf := hm.out.fr g0 i hgs (hfr _)
                          clear eb z0 hfr
                          go_wp2
                          go_roundg g
                          case measure => omega
                          case rel => exact ⟨i + 1, by omega, by first | rfl | simp, hm.out.trans (Mut.set hg0 y3 _)⟩
                        | zero =>
                          clear ht3
                          have hBe := HB11.out.trans hm.out.bel
                          obtain ⟨x0, x1, x2, x3⟩ := four_of (HSX.out _ hBe)
                          obtain ⟨v0, v1, v2, v3⟩ := four_of (HS5.out _ hBe)
                          have HBe := Lib.hid hBe
                          clear hBe hm
                          go_wp2_with (fail)
                          refine (same20 _ _ _ a (HA4.out.on HBe.out) (HN4.out.on HBe.out)).mono ?_
                          rintro e w12 ⟨rfl, hb12⟩
                          go_wp2
                          go_ret
                          exact ⟨rfl, bel_then (bel_then HB4.out HBe.out) hb12⟩
              case neg =>
                have h0z : ¬ (0 : Int) < (a.cells.length : Int) := by omega
                have hBt := HBu.out
                obtain ⟨x0, x1, x2, x3⟩ := four_of (HSX.out _ hBt)
                obtain ⟨w9, hw9⟩ : ∃ x, x = wr.alloc (.cells #[.int .u8 107] 5 (1, 2)) := ⟨_, rfl⟩
                have hb9 : Below wr.heap.size wr w9 := by rw [hw9]; exact bel1 _ _
                have hk9 : w9.heap[wr.heap.size]? = some (.cells #[.int .u8 107] 5 (1, 2)) := by rw [hw9]; exact World.alloc_heap_new _ _
                have hB9 := bel_then hBt hb9
                have hbk := k_bs hk9
                have kc27 := fun (w : World) (C : Array Value) (n c : Nat) => Lib.run_convert_bytes_const (P := Try.prog) w 27 5 C n c Try.underlying27 Try.underlying5
                have hc28 := adopt28 w9 _ _ a [107] 1 (HA4.out.on hB9) hbk (by unfold I64; omega) HAD.out HL.out.2.1 HL.out.2.2
                have HC28 := Lib.hid hc28
                have HB9 := Lib.hid hB9
                have HW9 := Lib.hid hw9
                clear hw9 hb9 hk9 hB9 hbk hc28 hBt
                go_wp2_with (fail)
                rw [← HW9.out]
                refine HC28.out.mono ?_
                rintro e w10 ⟨v10, rfl, hn10, hb10⟩
                have hB10 := bel_then HB9.out hb10
                obtain ⟨Y, hY⟩ : ∃ Y, adN a [107] 1 = Y := ⟨_, rfl⟩
                rw [hY] at hn10
                obtain ⟨a1, b1, a2, b2, a3, b3, rfl⟩ := hn10.hdr
                have hni' : Y.kids.length ≤ 9223372036854775807 := by rw [← hY]; simp [adN]; have := HL.out.2.2; omega
                obtain ⟨w11, hw11⟩ : ∃ x, x = w10.alloc (.cells #[.bool Y.leaf, .slice a1 Y.cells.length b1, .slice a2 Y.keys.length b2, .slice a3 Y.kids.length b3] 26) := ⟨_, rfl⟩
                have hb11 : Below w10.heap.size w10 w11 := by rw [hw11]; exact bel1 _ _
                have HT11 : Hid (w11.heap[w10.heap.size]? = some (.cells #[.bool Y.leaf, .slice a1 Y.cells.length b1, .slice a2 Y.keys.length b2, .slice a3 Y.kids.length b3] 26)) := by rw [hw11]; exact World.alloc_heap_new _ _
                have HN11 := Lib.hid ((hn10.on hb11).low HB9.out.size)
                have HB11 := Lib.hid (bel_then hB10 hb11)
                have HW11 := Lib.hid hw11
                have HKI11 := Lib.hid (nd_parts HN11.out).2.2
                obtain ⟨t0, t1, t2, t3⟩ := four_of HT11.out
                have HT311 := Lib.hid t3
                rw [HW11.out] at t3
                clear t0 t1 t2 hn10 hb10 hB10 hY hb11 hw11 x0 x1 x2 x3
                go_wp2
                rw [← HW11.out]
                go_loopg [153] Y.kids.length (fun g s153 wq => ∃ i : Nat, i + g = Y.kids.length ∧ s153 = .int .i64 i ∧ Hid (Mut w4.heap.size w11 wq))
                case atStart => exact ⟨0, by omega, rfl, Mut.refl _ _⟩
                case round =>
                  clear t3
                  obtain ⟨i, hig, rfl, hm⟩ := hrel
                  have ht3 := hm.out.hdr _ _ _ _ _ HT311.out
                  cases gk with
                  | succ g =>
                    have hi : i < Y.kids.length := by omega
                    have hiz : (i : Int) < (Y.kids.length : Int) := by omega
                    have hi0 : (0 : Int) ≤ (i : Int) := by omega
                    obtain ⟨g0, cap0, e, hg0, hgs, hfr, z0⟩ := HKI11.out.kid hi
                    injection e with ea eb ec
                    subst ea ec
                    obtain ⟨m3, y3⟩ := hm.out.int _ _ _ _ z0
                    have yf := hm.out.fr g0 i hgs (hfr _)
                    clear eb z0 hfr
                    go_wp2
                    go_roundg g
                    case measure => omega
                    case rel => exact ⟨i + 1, by omega, by first | rfl | simp, hm.out.trans (Mut.set hg0 y3 _)⟩
                  | zero =>
                    clear ht3
                    have hBe := HB11.out.trans hm.out.bel
                    obtain ⟨x0, x1, x2, x3⟩ := four_of (HSX.out _ hBe)
                    obtain ⟨v0, v1, v2, v3⟩ := four_of (HS5.out _ hBe)
                    have HBe := Lib.hid hBe
                    clear hBe hm
                    go_wp2_with (fail)
                    refine (same20 _ _ _ a (HA4.out.on HBe.out) (HN4.out.on HBe.out)).mono ?_
                    rintro e w12 ⟨rfl, hb12⟩
                    go_wp2
                    go_ret
                    exact ⟨rfl, bel_then (bel_then HB4.out HBe.out) hb12⟩
theorem fit_insO (n : Nd) (c : C) (hf : Fit n) (hr : Room n) (hc : c ∈ n.cells) : Fit (insN n c) := by
  obtain ⟨f1, f2, f3, f4, f5⟩ := hf
  have hle := fnd_le c.key n.cells
  refine ⟨?_, f2, f3, fun d hd => ?_, f5⟩
  · show (insC c n.cells).length * 64 ≤ _
    have := hr.1
    unfold insC
    split <;> (rw [List.length_append, List.length_take, List.length_cons, List.length_drop]; omega)
  · have hd' : d ∈ insC c n.cells := hd
    have hm : d = c ∨ d ∈ n.cells := by
      unfold insC at hd'
      split at hd'
      · rcases List.mem_append.1 hd' with h | h
        · exact .inr (List.mem_of_mem_take h)
        · rcases List.mem_cons.1 h with h | h
          · exact .inl h
          · exact .inr (List.mem_of_mem_drop h)
      · rcases List.mem_append.1 hd' with h | h
        · exact .inr (List.mem_of_mem_take h)
        · rcases List.mem_cons.1 h with h | h
          · exact .inl h
          · exact .inr (List.mem_of_mem_drop h)
    rcases hm with rfl | h
    · exact f4 _ hc
    · exact f4 d h
theorem fit_ad (n : Nd) (hf : Fit n) (hr : Room n) : Fit (adN n [107] 1) := by
  obtain ⟨f1, f2, f3, f4, f5⟩ := hf
  obtain ⟨r1, r2, r3⟩ := hr
  refine ⟨f1, ?_, ?_, f4, fun d hd => ?_⟩
  · show (n.keys.take 0 ++ [107] :: n.keys.drop 0).length * 24 ≤ _
    simp; omega
  · show (n.kids.take (min 1 n.kids.length) ++ 1 :: n.kids.drop (min 1 n.kids.length)).length * 8 ≤ _
    rw [List.length_append, List.length_take, List.length_cons, List.length_drop]; omega
  · have hd' : d ∈ n.keys.take 0 ++ [107] :: n.keys.drop 0 := hd
    simp at hd'
    rcases hd' with rfl | h
    · simp
    · exact f5 d h
theorem nsame6 (w : World) (va vb : Value) (a b : Nd) (ha : NdS w va a) (hb : NdS w vb b) (hf : Fit a) (hr : Room a) :
    Calls Try.prog 6 #[va, vb] w fun e w' => e = .returned (.bool true) ∧ Below w.heap.size w w' := by
  have r1 := hr.1
  have r2 := hr.2.1
  have r3 := hr.2.2
  refine nsame_go w va vb a b ha hb hf (fun c hc => fit_insO a c hf hr ?_) (fit_ad a hf hr) (by omega) (by omega) (by omega)
  obtain ⟨h, e⟩ := List.getElem?_eq_some_iff.1 hc
  rw [← e]
  exact List.getElem_mem h
end Go.Proofs.Ytbkpgppaahpalaa
