/-
  NodeHalves where a node is parted.
-/
import Derived.Test.YtbkpgppaahpalaaHvi
namespace Go.Proofs.Ytbkpgppaahpalaa
open Go.RowKit
set_option linter.unusedVariables false      -- a walk need not use every condition

theorem hdrO_c {base : Nat} {w : World} {v : Value} {L : List C} (h : CsO base w v L) : ∃ p c, v = .slice p L.length c ∧ True := by
  obtain ⟨_, h, -⟩ := h
  obtain ⟨p, c, e, -⟩ := own_hdr h
  exact ⟨p, c, e, trivial⟩
theorem hdrO_k {base : Nat} {w : World} {v : Value} {L : List (List UInt8)} (h : KsO base w v L) : ∃ p c, v = .slice p L.length c ∧ True := by
  obtain ⟨_, h, -⟩ := h
  obtain ⟨p, c, e, -⟩ := own_hdr h
  exact ⟨p, c, e, trivial⟩
theorem hdrO_i {base : Nat} {w : World} {v : Value} {L : List Int} (h : IsO base w v L) : ∃ p c, v = .slice p L.length c ∧ True := by
  obtain ⟨_, h, -⟩ := h
  obtain ⟨p, c, e, -⟩ := own_hdr h
  exact ⟨p, c, e, trivial⟩
theorem build26 (u : World) (lf : Bool) (p q r : Option Addr) (a b c d e f : Nat) : (Instr.build 26 #[(0, .bool lf), (1, .slice p a b), (2, .slice q c d), (3, .slice r e f)]).run Try.prog u = .ok (.agg #[.bool lf, .slice p a b, .slice q c d, .slice r e f]) u := by
  simp [go_sem]
theorem blk_dr9 {w : World} {k : Nat} {o : Obj} (h : w.heap[k]? = some o) : w.drew.heap[k]? = some o := h
theorem NdO.partsO {base : Nat} {u : World} {l vc vk vi : Value} {n : Nd} (h : NdO base u (.agg #[l, vc, vk, vi]) n) : CsO base u vc n.cells ∧ KsO base u vk n.keys ∧ IsO base u vi n.kids := by
  obtain ⟨vc', vk', vi', e, hC, hK, hI⟩ := h
  injection e with e
  obtain rfl : vc = vc' := congrArg (fun a : Array Value => a.getD 1 undef) e
  obtain rfl : vk = vk' := congrArg (fun a : Array Value => a.getD 2 undef) e
  obtain rfl : vi = vi' := congrArg (fun a : Array Value => a.getD 3 undef) e
  exact ⟨hC, hK, hI⟩
theorem blk_new (w : World) (o : Obj) : (w.alloc o).heap[w.heap.size]? = some o := World.alloc_heap_new w o
structure HvSt where
  p : Nat
  F76 : Bool
  F82 : Bool
  F88 : Bool
  F90 : Bool
  F6 : Bool
  F0 : Bool
  U6 : Value
  U76 : Value
  U77 : Value
  U82 : Value
  U83 : Value
  U88 : Value
  U89 : Value
  U90 : Value
structure HvFx (B0 : Nat) (w7 : World) (lf : Bool) (r1 r2 r3 s1 s2 s3 : Option Addr) (f1 f2 f3 g1 g2 g3 : Nat) (A B : Nd) (NC : List C) (KK : List (List UInt8)) (NI : List Int) (s : HvSt) (u : World) : Prop where
  hB : Below w7.heap.size w7 u
  hp : s.p ≤ 3
  b76 : s.F0 = false → s.F76 = true → ∃ g, s.U76 = .slice (some ⟨g, 0, none⟩) 2 2 ∧ u.heap[g]? = some (.cells #[.slice r1 A.cells.length f1, .slice s1 B.cells.length g1] 22)
  b82 : s.F0 = false → s.F82 = true → ∃ g, s.U82 = .slice (some ⟨g, 0, none⟩) 2 2 ∧ u.heap[g]? = some (.cells #[.slice r2 A.keys.length f2, .slice s2 B.keys.length g2] 23)
  b88 : s.F0 = false → s.F88 = true → ∃ g, s.U88 = .slice (some ⟨g, 0, none⟩) 2 2 ∧ u.heap[g]? = some (.cells #[.slice r3 A.kids.length f3, .slice s3 B.kids.length g3] 24)
  r77 : s.F0 = false → 0 < s.p → CsO B0 u s.U77 NC
  r83 : s.F0 = false → 1 < s.p → KsO B0 u s.U83 KK
  r89 : s.F0 = false → 2 < s.p → IsO B0 u s.U89 NI
  z90 : s.F90 = true → 2 < s.p ∧ s.U90 = .agg #[.bool lf, s.U77, s.U83, s.U89]
  z6 : s.F6 = true → ∃ T, w7.heap.size ≤ T ∧ s.U6 = .pointer (some ⟨T, 0, none⟩) ∧ (s.F0 = false → u.heap[T]? = some (.cells #[.bool false, .slice none 0 0, .slice none 0 0, .slice none 0 0] 26)) ∧ (s.F0 = true → u.heap[T]? = some (.cells #[.bool lf, s.U77, s.U83, s.U89] 26))
  z0 : s.F0 = true → s.p = 3 ∧ s.F76 = true ∧ s.F82 = true ∧ s.F88 = true ∧ s.F90 = true ∧ s.F6 = true ∧ NdO B0 u (.agg #[.bool lf, s.U77, s.U83, s.U89]) ⟨lf, NC, KK, NI⟩
set_option maxHeartbeats 64000000 in
set_option maxRecDepth 100000 in
theorem hlv_yes (w : World) (v : Value) (n A B : Nd) (K : List UInt8) (h : NdS w v n) (hm : may n = true) (hw : few8 n = true) (hf : Fit n) (hfl : (n.cells.length * 64 ≤ 140737488355328 ∧ n.keys.length * 24 ≤ 140737488355328 ∧ n.kids.length * 8 ≤ 140737488355328))
    (c22 : ∀ u, Below w.heap.size w u → Calls Try.prog 22 #[v] u fun e w' => ∃ va vk vb, e = .returned (.tuple #[va, vk, vb]) ∧ NdO u.heap.size w' va A ∧ Bts w' u.heap.size vk K ∧ NdO u.heap.size w' vb B ∧ Below u.heap.size u w')
    (mA : may A = true) (mB : may B = true) (lA : A.leaf = n.leaf) (lB : B.leaf = n.leaf) (eC : A.cells ++ B.cells = n.cells) (eI : A.kids ++ B.kids = n.kids) (hK1 : 1 ≤ K.length) (lK : A.keys.length + B.keys.length ≤ n.keys.length) (eKl : n.leaf = true → A.keys ++ B.keys = n.keys) (eKi : n.leaf = false → A.keys ++ ([K] ++ B.keys) = n.keys)
    (qq : (∀ c ∈ A.cells, Lib.compareBytes c.key K < 0) ∧ (∀ x ∈ A.keys, Lib.compareBytes x K < 0) ∧ (∀ c ∈ B.cells, 0 ≤ Lib.compareBytes c.key K) ∧ (∀ x ∈ B.keys, 0 < Lib.compareBytes x K))
    (hnr : (form (nearN n)).length ≤ 448 → (form A).length ≤ 448 ∧ (form B).length ≤ 448) (hik : n.leaf = false → n.kids.length = n.keys.length + 1) (htn : (form n).length ≤ 4611686018427380000) :
    Calls Try.prog 8 #[v] w fun e w' => e = .returned (.bool true) ∧ Below w.heap.size w w' := by
  have c13 := fun (u : World) (hu : Below w.heap.size w u) => check13 u v n (h.on hu)
  have c21 := fun (u : World) (hu : Below w.heap.size w u) => fewb21 u v n (h.on hu)
  rw [hm, show chkE true = 0 from rfl] at c13
  rw [hw] at c21
  have cA := fun (u : World) (y : Value) (hy : NdS u y A) => check13 u y A hy
  have cB := fun (u : World) (y : Value) (hy : NdS u y B) => check13 u y B hy
  rw [mA, show chkE true = 0 from rfl] at cA
  rw [mB, show chkE true = 0 from rfl] at cB
  have eL : A.cells.length + B.cells.length = n.cells.length := by rw [← eC, List.length_append]
  have eJ : A.kids.length + B.kids.length = n.kids.length := by rw [← eI, List.length_append]
  have HKL := Lib.hid eKl
  have HKI := Lib.hid eKi
  have HQQ := Lib.hid qq
  have HNR := Lib.hid hnr
  have HIK := Lib.hid hik
  have HTN := Lib.hid htn
  clear eKl eKi qq hnr hik htn
  have HN := Lib.hid h
  obtain ⟨p1, c1, p2, c2, p3, c3, rfl⟩ := nds_hdr h
  have C13 := Lib.hid c13
  have C21 := Lib.hid c21
  have C22 := Lib.hid c22
  have CA := Lib.hid cA
  have CB := Lib.hid cB
  have HEC := Lib.hid eC
  have HEI := Lib.hid eI
  have HK1 := Lib.hid hK1
  have HFL := Lib.hid hfl
  have HLK := Lib.hid lK
  have HEL := Lib.hid (And.intro eL eJ)
  have HLA := Lib.hid lA
  have HLB := Lib.hid lB
  clear c13 c21 c22 cA cB hm hw h mA mB eC eI hK1 hfl eL eJ lK lA lB
  obtain ⟨lf, hlf⟩ : ∃ x, n.leaf = x := ⟨_, rfl⟩
  rw [hlf] at C13 C21 C22 HN HLA HLB ⊢
  go_enter Try.func8, Try.ntmps8
  go_wp2_with (fail)
  refine (begun12 _).mono ?_
  rintro e w1 ⟨rfl, hb1⟩
  have HB1 := Lib.hid (bel_then (bel1 _ _) hb1)
  have HA1 := Lib.hid (blk_on hb1 (World.alloc_heap_new w _))
  obtain ⟨a0, a1, a2, a3⟩ := four_of HA1.out
  clear hb1
  go_wp2_with (fail)
  refine (C13.out _ HB1.out).mono ?_
  rintro e w2 ⟨rfl, hb2⟩
  have HB2 := Lib.hid (bel_then HB1.out hb2)
  have HA2 := Lib.hid (blk_on hb2 HA1.out)
  obtain ⟨a0, a1, a2, a3⟩ := four_of HA2.out
  clear hb2
  go_wp2_with (fail)
  refine (C21.out _ HB2.out).mono ?_
  rintro e w3 ⟨rfl, hb3⟩
  have HB3 := Lib.hid (bel_then HB2.out hb3)
  have HA3 := Lib.hid (blk_on hb3 HA2.out)
  obtain ⟨a0, a1, a2, a3⟩ := four_of HA3.out
  clear hb3
  go_wp2_with (fail)
  refine (C22.out _ HB3.out).mono ?_
  rintro e w4 ⟨va, vk, vb, rfl, hna, hnk, hnb, hb4⟩
  obtain ⟨r1, f1, r2, f2, r3, f3, rfl⟩ := hna.hdr
  obtain ⟨s1, g1, s2, g2, s3, g3, rfl⟩ := hnb.hdr
  obtain ⟨gk, kc, ckr, rfl, -, -⟩ := own_pos hnk HK1.out
  have he : ∀ u, (binOp BinOp.eql 27 (.slice (some ⟨gk, 0, none⟩) K.length kc) (.slice none 0 0)).run Try.prog u = .ok (.bool false) u := fun u => nil_eq u _ _ _
  rw [HLA.out] at hna
  rw [HLB.out] at hnb
  rw [HLA.out, HLB.out]
  obtain ⟨w5, hw5⟩ : ∃ u, u = (w4.alloc (Obj.cells #[.bool lf, .slice r1 A.cells.length f1, .slice r2 A.keys.length f2, .slice r3 A.kids.length f3] 26)).alloc (Obj.cells #[.bool lf, .slice s1 B.cells.length g1, .slice s2 B.keys.length g2, .slice s3 B.kids.length g3] 26) := ⟨_, rfl⟩
  have hb5 : Below w4.heap.size w4 w5 := by rw [hw5]; exact bel_then (bel1 _ _) (bel1 _ _)
  have H3 : Hid (w5.heap[w4.heap.size]? = some (Obj.cells #[.bool lf, .slice r1 A.cells.length f1, .slice r2 A.keys.length f2, .slice r3 A.kids.length f3] 26)) := by rw [hw5]; exact blk_on (bel1 _ _) (World.alloc_heap_new w4 _)
  have H5 : Hid (w5.heap[w4.heap.size + 1]? = some (Obj.cells #[.bool lf, .slice s1 B.cells.length g1, .slice s2 B.keys.length g2, .slice s3 B.kids.length g3] 26)) := by rw [hw5]; exact new2 w4 _ _
  have HB5 := Lib.hid (bel_then (bel_then HB3.out hb4) hb5)
  have HA5 := Lib.hid (blk_on hb5 (blk_on hb4 HA3.out))
  have HNA := Lib.hid ((hna.on hb5).low HB3.out.size)
  have HNB := Lib.hid ((hnb.on hb5).low HB3.out.size)
  have HNK := Lib.hid ((hnk.on hb5).mono HB3.out.size)
  have HW5 := Lib.hid hw5
  obtain ⟨x0, x1, x2, x3⟩ := four_of H3.out
  obtain ⟨y0, y1, y2, y3⟩ := four_of H5.out
  obtain ⟨q0, q1, q2, q3⟩ := four_of HA5.out
  have hAl : w.heap.size < w4.heap.size := by have := (Array.getElem?_eq_some_iff.1 HA3.out).1; have := hb4.size; omega
  clear hna hnb hnk hb4 hb5 hw5 a0 a1 a2 a3
  go_wp2_with (fail)
  rw [← HW5.out]
  refine (CA.out _ _ (by have := HNA.out.s; exact this)).mono ?_
  rintro e w6 ⟨rfl, hb6⟩
  have HB6 := Lib.hid hb6
  obtain ⟨y0, y1, y2, y3⟩ := four_of (blk_on hb6 H5.out)
  obtain ⟨x0, x1, x2, x3⟩ := four_of (blk_on hb6 H3.out)
  obtain ⟨q0, q1, q2, q3⟩ := four_of (blk_on hb6 HA5.out)
  clear hb6
  go_wp2_with (fail)
  refine (CB.out _ _ ((HNB.out.on HB6.out).s)).mono ?_
  rintro e w7 ⟨rfl, hb7⟩
  have HB7 := Lib.hid (bel_then HB6.out hb7)
  have H37 := Lib.hid (blk_on HB7.out H3.out)
  have H57 := Lib.hid (blk_on HB7.out H5.out)
  have HA7 := Lib.hid (blk_on HB7.out HA5.out)
  have HNA7 := Lib.hid (HNA.out.on HB7.out)
  have HNB7 := Lib.hid (HNB.out.on HB7.out)
  obtain ⟨y0, y1, y2, y3⟩ := four_of H57.out
  obtain ⟨x0, x1, x2, x3⟩ := four_of H37.out
  obtain ⟨q0, q1, q2, q3⟩ := four_of HA7.out
  clear hb7
  go_wp2_with (fail)
  obtain ⟨KK, hKK⟩ : ∃ x, A.keys ++ B.keys = x := ⟨_, rfl⟩
  have HKK := Lib.hid hKK
  clear hKK
  have C29 : Hid (∀ (u : World) (Y : Nat), Below w7.heap.size w7 u → u.heap[Y]? = some (Obj.cells #[.slice r1 A.cells.length f1, .slice s1 B.cells.length g1] 22) → Calls Try.prog 29 #[.slice (some ⟨Y, 0, none⟩) 2 2] u fun e w' => ∃ v', e = .returned v' ∧ CsO w.heap.size w' v' n.cells ∧ Below u.heap.size u w') := fun u Y hu hY => by
    have := cat29 w.heap.size w7 u _ _ A.cells B.cells Y HNA7.out.partsO.1 HNB7.out.partsO.1 hu (by have := hu.size; have := HB7.out.size; have := HB5.out.size; omega) hY (by rw [HEL.out.1]; exact HFL.out.1)
    rwa [HEC.out] at this
  have C30 : Hid (∀ (u : World) (Y : Nat), Below w7.heap.size w7 u → u.heap[Y]? = some (Obj.cells #[.slice r2 A.keys.length f2, .slice s2 B.keys.length g2] 23) → Calls Try.prog 30 #[.slice (some ⟨Y, 0, none⟩) 2 2] u fun e w' => ∃ v', e = .returned v' ∧ KsO w.heap.size w' v' KK ∧ Below u.heap.size u w') := fun u Y hu hY => by
    rw [← HKK.out]
    exact cat30 w.heap.size w7 u _ _ A.keys B.keys Y HNA7.out.partsO.2.1 HNB7.out.partsO.2.1 hu (by have := hu.size; have := HB7.out.size; have := HB5.out.size; omega) hY (by have := HLK.out; have := HFL.out.2.1; omega)
  have C31 : Hid (∀ (u : World) (Y : Nat), Below w7.heap.size w7 u → u.heap[Y]? = some (Obj.cells #[.slice r3 A.kids.length f3, .slice s3 B.kids.length g3] 24) → Calls Try.prog 31 #[.slice (some ⟨Y, 0, none⟩) 2 2] u fun e w' => ∃ v', e = .returned v' ∧ IsO w.heap.size w' v' n.kids ∧ Below u.heap.size u w') := fun u Y hu hY => by
    have := cat31 w.heap.size w7 u _ _ A.kids B.kids Y HNA7.out.partsO.2.2 HNB7.out.partsO.2.2 hu (by have := hu.size; have := HB7.out.size; have := HB5.out.size; omega) hY (by rw [HEL.out.2]; exact HFL.out.2.2)
    rwa [HEI.out] at this
  have hz7 : w4.heap.size + 2 ≤ w7.heap.size := by have := (Array.getElem?_eq_some_iff.1 H57.out).1; omega
  have hz8 : w.heap.size ≤ w7.heap.size := by omega
  have HSS : Hid (∀ u, Below w7.heap.size w7 u → (u.cell? ⟨w.heap.size, 0, none⟩ = some (.bool lf) ∧ (u.cell? ⟨w4.heap.size, 1, none⟩ = some (.slice r1 A.cells.length f1) ∧ u.cell? ⟨w4.heap.size, 2, none⟩ = some (.slice r2 A.keys.length f2) ∧ u.cell? ⟨w4.heap.size, 3, none⟩ = some (.slice r3 A.kids.length f3)) ∧ u.cell? ⟨w4.heap.size + 1, 1, none⟩ = some (.slice s1 B.cells.length g1) ∧ u.cell? ⟨w4.heap.size + 1, 2, none⟩ = some (.slice s2 B.keys.length g2) ∧ u.cell? ⟨w4.heap.size + 1, 3, none⟩ = some (.slice s3 B.kids.length g3))) := fun u hu => ⟨(four_of (blk_on hu HA7.out)).1, (four_of (blk_on hu H37.out)).2, (four_of (blk_on hu H57.out)).2⟩
  have HS6 : Hid (∀ (u : World) (T : Nat) (a b c d : Value), Below w7.heap.size w7 u → w7.heap.size ≤ T → (((((u.setCell ⟨T, 0, none⟩ a).setCell ⟨T, 1, none⟩ b).setCell ⟨T, 2, none⟩ c).setCell ⟨T, 3, none⟩ d).cell? ⟨w.heap.size, 0, none⟩ = some (.bool lf) ∧ (((((u.setCell ⟨T, 0, none⟩ a).setCell ⟨T, 1, none⟩ b).setCell ⟨T, 2, none⟩ c).setCell ⟨T, 3, none⟩ d).cell? ⟨w4.heap.size, 1, none⟩ = some (.slice r1 A.cells.length f1) ∧ ((((u.setCell ⟨T, 0, none⟩ a).setCell ⟨T, 1, none⟩ b).setCell ⟨T, 2, none⟩ c).setCell ⟨T, 3, none⟩ d).cell? ⟨w4.heap.size, 2, none⟩ = some (.slice r2 A.keys.length f2) ∧ ((((u.setCell ⟨T, 0, none⟩ a).setCell ⟨T, 1, none⟩ b).setCell ⟨T, 2, none⟩ c).setCell ⟨T, 3, none⟩ d).cell? ⟨w4.heap.size, 3, none⟩ = some (.slice r3 A.kids.length f3)) ∧ ((((u.setCell ⟨T, 0, none⟩ a).setCell ⟨T, 1, none⟩ b).setCell ⟨T, 2, none⟩ c).setCell ⟨T, 3, none⟩ d).cell? ⟨w4.heap.size + 1, 1, none⟩ = some (.slice s1 B.cells.length g1) ∧ ((((u.setCell ⟨T, 0, none⟩ a).setCell ⟨T, 1, none⟩ b).setCell ⟨T, 2, none⟩ c).setCell ⟨T, 3, none⟩ d).cell? ⟨w4.heap.size + 1, 2, none⟩ = some (.slice s2 B.keys.length g2) ∧ ((((u.setCell ⟨T, 0, none⟩ a).setCell ⟨T, 1, none⟩ b).setCell ⟨T, 2, none⟩ c).setCell ⟨T, 3, none⟩ d).cell? ⟨w4.heap.size + 1, 3, none⟩ = some (.slice s3 B.kids.length g3))) := fun u T a b c d hu hT => ⟨(four_of (blk_gr (blk_on hu HA7.out) (gr_four u T a b c d) (by omega))).1, (four_of (blk_gr (blk_on hu H37.out) (gr_four u T a b c d) (by omega))).2, (four_of (blk_gr (blk_on hu H57.out) (gr_four u T a b c d) (by omega))).2⟩
  have Q0 : Below w7.heap.size w7 w7.drew := (Below.refl _ w7).drew
  clear x0 x1 x2 x3 y0 y1 y2 y3 q0 q1 q2 q3 he
  obtain ⟨SS, hSS⟩ : ∃ SS : World → Prop, SS = fun u => Below w7.heap.size w7 u := ⟨_, rfl⟩
  have hcell : ∀ u, SS u → u.cell? ⟨w.heap.size, 0, none⟩ = some (.bool lf) ∧ (u.cell? ⟨w4.heap.size, 1, none⟩ = some (.slice r1 A.cells.length f1) ∧ u.cell? ⟨w4.heap.size, 2, none⟩ = some (.slice r2 A.keys.length f2) ∧ u.cell? ⟨w4.heap.size, 3, none⟩ = some (.slice r3 A.kids.length f3)) ∧ u.cell? ⟨w4.heap.size + 1, 1, none⟩ = some (.slice s1 B.cells.length g1) ∧ u.cell? ⟨w4.heap.size + 1, 2, none⟩ = some (.slice s2 B.keys.length g2) ∧ u.cell? ⟨w4.heap.size + 1, 3, none⟩ = some (.slice s3 B.kids.length g3) := fun u h => HSS.out u (by subst hSS; exact h)
  have hss : ∀ u, Below w7.heap.size w7 u → SS u := fun u h => by subst hSS; exact h
  have HS0 : Hid (SS w7.drew) := hss _ Q0
  clear hSS
  refine wp_region_held_drew (S := SS) (by kernel_rfl) HS0.out (fun hHeld => ?_)
  have HB0 := Lib.hid Q0
  clear Q0
  refine take_at (i := 0) (oi := _) (v := .pointer (some ⟨w.heap.size, 0, none⟩)) 70 rfl rfl (by kernel_rfl) (by kernel_rfl) (by kernel_rfl) (fun _ _ _ h => h) (Or.inl ⟨by kernel_rfl, ?_⟩) hHeld ?_
  · intro u hSu
    obtain ⟨x0, ⟨x1, x2, x3⟩, y1, y2, y3⟩ := hcell u hSu
    go_simp
    try with_reducible rfl
  simp only [Act.put, List.setIfInBounds_toArray, List.set_cons_zero, List.set_cons_succ]
  refine take_at (i := 1) (oi := _) (v := .bool lf) 71 rfl rfl (by kernel_rfl) (by kernel_rfl) (by kernel_rfl) (fun _ _ _ h => h) (Or.inl ⟨by kernel_rfl, ?_⟩) hHeld ?_
  · intro u hSu
    obtain ⟨x0, ⟨x1, x2, x3⟩, y1, y2, y3⟩ := hcell u hSu
    go_simp
    try with_reducible rfl
  simp only [Act.put, List.setIfInBounds_toArray, List.set_cons_zero, List.set_cons_succ]
  refine take_at (i := 2) (oi := _) (v := .pointer (some ⟨w4.heap.size, 1, none⟩)) 72 rfl rfl (by kernel_rfl) (by kernel_rfl) (by kernel_rfl) (fun _ _ _ h => h) (Or.inl ⟨by kernel_rfl, ?_⟩) hHeld ?_
  · intro u hSu
    obtain ⟨x0, ⟨x1, x2, x3⟩, y1, y2, y3⟩ := hcell u hSu
    go_simp
    try with_reducible rfl
  simp only [Act.put, List.setIfInBounds_toArray, List.set_cons_zero, List.set_cons_succ]
  refine take_at (i := 3) (oi := _) (v := .slice r1 A.cells.length f1) 73 rfl rfl (by kernel_rfl) (by kernel_rfl) (by kernel_rfl) (fun _ _ _ h => h) (Or.inl ⟨by kernel_rfl, ?_⟩) hHeld ?_
  · intro u hSu
    obtain ⟨x0, ⟨x1, x2, x3⟩, y1, y2, y3⟩ := hcell u hSu
    go_simp
    try with_reducible rfl
  simp only [Act.put, List.setIfInBounds_toArray, List.set_cons_zero, List.set_cons_succ]
  refine take_at (i := 4) (oi := _) (v := .pointer (some ⟨w4.heap.size + 1, 1, none⟩)) 74 rfl rfl (by kernel_rfl) (by kernel_rfl) (by kernel_rfl) (fun _ _ _ h => h) (Or.inl ⟨by kernel_rfl, ?_⟩) hHeld ?_
  · intro u hSu
    obtain ⟨x0, ⟨x1, x2, x3⟩, y1, y2, y3⟩ := hcell u hSu
    go_simp
    try with_reducible rfl
  simp only [Act.put, List.setIfInBounds_toArray, List.set_cons_zero, List.set_cons_succ]
  refine take_at (i := 5) (oi := _) (v := .slice s1 B.cells.length g1) 75 rfl rfl (by kernel_rfl) (by kernel_rfl) (by kernel_rfl) (fun _ _ _ h => h) (Or.inl ⟨by kernel_rfl, ?_⟩) hHeld ?_
  · intro u hSu
    obtain ⟨x0, ⟨x1, x2, x3⟩, y1, y2, y3⟩ := hcell u hSu
    go_simp
    try with_reducible rfl
  simp only [Act.put, List.setIfInBounds_toArray, List.set_cons_zero, List.set_cons_succ]
  refine take_at (i := 8) (oi := _) (v := .pointer (some ⟨w4.heap.size, 2, none⟩)) 78 rfl rfl (by kernel_rfl) (by kernel_rfl) (by kernel_rfl) (fun _ _ _ h => h) (Or.inl ⟨by kernel_rfl, ?_⟩) hHeld ?_
  · intro u hSu
    obtain ⟨x0, ⟨x1, x2, x3⟩, y1, y2, y3⟩ := hcell u hSu
    go_simp
    try with_reducible rfl
  simp only [Act.put, List.setIfInBounds_toArray, List.set_cons_zero, List.set_cons_succ]
  refine take_at (i := 9) (oi := _) (v := .slice r2 A.keys.length f2) 79 rfl rfl (by kernel_rfl) (by kernel_rfl) (by kernel_rfl) (fun _ _ _ h => h) (Or.inl ⟨by kernel_rfl, ?_⟩) hHeld ?_
  · intro u hSu
    obtain ⟨x0, ⟨x1, x2, x3⟩, y1, y2, y3⟩ := hcell u hSu
    go_simp
    try with_reducible rfl
  simp only [Act.put, List.setIfInBounds_toArray, List.set_cons_zero, List.set_cons_succ]
  refine take_at (i := 10) (oi := _) (v := .pointer (some ⟨w4.heap.size + 1, 2, none⟩)) 80 rfl rfl (by kernel_rfl) (by kernel_rfl) (by kernel_rfl) (fun _ _ _ h => h) (Or.inl ⟨by kernel_rfl, ?_⟩) hHeld ?_
  · intro u hSu
    obtain ⟨x0, ⟨x1, x2, x3⟩, y1, y2, y3⟩ := hcell u hSu
    go_simp
    try with_reducible rfl
  simp only [Act.put, List.setIfInBounds_toArray, List.set_cons_zero, List.set_cons_succ]
  refine take_at (i := 11) (oi := _) (v := .slice s2 B.keys.length g2) 81 rfl rfl (by kernel_rfl) (by kernel_rfl) (by kernel_rfl) (fun _ _ _ h => h) (Or.inl ⟨by kernel_rfl, ?_⟩) hHeld ?_
  · intro u hSu
    obtain ⟨x0, ⟨x1, x2, x3⟩, y1, y2, y3⟩ := hcell u hSu
    go_simp
    try with_reducible rfl
  simp only [Act.put, List.setIfInBounds_toArray, List.set_cons_zero, List.set_cons_succ]
  refine take_at (i := 14) (oi := _) (v := .pointer (some ⟨w4.heap.size, 3, none⟩)) 84 rfl rfl (by kernel_rfl) (by kernel_rfl) (by kernel_rfl) (fun _ _ _ h => h) (Or.inl ⟨by kernel_rfl, ?_⟩) hHeld ?_
  · intro u hSu
    obtain ⟨x0, ⟨x1, x2, x3⟩, y1, y2, y3⟩ := hcell u hSu
    go_simp
    try with_reducible rfl
  simp only [Act.put, List.setIfInBounds_toArray, List.set_cons_zero, List.set_cons_succ]
  refine take_at (i := 15) (oi := _) (v := .slice r3 A.kids.length f3) 85 rfl rfl (by kernel_rfl) (by kernel_rfl) (by kernel_rfl) (fun _ _ _ h => h) (Or.inl ⟨by kernel_rfl, ?_⟩) hHeld ?_
  · intro u hSu
    obtain ⟨x0, ⟨x1, x2, x3⟩, y1, y2, y3⟩ := hcell u hSu
    go_simp
    try with_reducible rfl
  simp only [Act.put, List.setIfInBounds_toArray, List.set_cons_zero, List.set_cons_succ]
  refine take_at (i := 16) (oi := _) (v := .pointer (some ⟨w4.heap.size + 1, 3, none⟩)) 86 rfl rfl (by kernel_rfl) (by kernel_rfl) (by kernel_rfl) (fun _ _ _ h => h) (Or.inl ⟨by kernel_rfl, ?_⟩) hHeld ?_
  · intro u hSu
    obtain ⟨x0, ⟨x1, x2, x3⟩, y1, y2, y3⟩ := hcell u hSu
    go_simp
    try with_reducible rfl
  simp only [Act.put, List.setIfInBounds_toArray, List.set_cons_zero, List.set_cons_succ]
  refine take_at (i := 17) (oi := _) (v := .slice s3 B.kids.length g3) 87 rfl rfl (by kernel_rfl) (by kernel_rfl) (by kernel_rfl) (fun _ _ _ h => h) (Or.inl ⟨by kernel_rfl, ?_⟩) hHeld ?_
  · intro u hSu
    obtain ⟨x0, ⟨x1, x2, x3⟩, y1, y2, y3⟩ := hcell u hSu
    go_simp
    try with_reducible rfl
  simp only [Act.put, List.setIfInBounds_toArray, List.set_cons_zero, List.set_cons_succ]
  refine gen_ops (fun OPS QQ hOPS hQQ => ?_)
  have HO := Lib.hid hOPS
  have HQ := Lib.hid hQQ
  have hsz : OPS.size = 23 := by rw [hOPS]; rfl
  clear hOPS hQQ
  refine wpAnyH_inv (Inv := fun l a u => ∃ s : HvSt, l = #[true, true, true, true, true, true, s.F76, decide (0 < s.p), true, true, true, true, s.F82, decide (1 < s.p), true, true, true, true, s.F88, decide (2 < s.p), s.F90, s.F6, s.F0] ∧ a = ⟨#[.agg #[.bool lf, .slice p1 n.cells.length c1, .slice p2 n.keys.length c2, .slice p3 n.kids.length c3], .pointer (some ⟨w.heap.size, 0, none⟩), .bool false, .pointer (some ⟨w4.heap.size, 0, none⟩), .slice (some ⟨gk, 0, none⟩) K.length kc, .pointer (some ⟨w4.heap.size + 1, 0, none⟩), s.U6, .bool true, .bool false, .bool false, .agg #[.bool lf, .slice p1 n.cells.length c1, .slice p2 n.keys.length c2, .slice p3 n.kids.length c3], .int .i64 0, .bool false, .bool false, .bool false, .agg #[.bool lf, .slice p1 n.cells.length c1, .slice p2 n.keys.length c2, .slice p3 n.kids.length c3], .bool true, .bool false, .bool false, undef, .tuple #[.agg #[.bool lf, .slice r1 A.cells.length f1, .slice r2 A.keys.length f2, .slice r3 A.kids.length f3], .slice (some ⟨gk, 0, none⟩) K.length kc, .agg #[.bool lf, .slice s1 B.cells.length g1, .slice s2 B.keys.length g2, .slice s3 B.kids.length g3]], .agg #[.bool lf, .slice p1 n.cells.length c1, .slice p2 n.keys.length c2, .slice p3 n.kids.length c3], .tuple #[.agg #[.bool lf, .slice r1 A.cells.length f1, .slice r2 A.keys.length f2, .slice r3 A.kids.length f3], .slice (some ⟨gk, 0, none⟩) K.length kc, .agg #[.bool lf, .slice s1 B.cells.length g1, .slice s2 B.keys.length g2, .slice s3 B.kids.length g3]], .agg #[.bool lf, .slice r1 A.cells.length f1, .slice r2 A.keys.length f2, .slice r3 A.kids.length f3], .slice (some ⟨gk, 0, none⟩) K.length kc, .agg #[.bool lf, .slice s1 B.cells.length g1, .slice s2 B.keys.length g2, .slice s3 B.kids.length g3], .slice (some ⟨gk, 0, none⟩) K.length kc, .bool false, undef, undef, undef, undef, undef, undef, undef, undef, undef, undef, undef, undef, undef, undef, undef, undef, undef, undef, undef, undef, .agg #[.bool lf, .slice r1 A.cells.length f1, .slice r2 A.keys.length f2, .slice r3 A.kids.length f3], .int .i64 0, .bool false, .bool false, .agg #[.bool lf, .slice s1 B.cells.length g1, .slice s2 B.keys.length g2, .slice s3 B.kids.length g3], .int .i64 0, .bool false, .bool false, .bool false, .pointer (some ⟨w4.heap.size, 0, none⟩), .bool lf, .pointer (some ⟨w.heap.size, 0, none⟩), .bool lf, .bool false, .bool false, .bool false, .pointer (some ⟨w4.heap.size + 1, 0, none⟩), .bool lf, .pointer (some ⟨w.heap.size, 0, none⟩), .bool lf, .bool false, .bool false, .pointer (some ⟨w.heap.size, 0, none⟩), .bool lf, .pointer (some ⟨w4.heap.size, 1, none⟩), .slice r1 A.cells.length f1, .pointer (some ⟨w4.heap.size + 1, 1, none⟩), .slice s1 B.cells.length g1, s.U76, s.U77, .pointer (some ⟨w4.heap.size, 2, none⟩), .slice r2 A.keys.length f2, .pointer (some ⟨w4.heap.size + 1, 2, none⟩), .slice s2 B.keys.length g2, s.U82, s.U83, .pointer (some ⟨w4.heap.size, 3, none⟩), .slice r3 A.kids.length f3, .pointer (some ⟨w4.heap.size + 1, 3, none⟩), .slice s3 B.kids.length g3, s.U88, s.U89, s.U90, undef, undef, undef, undef, undef, undef, undef, undef, undef, undef, undef, undef, undef, undef, undef, undef, undef, undef, undef, undef, undef, undef, undef, undef, undef, undef, undef, undef, undef, undef, undef, undef, undef, undef, undef, undef], []⟩ ∧ HvFx w.heap.size w7 lf r1 r2 r3 s1 s2 s3 f1 f2 f3 g1 g2 g3 A B n.cells KK n.kids s u) ?hstep ?hend _ _ _ _ ?hinit ?hcount
  case hinit => exact ⟨⟨0, false, false, false, false, false, false, _, _, _, _, _, _, _, _⟩, rfl, rfl, ⟨HB0.out, by dsimp only; omega, fun _ h => (by cases h), fun _ h => (by cases h), fun _ h => (by cases h), fun _ h => absurd h (by dsimp only; omega), fun _ h => absurd h (by dsimp only; omega), fun _ h => absurd h (by dsimp only; omega), fun h => (by cases h), fun h => (by cases h), fun h => (by cases h)⟩⟩
  case hcount => exact of_decide_eq_true (by kernel_rfl)
  case hstep =>
    rintro l a u ⟨⟨p, F76, F82, F88, F90, F6, F0, U6, U76, U77, U82, U83, U88, U89, U90⟩, rfl, rfl, ⟨hB, hp, b76, b82, b88, r77, r83, r89, z90, z6, z0⟩⟩ i hi
    dsimp only at hB hp b76 b82 b88 r77 r83 r89 z90 z6 z0
    obtain ⟨h0, o, ho, hall⟩ := mem_ready.1 hi
    have hlt : i < 23 := by have := (Array.getElem?_eq_some_iff.1 ho).1; omega
    clear hi
    have hc : i = 0 ∨ i = 1 ∨ i = 2 ∨ i = 3 ∨ i = 4 ∨ i = 5 ∨ i = 6 ∨ i = 7 ∨ i = 8 ∨ i = 9 ∨ i = 10 ∨ i = 11 ∨ i = 12 ∨ i = 13 ∨ i = 14 ∨ i = 15 ∨ i = 16 ∨ i = 17 ∨ i = 18 ∨ i = 19 ∨ i = 20 ∨ i = 21 ∨ i = 22 := by omega
    rcases hc with rfl | rfl | rfl | rfl | rfl | rfl | rfl | rfl | rfl | rfl | rfl | rfl | rfl | rfl | rfl | rfl | rfl | rfl | rfl | rfl | rfl | rfl | rfl
    · exact absurd (show true = false from h0) (by decide)
    · exact absurd (show true = false from h0) (by decide)
    · exact absurd (show true = false from h0) (by decide)
    · exact absurd (show true = false from h0) (by decide)
    · exact absurd (show true = false from h0) (by decide)
    · exact absurd (show true = false from h0) (by decide)
    · have g0 : F76 = false := h0
      obtain rfl : F0 = false := by
        cases F0 with
        | false => rfl
        | true => exact absurd ((z0 rfl).2.1) (by rw [g0]; decide)
      clear ho hall h0
      rw [HO.out]
      refine wpOp_step (o := _) rfl (fun K9 hK => ?_)
      replace hK := Lib.hid hK
      dsimp only
      go_simp
      have hal := bel1 u (.cells #[.slice r1 A.cells.length f1, .slice s1 B.cells.length g1] 22)
      exact hK.out _ _ ⟨hss _ (bel_then hB hal), ⟨p, true, F82, F88, F90, F6, false, _, _, _, _, _, _, _, _⟩, rfl, rfl, ⟨bel_then hB hal, hp, fun _ _ => ⟨_, rfl, blk_new u _⟩, fun _ hf => by obtain ⟨g, e1, e2⟩ := b82 (by first | rfl | trivial) hf; exact ⟨g, e1, blk_on hal e2⟩, fun _ hf => by obtain ⟨g, e1, e2⟩ := b88 (by first | rfl | trivial) hf; exact ⟨g, e1, blk_on hal e2⟩, fun _ hp => (r77 (by first | rfl | trivial) hp).on hal, fun _ hp => (r83 (by first | rfl | trivial) hp).on hal, fun _ hp => (r89 (by first | rfl | trivial) hp).on hal, z90, fun hf => by obtain ⟨T, t1, t2, t3, -⟩ := z6 hf; exact ⟨T, t1, t2, fun _ => blk_on hal (t3 (by first | rfl | trivial)), fun h => (by cases h)⟩, fun h => (by cases h)⟩⟩
    · have hp0 : ¬ 0 < p := of_decide_eq_false h0
      obtain rfl : F0 = false := by
        cases F0 with
        | false => rfl
        | true => exact absurd ((z0 rfl).1) (by omega)
      rw [HO.out] at ho
      cases ho
      have hpk : p = 0 := by omega
      subst hpk
      obtain ⟨g, rfl, hg⟩ := b76 rfl (hall ⟨6, .data⟩ (by simp) rfl)
      clear hall h0 hp0
      rw [HO.out]
      refine wpOp_step (o := _) rfl (fun K9 hK => ?_)
      replace hK := Lib.hid hK
      dsimp only
      go_simp
      go_at_call 29
      refine (C29.out u g hB hg).mono ?_
      rintro e u' ⟨v', rfl, hv, hbA⟩
      try go_wp2_with fail
      exact hK.out _ _ ⟨hss _ (bel_then hB hbA), ⟨1, F76, F82, F88, F90, F6, false, _, _, _, _, _, _, _, _⟩, rfl, rfl, ⟨bel_then hB hbA, by dsimp only; omega, fun _ _ => ⟨g, rfl, blk_on hbA hg⟩, fun _ hf => by obtain ⟨g, e1, e2⟩ := b82 (by first | rfl | trivial) hf; exact ⟨g, e1, blk_on hbA e2⟩, fun _ hf => by obtain ⟨g, e1, e2⟩ := b88 (by first | rfl | trivial) hf; exact ⟨g, e1, blk_on hbA e2⟩, fun _ _ => hv, fun _ h => absurd h (by dsimp only; omega), fun _ h => absurd h (by dsimp only; omega), fun h => absurd (z90 h).1 (by omega), fun hf => by obtain ⟨T, t1, t2, t3, -⟩ := z6 hf; exact ⟨T, t1, t2, fun _ => blk_on hbA (t3 (by first | rfl | trivial)), fun h => (by cases h)⟩, fun h => (by cases h)⟩⟩
    · exact absurd (show true = false from h0) (by decide)
    · exact absurd (show true = false from h0) (by decide)
    · exact absurd (show true = false from h0) (by decide)
    · exact absurd (show true = false from h0) (by decide)
    · have g0 : F82 = false := h0
      obtain rfl : F0 = false := by
        cases F0 with
        | false => rfl
        | true => exact absurd ((z0 rfl).2.2.1) (by rw [g0]; decide)
      clear ho hall h0
      rw [HO.out]
      refine wpOp_step (o := _) rfl (fun K9 hK => ?_)
      replace hK := Lib.hid hK
      dsimp only
      go_simp
      have hal := bel1 u (.cells #[.slice r2 A.keys.length f2, .slice s2 B.keys.length g2] 23)
      exact hK.out _ _ ⟨hss _ (bel_then hB hal), ⟨p, F76, true, F88, F90, F6, false, _, _, _, _, _, _, _, _⟩, rfl, rfl, ⟨bel_then hB hal, hp, fun _ hf => by obtain ⟨g, e1, e2⟩ := b76 (by first | rfl | trivial) hf; exact ⟨g, e1, blk_on hal e2⟩, fun _ _ => ⟨_, rfl, blk_new u _⟩, fun _ hf => by obtain ⟨g, e1, e2⟩ := b88 (by first | rfl | trivial) hf; exact ⟨g, e1, blk_on hal e2⟩, fun _ hp => (r77 (by first | rfl | trivial) hp).on hal, fun _ hp => (r83 (by first | rfl | trivial) hp).on hal, fun _ hp => (r89 (by first | rfl | trivial) hp).on hal, z90, fun hf => by obtain ⟨T, t1, t2, t3, -⟩ := z6 hf; exact ⟨T, t1, t2, fun _ => blk_on hal (t3 (by first | rfl | trivial)), fun h => (by cases h)⟩, fun h => (by cases h)⟩⟩
    · have hp0 : ¬ 1 < p := of_decide_eq_false h0
      obtain rfl : F0 = false := by
        cases F0 with
        | false => rfl
        | true => exact absurd ((z0 rfl).1) (by omega)
      rw [HO.out] at ho
      cases ho
      have hp1 : 0 < p := of_decide_eq_true (hall ⟨7, .chain⟩ (by simp) rfl)
      have hpk : p = 1 := by omega
      subst hpk
      obtain ⟨g, rfl, hg⟩ := b82 rfl (hall ⟨12, .data⟩ (by simp) rfl)
      clear hall h0 hp0 hp1
      rw [HO.out]
      refine wpOp_step (o := _) rfl (fun K9 hK => ?_)
      replace hK := Lib.hid hK
      dsimp only
      go_simp
      go_at_call 30
      refine (C30.out u g hB hg).mono ?_
      rintro e u' ⟨v', rfl, hv, hbA⟩
      try go_wp2_with fail
      exact hK.out _ _ ⟨hss _ (bel_then hB hbA), ⟨2, F76, F82, F88, F90, F6, false, _, _, _, _, _, _, _, _⟩, rfl, rfl, ⟨bel_then hB hbA, by dsimp only; omega, fun _ hf => by obtain ⟨g, e1, e2⟩ := b76 (by first | rfl | trivial) hf; exact ⟨g, e1, blk_on hbA e2⟩, fun _ _ => ⟨g, rfl, blk_on hbA hg⟩, fun _ hf => by obtain ⟨g, e1, e2⟩ := b88 (by first | rfl | trivial) hf; exact ⟨g, e1, blk_on hbA e2⟩, fun _ hp => (r77 (by first | rfl | trivial) (by omega)).on hbA, fun _ _ => hv, fun _ h => absurd h (by dsimp only; omega), fun h => absurd (z90 h).1 (by omega), fun hf => by obtain ⟨T, t1, t2, t3, -⟩ := z6 hf; exact ⟨T, t1, t2, fun _ => blk_on hbA (t3 (by first | rfl | trivial)), fun h => (by cases h)⟩, fun h => (by cases h)⟩⟩
    · exact absurd (show true = false from h0) (by decide)
    · exact absurd (show true = false from h0) (by decide)
    · exact absurd (show true = false from h0) (by decide)
    · exact absurd (show true = false from h0) (by decide)
    · have g0 : F88 = false := h0
      obtain rfl : F0 = false := by
        cases F0 with
        | false => rfl
        | true => exact absurd ((z0 rfl).2.2.2.1) (by rw [g0]; decide)
      clear ho hall h0
      rw [HO.out]
      refine wpOp_step (o := _) rfl (fun K9 hK => ?_)
      replace hK := Lib.hid hK
      dsimp only
      go_simp
      have hal := bel1 u (.cells #[.slice r3 A.kids.length f3, .slice s3 B.kids.length g3] 24)
      exact hK.out _ _ ⟨hss _ (bel_then hB hal), ⟨p, F76, F82, true, F90, F6, false, _, _, _, _, _, _, _, _⟩, rfl, rfl, ⟨bel_then hB hal, hp, fun _ hf => by obtain ⟨g, e1, e2⟩ := b76 (by first | rfl | trivial) hf; exact ⟨g, e1, blk_on hal e2⟩, fun _ hf => by obtain ⟨g, e1, e2⟩ := b82 (by first | rfl | trivial) hf; exact ⟨g, e1, blk_on hal e2⟩, fun _ _ => ⟨_, rfl, blk_new u _⟩, fun _ hp => (r77 (by first | rfl | trivial) hp).on hal, fun _ hp => (r83 (by first | rfl | trivial) hp).on hal, fun _ hp => (r89 (by first | rfl | trivial) hp).on hal, z90, fun hf => by obtain ⟨T, t1, t2, t3, -⟩ := z6 hf; exact ⟨T, t1, t2, fun _ => blk_on hal (t3 (by first | rfl | trivial)), fun h => (by cases h)⟩, fun h => (by cases h)⟩⟩
    · have hp0 : ¬ 2 < p := of_decide_eq_false h0
      obtain rfl : F0 = false := by
        cases F0 with
        | false => rfl
        | true => exact absurd ((z0 rfl).1) (by omega)
      rw [HO.out] at ho
      cases ho
      have hp1 : 1 < p := of_decide_eq_true (hall ⟨13, .chain⟩ (by simp) rfl)
      have hpk : p = 2 := by omega
      subst hpk
      obtain ⟨g, rfl, hg⟩ := b88 rfl (hall ⟨18, .data⟩ (by simp) rfl)
      clear hall h0 hp0 hp1
      rw [HO.out]
      refine wpOp_step (o := _) rfl (fun K9 hK => ?_)
      replace hK := Lib.hid hK
      dsimp only
      go_simp
      go_at_call 31
      refine (C31.out u g hB hg).mono ?_
      rintro e u' ⟨v', rfl, hv, hbA⟩
      try go_wp2_with fail
      exact hK.out _ _ ⟨hss _ (bel_then hB hbA), ⟨3, F76, F82, F88, F90, F6, false, _, _, _, _, _, _, _, _⟩, rfl, rfl, ⟨bel_then hB hbA, by dsimp only; omega, fun _ hf => by obtain ⟨g, e1, e2⟩ := b76 (by first | rfl | trivial) hf; exact ⟨g, e1, blk_on hbA e2⟩, fun _ hf => by obtain ⟨g, e1, e2⟩ := b82 (by first | rfl | trivial) hf; exact ⟨g, e1, blk_on hbA e2⟩, fun _ _ => ⟨g, rfl, blk_on hbA hg⟩, fun _ hp => (r77 (by first | rfl | trivial) (by omega)).on hbA, fun _ hp => (r83 (by first | rfl | trivial) (by omega)).on hbA, fun _ _ => hv, fun h => absurd (z90 h).1 (by omega), fun hf => by obtain ⟨T, t1, t2, t3, -⟩ := z6 hf; exact ⟨T, t1, t2, fun _ => blk_on hbA (t3 (by first | rfl | trivial)), fun h => (by cases h)⟩, fun h => (by cases h)⟩⟩
    · have g0 : F90 = false := h0
      obtain rfl : F0 = false := by
        cases F0 with
        | false => rfl
        | true => exact absurd ((z0 rfl).2.2.2.2.1) (by rw [g0]; decide)
      rw [HO.out] at ho
      cases ho
      have hp1 : 2 < p := of_decide_eq_true (hall ⟨19, .data⟩ (by simp) rfl)
      have k1 := r77 rfl (by omega)
      have k2 := r83 rfl (by omega)
      have k3 := r89 rfl (by omega)
      obtain ⟨a1, d1, rfl, -⟩ := hdrO_c k1
      obtain ⟨a2, d2, rfl, -⟩ := hdrO_k k2
      obtain ⟨a3, d3, rfl, -⟩ := hdrO_i k3
      clear hall h0
      have hbd := build26
      rw [HO.out]
      refine wpOp_step (o := _) rfl (fun K9 hK => ?_)
      replace hK := Lib.hid hK
      dsimp only
      go_simp
      exact hK.out _ _ ⟨hss _ hB, ⟨p, F76, F82, F88, true, F6, false, _, _, _, _, _, _, _, _⟩, rfl, rfl, ⟨hB, hp, b76, b82, b88, r77, r83, r89, fun _ => ⟨hp1, rfl⟩, z6, fun h => (by cases h)⟩⟩
    · have g0 : F6 = false := h0
      obtain rfl : F0 = false := by
        cases F0 with
        | false => rfl
        | true => exact absurd ((z0 rfl).2.2.2.2.2.1) (by rw [g0]; decide)
      clear ho hall h0
      rw [HO.out]
      refine wpOp_step (o := _) rfl (fun K9 hK => ?_)
      replace hK := Lib.hid hK
      dsimp only
      go_simp
      have hal := bel1 u (.cells #[.bool false, .slice none 0 0, .slice none 0 0, .slice none 0 0] 26)
      exact hK.out _ _ ⟨hss _ (bel_then hB hal), ⟨p, F76, F82, F88, F90, true, false, _, _, _, _, _, _, _, _⟩, rfl, rfl, ⟨bel_then hB hal, hp, fun _ hf => by obtain ⟨g, e1, e2⟩ := b76 (by first | rfl | trivial) hf; exact ⟨g, e1, blk_on hal e2⟩, fun _ hf => by obtain ⟨g, e1, e2⟩ := b82 (by first | rfl | trivial) hf; exact ⟨g, e1, blk_on hal e2⟩, fun _ hf => by obtain ⟨g, e1, e2⟩ := b88 (by first | rfl | trivial) hf; exact ⟨g, e1, blk_on hal e2⟩, fun _ hp => (r77 (by first | rfl | trivial) hp).on hal, fun _ hp => (r83 (by first | rfl | trivial) hp).on hal, fun _ hp => (r89 (by first | rfl | trivial) hp).on hal, z90, fun _ => ⟨u.heap.size, hB.size, rfl, fun _ => blk_new u _, fun h => (by cases h)⟩, fun h => (by cases h)⟩⟩
    · obtain rfl : F0 = false := h0
      rw [HO.out] at ho
      cases ho
      have hp1 : 2 < p := of_decide_eq_true (hall ⟨19, .chain⟩ (by simp) rfl)
      have q6 : F6 = true := hall ⟨21, .data⟩ (by simp) rfl
      have q90 : F90 = true := hall ⟨20, .data⟩ (by simp) rfl
      have q76 : F76 = true := hall ⟨6, .phase⟩ (by simp) rfl
      have q82 : F82 = true := hall ⟨12, .phase⟩ (by simp) rfl
      have q88 : F88 = true := hall ⟨18, .phase⟩ (by simp) rfl
      subst q6 q90 q76 q82 q88
      obtain ⟨-, rfl⟩ := z90 rfl
      obtain ⟨T, t1, rfl, t3, -⟩ := z6 rfl
      replace t3 := t3 rfl
      have k1 := r77 rfl (by omega)
      have k2 := r83 rfl (by omega)
      have k3 := r89 rfl (by omega)
      obtain ⟨tz0, tz1, tz2, tz3⟩ := four_of t3
      have tf0 := four_fr t3 0
      have tf1 := four_fr t3 1
      have tf2 := four_fr t3 2
      have tf3 := four_fr t3 3
      obtain ⟨a1, d1, rfl, -⟩ := hdrO_c k1
      obtain ⟨a2, d2, rfl, -⟩ := hdrO_k k2
      obtain ⟨a3, d3, rfl, -⟩ := hdrO_i k3
      obtain rfl : p = 3 := by omega
      clear hall
      rw [HO.out]
      refine wpOp_step (o := _) rfl (fun K9 hK => ?_)
      replace hK := Lib.hid hK
      dsimp only
      go_simp
      exact hK.out _ _ ⟨hss _ (bel_put hB (gr_four u T (.bool lf) (.slice a1 n.cells.length d1) (.slice a2 KK.length d2) (.slice a3 n.kids.length d3)) t1), ⟨3, true, true, true, true, true, true, _, _, _, _, _, _, _, _⟩, rfl, rfl, ⟨(bel_put hB (gr_four u T (.bool lf) (.slice a1 n.cells.length d1) (.slice a2 KK.length d2) (.slice a3 n.kids.length d3)) t1), hp, fun h => (by cases h), fun h => (by cases h), fun h => (by cases h), fun h => (by cases h), fun h => (by cases h), fun h => (by cases h), fun _ => ⟨by dsimp only; omega, rfl⟩, fun _ => ⟨T, t1, rfl, fun h => (by cases h), fun _ => blk_four t3 _ _ _ _⟩, fun _ => ⟨rfl, rfl, rfl, rfl, rfl, rfl, (show NdO w.heap.size u _ ⟨lf, n.cells, KK, n.kids⟩ from ⟨_, _, _, rfl, k1, k2, k3⟩).gr (gr_four _ _ _ _ _ _) t3 (by decide) (by decide) (by decide) (by decide)⟩⟩⟩
  case hend =>
    rintro l a u ⟨⟨p, F76, F82, F88, F90, F6, F0, U6, U76, U77, U82, U83, U88, U89, U90⟩, rfl, rfl, ⟨hB, hp, b76, b82, b88, r77, r83, r89, z90, z6, z0⟩⟩ hr
    dsimp only at hB hp b76 b82 b88 r77 r83 r89 z90 z6 z0
    have nope : ∀ (i : Nat) (o : Oper), OPS[i]? = some o → _ → _ → False := fun i o ho h0 h => ready_of ho h0 h hr
    rw [HO.out] at nope
    obtain rfl : F76 = true := by
      cases F76 with
      | false => exact (nope 6 _ rfl rfl (by simp)).elim
      | true => rfl
    obtain rfl : F82 = true := by
      cases F82 with
      | false => exact (nope 12 _ rfl rfl (by simp)).elim
      | true => rfl
    obtain rfl : F88 = true := by
      cases F88 with
      | false => exact (nope 18 _ rfl rfl (by simp)).elim
      | true => rfl
    have hpp : p = 3 := by
      rcases (by omega : p = 3 ∨ p = 0 ∨ p = 1 ∨ p = 2) with rfl | rfl | rfl | rfl
      · rfl
      · exact (nope 7 _ rfl rfl (by simp)).elim
      · exact (nope 13 _ rfl rfl (by simp)).elim
      · exact (nope 19 _ rfl rfl (by simp)).elim
    subst hpp
    obtain rfl : F90 = true := by
      cases F90 with
      | false => exact (nope 20 _ rfl rfl (by simp)).elim
      | true => rfl
    obtain rfl : F6 = true := by
      cases F6 with
      | false => exact (nope 21 _ rfl rfl (by simp)).elim
      | true => rfl
    obtain rfl : F0 = true := by
      cases F0 with
      | false => exact (nope 22 _ rfl rfl (by simp)).elim
      | true => rfl
    obtain ⟨-, rfl⟩ := z90 rfl
    obtain ⟨T, t1, rfl, -, t4⟩ := z6 rfl
    obtain ⟨-, -, -, -, -, -, hN9⟩ := z0 rfl
    replace t4 := t4 rfl
    obtain ⟨k1, k2, k3⟩ := hN9.partsO
    obtain ⟨a1, d1, rfl, -⟩ := hdrO_c k1
    obtain ⟨a2, d2, rfl, -⟩ := hdrO_k k2
    obtain ⟨a3, d3, rfl, -⟩ := hdrO_i k3
    have HT := Lib.hid t4
    have HW := Lib.hid hN9
    have HAu := Lib.hid (blk_on hB HA7.out)
    have H3u := Lib.hid (blk_on hB H37.out)
    have H5u := Lib.hid (blk_on hB H57.out)
    have HBu := Lib.hid (bel_then (bel_then HB5.out HB7.out) hB)
    have HNAu := Lib.hid (HNA7.out.on hB)
    have HNBu := Lib.hid (HNB7.out.on hB)
    have HKu := Lib.hid (HNK.out.on (bel_then HB7.out hB))
    have HK1 := Lib.hid k1
    have HK3 := Lib.hid k3
    have hTu : w.heap.size < T ∧ w4.heap.size + 1 < T := ⟨by omega, by omega⟩
    obtain ⟨j0, j1, j2, j3⟩ := four_of HT.out
    obtain ⟨q0, q1, q2, q3⟩ := four_of HAu.out
    obtain ⟨x0, x1, x2, x3⟩ := four_of H3u.out
    obtain ⟨y0, y1, y2, y3⟩ := four_of H5u.out
    rw [HQ.out]
    clear nope hr b76 b82 b88 r77 r83 r89 z90 z6 z0 t4 hN9 k1 k2 k3 hB HO HQ hHeld hp hcell hss HSS HS6 HS0 HB0 C29 C30 C31 CA CB C13 C21 C22 HNA HNB H3 H5 HA5 HA3 HA2 HA1 HW5 HB1 HB2 HB3 HB6
    dsimp only at *
    cases lf with
    | true =>
      have hkk : KK = n.keys := HKK.out.symm.trans (HKL.out hlf)
      subst hkk
      go_wp2_with (fail)
      have hnN : (⟨true, n.cells, n.keys, n.kids⟩ : Nd) = n := by rw [← hlf]
      rw [hnN] at HW
      refine (same20 _ _ _ n HW.out.s (HN.out.on HBu.out)).mono ?_
      rintro e w10 ⟨rfl, hb10⟩
      have B10 := Lib.hid (bel_then HBu.out hb10)
      have H3a := Lib.hid (blk_on hb10 H3u.out)
      have H5a := Lib.hid (blk_on hb10 H5u.out)
      have HAa := Lib.hid (blk_on hb10 HAu.out)
      obtain ⟨q0, q1, q2, q3⟩ := four_of HAa.out
      obtain ⟨x0, x1, x2, x3⟩ := four_of H3a.out
      obtain ⟨y0, y1, y2, y3⟩ := four_of H5a.out
      have HNAa := Lib.hid (HNAu.out.on hb10)
      have HNBa := Lib.hid (HNBu.out.on hb10)
      have HKa := Lib.hid (HKu.out.on hb10)
      clear hb10
      go_wp2_with (fail)
      refine (apart32 _ _ _ _ A B K HNAa.out.s HKa.out.bs HNBa.out.s HQQ.out.1 HQQ.out.2.1 HQQ.out.2.2.1 HQQ.out.2.2.2).mono ?_
      rintro e w11 ⟨rfl, hb11⟩
      have B11 := Lib.hid (bel_then B10.out hb11)
      have H3b := Lib.hid (blk_on hb11 H3a.out)
      have H5b := Lib.hid (blk_on hb11 H5a.out)
      have HAb := Lib.hid (blk_on hb11 HAa.out)
      obtain ⟨q0, q1, q2, q3⟩ := four_of HAb.out
      obtain ⟨x0, x1, x2, x3⟩ := four_of H3b.out
      obtain ⟨y0, y1, y2, y3⟩ := four_of H5b.out
      have HNAb := Lib.hid (HNAa.out.on hb11)
      have HNBb := Lib.hid (HNBa.out.on hb11)
      clear hb11 H3a H5a HAa HNAa HNBa HKa
      go_wp2_with (fail)
      refine (near33 _ _ n (HN.out.on B11.out) HIK.out HTN.out).mono ?_
      rintro e w12 ⟨rfl, hb12⟩
      have B12 := Lib.hid (bel_then B11.out hb12)
      have H3c := Lib.hid (blk_on hb12 H3b.out)
      have H5c := Lib.hid (blk_on hb12 H5b.out)
      obtain ⟨x0, x1, x2, x3⟩ := four_of H3c.out
      obtain ⟨y0, y1, y2, y3⟩ := four_of H5c.out
      have HNAc := Lib.hid (HNAb.out.on hb12)
      have HNBc := Lib.hid (HNBb.out.on hb12)
      clear hb12 H3b H5b HAb HNAb HNBb
      cases hd : decide ((form (nearN n)).length ≤ 448) with
      | false =>
        go_wp2
        go_ret
        exact ⟨rfl, B12.out⟩
      | true =>
        obtain ⟨z1, z2⟩ := HNR.out (of_decide_eq_true hd)
        have z1' : ((form A).length : Int) ≤ 448 := by omega
        have z2' : ((form B).length : Int) ≤ 448 := by omega
        have S15 := Lib.hid (fun u v h => size15 u v A h (by omega))
        have S16 := Lib.hid (fun u v h => size15 u v B h (by omega))
        generalize (form A).length = LA at *
        generalize (form B).length = LB at *
        go_wp2_with (fail)
        refine (S15.out _ _ HNAc.out.s).mono ?_
        rintro e w13 ⟨rfl, hb13⟩
        have B13 := Lib.hid (bel_then B12.out hb13)
        obtain ⟨y0, y1, y2, y3⟩ := four_of (blk_on hb13 H5c.out)
        have HNBd := Lib.hid (HNBc.out.on hb13)
        clear hb13
        go_wp2_with (fail)
        refine (S16.out _ _ HNBd.out.s).mono ?_
        rintro e w14 ⟨rfl, hb14⟩
        go_wp2
        go_ret
        exact ⟨rfl, bel_then B13.out hb14⟩
    | false =>
      have hKe := HKI.out hlf
      have hsz1 : w4.heap.size < u.heap.size := World.block_lt_of_cell? u ⟨w4.heap.size, 0, none⟩ x0
      have hsz2 : w4.heap.size + 1 < u.heap.size := World.block_lt_of_cell? u ⟨w4.heap.size + 1, 0, none⟩ y0
      have hsz3 : T < u.heap.size := World.block_lt_of_cell? u ⟨T, 0, none⟩ j0
      have hsz4 : w.heap.size < u.heap.size := World.block_lt_of_cell? u ⟨w.heap.size, 0, none⟩ q0
      have hKn : A.keys.length + (1 + B.keys.length) = n.keys.length := by rw [← hKe]; simp; omega
      obtain ⟨W2, hW2⟩ : ∃ W2, W2 = (u.alloc (.cells #[.slice (some ⟨gk, 0, none⟩) K.length kc] 27)).alloc (.cells #[.slice r2 A.keys.length f2, .slice (some ⟨u.heap.size, 0, none⟩) 1 1, .slice s2 B.keys.length g2] 23) := ⟨_, rfl⟩
      have hbW : Below u.heap.size u W2 := by rw [hW2]; exact bel_then (bel1 _ _) (bel1 _ _)
      have hgk : W2.heap[u.heap.size]? = some (.cells #[.slice (some ⟨gk, 0, none⟩) K.length kc] 27) := by rw [hW2]; exact blk_on (bel1 _ _) (World.alloc_heap_new u _)
      have hgr : W2.heap[u.heap.size + 1]? = some (.cells #[.slice r2 A.keys.length f2, .slice (some ⟨u.heap.size, 0, none⟩) 1 1, .slice s2 B.keys.length g2] 23) := by rw [hW2]; exact new2 u _ _
      have c30 := cat30t w.heap.size u W2 _ _ _ A.keys [K] B.keys (u.heap.size + 1) HNAu.out.partsO.2.1 (kso_one HBu.out.size hgk (HKu.out.on hbW)) HNBu.out.partsO.2.1 hbW (by have := hbW.size; have := HBu.out.size; omega) hgr (by simp only [List.length_singleton]; rw [hKn]; exact HFL.out.2.1)
      rw [hKe] at c30
      have HC30 := Lib.hid c30
      have HWW := Lib.hid hW2
      have HbW := Lib.hid hbW
      clear c30 hgk hgr hbW hW2 hKe
      go_wp2_with (fail)
      rw [← HWW.out]
      refine HC30.out.mono ?_
      rintro e w9 ⟨v9, rfl, hv9, hb9⟩
      have B9 := bel_then HbW.out hb9
      have hT9 := blk_on B9 HT.out
      obtain ⟨a9, d9, rfl, -⟩ := hdrO_k hv9
      obtain ⟨j0, j1, j2, j3⟩ := four_of hT9
      have tf2 := four_fr hT9 2
      obtain ⟨u9, hu9⟩ : ∃ u9, u9 = w9.setCell ⟨T, 2, none⟩ (.slice a9 n.keys.length d9) := ⟨_, rfl⟩
      have hgr9 : w9.grownBy u9 (some T) := by rw [hu9]; exact gr_set _ _ _ _
      have HT9 : Hid (u9.heap[T]? = some (.cells #[.bool false, .slice a1 n.cells.length d1, .slice a9 n.keys.length d9, .slice a3 n.kids.length d3] 26)) := by rw [hu9]; exact blk_setc hT9 _
      have HW9 : Hid (NdO w.heap.size u9 (.agg #[.bool false, .slice a1 n.cells.length d1, .slice a9 n.keys.length d9, .slice a3 n.kids.length d3]) ⟨false, n.cells, n.keys, n.kids⟩) := ⟨_, _, _, rfl, (HK1.out.on B9).gr hgr9 hT9 (by decide) (by decide), hv9.gr hgr9 hT9 (by decide) (by decide), (HK3.out.on B9).gr hgr9 hT9 (by decide)⟩
      have HBu9 := Lib.hid (bel_put (bel_then HBu.out B9) hgr9 (by omega))
      have HAu9 := Lib.hid (blk_gr (blk_on B9 HAu.out) hgr9 (by omega))
      have H3u9 := Lib.hid (blk_gr (blk_on B9 H3u.out) hgr9 (by omega))
      have H5u9 := Lib.hid (blk_gr (blk_on B9 H5u.out) hgr9 (by omega))
      have HNAu9 := Lib.hid ((HNAu.out.on B9).gr hgr9 hT9 (by decide) (by decide) (by decide) (by decide))
      have HNBu9 := Lib.hid ((HNBu.out.on B9).gr hgr9 hT9 (by decide) (by decide) (by decide) (by decide))
      have HKu9 := Lib.hid (show Bts u9 w.heap.size (.slice (some ⟨gk, 0, none⟩) K.length kc) K from own_other (HKu.out.on B9) hgr9 hT9 (by decide))
      have HU9 := Lib.hid hu9
      clear HBu HAu H3u H5u HNAu HNBu HKu HW HK1 HK3 HWW HbW HC30 hgr9 hT9 B9 hb9 hv9 hu9
      have HBu := HBu9
      have HAu := HAu9
      have H3u := H3u9
      have H5u := H5u9
      have HNAu := HNAu9
      have HNBu := HNBu9
      have HKu := HKu9
      have HW := HW9
      clear HBu9 HAu9 H3u9 H5u9 HNAu9 HNBu9 HKu9 HW9
      clear q0 q1 q2 q3 x0 x1 x2 x3 y0 y1 y2 y3
      obtain ⟨q0, q1, q2, q3⟩ := four_of HAu.out
      obtain ⟨x0, x1, x2, x3⟩ := four_of H3u.out
      obtain ⟨y0, y1, y2, y3⟩ := four_of H5u.out
      obtain ⟨l0, l1, l2, l3⟩ := four_of HT9.out
      rw [HU9.out] at q0 q1 q2 q3 x0 x1 x2 x3 y0 y1 y2 y3 l0 l1 l2 l3
      go_wp2_with (fail)
      rw [← HU9.out]
      have hnN : (⟨false, n.cells, n.keys, n.kids⟩ : Nd) = n := by rw [← hlf]
      rw [hnN] at HW
      refine (same20 _ _ _ n HW.out.s (HN.out.on HBu.out)).mono ?_
      rintro e w10 ⟨rfl, hb10⟩
      have B10 := Lib.hid (bel_then HBu.out hb10)
      have H3a := Lib.hid (blk_on hb10 H3u.out)
      have H5a := Lib.hid (blk_on hb10 H5u.out)
      have HAa := Lib.hid (blk_on hb10 HAu.out)
      obtain ⟨q0, q1, q2, q3⟩ := four_of HAa.out
      obtain ⟨x0, x1, x2, x3⟩ := four_of H3a.out
      obtain ⟨y0, y1, y2, y3⟩ := four_of H5a.out
      have HNAa := Lib.hid (HNAu.out.on hb10)
      have HNBa := Lib.hid (HNBu.out.on hb10)
      have HKa := Lib.hid (HKu.out.on hb10)
      clear hb10
      go_wp2_with (fail)
      refine (apart32 _ _ _ _ A B K HNAa.out.s HKa.out.bs HNBa.out.s HQQ.out.1 HQQ.out.2.1 HQQ.out.2.2.1 HQQ.out.2.2.2).mono ?_
      rintro e w11 ⟨rfl, hb11⟩
      have B11 := Lib.hid (bel_then B10.out hb11)
      have H3b := Lib.hid (blk_on hb11 H3a.out)
      have H5b := Lib.hid (blk_on hb11 H5a.out)
      have HAb := Lib.hid (blk_on hb11 HAa.out)
      obtain ⟨q0, q1, q2, q3⟩ := four_of HAb.out
      obtain ⟨x0, x1, x2, x3⟩ := four_of H3b.out
      obtain ⟨y0, y1, y2, y3⟩ := four_of H5b.out
      have HNAb := Lib.hid (HNAa.out.on hb11)
      have HNBb := Lib.hid (HNBa.out.on hb11)
      clear hb11 H3a H5a HAa HNAa HNBa HKa
      go_wp2_with (fail)
      refine (near33 _ _ n (HN.out.on B11.out) HIK.out HTN.out).mono ?_
      rintro e w12 ⟨rfl, hb12⟩
      have B12 := Lib.hid (bel_then B11.out hb12)
      have H3c := Lib.hid (blk_on hb12 H3b.out)
      have H5c := Lib.hid (blk_on hb12 H5b.out)
      obtain ⟨x0, x1, x2, x3⟩ := four_of H3c.out
      obtain ⟨y0, y1, y2, y3⟩ := four_of H5c.out
      have HNAc := Lib.hid (HNAb.out.on hb12)
      have HNBc := Lib.hid (HNBb.out.on hb12)
      clear hb12 H3b H5b HAb HNAb HNBb
      cases hd : decide ((form (nearN n)).length ≤ 448) with
      | false =>
        go_wp2
        go_ret
        exact ⟨rfl, B12.out⟩
      | true =>
        obtain ⟨z1, z2⟩ := HNR.out (of_decide_eq_true hd)
        have z1' : ((form A).length : Int) ≤ 448 := by omega
        have z2' : ((form B).length : Int) ≤ 448 := by omega
        have S15 := Lib.hid (fun u v h => size15 u v A h (by omega))
        have S16 := Lib.hid (fun u v h => size15 u v B h (by omega))
        generalize (form A).length = LA at *
        generalize (form B).length = LB at *
        go_wp2_with (fail)
        refine (S15.out _ _ HNAc.out.s).mono ?_
        rintro e w13 ⟨rfl, hb13⟩
        have B13 := Lib.hid (bel_then B12.out hb13)
        obtain ⟨y0, y1, y2, y3⟩ := four_of (blk_on hb13 H5c.out)
        have HNBd := Lib.hid (HNBc.out.on hb13)
        clear hb13
        go_wp2_with (fail)
        refine (S16.out _ _ HNBd.out.s).mono ?_
        rintro e w14 ⟨rfl, hb14⟩
        go_wp2
        go_ret
        exact ⟨rfl, bel_then B13.out hb14⟩
end Go.Proofs.Ytbkpgppaahpalaa
