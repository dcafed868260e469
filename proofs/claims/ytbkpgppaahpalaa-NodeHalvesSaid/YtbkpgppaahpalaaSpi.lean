/-
  Split of package node: an inner node.
-/
import Derived.Test.YtbkpgppaahpalaaSpa
import Derived.Deep.RegionHeld3
namespace Go.Proofs.Ytbkpgppaahpalaa
open Go.RowKit
set_option linter.unusedVariables false      -- a walk need not use every condition

theorem blk_grd {w w' : World} {g k : Nat} {o : Obj} (h : w.heap[k]? = some o) (hg : w.grownBy w' (some g)) (hne : k ≠ g) : w'.drew.heap[k]? = some o := by
  have := blk_gr h hg hne
  exact this
set_option maxHeartbeats 8000000 in
set_option maxRecDepth 100000 in
theorem split_inner (w : World) (g0 o0 ck : Nat) (vc vi : Value) (n : Nd) (h : NdS w (.agg #[.bool n.leaf, vc, .slice (some ⟨g0, o0, none⟩) n.keys.length ck, vi]) n) (hf : Fit n) (ht : (form n).length ≤ 4611686018427387904) (hL : n.leaf = false) (h1 : 0 < n.keys.length) (h2 : n.keys.length < n.kids.length) (hc : ¬ ck = atI n.keys n.kids + 1) :
    Calls Try.prog 22 #[.agg #[.bool n.leaf, vc, .slice (some ⟨g0, o0, none⟩) n.keys.length ck, vi]] w fun e w' => ∃ va vk vb, e = .returned (.tuple #[va, vk, vb]) ∧ NdO w.heap.size w' va (spl n).1 ∧ Bts w' w.heap.size vk (spl n).2.1 ∧ NdO w.heap.size w' vb (spl n).2.2 ∧ Below w.heap.size w w' := by
  obtain ⟨q2, -⟩ := atI_is hL h1 ht
  have c53 := fun (u : World) (hu : Below w.heap.size w u) => innerPlace53 u _ n (h.on hu) hL h1 h2 ht
  have lk63 : n.keys.length < 9223372036854775807 := by have := hf.2.1; omega
  obtain ⟨ff1, ff2⟩ := fit_inner hf (atI n.keys n.kids)
  have fk : (n.keys[atI n.keys n.kids]).length ≤ 140737488355328 := by
    have := hf.2.2.2.2 _ (List.getElem_mem q2)
    omega
  have hs : spl n = (⟨false, [], n.keys.take (atI n.keys n.kids), n.kids.take (atI n.keys n.kids + 1)⟩, n.keys[atI n.keys n.kids], ⟨false, [], n.keys.drop (atI n.keys n.kids + 1), n.kids.drop (atI n.keys n.kids + 1)⟩) := by
    unfold spl
    rw [if_neg (by rw [hL]; simp), if_pos ⟨hL, h1, h2⟩, List.getElem?_eq_getElem q2]
    rfl
  rw [hs]
  obtain ⟨vc', vk', vi', e9, hC, hK, hI⟩ := h
  injection e9 with e9
  obtain rfl : vc = vc' := congrArg (fun a : Array Value => a.getD 1 undef) e9
  obtain rfl : _ = vk' := congrArg (fun a : Array Value => a.getD 2 undef) e9
  obtain rfl : vi = vi' := congrArg (fun a : Array Value => a.getD 3 undef) e9
  clear e9
  obtain ⟨pc, cc, rfl, -, lc⟩ := hC.hdr
  obtain ⟨g9, o9, c9, kk, e9, k0, hBk⟩ := hK.at q2
  injection e9 with e91 e92 e93
  injection e91 with e91
  injection e91 with e94 e95
  subst e93 e94 e95
  clear e92
  obtain ⟨g1, o1, ci, rfl, -, -⟩ := hI.at (i := 0) (by omega)
  have hcc : n.keys.length ≤ ck := by
    obtain ⟨p', c', e, h1, -⟩ := hK.hdr
    injection e with e1 e2 e3
    omega
  have hci : n.kids.length ≤ ci := by
    obtain ⟨p', c', e, h1, -⟩ := hI.hdr
    injection e with e1 e2 e3
    omega
  have HKf := Lib.hid (hK.first (Nat.le_of_lt q2))
  have HKd := Lib.hid (hK.last (k := atI n.keys n.kids + 1) (by omega))
  have HIf := Lib.hid (hI.first (k := atI n.keys n.kids + 1) (by omega))
  have HId := Lib.hid (hI.last (k := atI n.keys n.kids + 1) (by omega))
  have HBK := Lib.hid hBk
  have hBk0 := hBk
  obtain ⟨kp, kc, rfl, -, -⟩ := hBk0.slice
  clear hC hK hI hs hBk0 hBk
  obtain ⟨W, hW⟩ : ∃ W, W = ((((w.alloc (Obj.cells #[.bool n.leaf, .slice pc n.cells.length cc, .slice (some ⟨g0, o0, none⟩) n.keys.length ck, .slice (some ⟨g1, o1, none⟩) n.kids.length ci] 26)).alloc (Obj.cells #[.bool false, .slice none 0 0, .slice none 0 0, .slice none 0 0] 26)).alloc (Obj.cells #[.bool false, .slice none 0 0, .slice none 0 0, .slice none 0 0] 26)).alloc (Obj.cells #[.bool false, .slice none 0 0, .slice none 0 0, .slice none 0 0] 26)).alloc (Obj.cells #[.bool false, .slice none 0 0, .slice none 0 0, .slice none 0 0] 26) := ⟨_, rfl⟩
  obtain ⟨hWs, hWA, hW2, hW4, hW5, hW6⟩ : W.heap.size = w.heap.size + 5 ∧ W.heap[w.heap.size]? = some (Obj.cells #[.bool n.leaf, .slice pc n.cells.length cc, .slice (some ⟨g0, o0, none⟩) n.keys.length ck, .slice (some ⟨g1, o1, none⟩) n.kids.length ci] 26) ∧ W.heap[w.heap.size + 1]? = some (Obj.cells #[.bool false, .slice none 0 0, .slice none 0 0, .slice none 0 0] 26) ∧ W.heap[w.heap.size + 2]? = some (Obj.cells #[.bool false, .slice none 0 0, .slice none 0 0, .slice none 0 0] 26) ∧ W.heap[w.heap.size + 3]? = some (Obj.cells #[.bool false, .slice none 0 0, .slice none 0 0, .slice none 0 0] 26) ∧ W.heap[w.heap.size + 4]? = some (Obj.cells #[.bool false, .slice none 0 0, .slice none 0 0, .slice none 0 0] 26) := by rw [hW]; exact five_new w _ _ _ _ _
  have hWB : Below w.heap.size w W := by rw [hW]; exact bel_then (bel_then (bel_then (bel_then (bel1 _ _) (bel1 _ _)) (bel1 _ _)) (bel1 _ _)) (bel1 _ _)
  have c53' := c53 W hWB
  have K0 := Lib.hid k0
  rw [show (best (iF n.keys n.kids) (iS n.keys n.kids) 0 n.keys.length).1 = atI n.keys n.kids from rfl] at c53'
  rw [hL] at hW hWA c53' ⊢
  have HFIT := Lib.hid (And.intro ff1 ff2)
  obtain ⟨key, hkey⟩ : ∃ k, n.keys[atI n.keys n.kids] = k := ⟨_, rfl⟩
  rw [hkey] at HBK fk
  rw [hkey] at k0 K0
  rw [hkey]
  obtain ⟨at_, hat⟩ : ∃ k, atI n.keys n.kids = k := ⟨_, rfl⟩
  simp only [hat] at *
  obtain ⟨N, hN⟩ : ∃ k, n.keys.length = k := ⟨_, rfl⟩
  obtain ⟨P, hP⟩ : ∃ k, n.kids.length = k := ⟨_, rfl⟩
  rw [hN] at c53' hW hWA hcc q2 HKd h1 h2 lk63 ⊢
  rw [hP] at c53' hW hWA hci HId h2 ⊢
  have HN := Lib.hid hN
  obtain ⟨A, hA⟩ : ∃ a : Nd, (⟨false, [], n.keys.take at_, n.kids.take (at_ + 1)⟩ : Nd) = a := ⟨_, rfl⟩
  obtain ⟨B, hB⟩ : ∃ a : Nd, (⟨false, [], n.keys.drop (at_ + 1), n.kids.drop (at_ + 1)⟩ : Nd) = a := ⟨_, rfl⟩
  rw [hA, hB] at HFIT ⊢
  have cA : Hid (∀ u, Below w.heap.size w u → Calls Try.prog 26 #[.agg #[.bool false, .slice none 0 0, .slice (some ⟨g0, o0, none⟩) at_ ck, .slice (some ⟨g1, o1, none⟩) (at_ + 1) ci]] u fun e w' => ∃ v', e = .returned v' ∧ NdO u.heap.size w' v' A ∧ Below u.heap.size u w') := fun u hu => clone26 u _ A (by rw [← hA]; exact ⟨_, _, _, rfl, cs_nil u, HKf.out.on hu, HIf.out.on hu⟩) HFIT.out.1
  have cB : Hid (∀ u, Below w.heap.size w u → Calls Try.prog 26 #[.agg #[.bool false, .slice none 0 0, .slice (some ⟨g0, o0 + (at_ + 1), none⟩) (N - (at_ + 1)) (ck - (at_ + 1)), .slice (some ⟨g1, o1 + (at_ + 1), none⟩) (P - (at_ + 1)) (ci - (at_ + 1))]] u fun e w' => ∃ v', e = .returned v' ∧ NdO u.heap.size w' v' B ∧ Below u.heap.size u w') := fun u hu => clone26 u _ B (by rw [← hB]; exact ⟨_, _, _, rfl, cs_nil u, (HKd.out.on hu), HId.out.on hu⟩) HFIT.out.2
  have cK : Hid (∀ u, Below w.heap.size w u → Calls Try.prog 54 #[.slice kp key.length kc] u fun e w' => ∃ v', e = .returned v' ∧ Bts w' u.heap.size v' key ∧ Below u.heap.size u w') := fun u hu => copyB54 u _ key (HBK.out.on hu) fk
  have z0 : (0 : Int) < (N : Int) := by omega
  have z1 : (N : Int) < (P : Int) := by omega
  have z2 : (at_ : Int) < (N : Int) := by omega
  have z3 : (0 : Int) ≤ (at_ : Int) := by omega
  have z4 : (at_ : Int) ≤ (ck : Int) := by omega
  have z5 : (N : Int) ≤ (ck : Int) := by omega
  have z6 : (at_ : Int) + 1 ≤ (ci : Int) := by omega
  have z7 : (P : Int) ≤ (ci : Int) := by omega
  have z8 : (at_ : Int) + 1 ≤ (P : Int) := by omega
  have z9 : (at_ : Int) + 1 ≤ (N : Int) := by omega
  have zb : IntKind.i64.wrap ((at_ : Int) + 1) = (at_ : Int) + 1 := by rw [IntKind.wrap_i64]; have := lk63; omega
  have za : ¬ ci = at_ + 1 := by omega
  have zc : (0 : Int) ≤ (at_ : Int) + 1 := by omega
  have HWB := Lib.hid hWB
  have HWs := Lib.hid hWs
  have HA := Lib.hid hWA
  have H2 := Lib.hid hW2
  have H4 := Lib.hid hW4
  have H5 := Lib.hid hW5
  have H6 := Lib.hid hW6
  have HW := Lib.hid hW
  clear hWB hWs hWA hW2 hW4 hW5 hW6 HKf HKd HIf HId HFIT hA hB hkey hat hN c53 fk hf ht h1 h2 ff1 ff2 hcc hci hL HBK hP lk63
  go_enter Try.func22, Try.ntmps22
  go_wp2_with (fail)
  rw [← HW.out]
  clear hW
  refine c53'.mono ?_
  rintro e w1 ⟨rfl, hb1⟩
  have HB1 := Lib.hid (bel_then HWB.out hb1)
  have HA1 := Lib.hid (blk_on hb1 HA.out)
  have h21 := Lib.hid (blk_on hb1 H2.out)
  have h41 := Lib.hid (blk_on hb1 H4.out)
  have h51 := Lib.hid (blk_on hb1 H5.out)
  have h61 := Lib.hid (blk_on hb1 H6.out)
  have hs1 : w.heap.size + 5 ≤ w1.heap.size := by have := hb1.size; have := HWs.out; omega
  clear hb1 c53' HW HA H2 H4 H5 H6
  obtain ⟨a0, a1, a2, a3⟩ := four_of HA1.out
  obtain ⟨b0, b1, b2, b3⟩ := four_of h51.out
  obtain ⟨d0, d1, d2, d3⟩ := four_of h61.out
  have bf0 := four_fr h51.out 0
  have bf1 := four_fr h51.out 1
  have bf2 := four_fr h51.out 2
  have bf3 := four_fr h51.out 3
  have df0 := four_fr h61.out 0
  have df1 := four_fr h61.out 1
  have df2 := four_fr h61.out 2
  have df3 := four_fr h61.out 3
  have k1 := cell_past HB1.out K0.out
  go_wp2_with (fail)
  go_region
  obtain ⟨w5, hw5⟩ : ∃ u, u = ((((w1.setCell ⟨w.heap.size + 1 + 1 + 1, 0, none⟩ (.bool false)).setCell ⟨w.heap.size + 1 + 1 + 1, 1, none⟩ (.slice none 0 0)).setCell ⟨w.heap.size + 1 + 1 + 1, 2, none⟩ (.slice (some ⟨g0, o0, none⟩) at_ ck)).setCell ⟨w.heap.size + 1 + 1 + 1, 3, none⟩ (.slice (some ⟨g1, o1, none⟩) (at_ + 1) ci)).drew := ⟨_, rfl⟩
  rw [← hw5]
  have gA := gr_four w1 (w.heap.size + 1 + 1 + 1) (.bool false) (.slice none 0 0) (.slice (some ⟨g0, o0, none⟩) at_ ck) (.slice (some ⟨g1, o1, none⟩) (at_ + 1) ci)
  have HB5 : Hid (Below w.heap.size w w5) := by rw [hw5]; exact (bel_put HB1.out gA (by omega)).drew
  have h55 : Hid (w5.heap[w.heap.size + 1 + 1 + 1]? = some (Obj.cells #[.bool false, .slice none 0 0, (.slice (some ⟨g0, o0, none⟩) at_ ck), (.slice (some ⟨g1, o1, none⟩) (at_ + 1) ci)] 26)) := by rw [hw5]; exact blk_four h51.out _ _ _ _
  have h65 : Hid (w5.heap[w.heap.size + 1 + 1 + 1 + 1]? = some (Obj.cells #[.bool false, .slice none 0 0, .slice none 0 0, .slice none 0 0] 26)) := by rw [hw5]; exact blk_grd h61.out gA (by omega)
  have h25 : Hid (w5.heap[w.heap.size + 1]? = some (Obj.cells #[.bool false, .slice none 0 0, .slice none 0 0, .slice none 0 0] 26)) := by rw [hw5]; exact blk_grd h21.out gA (by omega)
  have h45 : Hid (w5.heap[w.heap.size + 1 + 1]? = some (Obj.cells #[.bool false, .slice none 0 0, .slice none 0 0, .slice none 0 0] 26)) := by rw [hw5]; exact blk_grd h41.out gA (by omega)
  have hA5 : Hid (w5.heap[w.heap.size]? = some (Obj.cells #[.bool false, .slice pc n.cells.length cc, .slice (some ⟨g0, o0, none⟩) N ck, .slice (some ⟨g1, o1, none⟩) P ci] 26)) := by rw [hw5]; exact blk_grd HA1.out gA (by omega)
  have hs5 : w.heap.size + 5 ≤ w5.heap.size := by rw [hw5]; exact Nat.le_trans hs1 gA.size
  clear gA hw5 HA1 h21 h41 h51 h61 a0 a1 a2 a3 b0 b1 b2 b3 d0 d1 d2 d3 bf0 bf1 bf2 bf3 df0 df1 df2 df3 k1 k0 K0
  obtain ⟨a0, a1, a2, a3⟩ := four_of hA5.out
  obtain ⟨d0, d1, d2, d3⟩ := four_of h65.out
  have df0 := four_fr h65.out 0
  have df1 := four_fr h65.out 1
  have df2 := four_fr h65.out 2
  have df3 := four_fr h65.out 3
  go_wp2
  go_region
  obtain ⟨w2, hw2⟩ : ∃ u, u = ((((w5.setCell ⟨w.heap.size + 1 + 1 + 1 + 1, 0, none⟩ (.bool false)).setCell ⟨w.heap.size + 1 + 1 + 1 + 1, 1, none⟩ (.slice none 0 0)).setCell ⟨w.heap.size + 1 + 1 + 1 + 1, 2, none⟩ (.slice (some ⟨g0, o0 + (at_ + 1), none⟩) (N - (at_ + 1)) (ck - (at_ + 1)))).setCell ⟨w.heap.size + 1 + 1 + 1 + 1, 3, none⟩ (.slice (some ⟨g1, o1 + (at_ + 1), none⟩) (P - (at_ + 1)) (ci - (at_ + 1)))).drew := ⟨_, rfl⟩
  rw [← hw2]
  have gB := gr_four w5 (w.heap.size + 1 + 1 + 1 + 1) (.bool false) (.slice none 0 0) (.slice (some ⟨g0, o0 + (at_ + 1), none⟩) (N - (at_ + 1)) (ck - (at_ + 1))) (.slice (some ⟨g1, o1 + (at_ + 1), none⟩) (P - (at_ + 1)) (ci - (at_ + 1)))
  have HB2 : Hid (Below w.heap.size w w2) := by rw [hw2]; exact (bel_put HB5.out gB (by omega)).drew
  have h52 : Hid (w2.heap[w.heap.size + 1 + 1 + 1]? = some (Obj.cells #[.bool false, .slice none 0 0, (.slice (some ⟨g0, o0, none⟩) at_ ck), (.slice (some ⟨g1, o1, none⟩) (at_ + 1) ci)] 26)) := by rw [hw2]; exact blk_grd h55.out gB (by omega)
  have h62 : Hid (w2.heap[w.heap.size + 1 + 1 + 1 + 1]? = some (Obj.cells #[.bool false, .slice none 0 0, (.slice (some ⟨g0, o0 + (at_ + 1), none⟩) (N - (at_ + 1)) (ck - (at_ + 1))), (.slice (some ⟨g1, o1 + (at_ + 1), none⟩) (P - (at_ + 1)) (ci - (at_ + 1)))] 26)) := by rw [hw2]; exact blk_four h65.out _ _ _ _
  have h22 : Hid (w2.heap[w.heap.size + 1]? = some (Obj.cells #[.bool false, .slice none 0 0, .slice none 0 0, .slice none 0 0] 26)) := by rw [hw2]; exact blk_grd h25.out gB (by omega)
  have h42 : Hid (w2.heap[w.heap.size + 1 + 1]? = some (Obj.cells #[.bool false, .slice none 0 0, .slice none 0 0, .slice none 0 0] 26)) := by rw [hw2]; exact blk_grd h45.out gB (by omega)
  have hs2 : w.heap.size + 5 ≤ w2.heap.size := by rw [hw2]; exact Nat.le_trans hs5 gB.size
  obtain ⟨v5k, hv5k⟩ : ∃ x : Value, (.slice (some ⟨g0, o0, none⟩) at_ ck) = x := ⟨_, rfl⟩
  obtain ⟨v5i, hv5i⟩ : ∃ x : Value, (.slice (some ⟨g1, o1, none⟩) (at_ + 1) ci) = x := ⟨_, rfl⟩
  obtain ⟨v6k, hv6k⟩ : ∃ x : Value, (.slice (some ⟨g0, o0 + (at_ + 1), none⟩) (N - (at_ + 1)) (ck - (at_ + 1))) = x := ⟨_, rfl⟩
  obtain ⟨v6i, hv6i⟩ : ∃ x : Value, (.slice (some ⟨g1, o1 + (at_ + 1), none⟩) (P - (at_ + 1)) (ci - (at_ + 1))) = x := ⟨_, rfl⟩
  rw [hv5k, hv5i] at cA h52
  rw [hv6k, hv6i] at cB h62
  go_wp2
  clear gB hw2 hA5 h25 h45 h55 h65 a0 a1 a2 a3 d0 d1 d2 d3 df0 df1 df2 df3 z0 z1 z2 z3 z4 z5 z6 z7 z8 z9 za zb zc hv5k hv5i hv6k hv6i
  have SS : ∀ u, Below w2.heap.size w2 u → ((u.cell? ⟨w.heap.size + 1 + 1 + 1, 0, none⟩ = some (.bool false) ∧ u.cell? ⟨w.heap.size + 1 + 1 + 1, 1, none⟩ = some (.slice none 0 0) ∧ u.cell? ⟨w.heap.size + 1 + 1 + 1, 2, none⟩ = some v5k ∧ u.cell? ⟨w.heap.size + 1 + 1 + 1, 3, none⟩ = some v5i) ∧ u.cell? ⟨w.heap.size + 1 + 1 + 1 + 1, 0, none⟩ = some (.bool false) ∧ u.cell? ⟨w.heap.size + 1 + 1 + 1 + 1, 1, none⟩ = some (.slice none 0 0) ∧ u.cell? ⟨w.heap.size + 1 + 1 + 1 + 1, 2, none⟩ = some v6k ∧ u.cell? ⟨w.heap.size + 1 + 1 + 1 + 1, 3, none⟩ = some v6i) := fun u hu => ⟨four_of (blk_on hu h52.out), four_of (blk_on hu h62.out)⟩
  have HS2 : Hid (∀ (u : World) (a b c d : Value), Below w2.heap.size w2 u → ((((((u.setCell ⟨w.heap.size + 1, 0, none⟩ a).setCell ⟨w.heap.size + 1, 1, none⟩ b).setCell ⟨w.heap.size + 1, 2, none⟩ c).setCell ⟨w.heap.size + 1, 3, none⟩ d).cell? ⟨w.heap.size + 1 + 1 + 1, 0, none⟩ = some (.bool false) ∧ ((((u.setCell ⟨w.heap.size + 1, 0, none⟩ a).setCell ⟨w.heap.size + 1, 1, none⟩ b).setCell ⟨w.heap.size + 1, 2, none⟩ c).setCell ⟨w.heap.size + 1, 3, none⟩ d).cell? ⟨w.heap.size + 1 + 1 + 1, 1, none⟩ = some (.slice none 0 0) ∧ ((((u.setCell ⟨w.heap.size + 1, 0, none⟩ a).setCell ⟨w.heap.size + 1, 1, none⟩ b).setCell ⟨w.heap.size + 1, 2, none⟩ c).setCell ⟨w.heap.size + 1, 3, none⟩ d).cell? ⟨w.heap.size + 1 + 1 + 1, 2, none⟩ = some v5k ∧ ((((u.setCell ⟨w.heap.size + 1, 0, none⟩ a).setCell ⟨w.heap.size + 1, 1, none⟩ b).setCell ⟨w.heap.size + 1, 2, none⟩ c).setCell ⟨w.heap.size + 1, 3, none⟩ d).cell? ⟨w.heap.size + 1 + 1 + 1, 3, none⟩ = some v5i) ∧ ((((u.setCell ⟨w.heap.size + 1, 0, none⟩ a).setCell ⟨w.heap.size + 1, 1, none⟩ b).setCell ⟨w.heap.size + 1, 2, none⟩ c).setCell ⟨w.heap.size + 1, 3, none⟩ d).cell? ⟨w.heap.size + 1 + 1 + 1 + 1, 0, none⟩ = some (.bool false) ∧ ((((u.setCell ⟨w.heap.size + 1, 0, none⟩ a).setCell ⟨w.heap.size + 1, 1, none⟩ b).setCell ⟨w.heap.size + 1, 2, none⟩ c).setCell ⟨w.heap.size + 1, 3, none⟩ d).cell? ⟨w.heap.size + 1 + 1 + 1 + 1, 1, none⟩ = some (.slice none 0 0) ∧ ((((u.setCell ⟨w.heap.size + 1, 0, none⟩ a).setCell ⟨w.heap.size + 1, 1, none⟩ b).setCell ⟨w.heap.size + 1, 2, none⟩ c).setCell ⟨w.heap.size + 1, 3, none⟩ d).cell? ⟨w.heap.size + 1 + 1 + 1 + 1, 2, none⟩ = some v6k ∧ ((((u.setCell ⟨w.heap.size + 1, 0, none⟩ a).setCell ⟨w.heap.size + 1, 1, none⟩ b).setCell ⟨w.heap.size + 1, 2, none⟩ c).setCell ⟨w.heap.size + 1, 3, none⟩ d).cell? ⟨w.heap.size + 1 + 1 + 1 + 1, 3, none⟩ = some v6i)) := fun u a b c d hu => ⟨four_of (blk_gr (blk_on hu h52.out) (gr_four u (w.heap.size + 1) a b c d) (by omega)), four_of (blk_gr (blk_on hu h62.out) (gr_four u (w.heap.size + 1) a b c d) (by omega))⟩
  have HS4 : Hid (∀ (u : World) (a b c d : Value), Below w2.heap.size w2 u → ((((((u.setCell ⟨w.heap.size + 1 + 1, 0, none⟩ a).setCell ⟨w.heap.size + 1 + 1, 1, none⟩ b).setCell ⟨w.heap.size + 1 + 1, 2, none⟩ c).setCell ⟨w.heap.size + 1 + 1, 3, none⟩ d).cell? ⟨w.heap.size + 1 + 1 + 1, 0, none⟩ = some (.bool false) ∧ ((((u.setCell ⟨w.heap.size + 1 + 1, 0, none⟩ a).setCell ⟨w.heap.size + 1 + 1, 1, none⟩ b).setCell ⟨w.heap.size + 1 + 1, 2, none⟩ c).setCell ⟨w.heap.size + 1 + 1, 3, none⟩ d).cell? ⟨w.heap.size + 1 + 1 + 1, 1, none⟩ = some (.slice none 0 0) ∧ ((((u.setCell ⟨w.heap.size + 1 + 1, 0, none⟩ a).setCell ⟨w.heap.size + 1 + 1, 1, none⟩ b).setCell ⟨w.heap.size + 1 + 1, 2, none⟩ c).setCell ⟨w.heap.size + 1 + 1, 3, none⟩ d).cell? ⟨w.heap.size + 1 + 1 + 1, 2, none⟩ = some v5k ∧ ((((u.setCell ⟨w.heap.size + 1 + 1, 0, none⟩ a).setCell ⟨w.heap.size + 1 + 1, 1, none⟩ b).setCell ⟨w.heap.size + 1 + 1, 2, none⟩ c).setCell ⟨w.heap.size + 1 + 1, 3, none⟩ d).cell? ⟨w.heap.size + 1 + 1 + 1, 3, none⟩ = some v5i) ∧ ((((u.setCell ⟨w.heap.size + 1 + 1, 0, none⟩ a).setCell ⟨w.heap.size + 1 + 1, 1, none⟩ b).setCell ⟨w.heap.size + 1 + 1, 2, none⟩ c).setCell ⟨w.heap.size + 1 + 1, 3, none⟩ d).cell? ⟨w.heap.size + 1 + 1 + 1 + 1, 0, none⟩ = some (.bool false) ∧ ((((u.setCell ⟨w.heap.size + 1 + 1, 0, none⟩ a).setCell ⟨w.heap.size + 1 + 1, 1, none⟩ b).setCell ⟨w.heap.size + 1 + 1, 2, none⟩ c).setCell ⟨w.heap.size + 1 + 1, 3, none⟩ d).cell? ⟨w.heap.size + 1 + 1 + 1 + 1, 1, none⟩ = some (.slice none 0 0) ∧ ((((u.setCell ⟨w.heap.size + 1 + 1, 0, none⟩ a).setCell ⟨w.heap.size + 1 + 1, 1, none⟩ b).setCell ⟨w.heap.size + 1 + 1, 2, none⟩ c).setCell ⟨w.heap.size + 1 + 1, 3, none⟩ d).cell? ⟨w.heap.size + 1 + 1 + 1 + 1, 2, none⟩ = some v6k ∧ ((((u.setCell ⟨w.heap.size + 1 + 1, 0, none⟩ a).setCell ⟨w.heap.size + 1 + 1, 1, none⟩ b).setCell ⟨w.heap.size + 1 + 1, 2, none⟩ c).setCell ⟨w.heap.size + 1 + 1, 3, none⟩ d).cell? ⟨w.heap.size + 1 + 1 + 1 + 1, 3, none⟩ = some v6i)) := fun u a b c d hu => ⟨four_of (blk_gr (blk_on hu h52.out) (gr_four u (w.heap.size + 1 + 1) a b c d) (by omega)), four_of (blk_gr (blk_on hu h62.out) (gr_four u (w.heap.size + 1 + 1) a b c d) (by omega))⟩
  have HS24 : Hid (∀ (u : World) (a b c d a' b' c' d' : Value), Below w2.heap.size w2 u → ((((((((((u.setCell ⟨w.heap.size + 1, 0, none⟩ a).setCell ⟨w.heap.size + 1, 1, none⟩ b).setCell ⟨w.heap.size + 1, 2, none⟩ c).setCell ⟨w.heap.size + 1, 3, none⟩ d).setCell ⟨w.heap.size + 1 + 1, 0, none⟩ a').setCell ⟨w.heap.size + 1 + 1, 1, none⟩ b').setCell ⟨w.heap.size + 1 + 1, 2, none⟩ c').setCell ⟨w.heap.size + 1 + 1, 3, none⟩ d').cell? ⟨w.heap.size + 1 + 1 + 1, 0, none⟩ = some (.bool false) ∧ ((((((((u.setCell ⟨w.heap.size + 1, 0, none⟩ a).setCell ⟨w.heap.size + 1, 1, none⟩ b).setCell ⟨w.heap.size + 1, 2, none⟩ c).setCell ⟨w.heap.size + 1, 3, none⟩ d).setCell ⟨w.heap.size + 1 + 1, 0, none⟩ a').setCell ⟨w.heap.size + 1 + 1, 1, none⟩ b').setCell ⟨w.heap.size + 1 + 1, 2, none⟩ c').setCell ⟨w.heap.size + 1 + 1, 3, none⟩ d').cell? ⟨w.heap.size + 1 + 1 + 1, 1, none⟩ = some (.slice none 0 0) ∧ ((((((((u.setCell ⟨w.heap.size + 1, 0, none⟩ a).setCell ⟨w.heap.size + 1, 1, none⟩ b).setCell ⟨w.heap.size + 1, 2, none⟩ c).setCell ⟨w.heap.size + 1, 3, none⟩ d).setCell ⟨w.heap.size + 1 + 1, 0, none⟩ a').setCell ⟨w.heap.size + 1 + 1, 1, none⟩ b').setCell ⟨w.heap.size + 1 + 1, 2, none⟩ c').setCell ⟨w.heap.size + 1 + 1, 3, none⟩ d').cell? ⟨w.heap.size + 1 + 1 + 1, 2, none⟩ = some v5k ∧ ((((((((u.setCell ⟨w.heap.size + 1, 0, none⟩ a).setCell ⟨w.heap.size + 1, 1, none⟩ b).setCell ⟨w.heap.size + 1, 2, none⟩ c).setCell ⟨w.heap.size + 1, 3, none⟩ d).setCell ⟨w.heap.size + 1 + 1, 0, none⟩ a').setCell ⟨w.heap.size + 1 + 1, 1, none⟩ b').setCell ⟨w.heap.size + 1 + 1, 2, none⟩ c').setCell ⟨w.heap.size + 1 + 1, 3, none⟩ d').cell? ⟨w.heap.size + 1 + 1 + 1, 3, none⟩ = some v5i) ∧ ((((((((u.setCell ⟨w.heap.size + 1, 0, none⟩ a).setCell ⟨w.heap.size + 1, 1, none⟩ b).setCell ⟨w.heap.size + 1, 2, none⟩ c).setCell ⟨w.heap.size + 1, 3, none⟩ d).setCell ⟨w.heap.size + 1 + 1, 0, none⟩ a').setCell ⟨w.heap.size + 1 + 1, 1, none⟩ b').setCell ⟨w.heap.size + 1 + 1, 2, none⟩ c').setCell ⟨w.heap.size + 1 + 1, 3, none⟩ d').cell? ⟨w.heap.size + 1 + 1 + 1 + 1, 0, none⟩ = some (.bool false) ∧ ((((((((u.setCell ⟨w.heap.size + 1, 0, none⟩ a).setCell ⟨w.heap.size + 1, 1, none⟩ b).setCell ⟨w.heap.size + 1, 2, none⟩ c).setCell ⟨w.heap.size + 1, 3, none⟩ d).setCell ⟨w.heap.size + 1 + 1, 0, none⟩ a').setCell ⟨w.heap.size + 1 + 1, 1, none⟩ b').setCell ⟨w.heap.size + 1 + 1, 2, none⟩ c').setCell ⟨w.heap.size + 1 + 1, 3, none⟩ d').cell? ⟨w.heap.size + 1 + 1 + 1 + 1, 1, none⟩ = some (.slice none 0 0) ∧ ((((((((u.setCell ⟨w.heap.size + 1, 0, none⟩ a).setCell ⟨w.heap.size + 1, 1, none⟩ b).setCell ⟨w.heap.size + 1, 2, none⟩ c).setCell ⟨w.heap.size + 1, 3, none⟩ d).setCell ⟨w.heap.size + 1 + 1, 0, none⟩ a').setCell ⟨w.heap.size + 1 + 1, 1, none⟩ b').setCell ⟨w.heap.size + 1 + 1, 2, none⟩ c').setCell ⟨w.heap.size + 1 + 1, 3, none⟩ d').cell? ⟨w.heap.size + 1 + 1 + 1 + 1, 2, none⟩ = some v6k ∧ ((((((((u.setCell ⟨w.heap.size + 1, 0, none⟩ a).setCell ⟨w.heap.size + 1, 1, none⟩ b).setCell ⟨w.heap.size + 1, 2, none⟩ c).setCell ⟨w.heap.size + 1, 3, none⟩ d).setCell ⟨w.heap.size + 1 + 1, 0, none⟩ a').setCell ⟨w.heap.size + 1 + 1, 1, none⟩ b').setCell ⟨w.heap.size + 1 + 1, 2, none⟩ c').setCell ⟨w.heap.size + 1 + 1, 3, none⟩ d').cell? ⟨w.heap.size + 1 + 1 + 1 + 1, 3, none⟩ = some v6i)) := fun u a b c d a' b' c' d' hu => ⟨four_of (blk_gr (blk_gr (blk_on hu h52.out) (gr_four u (w.heap.size + 1) a b c d) (by omega)) (gr_four _ (w.heap.size + 1 + 1) a' b' c' d') (by omega)), four_of (blk_gr (blk_gr (blk_on hu h62.out) (gr_four u (w.heap.size + 1) a b c d) (by omega)) (gr_four _ (w.heap.size + 1 + 1) a' b' c' d') (by omega))⟩
  have HS42 : Hid (∀ (u : World) (a b c d a' b' c' d' : Value), Below w2.heap.size w2 u → ((((((((((u.setCell ⟨w.heap.size + 1 + 1, 0, none⟩ a).setCell ⟨w.heap.size + 1 + 1, 1, none⟩ b).setCell ⟨w.heap.size + 1 + 1, 2, none⟩ c).setCell ⟨w.heap.size + 1 + 1, 3, none⟩ d).setCell ⟨w.heap.size + 1, 0, none⟩ a').setCell ⟨w.heap.size + 1, 1, none⟩ b').setCell ⟨w.heap.size + 1, 2, none⟩ c').setCell ⟨w.heap.size + 1, 3, none⟩ d').cell? ⟨w.heap.size + 1 + 1 + 1, 0, none⟩ = some (.bool false) ∧ ((((((((u.setCell ⟨w.heap.size + 1 + 1, 0, none⟩ a).setCell ⟨w.heap.size + 1 + 1, 1, none⟩ b).setCell ⟨w.heap.size + 1 + 1, 2, none⟩ c).setCell ⟨w.heap.size + 1 + 1, 3, none⟩ d).setCell ⟨w.heap.size + 1, 0, none⟩ a').setCell ⟨w.heap.size + 1, 1, none⟩ b').setCell ⟨w.heap.size + 1, 2, none⟩ c').setCell ⟨w.heap.size + 1, 3, none⟩ d').cell? ⟨w.heap.size + 1 + 1 + 1, 1, none⟩ = some (.slice none 0 0) ∧ ((((((((u.setCell ⟨w.heap.size + 1 + 1, 0, none⟩ a).setCell ⟨w.heap.size + 1 + 1, 1, none⟩ b).setCell ⟨w.heap.size + 1 + 1, 2, none⟩ c).setCell ⟨w.heap.size + 1 + 1, 3, none⟩ d).setCell ⟨w.heap.size + 1, 0, none⟩ a').setCell ⟨w.heap.size + 1, 1, none⟩ b').setCell ⟨w.heap.size + 1, 2, none⟩ c').setCell ⟨w.heap.size + 1, 3, none⟩ d').cell? ⟨w.heap.size + 1 + 1 + 1, 2, none⟩ = some v5k ∧ ((((((((u.setCell ⟨w.heap.size + 1 + 1, 0, none⟩ a).setCell ⟨w.heap.size + 1 + 1, 1, none⟩ b).setCell ⟨w.heap.size + 1 + 1, 2, none⟩ c).setCell ⟨w.heap.size + 1 + 1, 3, none⟩ d).setCell ⟨w.heap.size + 1, 0, none⟩ a').setCell ⟨w.heap.size + 1, 1, none⟩ b').setCell ⟨w.heap.size + 1, 2, none⟩ c').setCell ⟨w.heap.size + 1, 3, none⟩ d').cell? ⟨w.heap.size + 1 + 1 + 1, 3, none⟩ = some v5i) ∧ ((((((((u.setCell ⟨w.heap.size + 1 + 1, 0, none⟩ a).setCell ⟨w.heap.size + 1 + 1, 1, none⟩ b).setCell ⟨w.heap.size + 1 + 1, 2, none⟩ c).setCell ⟨w.heap.size + 1 + 1, 3, none⟩ d).setCell ⟨w.heap.size + 1, 0, none⟩ a').setCell ⟨w.heap.size + 1, 1, none⟩ b').setCell ⟨w.heap.size + 1, 2, none⟩ c').setCell ⟨w.heap.size + 1, 3, none⟩ d').cell? ⟨w.heap.size + 1 + 1 + 1 + 1, 0, none⟩ = some (.bool false) ∧ ((((((((u.setCell ⟨w.heap.size + 1 + 1, 0, none⟩ a).setCell ⟨w.heap.size + 1 + 1, 1, none⟩ b).setCell ⟨w.heap.size + 1 + 1, 2, none⟩ c).setCell ⟨w.heap.size + 1 + 1, 3, none⟩ d).setCell ⟨w.heap.size + 1, 0, none⟩ a').setCell ⟨w.heap.size + 1, 1, none⟩ b').setCell ⟨w.heap.size + 1, 2, none⟩ c').setCell ⟨w.heap.size + 1, 3, none⟩ d').cell? ⟨w.heap.size + 1 + 1 + 1 + 1, 1, none⟩ = some (.slice none 0 0) ∧ ((((((((u.setCell ⟨w.heap.size + 1 + 1, 0, none⟩ a).setCell ⟨w.heap.size + 1 + 1, 1, none⟩ b).setCell ⟨w.heap.size + 1 + 1, 2, none⟩ c).setCell ⟨w.heap.size + 1 + 1, 3, none⟩ d).setCell ⟨w.heap.size + 1, 0, none⟩ a').setCell ⟨w.heap.size + 1, 1, none⟩ b').setCell ⟨w.heap.size + 1, 2, none⟩ c').setCell ⟨w.heap.size + 1, 3, none⟩ d').cell? ⟨w.heap.size + 1 + 1 + 1 + 1, 2, none⟩ = some v6k ∧ ((((((((u.setCell ⟨w.heap.size + 1 + 1, 0, none⟩ a).setCell ⟨w.heap.size + 1 + 1, 1, none⟩ b).setCell ⟨w.heap.size + 1 + 1, 2, none⟩ c).setCell ⟨w.heap.size + 1 + 1, 3, none⟩ d).setCell ⟨w.heap.size + 1, 0, none⟩ a').setCell ⟨w.heap.size + 1, 1, none⟩ b').setCell ⟨w.heap.size + 1, 2, none⟩ c').setCell ⟨w.heap.size + 1, 3, none⟩ d').cell? ⟨w.heap.size + 1 + 1 + 1 + 1, 3, none⟩ = some v6i)) := fun u a b c d a' b' c' d' hu => ⟨four_of (blk_gr (blk_gr (blk_on hu h52.out) (gr_four u (w.heap.size + 1 + 1) a b c d) (by omega)) (gr_four _ (w.heap.size + 1) a' b' c' d') (by omega)), four_of (blk_gr (blk_gr (blk_on hu h62.out) (gr_four u (w.heap.size + 1 + 1) a b c d) (by omega)) (gr_four _ (w.heap.size + 1) a' b' c' d') (by omega))⟩
  have HSS := Lib.hid SS
  have B0 : Below w2.heap.size w2 w2.drew := (Below.refl _ w2).drew
  clear SS
  go_region_held3 (fun u => (u.cell? ⟨w.heap.size + 1 + 1 + 1, 0, none⟩ = some (.bool false) ∧ u.cell? ⟨w.heap.size + 1 + 1 + 1, 1, none⟩ = some (.slice none 0 0) ∧ u.cell? ⟨w.heap.size + 1 + 1 + 1, 2, none⟩ = some v5k ∧ u.cell? ⟨w.heap.size + 1 + 1 + 1, 3, none⟩ = some v5i) ∧ u.cell? ⟨w.heap.size + 1 + 1 + 1 + 1, 0, none⟩ = some (.bool false) ∧ u.cell? ⟨w.heap.size + 1 + 1 + 1 + 1, 1, none⟩ = some (.slice none 0 0) ∧ u.cell? ⟨w.heap.size + 1 + 1 + 1 + 1, 2, none⟩ = some v6k ∧ u.cell? ⟨w.heap.size + 1 + 1 + 1 + 1, 3, none⟩ = some v6i) (first | with_reducible exact HSS.out _ (by with_reducible assumption) | with_reducible exact HS2.out _ _ _ _ _ (by with_reducible assumption) | with_reducible exact HS4.out _ _ _ _ _ (by with_reducible assumption) | with_reducible exact HS24.out _ _ _ _ _ _ _ _ _ (by with_reducible assumption) | with_reducible exact HS42.out _ _ _ _ _ _ _ _ _ (by with_reducible assumption))
    (first
      | (go_at_call 54; with_reducible refine (cK.out _ (bel_then HB2.out (by with_reducible assumption))).mono ?_; rintro e wk ⟨vk, rfl, hnk, hbk⟩
         have Bk : Below w2.heap.size w2 wk := bel_then (by with_reducible assumption) hbk
         obtain ⟨kp', kc', rfl, -, -⟩ := hnk.bs.slice
         have HNk := Lib.hid (hnk.mono (Nat.le_trans HB2.out.size (by with_reducible assumption : Below w2.heap.size w2 _).size))
         try replace HNa := Lib.hid (HNa.out.on hbk)
         try replace HNb := Lib.hid (HNb.out.on hbk)
         obtain ⟨x0, x1, x2, x3⟩ := four_of (blk_on Bk h22.out); obtain ⟨y0, y1, y2, y3⟩ := four_of (blk_on Bk h42.out)
         have xf0 := four_fr (blk_on Bk h22.out) 0; have xf1 := four_fr (blk_on Bk h22.out) 1; have xf2 := four_fr (blk_on Bk h22.out) 2; have xf3 := four_fr (blk_on Bk h22.out) 3
         have yf0 := four_fr (blk_on Bk h42.out) 0; have yf1 := four_fr (blk_on Bk h42.out) 1; have yf2 := four_fr (blk_on Bk h42.out) 2; have yf3 := four_fr (blk_on Bk h42.out) 3
         clear hnk hbk)
      | (go_at_call 26; with_reducible refine (cA.out _ (bel_then HB2.out (by with_reducible assumption))).mono ?_; rintro e wa ⟨va, rfl, hna, hba⟩
         have Ba : Below w2.heap.size w2 wa := bel_then (by with_reducible assumption) hba
         obtain ⟨r1, f1, r2, f2, r3, f3, rfl⟩ := hna.hdr
         have HNa := Lib.hid (hna.low (Nat.le_trans HB2.out.size (by with_reducible assumption : Below w2.heap.size w2 _).size))
         try replace HNk := Lib.hid (HNk.out.on hba)
         try replace HNb := Lib.hid (HNb.out.on hba)
         obtain ⟨x0, x1, x2, x3⟩ := four_of (blk_on Ba h22.out); obtain ⟨y0, y1, y2, y3⟩ := four_of (blk_on Ba h42.out)
         have xf0 := four_fr (blk_on Ba h22.out) 0; have xf1 := four_fr (blk_on Ba h22.out) 1; have xf2 := four_fr (blk_on Ba h22.out) 2; have xf3 := four_fr (blk_on Ba h22.out) 3
         have yf0 := four_fr (blk_on Ba h42.out) 0; have yf1 := four_fr (blk_on Ba h42.out) 1; have yf2 := four_fr (blk_on Ba h42.out) 2; have yf3 := four_fr (blk_on Ba h42.out) 3
         clear hna hba)
      | (go_at_call 26; with_reducible refine (cB.out _ (bel_then HB2.out (by with_reducible assumption))).mono ?_; rintro e wb ⟨vb, rfl, hnb, hbb⟩
         have Bb : Below w2.heap.size w2 wb := bel_then (by with_reducible assumption) hbb
         obtain ⟨r1', f1', r2', f2', r3', f3', rfl⟩ := hnb.hdr
         have HNb := Lib.hid (hnb.low (Nat.le_trans HB2.out.size (by with_reducible assumption : Below w2.heap.size w2 _).size))
         try replace HNk := Lib.hid (HNk.out.on hbb)
         try replace HNa := Lib.hid (HNa.out.on hbb)
         obtain ⟨x0, x1, x2, x3⟩ := four_of (blk_on Bb h22.out); obtain ⟨y0, y1, y2, y3⟩ := four_of (blk_on Bb h42.out)
         have xf0 := four_fr (blk_on Bb h22.out) 0; have xf1 := four_fr (blk_on Bb h22.out) 1; have xf2 := four_fr (blk_on Bb h22.out) 2; have xf3 := four_fr (blk_on Bb h22.out) 3
         have yf0 := four_fr (blk_on Bb h42.out) 0; have yf1 := four_fr (blk_on Bb h42.out) 1; have yf2 := four_fr (blk_on Bb h42.out) 2; have yf3 := four_fr (blk_on Bb h42.out) 3
         clear hnb hbb))
  all_goals
    go_wp2
    first
      | (obtain ⟨e1, e2, eA, eK, eB, eW⟩ := spl_end (g := w.heap.size + 1) (g' := w.heap.size + 1 + 1) HB2.out (by with_reducible assumption) h22.out h42.out (by omega) (by omega) (by omega) HNa.out HNb.out HNk.out
         with_reducible refine bodyPost_ret (results_split Try.results22 _ _ (w.heap.size + 1) (w.heap.size + 1 + 1) _ _ _ _ _ _ _ _ 26 26 rfl e1 rfl e2) rfl ?_
         exact ⟨_, _, _, rfl, eA, eK, eB, eW⟩)
      | (obtain ⟨e1, e2, eA, eK, eB, eW⟩ := spl_end (g := w.heap.size + 1 + 1) (g' := w.heap.size + 1) HB2.out (by with_reducible assumption) h42.out h22.out (by omega) (by omega) (by omega) HNb.out HNa.out HNk.out
         with_reducible refine bodyPost_ret (results_split Try.results22 _ _ (w.heap.size + 1) (w.heap.size + 1 + 1) _ _ _ _ _ _ _ _ 26 26 rfl e2 rfl e1) rfl ?_
         exact ⟨_, _, _, rfl, eB, eK, eA, eW⟩)
end Go.Proofs.Ytbkpgppaahpalaa
