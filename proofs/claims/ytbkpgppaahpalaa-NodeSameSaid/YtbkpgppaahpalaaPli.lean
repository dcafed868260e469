/-
  Where an inner node is halved: innerPlace of package node.
-/
import Derived.Test.YtbkpgppaahpalaaPlf
namespace Go.Proofs.Ytbkpgppaahpalaa
open Go.RowKit
set_option linter.unusedVariables false      -- a walk need not use every condition

def iF (Ks : List (List UInt8)) (Is : List Int) (k : Nat) : Nat := 1 + (vnt k).length + (((Ks.take k).flatMap keyF).length + ((Is.take (k + 1)).flatMap nI).length)
def iS (Ks : List (List UInt8)) (Is : List Int) (k : Nat) : Nat := 1 + (vnt (Ks.length - k - 1)).length + (((Ks.drop (k + 1)).flatMap keyF).length + ((Is.drop (k + 1)).flatMap nI).length)
set_option maxHeartbeats 4000000 in
set_option maxRecDepth 100000 in
theorem innerPlace53 (w : World) (v : Value) (n : Nd) (h : NdS w v n) (hL : n.leaf = false) (h1 : 1 ≤ n.keys.length) (h2 : n.keys.length < n.kids.length) (ht : (form n).length ≤ 4611686018427387904) :
    Calls Try.prog 53 #[v] w fun e w' => e = .returned (.int .i64 (best (iF n.keys n.kids) (iS n.keys n.kids) 0 n.keys.length).1) ∧ Below w.heap.size w w' := by
  have c15 := fun (u : World) (hu : Below w.heap.size w u) => size15 u v n (h.on hu) ht
  obtain ⟨vc, vk, vi, rfl, hC, hK, hI⟩ := h
  obtain ⟨pc, cc, rfl, -, lc⟩ := hC.hdr
  have HK := Lib.hid hK
  obtain ⟨pk, ck, rfl, hcc, lk⟩ := hK.hdr
  have HI := Lib.hid hI
  obtain ⟨pi, ci, rfl, -, li⟩ := hI.hdr
  clear hC hK hI
  have hF : form n = 2 :: (vnt n.keys.length ++ (n.keys.flatMap keyF ++ n.kids.flatMap nI)) := by unfold form; rw [if_neg (by rw [hL]; decide)]
  rw [hF, List.length_cons, List.length_append, List.length_append] at ht c15
  clear hF
  rw [hL] at c15 ⊢
  have hv := vnt_le n.keys.length
  have c43 := fun u => headSize43 n.keys.length (by omega) u
  have cH := fun (m : Nat) (hm : m ≤ n.keys.length) u => headSize43 m (by omega) u
  have hvn := fun m : Nat => vnt_le m
  obtain ⟨T, hT⟩ : ∃ T, (n.keys.flatMap keyF).length + (n.kids.flatMap nI).length = T := ⟨_, rfl⟩
  rw [hT] at c15 ht
  have HTT := Lib.hid hT
  obtain ⟨V, hV⟩ : ∃ V, (vnt n.keys.length).length = V := ⟨_, rfl⟩
  rw [hV] at c15 c43 ht hv
  have HT : Hid (V + T + 1 ≤ 4611686018427387904) := ht
  obtain ⟨N, hN⟩ : ∃ N, n.keys.length = N := ⟨_, rfl⟩
  obtain ⟨P, hP⟩ : ∃ P, n.kids.length = P := ⟨_, rfl⟩
  have e0 : IntKind.i64.wrap ((V : Int) + (T : Int) + 1 - (1 + (V : Int))) = (T : Int) := by rw [IntKind.wrap_i64]; omega
  rw [hN]
  rw [hN] at c43 c15 cH lk
  rw [hP] at c15 ⊢
  have HN := Lib.hid hN
  have HP := Lib.hid hP
  have HNP : Hid (N < P) := by show _ < _; omega
  have c45 := bytesSize45
  have c46 := numberSize46
  have cor := or91
  have hN63 : N ≤ 9223372036854775807 := by omega
  clear hT hV hN ht lc hcc h1 h2 hL hP
  go_enter Try.func53, Try.ntmps53
  go_wp2_with (first
    | (go_at_call 90; refine (noChoice90 _).mono ?_; rintro e w1 ⟨rfl, hB1⟩
       have HB1 := Lib.hid (bel_then (bel1 _ _) hB1)
       have HA1 := Lib.hid (blk_on hB1 (World.alloc_heap_new w _))
       clear hB1
       have hz1 := (Array.getElem?_eq_some_iff.1 HA1.out).1
       obtain ⟨a0, a1, a2, a3⟩ := four_of HA1.out)
    | (go_at_call 15; refine (c15 _ (bel_then HB1.out (bel1 _ _))).mono ?_; rintro e w2 ⟨rfl, hB2⟩
       have HB2 := Lib.hid (bel_then (bel_then HB1.out (bel1 _ _)) hB2)
       have HA2 := Lib.hid (blk_on hB2 (blk_on (bel1 _ _) HA1.out))
       have HQ2 := Lib.hid (blk_on hB2 (World.alloc_heap_new w1 (Obj.cells #[.int .i64 0, .int .i64 9223372036854775807] 106)))
       clear hB2
       obtain ⟨a0, a1, a2, a3⟩ := four_of HA2.out)
    | (go_at_call 43; refine (c43 _).mono ?_; rintro e w3 ⟨rfl, hB3⟩
       have HB3 := Lib.hid (bel_then HB2.out hB3)
       have HA3 := Lib.hid (blk_on hB3 HA2.out)
       have HQ3 := Lib.hid (blk_on hB3 HQ2.out)
       clear hB3
       obtain ⟨a0, a1, a2, a3⟩ := four_of HA3.out))
  have hz3 := (Array.getElem?_eq_some_iff.1 HQ3.out).1
  have hzz : w.heap.size ≤ w1.heap.size := by omega
  have hne : w.heap.size ≠ w1.heap.size := by omega
  clear a0 a1 a2 a3 c15 c43 e0 HA1 HA2 HQ2 HB1 HB2 hz1
  go_loopg [5, 6, 22] N (fun g s5 s6 s22 wr => ∃ (i A B : Nat), i + g = N ∧ s22 = .int .i64 i ∧ s5 = .int .i64 A ∧ s6 = .int .i64 B ∧ Hid (A = ((n.keys.take i).flatMap keyF).length + ((n.kids.take i).flatMap nI).length) ∧ Hid (B = ((n.keys.drop i).flatMap keyF).length + ((n.kids.drop i).flatMap nI).length) ∧ Hid (Below w.heap.size w wr) ∧
      Hid (wr.heap[w.heap.size]? = some (Obj.cells #[.bool false, .slice pc n.cells.length cc, .slice pk N ck, .slice pi P ci] 26)) ∧
      Hid (wr.heap[w1.heap.size]? = some (Obj.cells #[.int .i64 (best (iF n.keys n.kids) (iS n.keys n.kids) 0 i).1, .int .i64 (best (iF n.keys n.kids) (iS n.keys n.kids) 0 i).2] 106)))
  case atStart => exact ⟨0, 0, T, by omega, rfl, rfl, rfl, by show _ = _; simp, by show _ = _; rw [List.drop_zero, List.drop_zero, HTT.out], HB3.out, HA3.out, HQ3.out⟩
  case round =>
    obtain ⟨i, A, B, hig, rfl, rfl, rfl, hA, hB, hb, ha, hq⟩ := hrel
    cases gk with
    | zero =>
      obtain rfl : i = N := by omega
      obtain ⟨q0, q1⟩ := pair_of hq.out
      go_wp2
      go_ret
      exact ⟨rfl, hb.out⟩
    | succ g =>
      have hi : i < n.keys.length := by have := HN.out; omega
      have hj : i < n.kids.length := by have := HN.out; have := HP.out; have := HNP.out; omega
      have hiz : (i : Int) < (N : Int) := by omega
      have hjz : (i : Int) < (P : Int) := by have := HNP.out; omega
      have hi0 : (0 : Int) ≤ (i : Int) := by omega
      obtain ⟨g0, o0, cap0, k, e, q0w, hBk⟩ := HK.out.at hi
      have q0 := cell_past hb.out q0w
      injection e with e1 e2 e3
      subst e1 e3
      clear q0w
      obtain ⟨g1, o1, cap1, e, p0, hIo⟩ := (HI.out.on hb.out).at hj
      injection e with e1 e3 e4
      subst e1 e4
      obtain ⟨a0, a1, a2, a3⟩ := four_of ha.out
      have hbd : A + B ≤ 4611686018427387904 := by have := flat_both keyF n.keys i; have := flat_both nI n.kids i; have := hA.out; have := hB.out; have := HT.out; have := HTT.out; omega
      have hdr : n.keys.drop i = n.keys[i] :: n.keys.drop (i + 1) := List.drop_eq_getElem_cons hi
      have hdi : n.kids.drop i = n.kids[i] :: n.kids.drop (i + 1) := List.drop_eq_getElem_cons hj
      have hS : Hid (B = (nI n.kids[i]).length + (keyF n.keys[i]).length + (((n.keys.drop (i + 1)).flatMap keyF).length + ((n.kids.drop (i + 1)).flatMap nI).length)) := by show _ = _; rw [hB.out, hdr, hdi, List.flatMap_cons, List.length_append, List.flatMap_cons, List.length_append]; omega
      have hsk : Hid (((n.keys.take (i + 1)).flatMap keyF).length = ((n.keys.take i).flatMap keyF).length + (keyF n.keys[i]).length) := by show _ = _; rw [flat_next _ _ hi, List.length_append]
      have hsi : Hid (((n.kids.take (i + 1)).flatMap nI).length = ((n.kids.take i).flatMap nI).length + (nI n.kids[i]).length) := by show _ = _; rw [flat_next _ _ hj, List.length_append]
      generalize n.keys[i] = c at *
      generalize n.kids[i] = d at *
      have lcc : c.length ≤ 4611686018427387904 := by have := hS.out; simp [keyF] at this; omega
      have HBK := Lib.hid hBk
      have d45 := fun (u : World) (hu : Below w.heap.size w u) => c45 u k c (hBk.on hu) lcc
      have d46 := fun (u : World) => c46 d u
      obtain ⟨kp, kc, rfl, -⟩ := hBk
      obtain ⟨Z, hZ⟩ : ∃ Z, (keyF c).length = Z := ⟨_, rfl⟩
      obtain ⟨Y, hY⟩ : ∃ Y, (nI d).length = Y := ⟨_, rfl⟩
      rw [hZ] at d45 hS hsk
      rw [hY] at d46 hS hsi
      obtain ⟨B', hB'⟩ : ∃ B', ((n.keys.drop (i + 1)).flatMap keyF).length + ((n.kids.drop (i + 1)).flatMap nI).length = B' := ⟨_, rfl⟩
      rw [hB'] at hS
      have hBB := hS.out
      subst hBB
      have e1 : IntKind.i64.wrap ((A : Int) + (Y : Int)) = (A : Int) + (Y : Int) := by rw [IntKind.wrap_i64]; omega
      have e2 : IntKind.i64.wrap ((Y : Int) + (Z : Int)) = (Y : Int) + (Z : Int) := by rw [IntKind.wrap_i64]; omega
      have e3 : IntKind.i64.wrap ((Y : Int) + (Z : Int) + (B' : Int) - ((Y : Int) + (Z : Int))) = (B' : Int) := by rw [IntKind.wrap_i64]; omega
      have tk : True := trivial
      go_wp2_with (first
        | (go_at_call 46; refine (d46 _).mono ?_; rintro e w4 ⟨rfl, hB4⟩; have HB4 := Lib.hid hB4)
        | (go_at_call 45; clear tk; refine (d45 _ (bel_then hb.out HB4.out)).mono ?_; rintro e w5 ⟨rfl, hB5⟩; have HB5 := Lib.hid (bel_then HB4.out hB5)))
      obtain ⟨R, hR⟩ : ∃ R, R = N - i - 1 := ⟨_, rfl⟩
      have e4 : IntKind.i64.wrap ((N : Int) - (i : Int)) = (R : Int) + 1 := by rw [IntKind.wrap_i64]; omega
      have e4' : IntKind.i64.wrap (R : Int) = (R : Int) := by rw [IntKind.wrap_i64]; omega
      have dA := cH i (by omega)
      have dB := cH R (by omega)
      have hP1 : iF n.keys n.kids i = 1 + (vnt i).length + (A + Y) := by unfold iF; rw [hsi.out, hA.out]; omega
      have hP2 : iS n.keys n.kids i = 1 + (vnt R).length + B' := by unfold iS; rw [hB', hR, HN.out]
      have v1 := hvn i
      have v2 := hvn R
      have hbe := best_le (iF n.keys n.kids) (iS n.keys n.kids) 0 i
      have hbs : Hid (best (iF n.keys n.kids) (iS n.keys n.kids) 0 (i + 1) = orC (best (iF n.keys n.kids) (iS n.keys n.kids) 0 i) i (iF n.keys n.kids i) (iS n.keys n.kids i)) := by show _ = _; rw [best, Nat.zero_add]
      obtain ⟨X1, hX1⟩ : ∃ X, 1 + (vnt i).length = X := ⟨_, rfl⟩
      obtain ⟨X2, hX2⟩ : ∃ X, 1 + (vnt R).length = X := ⟨_, rfl⟩
      rw [hX1] at hP1 dA
      rw [hX2] at hP2 dB
      rw [hP1, hP2] at hbs
      obtain ⟨P1, h1⟩ : ∃ P, X1 + (A + Y) = P := ⟨_, rfl⟩
      obtain ⟨P2, h2⟩ : ∃ P, X2 + B' = P := ⟨_, rfl⟩
      rw [h1, h2] at hbs
      have e5 : IntKind.i64.wrap ((X1 : Int) + ((A : Int) + (Y : Int))) = (P1 : Int) := by rw [IntKind.wrap_i64]; omega
      have e6 : IntKind.i64.wrap ((X2 : Int) + (B' : Int)) = (P2 : Int) := by rw [IntKind.wrap_i64]; omega
      have HQ := hq.out
      obtain ⟨⟨b1, b2⟩, hbb⟩ : ∃ b, best (iF n.keys n.kids) (iS n.keys n.kids) 0 i = b := ⟨_, rfl⟩
      rw [hbb] at HQ hbe hbs
      simp only at HQ hbe
      have d91 := fun u => cor u b1 b2 i P1 P2 (by omega) (by omega) hbe
      have HBw := Lib.hid (bel_then hb.out HB5.out)
      have Q5 : w5.drew.heap[w1.heap.size]? = some (Obj.cells #[.int .i64 b1, .int .i64 b2] 106) := blk_on HB5.out HQ
      have HA5 : Hid (w5.drew.heap[w.heap.size]? = some (Obj.cells #[.bool false, .slice pc n.cells.length cc, .slice (some ⟨g0, o0, none⟩) N ck, .slice (some ⟨g1, o1, none⟩) P ci] 26)) := blk_on HB5.out ha.out
      obtain ⟨q50, q51⟩ := pair_of Q5
      have HbC : Hid (b2 ≤ 9223372036854775807) := hbe
      have e7 : IntKind.i64.wrap ((A : Int) + (Y : Int) + (Z : Int)) = ((A + Y + Z : Nat) : Int) := by rw [IntKind.wrap_i64]; omega
      have e8 : IntKind.i64.wrap ((i : Int) + 1) = ((i + 1 : Nat) : Int) := by rw [IntKind.wrap_i64]; omega
      clear e1 e2 e3 hP1 hP2 v1 v2 hbe hX1 hX2 h1 h2 HQ hbb hq hR a0 a1 a2 a3 q0 p0 hB5 hB4 ha
      go_region_with (first
        | (go_at_call 43; refine (dA _).mono ?_; rintro e wa ⟨rfl, hBa⟩; have Qa := blk_on hBa (by assumption : _ = some (Obj.cells #[.int .i64 b1, .int .i64 b2] 106)); obtain ⟨qa0, qa1⟩ := pair_of Qa)
        | (go_at_call 43; refine (dB _).mono ?_; rintro e wb ⟨rfl, hBb⟩; have Qb := blk_on hBb (by assumption : _ = some (Obj.cells #[.int .i64 b1, .int .i64 b2] 106)); obtain ⟨qb0, qb1⟩ := pair_of Qb)
        | (go_at_call 91; refine (d91 _).mono ?_; rintro e wc ⟨rfl, hBc⟩; have Qc := blk_on hBc (by assumption : _ = some (Obj.cells #[.int .i64 b1, .int .i64 b2] 106)); obtain ⟨qc0, qc1⟩ := pair_of Qc; have fc0 := four_fr Qc 0; have fc1 := four_fr Qc 1))
      all_goals
        have hfin : Hid (Below w5.drew.heap.size w5.drew wc) := by
          first
            | exact bel_then (bel_then hBa hBb) hBc
            | exact bel_then (bel_then hBb hBa) hBc
        have hfw := Lib.hid (bel_then HBw.out.drew hfin.out)
        have HAc := Lib.hid (blk_on hfin.out HA5.out)
        have g2 := gr_two wc w1.heap.size (.int .i64 (orC (b1, b2) i P1 P2).1) (.int .i64 (orC (b1, b2) i P1 P2).2)
        have hg2 := Lib.hid (bel_put hfw.out g2 hzz)
        have hq2 := Lib.hid (blk_two Qc (.int .i64 (orC (b1, b2) i P1 P2).1) (.int .i64 (orC (b1, b2) i P1 P2).2))
        have ha2 := Lib.hid (blk_gr HAc.out g2 hne)
        have hst : Hid (Bs ((wc.setCell ⟨w1.heap.size, 0, none⟩ (.int .i64 (orC (b1, b2) i P1 P2).1)).setCell ⟨w1.heap.size, 1, none⟩ (.int .i64 (orC (b1, b2) i P1 P2).2)) (.slice kp c.length kc) c) := HBK.out.on hg2.out
        have f45 := c45 _ _ _ hst.out lcc
        rw [hZ] at f45
        go_wp2_with (go_at_call 45; refine f45.mono ?_; rintro e w6 ⟨rfl, hB6⟩)
        have HB6 := Lib.hid (bel_then hg2.out hB6)
        have HQ6 := Lib.hid (blk_on hB6 hq2.out)
        have HA6 := Lib.hid (blk_on hB6 ha2.out)
        go_roundg g
        case measure => omega
        case rel => exact ⟨i + 1, A + Y + Z, B', by omega, by first | rfl | simp, by first | rfl | simp, rfl, (by show _ = _; rw [hsk.out, hsi.out, hA.out]; omega), hB'.symm, HB6.out, HA6.out, by rw [hbs.out]; exact HQ6.out⟩
end Go.Proofs.Ytbkpgppaahpalaa
