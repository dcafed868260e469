/-
  Where a node is halved: choice.or, noChoice, leafPlace of package node.
-/
import Derived.Test.YtbkpgppaahpalaaSze
import Derived.Test.YtbkpgppaahpalaaBeg
import Derived.Test.YtbkpgppaahpalaaOwn
namespace Go.Proofs.Ytbkpgppaahpalaa
open Go.RowKit
set_option linter.unusedVariables false      -- a walk need not use every condition

/-- The better one of a choice and of a place. -/
def orC (b : Nat × Nat) (at_ f s : Nat) : Nat × Nat := if max f s < b.2 then (at_, max f s) else b
/-- The best place of k places from a on: of several that are as good the first. -/
def best (F S : Nat → Nat) (a : Nat) : Nat → Nat × Nat
  | 0 => (0, 9223372036854775807)
  | k + 1 => orC (best F S a k) (a + k) (F (a + k)) (S (a + k))
theorem results_c106 {fn : Func} {p : Tmp} (h : fn.results = #[.cell p 106]) (tmps : Array Value) (w : World) (g : Nat) (a b : Value) (t : TypeId) (hp : tmps.getD p undef = .pointer (some ⟨g, 0, none⟩)) (hr : w.heap[g]? = some (.cells #[a, b] t)) :
    (results fn tmps).run Try.prog w = .ok (.agg #[a, b]) w := by
  have hp' : tmps[p]?.getD undef = .pointer (some ⟨g, 0, none⟩) := by simpa using hp
  have hv := run_loadVar_mid (P := Try.prog) w g 0 106 [a, b] _ (by
    have := World.rangeAt_of_block hr 0 2
    simpa using this) Try.underlying106 rfl (by kernel_rfl)
  simp only [results, h]
  simp [hp', asAddr, hv]
theorem noChoice90 (w : World) : Calls Try.prog 90 #[] w fun e w' => e = .returned (.agg #[.int .i64 0, .int .i64 9223372036854775807]) ∧ Below w.heap.size w w' := by
  go_enter Try.func90, Try.ntmps90
  go_wp2
  refine bodyPost_ret (results_c106 Try.results90 _ _ w.heap.size _ _ 106 rfl (World.alloc_heap_new w _)) rfl ?_
  exact ⟨rfl, bel1 _ _⟩
theorem new2 (w : World) (o o' : Obj) : ((w.alloc o).alloc o').heap[w.heap.size + 1]? = some o' := by
  have := World.alloc_heap_new (w.alloc o) o'
  rwa [World.size_alloc] at this
theorem or91 (w : World) (a0 g0 at_ f s : Nat) (hf : f ≤ 9223372036854775807) (hs : s ≤ 9223372036854775807) (hg : g0 ≤ 9223372036854775807) :
    Calls Try.prog 91 #[.agg #[.int .i64 a0, .int .i64 g0], .int .i64 at_, .int .i64 f, .int .i64 s] w fun e w' => e = .returned (.agg #[.int .i64 (orC (a0, g0) at_ f s).1, .int .i64 (orC (a0, g0) at_ f s).2]) ∧ Below w.heap.size w w' := by
  unfold orC
  by_cases h : max f s < g0
  · rw [if_pos h]
    have h' : max (f : Int) (s : Int) < (g0 : Int) := by omega
    go_enter Try.func91, Try.ntmps91
    go_wp2
    all_goals
      refine bodyPost_ret (results_c106 Try.results91 _ _ (w.heap.size + 1) _ _ 106 rfl (new2 w _ _)) rfl ?_
      rename_i h2
      refine ⟨?_, bel_then (bel1 _ _) (bel1 _ _)⟩
      congr 5
      simp only [Value.int.injEq, true_and]
      omega
  · rw [if_neg h]
    have h' : ¬ max (f : Int) (s : Int) < (g0 : Int) := by omega
    go_enter Try.func91, Try.ntmps91
    go_wp2
    all_goals
      refine bodyPost_ret (results_c106 Try.results91 _ _ (w.heap.size + 1) _ _ 106 rfl (new2 w _ _)) rfl ?_
      exact ⟨rfl, bel_then (bel1 _ _) (bel1 _ _)⟩
theorem orC_le (b : Nat × Nat) (a f s : Nat) (h : b.2 ≤ 9223372036854775807) : (orC b a f s).2 ≤ 9223372036854775807 := by
  unfold orC
  split
  · simp only; omega
  · exact h
theorem best_le (F S : Nat → Nat) (a : Nat) : ∀ k, (best F S a k).2 ≤ 9223372036854775807
  | 0 => Nat.le_refl _
  | k + 1 => orC_le _ _ _ _ (best_le F S a k)
theorem best_at_le (F S : Nat → Nat) (a : Nat) : ∀ k, (best F S a k).1 ≤ a + k
  | 0 => Nat.zero_le _
  | k + 1 => by
    unfold best orC
    have := best_at_le F S a k
    split
    · simp only; omega
    · omega
theorem gr_two (w : World) (g : Nat) (a b : Value) : w.grownBy ((w.setCell ⟨g, 0, none⟩ a).setCell ⟨g, 1, none⟩ b) (some g) := (gr_set w g 0 a).trans (gr_set _ g 1 b)
theorem blk_two {w : World} {g : Nat} {t : TypeId} {x y : Value} (h : w.heap[g]? = some (.cells #[x, y] t)) (a b : Value) : ((w.setCell ⟨g, 0, none⟩ a).setCell ⟨g, 1, none⟩ b).heap[g]? = some (.cells #[a, b] t) := by
  simp [World.setCell, Array.getElem?_modify, h]
def lF (L : List C) (k : Nat) : Nat := 1 + (vnt k).length + ((L.take k).flatMap cellF).length
def lS (L : List C) (k : Nat) : Nat := 1 + (vnt (L.length - k)).length + ((L.drop k).flatMap cellF).length
theorem flat_both {α : Type} (f : α → List UInt8) (L : List α) (i : Nat) : ((L.take i).flatMap f).length + ((L.drop i).flatMap f).length = (L.flatMap f).length := by
  rw [← List.length_append, ← List.flatMap_append, List.take_append_drop]
theorem pair_of {w : World} {g : Nat} {t : TypeId} {a b : Value} (h : w.heap[g]? = some (.cells #[a, b] t)) : w.cell? ⟨g, 0, none⟩ = some a ∧ w.cell? ⟨g, 1, none⟩ = some b := by
  constructor <;> simp [World.cell?, h]
set_option maxHeartbeats 4000000 in
set_option maxRecDepth 100000 in
theorem leafPlace52 (w : World) (v : Value) (n : Nd) (h : NdS w v n) (hL : n.leaf = true) (h2 : 2 ≤ n.cells.length) (ht : (form n).length ≤ 4611686018427387904) :
    Calls Try.prog 52 #[v] w fun e w' => e = .returned (.int .i64 (best (lF n.cells) (lS n.cells) 1 (n.cells.length - 1)).1) ∧ Below w.heap.size w w' := by
  have c15 := fun (u : World) (hu : Below w.heap.size w u) => size15 u v n (h.on hu) ht
  obtain ⟨vc, vk, vi, rfl, hC, hK, hI⟩ := h
  obtain ⟨pk, ck, rfl, -, lk⟩ := hK.hdr
  obtain ⟨pi, ci, rfl, -, li⟩ := hI.hdr
  have HC := Lib.hid hC
  obtain ⟨pc, cc, rfl, hcc, lc⟩ := hC.hdr
  have hpc : ∃ g o, pc = some ⟨g, o, none⟩ := by
    obtain ⟨g0, o0, cap0, k, x, e, -⟩ := hC.at (i := 0) (by omega)
    injection e with e1 e2 e3
    exact ⟨g0, o0, e1⟩
  obtain ⟨gc, oc, rfl⟩ := hpc
  clear hC hK hI
  have hF : form n = 1 :: (vnt n.cells.length ++ n.cells.flatMap cellF) := by unfold form; rw [if_pos hL]
  rw [hF, List.length_cons, List.length_append] at ht c15
  clear hF
  rw [hL] at c15 ⊢
  have hv := vnt_le n.cells.length
  have c43 := fun u => headSize43 n.cells.length (by omega) u
  have cH := fun (m : Nat) (hm : m ≤ n.cells.length) u => headSize43 m (by omega) u
  have hvn := fun m : Nat => vnt_le m
  obtain ⟨T, hT⟩ : ∃ T, (n.cells.flatMap cellF).length = T := ⟨_, rfl⟩
  rw [hT] at c15 ht
  have HTT := Lib.hid hT
  obtain ⟨V, hV⟩ : ∃ V, (vnt n.cells.length).length = V := ⟨_, rfl⟩
  rw [hV] at c15 c43 ht hv
  have HT : Hid (V + T + 1 ≤ 4611686018427387904) := ht
  obtain ⟨N, hN⟩ : ∃ N, n.cells.length = N := ⟨_, rfl⟩
  obtain ⟨M, hM⟩ : ∃ M, N = M + 1 := ⟨N - 1, by omega⟩
  have e0 : IntKind.i64.wrap ((V : Int) + (T : Int) + 1 - (1 + (V : Int))) = (T : Int) := by rw [IntKind.wrap_i64]; omega
  rw [hN, show N - 1 = M by omega]
  rw [hN] at c43 c15 cH
  have HN := Lib.hid hN
  have HM := Lib.hid hM
  have c44 := cellSize44
  have cor := or91
  have n1 : IntKind.i64.wrap ((N : Int) - 1) = (M : Int) := by rw [IntKind.wrap_i64]; omega
  have n2 : (M : Int) ≤ (cc : Int) := by omega
  have n3 : (0 : Int) ≤ (M : Int) := by omega
  have hN63 : N ≤ 9223372036854775807 := by omega
  clear hT hV hN ht lc hcc hM h2 hL
  go_enter Try.func52, Try.ntmps52
  go_wp2_with (first
    | (go_at_call 90; refine (noChoice90 _).mono ?_; rintro e w1 ⟨rfl, hB1⟩
       have HB1 := Lib.hid (bel_then (bel1 _ _) hB1)
       have HA1 := Lib.hid (blk_on hB1 (World.alloc_heap_new w _))
       clear hB1
       have hz1 := (Array.getElem?_eq_some_iff.1 HA1.out).1
       obtain ⟨a0, a1, a2, a3⟩ := four_of HA1.out)
    | (go_at_call 15; refine (c15 _ (bel_then HB1.out (bel1 _ _))).mono ?_; rintro e w2 ⟨rfl, hB2⟩
       have HB2 := Lib.hid (bel_then (bel_then HB1.out (bel1 _ _)) hB2)
       have HA2 := Lib.hid (blk_on hB2 (blk_on (bel1 _ _) HA1.out))
       have HQ2 := Lib.hid (blk_on hB2 (World.alloc_heap_new w1 (Obj.cells #[.int .i64 0, .int .i64 9223372036854775807] 106)))
       clear hB2
       obtain ⟨a0, a1, a2, a3⟩ := four_of HA2.out)
    | (go_at_call 43; refine (c43 _).mono ?_; rintro e w3 ⟨rfl, hB3⟩
       have HB3 := Lib.hid (bel_then HB2.out hB3)
       have HA3 := Lib.hid (blk_on hB3 HA2.out)
       have HQ3 := Lib.hid (blk_on hB3 HQ2.out)
       clear hB3
       obtain ⟨a0, a1, a2, a3⟩ := four_of HA3.out))
  have hz3 := (Array.getElem?_eq_some_iff.1 HQ3.out).1
  have hzz : w.heap.size ≤ w1.heap.size := by omega
  clear a0 a1 a2 a3 c15 c43 e0 n1 n2 n3 HA1 HA2 HQ2 HB1 HB2 hz1
  go_loopg [5, 6, 25] M (fun g s5 s6 s25 wr => ∃ (i A B : Nat), i + g = M ∧ s25 = .int .i64 i ∧ s5 = .int .i64 A ∧ s6 = .int .i64 B ∧ Hid (A = ((n.cells.take i).flatMap cellF).length) ∧ Hid (B = ((n.cells.drop i).flatMap cellF).length) ∧ Hid (Below w.heap.size w wr) ∧
      Hid (wr.heap[w1.heap.size]? = some (Obj.cells #[.int .i64 (best (lF n.cells) (lS n.cells) 1 i).1, .int .i64 (best (lF n.cells) (lS n.cells) 1 i).2] 106)))
  case atStart => exact ⟨0, 0, T, by omega, rfl, rfl, rfl, by show _ = _; simp, by show _ = _; rw [List.drop_zero, HTT.out], HB3.out, HQ3.out⟩
  case round =>
    obtain ⟨i, A, B, hig, rfl, rfl, rfl, hA, hB, hb, hq⟩ := hrel
    cases gk with
    | zero =>
      obtain rfl : i = M := by omega
      obtain ⟨q0, q1⟩ := pair_of hq.out
      go_wp2
      go_ret
      exact ⟨rfl, hb.out⟩
    | succ g =>
      have hi : i < n.cells.length := by have := HN.out; have := HM.out; omega
      have hiz : (i : Int) < (M : Int) := by omega
      have hi0 : (0 : Int) ≤ (i : Int) := by omega
      obtain ⟨g0, o0, cap0, k, x, e, q0, q1, q2, q3, hBk, hBx, hIo, hIl⟩ := (HC.out.on hb.out).at hi
      injection e with e1 e2 e3
      injection e1 with e1
      injection e1 with e4 e5
      subst e3 e4 e5
      have hbd : A + B ≤ 4611686018427387904 := by have := flat_both cellF n.cells i; have := hA.out; have := hB.out; have := HT.out; have := HTT.out; omega
      have hdr : n.cells.drop i = n.cells[i] :: n.cells.drop (i + 1) := List.drop_eq_getElem_cons hi
      have hS : Hid (B = (cellF n.cells[i]).length + ((n.cells.drop (i + 1)).flatMap cellF).length) := by show _ = _; rw [hB.out, hdr, List.flatMap_cons, List.length_append]
      have hsu : Hid (((n.cells.take (i + 1)).flatMap cellF).length = A + (cellF n.cells[i]).length) := by show _ = _; rw [flat_next _ _ hi, List.length_append, hA.out]
      generalize n.cells[i] = c at *
      have d44 := fun (u : World) (hu : Below wr.heap.size wr u) => c44 u _ c ⟨k, x, rfl, hBk.on hu, hBx.on hu, hIo, hIl⟩ (by have := hS.out; omega)
      obtain ⟨kp, kc, rfl, -⟩ := hBk
      obtain ⟨xp, xc, rfl, -⟩ := hBx
      obtain ⟨Z, hZ⟩ : ∃ Z, (cellF c).length = Z := ⟨_, rfl⟩
      rw [hZ] at d44 hS hsu
      obtain ⟨B', hB'⟩ : ∃ B', ((n.cells.drop (i + 1)).flatMap cellF).length = B' := ⟨_, rfl⟩
      rw [hB'] at hS
      have hBB := hS.out
      subst hBB
      have e1 : IntKind.i64.wrap ((A : Int) + (Z : Int)) = ((A + Z : Nat) : Int) := by rw [IntKind.wrap_i64]; omega
      have e2 : IntKind.i64.wrap ((Z : Int) + (B' : Int) - (Z : Int)) = (B' : Int) := by rw [IntKind.wrap_i64]; omega
      have e3 : IntKind.i64.wrap ((i : Int) + 1) = (i : Int) + 1 := by rw [IntKind.wrap_i64]; have := HM.out; omega
      have tk : True := trivial
      go_wp2_with (first
        | (go_at_call 44; clear tk; refine (d44 _ (bel1 _ _)).mono ?_; rintro e w4 ⟨rfl, hB4⟩; have HB4 := Lib.hid (bel_then (bel1 _ _) hB4); obtain ⟨c0, c1, c2, c3⟩ := four_of (blk_on hB4 (World.alloc_heap_new wr _)))
        | (go_at_call 44; refine (d44 _ HB4.out).mono ?_; rintro e w5 ⟨rfl, hB5⟩; have HB5 := Lib.hid (bel_then HB4.out hB5)))
      obtain ⟨R, hR⟩ : ∃ R, R = N - (i + 1) := ⟨_, rfl⟩
      have e4 : IntKind.i64.wrap ((N : Int) - ((i : Int) + 1)) = (R : Int) := by rw [IntKind.wrap_i64]; have := HM.out; omega
      have dA := cH (i + 1) (by have := HM.out; omega)
      have dB := cH R (by omega)
      rw [show ((i + 1 : Nat) : Int) = (i : Int) + 1 by omega] at dA
      have hP1 : lF n.cells (i + 1) = 1 + (vnt (i + 1)).length + (A + Z) := by unfold lF; rw [hsu.out]
      have hP2 : lS n.cells (i + 1) = 1 + (vnt R).length + B' := by unfold lS; rw [hB', hR, HN.out]
      have v1 := hvn (i + 1)
      have v2 := hvn R
      have hbe := best_le (lF n.cells) (lS n.cells) 1 i
      have hbs : Hid (best (lF n.cells) (lS n.cells) 1 (i + 1) = orC (best (lF n.cells) (lS n.cells) 1 i) (i + 1) (lF n.cells (i + 1)) (lS n.cells (i + 1))) := by show _ = _; rw [best, Nat.add_comm 1 i]
      obtain ⟨X1, hX1⟩ : ∃ X, 1 + (vnt (i + 1)).length = X := ⟨_, rfl⟩
      obtain ⟨X2, hX2⟩ : ∃ X, 1 + (vnt R).length = X := ⟨_, rfl⟩
      rw [hX1] at hP1 dA
      rw [hX2] at hP2 dB
      rw [hP1, hP2] at hbs
      obtain ⟨P1, h1⟩ : ∃ P, X1 + (A + Z) = P := ⟨_, rfl⟩
      obtain ⟨P2, h2⟩ : ∃ P, X2 + B' = P := ⟨_, rfl⟩
      rw [h1, h2] at hbs
      have e5 : IntKind.i64.wrap ((X1 : Int) + ((A : Int) + (Z : Int))) = (P1 : Int) := by rw [IntKind.wrap_i64]; omega
      have e6 : IntKind.i64.wrap ((X2 : Int) + (B' : Int)) = (P2 : Int) := by rw [IntKind.wrap_i64]; omega
      have HQ := hq.out
      obtain ⟨⟨b1, b2⟩, hbb⟩ : ∃ b, best (lF n.cells) (lS n.cells) 1 i = b := ⟨_, rfl⟩
      rw [hbb] at HQ hbe hbs
      simp only at HQ hbe
      have d91 := fun u => cor u b1 b2 (i + 1) P1 P2 (by omega) (by omega) hbe
      rw [show ((i + 1 : Nat) : Int) = (i : Int) + 1 by omega] at d91
      have HBw := Lib.hid (bel_then hb.out HB5.out)
      have Q5 : w5.drew.heap[w1.heap.size]? = some (Obj.cells #[.int .i64 b1, .int .i64 b2] 106) := blk_on HB5.out HQ
      obtain ⟨q50, q51⟩ := pair_of Q5
      have HbC : Hid (b2 ≤ 9223372036854775807) := hbe
      clear e1 e2 hP1 hP2 v1 v2 hbe hX1 hX2 h1 h2 HQ hbb hq hR c0 c1 c2 c3 q0 q1 q2 q3 hB5 hB4
      go_region_with (first
        | (go_at_call 43; refine (dA _).mono ?_; rintro e wa ⟨rfl, hBa⟩; have Qa := blk_on hBa (by assumption : _ = some (Obj.cells #[.int .i64 b1, .int .i64 b2] 106)); obtain ⟨qa0, qa1⟩ := pair_of Qa)
        | (go_at_call 43; refine (dB _).mono ?_; rintro e wb ⟨rfl, hBb⟩; have Qb := blk_on hBb (by assumption : _ = some (Obj.cells #[.int .i64 b1, .int .i64 b2] 106)); obtain ⟨qb0, qb1⟩ := pair_of Qb)
        | (go_at_call 91; refine (d91 _).mono ?_; rintro e wc ⟨rfl, hBc⟩; have Qc := blk_on hBc (by assumption : _ = some (Obj.cells #[.int .i64 b1, .int .i64 b2] 106)); obtain ⟨qc0, qc1⟩ := pair_of Qc; have fc0 := four_fr Qc 0; have fc1 := four_fr Qc 1))
      all_goals
        have hfin : Hid (Below w.heap.size w wc) := by
          first
            | exact bel_then (bel_then (bel_then HBw.out.drew hBa) hBb) hBc
            | exact bel_then (bel_then (bel_then HBw.out.drew hBb) hBa) hBc
        have hg2 := Lib.hid (bel_put hfin.out (gr_two wc w1.heap.size (.int .i64 (orC (b1, b2) (i + 1) P1 P2).1) (.int .i64 (orC (b1, b2) (i + 1) P1 P2).2)) hzz)
        have hq2 := Lib.hid (blk_two Qc (.int .i64 (orC (b1, b2) (i + 1) P1 P2).1) (.int .i64 (orC (b1, b2) (i + 1) P1 P2).2))
        go_wp2
        go_roundg g
        case measure => omega
        case rel => exact ⟨i + 1, A + Z, B', by omega, by first | rfl | simp, by first | rfl | simp, rfl, hsu.out.symm, hB'.symm, hg2.out, by rw [hbs.out]; exact hq2.out⟩
end Go.Proofs.Ytbkpgppaahpalaa
