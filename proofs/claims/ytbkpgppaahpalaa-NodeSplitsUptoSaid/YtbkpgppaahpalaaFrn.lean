/-
  The document's form of an inner node; its Size and Bytes; NodeBytes' walk.
-/
import Derived.Test.YtbkpgppaahpalaaFrm
import Derived.Test.YtbkpgppaahpalaaRcl
import Derived.Test.YtbkpgppaahpalaaShl
namespace Go.Proofs.Ytbkpgppaahpalaa
open Go.RowKit
set_option linter.unusedVariables false      -- a walk need not use every condition

theorem put_in (w0 W : World) (NB : Obj) (b : Value) (acc : List UInt8) (K : Int) (T1 : List UInt8) (hT1 : acc ++ nI K = T1) (hb : Bs W b acc) (hG : Gr w0.heap.size (w0.alloc NB) W)
    (hl : T1.length ≤ 140737488350000) :
    Calls Try.prog 77 #[b, .int .i64 K] W fun e w2 => ∃ p2 c2', e = .returned (.slice p2 T1.length c2') ∧ Hid (Bts w2 w0.heap.size (.slice p2 T1.length c2') T1) ∧ Hid (Gr w0.heap.size (w0.alloc NB) w2) := by
  have hz := hG.at_node.size
  have l1 : acc.length + 10 ≤ 140737488355328 := by
    have e := congrArg List.length hT1
    rw [List.length_append] at e
    omega
  refine (rput77 K W b acc hb l1).mono ?_
  rintro e w2 ⟨v2, rfl, hb2, hB2⟩
  rw [hT1] at hb2
  obtain ⟨p2, c2', e2, -⟩ := hb2.bs
  subst e2
  exact ⟨_, _, rfl, hb2.mono hz, hG.trans (Gr.bel hB2 hz)⟩
set_option maxHeartbeats 8000000 in
set_option maxRecDepth 100000 in
theorem formInner (w : World) (v : Value) (n : Nd) (h : NdS w v n) (hL : n.leaf = false) (ht : (form n).length ≤ 140737488350000) :
    Calls Try.prog 38 #[v] w fun e w' => ∃ v', e = .returned v' ∧ Bts w' w.heap.size v' (form n) ∧ Below w.heap.size w w' := by
  obtain ⟨vc, vk, vi, rfl, hC, hK, hI⟩ := h
  have HK := Lib.hid hK
  have HI := Lib.hid hI
  obtain ⟨pc, cc, rfl, -, lc⟩ := hC.hdr
  obtain ⟨pk, ck, rfl, -, lk⟩ := hK.hdr
  obtain ⟨pi, ci, rfl, -, li⟩ := hI.hdr
  clear hC hK hI
  rw [hL]
  unfold form at ht ⊢
  rw [hL, if_neg (by decide)] at ht ⊢
  have HT := Lib.hid ht
  clear ht
  generalize n.cells.length = N at *
  generalize hM : n.keys.length = M at *
  have HM := Lib.hid hM
  clear hM
  generalize hP : n.kids.length = P at *
  have HP := Lib.hid hP
  clear hP
  obtain ⟨NB, hNB⟩ : ∃ NB, NB = Obj.cells #[.bool false, .slice pc N cc, .slice pk M ck, .slice pi P ci] 26 := ⟨_, rfl⟩
  have HNBe := Lib.hid hNB
  have c1 := rput77 (M : Int) ((w.alloc NB).alloc (.cells #[.int .u8 2] 5)) (.slice (some ⟨w.heap.size + 1, 0, none⟩) 1 1) [2] (by have := bs_one (w.alloc NB) 2 rfl; rwa [World.size_alloc] at this) (by simp)
  rw [nI_nat (by omega)] at c1
  have HA := Lib.hid (World.alloc_heap_new w NB)
  have HGr0 : Hid (Gr w.heap.size (w.alloc NB) ((w.alloc NB).alloc (.cells #[.int .u8 2] 5))) := Gr.bel (bel1 _ _) (by simp)
  rw [hNB] at c1 HA HGr0
  clear hNB
  generalize hV0 : ([2] ++ vnt M : List UInt8) = V0 at *
  have HV0 := Lib.hid hV0
  clear hV0
  go_enter Try.func38, Try.ntmps38
  go_wp2_with (go_at_call 77; refine c1.mono ?_; rintro e w1 ⟨v1, rfl, hb1, hB1⟩)
  have HB1 := Lib.hid (hb1.mono (b := w.heap.size) (by simp; omega))
  have HG1 := Lib.hid (HGr0.out.trans (Gr.bel hB1 (by simp; omega)))
  clear hb1 hB1 c1 HGr0
  go_loopg [6, 7] M (fun g s6 s7 wr => ∃ (i : Nat) (bv : Value), i + g = M ∧ bv = s6 ∧ s7 = .int .i64 i ∧ Hid (Bts wr w.heap.size bv (V0 ++ (n.keys.take i).flatMap keyF)) ∧ Hid (Gr w.heap.size (w.alloc (Obj.cells #[.bool false, .slice pc N cc, .slice pk M ck, .slice pi P ci] 26)) wr))
  case atStart => exact ⟨0, _, by omega, rfl, rfl, by show Bts _ _ _ _; simpa using HB1.out, HG1.out⟩
  case round =>
    clear HB1 HG1
    obtain ⟨i, bv, hig, rfl, rfl, hb, hG⟩ := hrel
    obtain ⟨a0, a1, a2, a3⟩ := four_of (gr_node hG.out HA.out)
    cases gk with
    | succ g =>
      have hi : i < n.keys.length := by have := HM.out; omega
      have hiz : (i : Int) < (M : Int) := by omega
      have hi0 : (0 : Int) ≤ (i : Int) := by omega
      obtain ⟨g0, o0, cap0, k, e, z0, hBk⟩ := HK.out.at hi
      injection e with e1 e2 e3
      subst e1 e3
      clear e2
      have hlen : Hid ((V0 ++ (n.keys.take i).flatMap keyF).length + (keyF n.keys[i]).length ≤ 140737488350000) := by
        show _ ≤ _
        have h1 := HT.out
        have h2 := flat_le' keyF n.keys (i + 1)
        rw [flat_next keyF n.keys hi] at h2
        rw [← HV0.out]
        simp only [List.length_cons, List.length_append, List.length_nil] at h1 h2 ⊢
        omega
      have hnext : Hid (V0 ++ (n.keys.take (i + 1)).flatMap keyF = (V0 ++ (n.keys.take i).flatMap keyF) ++ keyF n.keys[i]) := by show _ = _; rw [flat_next keyF n.keys hi, List.append_assoc]
      have HBk := Lib.hid hBk
      generalize V0 ++ (n.keys.take i).flatMap keyF = acc at *
      generalize n.keys[i] = key at *
      obtain ⟨kp, kc, rfl, -, hk9⟩ := hBk.slice
      generalize hKl : key.length = K at *
      have HKl := Lib.hid hKl
      have hkey := Lib.hid (nI_len (K := K) (by omega) key hKl)
      clear hKl hBk
      have cells : ∀ u, Gr w.heap.size (w.alloc (Obj.cells #[.bool false, .slice pc N cc, .slice (some ⟨g0, o0, none⟩) M ck, .slice pi P ci] 26)) u → u.cell? ⟨w.heap.size, 2, none⟩ = some (.slice (some ⟨g0, o0, none⟩) M ck) ∧ u.cell? ⟨g0, o0 + i, none⟩ = some (.slice kp K kc) :=
        fun u hu => ⟨(four_of (gr_node hu HA.out)).2.2.1, cell_past hu.at_node z0⟩
      obtain ⟨T1, hT1⟩ : ∃ T, acc ++ nI (K : Int) = T := ⟨_, rfl⟩
      obtain ⟨T2, hT2⟩ : ∃ T, T1 ++ key = T := ⟨_, rfl⟩
      have hn2 : Hid (V0 ++ (n.keys.take (i + 1)).flatMap keyF = T2) := by show _ = _; rw [hnext.out, ← hkey.out, ← List.append_assoc, hT1, hT2]
      have l1 : T1.length + key.length ≤ 140737488350000 := by
        have := hlen.out
        have e := congrArg List.length hT1
        have e' := congrArg List.length hkey.out
        rw [List.length_append] at e e'
        omega
      have hGd := hG.out.trans (Gr.bel (w := wr) (Below.refl _ wr).drew hG.out.at_node.size)
      have d1 := put_in w wr.drew _ bv acc (K : Int) T1 hT1 (hb.out.bs.on (Below.refl _ wr).drew) hGd (by omega)
      have r1 := cells _ hGd
      have fin : ∀ w5 p5 c5, Bts w5 w.heap.size (.slice p5 T1.length c5) T1 → Gr w.heap.size (w.alloc (Obj.cells #[.bool false, .slice pc N cc, .slice (some ⟨g0, o0, none⟩) M ck, .slice pi P ci] 26)) w5 →
          Bs w5 (.slice kp K kc) key ∧ w.heap.size ≤ w5.heap.size ∧ (w5.cell? ⟨w.heap.size, 2, none⟩ = some (.slice (some ⟨g0, o0, none⟩) M ck) ∧ w5.cell? ⟨g0, o0 + i, none⟩ = some (.slice kp K kc)) ∧ ∀ v6 w6, Bts w6 w.heap.size v6 (T1 ++ key) → w5.grownBy w6 (Value.slice p5 T1.length c5).ownBlock →
            (w6.cell? ⟨w.heap.size, 2, none⟩ = some (.slice (some ⟨g0, o0, none⟩) M ck) ∧ w6.cell? ⟨g0, o0 + i, none⟩ = some (.slice kp K kc)) ∧ Hid (Bts w6 w.heap.size v6 T2) ∧ Hid (Gr w.heap.size (w.alloc (Obj.cells #[.bool false, .slice pc N cc, .slice (some ⟨g0, o0, none⟩) M ck, .slice pi P ci] 26)) w6) := by
        intro w5 p5 c5 hb5 hG5
        refine ⟨HBk.out.on hG5.at_node, hG5.at_node.size, cells _ hG5, fun v6 w6 hb6 hg6 => ?_⟩
        rw [hT2] at hb6
        have go6 := hG5.trans (Gr.own hb5 hg6 hG5.at_node.size)
        exact ⟨cells _ go6, hb6, go6⟩
      have HLL : Hid (T1.length + key.length ≤ 140737488355328) := by show _ ≤ _; omega
      have z1 := cell_past hG.out.at_node z0
      clear hT1 hT2 l1 hGd hlen hnext hb cells
      generalize hL1 : T1.length = L1 at *
      go_wp2
      go_region_held3 (fun u => u.cell? ⟨w.heap.size, 2, none⟩ = some (.slice (some ⟨g0, o0, none⟩) M ck) ∧ u.cell? ⟨g0, o0 + i, none⟩ = some (.slice kp K kc)) (first | exact r1 | exact u1 | exact r6)
        (first
          | (go_at_call 77; refine d1.mono ?_; rintro e w5 ⟨p5, c5, rfl, HB5, HG5⟩; obtain ⟨src5, z5, u1, f6⟩ := fin w5 p5 c5 HB5.out HG5.out)
          | (refine step_app (by rfl) _ _ (by rfl) w.heap.size _ _ T1 key (by rfl) (by rfl) HB5.out src5 (by rw [hL1]; exact HLL.out) z5 ?_; intro v6 w6 hb6 hg6; obtain ⟨r6, HB6, HG6⟩ := f6 v6 w6 hb6 hg6; clear hb6 hg6))
      go_wp2
      go_roundg g
      case measure => omega
      case rel => exact ⟨i + 1, _, by omega, rfl, by first | rfl | go_num, by show Bts _ _ _ _; rw [hn2.out]; exact HB6.out, HG6⟩
    | zero =>
      have hix : ¬ (i : Int) < (M : Int) := by omega
      obtain ⟨V1, hV1⟩ : ∃ V, V0 ++ n.keys.flatMap keyF = V := ⟨_, rfl⟩
      have HBb : Hid (Bts wr w.heap.size bv V1) := by
        have := hb.out
        rw [List.take_of_length_le (by have := HM.out; omega), hV1] at this
        exact this
      have HV1 : Hid (V1 = 2 :: (vnt M ++ n.keys.flatMap keyF)) := by show _ = _; rw [← hV1, ← HV0.out]; simp
      have HGo := Lib.hid hG.out
      clear hb hG hV1 a0 HV0
      obtain ⟨wo, rfl⟩ : ∃ v, v = wr := ⟨_, rfl⟩
      go_wp2
      clear a1 a2 a3
      go_loopg [6, 8] P (fun g s6 s8 wr => ∃ (j : Nat) (bw : Value), j + g = P ∧ bw = s6 ∧ s8 = .int .i64 j ∧ Hid (Bts wr w.heap.size bw (V1 ++ (n.kids.take j).flatMap nI)) ∧ Hid (Gr w.heap.size (w.alloc (Obj.cells #[.bool false, .slice pc N cc, .slice pk M ck, .slice pi P ci] 26)) wr))
      case atStart => exact ⟨0, _, by omega, rfl, rfl, by show Bts _ _ _ _; simpa using HBb.out, HGo.out⟩
      case round =>
        clear HBb HGo
        obtain ⟨j, bw, hjg, rfl, rfl, hb, hG⟩ := hrel
        obtain ⟨a0, a1, a2, a3⟩ := four_of (gr_node hG.out HA.out)
        cases gk with
        | succ g =>
          have hj : j < n.kids.length := by have := HP.out; omega
          have hjz : (j : Int) < (P : Int) := by omega
          have hj0 : (0 : Int) ≤ (j : Int) := by omega
          obtain ⟨g0, o0, cap0, e, z0, hIx⟩ := HI.out.at hj
          injection e with e1 e2 e3
          subst e1 e3
          clear e2
          replace z0 := cell_past hG.out.at_node z0
          have hlen : (V1 ++ (n.kids.take j).flatMap nI).length + (nI n.kids[j]).length ≤ 140737488350000 := by
            have h1 := HT.out
            have h2 := flat_le' nI n.kids (j + 1)
            rw [flat_next nI n.kids hj] at h2
            rw [HV1.out]
            simp only [List.length_cons, List.length_append] at h1 h2 ⊢
            omega
          have hnext : Hid (V1 ++ (n.kids.take (j + 1)).flatMap nI = (V1 ++ (n.kids.take j).flatMap nI) ++ nI n.kids[j]) := by show _ = _; rw [flat_next nI n.kids hj, List.append_assoc]
          generalize V1 ++ (n.kids.take j).flatMap nI = acc at *
          generalize n.kids[j] = x at *
          have d1 := put_in w wr _ bw acc x _ rfl hb.out.bs hG.out (by rw [List.length_append]; exact hlen)
          rw [← hnext.out] at d1
          clear hlen hb hnext
          generalize hT : V1 ++ (n.kids.take (j + 1)).flatMap nI = T at *
          generalize T.length = TL at *
          have HTT := Lib.hid hT
          clear hT
          go_wp2_with (go_at_call 77; refine d1.mono ?_; rintro e w6 ⟨p6, c6, rfl, HB6, HG6⟩)
          go_roundg g
          case measure => omega
          case rel => exact ⟨j + 1, _, by omega, rfl, by first | rfl | go_num, by show Bts _ _ _ _; rw [HTT.out]; exact HB6.out, HG6⟩
        | zero =>
          have hjx : ¬ (j : Int) < (P : Int) := by omega
          have hF : Hid (Bts wr w.heap.size bw (2 :: (vnt M ++ (n.keys.flatMap keyF ++ n.kids.flatMap nI)))) := by
            have := hb.out
            rw [List.take_of_length_le (by have := HP.out; omega), HV1.out] at this
            show Bts _ _ _ _
            simpa using this
          clear hb
          go_wp2
          go_ret
          exact ⟨_, rfl, hF.out, hG.out.at_node⟩
theorem form38 (w : World) (v : Value) (n : Nd) (h : NdS w v n) (ht : (form n).length ≤ 140737488350000) :
    Calls Try.prog 38 #[v] w fun e w' => ∃ v', e = .returned v' ∧ Bts w' w.heap.size v' (form n) ∧ Below w.heap.size w w' := by
  cases hL : n.leaf with
  | true => exact formLeaf w v n h hL ht
  | false => exact formInner w v n h hL ht
end Go.Proofs.Ytbkpgppaahpalaa
