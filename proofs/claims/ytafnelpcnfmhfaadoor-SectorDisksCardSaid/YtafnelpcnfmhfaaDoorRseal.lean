/-
  What the document's Seal does.
-/
import Derived.Test.YtafnelpcnfmhfaaDoorSeal
import Derived.Test.YtafnelpcnfmhfaaDoorRsum
namespace Go.Proofs.YtafnelpcnfmhfaaDoor
open Go.RowKit
set_option linter.unusedVariables false      -- a walk need not use every condition
attribute [local go_sem ↓] Go.wp_at_zero Go.wp_at_succ

/-- Bytes of a number, set from the first one on. -/
def aset (l : List UInt8) (n : Nat) : Nat → List UInt8
  | 0 => l
  | k + 1 => (aset l n k).set (2 + k) (UInt8.ofNat (n / 256 ^ (7 - k)))
theorem aset_all {l : List UInt8} (h : l.length = 128) (n : Nat) : aset l n 8 = l.take 2 ++ (be8 n ++ l.drop 10) := by
  match l, h with
  | _ :: _ :: _ :: _ :: _ :: _ :: _ :: _ :: _ :: _ :: r, _ => rfl
/-- Bytes put in one behind the other, from a place on. -/
def cset (l p : List UInt8) (o : Nat) : Nat → List UInt8
  | 0 => l
  | k + 1 => (cset l p o k).set (o + k) (p.getD k 0)
theorem cset_eq {l p : List UInt8} {o : Nat} (h : o + p.length ≤ l.length) : ∀ k, k ≤ p.length → cset l p o k = l.take o ++ (p.take k ++ l.drop (o + k))
  | 0, _ => by simp [cset]
  | k + 1, hk => by
    have hl : (l.take o).length = o := by simp; omega
    have hp : (p.take k).length = k := by simp; omega
    rw [cset, cset_eq h k (by omega), List.set_append_right _ _ (by omega), hl, List.set_append_right _ _ (by omega), hp, show o + k - o - k = 0 by omega]
    rw [List.drop_eq_getElem_cons (show o + k < l.length by omega), List.set_cons_zero, List.take_succ_eq_append_getElem (show k < p.length by omega)]
    have e : p.getD k 0 = p[k]'(by omega) := by simp [show k < p.length by omega]
    rw [e, List.append_assoc]
    rfl
theorem cset_all {l p : List UInt8} {o : Nat} (h : o + p.length ≤ l.length) : cset l p o p.length = l.take o ++ (p ++ l.drop (o + p.length)) := by
  rw [cset_eq h _ (Nat.le_refl _), List.take_length]
set_option maxHeartbeats 800000 in
set_option maxRecDepth 100000 in
theorem rseal_no (w : World) (k n : Int) (pv : Value) (pay : List UInt8) (hp : Bs w pv pay) (ho : okF k n pay = false) :
    Calls Tryd.prog 9 #[frm k n pv] w fun e w' => e = .returned (.tuple #[.agg (encA zer), .int .i64 1]) ∧ Below w.heap.size w w' := by
  have hmax := hp.len
  unfold maxLen at hmax
  obtain ⟨p, cap, rfl, -⟩ := hp
  have HS0 := Lib.hid (Fr.start w k n (.slice p pay.length cap))
  have hi : (Tryd.prog.info? 26).map (·.size) = some (enc zer).length := by rw [size26, len_enc, len_zer]
  unfold frm
  rcases okF_no ho with h1 | ⟨h1, h2⟩ | ⟨h1, h2, h3⟩ | ⟨h1, h2, h3, h4⟩
  all_goals
    clear ho
    have l1 : Hid True := trivial
    (try have x1 : ¬ k < 1 := by omega)
    (try have x2 : ¬ 255 < k := by omega)
    (try have x3 : ¬ n < 0 := by omega)
    (try have x4 : (112 : Int) < (pay.length : Int) := by omega)
    go_enter Tryd.func9, Tryd.ntmps9
    go_wp2_with (first
      | (show wpList _ _ _ (Oper.mk (some 4) (Op.alloc 26) _ _ _ _ :: _) _ _
         refine wpList_alloc26 rfl rfl ?_; intro W1 hW1 zW1 sW1
         have F1 := HS0.out.on hW1
         obtain ⟨b0, b1, b2⟩ := box_of F1.box
         rw [World.size_alloc, World.size_alloc] at sW1 ⊢
         have HF1 := Lib.hid F1
         have HS1 := Lib.hid sW1
         clear F1 sW1 hW1 zW1)
      | (show wpList _ _ _ (Oper.mk _ (Op.load 26 (Operand.tmp 4)) _ _ _ _ :: _) _ _
         refine wpList_load_mid rfl 26 _ rfl _ _ rfl _ _ HS1.out.at_ Tryd.underlying26 rfl hi ?_)
      | (show wpList _ _ _ (Oper.mk _ (Op.store 26 (Operand.tmp 2) _) _ _ _ _ :: _) _ _
         refine wpList_store26 rfl _ _ rfl (w.heap.size + 1) 0 zer rfl rfl HF1.out.res len_zer ?_; intro w2 g2 r2 t2 z2))
    refine bodyPost_ret (v := .tuple #[.agg (encA zer), .int .i64 1]) (results_cell_tmp_mid Tryd.results9 _ _ (w.heap.size + 1) zer rfl r2 len_zer) rfl ⟨rfl, ?_⟩
    have z8 := HF1.out.sz
    exact HF1.out.bel.grown g2 (by omega) (fun k e => by injection e with e; omega)
theorem le4b_at (S i : Nat) (hi : i < 4) : (S : Int) / 2 ^ (8 * i) % 256 = (((le4b S).getD i 0).toNat : Int) := by
  have h : i = 0 ∨ i = 1 ∨ i = 2 ∨ i = 3 := by omega
  rcases h with rfl | rfl | rfl | rfl
  all_goals
    simp only [le4b, List.getD_cons_zero, List.getD_cons_succ]
    rw [ofNat_val]
    simp
theorem shr_byte (n k : Nat) (hk : k ≤ 7) : n / 2 ^ (56 - 8 * k) = n / 256 ^ (7 - k) := by
  rw [show (256 : Nat) = 2 ^ 8 from rfl, ← Nat.pow_mul]
  congr 2
  omega
set_option maxHeartbeats 3200000 in
set_option maxRecDepth 100000 in
theorem rseal_ok (w : World) (k n : Nat) (pv : Value) (pay : List UInt8) (hp : Bs w pv pay) (hk1 : 1 ≤ k) (hk2 : k ≤ 255) (hn : n < 9223372036854775808) (hl : pay.length ≤ 112) :
    Calls Tryd.prog 9 #[frm k n pv] w fun e w' => e = .returned (.tuple #[.agg (encA (frameB k n pay)), .int .i64 0]) ∧ Below w.heap.size w w' := by
  have HP : Hid (Bs w pv pay) := hp
  obtain ⟨p, cap, rfl, -⟩ := hp
  have x1 : ¬ (k : Int) < 1 := by omega
  have x2 : ¬ (255 : Int) < k := by omega
  have x3 : ¬ (n : Int) < 0 := by omega
  have x4 : ¬ (112 : Int) < (pay.length : Int) := by omega
  have v1 : ((UInt8.ofNat k).toNat : Int) = (k : Int) := by rw [ofNat_val]; omega
  have v2 : ((UInt8.ofNat pay.length).toNat : Int) = (pay.length : Int) := by rw [ofNat_val]; omega
  have HV1 := Lib.hid v1
  have HV2 := Lib.hid v2
  clear v1 v2
  have HS0 := Lib.hid (Fr.start w k n (.slice p pay.length cap))
  unfold frm
  go_enter Tryd.func9, Tryd.ntmps9
  go_wp2_with (first
    | (show wpList _ _ _ (Oper.mk (some 4) (Op.alloc 26) _ _ _ _ :: _) _ _
       refine wpList_alloc26 rfl rfl ?_; intro W1 hW1 zW1 sW1
       have F1 := HS0.out.on hW1
       rw [World.size_alloc, World.size_alloc] at zW1 sW1 ⊢
       obtain ⟨g, hg⟩ : ∃ g, w.heap.size + 1 + 1 = g := ⟨_, rfl⟩
       rw [hg] at zW1 sW1 ⊢
       have HG := Lib.hid hg
       clear hg
       obtain ⟨b0, b1, b2⟩ := box_of F1.box
       have HF1 := Lib.hid F1
       have HS1 := Lib.hid sW1
       clear F1 sW1 hW1)
    | (show wpList _ _ _ (Oper.mk _ (Op.store 5 (Operand.tmp 32) _) _ _ _ _ :: _) _ _
       refine wpList_byte rfl _ _ rfl g 0 zer (UInt8.ofNat k) rfl (by rw [HV1.out]; rfl) HS1.out (by omega) ?_; intro W2 gW2 zW2 sW2
       have F2 := HF1.out.grown gW2 (by have := HG.out; omega)
       clear b0 b1 b2
       obtain ⟨b0, b1, b2⟩ := box_of F2.box
       have HF2 := Lib.hid F2
       have HS2 := Lib.hid sW2
       clear F2 sW2 gW2 zW1 zW2)
    | (show wpList _ _ _ (Oper.mk _ (Op.store 5 (Operand.tmp 37) _) _ _ _ _ :: _) _ _
       refine wpList_byte rfl _ _ rfl g 1 _ (UInt8.ofNat pay.length) rfl (by rw [HV2.out]; rfl) HS2.out (by omega) ?_; intro W3 gW3 zW3 sW3
       have F3 := HF2.out.grown gW3 (by have := HG.out; omega)
       clear b0 b1 b2
       obtain ⟨b0, b1, b2⟩ := box_of F3.box
       have HF3 := Lib.hid F3
       have HS3 := Lib.hid sW3
       clear F3 sW3 gW3 zW3))
  obtain ⟨L3, hL3⟩ : ∃ L3, (zer.set 0 (UInt8.ofNat k)).set 1 (UInt8.ofNat pay.length) = L3 := ⟨_, rfl⟩
  rw [hL3] at HS3
  have HL3 := Lib.hid hL3
  clear hL3 HS2 HF2 HS1 HF1 HS0 HV1 HV2 b0 b1 b2
  go_loopg [5] 8 (fun gk s5 wr => ∃ i : Nat, i + gk = 8 ∧ s5 = .int .i64 i ∧ Hid (Fr w wr k n (.slice p pay.length cap)) ∧ Hid (Sec wr g (aset L3 n i)))
  case atStart => exact ⟨0, by omega, rfl, HF3, HS3⟩
  case round =>
    obtain ⟨i, hi, rfl, HF, HS⟩ := hrel
    obtain ⟨b0, b1, b2⟩ := box_of HF.out.box
    cases gk with
    | zero =>
      obtain rfl : i = 8 := by omega
      have s4 := HS.out
      have hL128 : L3.length = 128 := HS3.out.len
      rw [aset_all hL128, ← HL3.out, step1] at s4
      have HS4 := Lib.hid s4
      clear s4 HS HS3 HF3 b0 b1
      go_wp2
      obtain ⟨L4, hL4⟩ : ∃ L4, UInt8.ofNat k :: UInt8.ofNat pay.length :: (be8 n ++ List.replicate 118 0) = L4 := ⟨_, rfl⟩
      rw [hL4] at HS4
      have HL4 := Lib.hid hL4
      clear hL4 b2
      go_loopg [6] pay.length (fun gk s6 w2 => ∃ i : Nat, i + gk = pay.length ∧ s6 = .int .i64 i ∧ Hid (Fr w w2 k n (.slice p pay.length cap)) ∧ Hid (Sec w2 g (cset L4 pay 10 i)))
      case atStart => exact ⟨0, by omega, rfl, HF, HS4⟩
      case round =>
        obtain ⟨i, hi, rfl, HF5, HS5⟩ := hrel
        obtain ⟨b0, b1, b2⟩ := box_of HF5.out.box
        cases gk with
        | zero =>
          obtain rfl : i = pay.length := by omega
          have s6 := HS5.out
          rw [cset_all (by rw [HS4.out.len]; omega), ← HL4.out, step2 _ _ _ hl] at s6
          have s6' : Sec wr g (headB k n pay ++ [0, 0, 0, 0]) := s6
          have hB : Bs wr (.slice (some ⟨g, 0, none⟩) 124 128) (headB k n pay) := by
            have := s6'.bs (o := 0) (n := 124) (c := 128) (by omega) (by omega) (by decide)
            rwa [step3 k n hl] at this
          have cS := rsum15 wr _ _ hB
          have hS32 : csum (nat8 (headB k n pay)) < 4294967296 := csum_lt (nat8_lt _)
          have HFR : Hid (frameB k n pay = headB k n pay ++ le4b (csum (nat8 (headB k n pay)))) := rfl
          generalize csum (nat8 (headB k n pay)) = S at *
          have HS6 := Lib.hid s6'
          clear s6 s6' hB HS5 HS4 b0 b1
          go_wp2_with (first
            | (go_at_call 15; refine cS.mono ?_; rintro e W' ⟨rfl, rfl⟩))
          obtain ⟨L6, hL6⟩ : ∃ L6, headB k n pay ++ [0, 0, 0, 0] = L6 := ⟨_, rfl⟩
          rw [hL6] at HS6
          have HL6 := Lib.hid hL6
          clear hL6 b2 cS
          go_loopg [8] 4 (fun gk s8 w3 => ∃ i : Nat, i + gk = 4 ∧ s8 = .int .i64 i ∧ Hid (Fr w w3 k n (.slice p pay.length cap)) ∧ Hid (Sec w3 g (cset L6 (le4b S) 124 i)))
          case atStart => exact ⟨0, by omega, rfl, HF5, HS6⟩
          case round =>
            obtain ⟨i, hi, rfl, HF7, HS7⟩ := hrel
            cases gk with
            | zero =>
              obtain rfl : i = 4 := by omega
              have s8 := HS7.out
              rw [show (4 : Nat) = (le4b S).length from rfl, cset_all (by rw [HS6.out.len]; exact Nat.le_refl 128), ← HL6.out, step4 k n hl, ← HFR.out] at s8
              have HS8 := Lib.hid s8
              clear s8 HS7
              have hi2 : (Tryd.prog.info? 26).map (·.size) = some (enc (frameB k n pay)).length := by rw [size26, len_enc, len_frameB k n hl]
              go_wp2_with (first
                | (show wpList _ _ _ (Oper.mk _ (Op.load 26 (Operand.tmp 4)) _ _ _ _ :: _) _ _
                   refine wpList_load_mid rfl 26 _ rfl _ _ rfl _ _ HS8.out.at_ Tryd.underlying26 rfl hi2 ?_)
                | (show wpList _ _ _ (Oper.mk _ (Op.store 26 (Operand.tmp 2) _) _ _ _ _ :: _) _ _
                   refine wpList_store26 rfl _ _ rfl (w.heap.size + 1) 0 (frameB k n pay) rfl rfl HF7.out.res (len_frameB k n hl) ?_; intro w4 g4 r4 t4 z4))
              refine bodyPost_ret (v := .tuple #[.agg (encA (frameB k n pay)), .int .i64 0]) (results_cell_tmp_mid Tryd.results9 _ _ (w.heap.size + 1) (frameB k n pay) rfl r4 (len_frameB k n hl)) rfl ⟨rfl, ?_⟩
              have z8 := HF7.out.sz
              exact HF7.out.bel.grown g4 (by omega) (fun k e => by injection e with e; omega)
            | succ q =>
              have hiz : (i : Int) < 4 := by omega
              have hv : (S : Int) / 2 ^ (8 * i) % 256 = (((le4b S).getD i 0).toNat : Int) := le4b_at S i (by omega)
              go_wp2_with (first
                | (show wpList _ _ _ (Oper.mk _ (Op.store 5 (Operand.tmp 80) _) _ _ _ _ :: _) _ _
                   refine wpList_byte rfl _ _ rfl g (124 + i) _ ((le4b S).getD i 0) rfl ?hy HS7.out (by omega) ?_
                   case hy => (simp [go_sem] <;> (rw [hv, List.getD_eq_getElem?_getD]))
                   intro W4 gW4 zW4 sW4
                   have F4 := HF7.out.grown gW4 (by have := HG.out; omega)
                   have HF8 := Lib.hid F4
                   have HS8 := Lib.hid sW4
                   clear F4 sW4 gW4 zW4))
              go_roundg q
              case measure => omega
              case rel => exact ⟨i + 1, by omega, by simp, HF8, HS8⟩
        | succ q =>
          have hiz : (i : Int) < (pay.length : Int) := by omega
          have hil : i < pay.length := by omega
          obtain ⟨p', cap', ep, -, -, -, hor⟩ := HP.out.on HF5.out.bel
          injection ep with ep1 ep2 ep3
          subst ep1 ep3
          obtain ⟨g0, o, rfl, hc⟩ : ∃ g0 o, p = some ⟨g0, o, none⟩ ∧ wr.rangeAt g0 o (enc pay) := by
            rcases hor with hor | hor
            · rw [hor] at hil; simp at hil
            · exact hor
          have hcell := bs_cell hc hil
          obtain ⟨c, hcc⟩ : ∃ c : UInt8, pay.getD i 0 = c := ⟨_, rfl⟩
          rw [hcc] at hcell
          clear hc hor
          go_wp2_with (first
            | (show wpList _ _ _ (Oper.mk _ (Op.store 5 (Operand.tmp 66) _) _ _ _ _ :: _) _ _
               refine wpList_byte rfl _ _ rfl g (10 + i) _ c rfl rfl HS5.out (by omega) ?_; intro W4 gW4 zW4 sW4
               have F4 := HF5.out.grown gW4 (by have := HG.out; omega)
               have HF6 := Lib.hid F4
               have HS6 := Lib.hid sW4
               clear F4 sW4 gW4 zW4))
          go_roundg q
          case measure => omega
          case rel => exact ⟨i + 1, by omega, by simp, HF6, by rw [cset, hcc]; exact HS6⟩
    | succ q =>
      have hiz : (i : Int) < 8 := by omega
      have hs56 : (56 : Int) - 8 * (i : Int) = ((56 - 8 * i : Nat) : Int) := by omega
      have hs57 : (0 : Int) ≤ 56 - 8 * (i : Int) := by omega
      have hz : (n : Int) / 2 ^ (56 - 8 * i) = (n : Int) / 256 ^ (7 - i) := by
        have := congrArg (fun x : Nat => (x : Int)) (shr_byte n i (by omega))
        simpa using this
      go_wp2_with (first
        | (show wpList _ _ _ (Oper.mk _ (Op.store 5 (Operand.tmp 51) _) _ _ _ _ :: _) _ _
           refine wpList_byte rfl _ _ rfl g (2 + i) _ (UInt8.ofNat (n / 256 ^ (7 - i))) rfl (by simp [go_sem] <;> rw [hz]) HS.out (by omega) ?_; intro W4 gW4 zW4 sW4
           have F4 := HF.out.grown gW4 (by have := HG.out; omega)
           have HF4 := Lib.hid F4
           have HS4 := Lib.hid sW4
           clear F4 sW4 gW4 zW4))
      go_roundg q
      case measure => omega
      case rel => exact ⟨i + 1, by omega, by simp, HF4, HS4⟩
/-- What the document's Seal answers. -/
theorem rseal9 (w : World) (k n : Int) (pv : Value) (pay : List UInt8) (hp : Bs w pv pay) (hn : n ≤ 9223372036854775807) :
    Calls Tryd.prog 9 #[frm k n pv] w fun e w' => e = .returned (.tuple #[.agg (encA (sealB k n pay)), .int .i64 (sealE k n pay)]) ∧ Below w.heap.size w w' := by
  unfold sealB sealE
  cases ho : okF k n pay with
  | false => simpa [ho] using rseal_no w k n pv pay hp ho
  | true =>
    obtain ⟨h1, h2, h3, h4⟩ := okF_yes ho
    obtain ⟨k, rfl⟩ : ∃ j : Nat, k = j := ⟨k.toNat, by omega⟩
    obtain ⟨n, rfl⟩ : ∃ j : Nat, n = j := ⟨n.toNat, by omega⟩
    have := rseal_ok w k n pv pay hp (by omega) (by omega) (by omega) h4
    simpa using this
end Go.Proofs.YtafnelpcnfmhfaaDoor
