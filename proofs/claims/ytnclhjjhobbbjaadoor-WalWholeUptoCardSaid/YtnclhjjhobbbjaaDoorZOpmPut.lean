/-
  What Open answers, whatever the sector; that a frame is read as it was, that zeros are none, that damage is seen. Mathematics, and one case.
  What Put of package sector does.
-/
import Derived.Test.YtnclhjjhobbbjaaDoorZOpen
namespace Go.Proofs.YtnclhjjhobbbjaaDoor
open Go.RowKit

theorem open77 (w : World) (s : List UInt8) (hs : s.length = 128) (hT : TabOk w) :
    Calls Tryd.prog 77 #[.agg (encA s)] w fun e w' => ∃ pv, e = .returned (.tuple #[frm (oK s) (oN s) pv, .int .i64 (oE s)]) ∧ Bs w' pv (oP s) ∧ Fresh w.heap.size pv ∧ Below w.heap.size w w' := by
  by_cases hL : opL s ≤ 112
  · exact open_short w s hs hL hT
  · have hno : opOk s = false := by unfold opOk; rw [decide_eq_false hL, Bool.false_and]
    have h1 : oK s = 0 := by unfold oK; rw [hno, if_neg (by decide)]
    have h2 : oN s = 0 := by unfold oN; rw [hno, if_neg (by decide)]
    have h3 : oP s = [] := by unfold oP; rw [hno, if_neg (by decide)]
    have h4 : oE s = 50 := by unfold oE; rw [hno, if_neg (by decide)]
    rw [h1, h2, h3, h4]
    exact (open_long w s hs hL).mono fun e w' ⟨he, hb⟩ => ⟨_, he, bs_nil _, fun _ _ _ _ e => (by cases e), hb⟩
theorem be_be8 (n : Nat) (h : n < 18446744073709551616) : be (be8 n) = n := by
  simp only [be, be8, List.foldl_cons, List.foldl_nil, UInt8.toNat_ofNat']
  omega
theorem sgn_small {n : Nat} (h : n < 9223372036854775808) : sgn n = n := by
  unfold sgn wrap64
  omega
/-- What a frame's sector says. -/
theorem frame_says {k n : Nat} {pay : List UInt8} (hk : k ≤ 255) (hn : n < 9223372036854775808) (hl : pay.length ≤ 112) :
    opK (frameB k n pay) = k ∧ opL (frameB k n pay) = pay.length ∧ opN (frameB k n pay) = n ∧ opP (frameB k n pay) = pay := by
  have e0 : frameB k n pay = UInt8.ofNat k :: UInt8.ofNat pay.length :: (be8 n ++ (pay ++ (List.replicate (114 - pay.length) 0 ++ le4b (csum (nat8 (headB k n pay)))))) := by
    simp [frameB, headB]
  have h1 : opK (frameB k n pay) = k := by
    rw [e0]
    show ((UInt8.ofNat k).toNat : Int) = k
    rw [UInt8.toNat_ofNat']
    omega
  have h2 : opL (frameB k n pay) = pay.length := by
    rw [e0]
    show (UInt8.ofNat pay.length).toNat = pay.length
    rw [UInt8.toNat_ofNat']
    omega
  refine ⟨h1, h2, ?_, ?_⟩
  · unfold opN
    rw [e0]
    have : ((UInt8.ofNat k :: UInt8.ofNat pay.length :: (be8 n ++ (pay ++ (List.replicate (114 - pay.length) 0 ++ le4b (csum (nat8 (headB k n pay))))))).drop 2).take 8 = be8 n := rfl
    rw [this, be_be8 n (by omega), sgn_small hn]
  · unfold opP
    rw [h2, e0]
    have : (UInt8.ofNat k :: UInt8.ofNat pay.length :: (be8 n ++ (pay ++ (List.replicate (114 - pay.length) 0 ++ le4b (csum (nat8 (headB k n pay))))))).drop 10 = pay ++ (List.replicate (114 - pay.length) 0 ++ le4b (csum (nat8 (headB k n pay)))) := rfl
    rw [this, List.take_append_of_le_length (Nat.le_refl _), List.take_length]
/-- A frame is read as it was. -/
theorem open_seal {k n : Int} {pay : List UInt8} (hn : n ≤ 9223372036854775807) (ho : okF k n pay = true) :
    oK (sealB k n pay) = k ∧ oN (sealB k n pay) = n ∧ oP (sealB k n pay) = pay ∧ oE (sealB k n pay) = 0 := by
  obtain ⟨h1, h2, h3, h4⟩ := okF_yes ho
  obtain ⟨k, rfl⟩ : ∃ j : Nat, k = j := ⟨k.toNat, by omega⟩
  obtain ⟨n, rfl⟩ : ∃ j : Nat, n = j := ⟨n.toNat, by omega⟩
  have hb : sealB (k : Int) (n : Int) pay = frameB k n pay := by unfold sealB; rw [ho, if_pos rfl, Int.toNat_natCast, Int.toNat_natCast]
  obtain ⟨q1, q2, q3, q4⟩ := frame_says (k := k) (n := n) (pay := pay) (by omega) (by omega) h4
  have hok : opOk (frameB k n pay) = true := by
    unfold opOk
    rw [q1, q2, q3, q4, ho, hb]
    simp [h4]
  rw [hb]
  unfold oK oN oP oE
  rw [hok, if_pos rfl, if_pos rfl, if_pos rfl, if_pos rfl]
  exact ⟨q1, q3, q4, rfl⟩
theorem open_zero : oE zer = 50 := by
  have : opOk zer = false := by
    unfold opOk
    have h : okF (opK zer) (opN zer) (opP zer) = false := by
      have : opK zer = 0 := rfl
      unfold okF
      rw [this]
      rfl
    rw [h, Bool.false_and, Bool.and_false]
  unfold oE
  rw [this, if_neg (by decide)]
/-- What is read is the sector of a frame. -/
theorem open_is {s : List UInt8} (h : opOk s = true) : ∃ k n : Nat, ∃ pay : List UInt8, s = frameB k n pay := by
  unfold opOk at h
  simp only [Bool.and_eq_true, decide_eq_true_eq] at h
  obtain ⟨-, h1, h2⟩ := h
  unfold sealB at h2
  rw [h1, if_pos rfl] at h2
  exact ⟨_, _, _, h2.symm⟩
end Go.Proofs.YtnclhjjhobbbjaaDoor
namespace Go.Proofs.YtnclhjjhobbbjaaDoor
open Go.RowKit Go.Maps
set_option linter.unusedVariables false      -- a walk need not use every condition
attribute [local go_sem ↓] Go.wp_at_zero Go.wp_at_succ

def Dsk.put (s : Dsk) (a k n : Int) (pay : List UInt8) : Int × Dsk := if okF k n pay then s.write a (sealB k n pay) else (1, s)
theorem put46 (w : World) (d pb mb : Nat) (s : Dsk) (h : At w d pb mb s) (a k n : Int) (pv : Value) (pay : List UInt8) (hp : Bs w pv pay) (hT : TabOk w) (hn : n ≤ 9223372036854775807) (ho : okF k n pay = true) :
    Calls Tryd.prog 46 #[.pointer (some ⟨d, 0, none⟩), .int .i64 a, frm k n pv] w fun e w' => e = .returned (.int .i64 (s.put a k n pay).1) ∧ At w' d pb mb (s.put a k n pay).2 ∧ Kept d pb mb w w' := by
  have HP := Lib.hid hp
  have HT := Lib.hid hT
  have HA := Lib.hid h
  obtain ⟨p, cap, rfl, -⟩ := hp
  have cS := seal60 (w.alloc (.cells #[.int .i64 k, .int .i64 n, .slice p pay.length cap] 79)) k n _ pay (HP.out.on (bel1 _ _)) (tab_on HT.out (bel1 _ _)) hn
  have HE : Hid (sealE k n pay = if okF k n pay then 0 else 1) := rfl
  have HLZ := Lib.hid (len_sealB k n pay)
  have hi1 : (Tryd.prog.info? 66).map (·.size) = some (enc (sealB k n pay)).length := by rw [size26, len_enc, HLZ.out]
  have cW := fun W hW => write26 W d pb mb s hW a (sealB k n pay) HLZ.out
  unfold Dsk.put
  rw [ho, if_pos rfl]
  generalize (s.write a (sealB k n pay)).1 = RX at *
  generalize (s.write a (sealB k n pay)).2 = RS at *
  generalize hEE : sealE k n pay = E at *
  generalize sealB k n pay = Z at *
  have hE1 : E = 0 := by rw [HE.out, ho]; rfl
  subst hE1
  unfold frm at cS ⊢
  clear hT h HE ho hEE
  go_enter Tryd.func46, Tryd.ntmps46
  go_wp2_with (first
    | (go_at_call 60; refine cS.mono ?_; rintro e W1 ⟨rfl, hb1⟩)
    | (with_reducible show wpList _ _ _ (Oper.mk (some 7) (Op.alloc 66) _ _ _ _ :: _) _ _
       refine wpList_alloc26 rfl rfl ?_; intro W2 hW2 zW2 sW2)
    | (with_reducible show wpList _ _ _ (Oper.mk _ (Op.store 66 (Operand.tmp 7) _) _ _ _ _ :: _) _ _
       refine wpList_store26 rfl _ _ rfl W1.heap.size 0 Z rfl rfl sW2.th HLZ.out ?_; intro W3 g3 r3 t3 z3
       have HB3 : Hid (Below w.heap.size w W3) := (bel_then (bel_then (bel1 w _) hb1) hW2).grown g3 (by have := hb1.size; simp at this; have := hW2.size; omega) (fun k e => by injection e with e; have := hb1.size; simp at this; omega)
       clear hb1 hW2 sW2 g3 t3)
    | (with_reducible show wpList _ _ _ (Oper.mk _ (Op.load 66 (Operand.tmp 7)) _ _ _ _ :: _) _ _
       refine wpList_load_mid rfl 66 _ rfl _ _ rfl _ _ r3 Tryd.underlying66 rfl hi1 ?_)
    | (go_at_call 26; refine (cW _ (HA.out.on HB3.out)).mono ?_; rintro e W4 ⟨rfl, hA4, hK4⟩))
  go_ret
  exact ⟨rfl, hA4, (Kept.bel HB3.out).trans hK4⟩
end Go.Proofs.YtnclhjjhobbbjaaDoor
