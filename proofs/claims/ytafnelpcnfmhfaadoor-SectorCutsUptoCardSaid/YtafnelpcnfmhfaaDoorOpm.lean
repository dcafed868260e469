/-
  What Open answers, whatever the sector; that a frame is read as it was, that zeros are none, that damage is seen. Mathematics, and one case.
-/
import Derived.Test.YtafnelpcnfmhfaaDoorOpen
import Derived.Test.YtafnelpcnfmhfaaDoorCrcC
namespace Go.Proofs.YtafnelpcnfmhfaaDoor
open Go.RowKit

theorem open10 (w : World) (s : List UInt8) (hs : s.length = 128) (hT : TabOk w) :
    Calls Tryd.prog 10 #[.agg (encA s)] w fun e w' => ∃ pv, e = .returned (.tuple #[frm (oK s) (oN s) pv, .int .i64 (oE s)]) ∧ Bs w' pv (oP s) ∧ Below w.heap.size w w' := by
  by_cases hL : opL s ≤ 112
  · exact open_short w s hs hL hT
  · have hno : opOk s = false := by unfold opOk; rw [decide_eq_false hL, Bool.false_and]
    have h1 : oK s = 0 := by unfold oK; rw [hno, if_neg (by decide)]
    have h2 : oN s = 0 := by unfold oN; rw [hno, if_neg (by decide)]
    have h3 : oP s = [] := by unfold oP; rw [hno, if_neg (by decide)]
    have h4 : oE s = 50 := by unfold oE; rw [hno, if_neg (by decide)]
    rw [h1, h2, h3, h4]
    exact (open_long w s hs hL).mono fun e w' ⟨he, hb⟩ => ⟨_, he, bs_nil _, hb⟩
theorem be_be8 (n : Nat) (h : n < 18446744073709551616) : be (be8 n) = n := by
  simp only [be, be8, List.foldl_cons, List.foldl_nil, UInt8.toNat_ofNat']
  omega
theorem sgn_small {n : Nat} (h : n < 9223372036854775808) : sgn n = n := by
  unfold sgn wrap64
  omega
/-- What a frame's sector says. -/
theorem frame_says {k n : Nat} {pay : List UInt8} (hk : k ≤ 255) (hn : n < 9223372036854775808) (hl : pay.length ≤ 112) :
    opK (frameB k n pay) = k ∧ opL (frameB k n pay) = pay.length ∧ opN (frameB k n pay) = n ∧ opP (frameB k n pay) = pay := by
  have e0 : frameB k n pay = UInt8.ofNat k :: UInt8.ofNat pay.length :: (be8 n ++ (pay ++ (List.replicate (114 - pay.length) 0 ++ le4b (csum (nat8 (headB k n pay)))))) := by
    simp [frameB, headB]
  have h1 : opK (frameB k n pay) = k := by
    rw [e0]
    show ((UInt8.ofNat k).toNat : Int) = k
    rw [UInt8.toNat_ofNat']
    omega
  have h2 : opL (frameB k n pay) = pay.length := by
    rw [e0]
    show (UInt8.ofNat pay.length).toNat = pay.length
    rw [UInt8.toNat_ofNat']
    omega
  refine ⟨h1, h2, ?_, ?_⟩
  · unfold opN
    rw [e0]
    have : ((UInt8.ofNat k :: UInt8.ofNat pay.length :: (be8 n ++ (pay ++ (List.replicate (114 - pay.length) 0 ++ le4b (csum (nat8 (headB k n pay))))))).drop 2).take 8 = be8 n := rfl
    rw [this, be_be8 n (by omega), sgn_small hn]
  · unfold opP
    rw [h2, e0]
    have : (UInt8.ofNat k :: UInt8.ofNat pay.length :: (be8 n ++ (pay ++ (List.replicate (114 - pay.length) 0 ++ le4b (csum (nat8 (headB k n pay))))))).drop 10 = pay ++ (List.replicate (114 - pay.length) 0 ++ le4b (csum (nat8 (headB k n pay)))) := rfl
    rw [this, List.take_append_of_le_length (Nat.le_refl _), List.take_length]
/-- A frame is read as it was. -/
theorem open_seal {k n : Int} {pay : List UInt8} (hn : n ≤ 9223372036854775807) (ho : okF k n pay = true) :
    oK (sealB k n pay) = k ∧ oN (sealB k n pay) = n ∧ oP (sealB k n pay) = pay ∧ oE (sealB k n pay) = 0 := by
  obtain ⟨h1, h2, h3, h4⟩ := okF_yes ho
  obtain ⟨k, rfl⟩ : ∃ j : Nat, k = j := ⟨k.toNat, by omega⟩
  obtain ⟨n, rfl⟩ : ∃ j : Nat, n = j := ⟨n.toNat, by omega⟩
  have hb : sealB (k : Int) (n : Int) pay = frameB k n pay := by unfold sealB; rw [ho, if_pos rfl, Int.toNat_natCast, Int.toNat_natCast]
  obtain ⟨q1, q2, q3, q4⟩ := frame_says (k := k) (n := n) (pay := pay) (by omega) (by omega) h4
  have hok : opOk (frameB k n pay) = true := by
    unfold opOk
    rw [q1, q2, q3, q4, ho, hb]
    simp [h4]
  rw [hb]
  unfold oK oN oP oE
  rw [hok, if_pos rfl, if_pos rfl, if_pos rfl, if_pos rfl]
  exact ⟨q1, q3, q4, rfl⟩
theorem open_zero : oE zer = 50 := by
  have : opOk zer = false := by
    unfold opOk
    have h : okF (opK zer) (opN zer) (opP zer) = false := by
      have : opK zer = 0 := rfl
      unfold okF
      rw [this]
      rfl
    rw [h, Bool.false_and, Bool.and_false]
  unfold oE
  rw [this, if_neg (by decide)]
/-- What is read is the sector of a frame. -/
theorem open_is {s : List UInt8} (h : opOk s = true) : ∃ k n : Nat, ∃ pay : List UInt8, s = frameB k n pay := by
  unfold opOk at h
  simp only [Bool.and_eq_true, decide_eq_true_eq] at h
  obtain ⟨-, h1, h2⟩ := h
  unfold sealB at h2
  rw [h1, if_pos rfl] at h2
  exact ⟨_, _, _, h2.symm⟩
/-- Where bits of a frame's sector are turned within 32, it is none, or it is as it was. -/
theorem open_burst {k n : Int} {pay : List UInt8} (hn : n ≤ 9223372036854775807) (ho : okF k n pay = true) {p v : Nat} (hp : p < 1024) (hv : v < 4294967296) :
    (burstL (sealB k n pay) p v = sealB k n pay ∧ oE (burstL (sealB k n pay) p v) = 0) ∨ (burstL (sealB k n pay) p v ≠ sealB k n pay ∧ oE (burstL (sealB k n pay) p v) = 50) := by
  by_cases h : burstL (sealB k n pay) p v = sealB k n pay
  · exact .inl ⟨h, by rw [h]; exact (open_seal hn ho).2.2.2⟩
  · refine .inr ⟨h, ?_⟩
    cases hok : opOk (burstL (sealB k n pay) p v) with
    | false => unfold oE; rw [hok, if_neg (by decide)]
    | true =>
      exfalso
      obtain ⟨k', n', pay', e⟩ := open_is hok
      refine h (burst_frame (len_sealB k n pay) hp hv (nat8_lt _) (nat8_lt _) (d := nat8 (headB k.toNat n.toNat pay)) (d' := nat8 (headB k' n' pay')) ?_ ?_)
      · rw [← frame_framed]; unfold sealB; rw [ho, if_pos rfl]
      · rw [e, frame_framed]
end Go.Proofs.YtafnelpcnfmhfaaDoor
