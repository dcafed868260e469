/-
  NodeHalves, of any node.
-/
import Derived.Test.YtbkpgppaahpalaaHvy
namespace Go.Proofs.Ytbkpgppaahpalaa
open Go.RowKit
set_option linter.unusedVariables false      -- a walk need not use every condition

theorem flat_bound {α : Type} (f : α → List UInt8) (B : Nat) : ∀ (L : List α), (∀ x ∈ L, (f x).length ≤ B) → (L.flatMap f).length ≤ L.length * B
  | [], _ => by simp
  | x :: L, h => by
    have h1 := flat_bound f B L fun y hy => h y (List.mem_cons_of_mem _ hy)
    have h2 := h x List.mem_cons_self
    rw [List.flatMap_cons, List.length_append, List.length_cons, Nat.add_mul]
    omega
theorem keyF_le {k : List UInt8} {B : Nat} (h : k.length ≤ B) : (keyF k).length ≤ 10 + B := by
  unfold keyF
  rw [List.length_append]
  have := vnt_le k.length
  omega
theorem form_small {n : Nd} (hm : may n = true) (hw : few8 n = true) : (form n).length ≤ 100000 := by
  unfold few8 at hw
  simp only [Bool.and_eq_true, decide_eq_true_eq] at hw
  cases hL : n.leaf with
  | true =>
    rw [form_leaf hL]
    obtain ⟨-, -, h3⟩ := may_leaf hL hm
    have h4 := flat_bound cellF 200 n.cells fun c hc => by
      obtain ⟨-, h5, h6⟩ := mayC_each h3 c hc
      unfold cellF valF
      rw [List.length_append]
      have h7 := keyF_le h5
      unfold valOk at h6
      split
      · rename_i h0
        rw [if_pos h0] at h6
        simp only [Bool.and_eq_true, decide_eq_true_eq] at h6
        have := keyF_le h6.1
        rw [List.length_cons]
        omega
      · rw [List.length_cons, List.length_append]
        have := nI_le c.len
        have := nI_le c.over
        omega
    have := vnt_le n.cells.length
    have : n.cells.length * 200 ≤ 300 * 200 := Nat.mul_le_mul_right _ hw.1
    omega
  | false =>
    rw [form_inner hL]
    obtain ⟨-, h2, h3, -⟩ := may_inner hL hm
    have h4 := flat_bound keyF 106 n.keys fun c hc => by have := keyF_le (mayK_each h3 c hc).2; omega
    have h5 := flat_bound nI 10 n.kids fun c _ => nI_le c
    have := vnt_le n.keys.length
    have : n.keys.length * 106 ≤ 300 * 106 := Nat.mul_le_mul_right _ hw.2
    omega
theorem halves8 (w : World) (v : Value) (n : Nd) (h : NdS w v n) (hf : Fit n) :
    Calls Try.prog 8 #[v] w fun e w' => e = .returned (.bool true) ∧ Below w.heap.size w w' := by
  cases hm : may n with
  | false => exact hlv_no0 w v n h hm
  | true =>
    cases hw : few8 n with
    | false => exact hlv_no1 w v n h hm hw
    | true =>
      have hs := form_small hm hw
      have hl : n.cells.length ≤ 300 ∧ n.keys.length ≤ 300 := by
        unfold few8 at hw
        simp only [Bool.and_eq_true, decide_eq_true_eq] at hw
        exact hw
      have hk : n.leaf = false → n.kids.length = n.keys.length + 1 := fun hL => (may_inner hL hm).2.1
      have hfl : n.cells.length * 64 ≤ 140737488355328 ∧ n.keys.length * 24 ≤ 140737488355328 ∧ n.kids.length * 8 ≤ 140737488355328 := by
        refine ⟨by omega, by omega, ?_⟩
        cases hL : n.leaf with
        | true => rw [(may_leaf hL hm).2.1]; simp
        | false => have := hk hL; omega
      by_cases hP : (n.leaf = true ∧ 1 < n.cells.length) ∨ (n.leaf = false ∧ 0 < n.keys.length)
      · obtain ⟨mA, mB, lA, lB, eC, eI, eKl, eKi, k1, q1, q2, q3, q4, hnr⟩ := halves_may hm (by omega) hP
        have lK : (spl n).1.keys.length + (spl n).2.2.keys.length ≤ n.keys.length := by
          cases hL : n.leaf with
          | true => have := congrArg List.length (eKl hL); rw [List.length_append] at this; omega
          | false => have := congrArg List.length (eKi hL); rw [List.length_append, List.length_append] at this; omega
        exact hlv_yes w v n (spl n).1 (spl n).2.2 (spl n).2.1 h hm hw hf hfl (fun u hu => split22 u v n (h.on hu) hf (by omega)) mA mB lA lB eC eI k1 lK eKl eKi ⟨q1, q2, q3, q4⟩ hnr hk (by omega)
      · refine hlv_nil w v n h hm hw hf ?_
        cases hL : n.leaf with
        | true => exact .inl ⟨rfl, fun h => hP (.inl ⟨hL, h⟩)⟩
        | false => exact .inr ⟨rfl, by rcases Nat.eq_zero_or_pos n.keys.length with h | h; exact h; exact absurd (.inr ⟨hL, h⟩) hP⟩
end Go.Proofs.Ytbkpgppaahpalaa
