/-
  What the reader of package value does with numbers, where nothing is wrong.
-/
import Derived.Test.YtbicodlclmdgaaaGreatDoorRdrB
namespace Go.Proofs.YtbicodlclmdgaaaGreatDoor
open Go.RowKit

/-- What stands from a on below b. -/
def sub (T : ByteArray) (a b : Nat) : List UInt8 := (T.extract a b).data.toList
def Dig (T : ByteArray) (p : Nat) : Prop := ∃ h : p < T.size, 48 ≤ T[p].toNat ∧ T[p].toNat ≤ 57
def NoDig (T : ByteArray) (p : Nat) : Prop := ∃ h : p < T.size, ¬ (48 ≤ T[p].toNat ∧ T[p].toNat ≤ 57)
/-- The number of the digits so far. -/
def soFar (T : ByteArray) (fr p j : Nat) : Int := if j = 0 then 0 else sval (sub T fr (p + j))

set_option maxHeartbeats 2000000 in
theorem digits_any (w : World) (r : Nat) (T : ByteArray) (fr p k m : Nat) (h : Rd w r T p k) (hfr : fr ≤ p) (hd : ∀ j, j < m → Dig T (p + j)) (hok : ∀ j, j < m → form (sub T fr (p + j + 1)) = true ∧ fits (sval (sub T fr (p + j + 1))) = true)
    (hend : NoDig T (p + m)) (hT : T.size ≤ 140737488351232) :
    Calls Tryz.prog 120 #[.pointer (some ⟨r, 0, none⟩), .int .i64 fr] w fun e w' => e = .returned (.int .i64 (soFar T fr p m)) ∧ Rp r T (p + m) k w w' := by
  have hrl := h.lt
  go_enter Tryz.func120, Tryz.ntmps120
  go_wp2
  go_loopg [5] m (fun c v wr => ∃ j : Nat, c + j = m ∧ Hid (v = .int .i64 (soFar T fr p j)) ∧ Hid (Rp r T (p + j) k w wr))
  case atStart => exact ⟨0, rfl, rfl, Rp.refl h⟩
  case round =>
    obtain ⟨j, hj, hv, hR⟩ := hrel
    have hv' := hv.out
    subst hv'
    by_cases hlt : j < m
    · obtain ⟨hp', d1, d2⟩ := hd j hlt
      obtain ⟨o1, o2⟩ := hok j hlt
      have hsf : Hid (soFar T fr p (j + 1) = sval (sub T fr (p + j + 1))) := by show _ = _; unfold soFar; rw [if_neg (by omega)]; rfl
      obtain ⟨q, hq⟩ : ∃ q, Hid (q = p + j) := ⟨_, rfl⟩
      have hfq : fr ≤ q := by rw [hq.out]; omega
      simp only [← hq.out] at hR hp' d1 d2 o1 o2 hsf
      generalize soFar T fr p j = n0 at *
      clear hd hok hend hv
      obtain ⟨c0, c1, c2, c3, cf⟩ := hR.out.2.cells
      obtain ⟨N, hN⟩ : ∃ N, Hid (N = sval (sub T fr (q + 1))) := ⟨_, rfl⟩
      have c129 : ∀ w, Calls Tryz.prog 129 #[.string (T.extract fr (q + 1))] w fun e w' => e = .returned (.tuple #[.int .i64 N, .int .i64 0]) ∧ Below w.heap.size w w' := fun w => by
        rw [hN.out]; exact numParse_ok (T.extract fr (q + 1)) w (by simp; omega) o1 o2
      clear o1 o2
      go_wp2
      go_region_held3 (fun w' => w'.cell? ⟨r, 0, none⟩ = some (.string T) ∧ w'.cell? ⟨r, 1, none⟩ = some (.int .i64 q))
        (first | exact ⟨c0, c1⟩ | exact ⟨e0, e1⟩)
        (first
          | (go_at_call 80; refine (ended_no _ r T q k hR.out.dr.2 hp').mono ?_; rintro e w3 ⟨rfl, h3⟩; obtain ⟨e0, e1, -⟩ := h3.2.cells)
          | (go_at_call 57; refine (digit_yes T[q] _ d1 d2).mono ?_; rintro e w4 ⟨rfl, rfl⟩))
      have hR4 := hR.out.dr.trans h3
      have j1 : (fr : Int) ≤ (q : Int) + 1 := by omega
      have j2 : (q : Int) + 1 ≤ (T.size : Int) := by omega
      have j3 : ((q : Int) + 1).toNat = q + 1 := by omega
      have j4 : IntKind.i64.wrap ((q : Int) + 1) = (q : Int) + 1 := by rw [IntKind.wrap_i64]; omega
      go_wp2
      go_region_held3 (fun w' => w'.cell? ⟨r, 0, none⟩ = some (.string T) ∧ w'.cell? ⟨r, 1, none⟩ = some (.int .i64 q))
        (first | exact ⟨e0, e1⟩ | exact ⟨f0, f1⟩)
        (first
          | (go_at_call 129; refine (c129 _).mono ?_; rintro e w5 ⟨rfl, hb5⟩; have hR5 := hR4.dr.far (gr_bel hb5 none) hrl (fun _ e => by cases e); obtain ⟨f0, f1, f2, f3, ff⟩ := hR5.2.cells))
      go_wp2
      go_roundg (gk - 1)
      case rel =>
        refine ⟨j + 1, by omega, ?_, ?_⟩
        · show _ = _
          rw [hsf.out, hN.out]
        · show Rp _ _ _ _ _ _
          rw [show p + (j + 1) = q + 1 by rw [hq.out]; omega]
          exact hR5.step
      case measure => omega
    · obtain rfl : j = m := by omega
      obtain ⟨q, hq⟩ : ∃ q, Hid (q = p + j) := ⟨_, rfl⟩
      simp only [← hq.out] at hR hend
      generalize hn0 : soFar T fr p j = n0 at *
      clear hd hok hv
      obtain ⟨c0, c1, c2, c3, cf⟩ := hR.out.2.cells
      obtain ⟨hp', hnd⟩ := hend
      go_wp2
      go_region_held3 (fun w' => w'.cell? ⟨r, 0, none⟩ = some (.string T) ∧ w'.cell? ⟨r, 1, none⟩ = some (.int .i64 q))
        (first | exact ⟨c0, c1⟩ | exact ⟨e0, e1⟩)
        (first
          | (go_at_call 80; refine (ended_no _ r T q k hR.out.dr.2 hp').mono ?_; rintro e w3 ⟨rfl, h3⟩; obtain ⟨e0, e1, -⟩ := h3.2.cells)
          | (go_at_call 57; refine (digit_no T[q] _ hnd).mono ?_; rintro e w4 ⟨rfl, rfl⟩))
      go_wp2
      go_ret
      rw [← hq.out, hn0]
      exact ⟨rfl, hR.out.dr.trans h3⟩

set_option maxHeartbeats 2000000 in
/-- A number without a sign, not at the text's end. -/
theorem number_plain (w : World) (r : Nat) (T : ByteArray) (p k m : Nat) (h : Rd w r T p k) (hm : 0 < m) (hd : ∀ j, j < m → Dig T (p + j)) (hok : ∀ j, j < m → form (sub T p (p + j + 1)) = true ∧ fits (sval (sub T p (p + j + 1))) = true)
    (hend : NoDig T (p + m)) (hT : T.size ≤ 140737488351232) (lim : Int) :
    Calls Tryz.prog 103 #[.pointer (some ⟨r, 0, none⟩), .int .i64 lim] w fun e w' => e = .returned (.int .i64 (sval (sub T p (p + m)))) ∧ Rp r T (p + m) k w w' := by
  have hrl := h.lt
  have c120 := fun w h => digits_any w r T p p k m h (Nat.le_refl _) hd hok hend hT
  rw [show soFar T p p m = sval (sub T p (p + m)) by unfold soFar; rw [if_neg (by omega)]] at c120
  obtain ⟨hp, d1, d2⟩ := hd 0 hm
  simp only [Nat.add_zero] at hp d1 d2
  generalize sval (sub T p (p + m)) = N at *
  have hne : ((T[p].toNat : Int) == 45) = false := by simp; omega
  obtain ⟨c0, c1, c2, c3, cf⟩ := h.cells
  clear hd hok
  go_enter Tryz.func103, Tryz.ntmps103
  go_wp2
  go_region_held3 (fun w' => w'.cell? ⟨r, 0, none⟩ = some (.string T) ∧ w'.cell? ⟨r, 1, none⟩ = some (.int .i64 p))
    (first | exact ⟨c0, c1⟩ | exact ⟨e0, e1⟩)
    (first
      | (go_at_call 80; refine (ended_no _ r T p k (Rp.drew h).2 hp).mono ?_; rintro e w3 ⟨rfl, h3⟩; obtain ⟨e0, e1, -⟩ := h3.2.cells))
  go_wp2_with (go_at_call 96; refine (cut_no _ r T p k h3.2 hp).mono ?_; rintro e w4 ⟨rfl, h4⟩; obtain ⟨f0, f1, -⟩ := h4.2.cells)
  go_region_held3 (fun w' => w'.cell? ⟨r, 0, none⟩ = some (.string T) ∧ w'.cell? ⟨r, 1, none⟩ = some (.int .i64 p))
    (first | exact ⟨f0, f1⟩)
    (first
      | (go_at_call 57; refine (digit_yes T[p] _ d1 d2).mono ?_; rintro e w5 ⟨rfl, rfl⟩))
  go_wp2_with (first
    | (go_at_call 120; refine (c120 _ h4.dr.2).mono ?_; rintro e w6 ⟨rfl, h6⟩)
    | (go_at_call 80; refine (ended_no _ r T (p + m) k h6.2 hend.1).mono ?_; rintro e w7 ⟨rfl, h7⟩))
  go_ret
  exact ⟨rfl, ((((Rp.drew h).trans h3).trans h4).dr.trans h6).trans h7⟩
end Go.Proofs.YtbicodlclmdgaaaGreatDoor
