/-
  The reader of package value, open or not, and whatever is wrong: digits.
-/
import Derived.Test.YtbicodlclmdgaaaGreatDoorRoE
import Derived.Test.YtbicodlclmdgaaaGreatDoorRdrC
import Derived.Deep.QuietTactic
import Derived.BigQuiet
namespace Go.Proofs.YtbicodlclmdgaaaGreatDoor
open Go.RowKit
set_option linter.unusedVariables false      -- a walk need not use every condition

theorem Ro.dn {w : World} {r : Nat} {T : ByteArray} {p : Nat} {o : Bool} {k : Nat} (h : Ro w r T p o k) (m : Nat) : Ro (w.drewN m) r T p o k := ⟨h.1, h.2.on rfl⟩
theorem Rq.dn {w w1 : World} {r : Nat} {T : ByteArray} {q : Nat} {o : Bool} {k : Nat} (h : Rq r T q o k w w1) (m : Nat) : Rq r T q o k w (w1.drewN m) := h.trans ⟨⟨rfl, rfl, rfl, Nat.le_refl _, fun _ _ _ => rfl⟩, h.2.dn m⟩
set_option maxHeartbeats 1000000 in
theorem ended80_q (w : World) (r : Nat) (T : ByteArray) (p : Nat) (o : Bool) (k : Nat) (h : Ro w r T p o k) (b : Bool) (hb : ((p : Int) == (T.size : Int)) = b) :
    Calls Tryz.prog 80 #[.pointer (some ⟨r, 0, none⟩)] w fun e w' => e = .returned (.bool b) ∧ ∃ m, w' = w.drewN m := by
  obtain ⟨c0, c1, c2, c3, cf⟩ := h.cells
  go_enter Tryz.func80, Tryz.ntmps80
  go_wp2
  go_region
  go_wp2
  go_ret
  exact ⟨rfl, 1, rfl⟩

theorem sub_snoc {T : ByteArray} {fr q : Nat} (hf : fr ≤ q) (hq : q < T.size) : sub T fr (q + 1) = sub T fr q ++ [T[q]] := by
  unfold sub
  apply List.ext_getElem
  · simp; omega
  · intro i h1 h2
    simp at h1
    by_cases hi : fr + i < q
    · rw [List.getElem_append_left (by simp; omega)]
      simp
    · have : fr + i = q := by omega
      rw [List.getElem_append_right (by simp; omega)]
      simp [this]
      rfl
theorem dig_yes {T : ByteArray} {fr q : Nat} {n : Int} (hf : fr ≤ q) (hq : q < T.size) (hd : isDig T[q] = true) : pDig (sub T fr q) n (rest T q) = if form (sub T fr (q + 1)) && fits (sval (sub T fr (q + 1))) then pDig (sub T fr (q + 1)) (sval (sub T fr (q + 1))) (rest T (q + 1)) else none := by
  rw [rest_cons hq, sub_snoc hf hq]
  simp only [pDig, hd, if_true]
theorem dig_no {T : ByteArray} {fr q : Nat} {n : Int} (hq : q < T.size) (hd : isDig T[q] = false) : pDig (sub T fr q) n (rest T q) = some (n, rest T q) := by
  rw [rest_cons hq]
  simp only [pDig, hd, Bool.false_eq_true, if_false]
theorem dig_end {T : ByteArray} {fr q : Nat} {n : Int} (hq : q = T.size) : pDig (sub T fr q) n (rest T q) = some (n, rest T q) := by
  rw [rest_nil hq]; rfl
theorem pe_zero {l : List UInt8} : pe l = 0 ↔ (form l && fits (sval l)) = true := by
  unfold pe
  cases form l <;> cases fits (sval l) <;> simp
set_option maxHeartbeats 1000000 in
set_option maxRecDepth 20000 in
theorem digits120o (w : World) (r : Nat) (T : ByteArray) (fr p : Nat) (o : Bool) (k : Nat) (h : Ro w r T p o k) (hfr : fr ≤ p) (hp : p ≤ T.size) (hT : T.size ≤ 140737488000000) :
    Calls Tryz.prog 120 #[.pointer (some ⟨r, 0, none⟩), .int .i64 fr] w
      (Comes r T o w (pDig (sub T fr p) 0 (rest T p)) fun n p' e w' => e = .returned (.int .i64 n) ∧ p ≤ p' ∧ I64 n ∧ Hid (∀ h : p < T.size, isDig T[p] = true → p < p') ∧ Rq r T p' o k w w') := by
  obtain ⟨S, hS⟩ : ∃ S, Hid (S = pDig (sub T fr p) 0 (rest T p)) := ⟨_, rfl⟩
  rw [← hS.out]
  go_enter Tryz.func120, Tryz.ntmps120
  go_wp2
  go_loopg [5] (T.size - p) (fun c v wr => ∃ (q : Nat) (n : Int), c + q = T.size ∧ v = .int .i64 n ∧ Hid (p ≤ q ∧ I64 n) ∧ Hid (Rq r T q o k w wr) ∧ Hid (S = pDig (sub T fr q) n (rest T q)))
  case atStart => exact ⟨p, 0, by omega, rfl, ⟨Nat.le_refl _, by unfold I64; omega⟩, Rq.refl h, hS⟩
  case round =>
    obtain ⟨q, n, hj, rfl, hpn, hR, hG⟩ := hrel
    obtain ⟨c0, c1, c2, c3, cf⟩ := hR.out.2.cells
    by_cases hlq : q < T.size
    · have hb : ((q : Int) == (T.size : Int)) = false := by simp; omega
      cases hd : isDig T[q] with
      | true =>
        have hdd : 48 ≤ T[q].toNat ∧ T[q].toNat ≤ 57 := by simpa [isDig] using hd
        obtain ⟨d1, d2⟩ := hdd
        have hfq : fr ≤ q := by have := hpn.out.1; omega
        have hX := hG.out
        rw [dig_yes hfq hlq hd] at hX
        have j1 : (fr : Int) ≤ (q : Int) + 1 := by omega
        have j2 : (q : Int) + 1 ≤ (T.size : Int) := by omega
        have j3 : ((q : Int) + 1).toNat = q + 1 := by omega
        have j4 : IntKind.i64.wrap ((q : Int) + 1) = (q : Int) + 1 := by rw [IntKind.wrap_i64]; omega
        have c129 : ∀ w, Er w r → Calls Tryz.prog 129 #[.string (T.extract fr (q + 1))] w fun e w' => e = .returned (.tuple #[.int .i64 (pv (sub T fr (q + 1))), .int .i64 (pe (sub T fr (q + 1)))]) ∧ Below w.heap.size w w' := fun w he => by
          obtain ⟨-, tp, pp, hv⟩ := he
          exact numParse_any (T.extract fr (q + 1)) w (by simp; omega) tp pp hv
        clear hd hG
        cases hok : (form (sub T fr (q + 1)) && fits (sval (sub T fr (q + 1)))) with
        | true =>
          have e1 : pe (sub T fr (q + 1)) = 0 := pe_zero.2 hok
          have e2 : pv (sub T fr (q + 1)) = sval (sub T fr (q + 1)) := by unfold pv; rw [hok]; rfl
          rw [e1, e2] at c129
          rw [hok] at hX
          have hN : Hid (I64 (sval (sub T fr (q + 1)))) := by
            simp only [Bool.and_eq_true] at hok
            exact (fits_iff _).1 hok.2
          have hX' : Hid (S = pDig (sub T fr (q + 1)) (sval (sub T fr (q + 1))) (rest T (q + 1))) := hX
          clear hX e1 e2 hok
          generalize sval (sub T fr (q + 1)) = N at *
          go_wp2
          go_quiet (first
            | (go_at_call 80; refine Calls.quiet_of (ended80_q _ r T q o k (hR.out.2.dn _) _ hb))
            | (go_at_call 57; refine Calls.quiet_of_same (digit_yes T[q] _ d1 d2)))
          have hR4 := hR.out.dn nq
          obtain ⟨e0, e1, e2, e3, ef⟩ := hR4.2.cells
          go_wp2
          go_region_held3 (fun w' => w'.cell? ⟨r, 0, none⟩ = some (.string T) ∧ w'.cell? ⟨r, 1, none⟩ = some (.int .i64 q))
            (first | exact ⟨e0, e1⟩ | exact ⟨f0, f1⟩)
            (first
              | (go_at_call 129; refine (c129 _ hR4.dr.2.2).mono ?_; rintro e w5 ⟨rfl, hb5⟩; have hR5 := hR4.dr.bel hb5; obtain ⟨f0, f1, f2, f3, ff⟩ := hR5.2.cells))
          go_wp2
          go_roundg (gk - 1)
          case rel => exact ⟨q + 1, N, by omega, rfl, ⟨by have := hpn.out.1; omega, hN.out⟩, hR5.step, hX'⟩
          case measure => omega
        | false =>
          have hne : (pe (sub T fr (q + 1)) != 0) = true := by
            simp only [bne_iff_ne, ne_eq]
            intro e
            rw [pe_zero.1 e] at hok; cases hok
          rw [hok] at hX
          have hX' : Hid (S = none) := hX
          clear hX hok
          generalize pe (sub T fr (q + 1)) = E at *
          generalize pv (sub T fr (q + 1)) = N at *
          go_wp2
          go_quiet (first
            | (go_at_call 80; refine Calls.quiet_of (ended80_q _ r T q o k (hR.out.2.dn _) _ hb))
            | (go_at_call 57; refine Calls.quiet_of_same (digit_yes T[q] _ d1 d2)))
          have hR4 := hR.out.dn nq
          obtain ⟨e0, e1, e2, e3, ef⟩ := hR4.2.cells
          go_wp2
          go_region_held3 (fun w' => w'.cell? ⟨r, 0, none⟩ = some (.string T) ∧ w'.cell? ⟨r, 1, none⟩ = some (.int .i64 q))
            (first | exact ⟨e0, e1⟩ | exact ⟨f0, f1⟩)
            (first
              | (go_at_call 129; refine (c129 _ hR4.dr.2.2).mono ?_; rintro e w5 ⟨rfl, hb5⟩; have hR5 := hR4.dr.bel hb5; obtain ⟨f0, f1, f2, f3, ff⟩ := hR5.2.cells))
          go_wp2_with (go_at_call 81; refine (giveUp81 _ r T q o k hR5.2 (by omega)).mono ?_; rintro e w6 ⟨q2, hq2, rfl, hg⟩)
          exact ⟨rfl, .inr ⟨⟨q2, hq2, rfl, hR5.1.trans hg⟩, fun _ => hX'.out⟩⟩
      | false =>
        have hnd : ¬ (48 ≤ T[q].toNat ∧ T[q].toNat ≤ 57) := by simpa [isDig] using hd
        have hX : Hid (S = some (n, rest T q)) := by show _ = _; rw [hG.out, dig_no hlq hd]
        have hpr : Hid (∀ h : p < T.size, isDig T[p] = true → p < q) := fun h1 h2 => by
          rcases Nat.lt_or_ge p q with h | h
          · exact h
          · have := hpn.out.1
            obtain rfl : p = q := by omega
            rw [hd] at h2; cases h2
        clear hd hG
        go_wp2
        go_quiet (first
          | (go_at_call 80; refine Calls.quiet_of (ended80_q _ r T q o k (hR.out.2.dn _) _ hb))
          | (go_at_call 57; refine Calls.quiet_of_same (digit_no T[q] _ hnd)))
        go_wp2
        go_ret
        exact .inl ⟨n, q, by omega, ⟨rfl, hpn.out.1, hpn.out.2, hpr, hR.out.dn _⟩, fun _ => hX.out⟩
    · have hqe : q = T.size := by omega
      have hb : ((q : Int) == (T.size : Int)) = true := by simp; omega
      have hX : Hid (S = some (n, rest T q)) := by show _ = _; rw [hG.out, dig_end hqe]
      clear hG
      go_wp2
      go_quiet (first
        | (go_at_call 80; refine Calls.quiet_of (ended80_q _ r T q o k (hR.out.2.dn _) _ hb)))
      go_wp2
      go_ret
      exact .inl ⟨n, q, by omega, ⟨rfl, hpn.out.1, hpn.out.2, fun h _ => by omega, hR.out.dn _⟩, fun _ => hX.out⟩
end Go.Proofs.YtbicodlclmdgaaaGreatDoor
