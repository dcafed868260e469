/-
  The document's Sum, walked.
-/
import Derived.Test.YtbicodlclmdgaaaGreatDoorSumB
import Derived.Test.YtbicodlclmdgaaaGreatDoorSumW
import Derived.Deep.QuietTactic
import Derived.BigQuiet
namespace Go.Proofs.YtbicodlclmdgaaaGreatDoor.sums
open Go.RowKit Go.Shelf

theorem info2 : (Tryz.prog.info? 2).map (fun i => (i.zero, i.size, i.bytes)) = some (some (.int .i64 0), 1, 8) := by kernel_rfl

/-- A slice's value that reads as these numbers. -/
def Has (w : World) (v : Value) (l : List Int) : Prop :=
  ∃ ao cap, v = .slice ao l.length cap ∧ l.length ≤ cap ∧ (l = [] ∨ ∃ g off, ao = some ⟨g, off, none⟩ ∧ ∀ j, j < l.length → w.cell? ⟨g, off + j, none⟩ = some (.int .i64 (l.getD j 0)))

theorem own_has {w : World} {B : Nat} {v : Value} {l : List Int} (h : Own w B v l) : Has w v l := by
  obtain ⟨⟨h0, h1⟩, h2⟩ := h
  rcases h1 with ⟨rfl, hn⟩ | ⟨g, cap, cur, rfl, hb, hg, hnc, hm, hcs, ht⟩
  · have : l = [] := List.eq_nil_of_length_eq_zero hn
    subst this
    exact ⟨none, 0, rfl, Nat.le_refl _, .inl rfl⟩
  · refine ⟨_, cap, rfl, hnc, .inr ⟨g, 0, rfl, fun j hj => ?_⟩⟩
    have e : w.ownsRow B 2 1 (.slice (some ⟨g, 0, none⟩) l.length cap) l.length (l.map (Value.int .i64)) := ⟨h0, .inr ⟨g, cap, cur, rfl, hb, hg, hnc, hm, hcs, ht⟩⟩
    rw [Nat.zero_add, e.cellAt j (by omega)]
    simp [List.getD, hj]

def lenOf : Value → Nat | .slice _ n _ => n | _ => 0

theorem below_drewN {B : Nat} {a w : World} (h : Below B a w) (n : Nat) : Below B a (w.drewN n) := h.trans ⟨rfl, rfl, rfl, Nat.le_refl _, fun _ _ => rfl⟩

theorem has_tail {w : World} {g o c : Nat} {x : Int} {r : List Int} (n : Nat) (hc : r.length + 1 ≤ c) (hcell : ∀ j, j < (x :: r).length → w.cell? ⟨g, o + j, none⟩ = some (.int .i64 ((x :: r).getD j 0))) :
    Has (w.drewN n) (.slice (if c = 1 then some ⟨g, o, none⟩ else some ⟨g, o + 1, none⟩) r.length (c - 1)) r := by
  refine ⟨_, _, rfl, by omega, ?_⟩
  by_cases h : c = 1
  · exact .inl (List.eq_nil_of_length_eq_zero (by omega))
  · refine .inr ⟨g, o + 1, by rw [if_neg h], fun j hj => ?_⟩
    have := hcell (j + 1) (by simp; omega)
    rw [show o + 1 + j = o + (j + 1) by omega]
    simpa using this
theorem has_drewN {w : World} {v : Value} {l : List Int} (h : Has w v l) (n : Nat) : Has (w.drewN n) v l := h
theorem tot_neg (l : List Int) (h : ∀ x ∈ l, x < 0) : tot l ≤ 0 := by
  induction l with
  | nil => simp [tot]
  | cons x r ih => have := ih (fun y hy => h y (by simp [hy])); have := h x (by simp); simp only [tot]; omega
theorem tot_not (l : List Int) (h : ∀ x ∈ l, 0 ≤ x) : 0 ≤ tot l := by
  induction l with
  | nil => simp [tot]
  | cons x r ih => have := ih (fun y hy => h y (by simp [hy])); have := h x (by simp); simp only [tot]; omega

set_option maxRecDepth 100000 in
set_option maxHeartbeats 2000000 in
theorem refSum_any (b off len cap : Nat) (zs : List Int) (w : World) (hreach : len * 8 ≤ 140737488351232) (hz : len ≤ zs.length) (hb : b < w.heap.size)
    (hc : ∀ j, j < zs.length → w.cell? ⟨b, off + j, none⟩ = some (.int .i64 (zs.getD j 0))) (hf : ∀ n ∈ zs, fits n = true) :
    Calls Tryz.prog 54 #[.slice (some ⟨b, off, none⟩) len cap] w fun e w' =>
      e = .returned (.tuple #[.int .i64 (nv (tot (zs.take len))), .int .i64 (ne (tot (zs.take len)))]) ∧ Below w.heap.size w w' := by
  obtain ⟨i0, hi, hz0, hz1, hz2⟩ := info_parts info2
  go_enter Tryz.func54, Tryz.ntmps54
  go_wp2
  go_loopw [4, 5, 6] (fun v u i wr => ∃ k : Nat, k ≤ len ∧ i = .int .i64 k ∧ Own wr w.heap.size v (lows zs k) ∧ Own wr w.heap.size u (highs zs k) ∧ Below w.heap.size w wr ∧ w.heap.size ≤ wr.heap.size)
    (fun _ _ i _ => len - (intOf i).toNat)
  case atStart => exact ⟨0, Nat.zero_le _, rfl, ⟨World.ownsRow_nil _ _ _ _, fun _ => rfl⟩, ⟨World.ownsRow_nil _ _ _ _, fun _ => rfl⟩, Below.refl _ _, Nat.le_refl _⟩
  case round =>
    obtain ⟨k, hk, rfl, hv, hu, hbel, hB⟩ := hrel
    by_cases hkl : k < len
    · have hcx : wr.cell? ⟨b, off + k, none⟩ = some (.int .i64 (zs.getD k 0)) := (hbel.cell (by exact hb)).trans (hc k (by omega))
      have hL := lows_le zs k
      have hH := highs_le zs k
      have hap := own_apart hv hu (lows_neg zs k) (highs_not zs k)
      by_cases hx : zs.getD k 0 < 0
      · have HL : Hid (lows zs (k + 1) = lows zs k ++ [zs.getD k 0] ∧ highs zs (k + 1) = highs zs k) := lows_hit zs k (by omega) hx
        have hap' : u5.ownBlock = none ∨ u5.ownBlock ≠ u4.ownBlock := by
          rcases hap with h | h
          · cases e : u5.ownBlock with
            | none => exact .inl rfl
            | some g => exact .inr (by rw [h]; simp)
          · exact .inr (fun e => h e.symm)
        obtain ⟨x, hxx⟩ : ∃ x, zs.getD k 0 = x := ⟨_, rfl⟩
        rw [hxx] at hcx HL hx
        clear hxx hc hf hap
        go_wp2_with (first
          | (at_builtin; refine wpList_append_own _ rfl _ _ 57 rfl w.heap.size 2 i0 (.int .i64 0) 1 8 Tryz.underlying57 hi hz0 hz1 hz2 rfl (by decide) _ _ _ rfl (hv.1.alloc _) ⟨wr.heap.size, 0, none⟩ 1 1 [.int .i64 x] rfl rfl (cell_one_new _ _ _) (by intro q hq; simp at hq; subst hq; rfl) (by unfold maxLen; omega) (by omega) (by simp; omega) ?_)
          | go_in)
        intro v' w1 hown' hgrow _
        have R := own_step hv hu hap' hbel hB hown' hgrow
        clear hown' hgrow hv hu hcx hap' hbel hB
        go_wp2
        go_roundw
        case rel => exact ⟨k + 1, by omega, by go_num, by rw [HL.out.1]; exact R.1, by rw [HL.out.2]; exact R.2.1, R.2.2.1, R.2.2.2⟩
        case measure => simp [intOf]; omega
      · have HL : Hid (highs zs (k + 1) = highs zs k ++ [zs.getD k 0] ∧ lows zs (k + 1) = lows zs k) := highs_hit zs k (by omega) hx
        obtain ⟨x, hxx⟩ : ∃ x, zs.getD k 0 = x := ⟨_, rfl⟩
        rw [hxx] at hcx HL hx
        clear hxx hc hf
        go_wp2_with (first
          | (at_builtin; refine wpList_append_own _ rfl _ _ 57 rfl w.heap.size 2 i0 (.int .i64 0) 1 8 Tryz.underlying57 hi hz0 hz1 hz2 rfl (by decide) _ _ _ rfl (hu.1.alloc _) ⟨wr.heap.size, 0, none⟩ 1 1 [.int .i64 x] rfl rfl (cell_one_new _ _ _) (by intro q hq; simp at hq; subst hq; rfl) (by unfold maxLen; omega) (by omega) (by simp; omega) ?_)
          | go_in)
        intro v' w1 hown' hgrow _
        have R := own_step hu hv hap hbel hB hown' hgrow
        clear hown' hgrow hv hu hcx hap hbel hB
        go_wp2
        go_roundw
        case rel => exact ⟨k + 1, by omega, by go_num, by rw [HL.out.2]; exact R.2.1, by rw [HL.out.1]; exact R.1, R.2.2.1, R.2.2.2⟩
        case measure => simp [intOf]; omega
    · have e1 : k = len := by omega
      subst e1
      have hv' := own_has hv
      have hu' := own_has hu
      have hT := tot_parts zs k
      have hl1 := lows_neg zs k
      have hl2 := highs_not zs k
      have hm1 : ∀ x ∈ lows zs k, fits x = true := fun x hx => hf x (lows_mem zs k x hx)
      have hm2 : ∀ x ∈ highs zs k, fits x = true := fun x hx => hf x (highs_mem zs k x hx)
      clear hc hf hv hu hb
      go_wp2
      go_loopw [4, 5, 7] (fun v u s wq => ∃ (r1 r2 : List Int) (t : Int), s = .int .i64 t ∧ fits t = true ∧ Has wq v r1 ∧ Has wq u r2 ∧ t + tot r1 + tot r2 = tot (zs.take k) ∧ (∀ x ∈ r1, x < 0) ∧ (∀ x ∈ r2, 0 ≤ x) ∧ (∀ x ∈ r1, fits x = true) ∧ (∀ x ∈ r2, fits x = true) ∧ Below w.heap.size w wq)
        (fun v u _ _ => lenOf v + lenOf u)
      case atStart => exact ⟨lows zs k, highs zs k, 0, rfl, by decide, hv', hu', by omega, hl1, hl2, hm1, hm2, hbel⟩
      case round =>
        clear hv' hu' hT hl1 hl2 hm1 hm2 hbel hB
        obtain ⟨r1, r2, t, rfl, ht, ⟨ao1, c1, rfl, hc1, hr1⟩, ⟨ao2, c2, rfl, hc2, hr2⟩, hS, hn1, hn2, hm1, hm2, hbel⟩ := hrel
        have HS : Hid (t + tot r1 + tot r2 = tot (zs.take k)) := hS
        clear hS
        cases r1 with
        | cons x r1 =>
          have fx := hm1 x (by simp)
          have gx := hn1 x (by simp)
          have bx := (fits_iff x).1 fx
          have bt := (fits_iff t).1 ht
          by_cases ht0 : 0 ≤ t
          · have fy : fits (t + x) = true := by rw [fits_iff]; omega
            obtain ⟨g, o, rfl, hcell⟩ : ∃ g off, ao1 = some ⟨g, off, none⟩ ∧ ∀ j, j < (x :: r1).length → wr.cell? ⟨g, off + j, none⟩ = some (.int .i64 ((x :: r1).getD j 0)) := by
              rcases hr1 with h | h
              · cases h
              · exact h
            have hx0 : wr.cell? ⟨g, o, none⟩ = some (.int .i64 x) := by simpa using hcell 0 (by simp)
            have e1 := nv_yes fy
            have e2 := ne_yes fy
            have e3 : r1.length + 1 ≤ c1 := by simpa using hc1
            go_wp2_with (go_at_call 77; refine (refAdd_any _ _ (by assumption) (by assumption) _).mono ?_; rintro e w' ⟨rfl, rfl⟩)
            go_quiet (fail)
            go_wp2
            go_roundw
            case rel => exact ⟨r1, r2, t + x, rfl, fy, has_tail nq e3 hcell, has_drewN ⟨_, _, rfl, hc2, hr2⟩ nq, by have := HS.out; simp only [tot] at this ⊢; omega, fun y hy => hn1 y (by simp [hy]), hn2, fun y hy => hm1 y (by simp [hy]), hm2, below_drewN hbel nq⟩
            case measure => simp [lenOf]
          · cases r2 with
            | cons y r2 =>
              have fx' := hm2 y (by simp)
              have gx' := hn2 y (by simp)
              have bx' := (fits_iff y).1 fx'
              have fy : fits (t + y) = true := by rw [fits_iff]; omega
              obtain ⟨g, o, rfl, hcell⟩ : ∃ g off, ao2 = some ⟨g, off, none⟩ ∧ ∀ j, j < (y :: r2).length → wr.cell? ⟨g, off + j, none⟩ = some (.int .i64 ((y :: r2).getD j 0)) := by
                rcases hr2 with h | h
                · cases h
                · exact h
              have hx0 : wr.cell? ⟨g, o, none⟩ = some (.int .i64 y) := by simpa using hcell 0 (by simp)
              have e1 := nv_yes fy
              have e2 := ne_yes fy
              have e3 : r2.length + 1 ≤ c2 := by simpa using hc2
              go_wp2_with (go_at_call 77; refine (refAdd_any _ _ (by assumption) (by assumption) _).mono ?_; rintro e w' ⟨rfl, rfl⟩)
              go_quiet (fail)
              go_wp2
              go_roundw
              case rel => exact ⟨(x :: r1), r2, t + y, rfl, fy, has_drewN ⟨_, _, rfl, hc1, hr1⟩ nq, has_tail nq e3 hcell, by have := HS.out; simp only [tot] at this ⊢; omega, hn1, fun z hz => hn2 z (by simp [hz]), hm1, fun z hz => hm2 z (by simp [hz]), below_drewN hbel nq⟩
              case measure => simp [lenOf]
            | nil =>
              clear hr2
              obtain ⟨g, o, rfl, hcell⟩ : ∃ g off, ao1 = some ⟨g, off, none⟩ ∧ ∀ j, j < (x :: r1).length → wr.cell? ⟨g, off + j, none⟩ = some (.int .i64 ((x :: r1).getD j 0)) := by
                rcases hr1 with h | h
                · cases h
                · exact h
              have hx0 : wr.cell? ⟨g, o, none⟩ = some (.int .i64 x) := by simpa using hcell 0 (by simp)
              rcases Bool.eq_false_or_eq_true (fits (t + x)) with fy | fy
              · skip
                have e1 := nv_yes fy
                have e2 := ne_yes fy
                have e3 : r1.length + 1 ≤ c1 := by simpa using hc1
                go_wp2_with (go_at_call 77; refine (refAdd_any _ _ (by assumption) (by assumption) _).mono ?_; rintro e w' ⟨rfl, rfl⟩)
                go_quiet (fail)
                go_wp2
                go_roundw
                case rel => exact ⟨r1, [], t + x, rfl, fy, has_tail nq e3 hcell, has_drewN ⟨_, _, rfl, hc2, .inl rfl⟩ nq, by have := HS.out; simp only [tot] at this ⊢; omega, fun y hy => hn1 y (by simp [hy]), hn2, fun y hy => hm1 y (by simp [hy]), hm2, below_drewN hbel nq⟩
                case measure => simp [lenOf]
              · have hno : fits (tot (zs.take k)) = false := by
                  have h1 := HS.out
                  have h2 := tot_neg r1 (fun y hy => hn1 y (by simp [hy]))
                  have h3 := (fits_not _).1 fy
                  rw [fits_not]; simp only [tot] at h1; omega
                have e1 := nv_no fy
                have e2 := ne_no fy
                have q1 := nv_no hno
                have q2 := ne_no hno
                clear hno
                go_wp2_with (go_at_call 77; refine (refAdd_any _ _ (by assumption) (by assumption) _).mono ?_; rintro e w' ⟨rfl, rfl⟩)
                go_ret2
                rw [q1, q2]
                exact ⟨rfl, hbel⟩
        | nil =>
          have bt := (fits_iff t).1 ht
          clear hr1
          cases r2 with
          | cons y r2 =>
            have fx' := hm2 y (by simp)
            have gx' := hn2 y (by simp)
            have bx' := (fits_iff y).1 fx'
            obtain ⟨g, o, rfl, hcell⟩ : ∃ g off, ao2 = some ⟨g, off, none⟩ ∧ ∀ j, j < (y :: r2).length → wr.cell? ⟨g, off + j, none⟩ = some (.int .i64 ((y :: r2).getD j 0)) := by
              rcases hr2 with h | h
              · cases h
              · exact h
            have hx0 : wr.cell? ⟨g, o, none⟩ = some (.int .i64 y) := by simpa using hcell 0 (by simp)
            rcases Bool.eq_false_or_eq_true (fits (t + y)) with fy | fy
            · skip
              have e1 := nv_yes fy
              have e2 := ne_yes fy
              have e3 : r2.length + 1 ≤ c2 := by simpa using hc2
              go_wp2_with (go_at_call 77; refine (refAdd_any _ _ (by assumption) (by assumption) _).mono ?_; rintro e w' ⟨rfl, rfl⟩)
              go_quiet (fail)
              go_wp2
              go_roundw
              case rel => exact ⟨[], r2, t + y, rfl, fy, has_drewN ⟨_, _, rfl, hc1, .inl rfl⟩ nq, has_tail nq e3 hcell, by have := HS.out; simp only [tot] at this ⊢; omega, hn1, fun z hz => hn2 z (by simp [hz]), hm1, fun z hz => hm2 z (by simp [hz]), below_drewN hbel nq⟩
              case measure => simp [lenOf]
            · have hno : fits (tot (zs.take k)) = false := by
                have h1 := HS.out
                have h2 := tot_not r2 (fun z hz => hn2 z (by simp [hz]))
                have h3 := (fits_not _).1 fy
                rw [fits_not]; simp only [tot] at h1; omega
              have e1 := nv_no fy
              have e2 := ne_no fy
              have q1 := nv_no hno
              have q2 := ne_no hno
              clear hno
              go_wp2_with (go_at_call 77; refine (refAdd_any _ _ (by assumption) (by assumption) _).mono ?_; rintro e w' ⟨rfl, rfl⟩)
              go_ret2
              rw [q1, q2]
              exact ⟨rfl, hbel⟩
          | nil =>
            have q0 : tot (zs.take k) = t := by have := HS.out; simp only [tot] at this; omega
            have q1 : nv (tot (zs.take k)) = t := by rw [q0]; exact nv_yes ht
            have q2 : ne (tot (zs.take k)) = 0 := by rw [q0]; exact ne_yes ht
            clear q0
            go_wp2
            go_ret2
            exact ⟨rfl, hbel⟩

/-- A slice without elements, a nil one too. -/
theorem refSum_none (a : Option Addr) (cap : Nat) (w : World) :
    Calls Tryz.prog 54 #[.slice a 0 cap] w fun e w' => e = .returned (.tuple #[.int .i64 0, .int .i64 0]) ∧ w' = w := by
  go_enter Tryz.func54, Tryz.ntmps54
  go_wp2
  refine wp_loop_rounds 1 ?_
  rw [rounds_succ]
  go_wp2
  refine wp_loop_rounds 1 ?_
  rw [rounds_succ]
  go_wp2
  go_ret2
  exact ⟨rfl, rfl⟩
end Go.Proofs.YtbicodlclmdgaaaGreatDoor.sums
