/-
  What a crash leaves, as mathematics; an array of eight sectors in memory.
-/
import Derived.Test.YtifnjidechbjlaaBegun
import Derived.Test.YtifnjidechbjlaaCont
namespace Go.Proofs.Ytifnjidechbjlaa
open Go.RowKit Go.Maps

/-! ### While it is written -/

/-- A disk of eight sectors, whole and with power, of which f is what was written last, g what stays. -/
structure Wr (s : Dsk) (f g : Nat → List UInt8) : Prop where
  N : s.N = 8
  down : s.down = false
  fuse : s.fuse = 0
  tn : ∀ k, k < 8 → s.tn k = false
  f : ∀ k, k < 8 → f k = (s.ca k).getD (s.st k)
  g : ∀ k, k < 8 → s.st k = g k
theorem Wr.call {s : Dsk} {f g : Nat → List UInt8} (h : Wr s f g) : s.call = (0, { s with calls := wrap64 (s.calls + 1) }) := by
  unfold Dsk.call
  rw [if_neg (by rw [h.fuse]; decide), if_neg (by rw [h.fuse]; decide)]
theorem Wr.start : Wr (made 8) (fun _ => zer) (fun _ => zer) := ⟨rfl, rfl, rfl, fun _ _ => rfl, fun _ _ => rfl, fun _ _ => rfl⟩
theorem Wr.reach {s : Dsk} {f g : Nat → List UInt8} (h : Wr s f g) (n : Int) : s.reach n = if 0 ≤ n ∧ n < 8 then 0 else 41 := by
  unfold Dsk.reach Dsk.hasB
  rw [h.down, h.N]
  by_cases h0 : 0 ≤ n <;> by_cases h1 : n < 8 <;> simp [h0, h1]
/-- A write of a sector that is not there. -/
theorem Wr.miss {s : Dsk} {f g : Nat → List UInt8} (h : Wr s f g) {n : Int} (hn : ¬ (0 ≤ n ∧ n < 8)) (bs : List UInt8) : s.write n bs = (41, s) := by
  unfold Dsk.write
  rw [h.reach, if_neg hn, if_pos (by decide)]
theorem Wr.hit {s : Dsk} {f g : Nat → List UInt8} (h : Wr s f g) {k : Nat} (hk : k < 8) (bs : List UInt8) : (s.write k bs).1 = 0 ∧ Wr (s.write k bs).2 (upd f k bs) g := by
  have e : s.write k bs = (0, { s.call.2 with ca := upd s.call.2.ca k (some bs) }) := by
    have hr : s.reach (k : Int) = 0 := by rw [h.reach, if_pos ⟨by omega, by omega⟩]
    have hc : s.call.1 = 0 := by rw [h.call]
    unfold Dsk.write
    rw [if_neg (fun e => e hr), if_neg (fun e => e hc), Int.toNat_natCast]
  rw [e, h.call]
  refine ⟨rfl, h.N, h.down, h.fuse, h.tn, fun j hj => ?_, h.g⟩
  by_cases e : j = k
  · subst e; simp [upd]
  · simp only [upd, if_neg e]; exact h.f j hj
theorem Wr.flush {s : Dsk} {f g : Nat → List UInt8} (h : Wr s f g) : s.flush.1 = 0 ∧ Wr s.flush.2 f f := by
  have e : s.flush = (0, s.call.2.flushed) := by
    unfold Dsk.flush
    rw [h.down, h.call]
    rfl
  rw [e, h.call]
  refine ⟨rfl, h.N, h.down, h.fuse, fun k hk => ?_, fun k hk => ?_, fun k hk => ?_⟩
  · show (match s.ca k with | some _ => false | none => s.tn k) = false
    cases s.ca k with
    | none => exact h.tn k hk
    | some bs => rfl
  · show f k = (none : Option (List UInt8)).getD (match s.ca k with | some bs => bs | none => s.st k)
    rw [h.f k hk]
    cases s.ca k <;> rfl
  · show (match s.ca k with | some bs => bs | none => s.st k) = f k
    rw [h.f k hk]
    cases s.ca k <;> rfl

/-! ### Behind the crash -/

/-- What is left: L were dirty, T is torn. -/
structure Lf (s : Dsk) (f g : Nat → List UInt8) (L : List Nat) (T : Option Nat) : Prop where
  N : s.N = 8
  down : s.down = false
  fuse : s.fuse = 0
  tn : ∀ k, k < 8 → (s.tn k = true ↔ T = some k)
  st : ∀ k, k < 8 → s.tn k = false → s.st k = g k ∨ (s.st k = f k ∧ k ∈ L)
  dirty : ∀ k, T = some k → k ∈ L
  ca : ∀ k, k < 8 → s.ca k = none
theorem dirty_none {s : Dsk} (h : ∀ k, k < s.N → s.ca k = none) : s.dirty = [] := by
  apply List.eq_nil_iff_forall_not_mem.2
  intro k hk
  obtain ⟨h1, h2⟩ := mem_dirty.1 hk
  rw [h k h1] at h2
  cases h2
theorem decide_none {s : Dsk} (h : ∀ k, k < s.N → s.ca k = none) (kb : List Bool) (t : Int) : s.decide kb t = s := by
  unfold Dsk.decide
  rw [dirty_none h]
  have e1 : s.dec kb ([] : List Nat).length = s := dec_zero s kb
  have e2 : keptTo kb [] ([] : List Nat).length = [] := rfl
  rw [e1, e2]
  unfold Dsk.tear
  rw [if_neg (by simp)]
theorem Wr.crash {s : Dsk} {f g : Nat → List UInt8} (h : Wr s f g) (kb : List Bool) (t : Int) :
    (s.crash kb t).1 = 0 ∧ ((s.crash kb t).2.start [] 0).1 = 0 ∧ ∃ T, Lf ((s.crash kb t).2.start [] 0).2 f g s.dirty T := by
  have e1 : s.crash kb t = (0, { s.decide kb t with down := true }) := by unfold Dsk.crash; rw [h.down]; rfl
  have hN : (s.decide kb t).N = 8 := by
    unfold Dsk.decide Dsk.tear
    split <;> exact h.N
  have hca : ∀ k, k < 8 → (s.decide kb t).ca k = none := by
    intro k hk
    have e : (s.decide kb t).ca k = if k ∈ s.dirty then none else s.ca k := by
      have e' : (s.decide kb t).ca = (s.dec kb s.dirty.length).ca := by unfold Dsk.decide Dsk.tear; split <;> rfl
      rw [e']
      show (if k ∈ s.dirty.take s.dirty.length then none else s.ca k) = _
      rw [List.take_length]
    rw [e]
    by_cases hm : k ∈ s.dirty
    · rw [if_pos hm]
    · rw [if_neg hm]
      cases hc : s.ca k with
      | none => rfl
      | some bs => exact absurd (mem_dirty.2 ⟨by rw [h.N]; exact hk, by rw [hc]; rfl⟩) hm
  have e2 : ({ s.decide kb t with down := true } : Dsk).start [] 0 = (0, { s.decide kb t with down := false }) := by
    unfold Dsk.start
    rw [decide_none (s := { s.decide kb t with down := true }) (fun k hk => hca k (by rw [← hN]; exact hk))]
    rfl
  rw [e1]
  refine ⟨rfl, by rw [e2], ?_⟩
  rw [e2]
  have hfu : (s.decide kb t).fuse = 0 := by
    unfold Dsk.decide Dsk.tear
    split <;> exact h.fuse
  have hd1 : ∀ k, k < 8 → (s.dec kb s.dirty.length).tn k = false := by
    intro k hk
    show (if k ∈ keptTo kb s.dirty s.dirty.length then false else s.tn k) = false
    split
    · rfl
    · exact h.tn k hk
  have hd2 : ∀ k, k < 8 → (s.dec kb s.dirty.length).st k = g k ∨ ((s.dec kb s.dirty.length).st k = f k ∧ k ∈ s.dirty) := by
    intro k hk
    show (if k ∈ keptTo kb s.dirty s.dirty.length then (s.ca k).getD (s.st k) else s.st k) = g k ∨ ((if k ∈ keptTo kb s.dirty s.dirty.length then (s.ca k).getD (s.st k) else s.st k) = f k ∧ k ∈ s.dirty)
    by_cases hm : k ∈ keptTo kb s.dirty s.dirty.length
    · rw [if_pos hm]
      exact .inr ⟨(h.f k hk).symm, kept_mem hm (Nat.le_refl _)⟩
    · rw [if_neg hm]
      exact .inl (h.g k hk)
  by_cases ht : 0 ≤ t ∧ t < (keptTo kb s.dirty s.dirty.length).length
  · have hm : t.toNat < (keptTo kb s.dirty s.dirty.length).length := by omega
    have hq : (keptTo kb s.dirty s.dirty.length).getD t.toNat 0 ∈ s.dirty := by
      rw [List.getD_eq_getElem?_getD, List.getElem?_eq_getElem hm]
      exact kept_mem (List.getElem_mem hm) (Nat.le_refl _)
    have e : s.decide kb t = { s.dec kb s.dirty.length with st := upd (s.dec kb s.dirty.length).st ((keptTo kb s.dirty s.dirty.length).getD t.toNat 0) zer, tn := upd (s.dec kb s.dirty.length).tn ((keptTo kb s.dirty s.dirty.length).getD t.toNat 0) true } := by
      unfold Dsk.decide Dsk.tear
      rw [if_pos ht]
    generalize (keptTo kb s.dirty s.dirty.length).getD t.toNat 0 = q at *
    refine ⟨some q, hN, rfl, hfu, fun k hk => ?_, fun k hk htn => ?_, fun k hk => by injection hk with hk; subst hk; exact hq, hca⟩
    · show (s.decide kb t).tn k = true ↔ _
      rw [e]
      show upd (s.dec kb s.dirty.length).tn q true k = true ↔ _
      unfold upd
      by_cases hkq : k = q
      · simp [hkq]
      · rw [if_neg hkq, hd1 k hk]
        simp
        exact fun h => hkq h.symm
    · have htn' : (s.decide kb t).tn k = false := htn
      show (s.decide kb t).st k = g k ∨ ((s.decide kb t).st k = f k ∧ k ∈ s.dirty)
      rw [e] at htn' ⊢
      have hkq : k ≠ q := by
        rintro rfl
        simp [upd] at htn'
      simp only [upd, if_neg hkq]
      exact hd2 k hk
  · have e : s.decide kb t = s.dec kb s.dirty.length := by
      unfold Dsk.decide Dsk.tear
      rw [if_neg ht]
    refine ⟨none, hN, rfl, hfu, fun k hk => ?_, fun k hk htn => ?_, fun k hk => (by cases hk), hca⟩
    · show (s.decide kb t).tn k = true ↔ _
      rw [e, hd1 k hk]
      simp
    · show (s.decide kb t).st k = g k ∨ ((s.decide kb t).st k = f k ∧ k ∈ s.dirty)
      rw [e]
      exact hd2 k hk
end Go.Proofs.Ytifnjidechbjlaa
