/-
  The reader of package value, open or not, and whatever is wrong: keys, room for the greatest key.
-/
import Derived.Test.YtbicodlclmdgaaaGreatDoorRoI
namespace Go.Proofs.YtbicodlclmdgaaaGreatDoor
open Go.RowKit
set_option linter.unusedVariables false      -- a walk need not use every condition

set_option maxHeartbeats 2000000 in
set_option maxRecDepth 20000 in
theorem key118o (T : ByteArray) (n d : Nat) (hv : RV T n d) (w : World) (r p : Nat) (o : Bool) (k : Nat) (h : Ro w r T p o k) (hp : p ≤ T.size) (hk : k + n ≤ 99) :
    Calls Tryz.prog 118 #[.pointer (some ⟨r, 0, none⟩), .int .i64 d] w (Comes r T o w (pVal n (rest T p)) (Vl r T p o k w)) := by
  have hrl := h.lt
  obtain ⟨c0, c1, c2, c3, cf⟩ := h.cells
  have hR2 := ((Rq.refl h).keys (k + 1))
  have hsz : (w.setCell ⟨r, 3, none⟩ (.int .i64 ((k : Int) + 1))).heap.size = w.heap.size := by simp [World.setCell]
  obtain ⟨w2, hw2⟩ : ∃ w2, w2 = (w.setCell ⟨r, 3, none⟩ (.int .i64 ((k : Int) + 1))).alloc (.cells #[.int .i64 0, .int .i64 0, .string ⟨#[]⟩, .slice none 0 0] 24) := ⟨_, rfl⟩
  have hblk : w2.heap[w.heap.size]? = some (.cells #[.int .i64 0, .int .i64 0, .string ⟨#[]⟩, .slice none 0 0] 24) := by
    have := blk_new (w.setCell ⟨r, 3, none⟩ (.int .i64 ((k : Int) + 1))) (.cells #[.int .i64 0, .int .i64 0, .string ⟨#[]⟩, .slice none 0 0] 24)
    rw [hsz] at this
    rw [hw2]; exact this
  have hsz2 : w2.heap.size = w.heap.size + 1 := by rw [hw2]; simp [hsz]
  have hR2' : Rq r T p o (k + 1) w w2 := by
    rw [hw2]
    exact hR2.far (World.grownBy_alloc _ _ none) hrl (fun _ e => by cases e)
  have c79 := hv _ r p o (k + 1) hR2'.2 hp (by omega)
  unfold Vl V.agg at c79
  have j1 : IntKind.i64.wrap ((k : Int) + 1) = (k : Int) + 1 := by rw [IntKind.wrap_i64]; omega
  have j2 : IntKind.i64.wrap ((k : Int) + 1 - 1) = (k : Int) := by rw [IntKind.wrap_i64]; omega
  have j3 : IntKind.i64.wrap (k : Int) = (k : Int) := by rw [IntKind.wrap_i64]; omega
  go_enter Tryz.func118, Tryz.ntmps118
  go_wp2_with (go_at_call 79; rw [← hw2]; refine c79.mono ?_; rintro e w3 (⟨v, p', hp', ⟨sl, rfl, hin3, hle3, hlt3, h3⟩, hs3⟩ | ⟨⟨q2, hq2, rfl, hg⟩, hs3⟩); (try (obtain ⟨p3, n3, q3, rfl⟩ := hin3.header; obtain ⟨e0, e1, e2, e3, ef⟩ := h3.2.cells; rw [show ((k + 1 : Nat) : Int) = (k : Int) + 1 by omega] at e3; have hR3 := hR2'.trans h3; have hl1 := h3.2.lt; have hl2 : w.heap.size < w3.heap.size := (by have := h3.1.size; omega); obtain ⟨y0, y1, y2, y3, yf⟩ := four_of ((h3.1.block w.heap.size (by omega) (by intro e; injection e with e; omega)).trans hblk))))
  case inr => exact ⟨rfl, .inr ⟨⟨q2, hq2, rfl, hR2'.1.trans hg⟩, hs3⟩⟩
  have hfin := ((hR3.keys k).put hrl (Nat.le_refl _) 0 (.int .i64 v.k) (.int .i64 v.n) (.string v.s) (.slice p3 n3 q3)).far (World.grownBy_alloc _ (.cells #[.int .i64 v.k, .int .i64 v.n, .string v.s, .slice p3 n3 q3] 24) none) hrl (fun _ e => by cases e)
  have hin9 : v.In (put4 (w3.setCell ⟨r, 3, none⟩ (.int .i64 k)) w.heap.size 0 (.int .i64 v.k) (.int .i64 v.n) (.string v.s) (.slice p3 n3 q3)) w.heap.size (.slice p3 n3 q3) :=
    V.In.keep (lo := w2.heap.size) (fun a u ha hc => set_other (set_other (set_other (set_other (set_other hc (.inl (by omega))) (.inl (by omega))) (.inl (by omega))) (.inl (by omega))) (.inl (by omega))) (by omega) v _ hin3
  have hin8 := hin9.on (bel1 _ (.cells #[.int .i64 v.k, .int .i64 v.n, .string v.s, .slice p3 n3 q3] 24))
  unfold put4 at hfin hin8
  have z0 : (((((w3.setCell ⟨r, 3, none⟩ (.int .i64 k)).setCell ⟨w.heap.size, 0, none⟩ (.int .i64 v.k)).setCell ⟨w.heap.size, 1, none⟩ (.int .i64 v.n)).setCell ⟨w.heap.size, 2, none⟩ (.string v.s)).setCell ⟨w.heap.size, 3, none⟩ (.slice p3 n3 q3)).heap.size = w3.heap.size := by simp [World.setCell]
  simp [bodyPost, results, Tryz.results118, go_sem, y0, y1, y2, y3, hl2]
  exact .inl ⟨v, p', hp', ⟨_, rfl, hin8, hle3, hlt3, hfin⟩, hs3⟩

theorem bel_drewN (w : World) (n : Nat) : Below w.heap.size w (w.drewN n) := ⟨rfl, rfl, rfl, Nat.le_refl _, fun _ _ => rfl⟩
theorem V.In.drew {w : World} {lo : Nat} {v : V} {sl : Value} (h : v.In w lo sl) : v.In w.drew lo sl := V.In.keep (w := w) (w' := w.drew) (lo := lo) (lo' := lo) (fun _ _ _ hc => hc) (Nat.le_refl _) v sl h
theorem great_in (w : World) : vGreat.In w 0 (.slice none 0 0) := in_plain (by unfold I64; omega) (by unfold I64; omega) (by show (0 : Nat) ≤ _; omega) w 0
set_option maxHeartbeats 2000000 in
set_option maxRecDepth 20000 in
theorem room119 (l : List V) (pv : Option Addr) (cv : Nat) (w : World) (hS : Sl w 0 l (.slice pv l.length cv)) (h2 : l.length % 2 = 0) :
    Calls Tryz.prog 119 #[.slice pv l.length cv] w fun e w' => ∃ b, e = .returned (.bool b) ∧ Below w.heap.size w w' := by
  obtain ⟨p, cap, he, hc, hcm, h56, hx⟩ := hS
  injection he with e1 e2 e3
  subst e1 e3
  unfold maxLen at hcm
  by_cases h0 : l.length = 0
  · have i1 : ((l.length : Int) == 0) = true := by rw [h0]; rfl
    go_enter Tryz.func119, Tryz.ntmps119
    go_wp2
    go_quiet (fail)
    go_wp2
    go_ret
    exact ⟨true, rfl, bel_drewN w _⟩
  · have i1 : ((l.length : Int) == 0) = false := beq_eq_false_iff_ne.2 (by omega)
    by_cases h5 : l.length < 512
    · obtain ⟨m, hm⟩ : ∃ m, l.length = m + 2 := ⟨l.length - 2, by omega⟩
      obtain ⟨b, o, rfl, -, hL⟩ := hx.resolve_left (by intro e; rw [e] at h0; exact h0 rfl)
      obtain ⟨sx, k0, k1, k2, k3, hin⟩ := hL.at m (by omega)
      obtain ⟨px, nx, qx, rfl⟩ := hin.header
      have i2 : decide ((l.length : Int) < 512) = true := decide_eq_true (by omega)
      have i3 : (l.length : Int) < 512 := by omega
      have i4 : IntKind.i64.wrap ((l.length : Int) - 2) = (m : Int) := by rw [IntKind.wrap_i64]; omega
      have i5 : (m : Int) < (l.length : Int) := by omega
      generalize l[m] = X at *
      obtain ⟨C, hC⟩ : ∃ C, Hid (C = X.cmp vGreat) := ⟨_, rfl⟩
      have c28 : ∀ w, X.In w 0 (.slice px nx qx) → Calls Tryz.prog 28 #[.agg #[.int .i64 X.k, .int .i64 X.n, .string X.s, .slice px nx qx], .agg #[.int .i64 7, .int .i64 281474976710656, .string ⟨#[]⟩, .slice none 0 0]] w fun e w' => e = .returned (.int .i64 C) ∧ Below w.heap.size w w' := fun w hX => by
        rw [hC.out]; exact cmp_any X vGreat _ _ w hX (great_in w)
      clear hL hx h0 hm
      go_enter Tryz.func119, Tryz.ntmps119
      go_wp2
      go_region_held3 (fun w' => w'.cell? ⟨b, o + m * 4, none⟩ = some (.int .i64 X.k) ∧ w'.cell? ⟨b, o + m * 4 + 1, none⟩ = some (.int .i64 X.n) ∧ w'.cell? ⟨b, o + m * 4 + 2, none⟩ = some (.string X.s) ∧ w'.cell? ⟨b, o + m * 4 + 3, none⟩ = some (.slice px nx qx))
        (first | exact ⟨k0, k1, k2, k3⟩ | exact ⟨some_on hb4 k0, some_on hb4 k1, some_on hb4 k2, some_on hb4 k3⟩ | exact ⟨some_on hb5 (some_on hb4 k0), some_on hb5 (some_on hb4 k1), some_on hb5 (some_on hb4 k2), some_on hb5 (some_on hb4 k3)⟩)
        (first
          | (go_at_call 97; refine (greatest97 _).mono ?_; rintro e w4 ⟨rfl, hb4⟩)
          | (go_at_call 28; refine (c28 _ (hin.drew.on hb4)).mono ?_; rintro e w5 ⟨rfl, hb5⟩))
      go_wp2
      go_ret
      exact ⟨_, rfl, (bel_drewN w 1).trans (hb4.trans (hb5.mono hb4.size))⟩
    · have i2 : decide ((l.length : Int) < 512) = false := decide_eq_false (by omega)
      go_enter Tryz.func119, Tryz.ntmps119
      go_wp2
      go_quiet (fail)
      go_wp2
      go_ret
      exact ⟨false, rfl, bel_drewN w _⟩
end Go.Proofs.YtbicodlclmdgaaaGreatDoor
