/-
  What the reader of package value does with a value that is a string, a truth, a number, and with a key, where nothing is wrong.
-/
import Derived.Test.YtbicodlclmdgaaaGreatDoorRdrC
namespace Go.Proofs.YtbicodlclmdgaaaGreatDoor
open Go.RowKit

/-- At p, so deep, v is read, to p'. -/
def Reads (T : ByteArray) (d : Int) (p : Nat) (v : V) (p' : Nat) : Prop := ∀ (w : World) (r k : Nat), Rd w r T p k →
  Calls Tryz.prog 79 #[.pointer (some ⟨r, 0, none⟩), .int .i64 d] w fun e w' => ∃ sl, e = .returned (v.agg sl) ∧ v.In w' w.heap.size sl ∧ Rp r T p' k w w'
theorem in_plain {k n : Int} {s : ByteArray} (hk : I64 k) (hn : I64 n) (hs : s.size ≤ 140737488351232) (w : World) (lo : Nat) : (V.mk k n s []).In w lo (.slice none 0 0) := by
  rw [V.in_iff]
  exact ⟨hk, hn, hs, none, 0, rfl, Nat.le_refl _, by unfold maxLen; omega, by simp [V.l], .inl rfl⟩

set_option maxHeartbeats 2000000 in
theorem reads_str (T : ByteArray) (d : Int) (p : Nat) (hd : d ≤ 8) (X : List UInt8) (hX : Plain X) (hs : Has T p (39 :: (X ++ [39]))) (hT : T.size ≤ 140737488351232) : Reads T d p (.mk 2 0 ⟨X.toArray⟩ []) (p + X.length + 2) := by
  intro w r k h
  have hTm : T.size ≤ maxLen := by unfold maxLen; omega
  have hrl := h.lt
  obtain ⟨hp, hb⟩ := hs.head
  have hXs : X.length ≤ T.size := by obtain ⟨hq9, -⟩ := (hs.tail.right).head; omega
  have hin := fun W => in_plain (k := 2) (n := 0) (s := ⟨X.toArray⟩) (by unfold I64; omega) (by unfold I64; omega) (by show X.toArray.size ≤ _; simp; omega) W w.heap.size
  have c98 := fun w h => str98 w r T p k h X hX hs hT
  clear hs
  obtain ⟨w1, hw1⟩ : ∃ w1, w1 = w.alloc (.cells #[.int .i64 0, .int .i64 0, .string ⟨#[]⟩, .slice none 0 0] 24) := ⟨_, rfl⟩
  have hblk : w1.heap[w.heap.size]? = some (.cells #[.int .i64 0, .int .i64 0, .string ⟨#[]⟩, .slice none 0 0] 24) := by rw [hw1]; exact blk_new w _
  have hsz1 : w1.heap.size = w.heap.size + 1 := by rw [hw1]; simp
  have hR1 : Rd w1 r T p k := by rw [hw1]; exact h.alloc _
  have c96 := cut_no w1 r T p k hR1 hp
  have hbn : (T[p].toNat : Int) = 39 := by rw [hb]; rfl
  have hd' : ¬ (8 : Int) < d := by omega
  clear hb
  unfold V.agg
  simp only [V.k, V.n, V.s]
  go_enter Tryz.func79, Tryz.ntmps79
  go_wp2_with (go_at_call 96; rw [← hw1]; refine c96.mono ?_; rintro e w2 ⟨rfl, h2⟩; obtain ⟨c0, c1, c2, c3, cf⟩ := h2.2.cells)
  go_region
  go_wp2_with (go_at_call 98; refine (c98 _ h2.dr.2).mono ?_; rintro e w4 ⟨rfl, h4⟩; have hR4 := h2.dr.trans h4; obtain ⟨y0, y1, y2, y3, yf⟩ := four_of ((hR4.1.block w.heap.size (by omega) (by intro e; injection e with e; omega)).trans hblk))
  rw [hw1] at hR4
  have hfin := hR4.low.put hrl (Nat.le_refl _) 0 (.int .i64 2) (.int .i64 0) (.string ⟨X.toArray⟩) (.slice none 0 0)
  have hin9 := hin (put4 w4 w.heap.size 0 (.int .i64 2) (.int .i64 0) (.string ⟨X.toArray⟩) (.slice none 0 0))
  unfold put4 at hfin hin9
  simp [bodyPost, results, Tryz.results79, go_sem, y0, y1, y2, y3]
  exact ⟨hin9, hfin⟩

set_option maxHeartbeats 2000000 in
theorem reads_true (T : ByteArray) (d : Int) (p : Nat) (hd : d ≤ 8) (hs : Has T p [116, 114, 117, 101]) (hT : T.size ≤ 140737488351232) : Reads T d p (.mk 3 1 ⟨#[]⟩ []) (p + 4) := by
  intro w r k h
  have hTm : T.size ≤ maxLen := by unfold maxLen; omega
  have hrl := h.lt
  obtain ⟨hp, hb⟩ := hs.head
  have hin := fun W => in_plain (k := 3) (n := 1) (s := ⟨#[]⟩) (by unfold I64; omega) (by unfold I64; omega) (by show (0 : Nat) ≤ _; omega) W w.heap.size
  have c99 := fun w h => word99 w r T ⟨#[116, 114, 117, 101]⟩ p k h hs hTm
  clear hs
  obtain ⟨w1, hw1⟩ : ∃ w1, w1 = w.alloc (.cells #[.int .i64 0, .int .i64 0, .string ⟨#[]⟩, .slice none 0 0] 24) := ⟨_, rfl⟩
  have hblk : w1.heap[w.heap.size]? = some (.cells #[.int .i64 0, .int .i64 0, .string ⟨#[]⟩, .slice none 0 0] 24) := by rw [hw1]; exact blk_new w _
  have hsz1 : w1.heap.size = w.heap.size + 1 := by rw [hw1]; simp
  have hR1 : Rd w1 r T p k := by rw [hw1]; exact h.alloc _
  have c96 := cut_no w1 r T p k hR1 hp
  have hbn : (T[p].toNat : Int) = 116 := by rw [hb]; rfl
  have hd' : ¬ (8 : Int) < d := by omega
  clear hb
  unfold V.agg
  simp only [V.k, V.n, V.s]
  go_enter Tryz.func79, Tryz.ntmps79
  go_wp2_with (go_at_call 96; rw [← hw1]; refine c96.mono ?_; rintro e w2 ⟨rfl, h2⟩; obtain ⟨c0, c1, c2, c3, cf⟩ := h2.2.cells)
  go_region
  go_wp2_with (first
    | (go_at_call 99; refine (c99 _ h2.dr.2).mono ?_; rintro e w3 ⟨rfl, h3⟩)
    | (go_at_call 24; refine (bool24 true _).mono ?_; rintro e w4 ⟨rfl, hb4⟩; have hR4 := (h2.dr.trans h3).far (gr_bel hb4 none) (by omega) (fun _ e => by cases e); obtain ⟨y0, y1, y2, y3, yf⟩ := four_of ((hR4.1.block w.heap.size (by omega) (by intro e; injection e with e; omega)).trans hblk)))
  rw [hw1] at hR4
  have hfin := hR4.low.put hrl (Nat.le_refl _) 0 (.int .i64 3) (.int .i64 1) (.string ⟨#[]⟩) (.slice none 0 0)
  have hin9 := hin (put4 w4 w.heap.size 0 (.int .i64 3) (.int .i64 1) (.string ⟨#[]⟩) (.slice none 0 0))
  unfold put4 at hfin hin9
  simp [bodyPost, results, Tryz.results79, go_sem, y0, y1, y2, y3]
  exact ⟨hin9, hfin⟩

set_option maxHeartbeats 2000000 in
theorem reads_num (T : ByteArray) (d : Int) (p m : Nat) (hd : d ≤ 8) (hm : 0 < m) (hdg : ∀ j, j < m → Dig T (p + j)) (hok : ∀ j, j < m → form (sub T p (p + j + 1)) = true ∧ fits (sval (sub T p (p + j + 1))) = true)
    (hend : NoDig T (p + m)) (hT : T.size ≤ 140737488351232) : Reads T d p (.mk 1 (sval (sub T p (p + m))) ⟨#[]⟩ []) (p + m) := by
  intro w r k h
  have hTm : T.size ≤ maxLen := by unfold maxLen; omega
  have hrl := h.lt
  have hN : I64 (sval (sub T p (p + m))) := by
    have := (hok (m - 1) (by omega)).2
    rw [show p + (m - 1) + 1 = p + m by omega, fits_iff] at this
    exact this
  obtain ⟨hp, d1, d2⟩ := hdg 0 hm
  simp only [Nat.add_zero] at hp d1 d2
  have c103 := fun w h => number_plain w r T p k m h hm hdg hok hend hT 9223372036854775807
  generalize sval (sub T p (p + m)) = N at *
  have hin := fun W => in_plain (k := 1) (n := N) (s := ⟨#[]⟩) (by unfold I64; omega) hN (by show (0 : Nat) ≤ _; omega) W w.heap.size
  clear hdg hok
  obtain ⟨w1, hw1⟩ : ∃ w1, w1 = w.alloc (.cells #[.int .i64 0, .int .i64 0, .string ⟨#[]⟩, .slice none 0 0] 24) := ⟨_, rfl⟩
  have hblk : w1.heap[w.heap.size]? = some (.cells #[.int .i64 0, .int .i64 0, .string ⟨#[]⟩, .slice none 0 0] 24) := by rw [hw1]; exact blk_new w _
  have hsz1 : w1.heap.size = w.heap.size + 1 := by rw [hw1]; simp
  have hR1 : Rd w1 r T p k := by rw [hw1]; exact h.alloc _
  have c96 := cut_no w1 r T p k hR1 hp
  have b1 : ((T[p].toNat : Int) == 63) = false := by simp; omega
  have b2 : ((T[p].toNat : Int) == 39) = false := by simp; omega
  have b3 : ((T[p].toNat : Int) == 116) = false := by simp; omega
  have b4 : ((T[p].toNat : Int) == 102) = false := by simp; omega
  have b5 : ((T[p].toNat : Int) == 91) = false := by simp; omega
  have b6 : ((T[p].toNat : Int) == 123) = false := by simp; omega
  have b7 : ((T[p].toNat : Int) == 118) = false := by simp; omega
  have b8 : ((T[p].toNat : Int) == 101) = false := by simp; omega
  have hd' : ¬ (8 : Int) < d := by omega
  unfold V.agg
  simp only [V.k, V.n, V.s]
  go_enter Tryz.func79, Tryz.ntmps79
  go_wp2_with (go_at_call 96; rw [← hw1]; refine c96.mono ?_; rintro e w2 ⟨rfl, h2⟩; obtain ⟨c0, c1, c2, c3, cf⟩ := h2.2.cells)
  go_region
  go_wp2_with (first
    | (go_at_call 103; refine (c103 _ h2.dr.2).mono ?_; rintro e w3 ⟨rfl, h3⟩)
    | (go_at_call 16; refine (int16 N _).mono ?_; rintro e w4 ⟨rfl, hb4⟩; have hR4 := (h2.dr.trans h3).far (gr_bel hb4 none) (by omega) (fun _ e => by cases e); obtain ⟨y0, y1, y2, y3, yf⟩ := four_of ((hR4.1.block w.heap.size (by omega) (by intro e; injection e with e; omega)).trans hblk)))
  rw [hw1] at hR4
  have hfin := hR4.low.put hrl (Nat.le_refl _) 0 (.int .i64 1) (.int .i64 N) (.string ⟨#[]⟩) (.slice none 0 0)
  have hin9 := hin (put4 w4 w.heap.size 0 (.int .i64 1) (.int .i64 N) (.string ⟨#[]⟩) (.slice none 0 0))
  unfold put4 at hfin hin9
  simp [bodyPost, results, Tryz.results79, go_sem, y0, y1, y2, y3]
  exact ⟨hin9, hfin⟩

theorem Rp.keys {w w1 : World} {r : Nat} {T : ByteArray} {q k : Nat} (h : Rp r T q k w w1) (k' : Nat) : Rp r T q k' w (w1.setCell ⟨r, 3, none⟩ (.int .i64 k')) := h.trans ⟨gr_set w1 r 3 _, h.2.setKeys k'⟩

set_option maxHeartbeats 2000000 in
theorem key118 (T : ByteArray) (d : Int) (p : Nat) (v : V) (p' : Nat) (hr : Reads T d p v p') (w : World) (r k : Nat) (h : Rd w r T p k) (hk : k ≤ 1000) :
    Calls Tryz.prog 118 #[.pointer (some ⟨r, 0, none⟩), .int .i64 d] w fun e w' => ∃ sl, e = .returned (v.agg sl) ∧ v.In w' w.heap.size sl ∧ Rp r T p' k w w' := by
  have hrl := h.lt
  obtain ⟨c0, c1, c2, c3, cf⟩ := h.cells
  have hR2 := ((Rp.refl h).keys (k + 1))
  have hsz : (w.setCell ⟨r, 3, none⟩ (.int .i64 ((k : Int) + 1))).heap.size = w.heap.size := by simp [World.setCell]
  obtain ⟨w2, hw2⟩ : ∃ w2, w2 = (w.setCell ⟨r, 3, none⟩ (.int .i64 ((k : Int) + 1))).alloc (.cells #[.int .i64 0, .int .i64 0, .string ⟨#[]⟩, .slice none 0 0] 24) := ⟨_, rfl⟩
  have hblk : w2.heap[w.heap.size]? = some (.cells #[.int .i64 0, .int .i64 0, .string ⟨#[]⟩, .slice none 0 0] 24) := by
    have := blk_new (w.setCell ⟨r, 3, none⟩ (.int .i64 ((k : Int) + 1))) (.cells #[.int .i64 0, .int .i64 0, .string ⟨#[]⟩, .slice none 0 0] 24)
    rw [hsz] at this
    rw [hw2]; exact this
  have hsz2 : w2.heap.size = w.heap.size + 1 := by rw [hw2]; simp [hsz]
  have hR2' : Rp r T p (k + 1) w w2 := by
    rw [hw2]
    exact hR2.far (World.grownBy_alloc _ _ none) hrl (fun _ e => by cases e)
  have c79 := hr _ r (k + 1) hR2'.2
  unfold V.agg at c79 ⊢
  have j1 : IntKind.i64.wrap ((k : Int) + 1) = (k : Int) + 1 := by rw [IntKind.wrap_i64]; omega
  have j2 : IntKind.i64.wrap ((k : Int) + 1 - 1) = (k : Int) := by rw [IntKind.wrap_i64]; omega
  have j3 : IntKind.i64.wrap (k : Int) = (k : Int) := by rw [IntKind.wrap_i64]; omega
  go_enter Tryz.func118, Tryz.ntmps118
  go_wp2_with (go_at_call 79; rw [← hw2]; refine c79.mono ?_; rintro e w3 ⟨sl, rfl, hin3, h3⟩; obtain ⟨p3, n3, q3, rfl⟩ := hin3.header; obtain ⟨e0, e1, e2, e3, ef⟩ := h3.2.cells; rw [show ((k + 1 : Nat) : Int) = (k : Int) + 1 by omega] at e3; have hR3 := hR2'.trans h3; have hl1 := h3.2.lt; have hl2 : w.heap.size < w3.heap.size := (by have := h3.1.size; omega); obtain ⟨y0, y1, y2, y3, yf⟩ := four_of ((h3.1.block w.heap.size (by omega) (by intro e; injection e with e; omega)).trans hblk))
  have hfin := ((hR3.keys k).put hrl (Nat.le_refl _) 0 (.int .i64 v.k) (.int .i64 v.n) (.string v.s) (.slice p3 n3 q3)).far (World.grownBy_alloc _ (.cells #[.int .i64 v.k, .int .i64 v.n, .string v.s, .slice p3 n3 q3] 24) none) hrl (fun _ e => by cases e)
  have hin9 : v.In (put4 (w3.setCell ⟨r, 3, none⟩ (.int .i64 k)) w.heap.size 0 (.int .i64 v.k) (.int .i64 v.n) (.string v.s) (.slice p3 n3 q3)) w.heap.size (.slice p3 n3 q3) :=
    V.In.keep (lo := w2.heap.size) (fun a u ha hc => set_other (set_other (set_other (set_other (set_other hc (.inl (by omega))) (.inl (by omega))) (.inl (by omega))) (.inl (by omega))) (.inl (by omega))) (by omega) v _ hin3
  have hin8 := hin9.on (bel1 _ (.cells #[.int .i64 v.k, .int .i64 v.n, .string v.s, .slice p3 n3 q3] 24))
  unfold put4 at hfin hin8
  have z0 : (((((w3.setCell ⟨r, 3, none⟩ (.int .i64 k)).setCell ⟨w.heap.size, 0, none⟩ (.int .i64 v.k)).setCell ⟨w.heap.size, 1, none⟩ (.int .i64 v.n)).setCell ⟨w.heap.size, 2, none⟩ (.string v.s)).setCell ⟨w.heap.size, 3, none⟩ (.slice p3 n3 q3)).heap.size = w3.heap.size := by simp [World.setCell]
  simp [bodyPost, results, Tryz.results118, go_sem, y0, y1, y2, y3, hl2]
  exact ⟨hin8, hfin⟩
end Go.Proofs.YtbicodlclmdgaaaGreatDoor
