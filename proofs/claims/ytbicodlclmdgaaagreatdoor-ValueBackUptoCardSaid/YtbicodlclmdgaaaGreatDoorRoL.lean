/-
  The reader of package value, open or not, and whatever is wrong: values.
-/
import Derived.Test.YtbicodlclmdgaaaGreatDoorRoK
namespace Go.Proofs.YtbicodlclmdgaaaGreatDoor
open Go.RowKit
set_option linter.unusedVariables false      -- a walk need not use every condition

set_option maxHeartbeats 1000000 in
set_option maxRecDepth 20000 in
theorem val_q (T : ByteArray) (d : Nat) (hT : T.size ≤ 1073741824) (w : World) (r p : Nat) (o : Bool) (k : Nat) (h : Ro w r T p o k) (hlt : p < T.size) (hk : k ≤ 1000) (hb : T[p].toNat = 63) :
    Calls Tryz.prog 79 #[.pointer (some ⟨r, 0, none⟩), .int .i64 d] w fun e w' => e = .returned (.agg #[.int .i64 0, .int .i64 0, .string ⟨#[]⟩, .slice none 0 0]) ∧ Rq r T (p + 1) o k w w' := by
  have hT' : T.size ≤ 140737488000000 := by omega
  have hTm : T.size ≤ maxLen := by unfold maxLen; omega
  have hrl := h.lt
  obtain ⟨w1, hw1⟩ : ∃ w1, w1 = w.alloc (.cells #[.int .i64 0, .int .i64 0, .string ⟨#[]⟩, .slice none 0 0] 24) := ⟨_, rfl⟩
  have hblk : w1.heap[w.heap.size]? = some (.cells #[.int .i64 0, .int .i64 0, .string ⟨#[]⟩, .slice none 0 0] 24) := by rw [hw1]; exact blk_new w _
  have hsz1 : w1.heap.size = w.heap.size + 1 := by rw [hw1]; simp
  have hR1 : Ro w1 r T p o k := by rw [hw1]; exact h.alloc _
  have hgw : w.grownBy w1 (some r) := by rw [hw1]; exact World.grownBy_alloc w _ (some r)
  have c96 := cut96_no w1 r T p o k hR1 hlt
  have b0 : ((T[p].toNat : Int) == 63) = true := by simp; omega
  have hw : IntKind.i64.wrap ((p : Int) + 1) = (p : Int) + 1 := by rw [IntKind.wrap_i64]; omega
  clear hb
  go_enter Tryz.func79, Tryz.ntmps79
  go_wp2_with (go_at_call 96; rw [← hw1]; refine c96.mono ?_; rintro e w2 ⟨rfl, h2⟩; obtain ⟨c0, c1, c2, c3, cf⟩ := h2.2.cells)
  go_region
  have hR4 := h2.step.dr
  obtain ⟨y0, y1, y2, y3, yf⟩ := four_of ((h2.1.block w.heap.size (by omega) (by intro e; injection e with e; omega)).trans hblk)
  have hne1 : ¬ w.heap.size = r := by omega
  have hne2 : ¬ r = w.heap.size := by omega
  rw [hw1] at hR4
  have hfin := hR4.low.put hrl (Nat.le_refl _) 0 (.int .i64 0) (.int .i64 0) (.string ⟨#[]⟩) (.slice none 0 0)
  unfold put4 at hfin
  go_wp2
  simp [bodyPost, results, Tryz.results79, go_sem, y0, y1, y2, y3]
  exact hfin
set_option maxHeartbeats 1000000 in
set_option maxRecDepth 20000 in
theorem val_deep (T : ByteArray) (d : Nat) (hT : T.size ≤ 1073741824) (w : World) (r p : Nat) (o : Bool) (k : Nat) (h : Ro w r T p o k) (hlt : p < T.size) (hk : k ≤ 1000) (hb : T[p].toNat ≠ 63) (hd : d = 9) :
    Calls Tryz.prog 79 #[.pointer (some ⟨r, 0, none⟩), .int .i64 d] w fun e w' => Fails r T w e w' := by
  have hT' : T.size ≤ 140737488000000 := by omega
  have hTm : T.size ≤ maxLen := by unfold maxLen; omega
  have hrl := h.lt
  obtain ⟨w1, hw1⟩ : ∃ w1, w1 = w.alloc (.cells #[.int .i64 0, .int .i64 0, .string ⟨#[]⟩, .slice none 0 0] 24) := ⟨_, rfl⟩
  have hblk : w1.heap[w.heap.size]? = some (.cells #[.int .i64 0, .int .i64 0, .string ⟨#[]⟩, .slice none 0 0] 24) := by rw [hw1]; exact blk_new w _
  have hsz1 : w1.heap.size = w.heap.size + 1 := by rw [hw1]; simp
  have hR1 : Ro w1 r T p o k := by rw [hw1]; exact h.alloc _
  have hgw : w.grownBy w1 (some r) := by rw [hw1]; exact World.grownBy_alloc w _ (some r)
  have c96 := cut96_no w1 r T p o k hR1 hlt
  have b0 : ((T[p].toNat : Int) == 63) = false := by simp; omega
  have hd' : (8 : Int) < (d : Int) := by omega
  clear hb
  go_enter Tryz.func79, Tryz.ntmps79
  go_wp2_with (go_at_call 96; rw [← hw1]; refine c96.mono ?_; rintro e w2 ⟨rfl, h2⟩; obtain ⟨c0, c1, c2, c3, cf⟩ := h2.2.cells)
  go_region
  go_wp2_with (go_at_call 81; refine (giveUp81 _ r T p o k h2.dr.2 (by omega)).mono ?_; rintro e w4 ⟨q2, hq2, rfl, hg⟩)
  exact ⟨rfl, q2, hq2, rfl, hgw.trans (h2.dr.1.trans hg)⟩
set_option maxHeartbeats 1000000 in
set_option maxRecDepth 20000 in
theorem val_end (T : ByteArray) (d : Nat) (hT : T.size ≤ 1073741824) (w : World) (r p : Nat) (o : Bool) (k : Nat) (h : Ro w r T p o k) (hlt : p = T.size) (hk : k ≤ 1000) :
    Calls Tryz.prog 79 #[.pointer (some ⟨r, 0, none⟩), .int .i64 d] w fun e w' => (o = true ∧ Vl r T p o k w vGreat p e w') ∨ (o = false ∧ Fails r T w e w') := by
  have hT' : T.size ≤ 140737488000000 := by omega
  have hTm : T.size ≤ maxLen := by unfold maxLen; omega
  have hrl := h.lt
  obtain ⟨w1, hw1⟩ : ∃ w1, w1 = w.alloc (.cells #[.int .i64 0, .int .i64 0, .string ⟨#[]⟩, .slice none 0 0] 24) := ⟨_, rfl⟩
  have hblk : w1.heap[w.heap.size]? = some (.cells #[.int .i64 0, .int .i64 0, .string ⟨#[]⟩, .slice none 0 0] 24) := by rw [hw1]; exact blk_new w _
  have hsz1 : w1.heap.size = w.heap.size + 1 := by rw [hw1]; simp
  have hR1 : Ro w1 r T p o k := by rw [hw1]; exact h.alloc _
  have hgw : w.grownBy w1 (some r) := by rw [hw1]; exact World.grownBy_alloc w _ (some r)
  have c96 := cut96_end w1 r T p o k hR1 hlt
  go_enter Tryz.func79, Tryz.ntmps79
  go_wp2_with (first
    | (go_at_call 96; rw [← hw1]; refine c96.mono ?_; rintro e w2 (⟨ho, rfl, h2⟩ | ⟨ho, q2, hq2, rfl, hg⟩))
    | (go_at_call 97; refine (greatest97 _).mono ?_; rintro e w4 ⟨rfl, hb4⟩; have hR4 := h2.bel hb4; obtain ⟨y0, y1, y2, y3, yf⟩ := four_of ((hR4.1.block w.heap.size (by omega) (by intro e; injection e with e; omega)).trans hblk)))
  · rw [hw1] at hR4
    have hfin := hR4.low.put hrl (Nat.le_refl _) 0 (.int .i64 7) (.int .i64 281474976710656) (.string ⟨#[]⟩) (.slice none 0 0)
    have hin9 := in_plain (k := 7) (n := 281474976710656) (s := ⟨#[]⟩) (by unfold I64; omega) (by unfold I64; omega) (by show (0 : Nat) ≤ _; omega) (put4 w4 w.heap.size 0 (.int .i64 7) (.int .i64 281474976710656) (.string ⟨#[]⟩) (.slice none 0 0)) w.heap.size
    unfold put4 at hfin hin9
    simp [bodyPost, results, Tryz.results79, go_sem, y0, y1, y2, y3]
    exact .inl ⟨ho, _, rfl, hin9, Nat.le_refl _, fun h => by omega, hfin⟩
  · exact ⟨rfl, .inr ⟨ho, q2, hq2, rfl, hgw.trans hg⟩⟩
set_option maxHeartbeats 1000000 in
set_option maxRecDepth 20000 in
theorem val_s (T : ByteArray) (d : Nat) (hT : T.size ≤ 1073741824) (w : World) (r p : Nat) (o : Bool) (k : Nat) (h : Ro w r T p o k) (hlt : p < T.size) (hk : k ≤ 1000) (hd : d ≤ 8) (hb : T[p].toNat = 39) :
    Calls Tryz.prog 79 #[.pointer (some ⟨r, 0, none⟩), .int .i64 d] w
      (Comes r T o w ((pStr ((rest T (p + 1)).length + 1) (rest T (p + 1))).map fun x => (V.mk 2 0 ⟨x.1.toArray⟩ [], x.2)) (Vl r T p o k w)) := by
  have hT' : T.size ≤ 140737488000000 := by omega
  have hTm : T.size ≤ maxLen := by unfold maxLen; omega
  have hrl := h.lt
  obtain ⟨w1, hw1⟩ : ∃ w1, w1 = w.alloc (.cells #[.int .i64 0, .int .i64 0, .string ⟨#[]⟩, .slice none 0 0] 24) := ⟨_, rfl⟩
  have hblk : w1.heap[w.heap.size]? = some (.cells #[.int .i64 0, .int .i64 0, .string ⟨#[]⟩, .slice none 0 0] 24) := by rw [hw1]; exact blk_new w _
  have hsz1 : w1.heap.size = w.heap.size + 1 := by rw [hw1]; simp
  have hR1 : Ro w1 r T p o k := by rw [hw1]; exact h.alloc _
  have hgw : w.grownBy w1 (some r) := by rw [hw1]; exact World.grownBy_alloc w _ (some r)
  have c96 := cut96_no w1 r T p o k hR1 hlt
  have hd' : ¬ (8 : Int) < (d : Int) := by omega
  have b0 : ((T[p].toNat : Int) == 63) = false := by simp; omega
  have b1 : ((T[p].toNat : Int) == 39) = true := by simp; omega
  have c98 := fun w h => str98o w r T p o k h hlt (UInt8.toNat_inj.1 hb) hT' hk
  clear hb
  go_enter Tryz.func79, Tryz.ntmps79
  go_wp2_with (go_at_call 96; rw [← hw1]; refine c96.mono ?_; rintro e w2 ⟨rfl, h2⟩; obtain ⟨c0, c1, c2, c3, cf⟩ := h2.2.cells)
  go_region
  go_wp2_with (go_at_call 98; refine (c98 _ h2.dr.2).mono ?_; rintro e w4 (⟨X, p4, hp4, ⟨rfl, hlt4, hX4, h4⟩, hs4⟩ | ⟨⟨q2, hq2, rfl, hg⟩, hs4⟩); (try (have hR4 := h2.dr.trans h4; obtain ⟨y0, y1, y2, y3, yf⟩ := four_of ((hR4.1.block w.heap.size (by omega) (by intro e; injection e with e; omega)).trans hblk))))
  case inr => exact ⟨rfl, .inr ⟨⟨q2, hq2, rfl, hgw.trans (h2.dr.1.trans hg)⟩, fun ho => by rw [hs4.out ho]; rfl⟩⟩
  rw [hw1] at hR4
  have hfin := hR4.low.put hrl (Nat.le_refl _) 0 (.int .i64 2) (.int .i64 0) (.string ⟨X.toArray⟩) (.slice none 0 0)
  have hin9 := in_plain (k := 2) (n := 0) (s := ⟨X.toArray⟩) (by unfold I64; omega) (by unfold I64; omega) (by show X.toArray.size ≤ _; simp; omega) (put4 w4 w.heap.size 0 (.int .i64 2) (.int .i64 0) (.string ⟨X.toArray⟩) (.slice none 0 0)) w.heap.size
  unfold put4 at hfin hin9
  simp [bodyPost, results, Tryz.results79, go_sem, y0, y1, y2, y3]
  exact .inl ⟨_, p4, hp4, ⟨_, rfl, hin9, by omega, fun _ => hlt4, hfin⟩, fun ho => by rw [hs4.out ho]; rfl⟩
set_option maxHeartbeats 1000000 in
set_option maxRecDepth 20000 in
theorem val_t (T : ByteArray) (d : Nat) (hT : T.size ≤ 1073741824) (w : World) (r p : Nat) (o : Bool) (k : Nat) (h : Ro w r T p o k) (hlt : p < T.size) (hk : k ≤ 1000) (hd : d ≤ 8) (hb : T[p].toNat = 116) :
    Calls Tryz.prog 79 #[.pointer (some ⟨r, 0, none⟩), .int .i64 d] w
      (Comes r T o w ((strip [116, 114, 117, 101] (rest T p)).map fun x => (V.mk 3 1 ⟨#[]⟩ [], x)) (Vl r T p o k w)) := by
  have hT' : T.size ≤ 140737488000000 := by omega
  have hTm : T.size ≤ maxLen := by unfold maxLen; omega
  have hrl := h.lt
  obtain ⟨w1, hw1⟩ : ∃ w1, w1 = w.alloc (.cells #[.int .i64 0, .int .i64 0, .string ⟨#[]⟩, .slice none 0 0] 24) := ⟨_, rfl⟩
  have hblk : w1.heap[w.heap.size]? = some (.cells #[.int .i64 0, .int .i64 0, .string ⟨#[]⟩, .slice none 0 0] 24) := by rw [hw1]; exact blk_new w _
  have hsz1 : w1.heap.size = w.heap.size + 1 := by rw [hw1]; simp
  have hR1 : Ro w1 r T p o k := by rw [hw1]; exact h.alloc _
  have hgw : w.grownBy w1 (some r) := by rw [hw1]; exact World.grownBy_alloc w _ (some r)
  have c96 := cut96_no w1 r T p o k hR1 hlt
  have hd' : ¬ (8 : Int) < (d : Int) := by omega
  have b0 : ((T[p].toNat : Int) == 63) = false := by simp; omega
  have b1 : ((T[p].toNat : Int) == 39) = false := by simp; omega
  have b2 : ((T[p].toNat : Int) == 116) = true := by simp; omega
  have c99 := fun w h => word99o w r T ⟨#[116, 114, 117, 101]⟩ p o k h (by omega) hTm
  clear hb
  go_enter Tryz.func79, Tryz.ntmps79
  go_wp2_with (go_at_call 96; rw [← hw1]; refine c96.mono ?_; rintro e w2 ⟨rfl, h2⟩; obtain ⟨c0, c1, c2, c3, cf⟩ := h2.2.cells)
  go_region
  go_wp2_with (first
    | (go_at_call 99; refine (c99 _ h2.dr.2).mono ?_; rintro e w3 (⟨u3, p4, hp4, ⟨rfl, hle4, hlt4, h3⟩, hs4⟩ | ⟨⟨q2, hq2, rfl, hg⟩, hs4⟩))
    | (go_at_call 24; refine (bool24 true _).mono ?_; rintro e w4 ⟨rfl, hb4⟩; have hR4 := (h2.dr.trans h3).bel hb4; obtain ⟨y0, y1, y2, y3, yf⟩ := four_of ((hR4.1.block w.heap.size (by omega) (by intro e; injection e with e; omega)).trans hblk)))
  case inr => exact ⟨rfl, .inr ⟨⟨q2, hq2, rfl, hgw.trans (h2.dr.1.trans hg)⟩, fun ho => by rw [map_none (hs4.out ho)]; rfl⟩⟩
  rw [hw1] at hR4
  have hfin := hR4.low.put hrl (Nat.le_refl _) 0 (.int .i64 3) (.int .i64 1) (.string ⟨#[]⟩) (.slice none 0 0)
  have hin9 := in_plain (k := 3) (n := 1) (s := ⟨#[]⟩) (by unfold I64; omega) (by unfold I64; omega) (by show (0 : Nat) ≤ _; omega) (put4 w4 w.heap.size 0 (.int .i64 3) (.int .i64 1) (.string ⟨#[]⟩) (.slice none 0 0)) w.heap.size
  unfold put4 at hfin hin9
  simp [bodyPost, results, Tryz.results79, go_sem, y0, y1, y2, y3]
  exact .inl ⟨_, p4, hp4, ⟨_, rfl, hin9, hle4, fun _ => hlt4 (by decide) hlt, hfin⟩, fun ho => by rw [map_some (hs4.out ho)]; rfl⟩
set_option maxHeartbeats 1000000 in
set_option maxRecDepth 20000 in
theorem val_f (T : ByteArray) (d : Nat) (hT : T.size ≤ 1073741824) (w : World) (r p : Nat) (o : Bool) (k : Nat) (h : Ro w r T p o k) (hlt : p < T.size) (hk : k ≤ 1000) (hd : d ≤ 8) (hb : T[p].toNat = 102) :
    Calls Tryz.prog 79 #[.pointer (some ⟨r, 0, none⟩), .int .i64 d] w
      (Comes r T o w ((strip [102, 97, 108, 115, 101] (rest T p)).map fun x => (V.mk 3 0 ⟨#[]⟩ [], x)) (Vl r T p o k w)) := by
  have hT' : T.size ≤ 140737488000000 := by omega
  have hTm : T.size ≤ maxLen := by unfold maxLen; omega
  have hrl := h.lt
  obtain ⟨w1, hw1⟩ : ∃ w1, w1 = w.alloc (.cells #[.int .i64 0, .int .i64 0, .string ⟨#[]⟩, .slice none 0 0] 24) := ⟨_, rfl⟩
  have hblk : w1.heap[w.heap.size]? = some (.cells #[.int .i64 0, .int .i64 0, .string ⟨#[]⟩, .slice none 0 0] 24) := by rw [hw1]; exact blk_new w _
  have hsz1 : w1.heap.size = w.heap.size + 1 := by rw [hw1]; simp
  have hR1 : Ro w1 r T p o k := by rw [hw1]; exact h.alloc _
  have hgw : w.grownBy w1 (some r) := by rw [hw1]; exact World.grownBy_alloc w _ (some r)
  have c96 := cut96_no w1 r T p o k hR1 hlt
  have hd' : ¬ (8 : Int) < (d : Int) := by omega
  have b0 : ((T[p].toNat : Int) == 63) = false := by simp; omega
  have b1 : ((T[p].toNat : Int) == 39) = false := by simp; omega
  have b2 : ((T[p].toNat : Int) == 116) = false := by simp; omega
  have b3 : ((T[p].toNat : Int) == 102) = true := by simp; omega
  have c99 := fun w h => word99o w r T ⟨#[102, 97, 108, 115, 101]⟩ p o k h (by omega) hTm
  clear hb
  go_enter Tryz.func79, Tryz.ntmps79
  go_wp2_with (go_at_call 96; rw [← hw1]; refine c96.mono ?_; rintro e w2 ⟨rfl, h2⟩; obtain ⟨c0, c1, c2, c3, cf⟩ := h2.2.cells)
  go_region
  go_wp2_with (first
    | (go_at_call 99; refine (c99 _ h2.dr.2).mono ?_; rintro e w3 (⟨u3, p4, hp4, ⟨rfl, hle4, hlt4, h3⟩, hs4⟩ | ⟨⟨q2, hq2, rfl, hg⟩, hs4⟩))
    | (go_at_call 24; refine (bool24 false _).mono ?_; rintro e w4 ⟨rfl, hb4⟩; have hR4 := (h2.dr.trans h3).bel hb4; obtain ⟨y0, y1, y2, y3, yf⟩ := four_of ((hR4.1.block w.heap.size (by omega) (by intro e; injection e with e; omega)).trans hblk)))
  case inr => exact ⟨rfl, .inr ⟨⟨q2, hq2, rfl, hgw.trans (h2.dr.1.trans hg)⟩, fun ho => by rw [map_none (hs4.out ho)]; rfl⟩⟩
  rw [hw1] at hR4
  have hfin := hR4.low.put hrl (Nat.le_refl _) 0 (.int .i64 3) (.int .i64 0) (.string ⟨#[]⟩) (.slice none 0 0)
  have hin9 := in_plain (k := 3) (n := 0) (s := ⟨#[]⟩) (by unfold I64; omega) (by unfold I64; omega) (by show (0 : Nat) ≤ _; omega) (put4 w4 w.heap.size 0 (.int .i64 3) (.int .i64 0) (.string ⟨#[]⟩) (.slice none 0 0)) w.heap.size
  unfold put4 at hfin hin9
  simp [bodyPost, results, Tryz.results79, go_sem, y0, y1, y2, y3]
  exact .inl ⟨_, p4, hp4, ⟨_, rfl, hin9, hle4, fun _ => hlt4 (by decide) hlt, hfin⟩, fun ho => by rw [map_some (hs4.out ho)]; rfl⟩
set_option maxHeartbeats 1000000 in
set_option maxRecDepth 20000 in
theorem val_v (T : ByteArray) (d : Nat) (hT : T.size ≤ 1073741824) (w : World) (r p : Nat) (o : Bool) (k : Nat) (h : Ro w r T p o k) (hlt : p < T.size) (hk : k ≤ 1000) (hd : d ≤ 8) (hb : T[p].toNat = 118) :
    Calls Tryz.prog 79 #[.pointer (some ⟨r, 0, none⟩), .int .i64 d] w
      (Comes r T o w ((pId [118, 91] (rest T p)).map fun x => (V.mk 6 x.1 ⟨#[]⟩ [], x.2)) (Vl r T p o k w)) := by
  have hT' : T.size ≤ 140737488000000 := by omega
  have hTm : T.size ≤ maxLen := by unfold maxLen; omega
  have hrl := h.lt
  obtain ⟨w1, hw1⟩ : ∃ w1, w1 = w.alloc (.cells #[.int .i64 0, .int .i64 0, .string ⟨#[]⟩, .slice none 0 0] 24) := ⟨_, rfl⟩
  have hblk : w1.heap[w.heap.size]? = some (.cells #[.int .i64 0, .int .i64 0, .string ⟨#[]⟩, .slice none 0 0] 24) := by rw [hw1]; exact blk_new w _
  have hsz1 : w1.heap.size = w.heap.size + 1 := by rw [hw1]; simp
  have hR1 : Ro w1 r T p o k := by rw [hw1]; exact h.alloc _
  have hgw : w.grownBy w1 (some r) := by rw [hw1]; exact World.grownBy_alloc w _ (some r)
  have c96 := cut96_no w1 r T p o k hR1 hlt
  have hd' : ¬ (8 : Int) < (d : Int) := by omega
  have b0 : ((T[p].toNat : Int) == 63) = false := by simp; omega
  have b1 : ((T[p].toNat : Int) == 39) = false := by simp; omega
  have b2 : ((T[p].toNat : Int) == 116) = false := by simp; omega
  have b3 : ((T[p].toNat : Int) == 102) = false := by simp; omega
  have b4 : ((T[p].toNat : Int) == 91) = false := by simp; omega
  have b5 : ((T[p].toNat : Int) == 123) = false := by simp; omega
  have b6 : ((T[p].toNat : Int) == 118) = true := by simp; omega
  have c102 := fun w h => id102o w r T ⟨#[118, 91]⟩ p o k h (by omega) (by decide) hT'
  clear hb
  go_enter Tryz.func79, Tryz.ntmps79
  go_wp2_with (go_at_call 96; rw [← hw1]; refine c96.mono ?_; rintro e w2 ⟨rfl, h2⟩; obtain ⟨c0, c1, c2, c3, cf⟩ := h2.2.cells)
  go_region
  go_wp2_with (first
    | (go_at_call 102; refine (c102 _ h2.dr.2).mono ?_; rintro e w3 (⟨n3, p4, hp4, ⟨rfl, hle4, hlt4, hn3, h3⟩, hs4⟩ | ⟨⟨q2, hq2, rfl, hg⟩, hs4⟩))
    | (go_at_call 20; refine (vertex20 n3 _).mono ?_; rintro e w4 ⟨rfl, hb4⟩; have hR4 := (h2.dr.trans h3).bel hb4; obtain ⟨y0, y1, y2, y3, yf⟩ := four_of ((hR4.1.block w.heap.size (by omega) (by intro e; injection e with e; omega)).trans hblk)))
  case inr => exact ⟨rfl, .inr ⟨⟨q2, hq2, rfl, hgw.trans (h2.dr.1.trans hg)⟩, fun ho => by rw [hs4.out ho]; rfl⟩⟩
  rw [hw1] at hR4
  have hfin := hR4.low.put hrl (Nat.le_refl _) 0 (.int .i64 6) (.int .i64 n3) (.string ⟨#[]⟩) (.slice none 0 0)
  have hin9 := in_plain (k := 6) (n := n3) (s := ⟨#[]⟩) (by unfold I64; omega) (hn3) (by show (0 : Nat) ≤ _; omega) (put4 w4 w.heap.size 0 (.int .i64 6) (.int .i64 n3) (.string ⟨#[]⟩) (.slice none 0 0)) w.heap.size
  unfold put4 at hfin hin9
  simp [bodyPost, results, Tryz.results79, go_sem, y0, y1, y2, y3]
  exact .inl ⟨_, p4, hp4, ⟨_, rfl, hin9, hle4, fun _ => hlt4 hlt, hfin⟩, fun ho => by rw [hs4.out ho]; rfl⟩
set_option maxHeartbeats 1000000 in
set_option maxRecDepth 20000 in
theorem val_e (T : ByteArray) (d : Nat) (hT : T.size ≤ 1073741824) (w : World) (r p : Nat) (o : Bool) (k : Nat) (h : Ro w r T p o k) (hlt : p < T.size) (hk : k ≤ 1000) (hd : d ≤ 8) (hb : T[p].toNat = 101) :
    Calls Tryz.prog 79 #[.pointer (some ⟨r, 0, none⟩), .int .i64 d] w
      (Comes r T o w ((pId [101, 91] (rest T p)).map fun x => (V.mk 7 x.1 ⟨#[]⟩ [], x.2)) (Vl r T p o k w)) := by
  have hT' : T.size ≤ 140737488000000 := by omega
  have hTm : T.size ≤ maxLen := by unfold maxLen; omega
  have hrl := h.lt
  obtain ⟨w1, hw1⟩ : ∃ w1, w1 = w.alloc (.cells #[.int .i64 0, .int .i64 0, .string ⟨#[]⟩, .slice none 0 0] 24) := ⟨_, rfl⟩
  have hblk : w1.heap[w.heap.size]? = some (.cells #[.int .i64 0, .int .i64 0, .string ⟨#[]⟩, .slice none 0 0] 24) := by rw [hw1]; exact blk_new w _
  have hsz1 : w1.heap.size = w.heap.size + 1 := by rw [hw1]; simp
  have hR1 : Ro w1 r T p o k := by rw [hw1]; exact h.alloc _
  have hgw : w.grownBy w1 (some r) := by rw [hw1]; exact World.grownBy_alloc w _ (some r)
  have c96 := cut96_no w1 r T p o k hR1 hlt
  have hd' : ¬ (8 : Int) < (d : Int) := by omega
  have b0 : ((T[p].toNat : Int) == 63) = false := by simp; omega
  have b1 : ((T[p].toNat : Int) == 39) = false := by simp; omega
  have b2 : ((T[p].toNat : Int) == 116) = false := by simp; omega
  have b3 : ((T[p].toNat : Int) == 102) = false := by simp; omega
  have b4 : ((T[p].toNat : Int) == 91) = false := by simp; omega
  have b5 : ((T[p].toNat : Int) == 123) = false := by simp; omega
  have b6 : ((T[p].toNat : Int) == 118) = false := by simp; omega
  have b7 : ((T[p].toNat : Int) == 101) = true := by simp; omega
  have c102 := fun w h => id102o w r T ⟨#[101, 91]⟩ p o k h (by omega) (by decide) hT'
  clear hb
  go_enter Tryz.func79, Tryz.ntmps79
  go_wp2_with (go_at_call 96; rw [← hw1]; refine c96.mono ?_; rintro e w2 ⟨rfl, h2⟩; obtain ⟨c0, c1, c2, c3, cf⟩ := h2.2.cells)
  go_region
  go_wp2_with (first
    | (go_at_call 102; refine (c102 _ h2.dr.2).mono ?_; rintro e w3 (⟨n3, p4, hp4, ⟨rfl, hle4, hlt4, hn3, h3⟩, hs4⟩ | ⟨⟨q2, hq2, rfl, hg⟩, hs4⟩))
    | (go_at_call 22; refine (edge22 n3 _).mono ?_; rintro e w4 ⟨rfl, hb4⟩; have hR4 := (h2.dr.trans h3).bel hb4; obtain ⟨y0, y1, y2, y3, yf⟩ := four_of ((hR4.1.block w.heap.size (by omega) (by intro e; injection e with e; omega)).trans hblk)))
  case inr => exact ⟨rfl, .inr ⟨⟨q2, hq2, rfl, hgw.trans (h2.dr.1.trans hg)⟩, fun ho => by rw [hs4.out ho]; rfl⟩⟩
  rw [hw1] at hR4
  have hfin := hR4.low.put hrl (Nat.le_refl _) 0 (.int .i64 7) (.int .i64 n3) (.string ⟨#[]⟩) (.slice none 0 0)
  have hin9 := in_plain (k := 7) (n := n3) (s := ⟨#[]⟩) (by unfold I64; omega) (hn3) (by show (0 : Nat) ≤ _; omega) (put4 w4 w.heap.size 0 (.int .i64 7) (.int .i64 n3) (.string ⟨#[]⟩) (.slice none 0 0)) w.heap.size
  unfold put4 at hfin hin9
  simp [bodyPost, results, Tryz.results79, go_sem, y0, y1, y2, y3]
  exact .inl ⟨_, p4, hp4, ⟨_, rfl, hin9, hle4, fun _ => hlt4 hlt, hfin⟩, fun ho => by rw [hs4.out ho]; rfl⟩
set_option maxHeartbeats 1000000 in
set_option maxRecDepth 20000 in
theorem val_n (T : ByteArray) (d : Nat) (hT : T.size ≤ 1073741824) (w : World) (r p : Nat) (o : Bool) (k : Nat) (h : Ro w r T p o k) (hlt : p < T.size) (hk : k ≤ 1000) (hd : d ≤ 8) (hb : T[p].toNat ≠ 63 ∧ T[p].toNat ≠ 39 ∧ T[p].toNat ≠ 116 ∧ T[p].toNat ≠ 102 ∧ T[p].toNat ≠ 91 ∧ T[p].toNat ≠ 123 ∧ T[p].toNat ≠ 118 ∧ T[p].toNat ≠ 101) :
    Calls Tryz.prog 79 #[.pointer (some ⟨r, 0, none⟩), .int .i64 d] w
      (Comes r T o w ((pNum (rest T p)).map fun x => (V.mk 1 x.1 ⟨#[]⟩ [], x.2)) (Vl r T p o k w)) := by
  have hT' : T.size ≤ 140737488000000 := by omega
  have hTm : T.size ≤ maxLen := by unfold maxLen; omega
  have hrl := h.lt
  obtain ⟨w1, hw1⟩ : ∃ w1, w1 = w.alloc (.cells #[.int .i64 0, .int .i64 0, .string ⟨#[]⟩, .slice none 0 0] 24) := ⟨_, rfl⟩
  have hblk : w1.heap[w.heap.size]? = some (.cells #[.int .i64 0, .int .i64 0, .string ⟨#[]⟩, .slice none 0 0] 24) := by rw [hw1]; exact blk_new w _
  have hsz1 : w1.heap.size = w.heap.size + 1 := by rw [hw1]; simp
  have hR1 : Ro w1 r T p o k := by rw [hw1]; exact h.alloc _
  have hgw : w.grownBy w1 (some r) := by rw [hw1]; exact World.grownBy_alloc w _ (some r)
  have c96 := cut96_no w1 r T p o k hR1 hlt
  have hd' : ¬ (8 : Int) < (d : Int) := by omega
  have b0 : ((T[p].toNat : Int) == 63) = false := by simp; omega
  have b1 : ((T[p].toNat : Int) == 39) = false := by simp; omega
  have b2 : ((T[p].toNat : Int) == 116) = false := by simp; omega
  have b3 : ((T[p].toNat : Int) == 102) = false := by simp; omega
  have b4 : ((T[p].toNat : Int) == 91) = false := by simp; omega
  have b5 : ((T[p].toNat : Int) == 123) = false := by simp; omega
  have b6 : ((T[p].toNat : Int) == 118) = false := by simp; omega
  have b7 : ((T[p].toNat : Int) == 101) = false := by simp; omega
  have c103 := fun w h => number103o w r T p o k h hT' 9223372036854775807 (by omega) (by omega) (by omega)
  clear hb
  go_enter Tryz.func79, Tryz.ntmps79
  go_wp2_with (go_at_call 96; rw [← hw1]; refine c96.mono ?_; rintro e w2 ⟨rfl, h2⟩; obtain ⟨c0, c1, c2, c3, cf⟩ := h2.2.cells)
  go_region
  go_wp2_with (first
    | (go_at_call 103; refine (c103 _ h2.dr.2).mono ?_; rintro e w3 (⟨n3, p4, hp4, ⟨rfl, hle4, hlt4, hn3, h3⟩, hs4⟩ | ⟨⟨q2, hq2, rfl, hg⟩, hs4⟩))
    | (go_at_call 16; refine (int16 n3 _).mono ?_; rintro e w4 ⟨rfl, hb4⟩; have hR4 := (h2.dr.trans h3).bel hb4; obtain ⟨y0, y1, y2, y3, yf⟩ := four_of ((hR4.1.block w.heap.size (by omega) (by intro e; injection e with e; omega)).trans hblk)))
  case inr => exact ⟨rfl, .inr ⟨⟨q2, hq2, rfl, hgw.trans (h2.dr.1.trans hg)⟩, fun ho => by rw [hs4.out ho]; rfl⟩⟩
  rw [hw1] at hR4
  have hfin := hR4.low.put hrl (Nat.le_refl _) 0 (.int .i64 1) (.int .i64 n3) (.string ⟨#[]⟩) (.slice none 0 0)
  have hin9 := in_plain (k := 1) (n := n3) (s := ⟨#[]⟩) (by unfold I64; omega) (hn3) (by show (0 : Nat) ≤ _; omega) (put4 w4 w.heap.size 0 (.int .i64 1) (.int .i64 n3) (.string ⟨#[]⟩) (.slice none 0 0)) w.heap.size
  unfold put4 at hfin hin9
  simp [bodyPost, results, Tryz.results79, go_sem, y0, y1, y2, y3]
  exact .inl ⟨_, p4, hp4, ⟨_, rfl, hin9, hle4, fun _ => hlt4 hlt, hfin⟩, fun ho => by rw [hs4.out ho]; rfl⟩
set_option maxHeartbeats 1000000 in
set_option maxRecDepth 20000 in
theorem val_l (T : ByteArray) (d : Nat) (hT : T.size ≤ 1073741824) (w : World) (r p : Nat) (o : Bool) (k : Nat) (h : Ro w r T p o k) (hlt : p < T.size) (hk : k ≤ 1000) (hd : d ≤ 8) (hb : T[p].toNat = 91) (S : Option (V × List UInt8)) (hS : ∀ w, Ro w r T p o k → Calls Tryz.prog 100 #[.pointer (some ⟨r, 0, none⟩), .int .i64 d] w (Comes r T o w S (Vl r T p o k w))) :
    Calls Tryz.prog 79 #[.pointer (some ⟨r, 0, none⟩), .int .i64 d] w
      (Comes r T o w S (Vl r T p o k w)) := by
  have hT' : T.size ≤ 140737488000000 := by omega
  have hTm : T.size ≤ maxLen := by unfold maxLen; omega
  have hrl := h.lt
  obtain ⟨w1, hw1⟩ : ∃ w1, w1 = w.alloc (.cells #[.int .i64 0, .int .i64 0, .string ⟨#[]⟩, .slice none 0 0] 24) := ⟨_, rfl⟩
  have hblk : w1.heap[w.heap.size]? = some (.cells #[.int .i64 0, .int .i64 0, .string ⟨#[]⟩, .slice none 0 0] 24) := by rw [hw1]; exact blk_new w _
  have hsz1 : w1.heap.size = w.heap.size + 1 := by rw [hw1]; simp
  have hR1 : Ro w1 r T p o k := by rw [hw1]; exact h.alloc _
  have hgw : w.grownBy w1 (some r) := by rw [hw1]; exact World.grownBy_alloc w _ (some r)
  have c96 := cut96_no w1 r T p o k hR1 hlt
  have hd' : ¬ (8 : Int) < (d : Int) := by omega
  have b0 : ((T[p].toNat : Int) == 63) = false := by simp; omega
  have b1 : ((T[p].toNat : Int) == 39) = false := by simp; omega
  have b2 : ((T[p].toNat : Int) == 116) = false := by simp; omega
  have b3 : ((T[p].toNat : Int) == 102) = false := by simp; omega
  have b4 : ((T[p].toNat : Int) == 91) = true := by simp; omega
  unfold Vl V.agg at hS
  clear hb
  go_enter Tryz.func79, Tryz.ntmps79
  go_wp2_with (go_at_call 96; rw [← hw1]; refine c96.mono ?_; rintro e w2 ⟨rfl, h2⟩; obtain ⟨c0, c1, c2, c3, cf⟩ := h2.2.cells)
  go_region
  go_wp2_with (go_at_call 100; refine (hS _ h2.dr.2).mono ?_; rintro e w4 (⟨v, p4, hp4, ⟨s4, rfl, hin4, hle4, hlt4, h4⟩, hs4⟩ | ⟨⟨q2, hq2, rfl, hg⟩, hs4⟩); (try (obtain ⟨pp4, n4, q4, rfl⟩ := hin4.header; have hR4 := h2.dr.trans h4; obtain ⟨y0, y1, y2, y3, yf⟩ := four_of ((hR4.1.block w.heap.size (by omega) (by intro e; injection e with e; omega)).trans hblk))))
  case inr => exact ⟨rfl, .inr ⟨⟨q2, hq2, rfl, hgw.trans (h2.dr.1.trans hg)⟩, hs4⟩⟩
  have hs2 := h2.1.size
  have hs2' : w1.heap.size ≤ w2.drew.heap.size := hs2
  rw [hw1] at hR4
  have hfin := hR4.low.put hrl (Nat.le_refl _) 0 (.int .i64 v.k) (.int .i64 v.n) (.string v.s) (.slice pp4 n4 q4)
  have hin9 : v.In (put4 w4 w.heap.size 0 (.int .i64 v.k) (.int .i64 v.n) (.string v.s) (.slice pp4 n4 q4)) w.heap.size (.slice pp4 n4 q4) :=
    V.In.keep (lo := w2.drew.heap.size) (fun a v ha hc => set_other (set_other (set_other (set_other hc (.inl (by omega))) (.inl (by omega))) (.inl (by omega))) (.inl (by omega))) (by omega) v _ hin4
  unfold put4 at hfin hin9
  simp [bodyPost, results, Tryz.results79, go_sem, y0, y1, y2, y3]
  exact .inl ⟨v, p4, hp4, ⟨_, rfl, hin9, hle4, hlt4, hfin⟩, hs4⟩
set_option maxHeartbeats 1000000 in
set_option maxRecDepth 20000 in
theorem val_m (T : ByteArray) (d : Nat) (hT : T.size ≤ 1073741824) (w : World) (r p : Nat) (o : Bool) (k : Nat) (h : Ro w r T p o k) (hlt : p < T.size) (hk : k ≤ 1000) (hd : d ≤ 8) (hb : T[p].toNat = 123) (S : Option (V × List UInt8)) (hS : ∀ w, Ro w r T p o k → Calls Tryz.prog 101 #[.pointer (some ⟨r, 0, none⟩), .int .i64 d] w (Comes r T o w S (Vl r T p o k w))) :
    Calls Tryz.prog 79 #[.pointer (some ⟨r, 0, none⟩), .int .i64 d] w
      (Comes r T o w S (Vl r T p o k w)) := by
  have hT' : T.size ≤ 140737488000000 := by omega
  have hTm : T.size ≤ maxLen := by unfold maxLen; omega
  have hrl := h.lt
  obtain ⟨w1, hw1⟩ : ∃ w1, w1 = w.alloc (.cells #[.int .i64 0, .int .i64 0, .string ⟨#[]⟩, .slice none 0 0] 24) := ⟨_, rfl⟩
  have hblk : w1.heap[w.heap.size]? = some (.cells #[.int .i64 0, .int .i64 0, .string ⟨#[]⟩, .slice none 0 0] 24) := by rw [hw1]; exact blk_new w _
  have hsz1 : w1.heap.size = w.heap.size + 1 := by rw [hw1]; simp
  have hR1 : Ro w1 r T p o k := by rw [hw1]; exact h.alloc _
  have hgw : w.grownBy w1 (some r) := by rw [hw1]; exact World.grownBy_alloc w _ (some r)
  have c96 := cut96_no w1 r T p o k hR1 hlt
  have hd' : ¬ (8 : Int) < (d : Int) := by omega
  have b0 : ((T[p].toNat : Int) == 63) = false := by simp; omega
  have b1 : ((T[p].toNat : Int) == 39) = false := by simp; omega
  have b2 : ((T[p].toNat : Int) == 116) = false := by simp; omega
  have b3 : ((T[p].toNat : Int) == 102) = false := by simp; omega
  have b4 : ((T[p].toNat : Int) == 91) = false := by simp; omega
  have b5 : ((T[p].toNat : Int) == 123) = true := by simp; omega
  unfold Vl V.agg at hS
  clear hb
  go_enter Tryz.func79, Tryz.ntmps79
  go_wp2_with (go_at_call 96; rw [← hw1]; refine c96.mono ?_; rintro e w2 ⟨rfl, h2⟩; obtain ⟨c0, c1, c2, c3, cf⟩ := h2.2.cells)
  go_region
  go_wp2_with (go_at_call 101; refine (hS _ h2.dr.2).mono ?_; rintro e w4 (⟨v, p4, hp4, ⟨s4, rfl, hin4, hle4, hlt4, h4⟩, hs4⟩ | ⟨⟨q2, hq2, rfl, hg⟩, hs4⟩); (try (obtain ⟨pp4, n4, q4, rfl⟩ := hin4.header; have hR4 := h2.dr.trans h4; obtain ⟨y0, y1, y2, y3, yf⟩ := four_of ((hR4.1.block w.heap.size (by omega) (by intro e; injection e with e; omega)).trans hblk))))
  case inr => exact ⟨rfl, .inr ⟨⟨q2, hq2, rfl, hgw.trans (h2.dr.1.trans hg)⟩, hs4⟩⟩
  have hs2 := h2.1.size
  have hs2' : w1.heap.size ≤ w2.drew.heap.size := hs2
  rw [hw1] at hR4
  have hfin := hR4.low.put hrl (Nat.le_refl _) 0 (.int .i64 v.k) (.int .i64 v.n) (.string v.s) (.slice pp4 n4 q4)
  have hin9 : v.In (put4 w4 w.heap.size 0 (.int .i64 v.k) (.int .i64 v.n) (.string v.s) (.slice pp4 n4 q4)) w.heap.size (.slice pp4 n4 q4) :=
    V.In.keep (lo := w2.drew.heap.size) (fun a v ha hc => set_other (set_other (set_other (set_other hc (.inl (by omega))) (.inl (by omega))) (.inl (by omega))) (.inl (by omega))) (by omega) v _ hin4
  unfold put4 at hfin hin9
  simp [bodyPost, results, Tryz.results79, go_sem, y0, y1, y2, y3]
  exact .inl ⟨v, p4, hp4, ⟨_, rfl, hin9, hle4, hlt4, hfin⟩, hs4⟩
end Go.Proofs.YtbicodlclmdgaaaGreatDoor
