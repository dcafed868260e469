/-
  The walk of ValueSums.
-/
import Derived.Test.YtbicodlclmdgaaaGreatDoorSum
import Derived.Test.YtbicodlclmdgaaaGreatDoorBest
import Derived.Test.YtbicodlclmdgaaaGreatDoorName
import Derived.Test.YtbicodlclmdgaaaGreatDoorCompares
namespace Go.Proofs.YtbicodlclmdgaaaGreatDoor
open Go.RowKit

theorem sumR_in (l : List V) (w : World) (lo : Nat) : (sumR l).1.In w lo (.slice none 0 0) := by
  unfold sumR
  split
  · split
    · rename_i h
      exact in_plain (by unfold I64; omega) ((sums.fits_iff _).1 h) (by decide) w lo
    · exact zero_in w lo
  · exact zero_in w lo
def cel4 (x : V) (sl : Value) : Obj := .cells #[.int .i64 x.k, .int .i64 x.n, .string x.s, sl] 24

set_option maxRecDepth 20000 in
set_option maxHeartbeats 8000000 in
theorem sums5 (l : List V) (s : ByteArray) (sl : Value) (w : World) (hS : Sl w 0 l sl) : Calls Tryz.prog 5 #[sl, .string s] w fun e w' => e = .returned (.bool true) ∧ Below w.heap.size w w' := by
  have c32 := fun w h => sum32 l sl w h
  have c33 := fun w h => sum33 l sl w h
  have c34 := fun w h => min34 l sl w h
  have c35 := fun w h => refMin35 l sl w h
  have c36 := fun w h => max36 l sl w h
  have c37 := fun w h => refMax37 l sl w h
  have hi := fun w => sumR_in l w 0
  have c38 := fun w => name38 s w
  have c39 := fun w => name39 s w
  generalize sumR l = A at *
  generalize bestR l (-1) = B at *
  generalize bestR l 1 = C at *
  generalize nm s.data.toList = N at *
  obtain ⟨A1, A2⟩ := A
  obtain ⟨B1, B2⟩ := B
  obtain ⟨C1, C2⟩ := C
  have cA := fun s1 s2 w hx hy => refSame_any A1 A1 s1 s2 w hx hy
  have cB := fun s1 s2 w hx hy => refSame_any B1 B1 s1 s2 w hx hy
  have cC := fun s1 s2 w hx hy => refSame_any C1 C1 s1 s2 w hx hy
  rw [cmp_self] at cA cB cC
  simp only at hi
  unfold Summed at c32 c33
  unfold Found at c34 c36
  unfold FoundR at c35 c37
  unfold V.agg at c34 c35 c36 c37 cA cB cC
  have tok1 : Hid True := trivial
  have tok2 : Hid True := trivial
  go_enter Tryz.func5, Tryz.ntmps5
  go_wp2_with (first
    | (go_at_call 32; refine (c32 w hS).mono ?_; rintro e w1 ⟨rfl, hb1⟩; have hS1 := (hS.on hb1).on (bel1 w1 (cel4 A1 (.slice none 0 0))); have kA1 := blk_new w1 (cel4 A1 (.slice none 0 0)))
    | (go_at_call 33; refine (c33 _ hS1).mono ?_; rintro e w2 ⟨rfl, hb2⟩; have hS2 := (hS1.on hb2).on (bel1 w2 (cel4 A1 (.slice none 0 0))); have kA2 := blk_old (o' := cel4 A1 (.slice none 0 0)) (blk_on hb2 kA1); have kB2 := blk_new w2 (cel4 A1 (.slice none 0 0)))
    | (go_at_call 34; refine (c34 _ hS2).mono ?_; rintro e w3 ⟨s3, rfl, hi3, hb3⟩; obtain ⟨p3, n3, q3, rfl⟩ := hi3.header; have hS3 := (hS2.on hb3).on (bel1 w3 (cel4 B1 (.slice p3 n3 q3))); have kA3 := blk_old (o' := cel4 B1 (.slice p3 n3 q3)) (blk_on hb3 kA2); have kB3 := blk_old (o' := cel4 B1 (.slice p3 n3 q3)) (blk_on hb3 kB2); have kC3 := blk_new w3 (cel4 B1 (.slice p3 n3 q3)); have hc3 := (hi3.low (Nat.zero_le _)).on (bel1 w3 (cel4 B1 (.slice p3 n3 q3))))
    | (go_at_call 35; refine (c35 _ hS3).mono ?_; rintro e w4 ⟨s4, rfl, hi4, hb4⟩; obtain ⟨p4, n4, q4, rfl⟩ := hi4.header; have hS4 := (hS3.on hb4).on (bel1 w4 (cel4 B1 (.slice p4 n4 q4))); have kA4 := blk_old (o' := cel4 B1 (.slice p4 n4 q4)) (blk_on hb4 kA3); have kB4 := blk_old (o' := cel4 B1 (.slice p4 n4 q4)) (blk_on hb4 kB3); have kC4 := blk_old (o' := cel4 B1 (.slice p4 n4 q4)) (blk_on hb4 kC3); have kD4 := blk_new w4 (cel4 B1 (.slice p4 n4 q4)); have hc4 := (hc3.on hb4).on (bel1 w4 (cel4 B1 (.slice p4 n4 q4))); have hd4 := (hi4.on hb4).on (bel1 w4 (cel4 B1 (.slice p4 n4 q4))))
    | (go_at_call 36; refine (c36 _ hS4).mono ?_; rintro e w5 ⟨s5, rfl, hi5, hb5⟩; obtain ⟨p5, n5, q5, rfl⟩ := hi5.header; have hS5 := (hS4.on hb5).on (bel1 w5 (cel4 C1 (.slice p5 n5 q5))); have kA5 := blk_old (o' := cel4 C1 (.slice p5 n5 q5)) (blk_on hb5 kA4); have kB5 := blk_old (o' := cel4 C1 (.slice p5 n5 q5)) (blk_on hb5 kB4); have kC5 := blk_old (o' := cel4 C1 (.slice p5 n5 q5)) (blk_on hb5 kC4); have kD5 := blk_old (o' := cel4 C1 (.slice p5 n5 q5)) (blk_on hb5 kD4); have kE5 := blk_new w5 (cel4 C1 (.slice p5 n5 q5)); have hc5 := (hc4.on hb5).on (bel1 w5 (cel4 C1 (.slice p5 n5 q5))); have hd5 := (hd4.on hb5).on (bel1 w5 (cel4 C1 (.slice p5 n5 q5))); have he5 := (hi5.low (Nat.zero_le _)).on (bel1 w5 (cel4 C1 (.slice p5 n5 q5))))
    | (go_at_call 37; refine (c37 _ hS5).mono ?_; rintro e w6 ⟨s6, rfl, hi6, hb6⟩; obtain ⟨p6, n6, q6, rfl⟩ := hi6.header; have kA6 := blk_old (o' := cel4 C1 (.slice p6 n6 q6)) (blk_on hb6 kA5); have kB6 := blk_old (o' := cel4 C1 (.slice p6 n6 q6)) (blk_on hb6 kB5); have kC6 := blk_old (o' := cel4 C1 (.slice p6 n6 q6)) (blk_on hb6 kC5); have kD6 := blk_old (o' := cel4 C1 (.slice p6 n6 q6)) (blk_on hb6 kD5); have kE6 := blk_old (o' := cel4 C1 (.slice p6 n6 q6)) (blk_on hb6 kE5); have kF6 := blk_new w6 (cel4 C1 (.slice p6 n6 q6)); have hc6 := (hc5.on hb6).on (bel1 w6 (cel4 C1 (.slice p6 n6 q6))); have hd6 := (hd5.on hb6).on (bel1 w6 (cel4 C1 (.slice p6 n6 q6))); have he6 := (he5.on hb6).on (bel1 w6 (cel4 C1 (.slice p6 n6 q6))); have hf6 := (hi6.on hb6).on (bel1 w6 (cel4 C1 (.slice p6 n6 q6))))
    | (go_at_call 12; refine (begun12 _).mono ?_; rintro e w7 ⟨rfl, hb7⟩; have kA7 := blk_on hb7 kA6; have kB7 := blk_on hb7 kB6; have kC7 := blk_on hb7 kC6; have kD7 := blk_on hb7 kD6; have kE7 := blk_on hb7 kE6; have kF7 := blk_on hb7 kF6; unfold cel4 at kA7 kB7; obtain ⟨x0, x1, x2, x3, y0, y1, y2, y3⟩ := eight_of kA7 kB7)
    | (go_at_call 15; clear tok1; refine (cA _ _ w7 (hi w7) (hi w7)).mono ?_; rintro e w8 ⟨rfl, hb8⟩; have kC8 := blk_on hb8 kC7; have kD8 := blk_on hb8 kD7; have kE8 := blk_on hb8 kE7; have kF8 := blk_on hb8 kF7; unfold cel4 at kC8 kD8; obtain ⟨x0, x1, x2, x3, y0, y1, y2, y3⟩ := eight_of kC8 kD8)
    | (go_at_call 15; clear tok2; refine (cB _ _ w8 ((hc6.on hb7).on hb8) ((hd6.on hb7).on hb8)).mono ?_; rintro e w9 ⟨rfl, hb9⟩; have kE9 := blk_on hb9 kE8; have kF9 := blk_on hb9 kF8; unfold cel4 at kE9 kF9; obtain ⟨x0, x1, x2, x3, y0, y1, y2, y3⟩ := eight_of kE9 kF9)
    | (go_at_call 15; refine (cC _ _ w9 (((he6.on hb7).on hb8).on hb9) (((hf6.on hb7).on hb8).on hb9)).mono ?_; rintro e w10 ⟨rfl, hb10⟩)
    | (go_at_call 38; refine (c38 w10).mono ?_; rintro e w10 ⟨rfl, rfl⟩)
    | (go_at_call 39; refine (c39 _).mono ?_; rintro e w10 ⟨rfl, rfl⟩))
  have hfin : Below w.heap.size w w10 := bel_then (bel_then (bel_then (bel_then (bel_then (bel_then (bel_then (bel_then (bel_then (bel_then (bel_then (bel_then (bel_then (bel_then (bel_then hb1 (bel1 w1 _)) hb2) (bel1 w2 _)) hb3) (bel1 w3 _)) hb4) (bel1 w4 _)) hb5) (bel1 w5 _)) hb6) (bel1 w6 _)) hb7) hb8) hb9) hb10
  go_ret
  exact ⟨rfl, hfin⟩
end Go.Proofs.YtbicodlclmdgaaaGreatDoor
