/-
  The walk of ValueChecks, the law itself.
-/
import Derived.Test.YtbicodlclmdgaaaGreatDoorChecks
namespace Go.Proofs.YtbicodlclmdgaaaGreatDoor
open Go.RowKit

def celV (x : V) (p : Option Addr) (n c : Nat) : Obj := .cells #[.int .i64 x.k, .int .i64 x.n, .string x.s, .slice p n c] 24

set_option maxRecDepth 20000 in
set_option maxHeartbeats 8000000 in
theorem checks3 (Y : V) (l : List V) (n : Int) (s : ByteArray) (sy sl : Value) (w : World) (hy : Y.In w 0 sy) (hS : Sl w 0 l sl) (hn : I64 n) (hs : s.size ≤ 140737488351232) :
    Calls Tryz.prog 3 #[Y.agg sy, sl, .int .i64 n, .string s] w fun e w' => e = .returned (.bool true) ∧ Below w.heap.size w w' := by
  have c8 := fun w h => (list8 l sl w h).mono (fun e w' h => gives_made h)
  have c9 := fun w h => (list9 l sl w h).mono (fun e w' h => gives_made h)
  have c10 := fun w h => map_is l sl w h
  have c11 := fun w h => refMap_is l sl w h
  have c13 := fun w h => check_any Y sy w h
  have c14 := fun w h => refCheck14 Y sy w h
  generalize madeOf (listV l) = A at *
  generalize Y.err = ye at *
  obtain ⟨A1, A2⟩ := A
  have cA := fun s1 s2 w hx hy => refSame_any A1 A1 s1 s2 w hx hy
  rw [cmp_self] at cA
  unfold Gives at c8 c9 c10 c11
  unfold V.agg at c13 c14 cA ⊢
  simp only at c8 c9
  obtain ⟨py, ny, qy, rfl⟩ := hy.header
  obtain ⟨W, hW⟩ : ∃ W, W = w.alloc (celV Y py ny qy) := ⟨_, rfl⟩
  have hV0 : W.heap[w.heap.size]? = some (celV Y py ny qy) := by rw [hW]; exact blk_new w _
  have hbW : Below w.heap.size w W := by rw [hW]; exact bel1 w _
  have hS0 := hS.on hbW
  have hy0 := hy.on hbW
  unfold celV at hW
  have tok1 : Hid True := trivial
  go_enter Tryz.func3, Tryz.ntmps3
  go_wp2_with (first
    | (go_at_call 8; rw [← hW]; clear hW; refine (c8 W hS0).mono ?_; rintro e w1 ⟨p1, n1, q1, rfl, hi1, hb1⟩; have hS1 := (hS0.on hb1).on (bel1 w1 (celV A1 p1 n1 q1)); have hV1 := blk_old (o' := celV A1 p1 n1 q1) (blk_on hb1 hV0); have hA1 := blk_new w1 (celV A1 p1 n1 q1); have hl1 := hb1.size; unfold celV at hS1)
    | (go_at_call 9; refine (c9 _ hS1).mono ?_; rintro e w2 ⟨p2, n2, q2, rfl, hi2, hb2⟩; have hS2 := (hS1.on hb2).on (bel1 w2 (celV A1 p2 n2 q2)); have hV2 := blk_old (o' := celV A1 p2 n2 q2) (blk_on hb2 hV1); have hA2 := blk_old (o' := celV A1 p2 n2 q2) (blk_on hb2 hA1); have hB2 := blk_new w2 (celV A1 p2 n2 q2); unfold celV at hS2)
    | (go_at_call 10; refine (c10 _ hS2).mono ?_; rintro e w3 ⟨⟨R1, R2⟩, hR, p3, n3, q3, rfl, hi3, hb3⟩; have hS3 := (hS2.on hb3).on (bel1 w3 (celV R1 p3 n3 q3)); have hV3 := blk_old (o' := celV R1 p3 n3 q3) (blk_on hb3 hV2); have hA3 := blk_old (o' := celV R1 p3 n3 q3) (blk_on hb3 hA2); have hB3 := blk_old (o' := celV R1 p3 n3 q3) (blk_on hb3 hB2); have hC3 := blk_new w3 (celV R1 p3 n3 q3); unfold celV at hS3)
    | (go_at_call 11; refine (c11 _ hS3).mono ?_; rintro e w4 ⟨R', hR', p4, n4, q4, rfl, hi4, hb4⟩; obtain rfl := hR.one hR'; have hV4 := blk_old (o' := celV R1 p4 n4 q4) (blk_on hb4 hV3); have hA4 := blk_old (o' := celV R1 p4 n4 q4) (blk_on hb4 hA3); have hB4 := blk_old (o' := celV R1 p4 n4 q4) (blk_on hb4 hB3); have hC4 := blk_old (o' := celV R1 p4 n4 q4) (blk_on hb4 hC3); have hD4 := blk_new w4 (celV R1 p4 n4 q4)))
  have cR := fun s1 s2 w hx hy => refSame_any R1 R1 s1 s2 w hx hy
  rw [cmp_self] at cR
  unfold V.agg at cR
  have b12 : Below w1.heap.size w1 w2 := bel_then (bel1 w1 _) hb2
  have b23 : Below w2.heap.size w2 w3 := bel_then (bel1 w2 _) hb3
  have b34 : Below w3.heap.size w3 w4 := bel_then (bel1 w3 _) hb4
  have b45 := bel1 w4 (celV R1 p4 n4 q4)
  have hbw : Below w.heap.size w (w4.alloc (celV R1 p4 n4 q4)) := bel_then (bel_then (bel_then (bel_then (bel_then hbW hb1) b12) b23) b34) b45
  have iV5 := (((((hy0.on hb1).on b12).on b23).on b34).on b45).on (Below.refl _ _).drew
  have iA5 := ((((hi1.on b12).on b23).on b34).on b45).on (Below.refl _ _).drew
  have iB5 := (((hi2.on b23).on b34).on b45).on (Below.refl _ _).drew
  have iC5 := ((hi3.on b34).on b45).on (Below.refl _ _).drew
  have iD5 := (hi4.on b45).on (Below.refl _ _).drew
  unfold celV at hV4 hA4 hB4 hC4 hD4 hbw iV5 iA5 iB5 iC5 iD5
  generalize w4.alloc (.cells #[.int .i64 R1.k, .int .i64 R1.n, .string R1.s, .slice p4 n4 q4] 24) = w5 at *
  have hV5 := hV4
  have hA5 := hA4
  have hB5 := hB4
  have hC5 := hC4
  have hD5 := hD4
  clear hV0 hV1 hA1 hV2 hA2 hB2 hV3 hA3 hB3 hC3 hV4 hA4 hB4 hC4 hD4 hS1 hS2 hS3 hS0 hy0 hi1 hi2 hi3 hi4 hb1 hb2 hb3 hb4 b12 b23 b34 b45 hbW c8 c9 c10 c11 hR hR' hl1
  have nx1 : (ye != ye) = false := by simp
  have nx2 : (A2 != A2) = false := by simp
  have nx3 : (R2 != R2) = false := by simp
  go_region_held3 (fun u => u.cell? ⟨w.heap.size, 0, none⟩ = some (.int .i64 Y.k) ∧ u.cell? ⟨w.heap.size, 1, none⟩ = some (.int .i64 Y.n) ∧ u.cell? ⟨w.heap.size, 2, none⟩ = some (.string Y.s) ∧ u.cell? ⟨w.heap.size, 3, none⟩ = some (.slice py ny qy) ∧ u.cell? ⟨w1.heap.size, 0, none⟩ = some (.int .i64 A1.k) ∧ u.cell? ⟨w1.heap.size, 1, none⟩ = some (.int .i64 A1.n) ∧ u.cell? ⟨w1.heap.size, 2, none⟩ = some (.string A1.s) ∧ u.cell? ⟨w1.heap.size, 3, none⟩ = some (.slice p1 n1 q1) ∧ u.cell? ⟨w2.heap.size, 0, none⟩ = some (.int .i64 A1.k) ∧ u.cell? ⟨w2.heap.size, 1, none⟩ = some (.int .i64 A1.n) ∧ u.cell? ⟨w2.heap.size, 2, none⟩ = some (.string A1.s) ∧ u.cell? ⟨w2.heap.size, 3, none⟩ = some (.slice p2 n2 q2) ∧ u.cell? ⟨w3.heap.size, 0, none⟩ = some (.int .i64 R1.k) ∧ u.cell? ⟨w3.heap.size, 1, none⟩ = some (.int .i64 R1.n) ∧ u.cell? ⟨w3.heap.size, 2, none⟩ = some (.string R1.s) ∧ u.cell? ⟨w3.heap.size, 3, none⟩ = some (.slice p3 n3 q3) ∧ u.cell? ⟨w4.heap.size, 0, none⟩ = some (.int .i64 R1.k) ∧ u.cell? ⟨w4.heap.size, 1, none⟩ = some (.int .i64 R1.n) ∧ u.cell? ⟨w4.heap.size, 2, none⟩ = some (.string R1.s) ∧ u.cell? ⟨w4.heap.size, 3, none⟩ = some (.slice p4 n4 q4))
    (first | exact twenty hV10 hA10 hB10 hC10 hD10 | exact twenty hV9 hA9 hB9 hC9 hD9 | exact twenty hV8 hA8 hB8 hC8 hD8 | exact twenty hV7 hA7 hB7 hC7 hD7 | exact twenty hV6 hA6 hB6 hC6 hD6 | exact twenty hV5 hA5 hB5 hC5 hD5)
    (first
      | (go_at_call 12; refine (begun12 _).mono ?_; rintro e w6 ⟨rfl, hb6⟩; have hV6 := blk_on hb6 hV5; have hA6 := blk_on hb6 hA5; have hB6 := blk_on hb6 hB5; have hC6 := blk_on hb6 hC5; have hD6 := blk_on hb6 hD5; have iV6 := iV5.on hb6; have iA6 := iA5.on hb6; have iB6 := iB5.on hb6; have iC6 := iC5.on hb6; have iD6 := iD5.on hb6)
      | (go_at_call 13; refine (c13 _ iV6).mono ?_; rintro e w7 ⟨rfl, hb7⟩; have hV7 := blk_on hb7 hV6; have hA7 := blk_on hb7 hA6; have hB7 := blk_on hb7 hB6; have hC7 := blk_on hb7 hC6; have hD7 := blk_on hb7 hD6; have iV7 := iV6.on hb7; have iA7 := iA6.on hb7; have iB7 := iB6.on hb7; have iC7 := iC6.on hb7; have iD7 := iD6.on hb7)
      | (go_at_call 14; refine (c14 _ iV7).mono ?_; rintro e w8 ⟨rfl, hb8⟩; have hV8 := blk_on hb8 hV7; have hA8 := blk_on hb8 hA7; have hB8 := blk_on hb8 hB7; have hC8 := blk_on hb8 hC7; have hD8 := blk_on hb8 hD7; have iV8 := iV7.on hb8; have iA8 := iA7.on hb8; have iB8 := iB7.on hb8; have iC8 := iC7.on hb8; have iD8 := iD7.on hb8)
      | (go_at_call 15; clear tok1; refine (cA _ _ _ iA8 iB8).mono ?_; rintro e w9 ⟨rfl, hb9⟩; have hV9 := blk_on hb9 hV8; have hA9 := blk_on hb9 hA8; have hB9 := blk_on hb9 hB8; have hC9 := blk_on hb9 hC8; have hD9 := blk_on hb9 hD8; have iV9 := iV8.on hb9; have iA9 := iA8.on hb9; have iB9 := iB8.on hb9; have iC9 := iC8.on hb9; have iD9 := iD8.on hb9)
      | (go_at_call 15; refine (cR _ _ _ iC9 iD9).mono ?_; rintro e w10 ⟨rfl, hb10⟩; have hV10 := blk_on hb10 hV9; have hA10 := blk_on hb10 hA9; have hB10 := blk_on hb10 hB9; have hC10 := blk_on hb10 hC9; have hD10 := blk_on hb10 hD9; have iV10 := iV9.on hb10; have iA10 := iA9.on hb10; have iB10 := iB9.on hb10; have iC10 := iC9.on hb10; have iD10 := iD9.on hb10))
  have hbw10 : Below w.heap.size w w10 := bel_then (bel_then (bel_then (bel_then (bel_then (bel_then hbw (Below.refl _ _).drew) hb6) hb7) hb8) hb9) hb10
  clear hV5 hV6 hV7 hV8 hV9 hV10 hA5 hA6 hA7 hA8 hA9 hA10 hB5 hB6 hB7 hB8 hB9 hB10 hC5 hC6 hC7 hC8 hC9 hC10 hD5 hD6 hD7 hD8 hD9 hD10 iV5 iV6 iV7 iV8 iV9 iV10 iA5 iA6 iA7 iA8 iA9 iA10 iB5 iB6 iB7 iB8 iB9 iB10 iC5 iC6 iC7 iC8 iC9 iC10 iD5 iD6 iD7 iD8 iD9 iD10 hb6 hb7 hb8 hb9 hb10 cA cR c13 c14 nx1 nx2 nx3 hS hy
  have cI := fun w => refSame_any (.mk 1 n ⟨#[]⟩ []) (.mk 1 n ⟨#[]⟩ []) (.slice none 0 0) (.slice none 0 0) w (in_plain (by unfold I64; omega) hn (by decide) w 0) (in_plain (by unfold I64; omega) hn (by decide) w 0)
  have cS := fun w => refSame_any (.mk 2 0 s []) (.mk 2 0 s []) (.slice none 0 0) (.slice none 0 0) w (in_plain (by unfold I64; omega) (by unfold I64; omega) hs w 0) (in_plain (by unfold I64; omega) (by unfold I64; omega) hs w 0)
  have cV := fun w => refSame_any (.mk 6 n ⟨#[]⟩ []) (.mk 6 n ⟨#[]⟩ []) (.slice none 0 0) (.slice none 0 0) w (in_plain (by unfold I64; omega) hn (by decide) w 0) (in_plain (by unfold I64; omega) hn (by decide) w 0)
  have cE := fun w => refSame_any (.mk 7 n ⟨#[]⟩ []) (.mk 7 n ⟨#[]⟩ []) (.slice none 0 0) (.slice none 0 0) w (in_plain (by unfold I64; omega) hn (by decide) w 0) (in_plain (by unfold I64; omega) hn (by decide) w 0)
  rw [cmp_self] at cI cS cV cE
  unfold V.agg at cI cS cV cE
  simp only [V.k, V.n, V.s] at cI cS cV cE
  have t1 : Hid True := trivial
  have t2 : Hid True := trivial
  have t3 : Hid True := trivial
  have t4 : Hid True := trivial
  rename_i hHeld
  clear hHeld
  by_cases h0 : 0 < n
  · have hd : decide (0 < n) = true := decide_eq_true h0
    have cB := fun w => refSame_any (.mk 3 1 ⟨#[]⟩ []) (.mk 3 1 ⟨#[]⟩ []) (.slice none 0 0) (.slice none 0 0) w (in_plain (by unfold I64; omega) (by unfold I64; omega) (by decide) w 0) (in_plain (by unfold I64; omega) (by unfold I64; omega) (by decide) w 0)
    rw [cmp_self] at cB
    unfold V.agg at cB
    simp only [V.k, V.n, V.s] at cB
    go_wp2_with (first
      | (go_at_call 16; refine (int16 n _).mono ?_; rintro e w11 ⟨rfl, hb11⟩)
      | (go_at_call 17; refine (refInt17 n _).mono ?_; rintro e w12 ⟨rfl, hb12⟩)
      | (go_at_call 15; clear t1; refine (cI _).mono ?_; rintro e w13 ⟨rfl, hb13⟩)
      | (go_at_call 18; refine (str18 s _).mono ?_; rintro e w14 ⟨rfl, hb14⟩)
      | (go_at_call 19; refine (refStr19 s _).mono ?_; rintro e w15 ⟨rfl, hb15⟩)
      | (go_at_call 15; clear t2; refine (cS _).mono ?_; rintro e w16 ⟨rfl, hb16⟩)
      | (go_at_call 20; refine (vertex20 n _).mono ?_; rintro e w17 ⟨rfl, hb17⟩)
      | (go_at_call 21; refine (refVertex21 n _).mono ?_; rintro e w18 ⟨rfl, hb18⟩)
      | (go_at_call 15; clear t3; refine (cV _).mono ?_; rintro e w19 ⟨rfl, hb19⟩)
      | (go_at_call 22; refine (edge22 n _).mono ?_; rintro e w20 ⟨rfl, hb20⟩)
      | (go_at_call 23; refine (refEdge23 n _).mono ?_; rintro e w21 ⟨rfl, hb21⟩)
      | (go_at_call 15; clear t4; refine (cE _).mono ?_; rintro e w22 ⟨rfl, hb22⟩)
      | (go_at_call 24; refine (bool24 true _).mono ?_; rintro e w23 ⟨rfl, hb23⟩)
      | (go_at_call 25; refine (refBool25 true _).mono ?_; rintro e w24 ⟨rfl, hb24⟩)
      | (go_at_call 15; refine (cB _).mono ?_; rintro e w25 ⟨rfl, hb25⟩))
    have hfin : Below w.heap.size w w25 := bel_then (bel_then (bel_then (bel_then (bel_then (bel_then (bel_then (bel_then (bel_then (bel_then (bel_then (bel_then (bel_then (bel_then (bel_then (hbw10) hb11) hb12) hb13) hb14) hb15) hb16) hb17) hb18) hb19) hb20) hb21) hb22) hb23) hb24) hb25
    go_ret
    exact ⟨rfl, hfin⟩
  · have hd : decide (0 < n) = false := decide_eq_false h0
    have cB := fun w => refSame_any (.mk 3 0 ⟨#[]⟩ []) (.mk 3 0 ⟨#[]⟩ []) (.slice none 0 0) (.slice none 0 0) w (in_plain (by unfold I64; omega) (by unfold I64; omega) (by decide) w 0) (in_plain (by unfold I64; omega) (by unfold I64; omega) (by decide) w 0)
    rw [cmp_self] at cB
    unfold V.agg at cB
    simp only [V.k, V.n, V.s] at cB
    go_wp2_with (first
      | (go_at_call 16; refine (int16 n _).mono ?_; rintro e w11 ⟨rfl, hb11⟩)
      | (go_at_call 17; refine (refInt17 n _).mono ?_; rintro e w12 ⟨rfl, hb12⟩)
      | (go_at_call 15; clear t1; refine (cI _).mono ?_; rintro e w13 ⟨rfl, hb13⟩)
      | (go_at_call 18; refine (str18 s _).mono ?_; rintro e w14 ⟨rfl, hb14⟩)
      | (go_at_call 19; refine (refStr19 s _).mono ?_; rintro e w15 ⟨rfl, hb15⟩)
      | (go_at_call 15; clear t2; refine (cS _).mono ?_; rintro e w16 ⟨rfl, hb16⟩)
      | (go_at_call 20; refine (vertex20 n _).mono ?_; rintro e w17 ⟨rfl, hb17⟩)
      | (go_at_call 21; refine (refVertex21 n _).mono ?_; rintro e w18 ⟨rfl, hb18⟩)
      | (go_at_call 15; clear t3; refine (cV _).mono ?_; rintro e w19 ⟨rfl, hb19⟩)
      | (go_at_call 22; refine (edge22 n _).mono ?_; rintro e w20 ⟨rfl, hb20⟩)
      | (go_at_call 23; refine (refEdge23 n _).mono ?_; rintro e w21 ⟨rfl, hb21⟩)
      | (go_at_call 15; clear t4; refine (cE _).mono ?_; rintro e w22 ⟨rfl, hb22⟩)
      | (go_at_call 24; refine (bool24 false _).mono ?_; rintro e w23 ⟨rfl, hb23⟩)
      | (go_at_call 25; refine (refBool25 false _).mono ?_; rintro e w24 ⟨rfl, hb24⟩)
      | (go_at_call 15; refine (cB _).mono ?_; rintro e w25 ⟨rfl, hb25⟩))
    have hfin : Below w.heap.size w w25 := bel_then (bel_then (bel_then (bel_then (bel_then (bel_then (bel_then (bel_then (bel_then (bel_then (bel_then (bel_then (bel_then (bel_then (bel_then (hbw10) hb11) hb12) hb13) hb14) hb15) hb16) hb17) hb18) hb19) hb20) hb21) hb22) hb23) hb24) hb25
    go_ret
    exact ⟨rfl, hfin⟩
end Go.Proofs.YtbicodlclmdgaaaGreatDoor
