/-
  The walk of KeysBegins.
-/
import Derived.Test.YtbgikgeknnmelaaGreatRkp
namespace Go.Proofs.YtbgikgeknnmelaaGreat
open Go.RowKit
set_option linter.unusedVariables false      -- a walk need not use every condition

theorem prop_any (k : Int) (nm : ByteArray) (hn : nm.size ≤ 1048570) (vs : List V) (sv : Value) (w : World) (hv : Sl w 0 vs sv) (hm : ∀ v ∈ vs, v.many ≤ 1048576) : Calls Tryz.prog 27 #[.int .i64 k, .string nm, sv] w (AppR w (propK k nm vs)) := by
  cases vs with
  | nil =>
    obtain ⟨p, cap, rfl, -⟩ := hv
    exact prop0_27 k nm hn w p cap
  | cons v r => exact prop1_27 k nm hn v (hm v (by simp)) r w sv hv
theorem rprop_any (k : Int) (nm : ByteArray) (hn : nm.size ≤ 1048570) (vs : List V) (sv : Value) (w : World) (hv : Sl w 0 vs sv) (hm : ∀ v ∈ vs, v.many ≤ 1048576) : Calls Tryz.prog 28 #[.int .i64 k, .string nm, sv] w (AppR w (propK k nm vs)) := by
  cases vs with
  | nil =>
    obtain ⟨p, cap, rfl, -⟩ := hv
    exact rprop0_28 k nm hn w p cap
  | cons v r => exact rprop1_28 k nm hn v (hm v (by simp)) r w sv hv
set_option maxHeartbeats 8000000 in
set_option maxRecDepth 20000 in
theorem begins4 (e : V) (se : Value) (ls : List ByteArray) (sl : Value) (vs : List V) (sv : Value) (w : World) (he : e.In w 0 se) (hme : e.many ≤ 1048576) (hs : Ss w sl ls) (hv : Sl w 0 vs sv) (hmv : ∀ v ∈ vs, v.many ≤ 1048576) :
    Calls Tryz.prog 4 #[e.agg se, sl, sv] w fun x w' => x = .returned (.bool true) ∧ Below w.heap.size w w' := by
  have hn : I64 e.n := by cases e; exact ((V.in_iff _ _ _ _).1 he).2.1
  obtain ⟨p1, n1, q1, rfl⟩ := he.header
  obtain ⟨nm, hnm, hnmq⟩ : ∃ nm : ByteArray, nm.size ≤ 1048570 ∧ (ls = [] ∧ nm = ⟨#[]⟩ ∨ ∃ r, ls = nm :: r) := by
    cases ls with
    | nil => exact ⟨⟨#[]⟩, by decide, .inl ⟨rfl, rfl⟩⟩
    | cons s r => obtain ⟨_, _, _, _, _, h3, _⟩ := hs; exact ⟨s, h3 s (by simp), .inr ⟨r, rfl⟩⟩
  have c19 := fun W (hB : Below w.heap.size w W) => key19 e _ W (he.on hB) hme
  have c20 := fun W (hB : Below w.heap.size w W) => rkey20 e _ W (he.on hB) hme
  have c21 := fun W (hB : Below w.heap.size w W) => out21 e.n hn ls _ W (hs.on hB)
  have c22 := fun W (hB : Below w.heap.size w W) => rout22 e.n hn ls _ W (hs.on hB)
  have c23 := fun W (hB : Below w.heap.size w W) => in23 e.n hn ls _ W (hs.on hB)
  have c24 := fun W (hB : Below w.heap.size w W) => rin24 e.n hn ls _ W (hs.on hB)
  have c25 := fun W (hB : Below w.heap.size w W) => label25 e.k ls _ W (hs.on hB)
  have c26 := fun W (hB : Below w.heap.size w W) => rlabel26 e.k ls _ W (hs.on hB)
  have c27 := fun W (hB : Below w.heap.size w W) => prop_any e.k nm hnm vs sv W (hv.on hB) hmv
  have c28 := fun W (hB : Below w.heap.size w W) => rprop_any e.k nm hnm vs sv W (hv.on hB) hmv
  generalize keyQ e = K1 at *
  generalize outQ e.n ls = K2 at *
  generalize inQ e.n ls = K3 at *
  generalize labelQ e.k ls = K4 at *
  generalize propK e.k nm vs = K5 at *
  unfold V.agg at *
  obtain ⟨p, cap, rfl, hc1, hc2, -, hcs⟩ := hs
  obtain ⟨p2, cap2, rfl, -⟩ := hv
  unfold maxLen at hc2
  rcases hnmq with ⟨rfl, rfl⟩ | ⟨r, rfl⟩
  · go_enter Tryz.func4, Tryz.ntmps4
    go_wp2
    have E0 := blk_new w (.cells #[.int .i64 e.k, .int .i64 e.n, .string e.s, .slice p1 n1 q1] 29)
    have S0 := S_dr (four_S E0)
    have B0 := bel_drew (bel1 w (.cells #[.int .i64 e.k, .int .i64 e.n, .string e.s, .slice p1 n1 q1] 29))
    clear E0
    generalize w.alloc (.cells #[.int .i64 e.k, .int .i64 e.n, .string e.s, .slice p1 n1 q1] 29) = W at *
    obtain ⟨G, hG⟩ : ∃ G, w.heap.size = G := ⟨_, rfl⟩
    rw [hG] at S0
    go_region_held3 (fun u => u.cell? ⟨G, 0, none⟩ = some (.int .i64 e.k) ∧ u.cell? ⟨G, 1, none⟩ = some (.int .i64 e.n) ∧ u.cell? ⟨G, 2, none⟩ = some (.string e.s) ∧ u.cell? ⟨G, 3, none⟩ = some (.slice p1 n1 q1))
      (first | with_reducible exact S0 | with_reducible exact S1 | with_reducible exact S2 | with_reducible exact S3 | with_reducible exact S4 | with_reducible exact S5 | with_reducible exact S6 | with_reducible exact S7 | with_reducible exact S8 | with_reducible exact S9 | with_reducible exact S10 | with_reducible exact S11)
      (first
        | (go_at_call 8; go_loud (refine (begun8 _).mono ?_; rintro e w1 ⟨rfl, hB1⟩; have S1 := S_on hB1 S0; have B1 := bel_then B0 hB1; clear hB1))
        | (go_at_call 19; go_loud (refine (c19 _ B1).mono ?_; rintro e w2 ⟨b2, rfl, hb2, hB2⟩; have S2 := S_on hB2 S1; have B2 := bel_then B1 hB2; clear hB2))
        | (go_at_call 20; go_loud (refine (c20 _ B2).mono ?_; rintro e w3 ⟨b3, rfl, hb3, hB3⟩; have S3 := S_on hB3 S2; have B3 := bel_then B2 hB3; have c14 := equal14 _ _ _ _ _ (hb2.bs.on hB3) hb3.bs; rw [beq_self_eq_true] at c14; clear hb2 hb3 hB3))
        | (go_at_call 21; go_loud (refine (c21 _ B3).mono ?_; rintro e w4 ⟨b4, rfl, hb4, hB4⟩; have S4 := S_on hB4 S3; have B4 := bel_then B3 hB4; clear hB4))
        | (go_at_call 22; go_loud (refine (c22 _ B4).mono ?_; rintro e w5 ⟨b5, rfl, hb5, hB5⟩; have S5 := S_on hB5 S4; have B5 := bel_then B4 hB5; have c14 := equal14 _ _ _ _ _ (hb4.bs.on hB5) hb5.bs; rw [beq_self_eq_true] at c14; clear hb4 hb5 hB5))
        | (go_at_call 23; go_loud (refine (c23 _ B5).mono ?_; rintro e w6 ⟨b6, rfl, hb6, hB6⟩; have S6 := S_on hB6 S5; have B6 := bel_then B5 hB6; clear hB6))
        | (go_at_call 24; go_loud (refine (c24 _ B6).mono ?_; rintro e w7 ⟨b7, rfl, hb7, hB7⟩; have S7 := S_on hB7 S6; have B7 := bel_then B6 hB7; have c14 := equal14 _ _ _ _ _ (hb6.bs.on hB7) hb7.bs; rw [beq_self_eq_true] at c14; clear hb6 hb7 hB7))
        | (go_at_call 25; go_loud (refine (c25 _ B7).mono ?_; rintro e w8 ⟨b8, rfl, hb8, hB8⟩; have S8 := S_on hB8 S7; have B8 := bel_then B7 hB8; clear hB8))
        | (go_at_call 26; go_loud (refine (c26 _ B8).mono ?_; rintro e w9 ⟨b9, rfl, hb9, hB9⟩; have S9 := S_on hB9 S8; have B9 := bel_then B8 hB9; have c14 := equal14 _ _ _ _ _ (hb8.bs.on hB9) hb9.bs; rw [beq_self_eq_true] at c14; clear hb8 hb9 hB9))
        | (go_at_call 27; go_loud (refine (c27 _ B9).mono ?_; rintro e w10 ⟨b10, rfl, hb10, hB10⟩; have S10 := S_on hB10 S9; have B10 := bel_then B9 hB10; clear hB10))
        | (go_at_call 28; go_loud (refine (c28 _ B10).mono ?_; rintro e w11 ⟨b11, rfl, hb11, hB11⟩; have S11 := S_on hB11 S10; have B11 := bel_then B10 hB11; have c14 := equal14 _ _ _ _ _ (hb10.bs.on hB11) hb11.bs; rw [beq_self_eq_true] at c14; clear hb10 hb11 hB11))
        | (go_at_call 14; go_loud (refine c14.mono ?_; rintro e w' ⟨rfl, rfl⟩; clear c14)))
    all_goals go_wp2
    all_goals go_ret
    all_goals exact ⟨rfl, B11⟩
  · obtain ⟨g, o, rfl, hc⟩ := hcs.resolve_left (by simp)
    have c0 := hc 0 (by simp)
    simp only [Nat.add_zero, List.getElem_cons_zero] at c0
    rw [List.length_cons] at *
    generalize r.length = m at *
    have d0 := some_on (bel1 w (.cells #[.int .i64 e.k, .int .i64 e.n, .string e.s, .slice p1 n1 q1] 29)) c0
    clear hc hcs
    go_enter Tryz.func4, Tryz.ntmps4
    go_wp2
    have E0 := blk_new w (.cells #[.int .i64 e.k, .int .i64 e.n, .string e.s, .slice p1 n1 q1] 29)
    have S0 := S_dr (four_S E0)
    have B0 := bel_drew (bel1 w (.cells #[.int .i64 e.k, .int .i64 e.n, .string e.s, .slice p1 n1 q1] 29))
    clear E0
    generalize w.alloc (.cells #[.int .i64 e.k, .int .i64 e.n, .string e.s, .slice p1 n1 q1] 29) = W at *
    obtain ⟨G, hG⟩ : ∃ G, w.heap.size = G := ⟨_, rfl⟩
    rw [hG] at S0
    go_region_held3 (fun u => u.cell? ⟨G, 0, none⟩ = some (.int .i64 e.k) ∧ u.cell? ⟨G, 1, none⟩ = some (.int .i64 e.n) ∧ u.cell? ⟨G, 2, none⟩ = some (.string e.s) ∧ u.cell? ⟨G, 3, none⟩ = some (.slice p1 n1 q1))
      (first | with_reducible exact S0 | with_reducible exact S1 | with_reducible exact S2 | with_reducible exact S3 | with_reducible exact S4 | with_reducible exact S5 | with_reducible exact S6 | with_reducible exact S7 | with_reducible exact S8 | with_reducible exact S9 | with_reducible exact S10 | with_reducible exact S11)
      (first
        | (go_at_call 8; go_loud (refine (begun8 _).mono ?_; rintro e w1 ⟨rfl, hB1⟩; have S1 := S_on hB1 S0; have B1 := bel_then B0 hB1; clear hB1))
        | (go_at_call 19; go_loud (refine (c19 _ B1).mono ?_; rintro e w2 ⟨b2, rfl, hb2, hB2⟩; have S2 := S_on hB2 S1; have B2 := bel_then B1 hB2; clear hB2))
        | (go_at_call 20; go_loud (refine (c20 _ B2).mono ?_; rintro e w3 ⟨b3, rfl, hb3, hB3⟩; have S3 := S_on hB3 S2; have B3 := bel_then B2 hB3; have c14 := equal14 _ _ _ _ _ (hb2.bs.on hB3) hb3.bs; rw [beq_self_eq_true] at c14; clear hb2 hb3 hB3))
        | (go_at_call 21; go_loud (refine (c21 _ B3).mono ?_; rintro e w4 ⟨b4, rfl, hb4, hB4⟩; have S4 := S_on hB4 S3; have B4 := bel_then B3 hB4; clear hB4))
        | (go_at_call 22; go_loud (refine (c22 _ B4).mono ?_; rintro e w5 ⟨b5, rfl, hb5, hB5⟩; have S5 := S_on hB5 S4; have B5 := bel_then B4 hB5; have c14 := equal14 _ _ _ _ _ (hb4.bs.on hB5) hb5.bs; rw [beq_self_eq_true] at c14; clear hb4 hb5 hB5))
        | (go_at_call 23; go_loud (refine (c23 _ B5).mono ?_; rintro e w6 ⟨b6, rfl, hb6, hB6⟩; have S6 := S_on hB6 S5; have B6 := bel_then B5 hB6; clear hB6))
        | (go_at_call 24; go_loud (refine (c24 _ B6).mono ?_; rintro e w7 ⟨b7, rfl, hb7, hB7⟩; have S7 := S_on hB7 S6; have B7 := bel_then B6 hB7; have c14 := equal14 _ _ _ _ _ (hb6.bs.on hB7) hb7.bs; rw [beq_self_eq_true] at c14; clear hb6 hb7 hB7))
        | (go_at_call 25; go_loud (refine (c25 _ B7).mono ?_; rintro e w8 ⟨b8, rfl, hb8, hB8⟩; have S8 := S_on hB8 S7; have B8 := bel_then B7 hB8; clear hB8))
        | (go_at_call 26; go_loud (refine (c26 _ B8).mono ?_; rintro e w9 ⟨b9, rfl, hb9, hB9⟩; have S9 := S_on hB9 S8; have B9 := bel_then B8 hB9; have c14 := equal14 _ _ _ _ _ (hb8.bs.on hB9) hb9.bs; rw [beq_self_eq_true] at c14; clear hb8 hb9 hB9))
        | (go_at_call 27; go_loud (refine (c27 _ B9).mono ?_; rintro e w10 ⟨b10, rfl, hb10, hB10⟩; have S10 := S_on hB10 S9; have B10 := bel_then B9 hB10; clear hB10))
        | (go_at_call 28; go_loud (refine (c28 _ B10).mono ?_; rintro e w11 ⟨b11, rfl, hb11, hB11⟩; have S11 := S_on hB11 S10; have B11 := bel_then B10 hB11; have c14 := equal14 _ _ _ _ _ (hb10.bs.on hB11) hb11.bs; rw [beq_self_eq_true] at c14; clear hb10 hb11 hB11))
        | (go_at_call 14; go_loud (refine c14.mono ?_; rintro e w' ⟨rfl, rfl⟩; clear c14)))
    all_goals go_wp2
    all_goals go_ret
    all_goals exact ⟨rfl, B11⟩
end Go.Proofs.YtbgikgeknnmelaaGreat
