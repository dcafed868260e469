/-
  A log that no call made; WalNone.
-/
import Derived.Test.YtnclhjjhobbbjaaDoorZBegun
namespace Go.Proofs.YtnclhjjhobbbjaaDoor
open Go.RowKit Go.Maps
set_option linter.unusedVariables false      -- a walk need not use every condition
attribute [local go_sem ↓] Go.wp_at_zero Go.wp_at_succ

/-- A log that no call made: none, or one of zeros. -/
def UnL (w : World) (v : Value) : Prop := v = .pointer none ∨ ∃ z, v = .pointer (some ⟨z, 0, none⟩) ∧ w.heap[z]? = some (.cells #[.pointer none, .int .i64 0, .int .i64 0, .slice none 0 0, .int .i64 0, .bool false, .bool false] 54)
theorem UnL.on {w w' : World} {v : Value} (h : UnL w v) (hb : Below w.heap.size w w') : UnL w' v := by
  rcases h with h | ⟨z, h1, h2⟩
  · exact .inl h
  · exact .inr ⟨z, h1, blk_on hb h2⟩
theorem un41 (w : World) (v : Value) (h : UnL w v) : Calls Tryd.prog 41 #[v] w fun e w' => e = .returned (.bool false) ∧ Below w.heap.size w w' := by
  rcases h with rfl | ⟨z, rfl, hb⟩
  · exact (nilMade41 w).mono fun e w' ⟨h1, h2⟩ => ⟨h1, by rw [h2]; exact Below.refl _ _⟩
  · obtain ⟨c0, c1, c2, c3, c4, c5, c6, -⟩ := seven_of hb
    have cR := isRight37 w 0 (.int .i64 0) (.slice none 0 0) rfl rfl
    rw [show decide ((0 : Int) < 0) = false by decide] at cR
    clear hb
    go_enter Tryd.func41, Tryd.ntmps41
    go_wp2_with (first | (go_at_call 37; refine cR.mono ?_; rintro e w' ⟨rfl, rfl⟩))
    go_ret
    exact ⟨rfl, bel1 w _⟩
theorem UnL.ptr {w : World} {v : Value} (h : UnL w v) : ∃ p, v = .pointer p := by
  rcases h with rfl | ⟨z, rfl, -⟩
  · exact ⟨_, rfl⟩
  · exact ⟨_, rfl⟩
theorem un32 (w : World) (v : Value) (h : UnL w v) : Calls Tryd.prog 32 #[v] w fun e w' => e = .returned (.int .i64 2) ∧ Below w.heap.size w w' := by
  have c := un41 w v h
  obtain ⟨p, rfl⟩ := h.ptr
  clear h
  go_enter Tryd.func32, Tryd.ntmps32
  go_wp2_with (first | (go_at_call 41; refine c.mono ?_; rintro e w' ⟨rfl, hb⟩))
  go_ret
  exact ⟨rfl, hb⟩
theorem un12 (w : World) (v : Value) (h : UnL w v) (q : Option Addr) (n k : Nat) : Calls Tryd.prog 12 #[v, .slice q n k] w fun e w' => e = .returned (.int .i64 2) ∧ Below w.heap.size w w' := by
  have c := un32 w v h
  obtain ⟨p, rfl⟩ := h.ptr
  clear h
  go_enter Tryd.func12, Tryd.ntmps12
  go_wp2_with (first | (go_at_call 32; refine c.mono ?_; rintro e w' ⟨rfl, hb⟩))
  go_ret
  exact ⟨rfl, hb⟩
theorem un13 (w : World) (v : Value) (h : UnL w v) : Calls Tryd.prog 13 #[v] w fun e w' => e = .returned (.int .i64 2) ∧ Below w.heap.size w w' := by
  have c := un32 w v h
  obtain ⟨p, rfl⟩ := h.ptr
  clear h
  go_enter Tryd.func13, Tryd.ntmps13
  go_wp2_with (first | (go_at_call 32; refine c.mono ?_; rintro e w' ⟨rfl, hb⟩))
  go_ret
  exact ⟨rfl, hb⟩
theorem un21 (w : World) (v : Value) (h : UnL w v) : Calls Tryd.prog 21 #[v] w fun e w' => e = .returned (.int .i64 0) ∧ Below w.heap.size w w' := by
  have c := un41 w v h
  obtain ⟨p, rfl⟩ := h.ptr
  clear h
  go_enter Tryd.func21, Tryd.ntmps21
  go_wp2_with (first | (go_at_call 41; refine c.mono ?_; rintro e w' ⟨rfl, hb⟩))
  go_ret
  exact ⟨rfl, hb⟩
theorem un22 (w : World) (v : Value) (h : UnL w v) : Calls Tryd.prog 22 #[v] w fun e w' => e = .returned (.int .i64 0) ∧ Below w.heap.size w w' := by
  have c := un41 w v h
  obtain ⟨p, rfl⟩ := h.ptr
  clear h
  go_enter Tryd.func22, Tryd.ntmps22
  go_wp2_with (first | (go_at_call 41; refine c.mono ?_; rintro e w' ⟨rfl, hb⟩))
  go_ret
  exact ⟨rfl, hb⟩
theorem un20 (w : World) (v : Value) (h : UnL w v) : Calls Tryd.prog 20 #[v] w fun e w' => e = .returned (.int .i64 0) ∧ Below w.heap.size w w' := by
  have c := un41 w v h
  obtain ⟨p, rfl⟩ := h.ptr
  clear h
  go_enter Tryd.func20, Tryd.ntmps20
  go_wp2_with (first | (go_at_call 41; refine c.mono ?_; rintro e w' ⟨rfl, hb⟩))
  go_ret
  exact ⟨rfl, hb⟩
theorem un23 (w : World) (v : Value) (h : UnL w v) : Calls Tryd.prog 23 #[v] w fun e w' => e = .returned (.bool false) ∧ Below w.heap.size w w' := by
  have c := un41 w v h
  obtain ⟨p, rfl⟩ := h.ptr
  clear h
  go_enter Tryd.func23, Tryd.ntmps23
  go_wp2_with (first | (go_at_call 41; refine c.mono ?_; rintro e w' ⟨rfl, hb⟩))
  go_ret
  exact ⟨rfl, hb⟩
/-! ### No disk -/
theorem nil31 (w : World) : Calls Tryd.prog 31 #[.pointer none] w fun e w' => e = .returned (.bool false) ∧ w' = w := by
  go_enter Tryd.func31, Tryd.ntmps31
  go_wp2
  go_ret
  exact ⟨rfl, rfl⟩
theorem nil42 (w : World) : Calls Tryd.prog 42 #[.pointer none] w fun e w' => e = .returned (.int .i64 0) ∧ w' = w := by
  have c := nil31 w
  go_enter Tryd.func42, Tryd.ntmps42
  go_wp2_with (first | (go_at_call 31; refine c.mono ?_; rintro e w' ⟨rfl, rfl⟩))
  go_ret
  exact ⟨rfl, rfl⟩
theorem nil24 (w : World) : Calls Tryd.prog 24 #[.pointer none] w fun e w' => e = .returned (.bool false) ∧ w' = w := by
  have c := nil42 w
  go_enter Tryd.func24, Tryd.ntmps24
  go_wp2_with (first | (go_at_call 42; refine c.mono ?_; rintro e w' ⟨rfl, rfl⟩))
  go_ret
  exact ⟨rfl, rfl⟩
theorem nil7 (w : World) : Calls Tryd.prog 7 #[.pointer none, .int .i64 3, .slice none 0 0] w fun e w' => e = .returned (.tuple #[.pointer none, .int .i64 2]) ∧ w' = w := by
  have c := nil24 w
  go_enter Tryd.func7, Tryd.ntmps7
  go_wp2_with (first | (go_at_call 24; refine c.mono ?_; rintro e w' ⟨rfl, rfl⟩))
  go_ret2
  exact ⟨rfl, rfl⟩
theorem nil16 (w : World) : Calls Tryd.prog 16 #[.pointer none] w fun e w' => e = .returned (.tuple #[.pointer none, .slice none 0 0, .slice none 0 0, .int .i64 2]) ∧ w' = w := by
  have c := nil24 w
  go_enter Tryd.func16, Tryd.ntmps16
  go_wp2_with (first | (go_at_call 24; refine c.mono ?_; rintro e w' ⟨rfl, rfl⟩))
  refine bodyPost_ret (results_tmp4 Tryd.results16 _ _) rfl ?_
  exact ⟨rfl, rfl⟩
set_option maxHeartbeats 4000000 in
set_option maxRecDepth 100000 in
theorem none5 (w : World) (q : Option Addr) (n k : Nat) (hT : TabOk w) : Calls Tryd.prog 5 #[.slice q n k] w fun e w' => e = .returned (.bool true) ∧ Below w.heap.size w w' := by
  have c8 := begun8 w hT
  clear hT
  go_enter Tryd.func5, Tryd.ntmps5
  go_wp2_with (first | (go_at_call 8; refine c8.mono ?_; rintro e w1 ⟨rfl, hb1⟩; have HB1 := Lib.hid hb1; clear hb1))
  have h1 := heap_alloc_last w1 (.cells #[.pointer none, .int .i64 0, .int .i64 0, .slice none 0 0, .int .i64 0, .bool false, .bool false] 54)
  have h2 := heap_alloc_last (w1.alloc (.cells #[.pointer none, .int .i64 0, .int .i64 0, .slice none 0 0, .int .i64 0, .bool false, .bool false] 54)) (.cells #[.pointer none, .pointer (some ⟨w1.heap.size, 0, none⟩)] 28)
  rw [World.size_alloc] at h2
  have b2 : Below w1.heap.size w1 ((w1.alloc (.cells #[.pointer none, .int .i64 0, .int .i64 0, .slice none 0 0, .int .i64 0, .bool false, .bool false] 54)).alloc (.cells #[.pointer none, .pointer (some ⟨w1.heap.size, 0, none⟩)] 28)) := bel_then (bel1 w1 _) (bel1 _ _)
  have h1' := blk_on (bel1 _ (.cells #[.pointer none, .pointer (some ⟨w1.heap.size, 0, none⟩)] 28)) h1
  obtain ⟨W2, hW2⟩ : ∃ W2, ((w1.alloc (.cells #[.pointer none, .int .i64 0, .int .i64 0, .slice none 0 0, .int .i64 0, .bool false, .bool false] 54)).alloc (.cells #[.pointer none, .pointer (some ⟨w1.heap.size, 0, none⟩)] 28)) = W2 := ⟨_, rfl⟩
  rw [hW2] at h2 b2 h1' ⊢
  have H2 := Lib.hid h2
  have HU0 := Lib.hid (show UnL W2 (.pointer none) from .inl rfl)
  have HU1 := Lib.hid (show UnL W2 (.pointer (some ⟨w1.heap.size, 0, none⟩)) from .inr ⟨_, rfl, h1'⟩)
  have HB2 := Lib.hid (HB1.out.trans (b2.mono HB1.out.size))
  clear hW2 h1 h2 b2 h1'
  go_loopg [17] 2 (fun g s17 wr => ∃ x : Nat, x + g = 2 ∧ s17 = .int .i64 x ∧ Hid (Below W2.heap.size W2 wr))
  case atStart => exact ⟨0, rfl, rfl, Below.refl _ _⟩
  case round =>
    obtain ⟨x, hx, rfl, hb⟩ := hrel
    obtain ⟨z0, z1⟩ := two_of (blk_on hb.out H2.out)
    by_cases hx2 : x = 2
    · subst hx2
      obtain rfl : gk = 0 := by omega
      have c7 := nil7 wr
      have c16 := nil16 wr
      go_wp2_with (first
        | (go_at_call 7; refine c7.mono ?_; rintro e w3 ⟨rfl, hw3⟩; subst hw3)
        | (go_at_call 16; refine c16.mono ?_; rintro e w4 ⟨rfl, hw4⟩; subst hw4))
      go_ret
      exact ⟨rfl, HB2.out.trans (hb.out.mono HB2.out.size)⟩
    · obtain ⟨v, hv, hU⟩ : ∃ v, wr.cell? ⟨w1.heap.size + 1, x, none⟩ = some v ∧ UnL wr v := by
        have : x = 0 ∨ x = 1 := by omega
        rcases this with rfl | rfl
        · exact ⟨_, z0, HU0.out.on hb.out⟩
        · exact ⟨_, z1, HU1.out.on hb.out⟩
      have HU := Lib.hid hU
      obtain ⟨p, rfl⟩ := hU.ptr
      have hxz : (x : Int) < 2 := by omega
      have hx0 : (0 : Int) ≤ (x : Int) := by omega
      clear z0 z1
      go_wp2_with (first
        | (go_at_call 12; refine (un12 _ _ HU.out q n k).mono ?_; rintro e w3 ⟨rfl, hb3⟩; have HB3 := Lib.hid hb3; have HU3 := Lib.hid (HU.out.on hb3); clear hb3)
        | (go_at_call 13; refine (un13 _ _ HU3.out).mono ?_; rintro e w4 ⟨rfl, hb4⟩; have HB4 := Lib.hid (bel_then HB3.out hb4); have HU4 := Lib.hid (HU3.out.on hb4); clear hb4)
        | (go_at_call 21; refine (un21 _ _ HU4.out).mono ?_; rintro e w5 ⟨rfl, hb5⟩; have HB5 := Lib.hid (bel_then HB4.out hb5); have HU5 := Lib.hid (HU4.out.on hb5); clear hb5)
        | (go_at_call 22; refine (un22 _ _ HU5.out).mono ?_; rintro e w6 ⟨rfl, hb6⟩; have HB6 := Lib.hid (bel_then HB5.out hb6); have HU6 := Lib.hid (HU5.out.on hb6); clear hb6)
        | (go_at_call 20; refine (un20 _ _ HU6.out).mono ?_; rintro e w7 ⟨rfl, hb7⟩; have HB7 := Lib.hid (bel_then HB6.out hb7); have HU7 := Lib.hid (HU6.out.on hb7); clear hb7)
        | (go_at_call 23; refine (un23 _ _ HU7.out).mono ?_; rintro e w8 ⟨rfl, hb8⟩; have HB8 := Lib.hid (bel_then HB7.out hb8); clear hb8))
      go_roundg (gk - 1)
      case measure => omega
      case rel => exact ⟨x + 1, by omega, by first | rfl | simp | go_num, bel_then hb.out HB8.out⟩
end Go.Proofs.YtnclhjjhobbbjaaDoor
