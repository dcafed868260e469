/-
  The document's Key (rambleref03) and its inner functions.
-/
import Derived.Test.YtbgikgeknnmelaaGreatKeyB
import Derived.Test.YtbgikgeknnmelaaGreatPutB
import Derived.Test.YtbgikgeknnmelaaGreatRefCheck
namespace Go.Proofs.YtbgikgeknnmelaaGreat
open Go.RowKit
set_option linter.unusedVariables false      -- a walk need not use every condition

theorem beN_take (u m : Nat) (hm : m < 8) : (beN 8 u).take (8 - m) = (beN 8 u).take (8 - (m + 1)) ++ [UInt8.ofNat (u / 256 ^ m % 256)] := by
  have h : m = 0 ∨ m = 1 ∨ m = 2 ∨ m = 3 ∨ m = 4 ∨ m = 5 ∨ m = 6 ∨ m = 7 := by omega
  rcases h with rfl | rfl | rfl | rfl | rfl | rfl | rfl | rfl <;> rfl
set_option maxHeartbeats 1000000 in
set_option maxRecDepth 20000 in
theorem eight123 (n : Int) (hn : I64 n) (w : World) :
    Calls Tryz.prog 123 #[.int .i64 n] w fun e w' => ∃ b, e = .returned b ∧ Bts w' w.heap.size b (beN 8 (wordU n)) ∧ Below w.heap.size w w' := by
  have hx := xor_word hn
  generalize wordU n = u at *
  go_enter Tryz.func123, Tryz.ntmps123
  go_wp2
  go_loopg [4, 5] 8 (fun g v i wr => ∃ c : Nat, g = c ∧ c ≤ 8 ∧ i = .int .i64 (8 * (c : Int) - 8) ∧ Hid (Bts wr w.heap.size v ((beN 8 u).take (8 - c))) ∧ Hid (Below w.heap.size w wr))
  case atStart => exact ⟨8, rfl, Nat.le_refl _, rfl, World.ownsRow_nil _ _ _ _, Below.refl _ _⟩
  case round =>
    obtain ⟨c, hg, hc8, rfl, hb, hB⟩ := hrel
    cases c with
    | zero =>
      have hb' : Hid (Bts wr w.heap.size u4 (beN 8 u)) := hb.out
      clear hb
      go_wp2
      go_ret
      exact ⟨u4, rfl, hb'.out, hB.out⟩
    | succ m =>
      have hi : (8 * ((m + 1 : Nat) : Int) - 8) = 8 * (m : Int) := by omega
      rw [hi]
      have ht := Lib.hid (beN_take u m (by omega))
      have hs := shr8 u m
      obtain ⟨x, hxx⟩ : ∃ x : UInt8, Hid (UInt8.ofNat (u / 256 ^ m % 256) = x) := ⟨_, (rfl : _ = _)⟩
      have hxn : ((u / 256 ^ m % 256 : Nat) : Int) = (x.toNat : Int) := by rw [← hxx.out, toNat_of (Nat.mod_lt _ (by omega))]
      rw [hxn] at hs
      have i0 : (0 : Int) ≤ 8 * (m : Int) := by omega
      have hl : ((beN 8 u).take (8 - (m + 1))).length ≤ 8 := by simp; omega
      have hbr := hb.out
      generalize (beN 8 u).take (8 - (m + 1)) = T at *
      clear hb hi hxn
      go_wp2_with (at_builtin; refine wpList_app_byts _ rfl _ _ rfl w.heap.size _ _ rfl (World.ownsRow.alloc hbr _) ⟨wr.heap.size, 0, none⟩ 1 [x] rfl (cells_new _ [.int .u8 x.toNat] _) (by simp; omega) (by have := hB.out.size; simp; omega) ?_; intro v1 w1 hb1 hg1; have hB1 := bel_app hB.out hbr hg1; clear hg1)
      go_roundg m
      case rel => exact ⟨m, rfl, by omega, congrArg (Value.int .i64) (by omega), by rw [ht.out, hxx.out]; exact hb1, hB1⟩
      case measure => omega
/-- A literal byte. -/
theorem bts_lit1 (w : World) (base : Nat) (hb : base ≤ w.heap.size) (c : UInt8) : Bts (w.alloc (.cells #[.int .u8 c.toNat] 5)) base (.slice (some ⟨w.heap.size, 0, none⟩) 1 1) [c] :=
  World.ownsRow_lit w #[.int .u8 c.toNat] 1 hb (by decide) rfl
set_option maxHeartbeats 1000000 in
set_option maxRecDepth 20000 in
theorem refForm_num (k n : Int) (hk : k = 1 ∨ k = 6 ∨ k = 7) (w : World) (sl : Value) (hin : (V.mk k n ⟨#[]⟩ []).In w 0 sl) :
    Calls Tryz.prog 104 #[(V.mk k n ⟨#[]⟩ []).agg sl] w fun e w' => ∃ b, e = .returned b ∧ Bts w' w.heap.size b (kForm (.mk k n ⟨#[]⟩ [])) ∧ Below w.heap.size w w' := by
  obtain ⟨p1, n1, q1, rfl⟩ := hin.header
  have hn : I64 n := ((V.in_iff _ _ _ _).1 hin).2.1
  rw [kForm_num (by omega) (by omega)]
  unfold V.agg
  simp only [V.k, V.n, V.s]
  have c51 := fun w => eight123 n hn w
  have hEp : 0 < (beN 8 (wordU n)).length := by rw [beN_length]; omega
  have hEl : (beN 8 (wordU n)).length ≤ 8 := by rw [beN_length]; omega
  generalize beN 8 (wordU n) = E at *
  obtain ⟨c, hc⟩ : ∃ c : UInt8, UInt8.ofNat k.toNat = c := ⟨_, rfl⟩
  have hck : k % 256 = (c.toNat : Int) := by rw [← hc]; rcases hk with rfl | rfl | rfl <;> rfl
  rw [hc]
  have hlit := bts_lit1 (w.alloc (.cells #[.int .i64 k, .int .i64 n, .string ⟨#[]⟩, .slice p1 n1 q1] 29)) w.heap.size (by simp) c
  rw [World.size_alloc] at hlit
  have hB1 := bel2 w (.cells #[.int .i64 k, .int .i64 n, .string ⟨#[]⟩, .slice p1 n1 q1] 29) (.cells #[.int .u8 c.toNat] 5)
  have hall : ∀ (P : Prop), (((k == 1) = true) → P) → (((k == 1) = false) → ((k == 6) = true) → P) → (((k == 1) = false) → ((k == 6) = false) → ((k == 7) = true) → P) → P := by
    intro P a b d
    rcases hk with rfl | rfl | rfl
    · exact a rfl
    · exact b rfl rfl
    · exact d rfl rfl rfl
  clear hc hk
  refine hall _ (fun k1 => ?_) (fun k1 k6 => ?_) (fun k1 k6 k7 => ?_)
  all_goals
    clear hall
    go_enter Tryz.func104, Tryz.ntmps104
    go_wp2_with (first
      | (go_at_call 123; refine (c51 _).mono ?_; rintro e w2 ⟨b2, rfl, hb2, hB2⟩; obtain ⟨g, cap, rfl, hc2⟩ := hb2.told (by omega); have hO2 : Bts w2 w.heap.size _ [c] := own_bel hlit hB2; have hB2' := bel_then hB1 hB2; clear hb2)
      | (at_builtin; refine wpList_app_byts _ rfl _ _ rfl w.heap.size _ _ rfl hO2 ⟨g, 0, none⟩ cap E rfl hc2 (by simp; omega) hB2'.size ?_; intro v3 w3 hb3 hg3; have hB3 := below_app hB2' hO2 hg3; clear hg3))
    go_ret
    exact ⟨v3, rfl, hb3, hB3⟩
set_option maxHeartbeats 1000000 in
set_option maxRecDepth 20000 in
theorem refForm_bool (n : Int) (hn : n = 0 ∨ n = 1) (w : World) (sl : Value) (hin : (V.mk 3 n ⟨#[]⟩ []).In w 0 sl) :
    Calls Tryz.prog 104 #[(V.mk 3 n ⟨#[]⟩ []).agg sl] w fun e w' => ∃ b, e = .returned b ∧ Bts w' w.heap.size b (kForm (.mk 3 n ⟨#[]⟩ [])) ∧ Below w.heap.size w w' := by
  obtain ⟨p1, n1, q1, rfl⟩ := hin.header
  rw [kForm_bool]
  unfold V.agg
  simp only [V.k, V.n, V.s]
  obtain ⟨c, hc⟩ : ∃ c : UInt8, UInt8.ofNat n.toNat = c := ⟨_, rfl⟩
  have hcn : n % 256 = (c.toNat : Int) := by rw [← hc]; rcases hn with rfl | rfl <;> rfl
  rw [hc]
  have hlit := bts_lit1 (w.alloc (.cells #[.int .i64 3, .int .i64 n, .string ⟨#[]⟩, .slice p1 n1 q1] 29)) w.heap.size (by simp) 3
  rw [World.size_alloc] at hlit
  have hB1 := bel2 w (.cells #[.int .i64 3, .int .i64 n, .string ⟨#[]⟩, .slice p1 n1 q1] 29) (.cells #[.int .u8 (3 : UInt8).toNat] 5)
  clear hc hn
  go_enter Tryz.func104, Tryz.ntmps104
  go_wp2_with (at_builtin; refine wpList_app_byts _ rfl _ _ rfl w.heap.size _ _ rfl (World.ownsRow.alloc hlit _) ⟨w.heap.size + 1 + 1, 0, none⟩ 1 [c] rfl (by have := cells_new ((w.alloc (.cells #[.int .i64 3, .int .i64 n, .string ⟨#[]⟩, .slice p1 n1 q1] 29)).alloc (.cells #[.int .u8 3] 5)) [.int .u8 c.toNat] 5; rw [World.size_alloc, World.size_alloc] at this; exact this) (by simp) (by simp; omega) ?_; intro v3 w3 hb3 hg3; have hB3 := bel_app hB1 hlit hg3; clear hg3)
  go_ret
  exact ⟨v3, rfl, hb3, hB3⟩
end Go.Proofs.YtbgikgeknnmelaaGreat
