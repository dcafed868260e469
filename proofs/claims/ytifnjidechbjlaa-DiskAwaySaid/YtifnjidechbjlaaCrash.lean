/-
  What Crash and Start of package disk do.
-/
import Derived.Test.YtifnjidechbjlaaDecW
namespace Go.Proofs.Ytifnjidechbjlaa
open Go.RowKit Go.Maps Go.ChangeMaps Go.MapKept Go.WideShapes
set_option linter.unusedVariables false      -- a walk need not use every condition

def Dsk.crash (s : Dsk) (kb : List Bool) (torn : Int) : Int × Dsk := if s.down then (9, s) else (0, { s.decide kb torn with down := true })
def Dsk.start (s : Dsk) (kb : List Bool) (torn : Int) : Int × Dsk := if s.down then (0, { s.decide kb torn with down := false }) else (1, s)
set_option maxHeartbeats 800000 in
theorem crash20 (w : World) (d pb mb : Nat) (s : Dsk) (h : At w d pb mb s) (torn : Int) (kv : Value) (kb : List Bool) (hb : Bools w d pb mb kv kb) :
    Calls Try.prog 20 #[.pointer (some ⟨d, 0, none⟩), .int .i64 torn, kv] w fun e w' => e = .returned (.int .i64 (s.crash kb torn).1) ∧ At w' d pb mb (s.crash kb torn).2 ∧ Kept d pb mb w w' := by
  have cR := ready39 w d pb mb s h
  have cD := decide40 w d pb mb s h torn kv kb hb
  have H : Hid (At w d pb mb s) := h
  clear h hb
  unfold Dsk.crash
  cases hd : s.down with
  | true =>
    simp only [if_true]
    rw [show s.ready = 9 by simp [Dsk.ready, hd]] at cR
    clear cD hd
    go_enter Try.func20, Try.ntmps20
    go_wp2_with (first
      | (go_at_call 39; refine cR.mono ?_; rintro e w' ⟨rfl, rfl⟩))
    go_ret
    exact ⟨rfl, H.out, Kept.refl _ _ _ _⟩
  | false =>
    simp only [Bool.false_eq_true, if_false]
    rw [show s.ready = 0 by simp [Dsk.ready, hd]] at cR
    clear hd
    generalize s.decide kb torn = sd at *
    go_enter Try.func20, Try.ntmps20
    go_wp2_with (first
      | (go_at_call 39; refine cR.mono ?_; rintro e w' ⟨rfl, rfl⟩)
      | (go_at_call 40; refine cD.mono ?_; rintro e w1 ⟨⟨v, rfl⟩, h1, k1⟩
         have f2 := (five_of h1.blk).2.2.2.2.2 2
         have c2 := (five_of h1.blk).2.2.1
         have H1 : Hid (At w1 d pb mb sd) := h1
         clear h1))
    go_ret
    refine ⟨rfl, ?_, k1.trans (Kept.grown (gr_set w1 d 2 _) (fun k e => by injection e with e; exact .inl e.symm))⟩
    refine H1.out.turn ?_ (gr_set w1 d 2 _) rfl rfl rfl rfl H1.out.fu H1.out.cl
    rw [blk_set H1.out.blk _]
    rfl
set_option maxHeartbeats 800000 in
theorem start21 (w : World) (d pb mb : Nat) (s : Dsk) (h : At w d pb mb s) (torn : Int) (kv : Value) (kb : List Bool) (hb : Bools w d pb mb kv kb) :
    Calls Try.prog 21 #[.pointer (some ⟨d, 0, none⟩), .int .i64 torn, kv] w fun e w' => e = .returned (.int .i64 (s.start kb torn).1) ∧ At w' d pb mb (s.start kb torn).2 ∧ Kept d pb mb w w' := by
  have cR := made34 w d pb mb s h
  have cD := decide40 w d pb mb s h torn kv kb hb
  have c2w := (five_of h.blk).2.2.1
  have H : Hid (At w d pb mb s) := h
  clear h hb
  unfold Dsk.start
  cases hd : s.down with
  | false =>
    simp only [Bool.false_eq_true, if_false]
    rw [hd] at c2w
    clear cD hd
    go_enter Try.func21, Try.ntmps21
    go_wp2_with (first
      | (go_at_call 34; refine cR.mono ?_; rintro e w' ⟨rfl, rfl⟩))
    go_ret
    exact ⟨rfl, H.out, Kept.refl _ _ _ _⟩
  | true =>
    simp only [if_true]
    rw [hd] at c2w
    clear hd
    generalize s.decide kb torn = sd at *
    go_enter Try.func21, Try.ntmps21
    go_wp2_with (first
      | (go_at_call 34; refine cR.mono ?_; rintro e w' ⟨rfl, rfl⟩)
      | (go_at_call 40; refine cD.mono ?_; rintro e w1 ⟨⟨v, rfl⟩, h1, k1⟩
         have f2 := (five_of h1.blk).2.2.2.2.2 2
         have c2 := (five_of h1.blk).2.2.1
         have H1 : Hid (At w1 d pb mb sd) := h1
         clear h1))
    go_ret
    refine ⟨rfl, ?_, k1.trans (Kept.grown (gr_set w1 d 2 _) (fun k e => by injection e with e; exact .inl e.symm))⟩
    refine H1.out.turn ?_ (gr_set w1 d 2 _) rfl rfl rfl rfl H1.out.fu H1.out.cl
    rw [blk_set H1.out.blk _]
    rfl
theorem bools_none (w : World) (d pb mb : Nat) : Bools w d pb mb (.slice none 0 0) [] := ⟨⟨none, 0, rfl, .inl rfl⟩, by simp⟩
end Go.Proofs.Ytifnjidechbjlaa
