/-
  Which elements may stand alone (stands of layer 11's statements), whatever Check answers.
-/
import Derived.Test.YtbgikgeknnmelaaGreatZVtx
import Derived.Test.YtbgikgeknnmelaaGreatPpt
namespace Go.Proofs.YtbgikgeknnmelaaGreat
open Go.RowKit
set_option linter.unusedVariables false      -- a walk need not use every condition

def oneV (x : Vx) : Gg := ⟨[x], [], 281474976710656⟩
def oneE (x : Vx) (z : Lk) : Gg := ⟨[x], [z], 281474976710656⟩
def standB (E : Gg → Int) (x : Vx) (z : Lk) : Bool := decide (E (oneV x) = 0) && decide (z.out = x.id) && decide (z.inn = x.id) && decide (E (oneE x z) = 0)
theorem sq_one {α : Type} {R : El α} {w : World} {b : Nat} {x : α} {sl : Value} (h1 : Ats w b 0 (R.cs x sl)) (h2 : R.In w 0 x sl) (hb : R.bytes ≤ 1000) : Sq R w 0 [x] (.slice (some ⟨b, 0, none⟩) 1 1) :=
  ⟨_, 1, rfl, by simp, by unfold maxLen; omega, by simp; omega, .inr ⟨b, 0, rfl, Nat.zero_le _, sl, h1, h2, trivial⟩⟩
theorem blk_set0 {w : World} {g h i : Nat} {o : Obj} {v : Value} (e : w.heap[g]? = some o) (hne : g ≠ h) : (w.setCell ⟨h, i, none⟩ v).heap[g]? = some o :=
  ((gr_set w h i v).block g (Array.getElem?_eq_some_iff.1 e).1 (by intro e; injection e with e; exact hne e)).trans e
set_option maxHeartbeats 4000000 in
set_option maxRecDepth 20000 in
theorem stands29 (E : Gg → Int) (c63 : ∀ g sv se W, Gg.In W 0 g sv se → Calls Tryz.prog 63 #[g.agg sv se] W fun e w' => e = .returned (.int .i64 (E g)) ∧ Below W.heap.size W w')
    (x : Vx) (z : Lk) (sx sz : Value) (w : World) (hx : RV.In w 0 x sx) (hz : RL.In w 0 z sz) :
    Calls Tryz.prog 29 #[x.agg sx, z.agg sz] w fun e w' => e = .returned (.bool (standB E x z)) ∧ Below w.heap.size w w' := by
  obtain ⟨px, nx, qx, rfl⟩ := hx.2.2.hdr
  obtain ⟨pz, nz, qz, rfl⟩ := hz.2.2.2.2.hdr
  have hI := hx.1
  have hL := hz.1
  obtain ⟨A, hA⟩ : ∃ o, Obj.cells #[.int .i64 x.id, .string x.lb, .slice px nx qx] 24 = o := ⟨_, rfl⟩
  obtain ⟨B, hB⟩ : ∃ o, Obj.cells #[.int .i64 z.id, .string z.lb, .int .i64 z.out, .int .i64 z.inn, .slice pz nz qz] 26 = o := ⟨_, rfl⟩
  obtain ⟨C, hC⟩ : ∃ o, Obj.cells #[.slice (some ⟨w.heap.size + 1 + 1, 0, none⟩) 1 1, .slice none 0 0, .int .i64 281474976710656] 86 = o := ⟨_, rfl⟩
  have hb4 := bel_al (bel_al (bel2 w A B) A) C
  have kA := blk_old (o' := C) (blk_old (o' := A) (blk_old (o' := B) (blk_new w A)))
  have kB := blk_old (o' := C) (blk_old (o' := A) (blk_new (w.alloc A) B))
  have kX := blk_old (o' := C) (blk_new ((w.alloc A).alloc B) A)
  have kC := blk_new (((w.alloc A).alloc B).alloc A) C
  simp only [World.size_alloc] at kB kX kC
  obtain ⟨W4, hW4⟩ : ∃ W, (((w.alloc A).alloc B).alloc A).alloc C = W := ⟨_, rfl⟩
  rw [hW4] at hb4 kA kB kX kC
  have hX4 := RV.on hb4 hx
  have hZ4 := RL.on hb4 hz
  have hin1 : Gg.In W4 0 (oneV x) (.slice (some ⟨w.heap.size + 1 + 1, 0, none⟩) 1 1) (.slice none 0 0) := by
    rw [← hA] at kX
    obtain ⟨x0, x1, x2, -⟩ := three_of kX
    exact ⟨by show I64 281474976710656; unfold I64; omega, sq_one (ats_of3 x0 x1 x2) hX4 (by decide), Sq.nil _ _⟩
  have cV := c63 (oneV x) _ _ W4 hin1
  have hres : standB E x z = (decide (E (oneV x) = 0) && decide (z.out = x.id) && decide (z.inn = x.id) && decide (E (oneE x z) = 0)) := rfl
  unfold Gg.agg at cV
  unfold oneV at cV
  simp only at cV
  have hE1 : E (⟨[x], [], 281474976710656⟩ : Gg) = E (oneV x) := rfl
  rw [hE1] at cV
  obtain ⟨e1, he1⟩ : ∃ n, E (oneV x) = n := ⟨_, rfl⟩
  obtain ⟨e2, he2⟩ : ∃ n, E (oneE x z) = n := ⟨_, rfl⟩
  rw [he1, he2] at hres
  rw [he1] at cV
  obtain ⟨R, hR⟩ : ∃ R, standB E x z = R := ⟨_, rfl⟩
  rw [hR] at hres ⊢
  have f1 : Hid (¬ e1 = 0 → R = false) := fun h => by rw [hres, decide_eq_false h]; rfl
  have f2 : Hid (¬ z.out = x.id → R = false) := fun h => by rw [hres, decide_eq_false h]; simp
  have f3 : Hid (¬ z.inn = x.id → R = false) := fun h => by rw [hres, decide_eq_false h]; simp
  have f4 : Hid (e1 = 0 → z.out = x.id → z.inn = x.id → R = decide (e2 = 0)) := fun h1 h2 h3 => by rw [hres, decide_eq_true h1, decide_eq_true h2, decide_eq_true h3]; simp
  clear hR
  have HE2 := Lib.hid he2
  have HC6 := Lib.hid (c63 (oneE x z))
  have HX4 := Lib.hid hX4
  have HZ4 := Lib.hid hZ4
  have HB4 := Lib.hid hb4
  have hA' := Lib.hid hA
  have hB' := Lib.hid hB
  have hC' := Lib.hid hC
  have hW4' := Lib.hid hW4
  have HX := Lib.hid hx
  have HZ := Lib.hid hz
  clear hE1 he1 he2 c63 hin1 hx hz hX4 hZ4 hb4 hres hA hB hC hW4
  unfold Vx.agg Lk.agg
  go_enter Tryz.func29, Tryz.ntmps29
  go_wp2_with (fail)
  rw [hA'.out, hB'.out, hC'.out, hW4'.out]
  refine cV.mono ?_
  rintro e w5 ⟨rfl, hB5⟩
  have KA := Lib.hid (blk_on hB5 kA)
  have KB := Lib.hid (blk_on hB5 kB)
  have KC := Lib.hid (blk_on hB5 kC)
  have HB5 := Lib.hid (bel_then HB4.out hB5)
  have HX5 := Lib.hid (RV.on hB5 HX4.out)
  have HZ5 := Lib.hid (RL.on hB5 HZ4.out)
  have KX := Lib.hid (blk_on hB5 kX)
  clear kA kB kC kX cV hW4' hB5 HB4 HX4 HZ4
  by_cases h1 : e1 = 0
  rotate_left
  · have hr := Lib.hid (f1.out h1)
    have h1' : (e1 != 0) = true := by simpa using h1
    go_wp2
    go_ret
    exact ⟨by rw [hr.out]; rfl, HB5.out⟩
  have h1' : (e1 != 0) = false := by simpa using h1
  have F4 : Hid (z.out = x.id → z.inn = x.id → R = decide (e2 = 0)) := f4.out h1
  clear h1
  rw [← hA'.out] at KA KX
  rw [← hB'.out] at KB
  rw [← hC'.out] at KC
  obtain ⟨a0, a1, a2, af⟩ := three_of KA.out
  obtain ⟨b0, b1, b2, b3, b4, bf⟩ := five_of KB.out
  obtain ⟨c0, c1, c2, cf⟩ := three_of KC.out
  clear hA' hB' hC'
  by_cases h2 : z.out = x.id
  rotate_left
  · have h2' : (z.out != x.id) = true := by simpa using h2
    have hr := Lib.hid (f2.out h2)
    clear h2
    go_wp2
    go_ret
    exact ⟨by rw [hr.out]; rfl, HB5.out⟩
  have h2' : (z.out != x.id) = false := by simpa using h2
  have F5 : Hid (z.inn = x.id → R = decide (e2 = 0)) := F4.out h2
  clear h2
  by_cases h3 : z.inn = x.id
  rotate_left
  · have h3' : (z.inn != x.id) = true := by simpa using h3
    have hr := Lib.hid (f3.out h3)
    clear h3
    go_wp2
    go_ret
    exact ⟨by rw [hr.out]; rfl, HB5.out⟩
  have h3' : (z.inn != x.id) = false := by simpa using h3
  have F6 : Hid (R = decide (e2 = 0)) := F5.out h3
  clear h3 f1 f2 f3 f4 F4 F5
  obtain ⟨d0, d1, d2, df⟩ := three_of (blk_old (o' := .cells #[.int .i64 z.id, .string z.lb, .int .i64 z.out, .int .i64 z.inn, .slice pz nz qz] 26) KC.out)
  have hDw : w.heap.size + 1 + 1 + 1 < w5.heap.size := (Array.getElem?_eq_some_iff.1 KC.out).1
  have hb6 : Below w.heap.size w (w5.setCell ⟨w.heap.size + 1 + 1 + 1, 1, none⟩ (.slice (some ⟨w5.heap.size, 0, none⟩) 1 1)) := HB5.out.grown (gr_set _ _ _ _) HB5.out.size (fun k e => by injection e with e; omega)
  have hb7 := bel_al hb6 (.cells #[.int .i64 z.id, .string z.lb, .int .i64 z.out, .int .i64 z.inn, .slice pz nz qz] 26)
  have kX7 := blk_old (o' := .cells #[.int .i64 z.id, .string z.lb, .int .i64 z.out, .int .i64 z.inn, .slice pz nz qz] 26) (blk_set0 (h := w.heap.size + 1 + 1 + 1) (i := 1) (v := .slice (some ⟨w5.heap.size, 0, none⟩) 1 1) KX.out (by omega))
  have kZ7 := blk_new' (w5.setCell ⟨w.heap.size + 1 + 1 + 1, 1, none⟩ (.slice (some ⟨w5.heap.size, 0, none⟩) 1 1)) (.cells #[.int .i64 z.id, .string z.lb, .int .i64 z.out, .int .i64 z.inn, .slice pz nz qz] 26) w5.heap.size (by simp)
  clear hb6
  obtain ⟨x0, x1, x2, -⟩ := three_of kX7
  obtain ⟨z0, z1, z2, z3, z4, -⟩ := five_of kZ7
  have cW := HC6.out _ _ _ (show Gg.In _ 0 (oneE x z) _ _ from ⟨by show I64 281474976710656; unfold I64; omega, sq_one (ats_of3 x0 x1 x2) (RV.on hb7 HX.out) (by decide), sq_one (ats_of5 z0 z1 z2 z3 z4) (RL.on hb7 HZ.out) (by decide)⟩)
  rw [HE2.out] at cW
  unfold Gg.agg oneE at cW
  simp only at cW
  have HB7 := Lib.hid hb7
  clear hb7 kX7 kZ7 x0 x1 x2 z0 z1 z2 z3 z4 HC6 HE2 KA KB KC KX HX5 HZ5
  go_wp2_with (fail)
  refine cW.mono ?_
  rintro e w8 ⟨rfl, hB8⟩
  have HB8 := Lib.hid (bel_then HB7.out hB8)
  clear cW hB8
  have hq : (e2 == 0) = decide (e2 = 0) := rfl
  go_wp2
  go_ret
  exact ⟨by rw [F6.out]; rfl, HB8.out⟩
end Go.Proofs.YtbgikgeknnmelaaGreat
