/-
  What Parse of package value does with a map's text, where nothing is wrong.
-/
import Derived.Test.YtbicodlclmdgaaaGreatDoorRdrE
import Derived.Defers
import Derived.Recover
namespace Go.Proofs.YtbicodlclmdgaaaGreatDoor
open Go.RowKit
set_option linter.unusedVariables false      -- a walk need not use every condition

/-- A map's text is read by value, if pairs reads it. -/
theorem reads_map (T : ByteArray) (d : Int) (p p' : Nat) (v : V) (hd : d ≤ 8) (hp : p < T.size) (hb : T[p] = 123) (hT : T.size ≤ 140737488351232)
    (hpairs : ∀ (w : World) (r k : Nat), Rd w r T p k → k ≤ 1000 → Calls Tryz.prog 101 #[.pointer (some ⟨r, 0, none⟩), .int .i64 d] w fun e w' => ∃ sl, e = .returned (v.agg sl) ∧ v.In w' w.heap.size sl ∧ Rp r T p' k w w')
    (w : World) (r k : Nat) (h : Rd w r T p k) (hk : k ≤ 1000) :
    Calls Tryz.prog 79 #[.pointer (some ⟨r, 0, none⟩), .int .i64 d] w fun e w' => ∃ sl, e = .returned (v.agg sl) ∧ v.In w' w.heap.size sl ∧ Rp r T p' k w w' := by
  have hrl := h.lt
  have c101 := fun w h => hpairs w r k h hk
  obtain ⟨w1, hw1⟩ : ∃ w1, w1 = w.alloc (.cells #[.int .i64 0, .int .i64 0, .string ⟨#[]⟩, .slice none 0 0] 24) := ⟨_, rfl⟩
  have hblk : w1.heap[w.heap.size]? = some (.cells #[.int .i64 0, .int .i64 0, .string ⟨#[]⟩, .slice none 0 0] 24) := by rw [hw1]; exact blk_new w _
  have hsz1 : w1.heap.size = w.heap.size + 1 := by rw [hw1]; simp
  have hR1 : Rd w1 r T p k := by rw [hw1]; exact h.alloc _
  have c96 := cut_no w1 r T p k hR1 hp
  have hbn : (T[p].toNat : Int) = 123 := by rw [hb]; rfl
  have hd' : ¬ (8 : Int) < d := by omega
  clear hb hpairs
  unfold V.agg at c101 ⊢
  go_enter Tryz.func79, Tryz.ntmps79
  go_wp2_with (go_at_call 96; rw [← hw1]; refine c96.mono ?_; rintro e w2 ⟨rfl, h2⟩; obtain ⟨c0, c1, c2, c3, cf⟩ := h2.2.cells)
  go_region
  go_wp2_with (go_at_call 101; refine (c101 _ h2.dr.2).mono ?_; rintro e w4 ⟨s4, rfl, hin4, h4⟩; obtain ⟨p4, n4, q4, rfl⟩ := hin4.header; have hR4 := h2.dr.trans h4; obtain ⟨y0, y1, y2, y3, yf⟩ := four_of ((hR4.1.block w.heap.size (by omega) (by intro e; injection e with e; omega)).trans hblk))
  have hs2 := h2.1.size
  have hs2' : w1.heap.size ≤ w2.drew.heap.size := hs2
  rw [hw1] at hR4
  have hfin := hR4.low.put hrl (Nat.le_refl _) 0 (.int .i64 v.k) (.int .i64 v.n) (.string v.s) (.slice p4 n4 q4)
  have hin9 : v.In (put4 w4 w.heap.size 0 (.int .i64 v.k) (.int .i64 v.n) (.string v.s) (.slice p4 n4 q4)) w.heap.size (.slice p4 n4 q4) :=
    V.In.keep (lo := w2.drew.heap.size) (fun a v ha hc => set_other (set_other (set_other (set_other hc (.inl (by omega))) (.inl (by omega))) (.inl (by omega))) (.inl (by omega))) (by omega) v _ hin4
  unfold put4 at hfin hin9
  simp [bodyPost, results, Tryz.results79, go_sem, y0, y1, y2, y3]
  exact ⟨hin9, hfin⟩

theorem assert85 (w : World) : (Instr.typeAssert .nilIface 20 85 true).run Tryz.prog w = .ok (.tuple #[.int .i64 0, .bool false]) w := by
  have h : (Tryz.prog.info? 85).map (fun i => (i.zero, i.size, i.bytes)) = some (some (.int .i64 0), 1, 8) := by kernel_rfl
  obtain ⟨i, hi, hz0, hz1, hz2⟩ := info_parts h
  simp [Instr.typeAssert, run_underlying Tryz.underlying85, zeroValue, typeInfo, hi, hz0]

set_option maxRecDepth 20000 in
/-- The deferred closure, where nothing panicked. -/
theorem read1_idle (a b c : Addr) (w : World) :
    CallsD Tryz.prog 78 #[.pointer (some a), .pointer (some b), .pointer (some c)] .returning w fun e u' w' => e = .returned (.tuple #[]) ∧ u' = .returning ∧ w' = w := by
  refine callsD_of_wpS Tryz.func78 rfl fun c₀ cs hu => ?_
  apply wpS_seq
  apply wpS_region
  simp [wpOpsS, go_sem, recoverD, hu, Tryz.ntmps78, Exit.thenS, assert85]
  apply wpS_seq
  apply wpS_region
  simp [wpOpsS, go_sem, Exit.thenS]
  refine wpS_cond (t := false) (by simp [Act.eval, Array.replicate]) ?_
  simp only [Bool.false_eq_true, if_false]
  refine wpS_of_wp (wp_skip ?_)
  cases c₀
  simp_all [bodyPostS, results, Tryz.results78]

theorem blk_put4 {w : World} {g : Nat} {t : TypeId} {a' b' c' d' : Value} (h : w.heap[g]? = some (.cells #[a', b', c', d'] t)) (a b c d : Value) : (put4 w g 0 a b c d).heap[g]? = some (.cells #[a, b, c, d] t) := by
  simp [put4, World.setCell, Array.getElem?_modify, h]
theorem one_of {w : World} {g : Nat} {a : Value} {t : TypeId} (e : w.heap[g]? = some (.cells #[a] t)) : w.cell? ⟨g, 0, none⟩ = some a ∧ w.frozen? ⟨g, 0, none⟩ = false := by
  constructor <;> simp [World.cell?, World.frozen?, e]

set_option maxHeartbeats 2000000 in
/-- read, where nothing is wrong. -/
theorem read60 (T : ByteArray) (v : V) (hr : ∀ (w : World) (r : Nat), Rd w r T 0 0 → Calls Tryz.prog 79 #[.pointer (some ⟨r, 0, none⟩), .int .i64 1] w fun e w' => ∃ sl, e = .returned (v.agg sl) ∧ v.In w' w.heap.size sl ∧ Rp r T T.size 0 w w') (w : World) :
    Calls Tryz.prog 60 #[.string T, .bool false] w fun e w' => ∃ sl, e = .returned (.tuple #[v.agg sl, .int .i64 0, .bool true]) ∧ v.In w' w.heap.size sl ∧ Below w.heap.size w w' := by
  have hmf : ∀ (fn : Fn) (first cap : Array Value) (w : World), (Instr.makeFunc fn first cap).run Tryz.prog w = .ok (.func fn first cap) w := fun _ _ _ _ => rfl
  obtain ⟨W4, hW4⟩ : ∃ W4, W4 = (((w.alloc (.cells #[.int .i64 0, .int .i64 0, .string ⟨#[]⟩, .slice none 0 0] 24)).alloc (.cells #[.int .i64 0] 3)).alloc (.cells #[.bool false] 4)).alloc (.cells #[.string T, .int .i64 0, .bool false, .int .i64 0] 89) := ⟨_, rfl⟩
  have hsz : W4.heap.size = w.heap.size + 1 + 1 + 1 + 1 := by rw [hW4]; simp
  have hb4 : Below w.heap.size w W4 := by rw [hW4]; exact ((bel2 w _ _).alloc (by simp; omega) _).alloc (by simp; omega) _
  have kA : W4.heap[w.heap.size]? = some (.cells #[.int .i64 0, .int .i64 0, .string ⟨#[]⟩, .slice none 0 0] 24) := by
    rw [hW4]; exact blk_old (blk_old (blk_old (blk_new w _)))
  have kB : W4.heap[w.heap.size + 1]? = some (.cells #[.int .i64 0] 3) := by
    have := blk_new (w.alloc (.cells #[.int .i64 0, .int .i64 0, .string ⟨#[]⟩, .slice none 0 0] 24)) (.cells #[.int .i64 0] 3)
    rw [World.size_alloc] at this
    rw [hW4]; exact blk_old (blk_old this)
  have kC : W4.heap[w.heap.size + 1 + 1]? = some (.cells #[.bool false] 4) := by
    have := blk_new ((w.alloc (.cells #[.int .i64 0, .int .i64 0, .string ⟨#[]⟩, .slice none 0 0] 24)).alloc (.cells #[.int .i64 0] 3)) (.cells #[.bool false] 4)
    rw [World.size_alloc, World.size_alloc] at this
    rw [hW4]; exact blk_old this
  have kR : Rd W4 (w.heap.size + 1 + 1 + 1) T 0 0 := by
    have := blk_new (((w.alloc (.cells #[.int .i64 0, .int .i64 0, .string ⟨#[]⟩, .slice none 0 0] 24)).alloc (.cells #[.int .i64 0] 3)).alloc (.cells #[.bool false] 4)) (.cells #[.string T, .int .i64 0, .bool false, .int .i64 0] 89)
    rw [World.size_alloc, World.size_alloc, World.size_alloc] at this
    rw [hW4]; exact this
  have c79 := hr W4 (w.heap.size + 1 + 1 + 1) kR
  unfold V.agg at c79 ⊢
  clear hr
  go_enter_defers Tryz.func60, Tryz.ntmps60
  go_wp2_with (first
    | (go_at_call 79; rw [← hW4]; refine c79.mono ?_; rintro e w2 ⟨sl, rfl, hin2, h2⟩; obtain ⟨p2, n2, q2, rfl⟩ := hin2.header; have k2 := (h2.1.block w.heap.size (by omega) (by intro e; injection e with e; omega)).trans kA; obtain ⟨y0, y1, y2, y3, yf⟩ := four_of k2; have hs2 := h2.1.size; have hg3 := gr_put4 w2 w.heap.size 0 (.int .i64 v.k) (.int .i64 v.n) (.string v.s) (.slice p2 n2 q2); have k3 := blk_put4 k2 (.int .i64 v.k) (.int .i64 v.n) (.string v.s) (.slice p2 n2 q2); have hR3 := h2.2.grown hg3 (by intro e; injection e with e; omega); unfold put4 at hg3 k3 hR3)
    | (go_at_call 80; refine (ended_yes _ _ T T.size 0 hR3 rfl).mono ?_; rintro e w3 ⟨rfl, h3⟩; have hs3 := h3.1.size; have hs3' := hg3.size; have k4 := (h3.1.block w.heap.size (by omega) (by intro e; injection e with e; omega)).trans k3; obtain ⟨x0, x1, x2, x3, xf⟩ := four_of k4;
        have kB4 := (h3.1.block (w.heap.size + 1) (by omega) (by intro e; injection e with e; omega)).trans ((hg3.block (w.heap.size + 1) (by omega) (by intro e; injection e with e; omega)).trans ((h2.1.block (w.heap.size + 1) (by omega) (by intro e; injection e with e; omega)).trans kB)); obtain ⟨b0, bf⟩ := one_of kB4;
        have kC4 := (h3.1.block (w.heap.size + 1 + 1) (by omega) (by intro e; injection e with e; omega)).trans ((hg3.block (w.heap.size + 1 + 1) (by omega) (by intro e; injection e with e; omega)).trans ((h2.1.block (w.heap.size + 1 + 1) (by omega) (by intro e; injection e with e; omega)).trans kC)); obtain ⟨d0, df⟩ := one_of kC4))
  have hb2 := hb4.grown h2.1 (by omega) (fun k e => by injection e with e; omega)
  have hb3 := hb2.grown hg3 (by omega) (fun k e => by injection e with e; omega)
  have hb5 := hb3.grown h3.1 (by omega) (fun k e => by injection e with e; omega)
  have hfin := ((hb5.trans (below_put4 (g := w.heap.size) (i := 0) (Nat.le_refl _) (.int .i64 v.k) (.int .i64 v.n) (.string v.s) (.slice p2 n2 q2))).setCell (p := ⟨w.heap.size + 1, 0, none⟩) (by show w.heap.size ≤ w.heap.size + 1; omega) (.int .i64 0)).setCell (p := ⟨w.heap.size + 1 + 1, 0, none⟩) (by show w.heap.size ≤ w.heap.size + 1 + 1; omega) (.bool true)
  have hin3 := V.In.keep (lo := w.heap.size + 1 + 1 + 1 + 1) (lo' := w.heap.size + 1 + 1 + 1 + 1) (w' := put4 w2 w.heap.size 0 (.int .i64 v.k) (.int .i64 v.n) (.string v.s) (.slice p2 n2 q2)) (fun a u ha hc => set_other (set_other (set_other (set_other hc (.inl (by omega))) (.inl (by omega))) (.inl (by omega))) (.inl (by omega))) (Nat.le_refl _) v _ (by rw [← hsz]; exact hin2)
  have hin4 := V.In.keep h3.keep (Nat.le_refl _) v _ hin3
  have hin5 := V.In.keep (lo := w.heap.size + 1 + 1 + 1 + 1) (lo' := w.heap.size) (w' := ((put4 w3 w.heap.size 0 (.int .i64 v.k) (.int .i64 v.n) (.string v.s) (.slice p2 n2 q2)).setCell ⟨w.heap.size + 1, 0, none⟩ (.int .i64 0)).setCell ⟨w.heap.size + 1 + 1, 0, none⟩ (.bool true)) (fun a u ha hc => set_other (set_other (set_other (set_other (set_other (set_other hc (.inl (by omega))) (.inl (by omega))) (.inl (by omega))) (.inl (by omega))) (.inl (by omega))) (.inl (by omega))) (by omega) v _ hin4
  unfold put4 at hfin hin5
  clear hin3 hin4 hb2 hb3 hb5 hg3 k3 hR3 h3 hin2 h2 kA kB kC kR k2 k4 kB4 kC4 c79
  refine leaves_cons (f := 78) (args := #[.pointer (some ⟨w.heap.size, 0, none⟩), .pointer (some ⟨w.heap.size + 1, 0, none⟩), .pointer (some ⟨w.heap.size + 1 + 1, 0, none⟩)]) (by simp) (by simp [go_sem]) ?_
  refine (read1_idle _ _ _ _).mono ?_
  rintro e u' w'' ⟨rfl, rfl, rfl⟩
  simp [Leaves, settle, results, Tryz.results60, go_sem, x0, x1, x2, x3, b0, d0]
  exact ⟨hin5, hfin⟩

set_option maxHeartbeats 2000000 in
/-- Parse, where nothing is wrong. -/
theorem parse40 (T : ByteArray) (v : V) (hmay : v.may 1 = true) (hr : ∀ (w : World) (r : Nat), Rd w r T 0 0 → Calls Tryz.prog 79 #[.pointer (some ⟨r, 0, none⟩), .int .i64 1] w fun e w' => ∃ sl, e = .returned (v.agg sl) ∧ v.In w' w.heap.size sl ∧ Rp r T T.size 0 w w') (w : World) :
    Calls Tryz.prog 40 #[.string T] w fun e w' => ∃ sl, e = .returned (.tuple #[v.agg sl, .int .i64 0, .int .i64 0]) ∧ v.In w' w.heap.size sl ∧ Below w.heap.size w w' := by
  have c60 := fun w => read60 T v hr w
  have c13 := fun sl w => check_any v sl w
  unfold V.err at c13
  rw [hmay] at c13
  simp only [if_true] at c13
  unfold V.agg at c60 c13 ⊢
  have k0 := blk_new w (.cells #[.int .i64 0, .int .i64 0, .string ⟨#[]⟩, .slice none 0 0] 24)
  have hbw := bel1 w (.cells #[.int .i64 0, .int .i64 0, .string ⟨#[]⟩, .slice none 0 0] 24)
  have hsz : (w.alloc (.cells #[.int .i64 0, .int .i64 0, .string ⟨#[]⟩, .slice none 0 0] 24)).heap.size = w.heap.size + 1 := by simp
  go_enter Tryz.func40, Tryz.ntmps40
  go_wp2_with (first
    | (go_at_call 60; refine (c60 _).mono ?_; rintro e w2 ⟨sl, rfl, hin2, hb2⟩; obtain ⟨p2, n2, q2, rfl⟩ := hin2.header; rw [hsz] at hin2 hb2; have k2 := (hb2.block w.heap.size (by omega)).trans k0; have hs2 := hb2.size)
    | (go_at_call 13; refine (c13 _ _ (hin2.low (Nat.zero_le _) |>.on (bel1 _ _))).mono ?_; rintro e w3 ⟨rfl, hb3⟩; obtain ⟨x0, x1, x2, x3, xf⟩ := four_of (blk_on hb3 (blk_new w2 _)); obtain ⟨y0, y1, y2, y3, yf⟩ := four_of (blk_on hb3 (blk_old k2))))
  have hin3 := (hin2.on (bel1 w2 _)).on hb3
  have hin5 := V.In.keep (lo := w.heap.size + 1) (lo' := w.heap.size) (w' := put4 w3 w.heap.size 0 (.int .i64 v.k) (.int .i64 v.n) (.string v.s) (.slice p2 n2 q2)) (fun a u ha hc => set_other (set_other (set_other (set_other hc (.inl (by omega))) (.inl (by omega))) (.inl (by omega))) (.inl (by omega))) (by omega) v _ hin3
  have hfin : Below w.heap.size w (put4 w3 w.heap.size 0 (.int .i64 v.k) (.int .i64 v.n) (.string v.s) (.slice p2 n2 q2)) := (((hbw.trans (hb2.mono (by omega))).alloc (by omega) _).trans (hb3.mono (by simp; omega))).trans (below_put4 (Nat.le_refl _) _ _ _ _)
  unfold put4 at hin5 hfin
  simp [bodyPost, results, Tryz.results40, go_sem, y0, y1, y2, y3]
  exact ⟨hin5, hfin⟩
end Go.Proofs.YtbicodlclmdgaaaGreatDoor
