/-
  putFirst, Key, Out, In, Label of package keys.
-/
import Derived.Test.YtbgikgeknnmelaaGreatPfm
import Derived.Test.YtbgikgeknnmelaaGreatRefK
namespace Go.Proofs.YtbgikgeknnmelaaGreat
open Go.RowKit
set_option linter.unusedVariables false      -- a walk need not use every condition

/-- putForms of a value that was just laid. -/
theorem putNew51 (v : V) (sl : Value) (w0 W : World) (b : Value) (t0 : List UInt8) (g : Nat) (hg : W.heap.size = g) (hin : v.In w0 0 sl) (hm : v.many ≤ 1048576)
    (hB : Below w0.heap.size w0 W) (hb : Bts W w0.heap.size b t0) (ht : t0.length + 300 ≤ 140737488355328) :
    Calls Tryz.prog 51 #[b, .slice (some ⟨g, 0, none⟩) 1 1] (W.alloc (.cells #[.int .i64 v.k, .int .i64 v.n, .string v.s, sl] 29)) (AppR w0 (t0 ++ kq v)) := by
  subst hg
  exact putForms51 v sl w0 _ b t0 _ hin hm (blk_new W _) (hB.trans ((bel1 W _).mono hB.size)) (World.ownsRow.alloc hb _) ht
theorem putV51 (n : Int) (hn : I64 n) (w0 W : World) (b : Value) (t0 : List UInt8) (g : Nat) (hg : W.heap.size = g) (hB : Below w0.heap.size w0 W) (hb : Bts W w0.heap.size b t0) (ht : t0.length + 300 ≤ 140737488355328) :
    Calls Tryz.prog 51 #[b, .slice (some ⟨g, 0, none⟩) 1 1] (W.alloc (.cells #[.int .i64 6, .int .i64 n, .string ⟨#[]⟩, .slice none 0 0] 29)) (AppR w0 (t0 ++ kq (vEl n))) :=
  putNew51 (vEl n) _ w0 W b t0 g hg (in_plain (by unfold I64; omega) hn (by decide) w0 0) (by simp [vEl, V.many, manyL]; exact Nat.zero_le _) hB hb ht
theorem putE51 (n : Int) (hn : I64 n) (w0 W : World) (b : Value) (t0 : List UInt8) (g : Nat) (hg : W.heap.size = g) (hB : Below w0.heap.size w0 W) (hb : Bts W w0.heap.size b t0) (ht : t0.length + 300 ≤ 140737488355328) :
    Calls Tryz.prog 51 #[b, .slice (some ⟨g, 0, none⟩) 1 1] (W.alloc (.cells #[.int .i64 7, .int .i64 n, .string ⟨#[]⟩, .slice none 0 0] 29)) (AppR w0 (t0 ++ kq (eEl n))) :=
  putNew51 (eEl n) _ w0 W b t0 g hg (in_plain (by unfold I64; omega) hn (by decide) w0 0) (by simp [eEl, V.many, manyL]; exact Nat.zero_le _) hB hb ht
theorem putS51 (s : ByteArray) (hs : s.size ≤ 1048570) (w0 W : World) (b : Value) (t0 : List UInt8) (g : Nat) (hg : W.heap.size = g) (hB : Below w0.heap.size w0 W) (hb : Bts W w0.heap.size b t0) (ht : t0.length + 300 ≤ 140737488355328) :
    Calls Tryz.prog 51 #[b, .slice (some ⟨g, 0, none⟩) 1 1] (W.alloc (.cells #[.int .i64 2, .int .i64 0, .string s, .slice none 0 0] 29)) (AppR w0 (t0 ++ kq (strV s))) :=
  putNew51 (strV s) _ w0 W b t0 g hg (in_plain (by unfold I64; omega) (by unfold I64; omega) (by omega) w0 0) (by simp [strV, V.many, manyL]; omega) hB hb ht
/-- A slice of strings. -/
def Ss (w : World) (v : Value) (l : List ByteArray) : Prop := ∃ p cap, v = .slice p l.length cap ∧ l.length ≤ cap ∧ cap ≤ maxLen ∧ (∀ s ∈ l, s.size ≤ 1048570) ∧
  (l = [] ∨ ∃ g o, p = some ⟨g, o, none⟩ ∧ ∀ i (h : i < l.length), w.cell? ⟨g, o + i, none⟩ = some (.string l[i]))
theorem Ss.on {w w' : World} {v : Value} {l : List ByteArray} (h : Ss w v l) (hb : Below w.heap.size w w') : Ss w' v l := by
  obtain ⟨p, cap, rfl, h1, h2, h3, h4⟩ := h
  refine ⟨p, cap, rfl, h1, h2, h3, ?_⟩
  rcases h4 with h4 | ⟨g, o, rfl, hc⟩
  · exact .inl h4
  · exact .inr ⟨g, o, rfl, fun i hi => some_on hb (hc i hi)⟩
theorem ss_one (W : World) (s : ByteArray) (hs : s.size ≤ 1048570) : Ss (W.alloc (.cells #[.string s] 9)) (.slice (some ⟨W.heap.size, 0, none⟩) 1 1) [s] := by
  refine ⟨_, 1, rfl, Nat.le_refl _, by unfold maxLen; omega, by simpa using hs, .inr ⟨W.heap.size, 0, rfl, fun i hi => ?_⟩⟩
  have hc := cells_new W [.string s] 9
  simp only [Go.WideShapes.add_plain, Nat.zero_add] at hc
  obtain rfl : i = 0 := by simpa using hi
  exact hc 0 _ rfl
set_option maxHeartbeats 1000000 in
set_option maxRecDepth 20000 in
theorem putFirst59 (l : List ByteArray) (sl : Value) (w0 w : World) (b : Value) (t0 : List UInt8) (hs : Ss w sl l) (hB : Below w0.heap.size w0 w) (hb : Bts w w0.heap.size b t0) (ht : t0.length + 300 ≤ 140737488355328) :
    Calls Tryz.prog 59 #[b, sl] w (AppR w0 (t0 ++ firstQ l)) := by
  obtain ⟨p, cap, rfl, h1, h2, h3, h4⟩ := hs
  cases l with
  | nil =>
    go_enter Tryz.func59, Tryz.ntmps59
    go_wp2
    go_ret
    exact ⟨b, rfl, by simpa [firstQ] using hb, hB⟩
  | cons s r =>
    obtain ⟨g, o, rfl, hc⟩ := h4.resolve_left (by simp)
    have c0 := hc 0 (by simp)
    have hs0 := h3 s (by simp)
    simp only [Nat.add_zero, List.getElem_cons_zero] at c0
    rw [List.length_cons] at *
    generalize r.length = m at *
    unfold maxLen at h2
    have e0 : firstQ (s :: r) = kq (strV s) := rfl
    rw [e0]
    have c51 := fun W g hg hB hb => putS51 s hs0 w0 W b t0 g hg hB hb ht
    generalize kq (strV s) = K at *
    clear e0 hc h4 h3
    go_enter Tryz.func59, Tryz.ntmps59
    go_wp2_with (first
      | (go_at_call 61; refine (str61 s _).mono ?_; rintro e w1 ⟨rfl, hB1⟩; have hB2 := hB.trans (hB1.mono hB.size); have hO : Bts w1 w0.heap.size b t0 := own_bel hb hB1)
      | (go_at_call 51; refine (c51 _ _ (by simp) hB2 hO).mono ?_; rintro e w2 ⟨b2, rfl, hb2, hB3⟩))
    go_ret
    exact ⟨b2, rfl, hb2, hB3⟩
set_option maxHeartbeats 1000000 in
set_option maxRecDepth 20000 in
theorem out21 (n : Int) (hn : I64 n) (l : List ByteArray) (sl : Value) (w : World) (hs : Ss w sl l) : Calls Tryz.prog 21 #[.int .i64 n, sl] w (AppR w (outQ n l)) := by
  have c51 := fun W b g hg hB hb => putV51 n hn w W b [3] g hg hB hb (by simp)
  have c59 := fun W b hB hb => putFirst59 l sl w W b _ (hs.on hB) hB hb (show ([3] ++ kq (vEl n)).length + 300 ≤ 140737488355328 by have := kq_len (vEl n); simp; omega)
  have hq : outQ n l = [3] ++ kq (vEl n) ++ firstQ l := rfl
  rw [hq]
  generalize kq (vEl n) = K at *
  generalize firstQ l = F at *
  obtain ⟨p, cap, rfl, -⟩ := hs
  have hlit := bts_lit1 w w.heap.size (Nat.le_refl _) 3
  have hB0 := bel1 w (.cells #[.int .u8 (3 : UInt8).toNat] 5)
  go_enter Tryz.func21, Tryz.ntmps21
  go_wp2_with (first
    | (go_at_call 41; refine (vertex41 n _).mono ?_; rintro e w1 ⟨rfl, hB1⟩; have hB2 := hB0.trans (hB1.mono hB0.size); have hO : Bts w1 w.heap.size _ [3] := own_bel hlit hB1)
    | (go_at_call 51; refine (c51 _ _ _ (by simp) hB2 hO).mono ?_; rintro e w2 ⟨b2, rfl, hb2, hB3⟩)
    | (go_at_call 59; refine (c59 _ _ hB3 hb2).mono ?_; rintro e w3 ⟨b3, rfl, hb3, hB4⟩))
  go_ret
  exact ⟨b3, rfl, hb3, hB4⟩
set_option maxHeartbeats 1000000 in
set_option maxRecDepth 20000 in
theorem in23 (n : Int) (hn : I64 n) (l : List ByteArray) (sl : Value) (w : World) (hs : Ss w sl l) : Calls Tryz.prog 23 #[.int .i64 n, sl] w (AppR w (inQ n l)) := by
  have c51 := fun W b g hg hB hb => putV51 n hn w W b [4] g hg hB hb (by simp)
  have c59 := fun W b hB hb => putFirst59 l sl w W b _ (hs.on hB) hB hb (show ([4] ++ kq (vEl n)).length + 300 ≤ 140737488355328 by have := kq_len (vEl n); simp; omega)
  have hq : inQ n l = [4] ++ kq (vEl n) ++ firstQ l := rfl
  rw [hq]
  generalize kq (vEl n) = K at *
  generalize firstQ l = F at *
  obtain ⟨p, cap, rfl, -⟩ := hs
  have hlit := bts_lit1 w w.heap.size (Nat.le_refl _) 4
  have hB0 := bel1 w (.cells #[.int .u8 (4 : UInt8).toNat] 5)
  go_enter Tryz.func23, Tryz.ntmps23
  go_wp2_with (first
    | (go_at_call 41; refine (vertex41 n _).mono ?_; rintro e w1 ⟨rfl, hB1⟩; have hB2 := hB0.trans (hB1.mono hB0.size); have hO : Bts w1 w.heap.size _ [4] := own_bel hlit hB1)
    | (go_at_call 51; refine (c51 _ _ _ (by simp) hB2 hO).mono ?_; rintro e w2 ⟨b2, rfl, hb2, hB3⟩)
    | (go_at_call 59; refine (c59 _ _ hB3 hb2).mono ?_; rintro e w3 ⟨b3, rfl, hb3, hB4⟩))
  go_ret
  exact ⟨b3, rfl, hb3, hB4⟩
theorem bts_lit2 (w : World) (base : Nat) (hb : base ≤ w.heap.size) (c d : UInt8) : Bts (w.alloc (.cells #[.int .u8 c.toNat, .int .u8 d.toNat] 5)) base (.slice (some ⟨w.heap.size, 0, none⟩) 2 2) [c, d] :=
  World.ownsRow_lit w #[.int .u8 c.toNat, .int .u8 d.toNat] 2 hb (by decide) rfl
set_option maxHeartbeats 1000000 in
set_option maxRecDepth 20000 in
theorem label25 (k : Int) (l : List ByteArray) (sl : Value) (w : World) (hs : Ss w sl l) : Calls Tryz.prog 25 #[.int .i64 k, sl] w (AppR w (labelQ k l)) := by
  have c59 := fun W b hB hb => putFirst59 l sl w W b [5, byteB k] (hs.on hB) hB hb (by simp)
  have hq : labelQ k l = [5, byteB k] ++ firstQ l := rfl
  rw [hq]
  have hk := byteB_of k
  generalize firstQ l = F at *
  generalize byteB k = B at *
  obtain ⟨p, cap, rfl, -⟩ := hs
  have hlit := bts_lit2 w w.heap.size (Nat.le_refl _) 5 B
  have hB0 := bel1 w (.cells #[.int .u8 (5 : UInt8).toNat, .int .u8 B.toNat] 5)
  go_enter Tryz.func25, Tryz.ntmps25
  go_wp2_with (first
    | (go_at_call 59; refine (c59 _ _ hB0 hlit).mono ?_; rintro e w3 ⟨b3, rfl, hb3, hB4⟩))
  go_ret
  exact ⟨b3, rfl, hb3, hB4⟩
end Go.Proofs.YtbgikgeknnmelaaGreat
