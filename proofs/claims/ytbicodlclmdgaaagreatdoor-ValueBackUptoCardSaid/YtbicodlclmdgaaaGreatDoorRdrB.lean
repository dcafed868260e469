/-
  What the reader of package value does with strings, numbers and truths, where nothing is wrong.
-/
import Derived.Test.YtbicodlclmdgaaaGreatDoorRdr
import Derived.Test.YtbicodlclmdgaaaGreatDoorNumP
import Derived.Test.YtbicodlclmdgaaaGreatDoorByt
import Derived.Test.YtbicodlclmdgaaaGreatDoorMapC
namespace Go.Proofs.YtbicodlclmdgaaaGreatDoor
open Go.RowKit

theorem str18 (s : ByteArray) (w : World) : Calls Tryz.prog 18 #[.string s] w fun e w' => e = .returned (.agg #[.int .i64 2, .int .i64 0, .string s, .slice none 0 0]) ∧ Below w.heap.size w w' := by
  go_enter Tryz.func18, Tryz.ntmps18
  go_wp2
  simp [bodyPost, results, Tryz.results18, go_sem]
  exact bel1 w _
theorem int16 (n : Int) (w : World) : Calls Tryz.prog 16 #[.int .i64 n] w fun e w' => e = .returned (.agg #[.int .i64 1, .int .i64 n, .string ⟨#[]⟩, .slice none 0 0]) ∧ Below w.heap.size w w' := by
  go_enter Tryz.func16, Tryz.ntmps16
  go_wp2
  simp [bodyPost, results, Tryz.results16, go_sem]
  exact bel1 w _
theorem bool24 (b : Bool) (w : World) : Calls Tryz.prog 24 #[.bool b] w fun e w' => e = .returned (.agg #[.int .i64 3, .int .i64 (if b then 1 else 0), .string ⟨#[]⟩, .slice none 0 0]) ∧ Below w.heap.size w w' := by
  cases b
  · go_enter Tryz.func24, Tryz.ntmps24
    go_wp2
    simp [bodyPost, results, Tryz.results24, go_sem]
    exact bel1 w _
  · go_enter Tryz.func24, Tryz.ntmps24
    go_wp2
    simp [bodyPost, results, Tryz.results24, go_sem]
    exact bel1 w _

/-- Plain bytes: none that is a quote or a backslash, or can't be seen. -/
def Plain (X : List UInt8) : Prop := ∀ c ∈ X, 32 ≤ c.toNat ∧ c.toNat ≤ 126 ∧ c.toNat ≠ 92 ∧ c.toNat ≠ 39
theorem Plain.app {X Y : List UInt8} (h : Plain (X ++ Y)) : Plain X ∧ Plain Y := ⟨fun c hc => h c (List.mem_append_left _ hc), fun c hc => h c (List.mem_append_right _ hc)⟩
theorem Has.left {T : ByteArray} {p : Nat} {s t : List UInt8} (h : Has T p (s ++ t)) : Has T p s := fun i hi => by
  obtain ⟨h1, h2⟩ := h i (by simp; omega)
  exact ⟨h1, by rw [h2, List.getElem_append_left hi]⟩
theorem Has.right {T : ByteArray} {p : Nat} {s t : List UInt8} (h : Has T p (s ++ t)) : Has T (p + s.length) t := fun i hi => by
  obtain ⟨h1, h2⟩ := h (s.length + i) (by simp; omega)
  simp only [← Nat.add_assoc] at h1 h2
  exact ⟨h1, by rw [h2, List.getElem_append_right (by omega)]; simp⟩
theorem Has.head {T : ByteArray} {p : Nat} {c : UInt8} {s : List UInt8} (h : Has T p (c :: s)) : ∃ hp : p < T.size, T[p] = c := by
  obtain ⟨h1, h2⟩ := h 0 (by simp)
  exact ⟨h1, h2⟩
theorem Has.tail {T : ByteArray} {p : Nat} {c : UInt8} {s : List UInt8} (h : Has T p (c :: s)) : Has T (p + 1) s := Has.right (s := [c]) h
theorem Rp.low {w w' : World} {r : Nat} {T : ByteArray} {p k : Nat} {o : Obj} (h : Rp r T p k (w.alloc o) w') : Rp r T p k w w' := ⟨(World.grownBy_alloc w o (some r)).trans h.1, h.2⟩
theorem gr_put4 (w : World) (g i : Nat) (a b c d : Value) : w.grownBy (put4 w g i a b c d) (some g) := (((gr_set w g i a).trans (gr_set _ g (i + 1) b)).trans (gr_set _ g (i + 2) c)).trans (gr_set _ g (i + 3) d)
theorem Rp.far {w w' w'' : World} {r : Nat} {T : ByteArray} {p k : Nat} (h : Rp r T p k w w') {row : Option Nat} (hg : w'.grownBy w'' row) (hr : r < w.heap.size) (hrow : ∀ j, row = some j → w.heap.size ≤ j) : Rp r T p k w w'' :=
  ⟨h.1.andThen hg fun j hj => .inl (hrow j hj), h.2.grown hg fun e => by have := hrow r e.symm; omega⟩
theorem Rp.put {w w' : World} {r : Nat} {T : ByteArray} {p k : Nat} (h : Rp r T p k w w') (hr : r < w.heap.size) {g : Nat} (hg : w.heap.size ≤ g) (i : Nat) (a b c d : Value) : Rp r T p k w (put4 w' g i a b c d) :=
  h.far (gr_put4 w' g i a b c d) hr fun j e => by injection e with e; omega
theorem Bts.kept {w w' : World} {base : Nat} {b : Value} {t : List UInt8} (h : Bts w base b t) {r : Nat} (hg : w.grownBy w' (some r)) (hr : r < base) : Bts w' base b t := by
  refine World.ownsRow.kept h hg ?_
  rcases hb : b.ownBlock with _ | g
  · exact .inl rfl
  · have := (World.ownsRow.lt h g hb).1
    exact .inr (fun e => by injection e with e; omega)

set_option maxHeartbeats 2000000 in
theorem str98 (w : World) (r : Nat) (T : ByteArray) (p k : Nat) (h : Rd w r T p k) (X : List UInt8) (hX : Plain X) (hs : Has T p (39 :: (X ++ [39]))) (hT : T.size ≤ 140737488351232) :
    Calls Tryz.prog 98 #[.pointer (some ⟨r, 0, none⟩)] w fun e w' => e = .returned (.agg #[.int .i64 2, .int .i64 0, .string ⟨X.toArray⟩, .slice none 0 0]) ∧ Rp r T (p + X.length + 2) k w w' := by
  have hTm : T.size ≤ maxLen := by unfold maxLen; omega
  have hrl := h.lt
  have hs1 := hs.tail
  obtain ⟨hq9, hb9⟩ := (hs1.right).head
  have hlenX : X.length ≤ T.size := by omega
  obtain ⟨w1, hw1⟩ : ∃ w1, w1 = w.alloc (.cells #[.int .i64 0, .int .i64 0, .string ⟨#[]⟩, .slice none 0 0] 24) := ⟨_, rfl⟩
  have hblk : w1.heap[w.heap.size]? = some (.cells #[.int .i64 0, .int .i64 0, .string ⟨#[]⟩, .slice none 0 0] 24) := by rw [hw1]; exact blk_new w _
  have hsz1 : w1.heap.size = w.heap.size + 1 := by rw [hw1]; simp
  have hR1 : Rd w1 r T p k := by rw [hw1]; exact h.alloc _
  have c99 := word99 w1 r T ⟨#[39]⟩ p k hR1 (Has.left (s := [39]) hs) hTm
  go_enter Tryz.func98, Tryz.ntmps98
  go_wp2_with (go_at_call 99; rw [← hw1]; refine c99.mono ?_; rintro e w2 ⟨rfl, h2⟩)
  clear c99
  go_loopg [3] X.length (fun c v wr => ∃ j : Nat, c + j = X.length ∧ Hid (Bts wr w1.heap.size v (X.take j)) ∧ Hid (Rp r T (p + 1 + j) k w1 wr))
  case atStart => exact ⟨0, rfl, World.ownsRow_nil _ _ _ _, h2⟩
  case round =>
    obtain ⟨j, hj, hB, hR⟩ := hrel
    by_cases hlt : j < X.length
    · obtain ⟨hp', hb'⟩ := hs1.left j hlt
      have htk : Hid (X.take (j + 1) = X.take j ++ [X[j]]) := by show _ = _; rw [List.take_succ_eq_append_getElem hlt]
      obtain ⟨x1, x2, x3, x4⟩ := hX X[j] (List.getElem_mem hlt)
      obtain ⟨q, hq⟩ : ∃ q, Hid (q = p + 1 + j) := ⟨_, rfl⟩
      simp only [← hq.out] at hR hp' hb'
      rw [← hb'] at x1 x2 x3 x4
      rw [← hb'] at htk
      have hne : ((T[q].toNat : Int) == 39) = false := by simp; omega
      have hlt' : Hid ((X.take j).length = j) := by show _ = _; simp; omega
      clear hb'
      go_wp2_with (go_at_call 96; refine (cut_no _ r T q k hR.out.2 hp').mono ?_; rintro e w3 ⟨rfl, h3⟩; obtain ⟨c0, c1, c2, c3, cf⟩ := h3.2.cells)
      go_region
      go_wp2_with (first
        | (go_at_call 116; refine (char_plain _ r T q k h3.dr.2 hp' x1 x2 x3 hTm).mono ?_; rintro e w4 ⟨rfl, h4⟩; have hB4 := hB.out.kept (h3.dr.trans h4).1 (by omega); have hs4 := h4.1.size; have hs3 := h3.1.size; have hsr := hR.out.1.size)
        | (at_builtin; refine wpList_app_byts _ rfl _ _ rfl w1.heap.size _ _ rfl (World.ownsRow.alloc hB4 _) ⟨w4.heap.size, 0, none⟩ 1 [T[q]] rfl (cells_new _ [.int .u8 T[q].toNat] _) (by rw [hlt'.out]; show j + 1 ≤ _; omega) (by simp [go_sem] at *; omega) ?_; intro v' w5 hB5 hg5))
      have hR5 : Rp r T (q + 1) k w1 w5 := (((hR.out.trans h3).dr.trans h4).far (World.grownBy_alloc w4 _ none) (by omega) (fun _ e => by cases e)).far hg5 (by omega) fun i e => (World.ownsRow.lt hB4 i e).1
      clear hg5
      go_roundg (gk - 1)
      case rel =>
        refine ⟨j + 1, by omega, ?_, ?_⟩
        · show Bts _ _ _ _
          rw [htk.out]; exact hB5
        · show Rp _ _ _ _ _ _
          rw [show p + 1 + (j + 1) = q + 1 by rw [hq.out]; omega]
          exact hR5
      case measure => omega
    · obtain rfl : j = X.length := by omega
      obtain ⟨q, hq⟩ : ∃ q, Hid (q = p + 1 + X.length) := ⟨_, rfl⟩
      rw [List.take_length] at hB
      simp only [← hq.out] at hR hq9 hb9
      have heq : ((T[q].toNat : Int) == 39) = true := by rw [hb9]; rfl
      clear hb9
      go_wp2_with (go_at_call 96; refine (cut_no _ r T q k hR.out.2 hq9).mono ?_; rintro e w3 ⟨rfl, h3⟩; obtain ⟨c0, c1, c2, c3, cf⟩ := h3.2.cells)
      go_region
      have hW := h3.step.dr
      have hRW := hR.out.trans hW
      have hcv := bts_str (hB.out.kept hW.1 (by omega))
      go_wp2_with (go_at_call 18; refine (str18 _ _).mono ?_; rintro e w4 ⟨rfl, hb4⟩; have hR4 := hRW.far (gr_bel hb4 none) (by omega) (fun _ e => by cases e); obtain ⟨y0, y1, y2, y3, yf⟩ := four_of ((hR4.1.block w.heap.size (by omega) (by intro e; injection e with e; omega)).trans hblk))
      rw [hw1] at hR4
      have hfin := hR4.low.put hrl (Nat.le_refl _) 0 (.int .i64 2) (.int .i64 0) (.string ⟨X.toArray⟩) (.slice none 0 0)
      rw [show q + 1 = p + X.length + 2 by rw [hq.out]; omega] at hfin
      unfold put4 at hfin
      simp [bodyPost, results, Tryz.results98, go_sem, y0, y1, y2, y3]
      exact hfin
end Go.Proofs.YtbicodlclmdgaaaGreatDoor
