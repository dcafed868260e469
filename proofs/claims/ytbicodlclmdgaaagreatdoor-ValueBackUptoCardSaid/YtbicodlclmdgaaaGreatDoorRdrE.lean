/-
  What the reader of package value does with a map whose keys and values hold no list, where nothing is wrong.
-/
import Derived.Test.YtbicodlclmdgaaaGreatDoorRdrD
import Derived.Deep.AppendLies
import Derived.Test.YtbicodlclmdgaaaGreatDoorMapD
namespace Go.Proofs.YtbicodlclmdgaaaGreatDoor
open Go.RowKit

/-- A key and its value are read. -/
def Step (T : ByteArray) (d : Int) (p : Nat) (x : V × V) (b : Nat) : Prop := ∃ a, Reads T d p x.1 a ∧ Has T a [58, 32] ∧ Reads T d (a + 2) x.2 b
/-- The cells of values that hold no list. -/
def Cs : List V → List Value → Prop
  | [], [] => True
  | v :: l, a :: b :: c :: d :: xs => a = .int .i64 v.k ∧ b = .int .i64 v.n ∧ c = .string v.s ∧ (∀ w lo, v.In w lo d) ∧ Cs l xs
  | _, _ => False
theorem Cs.app : ∀ {l m : List V} {xs ys : List Value}, Cs l xs → Cs m ys → Cs (l ++ m) (xs ++ ys)
  | [], _, [], _, _, h => h
  | [], _, _ :: _, _, h, _ => by simp [Cs] at h
  | v :: l, m, xs, ys, h, h' => by
    match xs, h with
    | a :: b :: c :: d :: xs, h =>
      simp only [Cs, List.cons_append] at h ⊢
      exact ⟨h.1, h.2.1, h.2.2.1, h.2.2.2.1, Cs.app h.2.2.2.2 h'⟩
theorem Cs.ls {w : World} {lo g : Nat} : ∀ {l : List V} {xs : List Value} (o : Nat), Cs l xs → (∀ i x, xs[i]? = some x → w.cell? ⟨g, o + i, none⟩ = some x) → Ls w lo l g o
  | [], _, _, _, _ => by simp only [Ls]
  | v :: l, xs, o, h, hc => by
    match xs, h with
    | a :: b :: c :: d :: xs, h =>
      simp only [Cs] at h
      obtain ⟨rfl, rfl, rfl, hv, hr⟩ := h
      simp only [Ls]
      refine ⟨d, hc 0 _ rfl, hc 1 _ rfl, hc 2 _ rfl, hc 3 _ rfl, hv w lo, Cs.ls (o + 4) hr fun i x hx => ?_⟩
      have := hc (4 + i) x (by rw [show 4 + i = i + 4 by omega]; simpa using hx)
      rwa [← Nat.add_assoc] at this
theorem leaf_in {v : V} (hl : v.l = []) {w : World} {lo : Nat} {sl : Value} (h : v.In w lo sl) (w' : World) (lo' : Nat) : v.In w' lo' sl := by
  rw [V.in_iff] at h ⊢
  obtain ⟨h1, h2, h3, p, cap, e, hc, hm, h56, -⟩ := h
  exact ⟨h1, h2, h3, p, cap, e, hc, hm, h56, .inl hl⟩
theorem own_kept {w w' : World} {base : Nat} {e : TypeId} {size : Nat} {v : Value} {n : Nat} {xs : List Value} (h : w.ownsRow base e size v n xs) {r : Nat} (hg : w.grownBy w' (some r)) (hr : r < base) : w'.ownsRow base e size v n xs := by
  refine World.ownsRow.kept h hg ?_
  rcases hb : v.ownBlock with _ | g
  · exact .inl rfl
  · have := (World.ownsRow.lt h g hb).1
    exact .inr (fun e => by injection e with e; omega)
theorem flatP_take {its : List (V × V)} {j : Nat} (hj : j < its.length) : flatP (its.take (j + 1)) = flatP (its.take j) ++ [its[j].1, its[j].2] := by
  unfold flatP
  rw [List.take_succ_eq_append_getElem hj, List.flatMap_append]; simp

set_option maxRecDepth 20000 in
set_option maxHeartbeats 4000000 in
theorem pairs101 (T : ByteArray) (d : Int) (p : Nat) (its : List (V × V)) (P : Nat → Nat) (hd0 : 0 ≤ d) (hd : d ≤ 8) (h0 : Has T p [123]) (hP0 : P 0 = p + 1) (hn : 0 < its.length) (hn9 : its.length ≤ 1000)
    (hfirst : ∃ h : p + 1 < T.size, T[p + 1] ≠ 125)
    (hst : ∀ j (hj : j < its.length), ∃ b, Step T (d + 1) (P j) its[j] b ∧ ((j + 1 < its.length ∧ Has T b [44, 32] ∧ P (j + 1) = b + 2) ∨ (j + 1 = its.length ∧ (∃ h : b < T.size, T[b] = 125) ∧ P (j + 1) = b + 1)))
    (hleaf : ∀ x ∈ its, x.1.l = [] ∧ x.2.l = []) (hT : T.size ≤ 140737488351232) (w : World) (r k : Nat) (h : Rd w r T p k) (hk : k ≤ 1000) :
    Calls Tryz.prog 101 #[.pointer (some ⟨r, 0, none⟩), .int .i64 d] w fun e w' => ∃ sl, e = .returned ((V.mk 5 0 ⟨#[]⟩ (flatP its)).agg sl) ∧ (V.mk 5 0 ⟨#[]⟩ (flatP its)).In w' w.heap.size sl ∧ Rp r T (P its.length) k w w' := by
  have hTm : T.size ≤ maxLen := by unfold maxLen; omega
  have hrl := h.lt
  obtain ⟨w1, hw1⟩ : ∃ w1, w1 = w.alloc (.cells #[.int .i64 0, .int .i64 0, .string ⟨#[]⟩, .slice none 0 0] 24) := ⟨_, rfl⟩
  have hblk : w1.heap[w.heap.size]? = some (.cells #[.int .i64 0, .int .i64 0, .string ⟨#[]⟩, .slice none 0 0] 24) := by rw [hw1]; exact blk_new w _
  have hsz1 : w1.heap.size = w.heap.size + 1 := by rw [hw1]; simp
  have hR1 : Rd w1 r T p k := by rw [hw1]; exact h.alloc _
  have c99 := word99 w1 r T ⟨#[123]⟩ p k hR1 h0 hTm
  obtain ⟨hf1, hf2⟩ := hfirst
  have c117 := fun w h => next_first w r T (p + 1) k h hf1 125 hf2 hTm
  have j1 : IntKind.i64.wrap (d + 1) = d + 1 := by rw [IntKind.wrap_i64]; omega
  obtain ⟨i0, hi, hz0, hz1, hz2⟩ := info_parts info24
  unfold V.agg
  simp only [V.k, V.n, V.s]
  go_enter Tryz.func101, Tryz.ntmps101
  go_wp2_with (first
    | (go_at_call 99; rw [← hw1]; refine c99.mono ?_; rintro e w2 ⟨rfl, h2⟩)
    | (go_at_call 117; refine (c117 _ h2.2).mono ?_; rintro e w3 ⟨rfl, h3⟩))
  clear c99 c117 h0
  have hstart : Rp r T (P 0) k w1 w3 := by rw [hP0]; exact h2.trans h3
  go_loopg [5, 6] its.length (fun c v how wr => ∃ (j : Nat) (xs : List Value), c + j = its.length ∧ Hid (Cs (flatP (its.take j)) xs) ∧ Hid (wr.ownsRow w1.heap.size 24 4 v (2 * j) xs) ∧ ((j < its.length ∧ how = .int .i64 0) ∨ (j = its.length ∧ how = .int .i64 1)) ∧ Hid (Rp r T (P j) k w1 wr))
  case atStart => exact ⟨0, [], rfl, trivial, World.ownsRow_nil _ _ _ _, .inl ⟨hn, rfl⟩, hstart⟩
  case round =>
    obtain ⟨j, xs, hj, hC, hO, hhow, hR⟩ := hrel
    rcases hhow with ⟨hlt, rfl⟩ | ⟨rfl, rfl⟩
    · obtain ⟨b, ⟨a, hra, hha, hrb⟩, hnext⟩ := hst j hlt
      obtain ⟨hl1, hl2⟩ := hleaf its[j] (List.getElem_mem hlt)
      have htk : Hid (flatP (its.take (j + 1)) = flatP (its.take j) ++ [its[j].1, its[j].2]) := flatP_take hlt
      have hnx : Hid ((j + 1 < its.length ∧ Has T b [44, 32] ∧ P (j + 1) = b + 2) ∨ (j + 1 = its.length ∧ (∃ h : b < T.size, T[b] = 125) ∧ P (j + 1) = b + 1)) := hnext
      generalize its[j].1 = kv at *
      generalize its[j].2 = vv at *
      have c118 := key118 T (d + 1) (P j) kv a hra wr r k hR.out.2 hk
      have c79 := fun w h => hrb w r k h
      unfold V.agg at c118 c79
      clear hst hleaf hnext hra hrb
      go_wp2_with (first
        | (go_at_call 118; refine c118.mono ?_; rintro e w4 ⟨s4, rfl, hin4, h4⟩; obtain ⟨p4, n4, q4, rfl⟩ := hin4.header; have hrl4 := h4.2.lt; have hs4 := h4.1.size)
        | (go_at_call 99; refine (word99 _ r T ⟨#[58, 32]⟩ a k (h4.2.alloc _) hha hTm).mono ?_; rintro e w5 ⟨rfl, h5⟩; have hq5 := (h5.1.block w4.heap.size (by simp) (by intro e; injection e with e; omega)).trans (blk_new w4 _); obtain ⟨x0, x1, x2, x3, -⟩ := four_of hq5; have hs5 := h5.1.size))
      have hne : some w4.heap.size ≠ u5.ownBlock := fun e => by have := (World.ownsRow.lt hO.out _ e.symm).2; omega
      have hsR := hR.out.1.size
      rw [World.size_alloc] at hs5
      go_region_held3 (fun w' => w'.cell? ⟨w4.heap.size, 0, none⟩ = some (.int .i64 kv.k) ∧ w'.cell? ⟨w4.heap.size, 1, none⟩ = some (.int .i64 kv.n) ∧ w'.cell? ⟨w4.heap.size, 2, none⟩ = some (.string kv.s) ∧ w'.cell? ⟨w4.heap.size, 3, none⟩ = some (.slice p4 n4 q4))
        (first | exact ⟨x0, x1, x2, x3⟩ | exact ⟨z0, z1, z2, z3⟩ | exact ⟨some_on (bel1 _ _) z0, some_on (bel1 _ _) z1, some_on (bel1 _ _) z2, some_on (bel1 _ _) z3⟩ | exact ⟨hgrow.cell (some_on (bel1 _ _) z0) hne, hgrow.cell (some_on (bel1 _ _) z1) hne, hgrow.cell (some_on (bel1 _ _) z2) hne, hgrow.cell (some_on (bel1 _ _) z3) hne⟩)
        (first
          | (go_at_call 79; refine (c79 _ h5.dr.2).mono ?_; rintro e w6 ⟨s6, rfl, hin6, h6⟩; obtain ⟨p6, n6, q6, rfl⟩ := hin6.header; obtain ⟨z0, z1, z2, z3, -⟩ := four_of ((h6.1.block w4.heap.size (by show w4.heap.size < w5.heap.size; omega) (by intro e; injection e with e; omega)).trans hq5); have hs6 := h6.1.size; have hG : wr.grownBy w6 (some r) := (((h4.1.trans (World.grownBy_alloc w4 _ (some r))).trans h5.dr.1).trans h6.1); have hO6 := own_kept hO.out hG (by omega))
          | (refine step_append_lies _ rfl _ _ 22 rfl w1.heap.size 24 i0 zVal 4 56 Tryz.underlying22 hi hz0 hz1 hz2 rfl (by decide) u5 (2 * j) xs rfl (hO6.alloc _) ⟨w6.heap.size, 0, none⟩ 2 2 [.int .i64 kv.k, .int .i64 kv.n, .string kv.s, .slice p4 n4 q4, .int .i64 vv.k, .int .i64 vv.n, .string vv.s, .slice p6 n6 q6] rfl rfl (cells_new _ _ _) (by simp [Value.oneCell']) (by decide) (by unfold maxLen; omega) (by omega) (by have := hG.size; simp; omega) _ rfl ?_; intro g cap w7 hown hgrow hat hlt7))
      have hR7 : Rp r T b k w1 w7 := ((hR.out.trans ⟨hG, h6.2⟩).far (World.grownBy_alloc w6 _ none) (by omega) (fun _ e => by cases e)).far hgrow (by omega) fun i e => (World.ownsRow.lt hO6 i e).1
      have hC7 : Hid (Cs (flatP (its.take (j + 1))) (xs ++ [.int .i64 kv.k, .int .i64 kv.n, .string kv.s, .slice p4 n4 q4, .int .i64 vv.k, .int .i64 vv.n, .string vv.s, .slice p6 n6 q6])) := by
        show Cs _ _
        rw [htk.out]
        exact hC.out.app ⟨rfl, rfl, rfl, leaf_in hl1 hin4, rfl, rfl, rfl, leaf_in hl2 hin6, trivial⟩
      have hown' : Hid (w7.ownsRow w1.heap.size 24 4 (.slice (some ⟨g, 0, none⟩) (2 * j + 2) cap) (2 * j + 2) (xs ++ [.int .i64 kv.k, .int .i64 kv.n, .string kv.s, .slice p4 n4 q4, .int .i64 vv.k, .int .i64 vv.n, .string vv.s, .slice p6 n6 q6])) := hown
      clear hgrow hown hat c118 c79
      rcases hnx.out with ⟨hlt2, hcm, hP⟩ | ⟨heq, ⟨hb1, hb2⟩, hP⟩
      · have c117 := next_more w7 r T b k hR7.2 125 (by decide) hcm hTm
        have hP' : Hid (P (j + 1) = b + 2) := hP
        clear hP hcm
        go_wp2_with (go_at_call 117; refine c117.mono ?_; rintro e w8 ⟨rfl, h8⟩)
        go_roundg (gk - 1)
        case rel =>
          refine ⟨j + 1, _, by omega, hC7, ?_, .inl ⟨hlt2, rfl⟩, ?_⟩
          · show World.ownsRow _ _ _ _ _ _ _
            rw [show 2 * (j + 1) = 2 * j + 2 by omega]
            exact own_kept hown'.out h8.1 (by omega)
          · show Rp _ _ _ _ _ _
            rw [hP'.out]; exact hR7.trans h8
        case measure => omega
      · have c117 := next_close w7 r T b k hR7.2 hb1 125 hb2 true hTm
        have hP' : Hid (P (j + 1) = b + 1) := hP
        clear hP hb2
        go_wp2_with (go_at_call 117; refine c117.mono ?_; rintro e w8 ⟨rfl, h8⟩)
        go_roundg (gk - 1)
        case rel =>
          refine ⟨j + 1, _, by omega, hC7, ?_, .inr ⟨heq, rfl⟩, ?_⟩
          · show World.ownsRow _ _ _ _ _ _ _
            rw [show 2 * (j + 1) = 2 * j + 2 by omega]
            exact own_kept hown'.out h8.1 (by omega)
          · show Rp _ _ _ _ _ _
            rw [hP'.out]; exact hR7.trans h8
        case measure => omega
    · rw [List.take_length] at hC
      have hC' := hC.out
      have hO' := hO.out
      obtain ⟨hxl, hor⟩ := hO.out
      obtain ⟨g4, cap4, cur, rfl, hg4, hcur, hc1, hc2, hcs, hct⟩ := hor.resolve_left (by rintro ⟨_, h⟩; omega)
      have hIn : (V.mk 5 0 ⟨#[]⟩ (flatP its)).In wr (w.heap.size + 1) (.slice (some ⟨g4, 0, none⟩) (2 * its.length) cap4) := by
        rw [V.in_iff]
        refine ⟨by unfold I64; simp [V.k], by unfold I64; simp [V.n], (by show (0 : Nat) ≤ 140737488351232; omega), _, _, ?_, ?_, hc2, ?_, Or.inr ⟨g4, 0, rfl, by omega, ?_⟩⟩
        · simp only [V.l]; rw [flatP_len]
        · simp only [V.l]; rw [flatP_len]; exact hc1
        · simp only [V.l]; rw [flatP_len]; omega
        · refine Cs.ls 0 hC' fun i x hx => ?_
          have := hO'.cells (g := g4) rfl i x hx
          have hadd : (⟨g4, 0, none⟩ : Addr).add i = ⟨g4, i, none⟩ := by unfold Addr.add; split <;> simp_all
          rw [Nat.zero_add, ← hadd]; exact this
      obtain ⟨y0, y1, y2, y3, yf⟩ := four_of ((hR.out.1.block w.heap.size (by omega) (by intro e; injection e with e; omega)).trans hblk)
      generalize hX : V.mk 5 0 ⟨#[]⟩ (flatP its) = X at *
      have hsR := hR.out.1.size
      clear hO hor hct hcur hO' hC' hC hxl hst hleaf
      go_wp2
      have hR4 := hR.out
      rw [hw1] at hR4
      have hfin := hR4.low.put hrl (Nat.le_refl _) 0 (.int .i64 5) (.int .i64 0) (.string ⟨#[]⟩) (.slice (some ⟨g4, 0, none⟩) (2 * its.length) cap4)
      have hin9 : X.In (put4 wr w.heap.size 0 (.int .i64 5) (.int .i64 0) (.string ⟨#[]⟩) (.slice (some ⟨g4, 0, none⟩) (2 * its.length) cap4)) w.heap.size (.slice (some ⟨g4, 0, none⟩) (2 * its.length) cap4) :=
        V.In.keep (lo := w.heap.size + 1) (fun a v ha hc => set_other (set_other (set_other (set_other hc (.inl (by omega))) (.inl (by omega))) (.inl (by omega))) (.inl (by omega))) (by omega) X _ hIn
      unfold put4 at hfin hin9
      rw [← hX] at hin9
      simp [bodyPost, results, Tryz.results101, go_sem, y0, y1, y2, y3]
      exact ⟨hin9, hfin⟩
end Go.Proofs.YtbicodlclmdgaaaGreatDoor
