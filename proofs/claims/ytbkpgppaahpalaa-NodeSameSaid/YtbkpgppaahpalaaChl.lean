/-
  Which nodes may be: leaves.
-/
import Derived.Test.YtbkpgppaahpalaaChk
namespace Go.Proofs.Ytbkpgppaahpalaa
open Go.RowKit
set_option linter.unusedVariables false      -- a walk need not use every condition

set_option maxHeartbeats 2000000 in
set_option maxRecDepth 100000 in
theorem valueMay79 (w : World) (v : Value) (c : C) (h : CeS w v c) :
    Calls Try.prog 79 #[v] w fun e w' => e = .returned (.bool (valOk c)) ∧ Below w.heap.size w w' := by
  obtain ⟨k, x, rfl, hk, hx, ho, hl⟩ := h
  obtain ⟨p, cap, rfl, -⟩ := hk
  obtain ⟨q, cap', rfl, -⟩ := hx
  unfold valOk
  have c82 := pageMay82
  by_cases h0 : c.over = 0
  · rw [if_pos h0]
    by_cases h1 : c.val.length ≤ 64
    · have e1 : (c.val.length : Int) ≤ 64 := by omega
      rw [decide_eq_true h1, Bool.true_and]
      go_enter Try.func79, Try.ntmps79
      go_wp2
      go_ret
      exact ⟨rfl, bel1 _ _⟩
    · have e1 : ¬ (c.val.length : Int) ≤ 64 := by omega
      rw [decide_eq_false h1, Bool.false_and]
      go_enter Try.func79, Try.ntmps79
      go_wp2
      go_ret
      exact ⟨rfl, bel1 _ _⟩
  · rw [if_neg h0]
    cases hp : pageOk c.over with
    | false =>
      rw [Bool.false_and, Bool.false_and, Bool.false_and]
      go_enter Try.func79, Try.ntmps79
      go_wp2_with (go_at_call 82; refine (c82 _ _).mono ?_; rintro e w' ⟨rfl, rfl⟩)
      go_ret
      exact ⟨rfl, bel1 _ _⟩
    | true =>
      rw [Bool.true_and]
      by_cases h1 : c.val.length = 0
      · have e1 : (c.val.length : Int) = 0 := by omega
        rw [decide_eq_true h1, Bool.true_and]
        by_cases h2 : 64 < c.len
        · rw [decide_eq_true h2, Bool.true_and]
          go_enter Try.func79, Try.ntmps79
          go_wp2_with (go_at_call 82; refine (c82 _ _).mono ?_; rintro e w' ⟨rfl, rfl⟩)
          go_ret
          exact ⟨rfl, bel1 _ _⟩
        · rw [decide_eq_false h2, Bool.false_and]
          go_enter Try.func79, Try.ntmps79
          go_wp2_with (go_at_call 82; refine (c82 _ _).mono ?_; rintro e w' ⟨rfl, rfl⟩)
          go_ret
          exact ⟨rfl, bel1 _ _⟩
      · have e1 : ¬ (c.val.length : Int) = 0 := by omega
        rw [decide_eq_false h1, Bool.false_and, Bool.false_and]
        go_enter Try.func79, Try.ntmps79
        go_wp2_with (go_at_call 82; refine (c82 _ _).mono ?_; rintro e w' ⟨rfl, rfl⟩)
        go_ret
        exact ⟨rfl, bel1 _ _⟩
theorem four_of {w : World} {g : Nat} {a b c d : Value} {t : TypeId} (e : w.heap[g]? = some (.cells #[a, b, c, d] t)) :
    w.cell? ⟨g, 0, none⟩ = some a ∧ w.cell? ⟨g, 1, none⟩ = some b ∧ w.cell? ⟨g, 2, none⟩ = some c ∧ w.cell? ⟨g, 3, none⟩ = some d := by
  refine ⟨?_, ?_, ?_, ?_⟩ <;> simp [World.cell?, e]
theorem ncell4 (w : World) (a b c d : Value) (t : TypeId) : (w.alloc (.cells #[a, b, c, d] t)).cell? ⟨w.heap.size, 0, none⟩ = some a ∧ (w.alloc (.cells #[a, b, c, d] t)).cell? ⟨w.heap.size, 1, none⟩ = some b ∧
    (w.alloc (.cells #[a, b, c, d] t)).cell? ⟨w.heap.size, 2, none⟩ = some c ∧ (w.alloc (.cells #[a, b, c, d] t)).cell? ⟨w.heap.size, 3, none⟩ = some d := four_of (World.alloc_heap_new w (.cells #[a, b, c, d] t))
/-- A cell stays. -/
theorem cell_past {w w' : World} {g o : Nat} {x : Value} (hb : Below w.heap.size w w') (h : w.cell? ⟨g, o, none⟩ = some x) : w'.cell? ⟨g, o, none⟩ = some x :=
  (World.cell?_of_block (w := w) (a := ⟨g, o, none⟩) (hb.block _ (World.block_lt_of_cell? w ⟨g, o, none⟩ h))).trans h
theorem len_pos {α : Type} {l : List α} (h : ¬ l = []) : 0 < l.length := by
  cases l with
  | nil => exact absurd rfl h
  | cons a b => simp
theorem empty_len {α : Type} (l : List α) : l.isEmpty = decide (l.length = 0) := by cases l <;> simp
set_option maxHeartbeats 4000000 in
set_option maxRecDepth 100000 in
theorem leafMay39 (w : World) (v : Value) (n : Nd) (h : NdS w v n) :
    Calls Try.prog 39 #[v] w fun e w' => e = .returned (.bool (leafOk n)) ∧ Below w.heap.size w w' := by
  obtain ⟨vc, vk, vi, rfl, hC, hK, hI⟩ := h
  obtain ⟨pk, ck, rfl, -, lk⟩ := hK.hdr
  obtain ⟨pi, ci, rfl, -, li⟩ := hI.hdr
  have HC := Lib.hid hC
  obtain ⟨pc, cc, rfl, -, lc⟩ := hC.hdr
  clear hC hK hI
  unfold leafOk
  rw [empty_len, empty_len]
  by_cases hk : n.keys.length = 0
  · by_cases hi : n.kids.length = 0
    · rw [decide_eq_true hk, decide_eq_true hi, Bool.true_and, Bool.true_and]
      obtain ⟨Res, hRes⟩ : ∃ R, mayC [] n.cells = R := ⟨_, rfl⟩
      rw [hRes]
      have HR := Lib.hid hRes
      clear hRes
      generalize hN : n.cells.length = N at *
      have HN := Lib.hid hN
      clear hN
      have hk0 : (n.keys.length : Int) = 0 := by omega
      have hi0 : (n.kids.length : Int) = 0 := by omega
      clear hk hi
      have c78 := follows78
      have c79 := valueMay79
      go_enter Try.func39, Try.ntmps39
      go_wp2
      go_loopg [3, 19] N (fun g s3 s19 wr => ∃ (i : Nat) (last : List UInt8), i + g = N ∧ s19 = .int .i64 i ∧ Hid (Bs wr s3 last) ∧ Hid (mayC last (n.cells.drop i) = Res) ∧ Hid (Below w.heap.size w wr))
      case atStart => exact ⟨0, [], by omega, rfl, bs_nil _, HR.out, bel1 _ _⟩
      case round =>
        obtain ⟨i, last, hig, rfl, hl, hm, hb⟩ := hrel
        cases gk with
        | zero =>
          obtain rfl : i = N := by omega
          have hr : Hid (true = Res) := by have := hm.out; rw [← HN.out, List.drop_length] at this; exact this
          go_wp2
          go_ret
          exact ⟨by rw [← hr.out]; rfl, hb.out⟩
        | succ g =>
          have hi : i < n.cells.length := by have := HN.out; omega
          have hiz : (i : Int) < (N : Int) := by omega
          have hi0 : (0 : Int) ≤ (i : Int) := by omega
          obtain ⟨g0, o0, cap0, k, x, e, q0, q1, q2, q3, hBk, hBx, hIo, hIl⟩ := (HC.out.on hb.out).at hi
          injection e with e1 e2 e3
          subst e1 e3
          have hm' : Hid ((fol last n.cells[i].key && valOk n.cells[i] && mayC n.cells[i].key (n.cells.drop (i + 1))) = Res) := by have := hm.out; rw [List.drop_eq_getElem_cons hi] at this; exact this
          clear hm
          generalize n.cells[i] = c at *
          have d78 := fun (u : World) (hu : Below wr.heap.size wr u) => c78 u _ _ _ _ (hl.out.on hu) (hBk.on hu)
          have d79 := fun (u : World) (hu : Below wr.heap.size wr u) => c79 u _ c ⟨k, x, rfl, hBk.on hu, hBx.on hu, hIo, hIl⟩
          have HK := Lib.hid hBk
          obtain ⟨kp, kc, rfl, -⟩ := hBk
          obtain ⟨xp, xc, rfl, -⟩ := hBx
          obtain ⟨lp, lc', rfl, -⟩ := hl.out
          generalize hf : fol last c.key = F at *
          generalize hv : valOk c = V at *
          clear hf hv e2
          cases F with
          | false =>
            have hr : Hid (false = Res) := by have := hm'.out; exact this
            go_wp2_with (go_at_call 78; refine (d78 _ (bel1 _ _)).mono ?_; rintro e w' ⟨rfl, rfl⟩)
            go_ret
            exact ⟨by rw [← hr.out]; rfl, hb.out.trans ((bel1 _ _).mono hb.out.size)⟩
          | true =>
            cases V with
            | false =>
              have hr : Hid (false = Res) := by have := hm'.out; exact this
              go_wp2_with (first
                | (go_at_call 78; refine (d78 _ (bel1 _ _)).mono ?_; rintro e w' ⟨rfl, rfl⟩)
                | (go_at_call 79; refine (d79 _ (bel1 _ _)).mono ?_; rintro e w2 ⟨rfl, hB2⟩))
              go_ret
              exact ⟨by rw [← hr.out]; rfl, (hb.out.trans ((bel1 _ _).mono hb.out.size)).trans (hB2.mono (by have := hb.out.size; simp; omega))⟩
            | true =>
              go_wp2_with (first
                | (go_at_call 78; refine (d78 _ (bel1 _ _)).mono ?_; rintro e w' ⟨rfl, rfl⟩)
                | (go_at_call 79; refine (d79 _ (bel1 _ _)).mono ?_; rintro e w2 ⟨rfl, hB2⟩; have hcl := cell_past hB2 (ncell4 wr _ _ _ _ 44).1))
              go_roundg g
              case measure => omega
              case rel => exact ⟨i + 1, c.key, by omega, by first | rfl | simp, (HK.out.on (bel1 _ _)).on hB2, hm'.out, (hb.out.trans ((bel1 _ _).mono hb.out.size)).trans (hB2.mono (by have := hb.out.size; simp; omega))⟩
    · have hk0 : (n.keys.length : Int) = 0 := by omega
      have hi0 : (0 : Int) < (n.kids.length : Int) := by omega
      rw [decide_eq_false hi, Bool.and_false, Bool.false_and]
      go_enter Try.func39, Try.ntmps39
      go_wp2
      go_ret
      exact ⟨rfl, bel1 _ _⟩
  · have hk0 : (0 : Int) < (n.keys.length : Int) := by omega
    rw [decide_eq_false hk, Bool.false_and, Bool.false_and]
    go_enter Try.func39, Try.ntmps39
    go_wp2
    go_ret
    exact ⟨rfl, bel1 _ _⟩
end Go.Proofs.Ytbkpgppaahpalaa
