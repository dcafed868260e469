/-
  GraphBoth: its walk.
-/
import Derived.Test.YteknbploiombiaaZBgn
import Derived.Test.YteknbploiombiaaZCtf
namespace Go.Proofs.Yteknbploiombiaa
open Go.RowKit Go.Shelf
set_option linter.unusedVariables false      -- a walk need not use every condition

/-- How many are told of the first i vertices. -/
def cnt (g : Gg) (i : Nat) : Nat := ((g.vs.take i).map fun v => (outL g v.id []).length + (inL g v.id []).length).sum
theorem cnt_succ {g : Gg} {i : Nat} (hi : i < g.vs.length) : cnt g (i + 1) = cnt g i + (outL g g.vs[i].id []).length + (inL g g.vs[i].id []).length := by
  unfold cnt
  rw [List.take_succ_eq_append_getElem hi, List.map_append, List.sum_append]
  simp
  omega
theorem cnt_le {g : Gg} {i : Nat} (hi : i ≤ g.vs.length) : cnt g i ≤ i * (2 * g.es.length) := by
  induction i with
  | zero => simp [cnt]
  | succ i ih =>
    rw [cnt_succ (by omega)]
    have h1 : (outL g g.vs[i].id []).length ≤ g.es.length := List.length_filter_le _ _
    have h2 : (inL g g.vs[i].id []).length ≤ g.es.length := List.length_filter_le _ _
    have := ih (by omega)
    rw [Nat.succ_mul]
    omega
theorem cnt_all {g : Gg} (hm : gMay g = true) : cnt g g.vs.length = 2 * g.es.length := by
  unfold cnt
  rw [List.take_length]
  unfold gMay at hm
  simp only [Bool.and_eq_true, decide_eq_true_eq] at hm
  have hl := hm.2
  unfold lksMay at hl
  rw [List.all_eq_true] at hl
  refine both_count (up_els hm.1.1.2) (fun e he => ?_) (fun e he => ?_)
  · have := hl e he
    unfold lkOk hasV at this
    simp only [Bool.and_eq_true, decide_eq_true_eq] at this
    exact this.1.2
  · have := hl e he
    unfold lkOk hasV at this
    simp only [Bool.and_eq_true, decide_eq_true_eq] at this
    exact this.2
theorem out_mem {g : Gg} {id : Int} {e : Lk} (h : e ∈ outL g id []) : e.out = id ∧ e ∈ g.es := by
  unfold outL at h
  simp only [List.mem_filter, Bool.and_eq_true, decide_eq_true_eq] at h
  exact ⟨h.2.1, h.1⟩
theorem in_mem {g : Gg} {id : Int} {e : Lk} (h : e ∈ inL g id []) : e.inn = id ∧ e ∈ g.es := by
  unfold inL at h
  simp only [List.mem_filter, Bool.and_eq_true, decide_eq_true_eq] at h
  exact ⟨h.2.1, h.1⟩
theorem lab_sq (w : World) (T : Nat) (s : ByteArray) (hs : S64 s) (hT : w.heap[T]? = some (.cells #[.string s] 9)) : Sq RB w 0 [s] (.slice (some ⟨T, 0, none⟩) 1 1) := by
  refine ⟨_, 1, rfl, Nat.le_refl _, by unfold maxLen; omega, by show 1 * 16 ≤ _; omega, .inr ⟨T, 0, rfl, Nat.zero_le _, .slice none 0 0, fun j u hj => ?_, hs, trivial⟩⟩
  cases j with
  | zero => simp [RB] at hj; subst hj; exact (one_of hT).1
  | succ j => simp [RB] at hj
/-- Out or In, told and collected. -/
theorem outs (g : Gg) (sv se : Value) (id : Int) (w : World) (hg : Gg.In w 0 g sv se) (ls : List ByteArray) (sl : Value) (hs : Sq RB w 0 ls sl) : Calls Try.prog 10 #[g.agg sv se, .int .i64 id, sl] w fun e w' => ∃ P, e = .returned (.func (.func 67) #[] #[.pointer (some ⟨P, 0, none⟩)]) ∧ Below w.heap.size w w' ∧
    Calls Try.prog 9 #[.func (.func 67) #[] #[.pointer (some ⟨P, 0, none⟩)]] w' fun e w'' => ∃ p c, e = .returned (.slice p (outL g id ls).length c) ∧ Sq RS w'' 0 (outL g id ls) (.slice p (outL g id ls).length c) ∧ Below w'.heap.size w' w'' := by
  have hlen : (outL g id ls).length * 64 ≤ 140737488351232 := by
    have h1 : (outL g id ls).length ≤ g.es.length := List.length_filter_le _ _
    obtain ⟨_, _, _, _, _, h2, _⟩ := hg.2.2
    have h2 : g.es.length * 64 ≤ 140737488351232 := h2
    omega
  refine (out10 g sv se id ls sl w hg hs).mono ?_
  rintro e w' ⟨P, v, rfl, -, h1, h2, h3⟩
  refine ⟨P, rfl, h3, (links9 _ P v (P + 1) w' h1 h2 hlen).mono ?_⟩
  rintro e w'' ⟨v', rfl, hs', hb'⟩
  have hq := (hs'.sq hlen).low (Nat.zero_le _)
  obtain ⟨p, c, rfl⟩ := hq.header
  exact ⟨p, c, rfl, hq, hb'⟩
theorem ins (g : Gg) (sv se : Value) (id : Int) (w : World) (hg : Gg.In w 0 g sv se) (ls : List ByteArray) (sl : Value) (hs : Sq RB w 0 ls sl) : Calls Try.prog 12 #[g.agg sv se, .int .i64 id, sl] w fun e w' => ∃ P, e = .returned (.func (.func 67) #[] #[.pointer (some ⟨P, 0, none⟩)]) ∧ Below w.heap.size w w' ∧
    Calls Try.prog 9 #[.func (.func 67) #[] #[.pointer (some ⟨P, 0, none⟩)]] w' fun e w'' => ∃ p c, e = .returned (.slice p (inL g id ls).length c) ∧ Sq RS w'' 0 (inL g id ls) (.slice p (inL g id ls).length c) ∧ Below w'.heap.size w' w'' := by
  have hlen : (inL g id ls).length * 64 ≤ 140737488351232 := by
    have h1 : (inL g id ls).length ≤ g.es.length := List.length_filter_le _ _
    obtain ⟨_, _, _, _, _, h2, _⟩ := hg.2.2
    have h2 : g.es.length * 64 ≤ 140737488351232 := h2
    omega
  refine (in12 g sv se id ls sl w hg hs).mono ?_
  rintro e w' ⟨P, v, rfl, -, h1, h2, h3⟩
  refine ⟨P, rfl, h3, (links9 _ P v (P + 1) w' h1 h2 hlen).mono ?_⟩
  rintro e w'' ⟨v', rfl, hs', hb'⟩
  have hq := (hs'.sq hlen).low (Nat.zero_le _)
  obtain ⟨p, c, rfl⟩ := hq.header
  exact ⟨p, c, rfl, hq, hb'⟩
set_option maxHeartbeats 4000000 in
theorem both_no (g : Gg) (sv se : Value) (w : World) (hg : Gg.In w 0 g sv se) (hno : gMay g = false ∨ 60 < g.vs.length ∨ 60 < g.es.length) :
    Calls Try.prog 4 #[g.agg sv se] w fun e w' => e = .returned (.bool true) ∧ Below w.heap.size w w' := by
  obtain ⟨pv, cv, rfl⟩ := hg.2.1.header
  obtain ⟨pe, ce, rfl⟩ := hg.2.2.header
  have c9 := fun W hW => check8 g _ _ W (hg.on hW)
  obtain ⟨nv, hnv⟩ : ∃ n, g.vs.length = n := ⟨_, rfl⟩
  obtain ⟨ne, hne⟩ : ∃ n, g.es.length = n := ⟨_, rfl⟩
  rw [hnv, hne] at hno
  unfold Gg.agg at c9 ⊢
  rw [hnv, hne] at c9 ⊢
  clear hg hnv hne
  have c8 := begun6
  have hb0 := Lib.hid (bel1 w (Obj.cells #[.slice pv nv cv, .slice pe ne ce, .int .i64 g.last] 27))
  have n0 := Lib.hid (World.alloc_heap_new w (Obj.cells #[.slice pv nv cv, .slice pe ne ce, .int .i64 g.last] 27))
  go_enter Try.func4, Try.ntmps4
  go_wp2_with (fail)
  refine (c8 _).mono ?_
  rintro e w1 ⟨rfl, hb1⟩
  have n1 := Lib.hid (blk_on hb1 n0.out)
  have hB1 := Lib.hid (bel_then hb0.out hb1)
  obtain ⟨x0, x1, x2, fx⟩ := three_of n1.out
  clear hb1
  go_wp2_with (fail)
  refine (c9 _ hB1.out).mono ?_
  rintro e w2 ⟨rfl, hb2⟩
  have n2 := Lib.hid (blk_on hb2 n1.out)
  have hB2 := Lib.hid (bel_then hB1.out hb2)
  clear x0 x1 x2 fx hb2
  obtain ⟨x0, x1, x2, fx⟩ := three_of n2.out
  cases hm : gMay g with
  | false =>
    rw [err_no hm]
    go_wp2_with (fail)
    refine (c8 _).mono ?_
    rintro e w3 ⟨rfl, hb3⟩
    have hB3 := Lib.hid (bel_then hB2.out hb3)
    clear hb3
    go_wp2
    go_ret
    exact ⟨rfl, hB3.out⟩
  | true =>
    rw [err_yes hm]
    rw [hm] at hno
    by_cases h1 : 60 < nv
    · have h1' : (60 : Int) < (nv : Int) := by omega
      go_wp2_with (fail)
      refine (c8 _).mono ?_
      rintro e w3 ⟨rfl, hb3⟩
      have hB3 := Lib.hid (bel_then hB2.out hb3)
      clear hb3
      go_wp2
      go_ret
      exact ⟨rfl, hB3.out⟩
    · have h1' : ¬ (60 : Int) < (nv : Int) := by omega
      have h2' : (60 : Int) < (ne : Int) := by
        rcases hno with h | h | h
        · cases h
        · omega
        · omega
      go_wp2_with (fail)
      refine (c8 _).mono ?_
      rintro e w3 ⟨rfl, hb3⟩
      have hB3 := Lib.hid (bel_then hB2.out hb3)
      clear hb3
      go_wp2
      go_ret
      exact ⟨rfl, hB3.out⟩
end Go.Proofs.Yteknbploiombiaa
