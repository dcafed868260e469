/-
  Why no two entries of two elements have one key: no walk.
  With what an edge's keys begin: no walk.
-/
import Derived.Test.YtbgikgeknnmelaaGreatZKrdKrfKrgKrh
namespace Go.Proofs.YtbgikgeknnmelaaGreat
open Go.RowKit
set_option linter.unusedVariables false

theorem bad_v {n : Int} (h : idB n = true) : bad (vEl n) = 0 := (bad_iff _).2 ⟨may_v h, by simp [vEl, V.k], by simp [vEl, V.k]⟩
theorem may_e {n : Int} (h : idB n = true) : (eEl n).may 1 = true := by
  unfold idB at h
  simp only [Bool.and_eq_true, decide_eq_true_eq] at h
  simp [eEl, V.may, onlyB]
  exact ⟨rfl, h⟩
theorem bad_e {n : Int} (h : idB n = true) : bad (eEl n) = 0 := (bad_iff _).2 ⟨may_e h, by simp [eEl, V.k], by simp [eEl, V.k]⟩
theorem kq_of {v : V} (h : bad v = 0) : kq v = kForm v := by unfold kq; simp [bads, h, keyL]
theorem wide_v {n : Int} (h : idB n = true) : (vEl n).wide := by simp [vEl, V.wide, wideL]; exact idB_i64 h
theorem wide_e {n : Int} (h : idB n = true) : (eEl n).wide := by simp [eEl, V.wide, wideL]; exact idB_i64 h
theorem len_v (n : Int) : (kForm (vEl n)).length = 9 := by simp [kForm, vEl, V.k, beN_length]
theorem len_e (n : Int) : (kForm (eEl n)).length = 9 := by simp [kForm, eEl, V.k, beN_length]
theorem keyQ_v {n : Int} (h : idB n = true) : keyQ (vEl n) = 1 :: kForm (vEl n) := by
  unfold keyQ
  rw [if_pos (may_v h), kq_of (bad_v h)]
  show (if (6 : Int) = 6 then _ else _) = _
  rw [if_pos rfl]
theorem keyQ_e {n : Int} (h : idB n = true) : keyQ (eEl n) = 2 :: kForm (eEl n) := by
  unfold keyQ
  rw [if_pos (may_e h), kq_of (bad_e h)]
  show (if (7 : Int) = 6 then _ else if (7 : Int) = 7 then _ else _) = _
  rw [if_neg (by decide), if_pos rfl]
theorem ix_tail {el : V} (hb : bad el = 0) {lb : ByteArray} {ps : List Pr} {e : En} (h : e ∈ ixQ el lb ps) : ∃ p, e.key = p ++ kForm el := by
  unfold ixQ at h
  rw [kq_of hb] at h
  rcases List.mem_cons.1 h with rfl | h
  · exact ⟨_, rfl⟩
  · obtain ⟨p, -, rfl⟩ := List.mem_map.1 h
    exact ⟨propK el.k p.nm [p.v], by unfold ixP; rw [kq_of hb]⟩
theorem vx_tail {x : Vx} {e : En} (h : e ∈ vxQ x) : idB x.id = true ∧ ∃ p, e.key = p ++ kForm (vEl x.id) := by
  unfold vxQ at h
  split at h
  · rename_i hi
    refine ⟨hi, ?_⟩
    rcases List.mem_cons.1 h with rfl | h
    · refine ⟨[1], ?_⟩
      exact keyQ_v hi
    · exact ix_tail (bad_v hi) h
  · cases h
theorem lk_tail {x : Lk} {e : En} (h : e ∈ lkQ x) : idB x.id = true ∧ ∃ p, e.key = p ++ kForm (eEl x.id) := by
  unfold lkQ at h
  split at h
  · rename_i hi
    refine ⟨hi.1, ?_⟩
    rcases List.mem_append.1 h with h | h
    · rcases List.mem_cons.1 h with rfl | h
      · refine ⟨[2], ?_⟩
        exact keyQ_e hi.1
      · rcases List.mem_cons.1 h with rfl | h
        · exact ⟨outQ x.out [x.lb], by simp only; rw [kq_of (bad_e hi.1)]⟩
        · rcases List.mem_cons.1 h with rfl | h
          · exact ⟨inQ x.inn [x.lb], by simp only; rw [kq_of (bad_e hi.1)]⟩
          · cases h
    · exact ix_tail (bad_e hi.1) h
  · cases h
theorem tail_eq {p q a b : List UInt8} (h : p ++ a = q ++ b) (hl : a.length = b.length) : a = b := (List.append_inj' h hl).2
theorem form_inj {u v : V} (hu : bad u = 0) (hv : bad v = 0) (wu : u.wide) (wv : v.wide) (h : kForm u = kForm v) : u = v := by
  have h1 := form_there hu wu []
  have h2 := form_there hv wv []
  rw [h, h2] at h1
  injection h1 with h1
  injection h1 with h1
  exact h1.symm
/-- Equal keys of two vertices: they have one id. -/
theorem vv_same {x y : Vx} {d e : En} (hd : d ∈ vxQ x) (he : e ∈ vxQ y) (h : d.key = e.key) : x.id = y.id := by
  obtain ⟨hx, p, hp⟩ := vx_tail hd
  obtain ⟨hy, q, hq⟩ := vx_tail he
  rw [hp, hq] at h
  have := form_inj (bad_v hx) (bad_v hy) (wide_v hx) (wide_v hy) (tail_eq h (by rw [len_v, len_v]))
  unfold vEl at this
  injection this
theorem ve_apart {x : Vx} {z : Lk} {d e : En} (hd : d ∈ vxQ x) (he : e ∈ lkQ z) : d.key ≠ e.key := fun h => by
  obtain ⟨hx, p, hp⟩ := vx_tail hd
  obtain ⟨hz, q, hq⟩ := lk_tail he
  rw [hp, hq] at h
  have := form_inj (bad_v hx) (bad_e hz) (wide_v hx) (wide_e hz) (tail_eq h (by rw [len_v, len_e]))
  unfold vEl eEl at this
  injection this with this
  exact absurd this (by decide)
/-- The three lists. -/
def L3 (x y : Vx) (z : Lk) : Nat → List En
  | 0 => vxQ x
  | 1 => vxQ y
  | _ => lkQ z
theorem apart3 {x y : Vx} {z : Lk} {i j : Nat} (hj : j ≤ i) (hi : i < 3) {d e : En} (hd : d ∈ L3 x y z j) (he : e ∈ L3 x y z i) (h : d.key = e.key) (hne : j ≠ i) : i = 1 ∧ x.id = y.id := by
  have hc : (i = 1 ∧ j = 0) ∨ (i = 2 ∧ j = 0) ∨ (i = 2 ∧ j = 1) := by omega
  rcases hc with ⟨rfl, rfl⟩ | ⟨rfl, rfl⟩ | ⟨rfl, rfl⟩
  · exact ⟨rfl, vv_same hd he h⟩
  · exact absurd h (ve_apart hd he)
  · exact absurd h (ve_apart hd he)
end Go.Proofs.YtbgikgeknnmelaaGreat
namespace Go.Proofs.YtbgikgeknnmelaaGreat
open Go.RowKit
set_option linter.unusedVariables false

theorem begins_app (a b : List UInt8) : begins (a ++ b) a = true := by
  unfold begins
  simp
theorem begins_iff (b a : List UInt8) : begins b a = true ↔ ∃ r, b = a ++ r := by
  constructor
  · intro h
    unfold begins at h
    simp only [Bool.and_eq_true, decide_eq_true_eq, beq_iff_eq] at h
    exact ⟨b.drop a.length, by have := List.take_append_drop a.length b; rw [h.2] at this; exact this.symm⟩
  · rintro ⟨r, rfl⟩
    exact begins_app a r
theorem begins_out0 (n : Int) (l : List ByteArray) (r : List UInt8) : begins (outQ n l ++ r) (outQ n []) = true := by
  refine (begins_iff _ _).2 ⟨firstQ l ++ r, ?_⟩
  simp [outQ, firstQ]
theorem begins_out1 (n : Int) (l : List ByteArray) (r : List UInt8) : begins (outQ n l ++ r) (outQ n l) = true := begins_app _ _
theorem begins_in0 (n : Int) (l : List ByteArray) (r : List UInt8) : begins (inQ n l ++ r) (inQ n []) = true := by
  refine (begins_iff _ _).2 ⟨firstQ l ++ r, ?_⟩
  simp [inQ, firstQ]
theorem begins_in1 (n : Int) (l : List ByteArray) (r : List UInt8) : begins (inQ n l ++ r) (inQ n l) = true := begins_app _ _
theorem begins_label0 (k : Int) (l : List ByteArray) (r : List UInt8) : begins (labelQ k l ++ r) (labelQ k []) = true := by
  refine (begins_iff _ _).2 ⟨firstQ l ++ r, ?_⟩
  simp [labelQ, firstQ]
theorem begins_label1 (k : Int) (l : List ByteArray) (r : List UInt8) : begins (labelQ k l ++ r) (labelQ k l) = true := begins_app _ _
theorem begins_prop0 (k : Int) (s : ByteArray) (l : List V) (r : List UInt8) : begins (propK k s l ++ r) (propK k s []) = true := by
  refine (begins_iff _ _).2 ⟨firstS l ++ r, ?_⟩
  simp [propK, firstS]
theorem begins_prop1 (k : Int) (s : ByteArray) (l : List V) (r : List UInt8) : begins (propK k s l ++ r) (propK k s l) = true := begins_app _ _
/-- Which ids the vertices of two keys have. -/
theorem begins_id {m n : Int} (hm : idB m = true) (hn : idB n = true) (c : UInt8) (f r : List UInt8) : begins ((c :: kq (vEl m) ++ f) ++ r) (c :: kq (vEl n) ++ []) = decide (m = n) := by
  rw [kq_of (bad_v hm), kq_of (bad_v hn)]
  by_cases h : m = n
  · subst h
    rw [decide_eq_true rfl]
    exact (begins_iff _ _).2 ⟨f ++ r, by simp⟩
  · rw [decide_eq_false h]
    apply Bool.eq_false_iff.2
    intro hb
    obtain ⟨q, hq⟩ := (begins_iff _ _).1 hb
    simp only [List.cons_append, List.append_nil, List.append_assoc, List.cons.injEq, true_and] at hq
    have h2 := (List.append_inj hq (by rw [len_v, len_v])).1
    have := form_inj (bad_v hm) (bad_v hn) (wide_v hm) (wide_v hn) h2
    unfold vEl at this
    injection this with _ this
    exact h this
theorem begins_outId {m n : Int} (hm : idB m = true) (hn : idB n = true) (l : List ByteArray) (r : List UInt8) : begins (outQ m l ++ r) (outQ n []) = decide (m = n) := begins_id hm hn 3 _ r
theorem begins_inId {m n : Int} (hm : idB m = true) (hn : idB n = true) (l : List ByteArray) (r : List UInt8) : begins (inQ m l ++ r) (inQ n []) = decide (m = n) := begins_id hm hn 4 _ r
def lkIds (x : Lk) : Prop := idB x.id = true ∧ idB x.out = true ∧ idB x.inn = true
theorem lkQ_yes {x : Lk} (h : lkIds x) : lkQ x = [⟨keyQ (eEl x.id), numsQ [x.out, x.inn] ++ textQ x.lb ++ propsQ x.ps⟩, ⟨outQ x.out [x.lb] ++ kq (eEl x.id), numsQ [x.inn]⟩, ⟨inQ x.inn [x.lb] ++ kq (eEl x.id), numsQ [x.out]⟩, ⟨labelQ 7 [x.lb] ++ kq (eEl x.id), []⟩] ++ x.ps.map (ixP (eEl x.id)) := by
  unfold lkQ
  rw [if_pos (show idB x.id = true ∧ idB x.out = true ∧ idB x.inn = true from h)]
  rfl
theorem lkQ_no {x : Lk} (h : ¬ lkIds x) : lkQ x = [] := by
  unfold lkQ
  rw [if_neg (show ¬ (idB x.id = true ∧ idB x.out = true ∧ idB x.inn = true) from h)]
theorem lkQ_size {x : Lk} (h : lkIds x) : (lkQ x).length = 4 + x.ps.length := by
  rw [lkQ_yes h]
  simp
  omega
theorem lkQ_key1 {x : Lk} (h : lkIds x) (hl : 1 < (lkQ x).length) : (lkQ x)[1].key = outQ x.out [x.lb] ++ kq (eEl x.id) := by
  simp only [lkQ_yes h]
  rfl
theorem lkQ_key2 {x : Lk} (h : lkIds x) (hl : 2 < (lkQ x).length) : (lkQ x)[2].key = inQ x.inn [x.lb] ++ kq (eEl x.id) := by
  simp only [lkQ_yes h]
  rfl
theorem lkQ_key3 {x : Lk} (h : lkIds x) (hl : 3 < (lkQ x).length) : (lkQ x)[3].key = labelQ 7 [x.lb] ++ kq (eEl x.id) := by
  simp only [lkQ_yes h]
  rfl
theorem lkQ_keyP {x : Lk} (h : lkIds x) (i : Nat) (hi : i < x.ps.length) (hl : 4 + i < (lkQ x).length) : (lkQ x)[4 + i].key = propK 7 x.ps[i].nm [x.ps[i].v] ++ kq (eEl x.id) := by
  simp only [lkQ_yes h]
  rw [List.getElem_append_right (by simp)]
  simp [ixP]
  rfl
end Go.Proofs.YtbgikgeknnmelaaGreat
