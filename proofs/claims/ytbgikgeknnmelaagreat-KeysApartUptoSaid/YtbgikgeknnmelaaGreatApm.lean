/-
  Why no two entries of two elements have one key: no walk.
-/
import Derived.Test.YtbgikgeknnmelaaGreatKrh
namespace Go.Proofs.YtbgikgeknnmelaaGreat
open Go.RowKit
set_option linter.unusedVariables false

theorem bad_v {n : Int} (h : idB n = true) : bad (vEl n) = 0 := (bad_iff _).2 ⟨may_v h, by simp [vEl, V.k], by simp [vEl, V.k]⟩
theorem may_e {n : Int} (h : idB n = true) : (eEl n).may 1 = true := by
  unfold idB at h
  simp only [Bool.and_eq_true, decide_eq_true_eq] at h
  simp [eEl, V.may, onlyB]
  exact ⟨rfl, h⟩
theorem bad_e {n : Int} (h : idB n = true) : bad (eEl n) = 0 := (bad_iff _).2 ⟨may_e h, by simp [eEl, V.k], by simp [eEl, V.k]⟩
theorem kq_of {v : V} (h : bad v = 0) : kq v = kForm v := by unfold kq; simp [bads, h, keyL]
theorem wide_v {n : Int} (h : idB n = true) : (vEl n).wide := by simp [vEl, V.wide, wideL]; exact idB_i64 h
theorem wide_e {n : Int} (h : idB n = true) : (eEl n).wide := by simp [eEl, V.wide, wideL]; exact idB_i64 h
theorem len_v (n : Int) : (kForm (vEl n)).length = 9 := by simp [kForm, vEl, V.k, beN_length]
theorem len_e (n : Int) : (kForm (eEl n)).length = 9 := by simp [kForm, eEl, V.k, beN_length]
theorem keyQ_v {n : Int} (h : idB n = true) : keyQ (vEl n) = 1 :: kForm (vEl n) := by
  unfold keyQ
  rw [if_pos (may_v h), kq_of (bad_v h)]
  show (if (6 : Int) = 6 then _ else _) = _
  rw [if_pos rfl]
theorem keyQ_e {n : Int} (h : idB n = true) : keyQ (eEl n) = 2 :: kForm (eEl n) := by
  unfold keyQ
  rw [if_pos (may_e h), kq_of (bad_e h)]
  show (if (7 : Int) = 6 then _ else if (7 : Int) = 7 then _ else _) = _
  rw [if_neg (by decide), if_pos rfl]
theorem ix_tail {el : V} (hb : bad el = 0) {lb : ByteArray} {ps : List Pr} {e : En} (h : e ∈ ixQ el lb ps) : ∃ p, e.key = p ++ kForm el := by
  unfold ixQ at h
  rw [kq_of hb] at h
  rcases List.mem_cons.1 h with rfl | h
  · exact ⟨_, rfl⟩
  · obtain ⟨p, -, rfl⟩ := List.mem_map.1 h
    exact ⟨propK el.k p.nm [p.v], by unfold ixP; rw [kq_of hb]⟩
theorem vx_tail {x : Vx} {e : En} (h : e ∈ vxQ x) : idB x.id = true ∧ ∃ p, e.key = p ++ kForm (vEl x.id) := by
  unfold vxQ at h
  split at h
  · rename_i hi
    refine ⟨hi, ?_⟩
    rcases List.mem_cons.1 h with rfl | h
    · refine ⟨[1], ?_⟩
      exact keyQ_v hi
    · exact ix_tail (bad_v hi) h
  · cases h
theorem lk_tail {x : Lk} {e : En} (h : e ∈ lkQ x) : idB x.id = true ∧ ∃ p, e.key = p ++ kForm (eEl x.id) := by
  unfold lkQ at h
  split at h
  · rename_i hi
    refine ⟨hi.1, ?_⟩
    rcases List.mem_append.1 h with h | h
    · rcases List.mem_cons.1 h with rfl | h
      · refine ⟨[2], ?_⟩
        exact keyQ_e hi.1
      · rcases List.mem_cons.1 h with rfl | h
        · exact ⟨outQ x.out [x.lb], by simp only; rw [kq_of (bad_e hi.1)]⟩
        · rcases List.mem_cons.1 h with rfl | h
          · exact ⟨inQ x.inn [x.lb], by simp only; rw [kq_of (bad_e hi.1)]⟩
          · cases h
    · exact ix_tail (bad_e hi.1) h
  · cases h
theorem tail_eq {p q a b : List UInt8} (h : p ++ a = q ++ b) (hl : a.length = b.length) : a = b := (List.append_inj' h hl).2
theorem form_inj {u v : V} (hu : bad u = 0) (hv : bad v = 0) (wu : u.wide) (wv : v.wide) (h : kForm u = kForm v) : u = v := by
  have h1 := form_there hu wu []
  have h2 := form_there hv wv []
  rw [h, h2] at h1
  injection h1 with h1
  injection h1 with h1
  exact h1.symm
/-- Equal keys of two vertices: they have one id. -/
theorem vv_same {x y : Vx} {d e : En} (hd : d ∈ vxQ x) (he : e ∈ vxQ y) (h : d.key = e.key) : x.id = y.id := by
  obtain ⟨hx, p, hp⟩ := vx_tail hd
  obtain ⟨hy, q, hq⟩ := vx_tail he
  rw [hp, hq] at h
  have := form_inj (bad_v hx) (bad_v hy) (wide_v hx) (wide_v hy) (tail_eq h (by rw [len_v, len_v]))
  unfold vEl at this
  injection this
theorem ve_apart {x : Vx} {z : Lk} {d e : En} (hd : d ∈ vxQ x) (he : e ∈ lkQ z) : d.key ≠ e.key := fun h => by
  obtain ⟨hx, p, hp⟩ := vx_tail hd
  obtain ⟨hz, q, hq⟩ := lk_tail he
  rw [hp, hq] at h
  have := form_inj (bad_v hx) (bad_e hz) (wide_v hx) (wide_e hz) (tail_eq h (by rw [len_v, len_e]))
  unfold vEl eEl at this
  injection this with this
  exact absurd this (by decide)
/-- The three lists. -/
def L3 (x y : Vx) (z : Lk) : Nat → List En
  | 0 => vxQ x
  | 1 => vxQ y
  | _ => lkQ z
theorem apart3 {x y : Vx} {z : Lk} {i j : Nat} (hj : j ≤ i) (hi : i < 3) {d e : En} (hd : d ∈ L3 x y z j) (he : e ∈ L3 x y z i) (h : d.key = e.key) (hne : j ≠ i) : i = 1 ∧ x.id = y.id := by
  have hc : (i = 1 ∧ j = 0) ∨ (i = 2 ∧ j = 0) ∨ (i = 2 ∧ j = 1) := by omega
  rcases hc with ⟨rfl, rfl⟩ | ⟨rfl, rfl⟩ | ⟨rfl, rfl⟩
  · exact ⟨rfl, vv_same hd he h⟩
  · exact absurd h (ve_apart hd he)
  · exact absurd h (ve_apart hd he)
end Go.Proofs.YtbgikgeknnmelaaGreat
