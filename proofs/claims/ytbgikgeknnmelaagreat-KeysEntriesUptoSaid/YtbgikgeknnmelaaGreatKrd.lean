/-
  The reader of package keys, where all goes well.
-/
import Derived.Test.YtbgikgeknnmelaaGreatEdf
import Derived.Test.YtbgikgeknnmelaaGreatRdrD
import Derived.Test.YtbgikgeknnmelaaGreatNumU
import Derived.Test.YtbgikgeknnmelaaGreatName
namespace Go.Proofs.YtbgikgeknnmelaaGreat
open Go.RowKit
set_option linter.unusedVariables false      -- a walk need not use every condition

/-- The entry's reader: what is left of the key, and of the value; nothing failed. -/
def ER (w : World) (E : Nat) (kt vt : List UInt8) : Prop := ∃ p c q d, w.heap[E]? = some (.cells #[.slice p kt.length c, .bool false, .slice q vt.length d, .bool false] 93) ∧ kt.length ≤ c ∧ vt.length ≤ d ∧ Bl w (.slice p kt.length c) kt E ∧ Bl w (.slice q vt.length d) vt E
theorem ER.lt {w : World} {E : Nat} {kt vt : List UInt8} (h : ER w E kt vt) : E < w.heap.size := by
  obtain ⟨p, c, q, d, h1, -⟩ := h
  exact (Array.getElem?_eq_some_iff.1 h1).1
theorem ER.grown {w w' : World} {E : Nat} {kt vt : List UInt8} (h : ER w E kt vt) {row : Option Nat} (hg : w.grownBy w' row) (hr : ∀ j, row = some j → E < j) : ER w' E kt vt := by
  obtain ⟨p, c, q, d, h1, h2, h3, h4, h5⟩ := h
  exact ⟨p, c, q, d, (hg.block E (Array.getElem?_eq_some_iff.1 h1).1 (fun e => by have := hr E e.symm; omega)).trans h1, h2, h3, h4.grown hg fun j hj => by have := hr j hj; omega, h5.grown hg fun j hj => by have := hr j hj; omega⟩
theorem ER.on {w w' : World} {E : Nat} {kt vt : List UInt8} (h : ER w E kt vt) (hb : Below w.heap.size w w') : ER w' E kt vt := h.grown (gr_bel hb none) (fun j hj => by cases hj)
/-- Nothing but the reader has turned. -/
def EQ (E : Nat) (kt vt : List UInt8) (w w' : World) : Prop := w.grownBy w' (some E) ∧ ER w' E kt vt
theorem EQ.bel {w w' w'' : World} {E : Nat} {kt vt : List UInt8} (h : EQ E kt vt w w') (hb : Below w'.heap.size w' w'') : EQ E kt vt w w'' := ⟨h.1.trans (gr_bel hb (some E)), h.2.on hb⟩
theorem EQ.trans {a b c : World} {E : Nat} {kt vt kt' vt' : List UInt8} (h : EQ E kt vt a b) (h' : EQ E kt' vt' b c) : EQ E kt' vt' a c := ⟨h.1.trans h'.1, h'.2⟩
theorem er_setk {w : World} {E : Nat} {p q : Option Addr} {n c d : Nat} {s vt : List UInt8} {p' : Option Addr} {c' : Nat} (h1 : w.heap[E]? = some (.cells #[.slice p n c, .bool false, .slice q vt.length d, .bool false] 93)) (hd : vt.length ≤ d) (hv : Bl w (.slice q vt.length d) vt E) (hc : s.length ≤ c') (hs : Bl w (.slice p' s.length c') s E) :
    EQ E s vt w (w.setCell ⟨E, 0, none⟩ (.slice p' s.length c')) ∧ ∀ {u : Value} {t : List UInt8}, Bl w u t E → Bl (w.setCell ⟨E, 0, none⟩ (.slice p' s.length c')) u t E := by
  have hg := gr_set w E 0 (.slice p' s.length c')
  have hb : ∀ {u : Value} {t : List UInt8}, Bl w u t E → Bl (w.setCell ⟨E, 0, none⟩ (.slice p' s.length c')) u t E := fun h => h.grown hg fun j hj => by injection hj with hj; omega
  refine ⟨⟨hg, p', c', q, d, ?_, hc, hd, hb hs, hb hv⟩, hb⟩
  simp [World.setCell, Array.getElem?_modify, h1]
theorem er_setv {w : World} {E : Nat} {p q : Option Addr} {c m d : Nat} {s kt : List UInt8} {p' : Option Addr} {c' : Nat} (h1 : w.heap[E]? = some (.cells #[.slice p kt.length c, .bool false, .slice q m d, .bool false] 93)) (hd : kt.length ≤ c) (hv : Bl w (.slice p kt.length c) kt E) (hc : s.length ≤ c') (hs : Bl w (.slice p' s.length c') s E) :
    EQ E kt s w (w.setCell ⟨E, 2, none⟩ (.slice p' s.length c')) ∧ ∀ {u : Value} {t : List UInt8}, Bl w u t E → Bl (w.setCell ⟨E, 2, none⟩ (.slice p' s.length c')) u t E := by
  have hg := gr_set w E 2 (.slice p' s.length c')
  have hb : ∀ {u : Value} {t : List UInt8}, Bl w u t E → Bl (w.setCell ⟨E, 2, none⟩ (.slice p' s.length c')) u t E := fun h => h.grown hg fun j hj => by injection hj with hj; omega
  refine ⟨⟨hg, p, c, p', c', ?_, hd, hc, hb hv, hb hs⟩, hb⟩
  simp [World.setCell, Array.getElem?_modify, h1]
set_option maxHeartbeats 1000000 in
set_option maxRecDepth 20000 in
theorem pass91k (w : World) (E : Nat) (kt vt : List UInt8) (h : ER w E kt vt) (n : Nat) (hn : n ≤ kt.length) :
    Calls Tryz.prog 91 #[.pointer (some ⟨E, 0, none⟩), .int .i64 n] w fun e w' => ∃ v, e = .returned v ∧ Bl w' v (kt.take n) E ∧ EQ E (kt.drop n) vt w w' := by
  obtain ⟨p, c, q, d, h1, h2, h3, h4, h5⟩ := h
  obtain ⟨x0, x1, x2, x3, xf⟩ := four_of h1
  have hL : kt.length ≤ 9223372036854775807 := by obtain ⟨_, _, _, -, hh⟩ := h4.1.slice; exact hh
  have hC : c ≤ 9223372036854775807 := by obtain ⟨_, _, e, a1, a2, -⟩ := h4.1; injection e with _ _ e3; unfold maxLen at a2; omega
  have htk := h4.take hn
  have hdr := h4.drop hn
  have hdl : (kt.drop n).length = kt.length - n := by simp
  by_cases hcn : c = n
  · subst hcn
    rw [if_pos rfl, ← hdl] at hdr
    have hq := Lib.hid (er_setk h1 h3 h5 (by simp; omega) hdr)
    rw [hdl, Nat.sub_self, show kt.length - c = 0 by omega] at hq
    have hq := Lib.hid (show _ from hq.out)
    clear h4 h5 hdr hdl h1
    generalize kt.length = L at *
    go_enter Tryz.func91, Tryz.ntmps91
    go_wp2
    go_ret
    exact ⟨_, rfl, hq.out.2 htk, hq.out.1⟩
  · rw [if_neg hcn, ← hdl] at hdr
    have hq := Lib.hid (er_setk h1 h3 h5 (by simp; omega) hdr)
    rw [hdl] at hq
    clear h4 h5 hdr hdl h1
    generalize kt.length = L at *
    go_enter Tryz.func91, Tryz.ntmps91
    go_wp2
    go_ret
    exact ⟨_, rfl, hq.out.2 htk, hq.out.1⟩
set_option maxHeartbeats 1000000 in
set_option maxRecDepth 20000 in
theorem pass91v (w : World) (E : Nat) (kt vt : List UInt8) (h : ER w E kt vt) (n : Nat) (hn : n ≤ vt.length) :
    Calls Tryz.prog 91 #[.pointer (some ⟨E, 2, none⟩), .int .i64 n] w fun e w' => ∃ v, e = .returned v ∧ Bl w' v (vt.take n) E ∧ EQ E kt (vt.drop n) w w' := by
  obtain ⟨p, c, q, d, h1, h2, h3, h4, h5⟩ := h
  obtain ⟨x0, x1, x2, x3, xf⟩ := four_of h1
  have hL : vt.length ≤ 9223372036854775807 := by obtain ⟨_, _, _, -, hh⟩ := h5.1.slice; exact hh
  have hC : d ≤ 9223372036854775807 := by obtain ⟨_, _, e, a1, a2, -⟩ := h5.1; injection e with _ _ e3; unfold maxLen at a2; omega
  have htk := h5.take hn
  have hdr := h5.drop hn
  have hdl : (vt.drop n).length = vt.length - n := by simp
  by_cases hcn : d = n
  · subst hcn
    rw [if_pos rfl, ← hdl] at hdr
    have hq := Lib.hid (er_setv h1 h2 h4 (by simp; omega) hdr)
    rw [hdl, Nat.sub_self, show vt.length - d = 0 by omega] at hq
    have hq := Lib.hid (show _ from hq.out)
    clear h4 h5 hdr hdl h1
    generalize vt.length = L at *
    go_enter Tryz.func91, Tryz.ntmps91
    go_wp2
    go_ret
    exact ⟨_, rfl, hq.out.2 htk, hq.out.1⟩
  · rw [if_neg hcn, ← hdl] at hdr
    have hq := Lib.hid (er_setv h1 h2 h4 (by simp; omega) hdr)
    rw [hdl] at hq
    clear h4 h5 hdr hdl h1
    generalize vt.length = L at *
    go_enter Tryz.func91, Tryz.ntmps91
    go_wp2
    go_ret
    exact ⟨_, rfl, hq.out.2 htk, hq.out.1⟩
end Go.Proofs.YtbgikgeknnmelaaGreat
