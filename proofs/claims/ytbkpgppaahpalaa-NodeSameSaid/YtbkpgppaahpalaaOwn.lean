/-
  Nodes in memory of one's own. No walk.
-/
import Derived.Test.YtbkpgppaahpalaaCpy
import Derived.Deep.Onto
import Derived.Laws.OwnMore
namespace Go.Proofs.Ytbkpgppaahpalaa
open Go.RowKit
set_option linter.unusedVariables false      -- a walk need not use every condition

def cellO (base : Nat) (w : World) (c : C) (x : List Value) : Prop := ∃ k v, x = [k, v, .int .i64 c.over, .int .i64 c.len] ∧ Bts w base k c.key ∧ Bts w base v c.val ∧ I64 c.over ∧ I64 c.len
def keyO (base : Nat) (w : World) (t : List UInt8) (x : List Value) : Prop := ∃ k, x = [k] ∧ Bts w base k t
theorem cellO.v {base : Nat} {w : World} {c : C} {x : List Value} (h : cellO base w c x) : cellV w c x := by
  obtain ⟨k, v, e, h1, h2, h3⟩ := h
  exact ⟨k, v, e, h1.bs, h2.bs, h3⟩
theorem keyO.v {base : Nat} {w : World} {c : List UInt8} {x : List Value} (h : keyO base w c x) : keyV w c x := by
  obtain ⟨k, e, h1⟩ := h
  exact ⟨k, e, h1.bs⟩
theorem cellO.on {base : Nat} {w w' : World} {c : C} {x : List Value} (h : cellO base w c x) (hb : Below w.heap.size w w') : cellO base w' c x := by
  obtain ⟨k, v, e, h1, h2, h3⟩ := h
  exact ⟨k, v, e, h1.on hb, h2.on hb, h3⟩
theorem keyO.on {base : Nat} {w w' : World} {c : List UInt8} {x : List Value} (h : keyO base w c x) (hb : Below w.heap.size w w') : keyO base w' c x := by
  obtain ⟨k, e, h1⟩ := h
  exact ⟨k, e, h1.on hb⟩
theorem cellO.low {base base' : Nat} {w : World} {c : C} {x : List Value} (h : cellO base w c x) (hb : base' ≤ base) : cellO base' w c x := by
  obtain ⟨k, v, e, h1, h2, h3⟩ := h
  exact ⟨k, v, e, h1.mono hb, h2.mono hb, h3⟩
theorem keyO.low {base base' : Nat} {w : World} {c : List UInt8} {x : List Value} (h : keyO base w c x) (hb : base' ≤ base) : keyO base' w c x := by
  obtain ⟨k, e, h1⟩ := h
  exact ⟨k, e, h1.mono hb⟩
/-- A row stays where a block of another type turns. -/
theorem own_other {w w' : World} {base : Nat} {e : TypeId} {s : Nat} {v : Value} {n : Nat} {xs : List Value} {b : Nat} {c : Array Value} {t : TypeId} {f : Nat × Nat} (h : w.ownsRow base e s v n xs) (hg : w.grownBy w' (some b)) (hb : w.heap[b]? = some (.cells c t f)) (hne : e ≠ t) : w'.ownsRow base e s v n xs := by
  refine h.kept hg ?_
  rcases h.2 with ⟨rfl, _⟩ | ⟨g, cap, cur, rfl, _, hgb, _⟩
  · exact .inl rfl
  · refine .inr fun e' => ?_
    have e' : some g = some b := e'
    injection e' with e'
    subst e'
    rw [hgb] at hb
    injection hb with hb
    injection hb with _ hb
    exact hne hb
theorem cellO.other {base : Nat} {w w' : World} {c : C} {x : List Value} {b : Nat} {cs : Array Value} {t : TypeId} {f : Nat × Nat} (h : cellO base w c x) (hg : w.grownBy w' (some b)) (hb : w.heap[b]? = some (.cells cs t f)) (hne : 5 ≠ t) : cellO base w' c x := by
  obtain ⟨k, v, e, h1, h2, h3⟩ := h
  exact ⟨k, v, e, own_other h1 hg hb hne, own_other h2 hg hb hne, h3⟩
theorem keyO.other {base : Nat} {w w' : World} {c : List UInt8} {x : List Value} {b : Nat} {cs : Array Value} {t : TypeId} {f : Nat × Nat} (h : keyO base w c x) (hg : w.grownBy w' (some b)) (hb : w.heap[b]? = some (.cells cs t f)) (hne : 5 ≠ t) : keyO base w' c x := by
  obtain ⟨k, e, h1⟩ := h
  exact ⟨k, e, own_other h1 hg hb hne⟩
def CsO (base : Nat) (w : World) (v : Value) (L : List C) : Prop := ∃ vs, w.ownsRow base 44 4 v L.length vs ∧ Enc (cellO base) 4 w L vs
def KsO (base : Nat) (w : World) (v : Value) (L : List (List UInt8)) : Prop := ∃ vs, w.ownsRow base 27 1 v L.length vs ∧ Enc (keyO base) 1 w L vs
def IsO (base : Nat) (w : World) (v : Value) (L : List Int) : Prop := ∃ vs, w.ownsRow base 3 1 v L.length vs ∧ Enc kidV 1 w L vs
theorem CsO.s {base : Nat} {w : World} {v : Value} {L : List C} (h : CsO base w v L) : Cs w v L := by
  obtain ⟨vs, h1, h2⟩ := h
  exact ⟨vs, fl_own h1, h2.1, fun i hi => (h2.2 i hi).v⟩
theorem KsO.s {base : Nat} {w : World} {v : Value} {L : List (List UInt8)} (h : KsO base w v L) : Ks w v L := by
  obtain ⟨vs, h1, h2⟩ := h
  exact ⟨vs, fl_own h1, h2.1, fun i hi => (h2.2 i hi).v⟩
theorem IsO.s {base : Nat} {w : World} {v : Value} {L : List Int} (h : IsO base w v L) : Is w v L := by
  obtain ⟨vs, h1, h2⟩ := h
  exact ⟨vs, fl_own h1, h2⟩
theorem CsO.on {base : Nat} {w w' : World} {v : Value} {L : List C} (h : CsO base w v L) (hb : Below w.heap.size w w') : CsO base w' v L := by
  obtain ⟨vs, h1, h2⟩ := h
  exact ⟨vs, own_bel h1 hb, h2.on fun a x hx => hx.on hb⟩
theorem KsO.on {base : Nat} {w w' : World} {v : Value} {L : List (List UInt8)} (h : KsO base w v L) (hb : Below w.heap.size w w') : KsO base w' v L := by
  obtain ⟨vs, h1, h2⟩ := h
  exact ⟨vs, own_bel h1 hb, h2.on fun a x hx => hx.on hb⟩
theorem IsO.on {base : Nat} {w w' : World} {v : Value} {L : List Int} (h : IsO base w v L) (hb : Below w.heap.size w w') : IsO base w' v L := by
  obtain ⟨vs, h1, h2⟩ := h
  exact ⟨vs, own_bel h1 hb, h2.on fun a x hx => hx⟩
theorem cso_nil (base : Nat) (w : World) : CsO base w (.slice none 0 0) [] := ⟨[], World.ownsRow_nil _ _ _ _, enc_nil _ _ _⟩
theorem kso_nil (base : Nat) (w : World) : KsO base w (.slice none 0 0) [] := ⟨[], World.ownsRow_nil _ _ _ _, enc_nil _ _ _⟩
theorem iso_nil (base : Nat) (w : World) : IsO base w (.slice none 0 0) [] := ⟨[], World.ownsRow_nil _ _ _ _, enc_nil _ _ _⟩
/-- A node of one's own. -/
def NdO (base : Nat) (w : World) (v : Value) (n : Nd) : Prop := ∃ vc vk vi, v = .agg #[.bool n.leaf, vc, vk, vi] ∧ CsO base w vc n.cells ∧ KsO base w vk n.keys ∧ IsO base w vi n.kids
theorem NdO.s {base : Nat} {w : World} {v : Value} {n : Nd} (h : NdO base w v n) : NdS w v n := by
  obtain ⟨vc, vk, vi, e, h1, h2, h3⟩ := h
  exact ⟨vc, vk, vi, e, h1.s, h2.s, h3.s⟩
theorem NdO.on {base : Nat} {w w' : World} {v : Value} {n : Nd} (h : NdO base w v n) (hb : Below w.heap.size w w') : NdO base w' v n := by
  obtain ⟨vc, vk, vi, e, h1, h2, h3⟩ := h
  exact ⟨vc, vk, vi, e, h1.on hb, h2.on hb, h3.on hb⟩
/-- All cells are of one. -/
theorem enc_ones {α : Type} {R : World → α → List Value → Prop} {s : Nat} {w : World} {L : List α} {vs : List Value} (hs : 0 < s) (h : Enc R s w L vs) (hR : ∀ a x, R w a x → ∀ u ∈ x, u.oneCell' = true) : ∀ u ∈ vs, u.oneCell' = true := by
  intro u hu
  obtain ⟨j, hj, rfl⟩ := List.mem_iff_getElem.1 hu
  have hl := h.1
  have hi : j / s < L.length := by
    rw [Nat.div_lt_iff_lt_mul hs]
    omega
  refine hR _ _ (h.2 (j / s) hi) _ ?_
  have hd := Nat.div_add_mod j s
  have hm := Nat.mod_lt j hs
  refine List.mem_iff_getElem.2 ⟨j % s, ?_, ?_⟩
  · rw [List.length_take, List.length_drop]
    rw [Nat.mul_comm] at hd
    omega
  · rw [List.getElem_take, List.getElem_drop]
    congr 1
    rw [Nat.mul_comm] at hd
    omega
theorem cellV.ones {w : World} {c : C} {x : List Value} (h : cellV w c x) : ∀ u ∈ x, u.oneCell' = true := by
  obtain ⟨k, v, rfl, ⟨p, cap, rfl, -⟩, ⟨q, cap', rfl, -⟩, -⟩ := h
  intro u hu
  simp at hu
  rcases hu with rfl | rfl | rfl | rfl <;> rfl
theorem keyV.ones {w : World} {c : List UInt8} {x : List Value} (h : keyV w c x) : ∀ u ∈ x, u.oneCell' = true := by
  obtain ⟨k, rfl, ⟨p, cap, rfl, -⟩⟩ := h
  intro u hu
  simp at hu
  rcases hu with rfl
  rfl
theorem kidV.ones {w : World} {c : Int} {x : List Value} (h : kidV w c x) : ∀ u ∈ x, u.oneCell' = true := by
  obtain ⟨rfl, -⟩ := h
  intro u hu
  simp at hu
  subst hu
  rfl
/-- A row's header. -/
theorem own_hdr {w : World} {base : Nat} {e : TypeId} {s : Nat} {v : Value} {n : Nat} {xs : List Value} (h : w.ownsRow base e s v n xs) : ∃ p cap, v = .slice p n cap ∧ n ≤ 9223372036854775807 := by
  rcases h.2 with ⟨rfl, rfl⟩ | ⟨g, cap, cur, rfl, hbg, hg, hnc, hcm, hcs, htake⟩
  · exact ⟨none, 0, rfl, by omega⟩
  · unfold maxLen at hcm
    exact ⟨_, cap, rfl, by omega⟩
theorem own_pos {w : World} {base : Nat} {e : TypeId} {s : Nat} {v : Value} {n : Nat} {xs : List Value} (h : w.ownsRow base e s v n xs) (hn : 0 < n) : ∃ g cap cur, v = .slice (some ⟨g, 0, none⟩) n cap ∧ base ≤ g ∧ w.heap[g]? = some (.cells cur e (0, 0)) := by
  rcases h.2 with ⟨rfl, rfl⟩ | ⟨g, cap, cur, rfl, hbg, hg, hnc, hcm, hcs, htake⟩
  · omega
  · exact ⟨g, cap, cur, rfl, hbg, hg⟩
theorem four_fr {w : World} {g : Nat} {c : Array Value} {t : TypeId} (e : w.heap[g]? = some (.cells c t)) (i : Nat) : w.frozen? ⟨g, i, none⟩ = false := by simp [World.frozen?, e]
theorem blk_setc {w : World} {g i : Nat} {c : Array Value} {t : TypeId} (h : w.heap[g]? = some (.cells c t)) (u : Value) : (w.setCell ⟨g, i, none⟩ u).heap[g]? = some (.cells (c.setIfInBounds i u) t) := by
  simp [World.setCell, Array.getElem?_modify, h]
theorem blk_seto {w : World} {g i k : Nat} {o : Obj} (h : w.heap[k]? = some o) (hne : k ≠ g) (u : Value) : (w.setCell ⟨g, i, none⟩ u).heap[k]? = some o := by
  rw [Below.heap_setCell _ _ _ _ (by simpa using hne)]
  exact h
theorem bel_put {w0 w w' : World} {g : Nat} (h : Below w0.heap.size w0 w) (hg : w.grownBy w' (some g)) (hb : w0.heap.size ≤ g) : Below w0.heap.size w0 w' :=
  h.grown hg h.size (fun k e => by injection e with e; omega)
theorem blk_gr {w w' : World} {g k : Nat} {o : Obj} (h : w.heap[k]? = some o) (hg : w.grownBy w' (some g)) (hne : k ≠ g) : w'.heap[k]? = some o :=
  (hg.block k (Array.getElem?_eq_some_iff.1 h).1 (fun e => hne (by injection e))).trans h
theorem results_c44 {fn : Func} {p : Tmp} (h : fn.results = #[.cell p 44]) (tmps : Array Value) (w : World) (g : Nat) (a b c d : Value) (t : TypeId) (hp : tmps.getD p undef = .pointer (some ⟨g, 0, none⟩)) (hr : w.heap[g]? = some (.cells #[a, b, c, d] t)) :
    (results fn tmps).run Try.prog w = .ok (.agg #[a, b, c, d]) w := by
  have hp' : tmps[p]?.getD undef = .pointer (some ⟨g, 0, none⟩) := by simpa using hp
  have hv := run_loadVar_mid (P := Try.prog) w g 0 44 [a, b, c, d] _ (by
    have := World.rangeAt_of_block hr 0 4
    simpa using this) Try.underlying44 rfl (by kernel_rfl)
  simp only [results, h]
  simp [hp', asAddr, hv]
theorem results_c26 {fn : Func} {p : Tmp} (h : fn.results = #[.cell p 26]) (tmps : Array Value) (w : World) (g : Nat) (a b c d : Value) (t : TypeId) (hp : tmps.getD p undef = .pointer (some ⟨g, 0, none⟩)) (hr : w.heap[g]? = some (.cells #[a, b, c, d] t)) :
    (results fn tmps).run Try.prog w = .ok (.agg #[a, b, c, d]) w := by
  have hp' : tmps[p]?.getD undef = .pointer (some ⟨g, 0, none⟩) := by simpa using hp
  have hv := run_loadVar_mid (P := Try.prog) w g 0 26 [a, b, c, d] _ (by
    have := World.rangeAt_of_block hr 0 4
    simpa using this) Try.underlying26 rfl (by kernel_rfl)
  simp only [results, h]
  simp [hp', asAddr, hv]
theorem results_c26t {fn : Func} {p u : Tmp} (h : fn.results = #[.cell p 26, .tmp u]) (tmps : Array Value) (w : World) (g : Nat) (a b c d : Value) (t : TypeId) (hp : tmps.getD p undef = .pointer (some ⟨g, 0, none⟩)) (hr : w.heap[g]? = some (.cells #[a, b, c, d] t)) :
    (results fn tmps).run Try.prog w = .ok (.tuple #[.agg #[a, b, c, d], tmps.getD u undef]) w := by
  have hv := run_loadVar_mid (P := Try.prog) w g 0 26 [a, b, c, d] _ (by
    have := World.rangeAt_of_block hr 0 4
    simpa using this) Try.underlying26 rfl (by kernel_rfl)
  rw [results_cell_tmp h, hp]
  simp only [asAddr, Sem.run_pure, Result.andThen, hv]
theorem gr_four (w : World) (g : Nat) (a b c d : Value) : w.grownBy ((((w.setCell ⟨g, 0, none⟩ a).setCell ⟨g, 1, none⟩ b).setCell ⟨g, 2, none⟩ c).setCell ⟨g, 3, none⟩ d) (some g) := (((gr_set w g 0 a).trans (gr_set _ g 1 b)).trans (gr_set _ g 2 c)).trans (gr_set _ g 3 d)
theorem blk_four {w : World} {g : Nat} {t : TypeId} {l x y z : Value} (h : w.heap[g]? = some (.cells #[l, x, y, z] t)) (a b c d : Value) : ((((w.setCell ⟨g, 0, none⟩ a).setCell ⟨g, 1, none⟩ b).setCell ⟨g, 2, none⟩ c).setCell ⟨g, 3, none⟩ d).heap[g]? = some (.cells #[a, b, c, d] t) := by
  simp [World.setCell, Array.getElem?_modify, h]
/-- What a node may have, at the least, that is cloned or changed. -/
def Fit (n : Nd) : Prop := n.cells.length * 64 ≤ 140737488352000 ∧ n.keys.length * 24 ≤ 140737488352000 ∧ n.kids.length * 8 ≤ 140737488352000 ∧ (∀ c ∈ n.cells, c.key.length ≤ 140737488352000 ∧ c.val.length ≤ 140737488352000) ∧ (∀ k ∈ n.keys, k.length ≤ 140737488352000)
end Go.Proofs.Ytbkpgppaahpalaa
