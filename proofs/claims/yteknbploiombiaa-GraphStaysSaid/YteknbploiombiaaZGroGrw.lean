/-
  Rows that grow, of elements whose memory lies elsewhere: no walk.
  A row that grows, as a law of the walk; a row of one's own grows: no walk.
-/
import Derived.Test.YteknbploiombiaaZCgr
import Derived.Deep.AppendLies
namespace Go.Proofs.Yteknbploiombiaa
open Go.RowKit
set_option linter.unusedVariables false
variable {α : Type}

/-- A world of which the blocks below lo are taken away. -/
def cutW (w : World) (lo : Nat) : World := { w with heap := w.heap.mapIdx fun i o => if i < lo then .cells #[] 0 else o }
theorem cutW_cell {w : World} {lo : Nat} {a : Addr} {c : Value} (h : (cutW w lo).cell? a = some c) : lo ≤ a.block ∧ w.cell? a = some c := by
  by_cases hl : a.block < lo
  · exfalso
    unfold World.cell? cutW at h
    simp only [Array.getElem?_mapIdx] at h
    rcases hb : w.heap[a.block]? with _ | o
    · rw [hb] at h; simp at h
    · rw [hb] at h
      simp only [Option.map_some, hl, if_true] at h
      revert h
      rcases a with ⟨b, o, _ | s⟩ <;> simp
  · refine ⟨by omega, ?_⟩
    rw [← h]
    refine (World.cell?_of_block ?_).symm
    unfold cutW
    simp only [Array.getElem?_mapIdx, hl, if_false, Option.map_id']
theorem cutW_keep (w : World) (lo : Nat) : Keep lo w (cutW w lo) := fun a v ha hc => by
  rw [← hc]
  refine World.cell?_of_block ?_
  unfold cutW
  have : ¬ a.block < lo := by omega
  simp only [Array.getElem?_mapIdx, this, if_false, Option.map_id']
/-- What an element's memory is, apart from a block. -/
theorem frag_of {R : El α} {w : World} {lo : Nat} {x : α} {sl : Value} (h : R.In w lo x sl) {B : Option Nat} (hB : ∀ b, B = some b → b < lo) : ∃ u, R.In u lo x sl ∧ ∀ a c, u.cell? a = some c → w.cell? a = some c ∧ some a.block ≠ B :=
  ⟨cutW w lo, R.keep (cutW_keep w lo) (Nat.le_refl _) x sl h, fun a c hc => ⟨(cutW_cell hc).2, fun e => by have := hB _ e.symm; have := (cutW_cell hc).1; omega⟩⟩
/-- A row that grows, from block base on, the elements' memory from lo on. -/
def GrR (R : El α) (t : TypeId) (w : World) (lo base : Nat) (l : List α) (v : Value) : Prop := ∃ xs, w.ownsRow base t R.n v l.length xs ∧ ∀ i (hi : i < l.length), ∃ sl u,
  (∀ j c, (R.cs l[i] sl)[j]? = some c → xs[i * R.n + j]? = some c) ∧ R.In u lo l[i] sl ∧ ∀ a c, u.cell? a = some c → w.cell? a = some c ∧ some a.block ≠ v.ownBlock
theorem grR_nil (R : El α) (t : TypeId) (w : World) (lo base : Nat) : GrR R t w lo base [] (.slice none 0 0) := ⟨[], World.ownsRow_nil _ _ _ _, fun i hi => absurd hi (Nat.not_lt_zero _)⟩
theorem own_cells {w : World} {base : Nat} {t : TypeId} {size n : Nat} {v : Value} {xs : List Value} (h : w.ownsRow base t size v n xs) {p : Option Addr} {m cap : Nat} (hv : v = .slice p m cap) {j : Nat} {c : Value} (hj : xs[j]? = some c) :
    ∃ g, p = some ⟨g, 0, none⟩ ∧ w.cell? ⟨g, j, none⟩ = some c := by
  rcases h.2 with ⟨rfl, rfl⟩ | ⟨g, cap', cur, e, hb, hg, hc, hm, hs, ht⟩
  · have := (List.getElem?_eq_some_iff.1 hj).1
    have := h.1
    omega
  · rw [hv] at e
    injection e with e1 e2 e3
    refine ⟨g, e1, ?_⟩
    rw [← ht] at hj
    have hl := (List.getElem?_eq_some_iff.1 hj).1
    rw [List.length_take] at hl
    rw [List.getElem?_take_of_lt (by omega)] at hj
    simp only [World.cell?, hg]
    simpa using hj
theorem GrR.form {R : El α} {t : TypeId} {w : World} {lo base : Nat} {l : List α} {v : Value} (h : GrR R t w lo base l v) : ∃ p cap, v = .slice p l.length cap ∧ l.length ≤ cap ∧ cap ≤ maxLen ∧ (0 < l.length → ∃ g, p = some ⟨g, 0, none⟩ ∧ base ≤ g) := by
  obtain ⟨xs, ho, -⟩ := h
  rcases ho.2 with ⟨rfl, h0⟩ | ⟨g, cap', cur, rfl, hb, hg, hc, hm, hs, ht⟩
  · exact ⟨none, 0, by rw [h0], by omega, by unfold maxLen; omega, fun h => by omega⟩
  · exact ⟨_, _, rfl, hc, hm, fun _ => ⟨g, rfl, hb⟩⟩
theorem GrR.sq {R : El α} {t : TypeId} {w : World} {lo base : Nat} {l : List α} {v : Value} (h : GrR R t w lo base l v) (hlo : lo ≤ base) (hb : l.length * R.bytes ≤ 140737488351232) : Sq R w lo l v := by
  obtain ⟨p, cap, hv, hc, hm, hg⟩ := h.form
  refine ⟨p, cap, hv, hc, hm, hb, ?_⟩
  by_cases h0 : l = []
  · exact .inl h0
  · obtain ⟨g, hp, hbg⟩ := hg (List.length_pos_iff.2 h0)
    refine .inr ⟨g, 0, hp, by omega, Lq.of_at fun i hi => ?_⟩
    obtain ⟨xs, ho, he⟩ := h
    obtain ⟨sl, u, hcs, hin, hu⟩ := he i hi
    refine ⟨sl, fun j c hj => ?_, R.keep (fun a c _ hc => (hu a c hc).1) (Nat.le_refl _) _ _ hin⟩
    obtain ⟨g', hp', hcell⟩ := own_cells ho hv (hcs j c hj)
    rw [hp] at hp'
    injection hp' with hp'
    injection hp' with hp'
    subst hp'
    rw [Nat.zero_add]
    exact hcell
theorem ownsRow_keepB {w w' : World} {base lo : Nat} {t : TypeId} {size n : Nat} {v : Value} {xs : List Value} (h : w.ownsRow base t size v n xs) (hk : KeepB lo w w') (hlo : lo ≤ base) : w'.ownsRow base t size v n xs := by
  refine ⟨h.1, ?_⟩
  rcases h.2 with h | ⟨g, cap, cur, e, hb, hg, r⟩
  · exact .inl h
  · exact .inr ⟨g, cap, cur, e, hb, hk g _ (by omega) hg, r⟩
theorem GrR.keepB {R : El α} {t : TypeId} {w w' : World} {lo base : Nat} {l : List α} {v : Value} (h : GrR R t w lo base l v) (hk : KeepB 0 w w') : GrR R t w' lo base l v := by
  obtain ⟨xs, ho, he⟩ := h
  refine ⟨xs, ownsRow_keepB ho hk (Nat.zero_le _), fun i hi => ?_⟩
  obtain ⟨sl, u, hcs, hin, hu⟩ := he i hi
  exact ⟨sl, u, hcs, hin, fun a c hc => ⟨hk.keep a c (Nat.zero_le _) (hu a c hc).1, (hu a c hc).2⟩⟩
theorem GrR.on {R : El α} {t : TypeId} {w w' : World} {lo base : Nat} {l : List α} {v : Value} (h : GrR R t w lo base l v) (hb : Below w.heap.size w w') : GrR R t w' lo base l v := h.keepB (keepB_below hb)
/-- A write into a block ahead of all its memory. -/
theorem GrR.put {R : El α} {t : TypeId} {w : World} {lo base B : Nat} {l : List α} {v : Value} (h : GrR R t w lo base l v) (hlo : lo ≤ base) (hB : B < lo) (i : Nat) (c : Value) : GrR R t (w.setCell ⟨B, i, none⟩ c) lo base l v := by
  obtain ⟨xs, ho, he⟩ := h
  have hk : KeepB lo w (w.setCell ⟨B, i, none⟩ c) := fun g o hg e => (Below.heap_setCell _ _ _ _ (by show g ≠ B; omega)).trans e
  refine ⟨xs, ownsRow_keepB ho hk hlo, fun j hj => ?_⟩
  obtain ⟨sl, u, hcs, hin, hu⟩ := he j hj
  refine ⟨sl, cutW u lo, hcs, R.keep (cutW_keep u lo) (Nat.le_refl _) _ _ hin, fun a c' hc => ?_⟩
  obtain ⟨h1, h2⟩ := cutW_cell hc
  exact ⟨hk.keep a c' h1 (hu a c' h2).1, (hu a c' h2).2⟩
theorem GrR.lt {R : El α} {t : TypeId} {w : World} {lo base : Nat} {l : List α} {v : Value} (h : GrR R t w lo base l v) {b : Nat} (e : v.ownBlock = some b) : base ≤ b ∧ b < w.heap.size := by
  obtain ⟨xs, ho, -⟩ := h
  exact World.ownsRow.lt ho b e
set_option maxHeartbeats 1000000 in
theorem gro_run {R : El α} (hcs : ∀ x sl, (R.cs x sl).length = R.n) (hn : 0 < R.n) (LT ET : TypeId) (i0 : TypeInfo) (z : Value) (ht : Try.prog.underlying LT = some (.slice ET)) (hi : Try.prog.info? ET = some i0) (hz : i0.zero = some z) (hsize : i0.size = R.n) (hby : i0.bytes = R.bytes) (hzs : z.cells.size = R.n)
    (w : World) (lo base T : Nat) (l : List α) (v : Value) (x : α) (sl : Value) (u : World) (h : GrR R ET w lo base l v) (hx : R.In u lo x sl) (hu : ∀ a c, u.cell? a = some c → w.cell? a = some c ∧ some a.block ≠ v.ownBlock)
    (hT : Ats w T 0 (R.cs x sl)) (h1 : ∀ c ∈ R.cs x sl, c.oneCell' = true) (hm : l.length + 1 ≤ maxLen) (hlen : (l.length + 1) * R.bytes ≤ 140737488355328) (hbase : base ≤ w.heap.size) (ty : TypeId) :
    ∃ g cap w', (Builtin.append_ #[LT, LT] ty #[v, .slice (some ⟨T, 0, none⟩) 1 1]).run Try.prog w = .ok (.slice (some ⟨g, 0, none⟩) (l.length + 1) cap) w' ∧
      GrR R ET w' lo base (l ++ [x]) (.slice (some ⟨g, 0, none⟩) (l.length + 1) cap) ∧ w.grownBy w' v.ownBlock ∧ base ≤ g := by
  obtain ⟨xs, ho, he⟩ := h
  obtain ⟨g, cap, w', hr, hown, hg, hgg, hlt⟩ := run_append_lies (P := Try.prog) w LT ty base ET i0 z R.n R.bytes ht hi hz hsize hby hzs hn v l.length xs ho ⟨T, 0, none⟩ 1 1 (R.cs x sl) (by rw [hcs]; omega)
    (fun j c hj => by
      have := hT j c hj
      rw [Nat.zero_add] at this
      rw [Go.WideShapes.add_plain]
      simpa using this) h1 (by omega) hm hlen hbase _ rfl
  have hbg := (World.ownsRow.lt hown g rfl).1
  refine ⟨g, cap, w', hr, ⟨xs ++ R.cs x sl, by rw [List.length_append]; exact hown, fun i hi => ?_⟩, hg, hbg⟩
  have hxl := ho.1
  have kp : ∀ {u : World}, (∀ a c, u.cell? a = some c → w.cell? a = some c ∧ some a.block ≠ v.ownBlock) → ∀ a c, u.cell? a = some c → w'.cell? a = some c ∧ some a.block ≠ (Value.slice (some ⟨g, 0, none⟩) (l.length + 1) cap).ownBlock := fun {u} hu a c hc => by
    obtain ⟨h1, h2⟩ := hu a c hc
    have hbl := cell_lt h1
    refine ⟨(World.cell?_of_block (hg.block a.block hbl h2)).trans h1, fun e => ?_⟩
    simp only [Value.ownBlock] at e
    injection e with e
    rcases hgg with hgg | hgg
    · exact h2 (by rw [hgg, e])
    · omega
  rw [List.length_append, List.length_singleton] at hi
  by_cases hl : i < l.length
  · obtain ⟨sl', u', h1, h2, h3⟩ := he i hl
    refine ⟨sl', u', fun j c hj => ?_, by rw [List.getElem_append_left hl]; exact h2, kp h3⟩
    rw [List.getElem_append_left hl] at hj
    have hh := h1 j c hj
    have := (List.getElem?_eq_some_iff.1 hh).1
    rw [List.getElem?_append_left this]
    exact hh
  · obtain rfl : i = l.length := by omega
    refine ⟨sl, u, fun j c hj => ?_, by simpa using hx, kp hu⟩
    simp at hj
    rw [List.getElem?_append_right (by omega), hxl]
    rw [show l.length * R.n + j - l.length * R.n = j by omega]
    exact hj
theorem gro_below {R : El α} {t : TypeId} {w w' : World} {lo base B : Nat} {l : List α} {v : Value} (h : GrR R t w lo base l v) (hg : w.grownBy w' v.ownBlock) (hB : B ≤ base) (hbw : B ≤ w.heap.size) : Below B w w' :=
  (Below.refl B w).grown hg hbw (fun k e => by have := (h.lt e).1; omega)
end Go.Proofs.Yteknbploiombiaa
namespace Go.Proofs.Yteknbploiombiaa
open Go.RowKit
set_option linter.unusedVariables false
variable {α : Type}

theorem gro_of {R : El α} (hcs : ∀ x sl, (R.cs x sl).length = R.n) {ET : TypeId} {w w' : World} {lo base g cap : Nat} {l : List α} {v : Value} {x : α} {sl : Value} {u : World} {xs : List Value} (ho : w.ownsRow base ET R.n v l.length xs)
    (he : ∀ i (hi : i < l.length), ∃ sl u, (∀ j c, (R.cs l[i] sl)[j]? = some c → xs[i * R.n + j]? = some c) ∧ R.In u lo l[i] sl ∧ ∀ a c, u.cell? a = some c → w.cell? a = some c ∧ some a.block ≠ v.ownBlock)
    (hx : R.In u lo x sl) (hu : ∀ a c, u.cell? a = some c → w.cell? a = some c ∧ some a.block ≠ v.ownBlock)
    (hown : w'.ownsRow base ET R.n (.slice (some ⟨g, 0, none⟩) (l.length + 1) cap) (l.length + 1) (xs ++ R.cs x sl)) (hg : w.grownBy w' v.ownBlock) (hgg : v.ownBlock = some g ∨ g = w.heap.size) : GrR R ET w' lo base (l ++ [x]) (.slice (some ⟨g, 0, none⟩) (l.length + 1) cap) := by
  refine ⟨xs ++ R.cs x sl, by rw [List.length_append]; exact hown, fun i hi => ?_⟩
  have hxl := ho.1
  have kp : ∀ {u : World}, (∀ a c, u.cell? a = some c → w.cell? a = some c ∧ some a.block ≠ v.ownBlock) → ∀ a c, u.cell? a = some c → w'.cell? a = some c ∧ some a.block ≠ (Value.slice (some ⟨g, 0, none⟩) (l.length + 1) cap).ownBlock := fun {u} hu a c hc => by
    obtain ⟨h1, h2⟩ := hu a c hc
    have hbl := cell_lt h1
    refine ⟨(World.cell?_of_block (hg.block a.block hbl h2)).trans h1, fun e => ?_⟩
    simp only [Value.ownBlock] at e
    injection e with e
    rcases hgg with hgg | hgg
    · exact h2 (by rw [hgg, e])
    · omega
  rw [List.length_append, List.length_singleton] at hi
  by_cases hl : i < l.length
  · obtain ⟨sl', u', h1, h2, h3⟩ := he i hl
    refine ⟨sl', u', fun j c hj => ?_, by rw [List.getElem_append_left hl]; exact h2, kp h3⟩
    rw [List.getElem_append_left hl] at hj
    have hh := h1 j c hj
    have := (List.getElem?_eq_some_iff.1 hh).1
    rw [List.getElem?_append_left this]
    exact hh
  · obtain rfl : i = l.length := by omega
    refine ⟨sl, u, fun j c hj => ?_, by simpa using hx, kp hu⟩
    simp at hj
    rw [List.getElem?_append_right (by omega), hxl]
    rw [show l.length * R.n + j - l.length * R.n = j by omega]
    exact hj
theorem wpList_gro {R : El α} (hcs : ∀ x sl, (R.cs x sl).length = R.n) (hn : 0 < R.n) (LT ET : TypeId) (i0 : TypeInfo) (z : Value) (ht : Try.prog.underlying LT = some (.slice ET)) (hi : Try.prog.info? ET = some i0) (hz : i0.zero = some z) (hsize : i0.size = R.n) (hby : i0.bytes = R.bytes) (hzs : z.cells.size = R.n)
    (w : World) {ops : Array Oper} {rest : List Oper} {o : Oper} {a : Act} {Q : Exit → Act → World → Prop} (hgd : o.guard = none) (s y : Operand) (ho : o.op = .call { callee := .builtin .append, args := #[s, y], argTypes := #[LT, LT] })
    (lo base T : Nat) (l : List α) (v : Value) (x : α) (sl : Value) (u : World) (hs : a.eval s = v) (h : GrR R ET w lo base l v) (hy : a.eval y = .slice (some ⟨T, 0, none⟩) 1 1) (hx : R.In u lo x sl) (hu : ∀ a c, u.cell? a = some c → w.cell? a = some c ∧ some a.block ≠ v.ownBlock)
    (hT : Ats w T 0 (R.cs x sl)) (h1 : ∀ c ∈ R.cs x sl, c.oneCell' = true) (hm : l.length + 1 ≤ maxLen) (hlen : (l.length + 1) * R.bytes ≤ 140737488355328) (hbase : base ≤ w.heap.size)
    (k : ∀ g cap w', GrR R ET w' lo base (l ++ [x]) (.slice (some ⟨g, 0, none⟩) (l.length + 1) cap) → w.grownBy w' v.ownBlock → base ≤ g → wpList Try.prog ops Q rest (a.put o.dst (.slice (some ⟨g, 0, none⟩) (l.length + 1) cap)) w') : wpList Try.prog ops Q (o :: rest) a w := by
  obtain ⟨xs, hown, he⟩ := h
  refine wpList_append_lies w hgd s y LT ho base ET i0 z R.n R.bytes ht hi hz hsize hby hzs hn v l.length xs hs hown ⟨T, 0, none⟩ 1 1 (R.cs x sl) hy (by rw [hcs]; omega)
    (fun j c hj => by
      have := hT j c hj
      rw [Nat.zero_add] at this
      rw [Go.WideShapes.add_plain]
      simpa using this) h1 (by omega) hm hlen hbase _ rfl fun g cap w' hown' hg hgg hlt => ?_
  exact k g cap w' (gro_of hcs hown he hx hu hown' hg hgg) hg (World.ownsRow.lt hown' g rfl).1
theorem OwR.gr {R : El α} {t : TypeId} {w : World} {lo : Nat} {l : List α} {sl : Value} (h : OwR R t w lo l sl) (hcs : ∀ x sl, (R.cs x sl).length = R.n) : GrR R t w lo lo l sl := by
  rcases h with ⟨rfl, rfl⟩ | ⟨g, hg, rfl, h0, hb, hm, ⟨cur, hcur, hsz⟩, hl⟩
  · exact grR_nil _ _ _ _ _
  · have hcl : cur.toList.length = l.length * R.n := by simpa using hsz
    have hlen : (cur.toList.take (l.length * R.n)).length = l.length * R.n := by rw [List.length_take, hcl, Nat.min_self]
    refine ⟨cur.toList.take (l.length * R.n), ⟨hlen, .inr ⟨g, l.length, cur, rfl, hg, hcur, Nat.le_refl _, hm, hsz, rfl⟩⟩, fun i hi => ?_⟩
    obtain ⟨sl, ha, hv⟩ := hl.at i hi
    refine ⟨sl, cutW w (g + 1), fun j c hj => ?_, R.low (by omega) (R.keep (cutW_keep w (g + 1)) (Nat.le_refl _) _ _ hv), fun a c hc => ⟨(cutW_cell hc).2, fun e => ?_⟩⟩
    · have hj' := ha j c hj
      have hjl := (List.getElem?_eq_some_iff.1 hj).1
      rw [hcs] at hjl
      have hlt : i * R.n + j < l.length * R.n := by
        have : (i + 1) * R.n ≤ l.length * R.n := Nat.mul_le_mul_right _ hi
        rw [Nat.succ_mul] at this
        omega
      rw [List.getElem?_take_of_lt hlt]
      rw [Nat.zero_add] at hj'
      simp only [World.cell?, hcur] at hj'
      simpa using hj'
    · have := (cutW_cell hc).1
      simp only [Value.ownBlock] at e
      injection e with e
      omega
theorem new_ats' (w : World) (cs : List Value) (t : TypeId) {T : Nat} (hT : w.heap.size = T) : Ats (w.alloc (.cells cs.toArray t)) T 0 cs := by
  subst hT
  intro j u h
  have e := World.alloc_heap_new w (.cells cs.toArray t)
  simp only [World.cell?, e]
  simpa using h
theorem GrR.alloc {R : El α} {t : TypeId} {w : World} {lo base : Nat} {l : List α} {v : Value} (h : GrR R t w lo base l v) (o : Obj) : GrR R t (w.alloc o) lo base l v := h.on (bel1 w o)
/-- A world of no cells. -/
def noW (w : World) : World := cutW w w.heap.size
theorem noW_cell {w : World} {a : Addr} {c : Value} (h : (noW w).cell? a = some c) : False := by
  have := cutW_cell h
  have := cell_lt this.2
  omega
theorem blk_set3c {W : World} {B : Nat} {t : TypeId} {a b c c' : Value} (h : W.heap[B]? = some (.cells #[a, b, c] t)) : (W.setCell ⟨B, 2, none⟩ c').heap[B]? = some (.cells #[a, b, c'] t) := by
  simp [World.setCell, Array.getElem?_modify, h]
theorem blk_set3a {W : World} {B : Nat} {t : TypeId} {a b c a' : Value} (h : W.heap[B]? = some (.cells #[a, b, c] t)) : (W.setCell ⟨B, 0, none⟩ a').heap[B]? = some (.cells #[a', b, c] t) := by
  simp [World.setCell, Array.getElem?_modify, h]
theorem blk_set3b {W : World} {B : Nat} {t : TypeId} {a b c b' : Value} (h : W.heap[B]? = some (.cells #[a, b, c] t)) : (W.setCell ⟨B, 1, none⟩ b').heap[B]? = some (.cells #[a, b', c] t) := by
  simp [World.setCell, Array.getElem?_modify, h]
theorem blk_put3 {W : World} {B : Nat} {t : TypeId} {a b c a' b' c' : Value} (h : W.heap[B]? = some (.cells #[a, b, c] t)) : (((W.setCell ⟨B, 0, none⟩ a').setCell ⟨B, 1, none⟩ b').setCell ⟨B, 2, none⟩ c').heap[B]? = some (.cells #[a', b', c'] t) :=
  blk_set3c (blk_set3b (blk_set3a h))
theorem blk_oth {W : World} {B B' i : Nat} {o : Obj} {c : Value} (h : W.heap[B]? = some o) (hne : B ≠ B') : (W.setCell ⟨B', i, none⟩ c).heap[B]? = some o := (Below.heap_setCell _ _ _ _ (by show B ≠ B'; exact hne)).trans h
theorem keepB_set {lo B i : Nat} {w : World} {c : Value} (h : B < lo) : KeepB lo w (w.setCell ⟨B, i, none⟩ c) := fun g o hg e => blk_oth e (by omega)
end Go.Proofs.Yteknbploiombiaa
