/-
  Rows of entries: how they lie, and more behind them.
-/
import Derived.Test.YtbgikgeknnmelaaGreatPpt
import Derived.Deep.AppendLies
namespace Go.Proofs.YtbgikgeknnmelaaGreat
open Go.RowKit
set_option linter.unusedVariables false      -- a walk need not use every condition

/-- Headers of entries, and what they lead to. -/
def Ens (w : World) : List (Value × Value) → List En → Prop
  | [], [] => True
  | h :: hs, e :: l => Bts w 0 h.1 e.key ∧ Bts w 0 h.2 e.val ∧ Ens w hs l
  | _, _ => False
def enC (hs : List (Value × Value)) : List Value := hs.flatMap fun h => [h.1, h.2]
theorem enC_len (hs : List (Value × Value)) : (enC hs).length = hs.length * 2 := by
  unfold enC
  induction hs with
  | nil => rfl
  | cons h hs ih => simp at ih ⊢; omega
theorem Ens.len {w : World} : ∀ {hs : List (Value × Value)} {l : List En}, Ens w hs l → hs.length = l.length
  | [], [], _ => rfl
  | _ :: hs, _ :: l, h => by simp [Ens.len (hs := hs) (l := l) h.2.2]
  | [], _ :: _, h => h.elim
  | _ :: _, [], h => h.elim
theorem Ens.app {w : World} : ∀ {hs : List (Value × Value)} {l : List En} {hs' : List (Value × Value)} {l' : List En}, Ens w hs l → Ens w hs' l' → Ens w (hs ++ hs') (l ++ l')
  | [], [], _, _, _, h' => h'
  | _ :: hs, _ :: l, _, _, h, h' => ⟨h.1, h.2.1, Ens.app (hs := hs) (l := l) h.2.2 h'⟩
  | [], _ :: _, _, _, h, _ => h.elim
  | _ :: _, [], _, _, h, _ => h.elim
theorem Ens.on {w w' : World} (hb : Below w.heap.size w w') : ∀ {hs : List (Value × Value)} {l : List En}, Ens w hs l → Ens w' hs l
  | [], [], _ => trivial
  | _ :: hs, _ :: l, h => ⟨own_bel h.1 hb, own_bel h.2.1 hb, Ens.on (hs := hs) (l := l) hb h.2.2⟩
  | [], _ :: _, h => h.elim
  | _ :: _, [], h => h.elim
/-- Bytes are no row of entries. -/
theorem bts_ne {w : World} {base base' : Nat} {x v : Value} {t : List UInt8} {n : Nat} {xs : List Value} (h : Bts w base x t) (hr : w.ownsRow base' 39 2 v n xs) : x.ownBlock = none ∨ x.ownBlock ≠ v.ownBlock := by
  unfold Bts at h
  rcases h.2 with ⟨rfl, -⟩ | ⟨g, cap, cur, rfl, -, hg, -⟩
  · exact .inl rfl
  · refine .inr fun e => ?_
    rcases hr.2 with ⟨rfl, -⟩ | ⟨g', cap', cur', rfl, -, hg', -⟩
    · cases e
    · simp only [Value.ownBlock, Option.some.injEq] at e
      subst e
      rw [hg] at hg'
      simp at hg'
theorem Ens.gr {w w' : World} {base : Nat} {v : Value} {n : Nat} {xs : List Value} (hr : w.ownsRow base 39 2 v n xs) (hg : w.grownBy w' v.ownBlock) : ∀ {hs : List (Value × Value)} {l : List En}, Ens w hs l → Ens w' hs l
  | [], [], _ => trivial
  | _ :: hs, _ :: l, h => ⟨World.ownsRow.kept h.1 hg (bts_ne h.1 hr), World.ownsRow.kept h.2.1 hg (bts_ne h.2.1 hr), Ens.gr (hs := hs) (l := l) hr hg h.2.2⟩
  | [], _ :: _, h => h.elim
  | _ :: _, [], h => h.elim
theorem bts_one {w : World} {base : Nat} {x : Value} {t : List UInt8} (h : Bts w base x t) : x.oneCell' = true := by
  obtain ⟨p, c, rfl, -⟩ := h.bs.slice; rfl
theorem Ens.one {w : World} : ∀ {hs : List (Value × Value)} {l : List En}, Ens w hs l → ∀ u ∈ enC hs, u.oneCell' = true
  | [], [], _ => by simp [enC]
  | h :: hs, _ :: l, he => by
    intro u hu
    unfold enC at hu
    rw [List.flatMap_cons, List.mem_append] at hu
    rcases hu with hu | hu
    · simp at hu
      rcases hu with rfl | rfl
      · exact bts_one he.1
      · exact bts_one he.2.1
    · exact Ens.one (hs := hs) (l := l) he.2.2 u hu
  | [], _ :: _, h => h.elim
  | _ :: _, [], h => h.elim
/-- A row of entries of one's own. -/
def RowE (w : World) (base : Nat) (v : Value) (l : List En) : Prop := ∃ hs, Ens w hs l ∧ w.ownsRow base 39 2 v l.length (enC hs)
theorem rowE_nil (w : World) (base : Nat) : RowE w base (.slice none 0 0) [] := ⟨[], trivial, World.ownsRow_nil _ _ _ _⟩
theorem RowE.on {w w' : World} {base : Nat} {v : Value} {l : List En} (h : RowE w base v l) (hb : Below w.heap.size w w') : RowE w' base v l := by
  obtain ⟨hs, h1, h2⟩ := h; exact ⟨hs, h1.on hb, own_bel h2 hb⟩
theorem own_low {w : World} {base base' : Nat} {e : TypeId} {size : Nat} {v : Value} {n : Nat} {xs : List Value} (h : w.ownsRow base e size v n xs) (hb : base' ≤ base) : w.ownsRow base' e size v n xs := by
  refine ⟨h.1, ?_⟩
  rcases h.2 with h | ⟨g, cap, cur, h1, h2, h3⟩
  · exact .inl h
  · exact .inr ⟨g, cap, cur, h1, by omega, h3⟩
theorem RowE.low {w : World} {base base' : Nat} {v : Value} {l : List En} (h : RowE w base v l) (hb : base' ≤ base) : RowE w base' v l := by
  obtain ⟨hs, h1, h2⟩ := h; exact ⟨hs, h1, own_low h2 hb⟩
theorem rowE_lit (w : World) (base : Nat) (hb : base ≤ w.heap.size) (hs : List (Value × Value)) (l : List En) (h : Ens w hs l) (hm : l.length ≤ 100) (cs : Array Value) (hcs : cs.toList = enC hs) (n : Nat) (hn : n = l.length) : RowE (w.alloc (.cells cs 39)) base (.slice (some ⟨w.heap.size, 0, none⟩) n n) l := by
  subst hn
  refine ⟨hs, h.on (bel1 w _), ?_⟩
  have := World.ownsRow_lit (e := 39) (size := 2) w cs l.length hb (by unfold maxLen; omega) (by rw [← Array.length_toList, hcs, enC_len, h.len])
  rwa [hcs] at this
theorem RowE.told {w : World} {base : Nat} {v : Value} {l : List En} (h : RowE w base v l) (hp : 0 < l.length) : ∃ g cap hs, v = .slice (some ⟨g, 0, none⟩) l.length cap ∧ base ≤ g ∧ l.length ≤ cap ∧ cap ≤ maxLen ∧ Ens w hs l ∧ (∃ cur, w.heap[g]? = some (.cells cur 39)) ∧ ∀ j u, (enC hs)[j]? = some u → w.cell? ((⟨g, 0, none⟩ : Addr).add j) = some u := by
  obtain ⟨hs, h1, h2⟩ := h
  have h0 := h2
  rcases h2.2 with ⟨rfl, h3⟩ | ⟨g, cap, cur, rfl, hbg, hg, hnc, hcm, hcs, htake⟩
  · omega
  · exact ⟨g, cap, hs, rfl, hbg, hnc, hcm, h1, ⟨cur, hg⟩, h0.cells (g := g) rfl⟩
def zEn : Value := .agg #[.slice none 0 0, .slice none 0 0]
theorem info39 : (Tryz.prog.info? 39).map (fun i => (i.zero, i.size, i.bytes)) = some (some zEn, 2, 48) := by kernel_rfl
theorem wpList_app_en (w : World) {ops : Array Oper} {rest : List Oper} {o : Oper} {a : Act} {Q : Exit → Act → World → Prop} (hgd : o.guard = none) (s x : Operand)
    (ho : o.op = .call { callee := .builtin .append, args := #[s, x], argTypes := #[32, 32] }) (base : Nat) (v : Value) (l : List En) (hs : a.eval s = v) (hrow : RowE w base v l) (ad : Addr) (c : Nat) (hs' : List (Value × Value)) (l' : List En)
    (hx : a.eval x = .slice (some ad) l'.length c) (hnews : ∀ j y, (enC hs')[j]? = some y → w.cell? (ad.add j) = some y) (hE : Ens w hs' l') (hlen : l.length + l'.length ≤ 100000000) (hbase : base ≤ w.heap.size)
    (h : ∀ v' w', RowE w' base v' (l ++ l') → w.grownBy w' v.ownBlock → wpList Tryz.prog ops Q rest (a.put o.dst v') w') : wpList Tryz.prog ops Q (o :: rest) a w := by
  obtain ⟨i, hi, hz0, hz1, hz2⟩ := info_parts info39
  obtain ⟨hs0, h1, h2⟩ := hrow
  refine wpList_append_own w hgd s x 32 ho base 39 i zEn 2 48 Tryz.underlying32 hi hz0 hz1 hz2 rfl (by decide) v _ _ hs h2 ad l'.length c (enC hs') hx (by rw [enC_len, hE.len]) hnews hE.one (by unfold maxLen; omega) (by omega) hbase fun v' w' k1 k2 _ => h v' w' ⟨hs0 ++ hs', ?_, ?_⟩ k2
  · exact (h1.app hE).gr h2 k2
  · unfold enC at k1 ⊢
    rw [List.flatMap_append, List.length_append]
    exact k1
theorem step_app_en (w : World) {ops : Array Oper} {o : Oper} {a : Act} {K : Act → World → Prop} {Q : Exit → Act → World → Prop} {E : Prop} (hgd : o.guard = none) (s x : Operand)
    (ho : o.op = .call { callee := .builtin .append, args := #[s, x], argTypes := #[32, 32] }) (base : Nat) (v : Value) (l : List En) (hs : a.eval s = v) (hrow : RowE w base v l) (ad : Addr) (c : Nat) (hs' : List (Value × Value)) (l' : List En)
    (hx : a.eval x = .slice (some ad) l'.length c) (hnews : ∀ j y, (enC hs')[j]? = some y → w.cell? (ad.add j) = some y) (hE : Ens w hs' l') (hp : 0 < l'.length) (hlen : l.length + l'.length ≤ 100000000) (hbase : base ≤ w.heap.size)
    (h : ∀ g cap w', RowE w' base (.slice (some ⟨g, 0, none⟩) (l.length + l'.length) cap) (l ++ l') → w.grownBy w' v.ownBlock → K (a.put o.dst (.slice (some ⟨g, 0, none⟩) (l.length + l'.length) cap)) w') : if Region.wanted o (yielded ops a.tmps) = true then Oper.wp Tryz.prog o a w K Q else E := by
  obtain ⟨i, hi, hz0, hz1, hz2⟩ := info_parts info39
  obtain ⟨hs0, h1, h2⟩ := hrow
  refine step_append_lies w hgd s x 32 ho base 39 i zEn 2 48 Tryz.underlying32 hi hz0 hz1 hz2 rfl (by decide) v _ _ hs h2 ad l'.length c (enC hs') hx (by rw [enC_len, hE.len]) hnews hE.one hp (by unfold maxLen; omega) (by omega) hbase _ rfl fun g cap w' k1 k2 _ _ => h g cap w' ⟨hs0 ++ hs', ?_, ?_⟩ k2
  · exact (h1.app hE).gr h2 k2
  · unfold enC at k1 ⊢
    rw [List.flatMap_append, List.length_append]
    exact k1
theorem belowE_app {w0 w w' : World} {v : Value} {l : List En} (hB : Below w0.heap.size w0 w) (hown : RowE w w0.heap.size v l) (hg : w.grownBy w' v.ownBlock) : Below w0.heap.size w0 w' := by
  obtain ⟨hs, h1, h2⟩ := hown
  exact hB.grown hg hB.size (fun k e => (h2.lt k e).1)
/-- A block that is no row of entries stays. -/
theorem blkE_gr {w w' : World} {base : Nat} {v : Value} {l : List En} (h : RowE w base v l) {g : Nat} {cs : Array Value} {ty : TypeId} (hty : ty ≠ 39) (hg : w.heap[g]? = some (.cells cs ty)) (hgr : w.grownBy w' v.ownBlock) : w'.heap[g]? = some (.cells cs ty) := by
  obtain ⟨hs, -, h⟩ := h
  refine (hgr.block g (Array.getElem?_eq_some_iff.1 hg).1 ?_).trans hg
  rcases h.2 with ⟨rfl, -⟩ | ⟨g', cap, cur, rfl, -, hg', -⟩
  · intro e; cases e
  · intro e
    simp only [Value.ownBlock, Option.some.injEq] at e
    subst e
    rw [hg] at hg'
    simp at hg'
    exact hty hg'.2
/-- Entries that lie somewhere. -/
def Es (w : World) (v : Value) (l : List En) : Prop := ∃ p cap, v = .slice p l.length cap ∧ l.length ≤ cap ∧ cap ≤ maxLen ∧
  (l = [] ∨ ∃ g o, p = some ⟨g, o, none⟩ ∧ ∀ i (h : i < l.length), ∃ kh vh, w.cell? ⟨g, o + i * 2, none⟩ = some kh ∧ w.cell? ⟨g, o + i * 2 + 1, none⟩ = some vh ∧ Bs w kh l[i].key ∧ Bs w vh l[i].val)
theorem Es.on {w w' : World} {v : Value} {l : List En} (h : Es w v l) (hb : Below w.heap.size w w') : Es w' v l := by
  obtain ⟨p, cap, rfl, h1, h2, h4⟩ := h
  refine ⟨p, cap, rfl, h1, h2, ?_⟩
  rcases h4 with h4 | ⟨g, o, rfl, hc⟩
  · exact .inl h4
  · refine .inr ⟨g, o, rfl, fun i hi => ?_⟩
    obtain ⟨kh, vh, c0, c1, k0, k1⟩ := hc i hi
    exact ⟨kh, vh, some_on hb c0, some_on hb c1, k0.on hb, k1.on hb⟩
theorem Ens.at {w : World} : ∀ {hs : List (Value × Value)} {l : List En}, Ens w hs l → ∀ i (hi : i < l.length), ∃ kh vh, (enC hs)[i * 2]? = some kh ∧ (enC hs)[i * 2 + 1]? = some vh ∧ Bts w 0 kh l[i].key ∧ Bts w 0 vh l[i].val
  | [], [], _, i, hi => absurd hi (Nat.not_lt_zero _)
  | h :: hs, e :: l, he, 0, _ => ⟨h.1, h.2, by simp [enC], by simp [enC], he.1, he.2.1⟩
  | h :: hs, e :: l, he, i + 1, hi => by
    obtain ⟨kh, vh, h1, h2, h3, h4⟩ := Ens.at (hs := hs) (l := l) he.2.2 i (by simpa using hi)
    refine ⟨kh, vh, ?_, ?_, h3, h4⟩
    · rw [show (i + 1) * 2 = i * 2 + 1 + 1 by omega]; simpa [enC] using h1
    · rw [show (i + 1) * 2 + 1 = i * 2 + 1 + 1 + 1 by omega]; simpa [enC] using h2
  | [], _ :: _, h, _, _ => h.elim
  | _ :: _, [], h, _, _ => h.elim
theorem RowE.es {w : World} {base : Nat} {v : Value} {l : List En} (h : RowE w base v l) : Es w v l := by
  by_cases hp : 0 < l.length
  · obtain ⟨g, cap, hs, rfl, -, h1, h2, he, -, hc⟩ := h.told hp
    refine ⟨_, cap, rfl, h1, h2, .inr ⟨g, 0, rfl, fun i hi => ?_⟩⟩
    obtain ⟨kh, vh, c0, c1, k0, k1⟩ := he.at i hi
    have d0 := hc _ _ c0
    have d1 := hc _ _ c1
    rw [Go.WideShapes.add_plain] at d0 d1
    exact ⟨kh, vh, d0, d1, k0.bs, k1.bs⟩
  · have : l = [] := List.eq_nil_of_length_eq_zero (by omega)
    subst this
    obtain ⟨hs, -, h2⟩ := h
    rcases h2.2 with ⟨rfl, -⟩ | ⟨g, cap, cur, rfl, -, -, h1, h2, -⟩
    · exact ⟨none, 0, rfl, Nat.le_refl _, by unfold maxLen; omega, .inl rfl⟩
    · exact ⟨_, cap, rfl, h1, h2, .inl rfl⟩
end Go.Proofs.YtbgikgeknnmelaaGreat
