/-
  Rows of entries: how they lie, and more behind them.
  indexes of package keys.
-/
import Derived.Test.YtbgikgeknnmelaaGreatPpt
import Derived.Deep.AppendLies
import Derived.Deep.RegionHeld3
import Derived.Deep.CutRange
namespace Go.Proofs.YtbgikgeknnmelaaGreat
open Go.RowKit
set_option linter.unusedVariables false      -- a walk need not use every condition

/-- Headers of entries, and what they lead to. -/
def Ens (w : World) : List (Value × Value) → List En → Prop
  | [], [] => True
  | h :: hs, e :: l => Bts w 0 h.1 e.key ∧ Bts w 0 h.2 e.val ∧ Ens w hs l
  | _, _ => False
def enC (hs : List (Value × Value)) : List Value := hs.flatMap fun h => [h.1, h.2]
theorem enC_len (hs : List (Value × Value)) : (enC hs).length = hs.length * 2 := by
  unfold enC
  induction hs with
  | nil => rfl
  | cons h hs ih => simp at ih ⊢; omega
theorem Ens.len {w : World} : ∀ {hs : List (Value × Value)} {l : List En}, Ens w hs l → hs.length = l.length
  | [], [], _ => rfl
  | _ :: hs, _ :: l, h => by simp [Ens.len (hs := hs) (l := l) h.2.2]
  | [], _ :: _, h => h.elim
  | _ :: _, [], h => h.elim
theorem Ens.app {w : World} : ∀ {hs : List (Value × Value)} {l : List En} {hs' : List (Value × Value)} {l' : List En}, Ens w hs l → Ens w hs' l' → Ens w (hs ++ hs') (l ++ l')
  | [], [], _, _, _, h' => h'
  | _ :: hs, _ :: l, _, _, h, h' => ⟨h.1, h.2.1, Ens.app (hs := hs) (l := l) h.2.2 h'⟩
  | [], _ :: _, _, _, h, _ => h.elim
  | _ :: _, [], _, _, h, _ => h.elim
theorem Ens.on {w w' : World} (hb : Below w.heap.size w w') : ∀ {hs : List (Value × Value)} {l : List En}, Ens w hs l → Ens w' hs l
  | [], [], _ => trivial
  | _ :: hs, _ :: l, h => ⟨own_bel h.1 hb, own_bel h.2.1 hb, Ens.on (hs := hs) (l := l) hb h.2.2⟩
  | [], _ :: _, h => h.elim
  | _ :: _, [], h => h.elim
/-- Bytes are no row of entries. -/
theorem bts_ne {w : World} {base base' : Nat} {x v : Value} {t : List UInt8} {n : Nat} {xs : List Value} (h : Bts w base x t) (hr : w.ownsRow base' 39 2 v n xs) : x.ownBlock = none ∨ x.ownBlock ≠ v.ownBlock := by
  unfold Bts at h
  rcases h.2 with ⟨rfl, -⟩ | ⟨g, cap, cur, rfl, -, hg, -⟩
  · exact .inl rfl
  · refine .inr fun e => ?_
    rcases hr.2 with ⟨rfl, -⟩ | ⟨g', cap', cur', rfl, -, hg', -⟩
    · cases e
    · simp only [Value.ownBlock, Option.some.injEq] at e
      subst e
      rw [hg] at hg'
      simp at hg'
theorem Ens.gr {w w' : World} {base : Nat} {v : Value} {n : Nat} {xs : List Value} (hr : w.ownsRow base 39 2 v n xs) (hg : w.grownBy w' v.ownBlock) : ∀ {hs : List (Value × Value)} {l : List En}, Ens w hs l → Ens w' hs l
  | [], [], _ => trivial
  | _ :: hs, _ :: l, h => ⟨World.ownsRow.kept h.1 hg (bts_ne h.1 hr), World.ownsRow.kept h.2.1 hg (bts_ne h.2.1 hr), Ens.gr (hs := hs) (l := l) hr hg h.2.2⟩
  | [], _ :: _, h => h.elim
  | _ :: _, [], h => h.elim
theorem bts_one {w : World} {base : Nat} {x : Value} {t : List UInt8} (h : Bts w base x t) : x.oneCell' = true := by
  obtain ⟨p, c, rfl, -⟩ := h.bs.slice; rfl
theorem Ens.one {w : World} : ∀ {hs : List (Value × Value)} {l : List En}, Ens w hs l → ∀ u ∈ enC hs, u.oneCell' = true
  | [], [], _ => by simp [enC]
  | h :: hs, _ :: l, he => by
    intro u hu
    unfold enC at hu
    rw [List.flatMap_cons, List.mem_append] at hu
    rcases hu with hu | hu
    · simp at hu
      rcases hu with rfl | rfl
      · exact bts_one he.1
      · exact bts_one he.2.1
    · exact Ens.one (hs := hs) (l := l) he.2.2 u hu
  | [], _ :: _, h => h.elim
  | _ :: _, [], h => h.elim
/-- A row of entries of one's own. -/
def RowE (w : World) (base : Nat) (v : Value) (l : List En) : Prop := ∃ hs, Ens w hs l ∧ w.ownsRow base 39 2 v l.length (enC hs)
theorem rowE_nil (w : World) (base : Nat) : RowE w base (.slice none 0 0) [] := ⟨[], trivial, World.ownsRow_nil _ _ _ _⟩
theorem RowE.on {w w' : World} {base : Nat} {v : Value} {l : List En} (h : RowE w base v l) (hb : Below w.heap.size w w') : RowE w' base v l := by
  obtain ⟨hs, h1, h2⟩ := h; exact ⟨hs, h1.on hb, own_bel h2 hb⟩
theorem own_low {w : World} {base base' : Nat} {e : TypeId} {size : Nat} {v : Value} {n : Nat} {xs : List Value} (h : w.ownsRow base e size v n xs) (hb : base' ≤ base) : w.ownsRow base' e size v n xs := by
  refine ⟨h.1, ?_⟩
  rcases h.2 with h | ⟨g, cap, cur, h1, h2, h3⟩
  · exact .inl h
  · exact .inr ⟨g, cap, cur, h1, by omega, h3⟩
theorem RowE.low {w : World} {base base' : Nat} {v : Value} {l : List En} (h : RowE w base v l) (hb : base' ≤ base) : RowE w base' v l := by
  obtain ⟨hs, h1, h2⟩ := h; exact ⟨hs, h1, own_low h2 hb⟩
theorem rowE_lit (w : World) (base : Nat) (hb : base ≤ w.heap.size) (hs : List (Value × Value)) (l : List En) (h : Ens w hs l) (hm : l.length ≤ 100) (cs : Array Value) (hcs : cs.toList = enC hs) (n : Nat) (hn : n = l.length) : RowE (w.alloc (.cells cs 39)) base (.slice (some ⟨w.heap.size, 0, none⟩) n n) l := by
  subst hn
  refine ⟨hs, h.on (bel1 w _), ?_⟩
  have := World.ownsRow_lit (e := 39) (size := 2) w cs l.length hb (by unfold maxLen; omega) (by rw [← Array.length_toList, hcs, enC_len, h.len])
  rwa [hcs] at this
theorem RowE.told {w : World} {base : Nat} {v : Value} {l : List En} (h : RowE w base v l) (hp : 0 < l.length) : ∃ g cap hs, v = .slice (some ⟨g, 0, none⟩) l.length cap ∧ base ≤ g ∧ l.length ≤ cap ∧ cap ≤ maxLen ∧ Ens w hs l ∧ (∃ cur, w.heap[g]? = some (.cells cur 39)) ∧ ∀ j u, (enC hs)[j]? = some u → w.cell? ((⟨g, 0, none⟩ : Addr).add j) = some u := by
  obtain ⟨hs, h1, h2⟩ := h
  have h0 := h2
  rcases h2.2 with ⟨rfl, h3⟩ | ⟨g, cap, cur, rfl, hbg, hg, hnc, hcm, hcs, htake⟩
  · omega
  · exact ⟨g, cap, hs, rfl, hbg, hnc, hcm, h1, ⟨cur, hg⟩, h0.cells (g := g) rfl⟩
def zEn : Value := .agg #[.slice none 0 0, .slice none 0 0]
theorem info39 : (Tryz.prog.info? 39).map (fun i => (i.zero, i.size, i.bytes)) = some (some zEn, 2, 48) := by kernel_rfl
theorem wpList_app_en (w : World) {ops : Array Oper} {rest : List Oper} {o : Oper} {a : Act} {Q : Exit → Act → World → Prop} (hgd : o.guard = none) (s x : Operand)
    (ho : o.op = .call { callee := .builtin .append, args := #[s, x], argTypes := #[32, 32] }) (base : Nat) (v : Value) (l : List En) (hs : a.eval s = v) (hrow : RowE w base v l) (ad : Addr) (c : Nat) (hs' : List (Value × Value)) (l' : List En)
    (hx : a.eval x = .slice (some ad) l'.length c) (hnews : ∀ j y, (enC hs')[j]? = some y → w.cell? (ad.add j) = some y) (hE : Ens w hs' l') (hlen : l.length + l'.length ≤ 100000000) (hbase : base ≤ w.heap.size)
    (h : ∀ v' w', RowE w' base v' (l ++ l') → w.grownBy w' v.ownBlock → wpList Tryz.prog ops Q rest (a.put o.dst v') w') : wpList Tryz.prog ops Q (o :: rest) a w := by
  obtain ⟨i, hi, hz0, hz1, hz2⟩ := info_parts info39
  obtain ⟨hs0, h1, h2⟩ := hrow
  refine wpList_append_own w hgd s x 32 ho base 39 i zEn 2 48 Tryz.underlying32 hi hz0 hz1 hz2 rfl (by decide) v _ _ hs h2 ad l'.length c (enC hs') hx (by rw [enC_len, hE.len]) hnews hE.one (by unfold maxLen; omega) (by omega) hbase fun v' w' k1 k2 _ => h v' w' ⟨hs0 ++ hs', ?_, ?_⟩ k2
  · exact (h1.app hE).gr h2 k2
  · unfold enC at k1 ⊢
    rw [List.flatMap_append, List.length_append]
    exact k1
theorem step_app_en (w : World) {ops : Array Oper} {o : Oper} {a : Act} {K : Act → World → Prop} {Q : Exit → Act → World → Prop} {E : Prop} (hgd : o.guard = none) (s x : Operand)
    (ho : o.op = .call { callee := .builtin .append, args := #[s, x], argTypes := #[32, 32] }) (base : Nat) (v : Value) (l : List En) (hs : a.eval s = v) (hrow : RowE w base v l) (ad : Addr) (c : Nat) (hs' : List (Value × Value)) (l' : List En)
    (hx : a.eval x = .slice (some ad) l'.length c) (hnews : ∀ j y, (enC hs')[j]? = some y → w.cell? (ad.add j) = some y) (hE : Ens w hs' l') (hp : 0 < l'.length) (hlen : l.length + l'.length ≤ 100000000) (hbase : base ≤ w.heap.size)
    (h : ∀ g cap w', RowE w' base (.slice (some ⟨g, 0, none⟩) (l.length + l'.length) cap) (l ++ l') → w.grownBy w' v.ownBlock → K (a.put o.dst (.slice (some ⟨g, 0, none⟩) (l.length + l'.length) cap)) w') : if Region.wanted o (yielded ops a.tmps) = true then Oper.wp Tryz.prog o a w K Q else E := by
  obtain ⟨i, hi, hz0, hz1, hz2⟩ := info_parts info39
  obtain ⟨hs0, h1, h2⟩ := hrow
  refine step_append_lies w hgd s x 32 ho base 39 i zEn 2 48 Tryz.underlying32 hi hz0 hz1 hz2 rfl (by decide) v _ _ hs h2 ad l'.length c (enC hs') hx (by rw [enC_len, hE.len]) hnews hE.one hp (by unfold maxLen; omega) (by omega) hbase _ rfl fun g cap w' k1 k2 _ _ => h g cap w' ⟨hs0 ++ hs', ?_, ?_⟩ k2
  · exact (h1.app hE).gr h2 k2
  · unfold enC at k1 ⊢
    rw [List.flatMap_append, List.length_append]
    exact k1
theorem belowE_app {w0 w w' : World} {v : Value} {l : List En} (hB : Below w0.heap.size w0 w) (hown : RowE w w0.heap.size v l) (hg : w.grownBy w' v.ownBlock) : Below w0.heap.size w0 w' := by
  obtain ⟨hs, h1, h2⟩ := hown
  exact hB.grown hg hB.size (fun k e => (h2.lt k e).1)
/-- A block that is no row of entries stays. -/
theorem blkE_gr {w w' : World} {base : Nat} {v : Value} {l : List En} (h : RowE w base v l) {g : Nat} {cs : Array Value} {ty : TypeId} (hty : ty ≠ 39) (hg : w.heap[g]? = some (.cells cs ty)) (hgr : w.grownBy w' v.ownBlock) : w'.heap[g]? = some (.cells cs ty) := by
  obtain ⟨hs, -, h⟩ := h
  refine (hgr.block g (Array.getElem?_eq_some_iff.1 hg).1 ?_).trans hg
  rcases h.2 with ⟨rfl, -⟩ | ⟨g', cap, cur, rfl, -, hg', -⟩
  · intro e; cases e
  · intro e
    simp only [Value.ownBlock, Option.some.injEq] at e
    subst e
    rw [hg] at hg'
    simp at hg'
    exact hty hg'.2
/-- Entries that lie somewhere. -/
def Es (w : World) (v : Value) (l : List En) : Prop := ∃ p cap, v = .slice p l.length cap ∧ l.length ≤ cap ∧ cap ≤ maxLen ∧
  (l = [] ∨ ∃ g o, p = some ⟨g, o, none⟩ ∧ ∀ i (h : i < l.length), ∃ kh vh, w.cell? ⟨g, o + i * 2, none⟩ = some kh ∧ w.cell? ⟨g, o + i * 2 + 1, none⟩ = some vh ∧ Bs w kh l[i].key ∧ Bs w vh l[i].val)
theorem Es.on {w w' : World} {v : Value} {l : List En} (h : Es w v l) (hb : Below w.heap.size w w') : Es w' v l := by
  obtain ⟨p, cap, rfl, h1, h2, h4⟩ := h
  refine ⟨p, cap, rfl, h1, h2, ?_⟩
  rcases h4 with h4 | ⟨g, o, rfl, hc⟩
  · exact .inl h4
  · refine .inr ⟨g, o, rfl, fun i hi => ?_⟩
    obtain ⟨kh, vh, c0, c1, k0, k1⟩ := hc i hi
    exact ⟨kh, vh, some_on hb c0, some_on hb c1, k0.on hb, k1.on hb⟩
theorem Ens.at {w : World} : ∀ {hs : List (Value × Value)} {l : List En}, Ens w hs l → ∀ i (hi : i < l.length), ∃ kh vh, (enC hs)[i * 2]? = some kh ∧ (enC hs)[i * 2 + 1]? = some vh ∧ Bts w 0 kh l[i].key ∧ Bts w 0 vh l[i].val
  | [], [], _, i, hi => absurd hi (Nat.not_lt_zero _)
  | h :: hs, e :: l, he, 0, _ => ⟨h.1, h.2, by simp [enC], by simp [enC], he.1, he.2.1⟩
  | h :: hs, e :: l, he, i + 1, hi => by
    obtain ⟨kh, vh, h1, h2, h3, h4⟩ := Ens.at (hs := hs) (l := l) he.2.2 i (by simpa using hi)
    refine ⟨kh, vh, ?_, ?_, h3, h4⟩
    · rw [show (i + 1) * 2 = i * 2 + 1 + 1 by omega]; simpa [enC] using h1
    · rw [show (i + 1) * 2 + 1 = i * 2 + 1 + 1 + 1 by omega]; simpa [enC] using h2
  | [], _ :: _, h, _, _ => h.elim
  | _ :: _, [], h, _, _ => h.elim
theorem RowE.es {w : World} {base : Nat} {v : Value} {l : List En} (h : RowE w base v l) : Es w v l := by
  by_cases hp : 0 < l.length
  · obtain ⟨g, cap, hs, rfl, -, h1, h2, he, -, hc⟩ := h.told hp
    refine ⟨_, cap, rfl, h1, h2, .inr ⟨g, 0, rfl, fun i hi => ?_⟩⟩
    obtain ⟨kh, vh, c0, c1, k0, k1⟩ := he.at i hi
    have d0 := hc _ _ c0
    have d1 := hc _ _ c1
    rw [Go.WideShapes.add_plain] at d0 d1
    exact ⟨kh, vh, d0, d1, k0.bs, k1.bs⟩
  · have : l = [] := List.eq_nil_of_length_eq_zero (by omega)
    subst this
    obtain ⟨hs, -, h2⟩ := h
    rcases h2.2 with ⟨rfl, -⟩ | ⟨g, cap, cur, rfl, -, -, h1, h2, -⟩
    · exact ⟨none, 0, rfl, Nat.le_refl _, by unfold maxLen; omega, .inl rfl⟩
    · exact ⟨_, cap, rfl, h1, h2, .inl rfl⟩
end Go.Proofs.YtbgikgeknnmelaaGreat
namespace Go.Proofs.YtbgikgeknnmelaaGreat
open Go.RowKit
set_option linter.unusedVariables false      -- a walk need not use every condition

theorem bts_hdr {w : World} {base : Nat} {v : Value} {t : List UInt8} (h : Bts w base v t) : ∃ p n c, v = .slice p n c := by obtain ⟨p, c, rfl, -⟩ := h.bs.slice; exact ⟨_, _, _, rfl⟩
theorem blk_new' (W : World) (o : Obj) (g : Nat) (hg : W.heap.size = g) : (W.alloc o).heap[g]? = some o := by subst hg; exact blk_new W o
theorem ss_at {W : World} {g : Nat} {s : ByteArray} (hs : s.size ≤ 1048570) (h : W.heap[g]? = some (.cells #[.string s] 9)) : Ss W (.slice (some ⟨g, 0, none⟩) 1 1) [s] := by
  refine ⟨_, 1, rfl, Nat.le_refl _, by unfold maxLen; omega, by simpa using hs, .inr ⟨g, 0, rfl, fun i hi => ?_⟩⟩
  obtain rfl : i = 0 := by simpa using hi
  exact (one_of h).1
theorem four_S {u : World} {g : Nat} {a b c d : Value} {t : TypeId} (e : u.heap[g]? = some (.cells #[a, b, c, d] t)) : u.cell? ⟨g, 0, none⟩ = some a ∧ u.cell? ⟨g, 1, none⟩ = some b ∧ u.cell? ⟨g, 2, none⟩ = some c ∧ u.cell? ⟨g, 3, none⟩ = some d :=
  let ⟨h0, h1, h2, h3, _⟩ := four_of e; ⟨h0, h1, h2, h3⟩
theorem S_on {u u' : World} (hb : Below u.heap.size u u') {g : Nat} {a b c d : Value} (h : u.cell? ⟨g, 0, none⟩ = some a ∧ u.cell? ⟨g, 1, none⟩ = some b ∧ u.cell? ⟨g, 2, none⟩ = some c ∧ u.cell? ⟨g, 3, none⟩ = some d) : u'.cell? ⟨g, 0, none⟩ = some a ∧ u'.cell? ⟨g, 1, none⟩ = some b ∧ u'.cell? ⟨g, 2, none⟩ = some c ∧ u'.cell? ⟨g, 3, none⟩ = some d :=
  ⟨some_on hb h.1, some_on hb h.2.1, some_on hb h.2.2.1, some_on hb h.2.2.2⟩
theorem S_dr {u : World} {g : Nat} {a b c d : Value} (h : u.cell? ⟨g, 0, none⟩ = some a ∧ u.cell? ⟨g, 1, none⟩ = some b ∧ u.cell? ⟨g, 2, none⟩ = some c ∧ u.cell? ⟨g, 3, none⟩ = some d) : u.drew.cell? ⟨g, 0, none⟩ = some a ∧ u.drew.cell? ⟨g, 1, none⟩ = some b ∧ u.drew.cell? ⟨g, 2, none⟩ = some c ∧ u.drew.cell? ⟨g, 3, none⟩ = some d := h
theorem S_al {u : World} (o : Obj) {g : Nat} {a b c d : Value} (h : u.cell? ⟨g, 0, none⟩ = some a ∧ u.cell? ⟨g, 1, none⟩ = some b ∧ u.cell? ⟨g, 2, none⟩ = some c ∧ u.cell? ⟨g, 3, none⟩ = some d) : (u.alloc o).cell? ⟨g, 0, none⟩ = some a ∧ (u.alloc o).cell? ⟨g, 1, none⟩ = some b ∧ (u.alloc o).cell? ⟨g, 2, none⟩ = some c ∧ (u.alloc o).cell? ⟨g, 3, none⟩ = some d := S_on (bel1 u o) h
theorem nine_S {u : World} {A B : Nat} {a b c d p q r s t : Value} {ty ty' : TypeId} (hA : u.heap[A]? = some (.cells #[a, b, c, d] ty)) (hB : u.heap[B]? = some (.cells #[p, q, r, s, t] ty')) : u.cell? ⟨A, 0, none⟩ = some a ∧ u.cell? ⟨A, 1, none⟩ = some b ∧ u.cell? ⟨A, 2, none⟩ = some c ∧ u.cell? ⟨A, 3, none⟩ = some d ∧ u.cell? ⟨B, 0, none⟩ = some p ∧ u.cell? ⟨B, 1, none⟩ = some q ∧ u.cell? ⟨B, 2, none⟩ = some r ∧ u.cell? ⟨B, 3, none⟩ = some s ∧ u.cell? ⟨B, 4, none⟩ = some t :=
  let ⟨h0, h1, h2, h3, _⟩ := four_of hA; let ⟨k0, k1, k2, k3, k4, _⟩ := five_of hB; ⟨h0, h1, h2, h3, k0, k1, k2, k3, k4⟩
theorem nine_dr {u : World} {A B : Nat} {a b c d p q r s t : Value} (h : u.cell? ⟨A, 0, none⟩ = some a ∧ u.cell? ⟨A, 1, none⟩ = some b ∧ u.cell? ⟨A, 2, none⟩ = some c ∧ u.cell? ⟨A, 3, none⟩ = some d ∧ u.cell? ⟨B, 0, none⟩ = some p ∧ u.cell? ⟨B, 1, none⟩ = some q ∧ u.cell? ⟨B, 2, none⟩ = some r ∧ u.cell? ⟨B, 3, none⟩ = some s ∧ u.cell? ⟨B, 4, none⟩ = some t) : u.drew.cell? ⟨A, 0, none⟩ = some a ∧ u.drew.cell? ⟨A, 1, none⟩ = some b ∧ u.drew.cell? ⟨A, 2, none⟩ = some c ∧ u.drew.cell? ⟨A, 3, none⟩ = some d ∧ u.drew.cell? ⟨B, 0, none⟩ = some p ∧ u.drew.cell? ⟨B, 1, none⟩ = some q ∧ u.drew.cell? ⟨B, 2, none⟩ = some r ∧ u.drew.cell? ⟨B, 3, none⟩ = some s ∧ u.drew.cell? ⟨B, 4, none⟩ = some t := h
theorem nine_al {u : World} (o : Obj) {A B : Nat} {a b c d p q r s t : Value} (h : u.cell? ⟨A, 0, none⟩ = some a ∧ u.cell? ⟨A, 1, none⟩ = some b ∧ u.cell? ⟨A, 2, none⟩ = some c ∧ u.cell? ⟨A, 3, none⟩ = some d ∧ u.cell? ⟨B, 0, none⟩ = some p ∧ u.cell? ⟨B, 1, none⟩ = some q ∧ u.cell? ⟨B, 2, none⟩ = some r ∧ u.cell? ⟨B, 3, none⟩ = some s ∧ u.cell? ⟨B, 4, none⟩ = some t) : (u.alloc o).cell? ⟨A, 0, none⟩ = some a ∧ (u.alloc o).cell? ⟨A, 1, none⟩ = some b ∧ (u.alloc o).cell? ⟨A, 2, none⟩ = some c ∧ (u.alloc o).cell? ⟨A, 3, none⟩ = some d ∧ (u.alloc o).cell? ⟨B, 0, none⟩ = some p ∧ (u.alloc o).cell? ⟨B, 1, none⟩ = some q ∧ (u.alloc o).cell? ⟨B, 2, none⟩ = some r ∧ (u.alloc o).cell? ⟨B, 3, none⟩ = some s ∧ (u.alloc o).cell? ⟨B, 4, none⟩ = some t :=
  let ⟨h0, h1, h2, h3, k0, k1, k2, k3, k4⟩ := h; ⟨some_on (bel1 u o) h0, some_on (bel1 u o) h1, some_on (bel1 u o) h2, some_on (bel1 u o) h3, some_on (bel1 u o) k0, some_on (bel1 u o) k1, some_on (bel1 u o) k2, some_on (bel1 u o) k3, some_on (bel1 u o) k4⟩
theorem nine_bel {u u' : World} (hb : Below u.heap.size u u') {A B : Nat} {a b c d p q r s t : Value} (h : u.cell? ⟨A, 0, none⟩ = some a ∧ u.cell? ⟨A, 1, none⟩ = some b ∧ u.cell? ⟨A, 2, none⟩ = some c ∧ u.cell? ⟨A, 3, none⟩ = some d ∧ u.cell? ⟨B, 0, none⟩ = some p ∧ u.cell? ⟨B, 1, none⟩ = some q ∧ u.cell? ⟨B, 2, none⟩ = some r ∧ u.cell? ⟨B, 3, none⟩ = some s ∧ u.cell? ⟨B, 4, none⟩ = some t) : u'.cell? ⟨A, 0, none⟩ = some a ∧ u'.cell? ⟨A, 1, none⟩ = some b ∧ u'.cell? ⟨A, 2, none⟩ = some c ∧ u'.cell? ⟨A, 3, none⟩ = some d ∧ u'.cell? ⟨B, 0, none⟩ = some p ∧ u'.cell? ⟨B, 1, none⟩ = some q ∧ u'.cell? ⟨B, 2, none⟩ = some r ∧ u'.cell? ⟨B, 3, none⟩ = some s ∧ u'.cell? ⟨B, 4, none⟩ = some t :=
  let ⟨h0, h1, h2, h3, k0, k1, k2, k3, k4⟩ := h; ⟨some_on hb h0, some_on hb h1, some_on hb h2, some_on hb h3, some_on hb k0, some_on hb k1, some_on hb k2, some_on hb k3, some_on hb k4⟩
theorem sl_at {W : World} {g : Nat} {v : V} {sv : Value} (hv : v.In W 0 sv) (h : W.heap[g]? = some (.cells #[.int .i64 v.k, .int .i64 v.n, .string v.s, sv] 29)) : Sl W 0 [v] (.slice (some ⟨g, 0, none⟩) 1 1) := by
  obtain ⟨h0, h1, h2, h3, -⟩ := four_of h
  refine ⟨_, 1, rfl, Nat.le_refl _, by unfold maxLen; omega, by simp, .inr ⟨g, 0, rfl, Nat.zero_le _, ?_⟩⟩
  simp only [Ls]
  exact ⟨_, h0, h1, h2, h3, hv, trivial⟩
theorem ens_one {w : World} {k : Value} {e : En} (h : Bts w 0 k e.key) (hv : e.val = []) : Ens w [(k, .slice none 0 0)] [e] := ⟨h, by rw [hv]; exact World.ownsRow_nil _ _ _ _, trivial⟩
theorem Bts.zero {w : World} {base : Nat} {v : Value} {t : List UInt8} (h : Bts w base v t) : Bts w 0 v t := h.mono (Nat.zero_le _)
theorem bel_drew {w W : World} (h : Below w.heap.size w W) : Below w.heap.size w W.drew := bel_then h (Below.refl _ W).drew
theorem bel_al {w W : World} (h : Below w.heap.size w W) (o : Obj) : Below w.heap.size w (W.alloc o) := bel_then h (bel1 W o)
set_option maxHeartbeats 4000000 in
set_option maxRecDepth 20000 in
theorem ix_start (el : V) (sle : Value) (lb : ByteArray) (ps : List Pr) (sp : Value) (w : World) (hel : el.In w 0 sle) (hme : el.many ≤ 1048570) (hlb : lb.size ≤ 1048570) (hps : Sq RP w 0 ps sp) (hmp : manyP ps ≤ 1048570) :
    Calls Tryz.prog 44 #[el.agg sle, .string lb, sp] w fun e w' => ∃ v, e = .returned v ∧ RowE w' w.heap.size v (ixQ el lb ps) ∧ Below w.heap.size w w' := by
  obtain ⟨p1, n1, q1, rfl⟩ := hel.header
  have c25 := fun W sl h => label25 el.k [lb] sl W h
  have c51 := fun W b t g hg hB hb ht => putFormsK51 el (.slice p1 n1 q1) w W b t g hel (by omega) hg hB hb ht
  have hlq := labelQ_len el.k [lb]
  have hl2 := kq_len el
  obtain ⟨pp, cp, rfl, hpc, hpm, hp7, hpx⟩ := hps
  unfold V.agg
  have E0 := blk_new w (.cells #[.int .i64 el.k, .int .i64 el.n, .string el.s, .slice p1 n1 q1] 29)
  have hB0 := bel1 w (.cells #[.int .i64 el.k, .int .i64 el.n, .string el.s, .slice p1 n1 q1] 29)
  have hz0 : (w.alloc (.cells #[.int .i64 el.k, .int .i64 el.n, .string el.s, .slice p1 n1 q1] 29)).heap.size = w.heap.size + 1 := by simp
  have hixs : Hid (ixQ el lb ps = ⟨labelQ el.k [lb] ++ kq el, []⟩ :: ps.map (ixP el)) := (rfl : _ = _)
  generalize labelQ el.k [lb] = LQ at *
  obtain ⟨K, hK⟩ : ∃ K, Hid (kq el = K) := ⟨kq el, (rfl : _ = _)⟩
  rw [hK.out] at hl2 hixs
  have c51 : ∀ (W : World) (b : Value) (t : List UInt8) (g : Nat), W.heap[g]? = some (.cells #[.int .i64 el.k, .int .i64 el.n, .string el.s, .slice p1 n1 q1] 29) → Below w.heap.size w W → Bts W w.heap.size b t → t.length + 300 ≤ 140737488355328 → Calls Tryz.prog 51 #[b, .slice (some ⟨g, 0, none⟩) 1 1] W fun e w' => AppR w (t ++ K) e w' ∧ KT W w' := by rw [← hK.out]; exact c51
  go_enter Tryz.func44, Tryz.ntmps44
  go_wp2
  generalize w.alloc (.cells #[.int .i64 el.k, .int .i64 el.n, .string el.s, .slice p1 n1 q1] 29) = W0 at *
  have S0 := four_S E0
  have S1 := S0
  have S2 := S0
  have Q0 : Below w.heap.size w W0.drew := bel_drew hB0
  have E1 := Lib.hid E0
  have HZ0 := Lib.hid hz0
  have HZ1 : Hid (∀ o, (W0.alloc o).heap.size = w.heap.size + 1 + 1) := fun o => by rw [World.size_alloc, HZ0.out]
  have HB0 := Lib.hid hB0
  have HPX := Lib.hid hpx
  clear E0 hB0 hpx
  go_cut [7] from 10 to 20 (fun s7 wx => Hid (RowE wx w.heap.size s7 [⟨LQ ++ K, []⟩]) ∧ Hid (Below w.heap.size w wx) ∧ Hid (wx.heap[w.heap.size]? = some (.cells #[.int .i64 el.k, .int .i64 el.n, .string el.s, .slice p1 n1 q1] 29)))
  case first =>
    go_region_held3 (fun u => u.cell? ⟨w.heap.size, 0, none⟩ = some (.int .i64 el.k) ∧ u.cell? ⟨w.heap.size, 1, none⟩ = some (.int .i64 el.n) ∧ u.cell? ⟨w.heap.size, 2, none⟩ = some (.string el.s) ∧ u.cell? ⟨w.heap.size, 3, none⟩ = some (.slice p1 n1 q1))
      (first | with_reducible exact S_dr S0 | with_reducible exact S_dr (S_al _ S0) | with_reducible exact S_dr (S_al _ (S_al _ S0)) | with_reducible exact S1 | with_reducible exact S_al _ S1 | with_reducible exact S_dr (S_al _ S1) | with_reducible exact S2 | with_reducible exact S_al _ S2 | with_reducible exact S_dr (S_al _ S2))
      (first
        | (go_at_call 25; go_loud (refine (c25 _ _ (ss_at hlb (by first | exact blk_new' W0 _ _ HZ0.out | exact blk_old (blk_new' W0 _ _ HZ0.out) | exact blk_new' (W0.alloc _) _ _ (HZ1.out _)))).mono ?_; rintro e w1 ⟨b1, rfl, hb1, hB1⟩; have S1 := S_on hB1 (by first | exact S_dr (S_al _ S0) | exact S_dr (S_al _ (S_al _ S0))); have Q1 : Below w.heap.size w w1 := bel_then (by first | exact bel_drew (bel_al HB0.out _) | exact bel_drew (bel_al (bel_al HB0.out _) _)) hB1; have O1 : Bts w1 w.heap.size b1 LQ := hb1.mono (by have := Q0.size; simp at this ⊢; omega); have HB1 := Lib.hid hB1))
        | (go_at_call 51; go_loud (refine (c51 _ _ _ _ (by first | exact blk_new' w1 _ _ rfl | exact blk_on HB1.out (by first | exact blk_new' W0 _ _ HZ0.out | exact blk_old (blk_new' W0 _ _ HZ0.out) | exact blk_new' (W0.alloc _) _ _ (HZ1.out _))) (by first | with_reducible exact Q1 | exact bel_al Q1 _ | exact bel_drew (bel_al Q1 _)) (by first | with_reducible exact O1 | exact World.ownsRow.alloc O1 _) (by omega)).mono ?_; rintro e w2 ⟨⟨b2, rfl, hb2, hB2⟩, hK2⟩; obtain ⟨p2, n2, c2, rfl⟩ := bts_hdr hb2; have O2 := Lib.hid (And.intro hb2 hB2); clear hb2 hB2; have E2 := Lib.hid (hK2 w.heap.size _ 29 (by decide) (by first | exact blk_on HB1.out (by first | exact E1.out | exact blk_old E1.out | exact blk_old (blk_old E1.out)) | exact blk_old (blk_on HB1.out (by first | exact E1.out | exact blk_old E1.out | exact blk_old (blk_old E1.out))))); have S2 := four_S E2.out)))
    all_goals
      go_wp2_with (fail)
      go_meet
      exact ⟨rowE_lit w2 w.heap.size O2.out.2.size _ _ (ens_one (e := ⟨LQ ++ K, []⟩) O2.out.1.zero rfl) (by simp) _ rfl _ rfl, bel_al O2.out.2 _, blk_old E2.out⟩
  case rest =>
    obtain ⟨hr7, hb7, he7⟩ := hcut
    unfold maxLen at hpm
    have hmpl := manyP_len ps
    clear E1 HZ0 HZ1 HB0 Q0 S0 S1 S2 hz0 c25 hlq
    go_wp2
    go_loopg [7, 22] ps.length (fun c v i wr => ∃ (j : Nat), c + j = ps.length ∧ i = .int .i64 j ∧ Hid (RowE wr w.heap.size v (⟨LQ ++ K, []⟩ :: (ps.take j).map (ixP el))) ∧ Hid (Below w.heap.size w wr) ∧ Hid (wr.heap[w.heap.size]? = some (.cells #[.int .i64 el.k, .int .i64 el.n, .string el.s, .slice p1 n1 q1] 29)))
    case atStart => exact ⟨0, rfl, rfl, hr7, hb7, he7⟩
    case round =>
      clear hr7 hb7 he7
      obtain ⟨j, hj, rfl, hrr, hBr, hEr⟩ := hrel
      by_cases hlt : j < ps.length
      · obtain ⟨g, o, rfl, -, hcell⟩ := HPX.out.resolve_left (by intro e; rw [e] at hlt; simp at hlt)
        obtain ⟨sk, hats, hin⟩ := hcell.at j hlt
        rw [show RP.n = 5 from rfl] at hats
        obtain ⟨k0, k1, k2, k3, k4⟩ := ats5 hats
        have hma := manyP_at hlt
        have htk : Hid ((ps.take (j + 1)).map (ixP el) = (ps.take j).map (ixP el) ++ [ixP el ps[j]]) := by show _ = _; rw [List.take_succ_eq_append_getElem hlt, List.map_append]; rfl
        generalize ps[j] = P at *
        obtain ⟨nm, v⟩ := P
        obtain ⟨hnm, hvin⟩ := hin
        simp only at k0 k1 k2 k3 k4 hma hvin
        have hB := hBr.out
        have y0 := some_on hB k0
        have y1 := some_on hB k1
        have y2 := some_on hB k2
        have y3 := some_on hB k3
        have y4 := some_on hB k4
        obtain ⟨p3, n3, q3, rfl⟩ := hvin.header
        have c27 := fun W sl h => prop1_27 el.k nm (by omega) v (by omega) [] W sl h
        have hpl := propK_len el.k nm [v]
        have hen : Hid (ixP el ⟨nm, v⟩ = ⟨propK el.k nm [v] ++ K, []⟩) := by show _ = _; rw [← hK.out]; rfl
        have htl : Hid ((⟨LQ ++ K, []⟩ :: (ps.take j).map (ixP el)).length ≤ 10000000) := by show _ ≤ _; simp; omega
        have htk2 : Hid ((⟨LQ ++ K, []⟩ :: (ps.take j).map (ixP el)) ++ [⟨propK el.k nm [v] ++ K, []⟩] = ⟨LQ ++ K, []⟩ :: (ps.take (j + 1)).map (ixP el)) := by show _ = _; rw [htk.out, hen.out]; rfl
        generalize (⟨LQ ++ K, []⟩ :: (ps.take j).map (ixP el) : List En) = R at *
        generalize propK el.k nm [v] = PQ at *
        have EAx := blk_old (o' := .cells #[.string nm, .int .i64 v.k, .int .i64 v.n, .string v.s, .slice p3 n3 q3] 65) hEr.out
        have EBx := blk_new wr (.cells #[.string nm, .int .i64 v.k, .int .i64 v.n, .string v.s, .slice p3 n3 q3] 65)
        have hBx := hB.trans ((bel1 wr (.cells #[.string nm, .int .i64 v.k, .int .i64 v.n, .string v.s, .slice p3 n3 q3] 65)).mono hB.size)
        have hRx : RowE (wr.alloc (.cells #[.string nm, .int .i64 v.k, .int .i64 v.n, .string v.s, .slice p3 n3 q3] 65)) w.heap.size u7 R := hrr.out.on (bel1 wr _)
        have hzx : (wr.alloc (.cells #[.string nm, .int .i64 v.k, .int .i64 v.n, .string v.s, .slice p3 n3 q3] 65)).heap.size = wr.heap.size + 1 := by simp
        clear k0 k1 k2 k3 k4 hats hcell htk hma HPX hEr hrr hen
        have HY := Lib.hid (And.intro hBx hRx)
        clear hBx hRx
        go_wp2
        generalize wr.alloc (.cells #[.string nm, .int .i64 v.k, .int .i64 v.n, .string v.s, .slice p3 n3 q3] 65) = WX at *
        have N0 := nine_S EAx EBx
        have N1 := N0
        have N2 := N0
        have N4 := N0
        have HZ0 := Lib.hid hzx
        have HZ1 : Hid (∀ o, (WX.alloc o).heap.size = wr.heap.size + 1 + 1) := fun o => by rw [World.size_alloc, HZ0.out]
        have QX : Below WX.heap.size WX WX.drew := (Below.refl _ WX).drew
        have EA := Lib.hid EAx
        have EB := Lib.hid EBx
        have c51x : ∀ (W : World) (b : Value) (t : List UInt8) (g : Nat), W.heap[g]? = some (.cells #[.int .i64 el.k, .int .i64 el.n, .string el.s, .slice p1 n1 q1] 29) → Below WX.heap.size WX W → Bts W WX.heap.size b t → t.length + 300 ≤ 140737488355328 → Calls Tryz.prog 51 #[b, .slice (some ⟨g, 0, none⟩) 1 1] W (AppR WX (t ++ K)) := by
          rw [← hK.out]; exact fun W b t g hg hB hb ht => putForms51 el _ WX W b t g (hel.on HY.out.1) (by omega) hg hB hb ht
        clear EAx EBx c51
        go_region_held3 (fun u => u.cell? ⟨w.heap.size, 0, none⟩ = some (.int .i64 el.k) ∧ u.cell? ⟨w.heap.size, 1, none⟩ = some (.int .i64 el.n) ∧ u.cell? ⟨w.heap.size, 2, none⟩ = some (.string el.s) ∧ u.cell? ⟨w.heap.size, 3, none⟩ = some (.slice p1 n1 q1) ∧ u.cell? ⟨wr.heap.size, 0, none⟩ = some (.string nm) ∧ u.cell? ⟨wr.heap.size, 1, none⟩ = some (.int .i64 v.k) ∧ u.cell? ⟨wr.heap.size, 2, none⟩ = some (.int .i64 v.n) ∧ u.cell? ⟨wr.heap.size, 3, none⟩ = some (.string v.s) ∧ u.cell? ⟨wr.heap.size, 4, none⟩ = some (.slice p3 n3 q3))
          (first | with_reducible exact nine_dr N0 | with_reducible exact nine_dr (nine_al _ N0) | with_reducible exact nine_dr (nine_al _ (nine_al _ N0)) | with_reducible exact N1 | with_reducible exact nine_al _ N1 | with_reducible exact nine_dr (nine_al _ N1) | with_reducible exact N2 | with_reducible exact nine_al _ N2 | with_reducible exact nine_dr (nine_al _ N2) | with_reducible exact N4)
          (first
            | (go_at_call 27; (refine (c27 _ _ (sl_at (hvin.on (by first | exact bel_drew (bel_al HY.out.1 _) | exact bel_drew (bel_al (bel_al HY.out.1 _) _))) (by first | exact blk_new' WX _ _ HZ0.out | exact blk_old (blk_new' WX _ _ HZ0.out) | exact blk_new' (WX.alloc _) _ _ (HZ1.out _)))).mono ?_; rintro e w1 ⟨b1, rfl, hb1, hB1⟩; have N1 := nine_bel hB1 (by first | exact nine_dr (nine_al _ N0) | exact nine_dr (nine_al _ (nine_al _ N0))); have Q1 : Below WX.heap.size WX w1 := bel_then (by first | exact bel_drew (bel1 WX _) | exact bel_drew (bel_al (bel1 WX _) _)) hB1; have O1 : Bts w1 WX.heap.size b1 PQ := hb1.mono (by first | (simp; done) | (simp; omega)); have HB1 := Lib.hid hB1))
            | (go_at_call 51; (refine (c51x _ _ _ _ (by first | exact blk_new' w1 _ _ rfl | exact blk_on HB1.out (by first | exact blk_new' WX _ _ HZ0.out | exact blk_old (blk_new' WX _ _ HZ0.out) | exact blk_new' (WX.alloc _) _ _ (HZ1.out _))) (by first | with_reducible exact Q1 | exact bel_al Q1 _ | exact bel_drew (bel_al Q1 _)) (by first | with_reducible exact O1 | exact World.ownsRow.alloc O1 _) (by omega)).mono ?_; rintro e w2 ⟨b2, rfl, hb2, hB2⟩; obtain ⟨p2, n2, c2, rfl⟩ := bts_hdr hb2; have N2 := nine_bel hB2 N0; have O2 := Lib.hid (And.intro hb2 hB2); have R2 := Lib.hid (HY.out.2.on hB2); clear hb2 hB2))
            | (refine step_app_en _ (by rfl) (.tmp 26) (.tmp 39) (by rfl) w.heap.size _ R (by rfl) (R2.out.on (bel1 w2 _)) ⟨w2.heap.size, 0, none⟩ 1 [(.slice p2 n2 c2, .slice none 0 0)] [⟨PQ ++ K, []⟩] (by rfl) (cells_new w2 _ _) (Ens.on (bel1 w2 _) (ens_one (e := ⟨PQ ++ K, []⟩) O2.out.1.zero rfl)) (by simp) (by have := htl.out; simp; omega) (by have := (bel_al (HY.out.1.trans (O2.out.2.mono HY.out.1.size)) (.cells #[.slice p2 n2 c2, .slice none 0 0] 39)).size; simp at this ⊢; omega) ?_; intro g4 cap4 w4 hr4 hg4; have F4 := Lib.hid (And.intro hr4 (And.intro (belowE_app (bel_al (HY.out.1.trans (O2.out.2.mono HY.out.1.size)) _) (R2.out.on (bel1 w2 _)) hg4) (blkE_gr (R2.out.on (bel1 w2 _)) (by decide) (blk_old (blk_on O2.out.2 EA.out)) hg4))); have N4 := nine_S (blkE_gr (R2.out.on (bel1 w2 _)) (by decide) (blk_old (blk_on O2.out.2 EA.out)) hg4) (blkE_gr (R2.out.on (bel1 w2 _)) (by decide) (blk_old (blk_on O2.out.2 EB.out)) hg4); clear hr4 hg4))
        all_goals go_wp2
        all_goals (go_roundg (gk - 1))
        all_goals first
          | exact ⟨j + 1, by omega, by go_num, by rw [← htk2.out]; exact F4.out.1, F4.out.2.1, F4.out.2.2⟩
          | omega
      · obtain rfl : j = ps.length := by omega
        rw [List.take_length] at hrr
        go_wp2
        go_ret
        exact ⟨_, rfl, by rw [hixs.out]; exact hrr.out, hBr.out⟩
end Go.Proofs.YtbgikgeknnmelaaGreat
