/-
  A row of values that grows: values in memory apart from the row's own block.
-/
import Derived.Test.YtekfbijkalamkaaMem
namespace Go.Proofs.Ytekfbijkalamkaa
open Go.RowKit

mutual
/-- A value all of whose blocks are such. -/
def V.InP (w : World) (P : Nat → Prop) : V → Value → Prop
  | .mk k n s l, sl => I64 k ∧ I64 n ∧ s.size ≤ 140737488351232 ∧ ∃ p cap, sl = .slice p l.length cap ∧ l.length ≤ cap ∧ cap ≤ maxLen ∧ l.length * 56 ≤ 140737488351232 ∧
      (l = [] ∨ ∃ b o, p = some ⟨b, o, none⟩ ∧ P b ∧ LsP w P l b o)
def LsP (w : World) (P : Nat → Prop) : List V → Nat → Nat → Prop
  | [], _, _ => True
  | v :: l, b, o => ∃ sl, w.cell? ⟨b, o, none⟩ = some (.int .i64 v.k) ∧ w.cell? ⟨b, o + 1, none⟩ = some (.int .i64 v.n) ∧
      w.cell? ⟨b, o + 2, none⟩ = some (.string v.s) ∧ w.cell? ⟨b, o + 3, none⟩ = some sl ∧ V.InP w P v sl ∧ LsP w P l b (o + 4)
end
mutual
theorem V.InP.keep {w w' : World} {P Q : Nat → Prop} (hk : ∀ (a : Addr) v, P a.block → w.cell? a = some v → w'.cell? a = some v) (hq : ∀ b, P b → b < w.heap.size → Q b) : ∀ (v : V) (sl : Value), v.InP w P sl → v.InP w' Q sl
  | .mk k n s l, sl, h => by
    simp only [V.InP] at h ⊢
    obtain ⟨h1, h2, h3, p, cap, e, hc, hm, h56, hx⟩ := h
    refine ⟨h1, h2, h3, p, cap, e, hc, hm, h56, ?_⟩
    rcases hx with hx | ⟨b, o, hp, hb, hx⟩
    · exact Or.inl hx
    · by_cases h0 : l = []
      · exact Or.inl h0
      · refine Or.inr ⟨b, o, hp, hq b hb ?_, LsP.keep hk hq l b o hb hx⟩
        cases l with
        | nil => exact absurd rfl h0
        | cons v l =>
          simp only [LsP] at hx
          obtain ⟨sl, c0, -⟩ := hx
          exact cell_lt c0
theorem LsP.keep {w w' : World} {P Q : Nat → Prop} (hk : ∀ (a : Addr) v, P a.block → w.cell? a = some v → w'.cell? a = some v) (hq : ∀ b, P b → b < w.heap.size → Q b) : ∀ (l : List V) (b o : Nat), P b → LsP w P l b o → LsP w' Q l b o
  | [], _, _, _, _ => by simp only [LsP]
  | v :: l, b, o, hb, h => by
    simp only [LsP] at h ⊢
    obtain ⟨sl, c0, c1, c2, c3, hv, hr⟩ := h
    exact ⟨sl, hk _ _ hb c0, hk _ _ hb c1, hk _ _ hb c2, hk _ _ hb c3, V.InP.keep hk hq v sl hv, LsP.keep hk hq l b (o + 4) hb hr⟩
end
mutual
theorem V.In.toP {w : World} {lo : Nat} : ∀ (v : V) (sl : Value), v.In w lo sl → v.InP w (lo ≤ ·) sl
  | .mk k n s l, sl, h => by
    simp only [V.In, V.InP] at h ⊢
    obtain ⟨h1, h2, h3, p, cap, e, hc, hm, h56, hx⟩ := h
    refine ⟨h1, h2, h3, p, cap, e, hc, hm, h56, ?_⟩
    rcases hx with hx | ⟨b, o, hp, hb, hx⟩
    · exact Or.inl hx
    · exact Or.inr ⟨b, o, hp, hb, Ls.toP l b o hx⟩
theorem Ls.toP {w : World} {lo : Nat} : ∀ (l : List V) (b o : Nat), Ls w lo l b o → LsP w (lo ≤ ·) l b o
  | [], _, _, _ => by simp only [LsP]
  | v :: l, b, o, h => by
    simp only [Ls, LsP] at h ⊢
    obtain ⟨sl, c0, c1, c2, c3, hv, hr⟩ := h
    exact ⟨sl, c0, c1, c2, c3, V.In.toP v sl hv, Ls.toP l b (o + 4) hr⟩
end
mutual
theorem V.InP.toIn {w : World} {P : Nat → Prop} {lo : Nat} (hp : ∀ b, P b → lo ≤ b) : ∀ (v : V) (sl : Value), v.InP w P sl → v.In w lo sl
  | .mk k n s l, sl, h => by
    simp only [V.In, V.InP] at h ⊢
    obtain ⟨h1, h2, h3, p, cap, e, hc, hm, h56, hx⟩ := h
    refine ⟨h1, h2, h3, p, cap, e, hc, hm, h56, ?_⟩
    rcases hx with hx | ⟨b, o, hb0, hb, hx⟩
    · exact Or.inl hx
    · exact Or.inr ⟨b, o, hb0, hp b hb, LsP.toLs hp l b o hx⟩
theorem LsP.toLs {w : World} {P : Nat → Prop} {lo : Nat} (hp : ∀ b, P b → lo ≤ b) : ∀ (l : List V) (b o : Nat), LsP w P l b o → Ls w lo l b o
  | [], _, _, _ => by simp only [Ls]
  | v :: l, b, o, h => by
    simp only [Ls, LsP] at h ⊢
    obtain ⟨sl, c0, c1, c2, c3, hv, hr⟩ := h
    exact ⟨sl, c0, c1, c2, c3, V.InP.toIn hp v sl hv, LsP.toLs hp l b (o + 4) hr⟩
end

/-- The cells of values. -/
def EncP (w : World) (P : Nat → Prop) : List V → List Value → Prop
  | [], [] => True
  | v :: l, a :: b :: c :: d :: xs => a = .int .i64 v.k ∧ b = .int .i64 v.n ∧ c = .string v.s ∧ v.InP w P d ∧ EncP w P l xs
  | _, _ => False
theorem EncP.app {w : World} {P : Nat → Prop} : ∀ {l m : List V} {xs ys : List Value}, EncP w P l xs → EncP w P m ys → EncP w P (l ++ m) (xs ++ ys)
  | [], _, [], _, _, h => h
  | [], _, _ :: _, _, h, _ => by simp [EncP] at h
  | v :: l, m, xs, ys, h, h' => by
    match xs, h with
    | a :: b :: c :: d :: xs, h =>
      simp only [EncP, List.cons_append] at h ⊢
      exact ⟨h.1, h.2.1, h.2.2.1, h.2.2.2.1, EncP.app h.2.2.2.2 h'⟩
theorem EncP.keep {w w' : World} {P Q : Nat → Prop} (hk : ∀ (a : Addr) v, P a.block → w.cell? a = some v → w'.cell? a = some v) (hq : ∀ b, P b → b < w.heap.size → Q b) : ∀ {l : List V} {xs : List Value}, EncP w P l xs → EncP w' Q l xs
  | [], [], _ => trivial
  | [], _ :: _, h => by simp [EncP] at h
  | v :: l, xs, h => by
    match xs, h with
    | a :: b :: c :: d :: xs, h =>
      simp only [EncP] at h ⊢
      exact ⟨h.1, h.2.1, h.2.2.1, V.InP.keep hk hq v d h.2.2.2.1, EncP.keep hk hq h.2.2.2.2⟩
theorem EncP.ls {w : World} {P : Nat → Prop} {lo g : Nat} (hp : ∀ b, P b → lo ≤ b) : ∀ {l : List V} {xs : List Value} (o : Nat), EncP w P l xs → (∀ i x, xs[i]? = some x → w.cell? ⟨g, o + i, none⟩ = some x) → Ls w lo l g o
  | [], _, _, _, _ => by simp only [Ls]
  | v :: l, xs, o, h, hc => by
    match xs, h with
    | a :: b :: c :: d :: xs, h =>
      simp only [EncP] at h
      obtain ⟨rfl, rfl, rfl, hv, hr⟩ := h
      simp only [Ls]
      refine ⟨d, hc 0 _ rfl, hc 1 _ rfl, hc 2 _ rfl, hc 3 _ rfl, V.InP.toIn hp v d hv, EncP.ls hp (o + 4) hr fun i x hx => ?_⟩
      have := hc (4 + i) x (by rw [show 4 + i = i + 4 by omega]; simpa using hx)
      rwa [← Nat.add_assoc] at this

/-- Blocks from base on, but the row's own. -/
def Off (base : Nat) (v : Value) (b : Nat) : Prop := base ≤ b ∧ some b ≠ v.ownBlock
/-- A row of values of one's own. -/
def RowV (w : World) (base : Nat) (v : Value) (l : List V) : Prop := ∃ xs, w.ownsRow base 31 4 v l.length xs ∧ EncP w (Off base v) l xs
theorem rowV_nil (w : World) (base : Nat) : RowV w base (.slice none 0 0) [] := ⟨[], World.ownsRow_nil _ _ _ _, trivial⟩
theorem RowV.kept {w w' : World} {base : Nat} {v : Value} {l : List V} (h : RowV w base v l) {r : Nat} (hg : w.grownBy w' (some r)) (hr : r < base) : RowV w' base v l := by
  obtain ⟨xs, h1, h2⟩ := h
  exact ⟨xs, own_kept h1 hg hr, h2.keep (fun a u ha hc => hg.cell hc (by intro e; injection e with e; have := ha.1; omega)) (fun b hb _ => hb)⟩
theorem RowV.on {w w' : World} {base : Nat} {v : Value} {l : List V} (h : RowV w base v l) (hb : Below w.heap.size w w') : RowV w' base v l := by
  obtain ⟨xs, h1, h2⟩ := h
  refine ⟨xs, World.ownsRow.kept h1 (gr_bel hb none) ?_, h2.keep (fun a u _ hc => some_on hb hc) (fun b hb _ => hb)⟩
  cases hv : v.ownBlock with
  | none => exact .inl rfl
  | some g => exact .inr (by simp)
/-- Values are put behind. -/
theorem RowV.push {w w' : World} {base : Nat} {v : Value} {l m : List V} {xs news : List Value} {n g cap : Nat} (h2 : EncP w (Off base v) l xs) (hm : EncP w (Off base v) m news)
    (hown : w'.ownsRow base 31 4 (.slice (some ⟨g, 0, none⟩) n cap) n (xs ++ news)) (hn : n = (l ++ m).length) (hgrow : w.grownBy w' v.ownBlock) (hat : v.ownBlock = some g ∨ g = w.heap.size) : RowV w' base (.slice (some ⟨g, 0, none⟩) n cap) (l ++ m) := by
  refine ⟨xs ++ news, by rw [← hn]; exact hown, (h2.app hm).keep (fun a u ha hc => hgrow.cell hc ha.2) (fun b hb hlt => ⟨hb.1, ?_⟩)⟩
  rcases hat with e | e
  · have := hb.2
    rw [e] at this
    exact this
  · intro he
    have : b = g := by simpa [Value.ownBlock] using he
    omega
/-- One value, its cells. -/
theorem enc_one {w : World} {P : Nat → Prop} {v : V} {sl : Value} (h : v.InP w P sl) : EncP w P [v] [.int .i64 v.k, .int .i64 v.n, .string v.s, sl] := ⟨rfl, rfl, rfl, h, trivial⟩
/-- A value made behind the row is apart from it. -/
theorem in_off {w w' : World} {base n : Nat} {u : Value} {xs : List Value} {v : V} {sl : Value} {lo : Nat} (hown : w.ownsRow base 31 4 u n xs) (hlo : w.heap.size ≤ lo) (hb : base ≤ w.heap.size) (h : v.In w' lo sl) : v.InP w' (Off base u) sl :=
  V.InP.keep (fun _ _ _ hc => hc) (fun b hb' _ => ⟨by omega, fun e => by have := (World.ownsRow.lt hown b e.symm).2; omega⟩) v sl (V.In.toP v sl h)
theorem RowV.len {w : World} {base : Nat} {v : Value} {l : List V} (h : RowV w base v l) : ∃ p cap, v = .slice p l.length cap ∧ l.length ≤ cap ∧ cap ≤ maxLen := by
  obtain ⟨xs, h1, -⟩ := h
  rcases h1.2 with ⟨rfl, h0⟩ | ⟨g, cap, cur, rfl, hbg, hg, hnc, hcm, hcs, htake⟩
  · exact ⟨none, 0, by rw [h0], by omega, by unfold maxLen; omega⟩
  · exact ⟨_, _, rfl, hnc, hcm⟩
/-- The row as a value's own. -/
theorem RowV.val {w : World} {base : Nat} {v : Value} {l : List V} (h : RowV w base v l) (k : Int) (hk : I64 k) (hl : l.length * 56 ≤ 140737488351232) : (V.mk k 0 ⟨#[]⟩ l).In w base v := by
  obtain ⟨xs, h1, h2⟩ := h
  rw [V.in_iff]
  refine ⟨hk, by unfold I64; simp [V.n], by show (0 : Nat) ≤ 140737488351232; omega, ?_⟩
  rcases h1.2 with ⟨rfl, h0⟩ | ⟨g, cap, cur, rfl, hbg, hg, hnc, hcm, hcs, htake⟩
  · have : l = [] := List.eq_nil_of_length_eq_zero h0
    subst this
    exact ⟨none, 0, rfl, Nat.le_refl _, by unfold maxLen; omega, by simp [V.l], .inl rfl⟩
  · refine ⟨_, cap, rfl, hnc, hcm, hl, .inr ⟨g, 0, rfl, hbg, ?_⟩⟩
    refine h2.ls (fun b hb => hb.1) 0 fun i x hx => ?_
    have := h1.cells (g := g) rfl i x hx
    have hadd : (⟨g, 0, none⟩ : Addr).add i = ⟨g, i, none⟩ := by unfold Addr.add; split <;> simp_all
    rw [Nat.zero_add, ← hadd]; exact this
end Go.Proofs.Ytekfbijkalamkaa
