/-
  Rows of elements whose properties lie apart from one another's, and what a write into one of them leaves: no walk.
-/
import Derived.Test.YteknbploiombiaaZCgr
namespace Go.Proofs.Yteknbploiombiaa
open Go.RowKit
set_option linter.unusedVariables false

/-- A kind of elements with properties: their header lies in the last cell. -/
structure Ep (α : Type) where
  R : El α
  P : α → List Pr
  S : α → List Pr → α
  hd : α → List Value
  B : α → Prop
  cs_eq : ∀ x sl, R.cs x sl = hd x ++ [sl]
  hd_S : ∀ x ps, hd (S x ps) = hd x
  hd_len : ∀ x, (hd x).length + 1 = R.n
  in_iff : ∀ w lo x sl, R.In w lo x sl ↔ B x ∧ Sq RP w lo (P x) sl
  B_S : ∀ x ps, B x → B (S x ps)
  P_S : ∀ x ps, P (S x ps) = ps
def EV : Ep Vx where
  R := RV
  P := Vx.ps
  S x ps := { x with ps := ps }
  hd x := [.int .i64 x.id, .string x.lb]
  B x := I64 x.id ∧ S64 x.lb
  cs_eq _ _ := rfl
  hd_S _ _ := rfl
  hd_len _ := rfl
  in_iff _ _ _ _ := ⟨fun h => ⟨⟨h.1, h.2.1⟩, h.2.2⟩, fun h => ⟨h.1.1, h.1.2, h.2⟩⟩
  B_S _ _ h := h
  P_S _ _ := rfl
def ELk : Ep Lk where
  R := RL
  P := Lk.ps
  S x ps := { x with ps := ps }
  hd x := [.int .i64 x.id, .string x.lb, .int .i64 x.out, .int .i64 x.inn]
  B x := I64 x.id ∧ S64 x.lb ∧ I64 x.out ∧ I64 x.inn
  cs_eq _ _ := rfl
  hd_S _ _ := rfl
  hd_len _ := rfl
  in_iff _ _ _ _ := ⟨fun h => ⟨⟨h.1, h.2.1, h.2.2.1, h.2.2.2.1⟩, h.2.2.2.2⟩, fun h => ⟨h.1.1, h.1.2.1, h.1.2.2.1, h.1.2.2.2, h.2⟩⟩
  B_S _ _ h := h
  P_S _ _ := rfl
variable {α : Type}
theorem Ep.len (E : Ep α) (x : α) (sl : Value) : (E.R.cs x sl).length = E.R.n := by rw [E.cs_eq, List.length_append, ← E.hd_len x]; rfl
/-- Elements one behind the other, each one's properties behind those of the one ahead of it. -/
def SepL (E : Ep α) (w : World) (g : Nat) : List α → Nat → Nat → Nat → Prop
  | [], _, lo, hi => lo ≤ hi
  | x :: l, off, lo, hi => ∃ (sl : Value) (u : World) (a : Nat), lo ≤ a ∧ a ≤ u.heap.size ∧ KeepB a u w ∧ Ats w g off (E.R.cs x sl) ∧ E.B x ∧ OwR RP 84 u a (E.P x) sl ∧ SepL E w g l (off + E.R.n) u.heap.size hi
theorem SepL.le {E : Ep α} {w : World} {g : Nat} : ∀ {l : List α} {off lo hi : Nat}, SepL E w g l off lo hi → lo ≤ hi
  | [], _, _, _, h => h
  | x :: l, off, lo, hi, ⟨sl, u, a, h1, h2, _, _, _, _, h3⟩ => by have := h3.le; omega
theorem SepL.snoc {E : Ep α} {w : World} {g : Nat} {x : α} {sl : Value} {u : World} {a : Nat} (h2 : a ≤ u.heap.size) (hk : KeepB a u w) (hB : E.B x) (ho : OwR RP 84 u a (E.P x) sl) :
    ∀ {l : List α} {off lo hi : Nat}, SepL E w g l off lo hi → hi ≤ a → Ats w g (off + l.length * E.R.n) (E.R.cs x sl) → SepL E w g (l ++ [x]) off lo u.heap.size
  | [], off, lo, hi, h, ha, hat => ⟨sl, u, a, by have : lo ≤ hi := h; omega, h2, hk, by simpa using hat, hB, ho, Nat.le_refl _⟩
  | y :: l, off, lo, hi, ⟨sy, uy, ay, k1, k2, k3, k4, k5, k6, k7⟩, ha, hat => by
    refine ⟨sy, uy, ay, k1, k2, k3, k4, k5, k6, SepL.snoc h2 hk hB ho k7 ha ?_⟩
    rwa [List.length_cons, show off + (l.length + 1) * E.R.n = off + E.R.n + l.length * E.R.n by rw [Nat.succ_mul]; omega] at hat
theorem SepL.keep {E : Ep α} {w w' : World} {g : Nat} : ∀ {l : List α} {off lo hi : Nat}, SepL E w g l off lo hi → KeepB lo w w' → (∀ j c, j < l.length * E.R.n → w.cell? ⟨g, off + j, none⟩ = some c → w'.cell? ⟨g, off + j, none⟩ = some c) → SepL E w' g l off lo hi
  | [], _, _, _, h, _, _ => h
  | x :: l, off, lo, hi, ⟨sl, u, a, k1, k2, k3, k4, k5, k6, k7⟩, hk, hc => by
    refine ⟨sl, u, a, k1, k2, k3.trans (hk.mono k1), fun j c hj => hc j c ?_ (k4 j c hj), k5, k6, k7.keep (hk.mono (by omega)) fun j c hj hcc => ?_⟩
    · have := (List.getElem?_eq_some_iff.1 hj).1
      rw [E.len] at this
      rw [List.length_cons, Nat.succ_mul]; omega
    · have := hc (E.R.n + j) c (by rw [List.length_cons, Nat.succ_mul]; omega)
      rw [← Nat.add_assoc] at this
      exact this hcc
/-- Such a row is a row. -/
theorem SepL.lq {E : Ep α} {w w' : World} {g lo0 : Nat} : ∀ {l : List α} {off lo hi : Nat}, SepL E w g l off lo hi → lo0 ≤ lo → (∀ a v, lo ≤ a.block → w.cell? a = some v → w'.cell? a = some v) →
    (∀ j c, j < l.length * E.R.n → w.cell? ⟨g, off + j, none⟩ = some c → w'.cell? ⟨g, off + j, none⟩ = some c) → Lq E.R w' lo0 l g off
  | [], _, _, _, _, _, _, _ => trivial
  | x :: l, off, lo, hi, ⟨sl, u, a, k1, k2, k3, k4, k5, k6, k7⟩, h0, hk, hc => by
    refine ⟨sl, fun j c hj => hc j c ?_ (k4 j c hj), (E.in_iff _ _ _ _).2 ⟨k5, Sq.keep (lo := a) (fun b v hb hv => hk b v (by omega) (k3.keep b v hb hv)) (by omega) k6.sq⟩, k7.lq (by omega) (fun b v hb => hk b v (by omega)) fun j c hj hcc => ?_⟩
    · have := (List.getElem?_eq_some_iff.1 hj).1
      rw [E.len] at this
      rw [List.length_cons, Nat.succ_mul]; omega
    · have := hc (E.R.n + j) c (by rw [List.length_cons, Nat.succ_mul]; omega)
      rw [← Nat.add_assoc] at this
      exact this hcc
/-- The element at i, and what a write into its memory leaves of the row. -/
theorem SepL.upd {E : Ep α} {w : World} {g : Nat} : ∀ {l : List α} {off lo hi : Nat}, SepL E w g l off lo hi → ∀ (i : Nat) (hi' : i < l.length),
    ∃ (sl : Value) (u : World) (a : Nat), lo ≤ a ∧ a ≤ u.heap.size ∧ KeepB a u w ∧ Ats w g (off + i * E.R.n) (E.R.cs l[i] sl) ∧ E.B l[i] ∧ OwR RP 84 u a (E.P l[i]) sl ∧
      ∀ (w' : World) (lo0 : Nat) (x' : α) (sl' : Value), lo0 ≤ lo → (∀ b v, lo ≤ b.block → (b.block < a ∨ u.heap.size ≤ b.block) → w.cell? b = some v → w'.cell? b = some v) →
        (∀ j c, j < l.length * E.R.n → (j < i * E.R.n ∨ i * E.R.n + E.R.n ≤ j) → w.cell? ⟨g, off + j, none⟩ = some c → w'.cell? ⟨g, off + j, none⟩ = some c) →
        Ats w' g (off + i * E.R.n) (E.R.cs x' sl') → E.R.In w' lo0 x' sl' → Lq E.R w' lo0 (l.set i x') g off
  | [], _, _, _, _, i, hi' => absurd hi' (Nat.not_lt_zero _)
  | x :: l, off, lo, hi, ⟨sl, u, a, k1, k2, k3, k4, k5, k6, k7⟩, 0, _ => by
    refine ⟨sl, u, a, k1, k2, k3, by simpa using k4, k5, k6, fun w' lo0 x' sl' h0 hk hc hat hin => ?_⟩
    refine ⟨sl', by simpa using hat, hin, k7.lq (by omega) (fun b v hb => hk b v (by omega) (.inr hb)) fun j c hj hcc => ?_⟩
    have := hc (E.R.n + j) c (by rw [List.length_cons, Nat.succ_mul]; omega) (.inr (by rw [Nat.zero_mul]; omega))
    rw [← Nat.add_assoc] at this
    exact this hcc
  | x :: l, off, lo, hi, ⟨sl, u, a, k1, k2, k3, k4, k5, k6, k7⟩, i + 1, hi' => by
    obtain ⟨s2, u2, a2, j1, j2, j3, j4, j5, j6, j7⟩ := k7.upd i (by simpa using hi')
    have e : off + (i + 1) * E.R.n = off + E.R.n + i * E.R.n := by rw [Nat.succ_mul]; omega
    refine ⟨s2, u2, a2, by omega, j2, j3, by rw [e]; exact j4, j5, j6, fun w' lo0 x' sl' h0 hk hc hat hin => ?_⟩
    rw [List.set_cons_succ]
    refine ⟨sl, fun j c hj => ?_, (E.in_iff _ _ _ _).2 ⟨k5, Sq.keep (lo := a) ?_ (by omega) k6.sq⟩, j7 w' lo0 x' sl' (by omega) (fun b v hb => hk b v (by omega)) ?_ (by rw [e] at hat; exact hat) hin⟩
    · have hl := (List.getElem?_eq_some_iff.1 hj).1
      rw [E.len] at hl
      refine hc j c ?_ (.inl ?_) (k4 j c hj)
      · rw [List.length_cons, Nat.succ_mul]; omega
      · rw [Nat.succ_mul]; omega
    · intro b v hb hv
      have hlt := cell_lt hv
      exact hk b v (by omega) (.inl (by omega)) (k3.keep b v hb hv)
    · intro j c hj hji hcc
      have := hc (E.R.n + j) c (by rw [List.length_cons, Nat.succ_mul]; omega) (by rw [Nat.succ_mul]; omega)
      rw [← Nat.add_assoc] at this
      exact this hcc
/-- A row of one's own, the elements' properties apart. -/
def SpR (E : Ep α) (t : TypeId) (w : World) (lo : Nat) (l : List α) (sl : Value) : Prop := (l = [] ∧ sl = .slice none 0 0) ∨
  ∃ g hi, lo ≤ g ∧ sl = .slice (some ⟨g, 0, none⟩) l.length l.length ∧ 0 < l.length ∧ l.length * E.R.bytes ≤ 140737488351232 ∧ l.length ≤ maxLen ∧ Rowt w g t (l.length * E.R.n) ∧ SepL E w g l 0 (g + 1) hi
theorem SpR.ow {E : Ep α} {t : TypeId} {w : World} {lo : Nat} {l : List α} {sl : Value} (h : SpR E t w lo l sl) : OwR E.R t w lo l sl := by
  rcases h with h | ⟨g, hi, h1, h2, h3, h4, h5, h6, h7⟩
  · exact .inl h
  · exact .inr ⟨g, h1, h2, h3, h4, h5, h6, h7.lq (Nat.le_refl _) (fun _ _ _ h => h) (fun _ _ _ h => h)⟩
theorem SpR.keep {E : Ep α} {t : TypeId} {w w' : World} {lo lo' : Nat} {l : List α} {sl : Value} (h : SpR E t w lo l sl) (hk : KeepB lo w w') (hl : lo' ≤ lo) : SpR E t w' lo' l sl := by
  rcases h with h | ⟨g, hi, h1, h2, h3, h4, h5, h6, h7⟩
  · exact .inl h
  · exact .inr ⟨g, hi, by omega, h2, h3, h4, h5, h6.keepB hk h1, h7.keep (hk.mono (by omega)) fun j c _ hc => hk.keep _ _ h1 hc⟩
/-- A graph of one's own, all properties apart. -/
def SpGr (g : Gg) (w : World) (lo : Nat) (sv se : Value) : Prop := I64 g.last ∧ ∃ (lo0 : Nat) (u : World), lo ≤ lo0 ∧ lo0 ≤ u.heap.size ∧ SpR EV 40 u lo0 g.vs sv ∧ KeepB lo0 u w ∧ SpR ELk 46 w u.heap.size g.es se
theorem SpGr.ow {g : Gg} {w : World} {lo : Nat} {sv se : Value} (h : SpGr g w lo sv se) : OwGr g w lo sv se := by
  obtain ⟨h0, lo0, u, h1, h2, h3, h4, h5⟩ := h
  exact ⟨h0, lo0, u, h1, h2, h3.ow, h4, h5.ow⟩
theorem SpGr.keep {g : Gg} {w w' : World} {lo lo' : Nat} {sv se : Value} (h : SpGr g w lo sv se) (hk : KeepB lo w w') (hl : lo' ≤ lo) : SpGr g w' lo' sv se := by
  obtain ⟨h0, lo0, u, h1, h2, h3, h4, h5⟩ := h
  exact ⟨h0, lo0, u, by omega, h2, h3, h4.trans (hk.mono h1), h5.keep (hk.mono (by omega)) (Nat.le_refl _)⟩
theorem SpGr.on {g : Gg} {w w' : World} {lo : Nat} {sv se : Value} (h : SpGr g w lo sv se) (hb : Below w.heap.size w w') : SpGr g w' lo sv se := h.keep (keepB_below hb) (Nat.le_refl _)
theorem SpR.hdr {E : Ep α} {t : TypeId} {w : World} {lo : Nat} {l : List α} {sl : Value} (h : SpR E t w lo l sl) : ∃ p, sl = .slice p l.length l.length := h.ow.hdr
end Go.Proofs.Yteknbploiombiaa
