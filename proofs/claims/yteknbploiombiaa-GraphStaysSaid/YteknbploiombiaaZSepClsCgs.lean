/-
  Rows of elements whose properties lie apart from one another's, and what a write into one of them leaves: no walk.
  What package graph's clones of vertices, edges and of rows of these do: the properties lie apart from one another's.
  What Clone and own of package graph do: the properties lie apart from one another's.
-/
import Derived.Test.YteknbploiombiaaZCgr
import Derived.Deep.RegionHeld3
namespace Go.Proofs.Yteknbploiombiaa
open Go.RowKit
set_option linter.unusedVariables false

/-- A kind of elements with properties: their header lies in the last cell. -/
structure Ep (α : Type) where
  R : El α
  P : α → List Pr
  S : α → List Pr → α
  hd : α → List Value
  B : α → Prop
  cs_eq : ∀ x sl, R.cs x sl = hd x ++ [sl]
  hd_S : ∀ x ps, hd (S x ps) = hd x
  hd_len : ∀ x, (hd x).length + 1 = R.n
  in_iff : ∀ w lo x sl, R.In w lo x sl ↔ B x ∧ Sq RP w lo (P x) sl
  B_S : ∀ x ps, B x → B (S x ps)
  P_S : ∀ x ps, P (S x ps) = ps
def EV : Ep Vx where
  R := RV
  P := Vx.ps
  S x ps := { x with ps := ps }
  hd x := [.int .i64 x.id, .string x.lb]
  B x := I64 x.id ∧ S64 x.lb
  cs_eq _ _ := rfl
  hd_S _ _ := rfl
  hd_len _ := rfl
  in_iff _ _ _ _ := ⟨fun h => ⟨⟨h.1, h.2.1⟩, h.2.2⟩, fun h => ⟨h.1.1, h.1.2, h.2⟩⟩
  B_S _ _ h := h
  P_S _ _ := rfl
def ELk : Ep Lk where
  R := RL
  P := Lk.ps
  S x ps := { x with ps := ps }
  hd x := [.int .i64 x.id, .string x.lb, .int .i64 x.out, .int .i64 x.inn]
  B x := I64 x.id ∧ S64 x.lb ∧ I64 x.out ∧ I64 x.inn
  cs_eq _ _ := rfl
  hd_S _ _ := rfl
  hd_len _ := rfl
  in_iff _ _ _ _ := ⟨fun h => ⟨⟨h.1, h.2.1, h.2.2.1, h.2.2.2.1⟩, h.2.2.2.2⟩, fun h => ⟨h.1.1, h.1.2.1, h.1.2.2.1, h.1.2.2.2, h.2⟩⟩
  B_S _ _ h := h
  P_S _ _ := rfl
variable {α : Type}
theorem Ep.len (E : Ep α) (x : α) (sl : Value) : (E.R.cs x sl).length = E.R.n := by rw [E.cs_eq, List.length_append, ← E.hd_len x]; rfl
/-- Elements one behind the other, each one's properties behind those of the one ahead of it. -/
def SepL (E : Ep α) (w : World) (g : Nat) : List α → Nat → Nat → Nat → Prop
  | [], _, lo, hi => lo ≤ hi
  | x :: l, off, lo, hi => ∃ (sl : Value) (u : World) (a : Nat), lo ≤ a ∧ a ≤ u.heap.size ∧ KeepB a u w ∧ Ats w g off (E.R.cs x sl) ∧ E.B x ∧ OwR RP 84 u a (E.P x) sl ∧ SepL E w g l (off + E.R.n) u.heap.size hi
theorem SepL.le {E : Ep α} {w : World} {g : Nat} : ∀ {l : List α} {off lo hi : Nat}, SepL E w g l off lo hi → lo ≤ hi
  | [], _, _, _, h => h
  | x :: l, off, lo, hi, ⟨sl, u, a, h1, h2, _, _, _, _, h3⟩ => by have := h3.le; omega
theorem SepL.snoc {E : Ep α} {w : World} {g : Nat} {x : α} {sl : Value} {u : World} {a : Nat} (h2 : a ≤ u.heap.size) (hk : KeepB a u w) (hB : E.B x) (ho : OwR RP 84 u a (E.P x) sl) :
    ∀ {l : List α} {off lo hi : Nat}, SepL E w g l off lo hi → hi ≤ a → Ats w g (off + l.length * E.R.n) (E.R.cs x sl) → SepL E w g (l ++ [x]) off lo u.heap.size
  | [], off, lo, hi, h, ha, hat => ⟨sl, u, a, by have : lo ≤ hi := h; omega, h2, hk, by simpa using hat, hB, ho, Nat.le_refl _⟩
  | y :: l, off, lo, hi, ⟨sy, uy, ay, k1, k2, k3, k4, k5, k6, k7⟩, ha, hat => by
    refine ⟨sy, uy, ay, k1, k2, k3, k4, k5, k6, SepL.snoc h2 hk hB ho k7 ha ?_⟩
    rwa [List.length_cons, show off + (l.length + 1) * E.R.n = off + E.R.n + l.length * E.R.n by rw [Nat.succ_mul]; omega] at hat
theorem SepL.keep {E : Ep α} {w w' : World} {g : Nat} : ∀ {l : List α} {off lo hi : Nat}, SepL E w g l off lo hi → KeepB lo w w' → (∀ j c, j < l.length * E.R.n → w.cell? ⟨g, off + j, none⟩ = some c → w'.cell? ⟨g, off + j, none⟩ = some c) → SepL E w' g l off lo hi
  | [], _, _, _, h, _, _ => h
  | x :: l, off, lo, hi, ⟨sl, u, a, k1, k2, k3, k4, k5, k6, k7⟩, hk, hc => by
    refine ⟨sl, u, a, k1, k2, k3.trans (hk.mono k1), fun j c hj => hc j c ?_ (k4 j c hj), k5, k6, k7.keep (hk.mono (by omega)) fun j c hj hcc => ?_⟩
    · have := (List.getElem?_eq_some_iff.1 hj).1
      rw [E.len] at this
      rw [List.length_cons, Nat.succ_mul]; omega
    · have := hc (E.R.n + j) c (by rw [List.length_cons, Nat.succ_mul]; omega)
      rw [← Nat.add_assoc] at this
      exact this hcc
/-- Such a row is a row. -/
theorem SepL.lq {E : Ep α} {w w' : World} {g lo0 : Nat} : ∀ {l : List α} {off lo hi : Nat}, SepL E w g l off lo hi → lo0 ≤ lo → (∀ a v, lo ≤ a.block → w.cell? a = some v → w'.cell? a = some v) →
    (∀ j c, j < l.length * E.R.n → w.cell? ⟨g, off + j, none⟩ = some c → w'.cell? ⟨g, off + j, none⟩ = some c) → Lq E.R w' lo0 l g off
  | [], _, _, _, _, _, _, _ => trivial
  | x :: l, off, lo, hi, ⟨sl, u, a, k1, k2, k3, k4, k5, k6, k7⟩, h0, hk, hc => by
    refine ⟨sl, fun j c hj => hc j c ?_ (k4 j c hj), (E.in_iff _ _ _ _).2 ⟨k5, Sq.keep (lo := a) (fun b v hb hv => hk b v (by omega) (k3.keep b v hb hv)) (by omega) k6.sq⟩, k7.lq (by omega) (fun b v hb => hk b v (by omega)) fun j c hj hcc => ?_⟩
    · have := (List.getElem?_eq_some_iff.1 hj).1
      rw [E.len] at this
      rw [List.length_cons, Nat.succ_mul]; omega
    · have := hc (E.R.n + j) c (by rw [List.length_cons, Nat.succ_mul]; omega)
      rw [← Nat.add_assoc] at this
      exact this hcc
/-- The element at i, and what a write into its memory leaves of the row. -/
theorem SepL.upd {E : Ep α} {w : World} {g : Nat} : ∀ {l : List α} {off lo hi : Nat}, SepL E w g l off lo hi → ∀ (i : Nat) (hi' : i < l.length),
    ∃ (sl : Value) (u : World) (a : Nat), lo ≤ a ∧ a ≤ u.heap.size ∧ KeepB a u w ∧ Ats w g (off + i * E.R.n) (E.R.cs l[i] sl) ∧ E.B l[i] ∧ OwR RP 84 u a (E.P l[i]) sl ∧
      ∀ (w' : World) (lo0 : Nat) (x' : α) (sl' : Value), lo0 ≤ lo → (∀ b v, lo ≤ b.block → (b.block < a ∨ u.heap.size ≤ b.block) → w.cell? b = some v → w'.cell? b = some v) →
        (∀ j c, j < l.length * E.R.n → (j < i * E.R.n ∨ i * E.R.n + E.R.n ≤ j) → w.cell? ⟨g, off + j, none⟩ = some c → w'.cell? ⟨g, off + j, none⟩ = some c) →
        Ats w' g (off + i * E.R.n) (E.R.cs x' sl') → E.R.In w' lo0 x' sl' → Lq E.R w' lo0 (l.set i x') g off
  | [], _, _, _, _, i, hi' => absurd hi' (Nat.not_lt_zero _)
  | x :: l, off, lo, hi, ⟨sl, u, a, k1, k2, k3, k4, k5, k6, k7⟩, 0, _ => by
    refine ⟨sl, u, a, k1, k2, k3, by simpa using k4, k5, k6, fun w' lo0 x' sl' h0 hk hc hat hin => ?_⟩
    refine ⟨sl', by simpa using hat, hin, k7.lq (by omega) (fun b v hb => hk b v (by omega) (.inr hb)) fun j c hj hcc => ?_⟩
    have := hc (E.R.n + j) c (by rw [List.length_cons, Nat.succ_mul]; omega) (.inr (by rw [Nat.zero_mul]; omega))
    rw [← Nat.add_assoc] at this
    exact this hcc
  | x :: l, off, lo, hi, ⟨sl, u, a, k1, k2, k3, k4, k5, k6, k7⟩, i + 1, hi' => by
    obtain ⟨s2, u2, a2, j1, j2, j3, j4, j5, j6, j7⟩ := k7.upd i (by simpa using hi')
    have e : off + (i + 1) * E.R.n = off + E.R.n + i * E.R.n := by rw [Nat.succ_mul]; omega
    refine ⟨s2, u2, a2, by omega, j2, j3, by rw [e]; exact j4, j5, j6, fun w' lo0 x' sl' h0 hk hc hat hin => ?_⟩
    rw [List.set_cons_succ]
    refine ⟨sl, fun j c hj => ?_, (E.in_iff _ _ _ _).2 ⟨k5, Sq.keep (lo := a) ?_ (by omega) k6.sq⟩, j7 w' lo0 x' sl' (by omega) (fun b v hb => hk b v (by omega)) ?_ (by rw [e] at hat; exact hat) hin⟩
    · have hl := (List.getElem?_eq_some_iff.1 hj).1
      rw [E.len] at hl
      refine hc j c ?_ (.inl ?_) (k4 j c hj)
      · rw [List.length_cons, Nat.succ_mul]; omega
      · rw [Nat.succ_mul]; omega
    · intro b v hb hv
      have hlt := cell_lt hv
      exact hk b v (by omega) (.inl (by omega)) (k3.keep b v hb hv)
    · intro j c hj hji hcc
      have := hc (E.R.n + j) c (by rw [List.length_cons, Nat.succ_mul]; omega) (by rw [Nat.succ_mul]; omega)
      rw [← Nat.add_assoc] at this
      exact this hcc
/-- A row of one's own, the elements' properties apart. -/
def SpR (E : Ep α) (t : TypeId) (w : World) (lo : Nat) (l : List α) (sl : Value) : Prop := (l = [] ∧ sl = .slice none 0 0) ∨
  ∃ g hi, lo ≤ g ∧ sl = .slice (some ⟨g, 0, none⟩) l.length l.length ∧ 0 < l.length ∧ l.length * E.R.bytes ≤ 140737488351232 ∧ l.length ≤ maxLen ∧ Rowt w g t (l.length * E.R.n) ∧ SepL E w g l 0 (g + 1) hi
theorem SpR.ow {E : Ep α} {t : TypeId} {w : World} {lo : Nat} {l : List α} {sl : Value} (h : SpR E t w lo l sl) : OwR E.R t w lo l sl := by
  rcases h with h | ⟨g, hi, h1, h2, h3, h4, h5, h6, h7⟩
  · exact .inl h
  · exact .inr ⟨g, h1, h2, h3, h4, h5, h6, h7.lq (Nat.le_refl _) (fun _ _ _ h => h) (fun _ _ _ h => h)⟩
theorem SpR.keep {E : Ep α} {t : TypeId} {w w' : World} {lo lo' : Nat} {l : List α} {sl : Value} (h : SpR E t w lo l sl) (hk : KeepB lo w w') (hl : lo' ≤ lo) : SpR E t w' lo' l sl := by
  rcases h with h | ⟨g, hi, h1, h2, h3, h4, h5, h6, h7⟩
  · exact .inl h
  · exact .inr ⟨g, hi, by omega, h2, h3, h4, h5, h6.keepB hk h1, h7.keep (hk.mono (by omega)) fun j c _ hc => hk.keep _ _ h1 hc⟩
/-- A graph of one's own, all properties apart. -/
def SpGr (g : Gg) (w : World) (lo : Nat) (sv se : Value) : Prop := I64 g.last ∧ ∃ (lo0 : Nat) (u : World), lo ≤ lo0 ∧ lo0 ≤ u.heap.size ∧ SpR EV 40 u lo0 g.vs sv ∧ KeepB lo0 u w ∧ SpR ELk 46 w u.heap.size g.es se
theorem SpGr.ow {g : Gg} {w : World} {lo : Nat} {sv se : Value} (h : SpGr g w lo sv se) : OwGr g w lo sv se := by
  obtain ⟨h0, lo0, u, h1, h2, h3, h4, h5⟩ := h
  exact ⟨h0, lo0, u, h1, h2, h3.ow, h4, h5.ow⟩
theorem SpGr.keep {g : Gg} {w w' : World} {lo lo' : Nat} {sv se : Value} (h : SpGr g w lo sv se) (hk : KeepB lo w w') (hl : lo' ≤ lo) : SpGr g w' lo' sv se := by
  obtain ⟨h0, lo0, u, h1, h2, h3, h4, h5⟩ := h
  exact ⟨h0, lo0, u, by omega, h2, h3, h4.trans (hk.mono h1), h5.keep (hk.mono (by omega)) (Nat.le_refl _)⟩
theorem SpGr.on {g : Gg} {w w' : World} {lo : Nat} {sv se : Value} (h : SpGr g w lo sv se) (hb : Below w.heap.size w w') : SpGr g w' lo sv se := h.keep (keepB_below hb) (Nat.le_refl _)
theorem SpR.hdr {E : Ep α} {t : TypeId} {w : World} {lo : Nat} {l : List α} {sl : Value} (h : SpR E t w lo l sl) : ∃ p, sl = .slice p l.length l.length := h.ow.hdr
end Go.Proofs.Yteknbploiombiaa
namespace Go.Proofs.Yteknbploiombiaa
open Go.RowKit
set_option linter.unusedVariables false      -- a walk need not use every condition

theorem putL_size {g : Nat} : ∀ {l : List Value} {w : World} {i : Nat}, (putL w g i l).heap.size = w.heap.size
  | [], _, _ => rfl
  | u :: l, w, i => by rw [putL, putL_size (l := l)]; simp [World.setCell]
/-- What a clone of an element hands back, its properties in a row of their own. -/
def ClO {α : Type} (E : Ep α) (ag : α → Value → Value) (x : α) (w : World) (e : Ending) (w' : World) : Prop := ∃ sl, e = .returned (ag x sl) ∧ E.B x ∧ OwR RP 84 w' w.heap.size (E.P x) sl ∧ Below w.heap.size w w' ∧ NF w.heap.size w'
/-- What a clone of a row hands back. -/
def ClP {α : Type} (E : Ep α) (t : TypeId) (l : List α) (w : World) (e : Ending) (w' : World) : Prop := ∃ sl, e = .returned sl ∧ SpR E t w' w.heap.size l sl ∧ Below w.heap.size w w' ∧ NF w.heap.size w'

set_option maxHeartbeats 2000000 in
theorem clone93s (x : Vx) (sx : Value) (w : World) (hx : RV.In w 0 x sx) : Calls Try.prog 93 #[x.agg sx] w fun e w' => ClO EV Vx.agg x w e w' := by
  obtain ⟨id, lb, ps⟩ := x
  obtain ⟨h1, h2, hp⟩ := hx
  simp only at h1 h2 hp
  have c61 := fun W hW => clone89 ps sx W (hp.on hW)
  obtain ⟨p, c, rfl⟩ := hp.header
  unfold ClO Vx.agg
  unfold ClS at c61
  go_enter Try.func93, Try.ntmps93
  go_wp2_with (go_at_call 89; refine (c61 _ (bel2 w _ _)).mono ?_; rintro e w2 ⟨sl2, rfl, hin2, hb2, hnf2⟩; obtain ⟨p2, m2, c2, rfl⟩ : ∃ p n c, sl2 = .slice p n c := (by obtain ⟨p, e⟩ := hin2.hdr; exact ⟨p, _, _, e⟩); have e0 := blk_b0 hb2; have e1 := blk_b1 hb2; obtain ⟨x0, x1, x2, f0⟩ := three_of e0; obtain ⟨y0, y1, y2, f1⟩ := three_of e1; have hnf2 : Hid _ := hnf2; have hin2 := Lib.hid hin2; have hb2 : Hid _ := hb2; clear e0 e1)
  have hbf : Below w.heap.size w (putL (putL w2 w.heap.size 2 [.slice p2 m2 c2]) (w.heap.size + 1) 0 [.int .i64 id, .string lb, .slice p2 m2 c2]) :=
    (bel_then (bel2 w _ _) hb2.out).trans ((putL_below (Nat.le_refl _)).trans (putL_below (by omega)))
  have hif : OwR RP 84 (putL (putL w2 w.heap.size 2 [.slice p2 m2 c2]) (w.heap.size + 1) 0 [.int .i64 id, .string lb, .slice p2 m2 c2]) w.heap.size ps (.slice p2 m2 c2) :=
    OwR.keep (lo := w.heap.size + 1 + 1) (by have := hin2.out; rwa [World.size_alloc, World.size_alloc] at this) ((putL_keepB (by omega)).trans (putL_keepB (by omega))) (by omega)
  have hnf : NF w.heap.size (putL (putL w2 w.heap.size 2 [.slice p2 m2 c2]) (w.heap.size + 1) 0 [.int .i64 id, .string lb, .slice p2 m2 c2]) :=
    putL_nf (putL_nf ((((nf_new w).alloc _ _).alloc _ _).call hb2.out hnf2.out))
  unfold putL putL putL putL putL at hbf hif hnf
  simp [bodyPost, results, Try.results93, go_sem, y0, y1, y2]
  exact ⟨⟨h1, h2⟩, hif, hbf, hnf⟩

set_option maxHeartbeats 2000000 in
theorem clone66s (x : Lk) (sx : Value) (w : World) (hx : RL.In w 0 x sx) : Calls Try.prog 66 #[x.agg sx] w fun e w' => ClO ELk Lk.agg x w e w' := by
  obtain ⟨id, lb, out, inn, ps⟩ := x
  obtain ⟨h1, h2, h3, h4, hp⟩ := hx
  simp only at h1 h2 h3 h4 hp
  have c61 := fun W hW => clone89 ps sx W (hp.on hW)
  obtain ⟨p, c, rfl⟩ := hp.header
  unfold ClO Lk.agg
  unfold ClS at c61
  go_enter Try.func66, Try.ntmps66
  go_wp2_with (go_at_call 89; refine (c61 _ (bel2 w _ _)).mono ?_; rintro e w2 ⟨sl2, rfl, hin2, hb2, hnf2⟩; obtain ⟨p2, m2, c2, rfl⟩ : ∃ p n c, sl2 = .slice p n c := (by obtain ⟨p, e⟩ := hin2.hdr; exact ⟨p, _, _, e⟩); have e0 := blk_b0 hb2; have e1 := blk_b1 hb2; obtain ⟨x0, x1, x2, x3, x4, f0⟩ := five_of e0; obtain ⟨y0, y1, y2, y3, y4, f1⟩ := five_of e1; have hnf2 : Hid _ := hnf2; have hin2 := Lib.hid hin2; have hb2 : Hid _ := hb2; clear e0 e1)
  have hbf : Below w.heap.size w (putL (putL w2 w.heap.size 4 [.slice p2 m2 c2]) (w.heap.size + 1) 0 [.int .i64 id, .string lb, .int .i64 out, .int .i64 inn, .slice p2 m2 c2]) :=
    (bel_then (bel2 w _ _) hb2.out).trans ((putL_below (Nat.le_refl _)).trans (putL_below (by omega)))
  have hif : OwR RP 84 (putL (putL w2 w.heap.size 4 [.slice p2 m2 c2]) (w.heap.size + 1) 0 [.int .i64 id, .string lb, .int .i64 out, .int .i64 inn, .slice p2 m2 c2]) w.heap.size ps (.slice p2 m2 c2) :=
    OwR.keep (lo := w.heap.size + 1 + 1) (by have := hin2.out; rwa [World.size_alloc, World.size_alloc] at this) ((putL_keepB (by omega)).trans (putL_keepB (by omega))) (by omega)
  have hnf : NF w.heap.size (putL (putL w2 w.heap.size 4 [.slice p2 m2 c2]) (w.heap.size + 1) 0 [.int .i64 id, .string lb, .int .i64 out, .int .i64 inn, .slice p2 m2 c2]) :=
    putL_nf (putL_nf ((((nf_new w).alloc _ _).alloc _ _).call hb2.out hnf2.out))
  unfold putL putL putL putL putL putL putL at hbf hif hnf
  simp [bodyPost, results, Try.results66, go_sem, y0, y1, y2, y3, y4]
  exact ⟨⟨h1, h2, h3, h4⟩, hif, hbf, hnf⟩

set_option maxHeartbeats 4000000 in
theorem clone92s (l : List Vx) (sl : Value) (w : World) (hl0 : Sq RV w 0 l sl) : Calls Try.prog 92 #[sl, .func (.func 93) #[] #[]] w fun e w' => ClP EV 40 l w e w' := by
  obtain ⟨p, cap, rfl, hc, hcm, h56, hx⟩ := hl0
  unfold maxLen at hcm
  by_cases hl : l = []
  · subst hl
    go_enter Try.func92, Try.ntmps92
    go_wp2
    go_ret
    exact ⟨_, rfl, .inl ⟨rfl, rfl⟩, Below.refl _ _, nf_new w⟩
  · obtain ⟨b, o, rfl, -, hx1⟩ := hx.resolve_left hl
    have hl0 : 0 < l.length := List.length_pos_iff.2 hl
    obtain ⟨cur, hcur, hmk⟩ := make22v l.length h56
    have hne : ((l.length : Int) == 0) = false := by simp; omega
    have hne' : ¬ (l.length : Int) = 0 := by omega
    have hx1 := Lib.hid hx1
    clear hx
    go_enter Try.func92, Try.ntmps92
    go_wp2
    clear hmk
    have hrow0 : Rowt (w.alloc (.cells cur 40)) w.heap.size 40 (l.length * 3) := ⟨cur, World.alloc_heap_new w _, hcur⟩
    have hbW : Below w.heap.size w (w.alloc (.cells cur 40)) := bel1 w _
    have hnf : NF w.heap.size (w.alloc (.cells cur 40)) := (nf_new w).alloc _ _
    have hsz : (w.alloc (.cells cur 40)).heap.size = w.heap.size + 1 := by simp
    generalize (w.alloc (.cells cur 40)) = W1 at *
    go_loopg [15, 6] l.length (fun c i s6 wr => ∃ j : Nat, c + j = l.length ∧ i = .int .i64 j ∧ Hid (SepL EV wr w.heap.size (l.take j) 0 (w.heap.size + 1) wr.heap.size) ∧ Hid (Rowt wr w.heap.size 40 (l.length * 3)) ∧ Below w.heap.size W1 wr ∧ Hid (NF w.heap.size wr))
    case atStart => exact ⟨0, rfl, rfl, (by show w.heap.size + 1 ≤ _; omega), hrow0, Below.refl _ _, hnf⟩
    case round =>
      obtain ⟨j, hgj, rfl, hls, hrow, hB, hNF⟩ := hrel
      have hBW : Below w.heap.size w wr := hbW.trans hB
      by_cases hj : j < l.length
      · obtain ⟨s1, hat, hv1⟩ := (hx1.out.on' hBW).at j hj
        have ih' := clone93s l[j] s1 wr hv1
        have htake : Hid (l.take (j + 1) = l.take j ++ [l[j]]) := by show _ = _; rw [List.take_succ_eq_append_getElem hj]
        have hlen : Hid ((l.take j).length = j) := by show _ = _; simp; omega
        unfold ClO Vx.agg at ih'
        generalize l[j] = x at *
        obtain ⟨a0, a1, a2⟩ := ats3 hat
        simp only [show RV.n = 3 from rfl] at a0 a1 a2
        clear hat
        obtain ⟨p1, n1, c1, rfl⟩ : ∃ p n c, s1 = .slice p n c := hdV hv1
        obtain ⟨z0, e0⟩ := hrow.out.cell (j * 3) (by omega)
        have hv1 := Lib.hid hv1
        go_wp2_with (go_at_call 93; refine ih'.mono ?_; rintro e w2 ⟨sl2, rfl, hB2, hin2, hb2, hnf2⟩; obtain ⟨p2, n2, c2, rfl⟩ : ∃ p n c, sl2 = .slice p n c := (by obtain ⟨p, e⟩ := hin2.hdr; exact ⟨p, _, _, e⟩); have hB2 := Lib.hid hB2; have hnf2 : Hid _ := hnf2; have hin2 := Lib.hid hin2; have hr2 := hrow.out.on hb2; obtain ⟨z0, e0⟩ := hr2.cell (j * 3) (by omega); have f0 := hr2.frozen (j * 3); obtain ⟨z1, e1⟩ := hr2.cell (j * 3 + 1) (by omega); have f1 := hr2.frozen (j * 3 + 1); obtain ⟨z2, e2⟩ := hr2.cell (j * 3 + 2) (by omega); have f2 := hr2.frozen (j * 3 + 2); have hr2 : Hid _ := hr2)
        have hrl := hrow.out.lt
        have hr3 : Rowt w2 w.heap.size 40 (l.length * 3) := hr2
        go_roundg (gk - 1)
        case rel =>
          refine ⟨j + 1, by omega, by go_num, ?_, ?_, ?_, ?_⟩
          · show SepL _ _ _ _ _ _ _
            rw [htake.out]
            have hz : (putL w2 w.heap.size (j * 3) (RV.cs x (.slice p2 n2 c2))).heap.size = w2.heap.size := putL_size
            show SepL _ (putL w2 w.heap.size (j * 3) (RV.cs x (.slice p2 n2 c2))) _ _ _ _ (putL w2 w.heap.size (j * 3) (RV.cs x (.slice p2 n2 c2))).heap.size
            rw [hz]
            have kB : KeepB (w.heap.size + 1) wr (putL w2 w.heap.size (j * 3) (RV.cs x (.slice p2 n2 c2))) := (keepB_below hb2).trans (putL_keepB (by omega))
            refine SepL.snoc (E := EV) (u := w2) (a := wr.heap.size) hb2.size (putL_keepB hrl) hB2.out hin2.out (hls.out.keep kB fun i c hi hc => ?_) (Nat.le_refl _) ?_
            · refine putL_other (some_on hb2 hc) (.inr (.inl ?_))
              have := hlen.out
              rw [this] at hi
              show 0 + i < j * 3
              have hi' : i < j * 3 := hi
              omega
            · rw [hlen.out, Nat.zero_add]
              exact putL_ats hr3 (by show j * 3 + 3 ≤ _; omega)
          · exact hr3.putL (i := j * 3) (l := RV.cs x (.slice p2 n2 c2))
          · exact (hB.trans (hb2.mono (by omega))).trans (putL_below (g := w.heap.size) (i := j * 3) (l := RV.cs x (.slice p2 n2 c2)) (Nat.le_refl _))
          · exact putL_nf (i := j * 3) (l := RV.cs x (.slice p2 n2 c2)) (hNF.out.call hb2 hnf2.out)
        case measure => omega
      · obtain rfl : j = l.length := by omega
        have hls' : Hid (SepL EV wr w.heap.size l 0 (w.heap.size + 1) wr.heap.size) := by
          have := hls.out; rwa [List.take_length] at this
        clear hls
        go_wp2
        go_ret
        exact ⟨_, rfl, .inr ⟨w.heap.size, wr.heap.size, Nat.le_refl _, rfl, hl0, h56, by unfold maxLen; omega, hrow.out, hls'.out⟩, hBW, hNF.out⟩

set_option maxHeartbeats 4000000 in
theorem clone94s (l : List Lk) (sl : Value) (w : World) (hl0 : Sq RL w 0 l sl) : Calls Try.prog 94 #[sl, .func (.func 66) #[] #[]] w fun e w' => ClP ELk 46 l w e w' := by
  obtain ⟨p, cap, rfl, hc, hcm, h56, hx⟩ := hl0
  unfold maxLen at hcm
  by_cases hl : l = []
  · subst hl
    go_enter Try.func94, Try.ntmps94
    go_wp2
    go_ret
    exact ⟨_, rfl, .inl ⟨rfl, rfl⟩, Below.refl _ _, nf_new w⟩
  · obtain ⟨b, o, rfl, -, hx1⟩ := hx.resolve_left hl
    have hl0 : 0 < l.length := List.length_pos_iff.2 hl
    obtain ⟨cur, hcur, hmk⟩ := make23 l.length h56
    have hne : ((l.length : Int) == 0) = false := by simp; omega
    have hne' : ¬ (l.length : Int) = 0 := by omega
    have hx1 := Lib.hid hx1
    clear hx
    go_enter Try.func94, Try.ntmps94
    go_wp2
    clear hmk
    have hrow0 : Rowt (w.alloc (.cells cur 46)) w.heap.size 46 (l.length * 5) := ⟨cur, World.alloc_heap_new w _, hcur⟩
    have hbW : Below w.heap.size w (w.alloc (.cells cur 46)) := bel1 w _
    have hnf : NF w.heap.size (w.alloc (.cells cur 46)) := (nf_new w).alloc _ _
    have hsz : (w.alloc (.cells cur 46)).heap.size = w.heap.size + 1 := by simp
    generalize (w.alloc (.cells cur 46)) = W1 at *
    go_loopg [15, 6] l.length (fun c i s6 wr => ∃ j : Nat, c + j = l.length ∧ i = .int .i64 j ∧ Hid (SepL ELk wr w.heap.size (l.take j) 0 (w.heap.size + 1) wr.heap.size) ∧ Hid (Rowt wr w.heap.size 46 (l.length * 5)) ∧ Below w.heap.size W1 wr ∧ Hid (NF w.heap.size wr))
    case atStart => exact ⟨0, rfl, rfl, (by show w.heap.size + 1 ≤ _; omega), hrow0, Below.refl _ _, hnf⟩
    case round =>
      obtain ⟨j, hgj, rfl, hls, hrow, hB, hNF⟩ := hrel
      have hBW : Below w.heap.size w wr := hbW.trans hB
      by_cases hj : j < l.length
      · obtain ⟨s1, hat, hv1⟩ := (hx1.out.on' hBW).at j hj
        have ih' := clone66s l[j] s1 wr hv1
        have htake : Hid (l.take (j + 1) = l.take j ++ [l[j]]) := by show _ = _; rw [List.take_succ_eq_append_getElem hj]
        have hlen : Hid ((l.take j).length = j) := by show _ = _; simp; omega
        unfold ClO Lk.agg at ih'
        generalize l[j] = x at *
        obtain ⟨a0, a1, a2, a3, a4⟩ := ats5 hat
        simp only [show RL.n = 5 from rfl] at a0 a1 a2 a3 a4
        clear hat
        obtain ⟨p1, n1, c1, rfl⟩ : ∃ p n c, s1 = .slice p n c := hdL hv1
        obtain ⟨z0, e0⟩ := hrow.out.cell (j * 5) (by omega)
        have hv1 := Lib.hid hv1
        go_wp2_with (go_at_call 66; refine ih'.mono ?_; rintro e w2 ⟨sl2, rfl, hB2, hin2, hb2, hnf2⟩; obtain ⟨p2, n2, c2, rfl⟩ : ∃ p n c, sl2 = .slice p n c := (by obtain ⟨p, e⟩ := hin2.hdr; exact ⟨p, _, _, e⟩); have hB2 := Lib.hid hB2; have hnf2 : Hid _ := hnf2; have hin2 := Lib.hid hin2; have hr2 := hrow.out.on hb2; obtain ⟨z0, e0⟩ := hr2.cell (j * 5) (by omega); have f0 := hr2.frozen (j * 5); obtain ⟨z1, e1⟩ := hr2.cell (j * 5 + 1) (by omega); have f1 := hr2.frozen (j * 5 + 1); obtain ⟨z2, e2⟩ := hr2.cell (j * 5 + 2) (by omega); have f2 := hr2.frozen (j * 5 + 2); obtain ⟨z3, e3⟩ := hr2.cell (j * 5 + 3) (by omega); have f3 := hr2.frozen (j * 5 + 3); obtain ⟨z4, e4⟩ := hr2.cell (j * 5 + 4) (by omega); have f4 := hr2.frozen (j * 5 + 4); have hr2 : Hid _ := hr2)
        have hrl := hrow.out.lt
        have hr3 : Rowt w2 w.heap.size 46 (l.length * 5) := hr2
        go_roundg (gk - 1)
        case rel =>
          refine ⟨j + 1, by omega, by go_num, ?_, ?_, ?_, ?_⟩
          · show SepL _ _ _ _ _ _ _
            rw [htake.out]
            have hz : (putL w2 w.heap.size (j * 5) (RL.cs x (.slice p2 n2 c2))).heap.size = w2.heap.size := putL_size
            show SepL _ (putL w2 w.heap.size (j * 5) (RL.cs x (.slice p2 n2 c2))) _ _ _ _ (putL w2 w.heap.size (j * 5) (RL.cs x (.slice p2 n2 c2))).heap.size
            rw [hz]
            have kB : KeepB (w.heap.size + 1) wr (putL w2 w.heap.size (j * 5) (RL.cs x (.slice p2 n2 c2))) := (keepB_below hb2).trans (putL_keepB (by omega))
            refine SepL.snoc (E := ELk) (u := w2) (a := wr.heap.size) hb2.size (putL_keepB hrl) hB2.out hin2.out (hls.out.keep kB fun i c hi hc => ?_) (Nat.le_refl _) ?_
            · refine putL_other (some_on hb2 hc) (.inr (.inl ?_))
              have := hlen.out
              rw [this] at hi
              show 0 + i < j * 5
              have hi' : i < j * 5 := hi
              omega
            · rw [hlen.out, Nat.zero_add]
              exact putL_ats hr3 (by show j * 5 + 5 ≤ _; omega)
          · exact hr3.putL (i := j * 5) (l := RL.cs x (.slice p2 n2 c2))
          · exact (hB.trans (hb2.mono (by omega))).trans (putL_below (g := w.heap.size) (i := j * 5) (l := RL.cs x (.slice p2 n2 c2)) (Nat.le_refl _))
          · exact putL_nf (i := j * 5) (l := RL.cs x (.slice p2 n2 c2)) (hNF.out.call hb2 hnf2.out)
        case measure => omega
      · obtain rfl : j = l.length := by omega
        have hls' : Hid (SepL ELk wr w.heap.size l 0 (w.heap.size + 1) wr.heap.size) := by
          have := hls.out; rwa [List.take_length] at this
        clear hls
        go_wp2
        go_ret
        exact ⟨_, rfl, .inr ⟨w.heap.size, wr.heap.size, Nat.le_refl _, rfl, hl0, h56, by unfold maxLen; omega, hrow.out, hls'.out⟩, hBW, hNF.out⟩

end Go.Proofs.Yteknbploiombiaa
namespace Go.Proofs.Yteknbploiombiaa
open Go.RowKit
set_option linter.unusedVariables false      -- a walk need not use every condition

/-- What a clone of a graph hands back. -/
def ClGs (g : Gg) (w : World) (e : Ending) (w' : World) : Prop := ∃ sv se, e = .returned (g.agg sv se) ∧ SpGr g w' w.heap.size sv se ∧ Below w.heap.size w w'
theorem fin_VEs {g : Gg} {w W0 w1 w2 : World} {s1 s2 : Value} (hl : I64 g.last) (hz : W0.heap.size = w.heap.size + 1 + 1) (hQ : Below w.heap.size w w2) (h1 : SpR EV 40 w1 W0.drew.heap.size g.vs s1) (h2 : SpR ELk 46 w2 w1.heap.size g.es s2) (hb : Below w1.heap.size w1 w2) (hb1 : Below W0.drew.heap.size W0.drew w1) :
    SpGr g (putL w2 (w.heap.size + 1) 0 [s1, s2, .int .i64 g.last]) w.heap.size s1 s2 ∧ Below w.heap.size w (putL w2 (w.heap.size + 1) 0 [s1, s2, .int .i64 g.last]) := by
  have hz' : W0.drew.heap.size = w.heap.size + 1 + 1 := hz
  have z1 := hb1.size
  have k : KeepB (w.heap.size + 1 + 1) w2 (putL w2 (w.heap.size + 1) 0 [s1, s2, .int .i64 g.last]) := putL_keepB (by omega)
  rw [hz'] at h1
  have i2 := h2.keep (k.mono (by omega)) (Nat.le_refl _)
  exact ⟨⟨hl, w.heap.size + 1 + 1, w1, by omega, by omega, h1, (keepB_below hb).trans k, i2⟩, hQ.trans (putL_below (by omega))⟩
theorem fin_owns {g : Gg} {w W0 w1 w2 : World} {s1 s2 : Value} (hl : I64 g.last) (hz : W0.heap.size = w.heap.size + 1 + 1) (hQ : Below w.heap.size w w2) (h1 : SpGr g w1 W0.drew.heap.size s1 s2) (hb : Below w1.heap.size w1 w2) :
    SpGr g (putL w2 (w.heap.size + 1) 0 [s1, s2, .int .i64 g.last]) w.heap.size s1 s2 ∧ Below w.heap.size w (putL w2 (w.heap.size + 1) 0 [s1, s2, .int .i64 g.last]) := by
  have hz' : W0.drew.heap.size = w.heap.size + 1 + 1 := hz
  have k : KeepB (w.heap.size + 1 + 1) w2 (putL w2 (w.heap.size + 1) 0 [s1, s2, .int .i64 g.last]) := putL_keepB (by omega)
  rw [hz'] at h1
  exact ⟨(h1.on hb).keep k (lo' := w.heap.size) (by omega), hQ.trans (putL_below (by omega))⟩
set_option maxHeartbeats 4000000 in
theorem clone70s (g : Gg) (sv se : Value) (w : World) (hg : Gg.In w 0 g sv se) : Calls Try.prog 70 #[g.agg sv se] w fun e w' => ClGs g w e w' := by
  obtain ⟨pv, cv, rfl⟩ := hg.2.1.header
  obtain ⟨pe, ce, rfl⟩ := hg.2.2.header
  obtain ⟨nv, hnv⟩ : ∃ n, g.vs.length = n := ⟨_, rfl⟩
  obtain ⟨ne, hne⟩ : ∃ n, g.es.length = n := ⟨_, rfl⟩
  rw [hnv, hne] at hg ⊢
  have cV : ∀ W, Below w.heap.size w W → Calls Try.prog 92 #[.slice pv nv cv, .func (.func 93) #[] #[]] W fun e w' => ∃ p, e = .returned (.slice p nv nv) ∧ SpR EV 40 w' W.heap.size g.vs (.slice p nv nv) ∧ Below W.heap.size W w' := fun W hW => (clone92s g.vs _ W (hg.2.1.on hW)).mono fun e w' ⟨sl, he, ho, hb, _⟩ => by
    obtain ⟨p, hp⟩ := ho.hdr
    rw [hnv] at hp
    subst hp
    exact ⟨p, he, ho, hb⟩
  have cE : ∀ W, Below w.heap.size w W → Calls Try.prog 94 #[.slice pe ne ce, .func (.func 66) #[] #[]] W fun e w' => ∃ p, e = .returned (.slice p ne ne) ∧ SpR ELk 46 w' W.heap.size g.es (.slice p ne ne) ∧ Below W.heap.size W w' := fun W hW => (clone94s g.es _ W (hg.2.2.on hW)).mono fun e w' ⟨sl, he, ho, hb, _⟩ => by
    obtain ⟨p, hp⟩ := ho.hdr
    rw [hne] at hp
    subst hp
    exact ⟨p, he, ho, hb⟩
  have hl := hg.1
  clear hg
  unfold ClGs Gg.agg
  have hb0 := Lib.hid (bel2 w (Obj.cells #[.slice pv nv cv, .slice pe ne ce, .int .i64 g.last] 27) (Obj.cells #[.slice none 0 0, .slice none 0 0, .int .i64 0] 27))
  go_enter Try.func70, Try.ntmps70
  go_wp2
  have e0 := World.alloc_heap_new w (Obj.cells #[.slice pv nv cv, .slice pe ne ce, .int .i64 g.last] 27)
  replace e0 := blk_on (bel1 _ (Obj.cells #[.slice none 0 0, .slice none 0 0, .int .i64 0] 27)) e0
  have e1 := World.alloc_heap_new (w.alloc (Obj.cells #[.slice pv nv cv, .slice pe ne ce, .int .i64 g.last] 27)) (Obj.cells #[.slice none 0 0, .slice none 0 0, .int .i64 0] 27)
  rw [World.size_alloc] at e1
  have hz0 : ((w.alloc (Obj.cells #[.slice pv nv cv, .slice pe ne ce, .int .i64 g.last] 27)).alloc (Obj.cells #[.slice none 0 0, .slice none 0 0, .int .i64 0] 27)).heap.size = w.heap.size + 1 + 1 := by simp
  generalize (w.alloc (Obj.cells #[.slice pv nv cv, .slice pe ne ce, .int .i64 g.last] 27)).alloc (Obj.cells #[.slice none 0 0, .slice none 0 0, .int .i64 0] 27) = W0 at *
  have S0 := three_S (u := W0.drew) (show W0.drew.heap[w.heap.size]? = _ from e0)
  have SV := S0
  have SE := S0
  have Q0 : Below w.heap.size w W0.drew := bel_then hb0.out (Below.refl _ W0).drew
  have hz0 := Lib.hid hz0
  have E0 := Lib.hid e0
  have E1 := Lib.hid e1
  clear e0 e1
  go_region_held3 (fun u => u.cell? ⟨w.heap.size, 0, none⟩ = some (.slice pv nv cv) ∧ u.cell? ⟨w.heap.size, 1, none⟩ = some (.slice pe ne ce) ∧ u.cell? ⟨w.heap.size, 2, none⟩ = some (.int .i64 g.last))
    (first | with_reducible exact S0 | with_reducible exact SV | with_reducible exact SE | with_reducible exact st3 SV | with_reducible exact st3 SE)
    (first
      | (go_at_call 92; with_reducible refine (cV _ (by with_reducible assumption)).mono ?_; rintro e wv ⟨qv, rfl, hinv, hbv⟩; have QV : Below w.heap.size w wv := bel_then (by with_reducible assumption) hbv; have HV := Lib.hid (And.intro hinv hbv); have SV := three_S (blk_on (bel_then (Below.refl _ W0).drew hbv) E0.out); have E2 := Lib.hid (blk_on (bel_then (Below.refl _ W0).drew hbv) E1.out); have E3 := Lib.hid (blk_on (bel_then (Below.refl _ W0).drew hbv) E0.out); clear hinv hbv cV)
      | (go_at_call 94; with_reducible refine (cE _ (by with_reducible assumption)).mono ?_; rintro e we ⟨qe, rfl, hine, hbe⟩; have QE : Below w.heap.size w we := bel_then (by with_reducible assumption) hbe; have HE := Lib.hid (And.intro hine hbe); have SE := three_S (blk_on hbe E3.out); obtain ⟨re0, re1, re2, ref⟩ := three_of (blk_on hbe E2.out); clear hine hbe cE))
  all_goals go_wp2
  have fin := fin_VEs hl hz0.out QE HV.out.1 HE.out.1 HE.out.2 HV.out.2
  unfold putL putL putL putL at fin
  simp [bodyPost, results, Try.results70, go_sem, re0, re1, re2]
  exact ⟨_, _, ⟨rfl, rfl⟩, fin⟩
/-- What own hands back. -/
def OwGs (g : Gg) (w : World) (e : Ending) (w' : World) : Prop := ∃ sv se, e = .returned (.tuple #[g.agg sv se, .int .i64 g.err]) ∧ SpGr g w' w.heap.size sv se ∧ Below w.heap.size w w'
set_option maxHeartbeats 4000000 in
theorem own39s (g : Gg) (sv se : Value) (w : World) (hg : Gg.In w 0 g sv se) : Calls Try.prog 39 #[g.agg sv se] w fun e w' => OwGs g w e w' := by
  obtain ⟨pv, cv, rfl⟩ := hg.2.1.header
  obtain ⟨pe, ce, rfl⟩ := hg.2.2.header
  obtain ⟨nv, hnv⟩ : ∃ n, g.vs.length = n := ⟨_, rfl⟩
  obtain ⟨ne, hne⟩ : ∃ n, g.es.length = n := ⟨_, rfl⟩
  rw [hnv, hne] at hg ⊢
  have cC : ∀ W, Below w.heap.size w W → Calls Try.prog 70 #[.agg #[.slice pv nv cv, .slice pe ne ce, .int .i64 g.last]] W fun e w' => ∃ p q, e = .returned (.agg #[.slice p nv nv, .slice q ne ne, .int .i64 g.last]) ∧ SpGr g w' W.heap.size (.slice p nv nv) (.slice q ne ne) ∧ Below W.heap.size W w' := fun W hW => (clone70s g _ _ W (hg.on hW)).mono fun e w' ⟨s1, s2, he, ho, hb⟩ => by
    obtain ⟨p, hp⟩ := ho.ow.v.hdr
    obtain ⟨q, hq⟩ := ho.ow.e.hdr
    rw [hnv] at hp
    rw [hne] at hq
    subst hp hq
    exact ⟨p, q, he, ho, hb⟩
  have cK : ∀ W, Below w.heap.size w W → Calls Try.prog 8 #[.agg #[.slice pv nv cv, .slice pe ne ce, .int .i64 g.last]] W fun e w' => e = .returned (.int .i64 g.err) ∧ Below W.heap.size W w' := fun W hW => check8 g _ _ W (hg.on hW)
  have hl := hg.1
  clear hg
  unfold OwGs Gg.agg
  have hb0 := Lib.hid (bel2 w (Obj.cells #[.slice pv nv cv, .slice pe ne ce, .int .i64 g.last] 27) (Obj.cells #[.slice none 0 0, .slice none 0 0, .int .i64 0] 27))
  go_enter Try.func39, Try.ntmps39
  go_wp2
  have e0 := World.alloc_heap_new w (Obj.cells #[.slice pv nv cv, .slice pe ne ce, .int .i64 g.last] 27)
  replace e0 := blk_on (bel1 _ (Obj.cells #[.slice none 0 0, .slice none 0 0, .int .i64 0] 27)) e0
  have e1 := World.alloc_heap_new (w.alloc (Obj.cells #[.slice pv nv cv, .slice pe ne ce, .int .i64 g.last] 27)) (Obj.cells #[.slice none 0 0, .slice none 0 0, .int .i64 0] 27)
  rw [World.size_alloc] at e1
  have hz0 : ((w.alloc (Obj.cells #[.slice pv nv cv, .slice pe ne ce, .int .i64 g.last] 27)).alloc (Obj.cells #[.slice none 0 0, .slice none 0 0, .int .i64 0] 27)).heap.size = w.heap.size + 1 + 1 := by simp
  generalize (w.alloc (Obj.cells #[.slice pv nv cv, .slice pe ne ce, .int .i64 g.last] 27)).alloc (Obj.cells #[.slice none 0 0, .slice none 0 0, .int .i64 0] 27) = W0 at *
  have S0 := three_S (u := W0.drew) (show W0.drew.heap[w.heap.size]? = _ from e0)
  have SV := S0
  have SE := S0
  have Q0 : Below w.heap.size w W0.drew := bel_then hb0.out (Below.refl _ W0).drew
  have hz0 := Lib.hid hz0
  have E0 := Lib.hid e0
  have E1 := Lib.hid e1
  clear e0 e1
  go_region_held3 (fun u => u.cell? ⟨w.heap.size, 0, none⟩ = some (.slice pv nv cv) ∧ u.cell? ⟨w.heap.size, 1, none⟩ = some (.slice pe ne ce) ∧ u.cell? ⟨w.heap.size, 2, none⟩ = some (.int .i64 g.last))
    (first | with_reducible exact S0 | with_reducible exact SV | with_reducible exact SE | with_reducible exact st3 SV | with_reducible exact st3 SE)
    (first
      | (go_at_call 70; with_reducible refine (cC _ (by with_reducible assumption)).mono ?_; rintro e wv ⟨qv, qw, rfl, hinv, hbv⟩; have QV : Below w.heap.size w wv := bel_then (by with_reducible assumption) hbv; have HV := Lib.hid (And.intro hinv hbv); have SV := three_S (blk_on (bel_then (Below.refl _ W0).drew hbv) E0.out); have E2 := Lib.hid (blk_on (bel_then (Below.refl _ W0).drew hbv) E1.out); have E3 := Lib.hid (blk_on (bel_then (Below.refl _ W0).drew hbv) E0.out); clear hinv hbv cC)
      | (go_at_call 8; with_reducible refine (cK _ (by with_reducible assumption)).mono ?_; rintro e we ⟨rfl, hbe⟩; have QE : Below w.heap.size w we := bel_then (by with_reducible assumption) hbe; have HE := Lib.hid hbe; have SE := three_S (blk_on hbe E3.out); obtain ⟨re0, re1, re2, ref⟩ := three_of (blk_on hbe E2.out); clear hbe cK))
  all_goals go_wp2
  have fin := fin_owns hl hz0.out QE HV.out.1 HE.out
  unfold putL putL putL putL at fin
  simp [bodyPost, results, Try.results39, go_sem, re0, re1, re2]
  exact ⟨_, _, ⟨rfl, rfl⟩, fin⟩
end Go.Proofs.Yteknbploiombiaa
