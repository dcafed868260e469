/-
  What Clone and own of package graph do.
-/
import Derived.Test.YteknbploiombiaaZChg
import Derived.Deep.RegionHeld3
namespace Go.Proofs.Yteknbploiombiaa
open Go.RowKit
set_option linter.unusedVariables false      -- a walk need not use every condition

/-- A graph of one's own: the vertices lie in an earlier world, the edges behind it. -/
def OwGr (g : Gg) (w : World) (lo : Nat) (sv se : Value) : Prop := I64 g.last ∧ ∃ (lo0 : Nat) (u : World), lo ≤ lo0 ∧ lo0 ≤ u.heap.size ∧ OwR RV 40 u lo0 g.vs sv ∧ KeepB lo0 u w ∧ OwR RL 46 w u.heap.size g.es se
theorem OwGr.v {g : Gg} {w : World} {lo : Nat} {sv se : Value} (h : OwGr g w lo sv se) : OwR RV 40 w lo g.vs sv := by
  obtain ⟨-, lo0, u, h1, h2, h3, h4, h5⟩ := h
  exact h3.keep h4 h1
theorem OwGr.e {g : Gg} {w : World} {lo : Nat} {sv se : Value} (h : OwGr g w lo sv se) : OwR RL 46 w lo g.es se := by
  obtain ⟨-, lo0, u, h1, h2, h3, h4, h5⟩ := h
  exact h5.low (by omega)
theorem OwGr.is {g : Gg} {w : World} {lo : Nat} {sv se : Value} (h : OwGr g w lo sv se) : Gg.In w lo g sv se := ⟨h.1, h.v.sq, h.e.sq⟩
theorem OwGr.keep {g : Gg} {w w' : World} {lo lo' : Nat} {sv se : Value} (h : OwGr g w lo sv se) (hk : KeepB lo w w') (hl : lo' ≤ lo) : OwGr g w' lo' sv se := by
  obtain ⟨h0, lo0, u, h1, h2, h3, h4, h5⟩ := h
  exact ⟨h0, lo0, u, by omega, h2, h3, h4.trans (hk.mono h1), h5.keep (hk.mono (by omega)) (Nat.le_refl _)⟩
theorem OwGr.on {g : Gg} {w w' : World} {lo : Nat} {sv se : Value} (h : OwGr g w lo sv se) (hb : Below w.heap.size w w') : OwGr g w' lo sv se := h.keep (keepB_below hb) (Nat.le_refl _)
theorem OwR.hdr {α : Type} {R : El α} {t : TypeId} {w : World} {lo : Nat} {l : List α} {sl : Value} (h : OwR R t w lo l sl) : ∃ p, sl = .slice p l.length l.length := by
  rcases h with ⟨rfl, rfl⟩ | ⟨g, hg, rfl, _⟩
  · exact ⟨none, rfl⟩
  · exact ⟨_, rfl⟩
/-- What a clone of a graph hands back. -/
def ClG (g : Gg) (w : World) (e : Ending) (w' : World) : Prop := ∃ sv se, e = .returned (g.agg sv se) ∧ OwGr g w' w.heap.size sv se ∧ Below w.heap.size w w'
theorem three_S {u : World} {g : Nat} {a b c : Value} {t : TypeId} (e : u.heap[g]? = some (.cells #[a, b, c] t)) : u.cell? ⟨g, 0, none⟩ = some a ∧ u.cell? ⟨g, 1, none⟩ = some b ∧ u.cell? ⟨g, 2, none⟩ = some c :=
  let ⟨h0, h1, h2, _⟩ := three_of e
  ⟨h0, h1, h2⟩
theorem st3 {u : World} {k : Nat} {A B C a b c : Value} (h : u.cell? ⟨k, 0, none⟩ = some A ∧ u.cell? ⟨k, 1, none⟩ = some B ∧ u.cell? ⟨k, 2, none⟩ = some C) :
    (((u.setCell ⟨k + 1, 0, none⟩ a).setCell ⟨k + 1, 1, none⟩ b).setCell ⟨k + 1, 2, none⟩ c).cell? ⟨k, 0, none⟩ = some A ∧ (((u.setCell ⟨k + 1, 0, none⟩ a).setCell ⟨k + 1, 1, none⟩ b).setCell ⟨k + 1, 2, none⟩ c).cell? ⟨k, 1, none⟩ = some B ∧ (((u.setCell ⟨k + 1, 0, none⟩ a).setCell ⟨k + 1, 1, none⟩ b).setCell ⟨k + 1, 2, none⟩ c).cell? ⟨k, 2, none⟩ = some C :=
  ⟨set_other (set_other (set_other h.1 (.inl (by show k ≠ k + 1; omega))) (.inl (by show k ≠ k + 1; omega))) (.inl (by show k ≠ k + 1; omega)),
   set_other (set_other (set_other h.2.1 (.inl (by show k ≠ k + 1; omega))) (.inl (by show k ≠ k + 1; omega))) (.inl (by show k ≠ k + 1; omega)),
   set_other (set_other (set_other h.2.2 (.inl (by show k ≠ k + 1; omega))) (.inl (by show k ≠ k + 1; omega))) (.inl (by show k ≠ k + 1; omega))⟩
theorem fin_VE {g : Gg} {w W0 w1 w2 : World} {s1 s2 : Value} (hl : I64 g.last) (hz : W0.heap.size = w.heap.size + 1 + 1) (hQ : Below w.heap.size w w2) (h1 : OwR RV 40 w1 W0.drew.heap.size g.vs s1) (h2 : OwR RL 46 w2 w1.heap.size g.es s2) (hb : Below w1.heap.size w1 w2) (hb1 : Below W0.drew.heap.size W0.drew w1) :
    OwGr g (putL w2 (w.heap.size + 1) 0 [s1, s2, .int .i64 g.last]) w.heap.size s1 s2 ∧ Below w.heap.size w (putL w2 (w.heap.size + 1) 0 [s1, s2, .int .i64 g.last]) := by
  have hz' : W0.drew.heap.size = w.heap.size + 1 + 1 := hz
  have z1 := hb1.size
  have k : KeepB (w.heap.size + 1 + 1) w2 (putL w2 (w.heap.size + 1) 0 [s1, s2, .int .i64 g.last]) := putL_keepB (by omega)
  rw [hz'] at h1
  have i2 := h2.keep (k.mono (by omega)) (Nat.le_refl _)
  exact ⟨⟨hl, w.heap.size + 1 + 1, w1, by omega, by omega, h1, (keepB_below hb).trans k, i2⟩, hQ.trans (putL_below (by omega))⟩
theorem fin_own {g : Gg} {w W0 w1 w2 : World} {s1 s2 : Value} (hl : I64 g.last) (hz : W0.heap.size = w.heap.size + 1 + 1) (hQ : Below w.heap.size w w2) (h1 : OwGr g w1 W0.drew.heap.size s1 s2) (hb : Below w1.heap.size w1 w2) :
    OwGr g (putL w2 (w.heap.size + 1) 0 [s1, s2, .int .i64 g.last]) w.heap.size s1 s2 ∧ Below w.heap.size w (putL w2 (w.heap.size + 1) 0 [s1, s2, .int .i64 g.last]) := by
  have hz' : W0.drew.heap.size = w.heap.size + 1 + 1 := hz
  have k : KeepB (w.heap.size + 1 + 1) w2 (putL w2 (w.heap.size + 1) 0 [s1, s2, .int .i64 g.last]) := putL_keepB (by omega)
  rw [hz'] at h1
  exact ⟨(h1.on hb).keep k (lo' := w.heap.size) (by omega), hQ.trans (putL_below (by omega))⟩
set_option maxHeartbeats 4000000 in
theorem clone70 (g : Gg) (sv se : Value) (w : World) (hg : Gg.In w 0 g sv se) : Calls Try.prog 70 #[g.agg sv se] w fun e w' => ClG g w e w' := by
  obtain ⟨pv, cv, rfl⟩ := hg.2.1.header
  obtain ⟨pe, ce, rfl⟩ := hg.2.2.header
  obtain ⟨nv, hnv⟩ : ∃ n, g.vs.length = n := ⟨_, rfl⟩
  obtain ⟨ne, hne⟩ : ∃ n, g.es.length = n := ⟨_, rfl⟩
  rw [hnv, hne] at hg ⊢
  have cV : ∀ W, Below w.heap.size w W → Calls Try.prog 92 #[.slice pv nv cv, .func (.func 93) #[] #[]] W fun e w' => ∃ p, e = .returned (.slice p nv nv) ∧ OwR RV 40 w' W.heap.size g.vs (.slice p nv nv) ∧ Below W.heap.size W w' := fun W hW => (clone92 g.vs _ W (hg.2.1.on hW)).mono fun e w' ⟨sl, he, ho, hb, _⟩ => by
    obtain ⟨p, hp⟩ := ho.hdr
    rw [hnv] at hp
    subst hp
    exact ⟨p, he, ho, hb⟩
  have cE : ∀ W, Below w.heap.size w W → Calls Try.prog 94 #[.slice pe ne ce, .func (.func 66) #[] #[]] W fun e w' => ∃ p, e = .returned (.slice p ne ne) ∧ OwR RL 46 w' W.heap.size g.es (.slice p ne ne) ∧ Below W.heap.size W w' := fun W hW => (clone94 g.es _ W (hg.2.2.on hW)).mono fun e w' ⟨sl, he, ho, hb, _⟩ => by
    obtain ⟨p, hp⟩ := ho.hdr
    rw [hne] at hp
    subst hp
    exact ⟨p, he, ho, hb⟩
  have hl := hg.1
  clear hg
  unfold ClG Gg.agg
  have hb0 := Lib.hid (bel2 w (Obj.cells #[.slice pv nv cv, .slice pe ne ce, .int .i64 g.last] 27) (Obj.cells #[.slice none 0 0, .slice none 0 0, .int .i64 0] 27))
  go_enter Try.func70, Try.ntmps70
  go_wp2
  have e0 := World.alloc_heap_new w (Obj.cells #[.slice pv nv cv, .slice pe ne ce, .int .i64 g.last] 27)
  replace e0 := blk_on (bel1 _ (Obj.cells #[.slice none 0 0, .slice none 0 0, .int .i64 0] 27)) e0
  have e1 := World.alloc_heap_new (w.alloc (Obj.cells #[.slice pv nv cv, .slice pe ne ce, .int .i64 g.last] 27)) (Obj.cells #[.slice none 0 0, .slice none 0 0, .int .i64 0] 27)
  rw [World.size_alloc] at e1
  have hz0 : ((w.alloc (Obj.cells #[.slice pv nv cv, .slice pe ne ce, .int .i64 g.last] 27)).alloc (Obj.cells #[.slice none 0 0, .slice none 0 0, .int .i64 0] 27)).heap.size = w.heap.size + 1 + 1 := by simp
  generalize (w.alloc (Obj.cells #[.slice pv nv cv, .slice pe ne ce, .int .i64 g.last] 27)).alloc (Obj.cells #[.slice none 0 0, .slice none 0 0, .int .i64 0] 27) = W0 at *
  have S0 := three_S (u := W0.drew) (show W0.drew.heap[w.heap.size]? = _ from e0)
  have SV := S0
  have SE := S0
  have Q0 : Below w.heap.size w W0.drew := bel_then hb0.out (Below.refl _ W0).drew
  have hz0 := Lib.hid hz0
  have E0 := Lib.hid e0
  have E1 := Lib.hid e1
  clear e0 e1
  go_region_held3 (fun u => u.cell? ⟨w.heap.size, 0, none⟩ = some (.slice pv nv cv) ∧ u.cell? ⟨w.heap.size, 1, none⟩ = some (.slice pe ne ce) ∧ u.cell? ⟨w.heap.size, 2, none⟩ = some (.int .i64 g.last))
    (first | with_reducible exact S0 | with_reducible exact SV | with_reducible exact SE | with_reducible exact st3 SV | with_reducible exact st3 SE)
    (first
      | (go_at_call 92; with_reducible refine (cV _ (by with_reducible assumption)).mono ?_; rintro e wv ⟨qv, rfl, hinv, hbv⟩; have QV : Below w.heap.size w wv := bel_then (by with_reducible assumption) hbv; have HV := Lib.hid (And.intro hinv hbv); have SV := three_S (blk_on (bel_then (Below.refl _ W0).drew hbv) E0.out); have E2 := Lib.hid (blk_on (bel_then (Below.refl _ W0).drew hbv) E1.out); have E3 := Lib.hid (blk_on (bel_then (Below.refl _ W0).drew hbv) E0.out); clear hinv hbv cV)
      | (go_at_call 94; with_reducible refine (cE _ (by with_reducible assumption)).mono ?_; rintro e we ⟨qe, rfl, hine, hbe⟩; have QE : Below w.heap.size w we := bel_then (by with_reducible assumption) hbe; have HE := Lib.hid (And.intro hine hbe); have SE := three_S (blk_on hbe E3.out); obtain ⟨re0, re1, re2, ref⟩ := three_of (blk_on hbe E2.out); clear hine hbe cE))
  all_goals go_wp2
  have fin := fin_VE hl hz0.out QE HV.out.1 HE.out.1 HE.out.2 HV.out.2
  unfold putL putL putL putL at fin
  simp [bodyPost, results, Try.results70, go_sem, re0, re1, re2]
  exact ⟨_, _, ⟨rfl, rfl⟩, fin⟩
/-- What own hands back. -/
def OwG (g : Gg) (w : World) (e : Ending) (w' : World) : Prop := ∃ sv se, e = .returned (.tuple #[g.agg sv se, .int .i64 g.err]) ∧ OwGr g w' w.heap.size sv se ∧ Below w.heap.size w w'
set_option maxHeartbeats 4000000 in
theorem own39 (g : Gg) (sv se : Value) (w : World) (hg : Gg.In w 0 g sv se) : Calls Try.prog 39 #[g.agg sv se] w fun e w' => OwG g w e w' := by
  obtain ⟨pv, cv, rfl⟩ := hg.2.1.header
  obtain ⟨pe, ce, rfl⟩ := hg.2.2.header
  obtain ⟨nv, hnv⟩ : ∃ n, g.vs.length = n := ⟨_, rfl⟩
  obtain ⟨ne, hne⟩ : ∃ n, g.es.length = n := ⟨_, rfl⟩
  rw [hnv, hne] at hg ⊢
  have cC : ∀ W, Below w.heap.size w W → Calls Try.prog 70 #[.agg #[.slice pv nv cv, .slice pe ne ce, .int .i64 g.last]] W fun e w' => ∃ p q, e = .returned (.agg #[.slice p nv nv, .slice q ne ne, .int .i64 g.last]) ∧ OwGr g w' W.heap.size (.slice p nv nv) (.slice q ne ne) ∧ Below W.heap.size W w' := fun W hW => (clone70 g _ _ W (hg.on hW)).mono fun e w' ⟨s1, s2, he, ho, hb⟩ => by
    obtain ⟨p, hp⟩ := ho.v.hdr
    obtain ⟨q, hq⟩ := ho.e.hdr
    rw [hnv] at hp
    rw [hne] at hq
    subst hp hq
    exact ⟨p, q, he, ho, hb⟩
  have cK : ∀ W, Below w.heap.size w W → Calls Try.prog 8 #[.agg #[.slice pv nv cv, .slice pe ne ce, .int .i64 g.last]] W fun e w' => e = .returned (.int .i64 g.err) ∧ Below W.heap.size W w' := fun W hW => check8 g _ _ W (hg.on hW)
  have hl := hg.1
  clear hg
  unfold OwG Gg.agg
  have hb0 := Lib.hid (bel2 w (Obj.cells #[.slice pv nv cv, .slice pe ne ce, .int .i64 g.last] 27) (Obj.cells #[.slice none 0 0, .slice none 0 0, .int .i64 0] 27))
  go_enter Try.func39, Try.ntmps39
  go_wp2
  have e0 := World.alloc_heap_new w (Obj.cells #[.slice pv nv cv, .slice pe ne ce, .int .i64 g.last] 27)
  replace e0 := blk_on (bel1 _ (Obj.cells #[.slice none 0 0, .slice none 0 0, .int .i64 0] 27)) e0
  have e1 := World.alloc_heap_new (w.alloc (Obj.cells #[.slice pv nv cv, .slice pe ne ce, .int .i64 g.last] 27)) (Obj.cells #[.slice none 0 0, .slice none 0 0, .int .i64 0] 27)
  rw [World.size_alloc] at e1
  have hz0 : ((w.alloc (Obj.cells #[.slice pv nv cv, .slice pe ne ce, .int .i64 g.last] 27)).alloc (Obj.cells #[.slice none 0 0, .slice none 0 0, .int .i64 0] 27)).heap.size = w.heap.size + 1 + 1 := by simp
  generalize (w.alloc (Obj.cells #[.slice pv nv cv, .slice pe ne ce, .int .i64 g.last] 27)).alloc (Obj.cells #[.slice none 0 0, .slice none 0 0, .int .i64 0] 27) = W0 at *
  have S0 := three_S (u := W0.drew) (show W0.drew.heap[w.heap.size]? = _ from e0)
  have SV := S0
  have SE := S0
  have Q0 : Below w.heap.size w W0.drew := bel_then hb0.out (Below.refl _ W0).drew
  have hz0 := Lib.hid hz0
  have E0 := Lib.hid e0
  have E1 := Lib.hid e1
  clear e0 e1
  go_region_held3 (fun u => u.cell? ⟨w.heap.size, 0, none⟩ = some (.slice pv nv cv) ∧ u.cell? ⟨w.heap.size, 1, none⟩ = some (.slice pe ne ce) ∧ u.cell? ⟨w.heap.size, 2, none⟩ = some (.int .i64 g.last))
    (first | with_reducible exact S0 | with_reducible exact SV | with_reducible exact SE | with_reducible exact st3 SV | with_reducible exact st3 SE)
    (first
      | (go_at_call 70; with_reducible refine (cC _ (by with_reducible assumption)).mono ?_; rintro e wv ⟨qv, qw, rfl, hinv, hbv⟩; have QV : Below w.heap.size w wv := bel_then (by with_reducible assumption) hbv; have HV := Lib.hid (And.intro hinv hbv); have SV := three_S (blk_on (bel_then (Below.refl _ W0).drew hbv) E0.out); have E2 := Lib.hid (blk_on (bel_then (Below.refl _ W0).drew hbv) E1.out); have E3 := Lib.hid (blk_on (bel_then (Below.refl _ W0).drew hbv) E0.out); clear hinv hbv cC)
      | (go_at_call 8; with_reducible refine (cK _ (by with_reducible assumption)).mono ?_; rintro e we ⟨rfl, hbe⟩; have QE : Below w.heap.size w we := bel_then (by with_reducible assumption) hbe; have HE := Lib.hid hbe; have SE := three_S (blk_on hbe E3.out); obtain ⟨re0, re1, re2, ref⟩ := three_of (blk_on hbe E2.out); clear hbe cK))
  all_goals go_wp2
  have fin := fin_own hl hz0.out QE HV.out.1 HE.out
  unfold putL putL putL putL at fin
  simp [bodyPost, results, Try.results39, go_sem, re0, re1, re2]
  exact ⟨_, _, ⟨rfl, rfl⟩, fin⟩
end Go.Proofs.Yteknbploiombiaa
