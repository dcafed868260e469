/-
  The walk of ValueChecks.
-/
import Derived.Test.YtbicodlclmdgaaaGreatDoorRefMap
import Derived.Test.YtbicodlclmdgaaaGreatDoorCompares
namespace Go.Proofs.YtbicodlclmdgaaaGreatDoor
open Go.RowKit

/-- A value and an error, handed back. -/
def Gives (R : V × Int) (w : World) (e : Ending) (w' : World) : Prop := ∃ (p : Option Addr) (n c : Nat), e = .returned (.tuple #[.agg #[.int .i64 R.1.k, .int .i64 R.1.n, .string R.1.s, .slice p n c], .int .i64 R.2]) ∧
  R.1.In w' 0 (.slice p n c) ∧ Below w.heap.size w w'
/-- What a value that is made comes to. -/
def madeOf (x : V) : V × Int := if x.may 1 = true then (x, 0) else (zeroV, 20)
theorem gives_made {lo : Nat} {x : V} {w : World} {e : Ending} {w' : World} (h : MadeIn lo x w e w') : Gives (madeOf x) w e w' := by
  obtain ⟨hb, hT, hF⟩ := h
  unfold madeOf
  cases hm : x.may 1
  · exact ⟨none, 0, 0, hF hm, zero_in w' 0, hb⟩
  · obtain ⟨sl, he, hi⟩ := hT hm
    obtain ⟨p, n, c, rfl⟩ := hi.header
    exact ⟨p, n, c, he, hi.low (Nat.zero_le _), hb⟩
/-- What Map of these values is. -/
def IsMap (l : List V) (R : V × Int) : Prop := (l.length % 2 = 1 ∧ R = (zeroV, 1)) ∨ (l.length % 2 = 0 ∧ ((¬ Apart (pairsOf l) ∧ R = (zeroV, 5)) ∨ ∃ L, Rising L ∧ L.Perm (pairsOf l) ∧ R = madeOf (.mk 5 0 ⟨#[]⟩ (flatP L))))
theorem IsMap.one {l : List V} {R R' : V × Int} (h : IsMap l R) (h' : IsMap l R') : R = R' := by
  rcases h with ⟨h1, rfl⟩ | ⟨h1, h2⟩
  · rcases h' with ⟨-, rfl⟩ | ⟨h3, -⟩
    · rfl
    · omega
  · rcases h' with ⟨h3, -⟩ | ⟨-, h4⟩
    · omega
    · rcases h2 with ⟨h5, rfl⟩ | ⟨L, h5, h6, rfl⟩
      · rcases h4 with ⟨-, rfl⟩ | ⟨L', h7, h8, -⟩
        · rfl
        · exact absurd (h7.apart.perm h8) h5
      · rcases h4 with ⟨h7, -⟩ | ⟨L', h7, h8, rfl⟩
        · exact absurd (h5.apart.perm h6) h7
        · rw [one_list (h6.trans h8.symm) h7.le h5.le h7.once]
theorem map_is (l : List V) (sl : Value) (w : World) (hS : Sl w 0 l sl) : Calls Tryz.prog 10 #[sl] w fun e w' => ∃ R, IsMap l R ∧ Gives R w e w' := by
  rcases Nat.mod_two_eq_zero_or_one l.length with h | h
  · refine (map_any l sl (l.length / 2) w hS (by omega)).mono ?_
    rintro e w' ⟨L, hp, hs, hb, h1, h2⟩
    cases ht : twiceP L
    · refine ⟨_, .inr ⟨h, .inr ⟨L, rises_of hs ht, hp, rfl⟩⟩, gives_made (lo := w.heap.size) ⟨hb, h2 ht⟩⟩
    · exact ⟨_, .inr ⟨h, .inl ⟨fun ha => twice_apart ht (ha.perm hp.symm), rfl⟩⟩, none, 0, 0, h1 ht, zero_in w' 0, hb⟩
  · refine (map_odd l sl (l.length / 2) w hS (by omega)).mono ?_
    rintro e w' ⟨rfl, hb⟩
    exact ⟨_, .inl ⟨h, rfl⟩, none, 0, 0, rfl, zero_in w' 0, hb⟩
theorem refMap_is (l : List V) (sl : Value) (w : World) (hS : Sl w 0 l sl) : Calls Tryz.prog 11 #[sl] w fun e w' => ∃ R, IsMap l R ∧ Gives R w e w' := by
  rcases Nat.mod_two_eq_zero_or_one l.length with h | h
  · refine (refMap11 l sl (l.length / 2) w hS (by omega)).mono ?_
    rintro e w' ⟨hb, ⟨L, hr, hp, h1, h2⟩ | ⟨ha, rfl⟩⟩
    · exact ⟨_, .inr ⟨h, .inr ⟨L, hr, hp, rfl⟩⟩, gives_made (lo := 0) ⟨hb, h1, h2⟩⟩
    · exact ⟨_, .inr ⟨h, .inl ⟨ha, rfl⟩⟩, none, 0, 0, rfl, zero_in w' 0, hb⟩
  · refine (refMap_odd l sl (l.length / 2) w hS (by omega)).mono ?_
    rintro e w' ⟨rfl, hb⟩
    exact ⟨_, .inl ⟨h, rfl⟩, none, 0, 0, rfl, zero_in w' 0, hb⟩

theorem twenty {u : World} {a b c d f : Nat} {a0 a1 a2 a3 b0 b1 b2 b3 c0 c1 c2 c3 d0 d1 d2 d3 f0 f1 f2 f3 : Value} {t : TypeId} (h1 : u.heap[a]? = some (.cells #[a0, a1, a2, a3] t)) (h2 : u.heap[b]? = some (.cells #[b0, b1, b2, b3] t)) (h3 : u.heap[c]? = some (.cells #[c0, c1, c2, c3] t)) (h4 : u.heap[d]? = some (.cells #[d0, d1, d2, d3] t)) (h5 : u.heap[f]? = some (.cells #[f0, f1, f2, f3] t)) :
    u.cell? ⟨a, 0, none⟩ = some a0 ∧ u.cell? ⟨a, 1, none⟩ = some a1 ∧ u.cell? ⟨a, 2, none⟩ = some a2 ∧ u.cell? ⟨a, 3, none⟩ = some a3 ∧
    u.cell? ⟨b, 0, none⟩ = some b0 ∧ u.cell? ⟨b, 1, none⟩ = some b1 ∧ u.cell? ⟨b, 2, none⟩ = some b2 ∧ u.cell? ⟨b, 3, none⟩ = some b3 ∧
    u.cell? ⟨c, 0, none⟩ = some c0 ∧ u.cell? ⟨c, 1, none⟩ = some c1 ∧ u.cell? ⟨c, 2, none⟩ = some c2 ∧ u.cell? ⟨c, 3, none⟩ = some c3 ∧
    u.cell? ⟨d, 0, none⟩ = some d0 ∧ u.cell? ⟨d, 1, none⟩ = some d1 ∧ u.cell? ⟨d, 2, none⟩ = some d2 ∧ u.cell? ⟨d, 3, none⟩ = some d3 ∧
    u.cell? ⟨f, 0, none⟩ = some f0 ∧ u.cell? ⟨f, 1, none⟩ = some f1 ∧ u.cell? ⟨f, 2, none⟩ = some f2 ∧ u.cell? ⟨f, 3, none⟩ = some f3 := by
  obtain ⟨x0, x1, x2, x3, y0, y1, y2, y3, z0, z1, z2, z3, v0, v1, v2, v3⟩ := sixteen h1 h2 h3 h4
  obtain ⟨s0, s1, s2, s3, -⟩ := four_of h5
  exact ⟨x0, x1, x2, x3, y0, y1, y2, y3, z0, z1, z2, z3, v0, v1, v2, v3, s0, s1, s2, s3⟩
end Go.Proofs.YtbicodlclmdgaaaGreatDoor
