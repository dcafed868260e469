/-
  What the document's Digits does: the decimal digits of a number without its sign.
-/
import Derived.Test.YtphkleiamlllgaaDoorRefParse
import Derived.Laws.AppendOwnNone
import Derived.Lib.Hide
namespace Go.Proofs.YtphkleiamlllgaaDoor
open Go.RowKit

/-- The digits of u, as numbers. -/
def decI (u : Nat) : List Int := (Lib.decDigits u).map fun c => (c.toNat : Int) - 48
theorem byte48 (x : Nat) (h : x < 10) : ((UInt8.ofNat (48 + x)).toNat : Int) - 48 = x := by
  rw [UInt8.toNat_ofNat']
  have : (48 + x) % 2 ^ 8 = 48 + x := Nat.mod_eq_of_lt (by omega)
  rw [this]; omega
theorem decI_one {u : Nat} (h : u < 10) : decI u = [(u : Int)] := by
  unfold decI; rw [Lib.decDigits_one h]; simp only [List.map_cons, List.map_nil, byte48 u h]
theorem decI_more {u : Nat} (h : ¬ u < 10) : decI u = decI (u / 10) ++ [((u % 10 : Nat) : Int)] := by
  unfold decI; rw [Lib.decDigits, dif_neg h, List.map_append]; simp only [List.map_cons, List.map_nil, byte48 (u % 10) (by omega)]
theorem decI_length (u : Nat) : (decI u).length = Lib.nDigits u := by unfold decI; rw [List.length_map, Lib.decDigits_length]
theorem decI_le (u : Nat) (h : u < 18446744073709551616) : (decI u).length ≤ 20 := by rw [decI_length]; exact Lib.nDigits_le20 u h
theorem decI_pos (u : Nat) : 0 < (decI u).length := by rw [decI_length]; exact Lib.nDigits_pos u

/-- Where the loop stands: what is left of the number, and the digits that were taken. -/
def Left10 (u0 u : Nat) (l : List Int) : Prop := (l = [] ∧ u = u0) ∨ (l ≠ [] ∧ (u = 0 ∧ l = decI u0 ∨ 0 < u ∧ decI u ++ l = decI u0))
theorem left_step {u0 u : Nat} {l : List Int} (h : Left10 u0 u l) (hc : 0 < u ∨ l = []) : Left10 u0 (u / 10) (((u % 10 : Nat) : Int) :: l) := by
  refine .inr ⟨by simp, ?_⟩
  rcases h with ⟨rfl, rfl⟩ | ⟨hl, ⟨rfl, rfl⟩ | ⟨hp, he⟩⟩
  · by_cases hu : u < 10
    · left; exact ⟨by omega, by rw [decI_one hu]; congr; omega⟩
    · right; exact ⟨by omega, by rw [← decI_more hu]⟩
  · rcases hc with h | h
    · exact absurd h (by omega)
    · exact absurd h hl
  · by_cases hu : u < 10
    · left; refine ⟨by omega, ?_⟩
      rw [← he, decI_one hu, show u % 10 = u by omega]; rfl
    · right; refine ⟨by omega, ?_⟩
      rw [← he, decI_more hu]; simp
theorem left_len {u0 u : Nat} {l : List Int} (h : Left10 u0 u l) : l.length ≤ (decI u0).length := by
  rcases h with ⟨rfl, _⟩ | ⟨_, ⟨_, rfl⟩ | ⟨_, he⟩⟩
  · simp
  · exact Nat.le_refl _
  · rw [← he, List.length_append]; omega
theorem left_end {u0 : Nat} {l : List Int} (h : Left10 u0 0 l) (hl : l ≠ []) : l = decI u0 := by
  rcases h with ⟨h, _⟩ | ⟨_, ⟨_, h⟩ | ⟨h, _⟩⟩
  · exact absurd h hl
  · exact h
  · exact absurd h (by omega)
theorem left_room {u0 u : Nat} {l : List Int} (h : Left10 u0 u l) (hp : 0 < u) : l.length + 1 ≤ (decI u0).length := by
  rcases h with ⟨rfl, _⟩ | ⟨_, ⟨h, _⟩ | ⟨_, he⟩⟩
  · have := decI_pos u0; simp; omega
  · omega
  · have := decI_pos u; rw [← he, List.length_append]; omega

theorem info3 : (Tryd.prog.info? 3).map (fun i => (i.zero, i.size, i.bytes)) = some (some (.int .i64 0), 1, 8) := by kernel_rfl

set_option maxHeartbeats 400000 in
theorem bare_any (a : Int) (ha : fits a = true) (w : World) :
    Calls Tryd.prog 22 #[.int .i64 a] w fun e w' => e = .returned (.int .u64 (a.natAbs : Int)) ∧ w' = w := by
  obtain ⟨a1, a2⟩ := (fits_iff a).1 ha
  clear ha
  by_cases h : a < 0
  · go_enter Tryd.func22, Tryd.ntmps22
    go_wp2
    go_ret
    exact ⟨ret_int (by simp only [IntKind.wrap_u64]; omega), rfl⟩
  · go_enter Tryd.func22, Tryd.ntmps22
    go_wp2
    go_ret
    exact ⟨ret_int (by omega), rfl⟩

def nilOf : Value → Nat | .slice none _ _ => 1 | _ => 0

set_option maxHeartbeats 2000000 in
theorem refDigits_own (n : Int) (hn : fits n = true) (w : World) :
    Calls Tryd.prog 11 #[.int .i64 n] w fun e w' => ∃ v, e = .returned v ∧ w'.ownsRow w.heap.size 3 1 v (decI n.natAbs).length ((decI n.natAbs).map (Value.int .i64)) ∧ Below w.heap.size w w' := by
  obtain ⟨i0, hi, hz0, hz1, hz2⟩ := info_parts info3
  have hb := bare_any n hn
  have hu0 : n.natAbs < 18446744073709551616 := by have := (fits_iff n).1 hn; omega
  have hlen := decI_le _ hu0
  obtain ⟨u0, hu⟩ : ∃ u0, n.natAbs = u0 := ⟨_, rfl⟩
  rw [hu] at hb hlen hu0 ⊢
  clear hu hn
  go_enter Tryd.func11, Tryd.ntmps11
  go_wp2_with (go_at_call 22; refine (hb _).mono ?_; rintro e w' ⟨rfl, rfl⟩)
  go_loopw [3, 4] (fun a v wr => ∃ (u : Nat) (l : List Int), a = .int .u64 u ∧ u < 18446744073709551616 ∧ Left10 u0 u l ∧ wr.ownsRow w'.heap.size 3 1 v l.length (l.map (Value.int .i64)) ∧ (l = [] → v = .slice none 0 0) ∧ Below w'.heap.size w' wr ∧ w'.heap.size ≤ wr.heap.size)
    (fun a v _ => 2 * (intOf a).toNat + nilOf v)
  case atStart => exact ⟨u0, [], rfl, hu0, .inl ⟨rfl, rfl⟩, World.ownsRow_nil _ _ _ _, fun _ => rfl, Below.refl _ _, Nat.le_refl _⟩
  case round =>
    obtain ⟨u, l, rfl, hu64, hleft, hown, hnil, hbel, hB⟩ := hrel
    have hll := left_len hleft
    by_cases hl : l = []
    · have hv := hnil hl
      subst hl
      subst hv
      have HS : Hid (Left10 u0 (u / 10) [((u % 10 : Nat) : Int)]) := left_step hleft (.inr rfl)
      have HO : Hid (∀ y : Int, (wr.alloc (.cells #[.int .i64 y] 3)).ownsRow w'.heap.size 3 1 (.slice (some ⟨wr.heap.size, 0, none⟩) 1 1) 1 [.int .i64 y]) := fun y => World.ownsRow_lit wr #[.int .i64 y] 1 hB (by decide) rfl
      have HB : Hid (∀ o : Obj, Below w'.heap.size w' (wr.alloc o) ∧ w'.heap.size ≤ (wr.alloc o).heap.size) := fun o => ⟨hbel.alloc hB o, by simp; omega⟩
      clear hleft hnil hown hbel hB
      by_cases hz : u = 0
      · subst hz
        go_wp2
        go_roundw
        case rel => exact ⟨0, [0], rfl, by omega, HS.out, HO.out 0, (fun h => by cases h), (HB.out _).1, (HB.out _).2⟩
        case measure => simp [intOf, nilOf]
      · have hp : (0 : Int) < (u : Int) := by omega
        go_wp2
        go_roundw
        case rel => exact ⟨u / 10, [((u % 10 : Nat) : Int)], by go_num, by omega, HS.out, HO.out _, (fun h => by cases h), (HB.out _).1, (HB.out _).2⟩
        case measure => simp [intOf, nilOf]; omega
    · have hshape : ∃ g cap, u4 = .slice (some ⟨g, 0, none⟩) l.length cap ∧ w'.heap.size ≤ g := by
        rcases hown.2 with ⟨_, h0⟩ | ⟨g, cap, cur, rfl, hg, _⟩
        · exact absurd (List.eq_nil_of_length_eq_zero h0) hl
        · exact ⟨g, cap, rfl, hg⟩
      obtain ⟨g, cap, rfl, hg⟩ := hshape
      have hlp : 0 < l.length := by cases l with
        | nil => exact absurd rfl hl
        | cons a b => simp
      have hlz : ((l.length : Int) == 0) = false := by simp; omega
      by_cases hz : u = 0
      · subst hz
        have HE : Hid (l = decI u0) := left_end hleft hl
        clear hleft hnil
        go_wp2
        go_ret
        exact ⟨_, rfl, by rw [← HE.out]; exact hown, hbel⟩
      · have hp : (0 : Int) < (u : Int) := by omega
        have HS : Hid (Left10 u0 (u / 10) (((u % 10 : Nat) : Int) :: l)) := left_step hleft (.inl (by omega))
        have hroom := left_room hleft (by omega)
        have hcells := hown.cells (g := g) rfl
        have hcells' : ∀ (o : Obj) (j : Nat) (v : Value), (l.map (Value.int .i64))[j]? = some v → (wr.alloc o).cell? ((⟨g, 0, none⟩ : Addr).add j) = some v := fun o j v hj => by
          have h1 := hcells j v hj
          exact (World.cell?_alloc_lt _ _ _ (World.block_lt_of_cell? _ _ h1)).trans h1
        have hlit : ∀ y : Int, (wr.alloc (.cells #[.int .i64 y] 3)).ownsRow w'.heap.size 3 1 (.slice (some ⟨wr.heap.size, 0, none⟩) 1 1) 1 [.int .i64 y] := fun y => World.ownsRow_lit wr #[.int .i64 y] 1 hB (by decide) rfl
        have hone : ∀ v ∈ l.map (Value.int .i64), v.oneCell' = true := fun v hv => by
          obtain ⟨z, _, rfl⟩ := List.mem_map.1 hv; rfl
        have H1 := Lib.hid hlit
        have H2 := Lib.hid hcells'
        have H3 := Lib.hid hone
        clear hleft hnil hown hcells hcells' hlit hone
        go_wp2_with (first
          | (at_builtin; refine wpList_append_own _ rfl _ _ 27 rfl w'.heap.size 3 i0 (.int .i64 0) 1 8 Tryd.underlying27 hi hz0 hz1 hz2 rfl (by decide) _ _ _ rfl (H1.out _) ⟨g, 0, none⟩ l.length cap (l.map (Value.int .i64)) rfl (by simp) (H2.out _) H3.out (by unfold maxLen; omega) (by omega) (by simp; omega) ?_)
          | go_in)
        intro v' w1 hown' hgrow hv'
        have hB1 : Below w'.heap.size w' w1 := (hbel.alloc hB _).grown hgrow (by simp; omega) (fun k e => by simp [Value.ownBlock] at e; omega)
        have hB2 : w'.heap.size ≤ w1.heap.size := by have := hgrow.size; simp at this; omega
        have hnv : nilOf v' = 0 := by
          rcases hown'.2 with ⟨_, h0⟩ | ⟨g', cap', cur, rfl, _⟩
          · omega
          · rfl
        have HO := Lib.hid hown'
        clear hgrow hown' H1 H2 H3 hv'
        go_wp2
        go_roundw
        case rel => exact ⟨u / 10, ((u % 10 : Nat) : Int) :: l, by go_num, by omega, HS.out, by have := HO.out; rw [Nat.add_comm] at this; exact this, (fun h => by cases h), hB1, hB2⟩
        case measure => rw [hnv]; simp [intOf]; omega
/-- Its result told: a slice at the head of a new block, whose cells are the digits. -/
theorem refDigits_told (n : Int) (hn : fits n = true) (w : World) :
    Calls Tryd.prog 11 #[.int .i64 n] w fun e w' => ∃ g cap, e = .returned (.slice (some ⟨g, 0, none⟩) (decI n.natAbs).length cap) ∧ g < w'.heap.size ∧
      (∀ i, i < (decI n.natAbs).length → w'.cell? ⟨g, 0 + i, none⟩ = some (.int .i64 ((decI n.natAbs).getD i 0))) ∧ Below w.heap.size w w' := by
  refine (refDigits_own n hn w).mono ?_
  rintro e w' ⟨v, rfl, hown, hb⟩
  have hp := decI_pos n.natAbs
  have hown0 := hown
  rcases hown.2 with ⟨_, h0⟩ | ⟨g, cap, cur, rfl, _, hg, hnc, _⟩
  · omega
  · refine ⟨g, cap, rfl, (hown0.lt g rfl).2, fun i hi => ?_, hb⟩
    rw [Nat.zero_add, hown0.cellAt i (by omega)]
    simp [List.getD, hi]
end Go.Proofs.YtphkleiamlllgaaDoor
