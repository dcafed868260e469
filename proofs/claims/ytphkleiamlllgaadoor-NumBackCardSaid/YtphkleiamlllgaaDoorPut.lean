/-
  What Put of package num does behind nil, and what slices.Clone does to a list of bytes that is not empty.
-/
import Derived.Test.YtphkleiamlllgaaDoorRows
import Derived.Test.YtphkleiamlllgaaDoorEnc
import Derived.WalkKit
import Derived.WalkSpells
import Derived.WalkLawsBesides
import Derived.Laws.BitsAllLaws
import Derived.Laws.Bits128
import Derived.Lib.SliceRun
import Derived.Lib.Hide
namespace Go.Proofs.YtphkleiamlllgaaDoor
open Go.RowKit

theorem info5 : (Tryd.prog.info? 5).map (fun i => (i.zero, i.size, i.bytes)) = some (some (.int .u8 0), 1, 1) := by kernel_rfl

theorem or128 (m : Nat) : bits .or .u8 ((m : Int) % 256) 128 = ((m % 128 + 128 : Nat) : Int) := by
  have h : ∀ x : Fin 256, bits .or .u8 ((x.val : Nat) : Int) 128 = ((x.val % 128 + 128 : Nat) : Int) := by decide +kernel
  have e : (m : Int) % 256 = ((m % 256 : Nat) : Int) := by omega
  rw [e, h ⟨m % 256, by omega⟩]
  simp

/-- slices.Clone of nil. -/
theorem clone_nil (w : World) : Calls Tryd.prog 14 #[.slice none 0 0] w fun e w' => e = .returned (.slice none 0 0) ∧ w' = w := by
  have hsn := fun w => Lib.run_eql_slice_nil (P := Tryd.prog) w 31 5 none 0 0 0 0 Tryd.underlying31
  go_enter Tryd.func14, Tryd.ntmps14
  go_wp2
  go_ret
  exact ⟨rfl, rfl⟩

set_option maxHeartbeats 1000000 in
set_option maxRecDepth 100000 in
theorem put_nil (u : Nat) (hu : u < 18446744073709551616) (w : World) :
    Calls Tryd.prog 12 #[.slice none 0 0, .int .u64 u] w fun e w' => ∃ v, e = .returned v ∧ w'.ownsRow w.heap.size 5 1 v (enc u).length ((enc u).map (Value.int .u8)) ∧ Below w.heap.size w w' := by
  obtain ⟨i0, hi, hz0, hz1, hz2⟩ := info_parts info5
  go_enter Tryd.func12, Tryd.ntmps12
  go_wp2_with (go_at_call 14; refine (clone_nil _).mono ?_; rintro e w' ⟨rfl, rfl⟩)
  go_loopw [1, 5] (fun a v wr => ∃ (f m : Nat) (pre : List Int), f ≤ 9 ∧ a = .int .u64 m ∧ m < 128 ^ (f + 1) ∧ pre.length + f = 9 ∧ pre ++ encF f m = enc u ∧ wr.ownsRow w'.heap.size 5 1 v pre.length (pre.map (Value.int .u8)) ∧ Below w'.heap.size w' wr ∧ w'.heap.size ≤ wr.heap.size)
    (fun a _ _ => (intOf a).toNat)
  case atStart => exact ⟨9, u, [], Nat.le_refl _, rfl, by omega, rfl, rfl, World.ownsRow_nil _ _ _ _, Below.refl _ _, Nat.le_refl _⟩
  case round =>
    obtain ⟨f, m, pre, hf, rfl, hm, hlen, hE, hown, hbel, hB⟩ := hrel
    by_cases hge : 128 ≤ m
    · have ho := or128 m
      obtain ⟨f, rfl⟩ : ∃ g, f = g + 1 := by
        cases f with
        | zero => simp at hm; omega
        | succ g => exact ⟨g, rfl⟩
      rw [encF_high _ _ hge] at hE
      obtain ⟨x, hx⟩ : ∃ x, ((m % 128 + 128 : Nat) : Int) = x := ⟨_, rfl⟩
      rw [hx] at ho hE
      have HX : Hid (m / 128 < 128 ^ (f + 1)) := by rw [Nat.pow_succ] at hm; exact Nat.div_lt_of_lt_mul (by rw [Nat.mul_comm]; exact hm)
      have HE : Hid (pre ++ x :: encF f (m / 128) = enc u) := hE
      clear hx hm hE
      go_wp2_with (first
        | (at_builtin; refine wpList_append_own _ rfl _ _ 31 rfl w'.heap.size 5 i0 (.int .u8 0) 1 1 Tryd.underlying31 hi hz0 hz1 hz2 rfl (by decide) _ _ _ rfl (hown.alloc _) ⟨wr.heap.size, 0, none⟩ 1 1 [.int .u8 x] rfl rfl (cell_one_new _ _ _) (by intro q hq; simp at hq; subst hq; rfl) (by unfold maxLen; omega) (by omega) (by simp; omega) ?_)
        | go_in)
      intro v' w1 hown' hgrow _
      have hS : Below w'.heap.size w' w1 ∧ w'.heap.size ≤ w1.heap.size := by
        refine ⟨(hbel.alloc hB _).grown hgrow (by simp; omega) (fun k e => (hown.lt k e).1), ?_⟩
        have := hgrow.size; simp at this; omega
      clear hgrow hown hbel hB
      go_wp2
      go_roundw
      case rel => exact ⟨f, m / 128, pre ++ [x], by omega, by go_num, HX.out, by simp; omega, by have := HE.out; simpa using this, by simpa using hown', hS.1, hS.2⟩
      case measure => simp [intOf]; omega
    · rw [encF_low _ _ (by omega)] at hE
      have hb8 : (m : Int) % 256 = m := by omega
      have HE : Hid (pre ++ [(m : Int)] = enc u) := hE
      clear hE hm
      go_wp2_with (first
        | (at_builtin; refine wpList_append_own _ rfl _ _ 31 rfl w'.heap.size 5 i0 (.int .u8 0) 1 1 Tryd.underlying31 hi hz0 hz1 hz2 rfl (by decide) _ _ _ rfl (hown.alloc _) ⟨wr.heap.size, 0, none⟩ 1 1 [.int .u8 m] rfl rfl (cell_one_new _ _ _) (by intro q hq; simp at hq; subst hq; rfl) (by unfold maxLen; omega) (by omega) (by simp; omega) ?_)
        | go_in)
      intro v' w1 hown' hgrow _
      have hS : Below w'.heap.size w' w1 := (hbel.alloc hB _).grown hgrow (by simp; omega) (fun k e => (hown.lt k e).1)
      clear hgrow hown hbel hB
      go_wp2
      go_ret
      exact ⟨_, rfl, by rw [← HE.out]; simpa using hown', hS⟩

/-- Put behind nil, its result told: a slice at the head of a new block, whose cells are the number's bytes. -/
theorem put_told (u : Nat) (hu : u < 18446744073709551616) (w : World) :
    Calls Tryd.prog 12 #[.slice none 0 0, .int .u64 u] w fun e w' => ∃ g cap, e = .returned (.slice (some ⟨g, 0, none⟩) (enc u).length cap) ∧ (enc u).length ≤ cap ∧ g < w'.heap.size ∧
      (∀ i, i < (enc u).length → w'.cell? ⟨g, 0 + i, none⟩ = some (.int .u8 ((enc u).getD i 0))) ∧ Below w.heap.size w w' := by
  refine (put_nil u hu w).mono ?_
  rintro e w' ⟨v, rfl, hown, hb⟩
  have hp := enc_pos u
  have hown0 := hown
  rcases hown.2 with ⟨_, h0⟩ | ⟨g, cap, cur, rfl, _, hg, hnc, _⟩
  · omega
  · refine ⟨g, cap, rfl, hnc, (hown0.lt g rfl).2, fun i hi => ?_, hb⟩
    rw [Nat.zero_add, hown0.cellAt i (by omega)]
    simp [List.getD, hi]

set_option maxHeartbeats 1000000 in
/-- slices.Clone of a list of some bytes: they lie in a row of its own. -/
theorem clone_some (g n cap : Nat) (xs : List Int) (hn : xs.length = n) (h10 : n ≤ 10) (w : World) (hc : ∀ i, i < n → w.cell? ⟨g, 0 + i, none⟩ = some (.int .u8 (xs.getD i 0))) :
    Calls Tryd.prog 14 #[.slice (some ⟨g, 0, none⟩) n cap] w fun e w' => ∃ v, e = .returned v ∧ w'.ownsRow w.heap.size 5 1 v n (xs.map (Value.int .u8)) ∧ Below w.heap.size w w' := by
  obtain ⟨i0, hi, hz0, hz1, hz2⟩ := info_parts info5
  have hsn := fun w => Lib.run_eql_slice_nil (P := Tryd.prog) w 31 5 (some ⟨g, 0, none⟩) n cap 0 0 Tryd.underlying31
  have hcells : ∀ (o : Obj) (j : Nat) (u : Value), (xs.map (Value.int .u8))[j]? = some u → (w.alloc o).cell? ((⟨g, 0, none⟩ : Addr).add j) = some u := fun o j u hj => by
    have hjl : j < xs.length := by
      have := (List.getElem?_eq_some_iff.1 hj).1
      simpa using this
    have h1 := hc j (by omega)
    have e : u = .int .u8 (xs.getD j 0) := by
      rw [List.getElem?_map, List.getElem?_eq_getElem hjl] at hj
      simp at hj
      rw [← hj]; simp [List.getD, hjl]
    rw [e]
    have ea : (⟨g, 0, none⟩ : Addr).add j = ⟨g, 0 + j, none⟩ := by rw [Go.WideShapes.add_plain]
    rw [ea]
    exact (World.cell?_alloc_lt _ _ _ (World.block_lt_of_cell? _ _ h1)).trans h1
  have hone : ∀ u ∈ xs.map (Value.int .u8), u.oneCell' = true := fun u hu => by
    obtain ⟨z, _, rfl⟩ := List.mem_map.1 hu; rfl
  have H1 := Lib.hid hcells
  have H2 := Lib.hid hone
  have hlit : (w.alloc (.cells #[] 5)).ownsRow w.heap.size 5 1 (.slice (some ⟨w.heap.size, 0, none⟩) 0 0) 0 [] := World.ownsRow_lit w #[] 0 (Nat.le_refl _) (by decide) rfl
  have H3 := Lib.hid hlit
  clear hcells hone hlit hc
  go_enter Tryd.func14, Tryd.ntmps14
  go_wp2_with (first
    | (at_builtin; refine wpList_append_own _ rfl _ _ 31 rfl w.heap.size 5 i0 (.int .u8 0) 1 1 Tryd.underlying31 hi hz0 hz1 hz2 rfl (by decide) _ _ _ rfl H3.out ⟨g, 0, none⟩ n cap (xs.map (Value.int .u8)) rfl (by simp [hn]) (H1.out _) H2.out (by unfold maxLen; omega) (by omega) (by simp) ?_)
    | go_in)
  intro v' w1 hown' hgrow _
  have hS : Below w.heap.size w w1 := ((Below.refl _ w).alloc (Nat.le_refl _) _).grown hgrow (by simp) (fun k e => by simp [Value.ownBlock] at e; omega)
  have HO := Lib.hid hown'
  clear hgrow hown' H1 H2 H3
  go_wp2
  go_ret
  exact ⟨_, rfl, HO.out, hS⟩
end Go.Proofs.YtphkleiamlllgaaDoor
