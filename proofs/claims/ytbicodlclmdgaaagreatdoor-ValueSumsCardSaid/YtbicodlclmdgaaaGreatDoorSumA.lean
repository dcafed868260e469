/-
  What Sum of package num does: the wide sum of all, narrowed.
-/
import Derived.Test.YtbicodlclmdgaaaGreatDoorSumW
import Derived.Deep.RegionWith
namespace Go.Proofs.YtbicodlclmdgaaaGreatDoor.sums
open Go.RowKit Go.Shelf

/-- The sum of all. -/
def tot : List Int → Int
  | [] => 0
  | x :: r => x + tot r
theorem tot_append (a b : List Int) : tot (a ++ b) = tot a + tot b := by
  induction a with
  | nil => simp [tot]
  | cons x r ih => simp only [List.cons_append, tot, ih]; omega
theorem tot_bd (l : List Int) (h : ∀ n ∈ l, fits n = true) : -9223372036854775808 * (l.length : Int) ≤ tot l ∧ tot l ≤ 9223372036854775807 * (l.length : Int) := by
  induction l with
  | nil => simp [tot]
  | cons x r ih =>
    have h1 := (fits_iff x).1 (h x (by simp))
    have h2 := ih (fun n hn => h n (by simp [hn]))
    simp only [tot, List.length_cons]
    omega
theorem tot_take (zs : List Int) (k : Nat) (h : k < zs.length) : tot (zs.take (k + 1)) = tot (zs.take k) + zs.getD k 0 := by
  rw [List.take_succ_eq_append_getElem h, tot_append]; simp [tot, List.getD, h]

theorem past1 {wr : World} {B off : Nat} (h : B < wr.heap.size) (o1 : Obj) : (wr.alloc o1).cell? ⟨B, off, none⟩ = wr.cell? ⟨B, off, none⟩ := World.cell?_alloc_past _ _ _ h
theorem past4 {wr : World} {B off : Nat} (h : B < wr.heap.size) (o1 o2 o3 o4 : Obj) : ((((wr.alloc o1).alloc o2).alloc o3).alloc o4).cell? ⟨B, off, none⟩ = wr.cell? ⟨B, off, none⟩ := by
  rw [World.cell?_alloc_past _ _ _ (by simp; omega), World.cell?_alloc_past _ _ _ (by simp; omega), World.cell?_alloc_past _ _ _ (by simp; omega), World.cell?_alloc_past _ _ _ h]

theorem pastf4 {wr : World} {B off : Nat} (h : B < wr.heap.size) (o1 o2 o3 o4 : Obj) : ((((wr.alloc o1).alloc o2).alloc o3).alloc o4).frozen? ⟨B, off, none⟩ = wr.frozen? ⟨B, off, none⟩ := by
  rw [World.frozen?_alloc_old _ _ _ (by simp; omega), World.frozen?_alloc_old _ _ _ (by simp; omega), World.frozen?_alloc_old _ _ _ (by simp; omega), World.frozen?_alloc_old _ _ _ (by show B ≠ _; omega)]

/-- What a round does to the two cells of the sum. -/
theorem sum_step {w wr : World} {x y u v : Int} (hc0 : wr.cell? ⟨w.heap.size, 0, none⟩ = some (.int .u64 x)) (hc1 : wr.cell? ⟨w.heap.size, 1, none⟩ = some (.int .u64 y))
    (hf0 : wr.frozen? ⟨w.heap.size, 0, none⟩ = false) (hf1 : wr.frozen? ⟨w.heap.size, 1, none⟩ = false) (hlt : w.heap.size < wr.heap.size) (hbel : Below w.heap.size w wr) (o1 o2 o3 o4 : Obj) :
    (((((((wr.alloc o1).alloc o2).alloc o3).alloc o4).setCell ⟨w.heap.size, 0, none⟩ (.int .u64 u)).setCell ⟨w.heap.size, 1, none⟩ (.int .u64 v)).drew.cell? ⟨w.heap.size, 0, none⟩ = some (.int .u64 u)) ∧
    (((((((wr.alloc o1).alloc o2).alloc o3).alloc o4).setCell ⟨w.heap.size, 0, none⟩ (.int .u64 u)).setCell ⟨w.heap.size, 1, none⟩ (.int .u64 v)).drew.cell? ⟨w.heap.size, 1, none⟩ = some (.int .u64 v)) ∧
    (((((((wr.alloc o1).alloc o2).alloc o3).alloc o4).setCell ⟨w.heap.size, 0, none⟩ (.int .u64 u)).setCell ⟨w.heap.size, 1, none⟩ (.int .u64 v)).drew.frozen? ⟨w.heap.size, 0, none⟩ = false) ∧
    (((((((wr.alloc o1).alloc o2).alloc o3).alloc o4).setCell ⟨w.heap.size, 0, none⟩ (.int .u64 u)).setCell ⟨w.heap.size, 1, none⟩ (.int .u64 v)).drew.frozen? ⟨w.heap.size, 1, none⟩ = false) ∧
    w.heap.size < ((((((wr.alloc o1).alloc o2).alloc o3).alloc o4).setCell ⟨w.heap.size, 0, none⟩ (.int .u64 u)).setCell ⟨w.heap.size, 1, none⟩ (.int .u64 v)).drew.heap.size ∧
    Below w.heap.size w ((((((wr.alloc o1).alloc o2).alloc o3).alloc o4).setCell ⟨w.heap.size, 0, none⟩ (.int .u64 u)).setCell ⟨w.heap.size, 1, none⟩ (.int .u64 v)).drew := by
  have p0 := (past4 hlt (off := 0) o1 o2 o3 o4).trans hc0
  have p1 := (past4 hlt (off := 1) o1 o2 o3 o4).trans hc1
  have r0 := (pastf4 hlt (off := 0) o1 o2 o3 o4).trans hf0
  have r1 := (pastf4 hlt (off := 1) o1 o2 o3 o4).trans hf1
  have hb4 : Below w.heap.size w ((((wr.alloc o1).alloc o2).alloc o3).alloc o4) :=
    (((hbel.alloc (by omega) _).alloc (by simp; omega) _).alloc (by simp; omega) _).alloc (by simp; omega) _
  have hs4 : w.heap.size < ((((wr.alloc o1).alloc o2).alloc o3).alloc o4).heap.size := by simp; omega
  generalize ((((wr.alloc o1).alloc o2).alloc o3).alloc o4) = W at p0 p1 r0 r1 hb4 hs4 ⊢
  refine ⟨?_, ?_, ?_, ?_, ?_, ((hb4.setCell (Nat.le_refl _) _).setCell (Nat.le_refl _) _).drew⟩
  · exact (World.cell?_setCell_other _ _ _ _ (by simp)).trans (World.cell?_setCell_same _ _ _ p0)
  · exact World.cell?_setCell_same _ _ _ ((World.cell?_setCell_other _ _ _ _ (by simp)).trans p1)
  · exact (World.frozen?_setCell _ _ _ _).trans ((World.frozen?_setCell _ _ _ _).trans r0)
  · exact (World.frozen?_setCell _ _ _ _).trans ((World.frozen?_setCell _ _ _ _).trans r1)
  · show _ < ((W.setCell _ _).setCell _ _).heap.size
    simpa [World.setCell] using hs4

set_option maxHeartbeats 1000000 in
theorem numSum_any (b off len cap : Nat) (zs : List Int) (w : World) (hreach : len * 8 ≤ 140737488351232) (hz : len ≤ zs.length) (hb : b < w.heap.size)
    (hc : ∀ j, j < zs.length → w.cell? ⟨b, off + j, none⟩ = some (.int .i64 (zs.getD j 0))) (hf : ∀ n ∈ zs, fits n = true) :
    Calls Tryz.prog 53 #[.slice (some ⟨b, off, none⟩) len cap] w fun e w' =>
      e = .returned (.tuple #[.int .i64 (nv (tot (zs.take len))), .int .i64 (ne (tot (zs.take len)))]) ∧ Below w.heap.size w w' := by
  go_enter Tryz.func53, Tryz.ntmps53
  go_wp2
  go_loopw [9] (fun i wr => ∃ k : Nat, k ≤ len ∧ i = .int .i64 k ∧ wr.cell? ⟨w.heap.size, 0, none⟩ = some (.int .u64 (wHi (tot (zs.take k)))) ∧ wr.cell? ⟨w.heap.size, 1, none⟩ = some (.int .u64 (wLo (tot (zs.take k)))) ∧
      wr.frozen? ⟨w.heap.size, 0, none⟩ = false ∧ wr.frozen? ⟨w.heap.size, 1, none⟩ = false ∧ w.heap.size < wr.heap.size ∧ Below w.heap.size w wr)
    (fun i _ => len - (intOf i).toNat)
  case atStart => exact ⟨0, Nat.zero_le _, rfl, by simp [go_sem, tot, wHi], by simp [go_sem, tot, wLo], by simp [go_sem], by simp [go_sem], by simp, (Below.refl _ _).alloc (Nat.le_refl _) _⟩
  case round =>
    obtain ⟨k, hk, rfl, hc0, hc1, hf0, hf1, hlt, hbel⟩ := hrel
    by_cases hkl : k < len
    · have hcx : wr.cell? ⟨b, off + k, none⟩ = some (.int .i64 (zs.getD k 0)) := (hbel.cell (by exact hb)).trans (hc k (by omega))
      obtain ⟨n, hn⟩ : ∃ n, zs.getD k 0 = n := ⟨_, rfl⟩
      have hfn : fits n = true := hf n (by rw [← hn]; simp [List.getD, show k < zs.length by omega])
      rw [hn] at hcx
      obtain ⟨t, ht⟩ : ∃ t, tot (zs.take k) = t := ⟨_, rfl⟩
      have HT : Hid (tot (zs.take (k + 1)) = t + n) := by rw [← ht, ← hn]; exact tot_take zs k (by omega)
      rw [ht] at hc0 hc1
      have p0 := fun o1 o2 o3 o4 => (past4 hlt (off := 0) o1 o2 o3 o4).trans hc0
      have p1 := fun o1 o2 o3 o4 => (past4 hlt (off := 1) o1 o2 o3 o4).trans hc1
      have r0 := fun o1 o2 o3 o4 => (pastf4 hlt (off := 0) o1 o2 o3 o4).trans hf0
      have r1 := fun o1 o2 o3 o4 => (pastf4 hlt (off := 1) o1 o2 o3 o4).trans hf1
      clear hn ht hc hf
      go_wp2
      go_region_with (first
          | (go_at_call 75; refine (widen_any n hfn _).mono ?_; rintro e w' ⟨rfl, o1, rfl⟩)
          | (go_at_call 74; refine (plus_laid t n _).mono ?_; rintro e w' ⟨rfl, o2, o3, o4, rfl⟩))
      all_goals go_wp2
      all_goals
        go_roundw
        case rel => exact ⟨k + 1, by omega, by go_num, by rw [HT.out]; exact sum_step hc0 hc1 hf0 hf1 hlt hbel _ _ _ _⟩
        case measure => simp [intOf]; omega
    · have e1 : k = len := by omega
      subst e1
      have hbd := tot_bd (zs.take k) (fun n hn => hf n (List.mem_of_mem_take hn))
      have hln : (zs.take k).length ≤ k := List.length_take_le _ _
      have k1 : -170141183460469231731687303715884105728 ≤ tot (zs.take k) := by omega
      have k2 : tot (zs.take k) < 170141183460469231731687303715884105728 := by omega
      clear hc hf hbd hln
      go_wp2_with (go_at_call 76; refine (narrow_any (tot (zs.take k)) k1 k2 _).mono ?_; rintro e w4 ⟨rfl, hg4⟩)
      go_ret2
      exact ⟨rfl, hbel.trans (hg4.2.mono (by omega))⟩

/-- A slice without elements, a nil one too. -/
theorem numSum_none (a : Option Addr) (cap : Nat) (w : World) :
    Calls Tryz.prog 53 #[.slice a 0 cap] w fun e w' => e = .returned (.tuple #[.int .i64 0, .int .i64 0]) ∧ Below w.heap.size w w' := by
  have h0 : wHi 0 = 0 := by decide
  have h1 : wLo 0 = 0 := by decide
  have hn := narrow_any 0 (by omega) (by omega)
  rw [h0, h1, show nv 0 = 0 by decide, show ne 0 = 0 by decide] at hn
  clear h0 h1
  go_enter Tryz.func53, Tryz.ntmps53
  go_wp2
  refine wp_loop_rounds 1 ?_
  rw [rounds_succ]
  go_wp2_with (go_at_call 76; refine (hn _).mono ?_; rintro e w4 ⟨rfl, hg4⟩)
  go_ret2
  exact ⟨rfl, ((Below.refl _ _).alloc (Nat.le_refl _) _).trans (hg4.2.mono (by simp))⟩
end Go.Proofs.YtbicodlclmdgaaaGreatDoor.sums
