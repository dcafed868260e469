/-
  A node's form, and how long it is: numberSize, headSize, bytesSize, cellSize of package node.
-/
import Derived.Test.YtbkpgppaahpalaaChi
import Derived.Test.YtbkpgppaahpalaaNumT
import Derived.Deep.RegionWith
import Derived.Deep.RegionHeld3
namespace Go.Proofs.Ytbkpgppaahpalaa
open Go.RowKit
set_option linter.unusedVariables false      -- a walk need not use every condition

/-- A number's bytes, of those of uint64. -/
def nI (x : Int) : List UInt8 := vnt (x % 18446744073709551616).toNat
theorem nI_nat {n : Nat} (h : n < 18446744073709551616) : nI (n : Int) = vnt n := by unfold nI; congr 1; omega
theorem nI_le (x : Int) : (nI x).length ≤ 10 := vnt_le _
def keyF (k : List UInt8) : List UInt8 := vnt k.length ++ k
def valF (c : C) : List UInt8 := if c.over = 0 then 0 :: keyF c.val else 1 :: (nI c.len ++ nI c.over)
def cellF (c : C) : List UInt8 := keyF c.key ++ valF c
def form (n : Nd) : List UInt8 := if n.leaf then 1 :: (vnt n.cells.length ++ n.cells.flatMap cellF) else 2 :: (vnt n.keys.length ++ (n.keys.flatMap keyF ++ n.kids.flatMap nI))
theorem flat_next {α : Type} (f : α → List UInt8) (L : List α) {i : Nat} (h : i < L.length) : (L.take (i + 1)).flatMap f = (L.take i).flatMap f ++ f L[i] := by
  rw [List.take_succ_eq_append_getElem h, List.flatMap_append]
  simp
theorem flat_le' {α : Type} (f : α → List UInt8) (L : List α) (i : Nat) : ((L.take i).flatMap f).length ≤ (L.flatMap f).length := by
  have h := List.take_append_drop i L
  have h2 : L.flatMap f = (L.take i).flatMap f ++ (L.drop i).flatMap f := by rw [← List.flatMap_append, h]
  rw [h2]; simp

theorem u64_of (x : Int) : IntKind.u64.wrap x = ((x % 18446744073709551616).toNat : Int) := by rw [IntKind.wrap_u64]; omega
theorem numberSize46 (x : Int) (w : World) : Calls Try.prog 46 #[.int .i64 x] w fun e w' => e = .returned (.int .i64 (nI x).length) ∧ Below w.heap.size w w' := by
  have c := put83 (x % 18446744073709551616).toNat (by omega) w
  have hw := u64_of x
  unfold nI
  generalize (x % 18446744073709551616).toNat = m at *
  generalize vnt m = E at *
  go_enter Try.func46, Try.ntmps46
  go_wp2_with (first | (go_at_call 83; refine c.mono ?_; rintro e w1 ⟨v1, rfl, hb1, hB1⟩; obtain ⟨p, cap, rfl, -⟩ := hb1.bs; clear hb1))
  go_ret
  exact ⟨rfl, hB1⟩
theorem headSize43 (n : Nat) (hn : n < 18446744073709551616) (w : World) : Calls Try.prog 43 #[.int .i64 n] w fun e w' => e = .returned (.int .i64 ((1 + (vnt n).length : Nat) : Int)) ∧ Below w.heap.size w w' := by
  have c := numberSize46 n w
  have hl := nI_le n
  rw [nI_nat hn] at c hl
  generalize (vnt n).length = E at *
  have e1 : IntKind.i64.wrap (1 + (E : Int)) = ((1 + E : Nat) : Int) := by rw [IntKind.wrap_i64]; omega
  go_enter Try.func43, Try.ntmps43
  go_wp2_with (first | (go_at_call 46; refine c.mono ?_; rintro e w1 ⟨rfl, hB1⟩))
  go_ret
  exact ⟨by first | rfl | simp, hB1⟩
theorem bytesSize45 (w : World) (v : Value) (t : List UInt8) (h : Bs w v t) (ht : t.length ≤ 4611686018427387904) : Calls Try.prog 45 #[v] w fun e w' => e = .returned (.int .i64 ((keyF t).length : Int)) ∧ Below w.heap.size w w' := by
  have c := numberSize46 t.length w
  have hl := nI_le t.length
  rw [nI_nat (by omega)] at c hl
  obtain ⟨p, cap, rfl, -⟩ := h
  unfold keyF
  rw [List.length_append]
  generalize (vnt t.length).length = E at *
  generalize t.length = T at *
  have e1 : IntKind.i64.wrap ((E : Int) + (T : Int)) = ((E + T : Nat) : Int) := by rw [IntKind.wrap_i64]; omega
  go_enter Try.func45, Try.ntmps45
  go_wp2_with (first | (go_at_call 46; refine c.mono ?_; rintro e w1 ⟨rfl, hB1⟩))
  go_ret
  exact ⟨by first | rfl | simp, hB1⟩
set_option maxHeartbeats 4000000 in
set_option maxRecDepth 100000 in
theorem cellSize44 (w : World) (v : Value) (c : C) (h : CeS w v c) (ht : (cellF c).length ≤ 4611686018427387904) :
    Calls Try.prog 44 #[v] w fun e w' => e = .returned (.int .i64 ((cellF c).length : Int)) ∧ Below w.heap.size w w' := by
  obtain ⟨k, x, rfl, hk, hx, ho, hl⟩ := h
  unfold cellF valF at *
  have hk0 := hk.len
  have lk : c.key.length ≤ 4611686018427387904 := by simp [keyF] at ht; omega
  have ck := fun (u : World) (hu : Below w.heap.size w u) => bytesSize45 u k c.key (hk.on hu) lk
  obtain ⟨p, cap, rfl, -⟩ := hk
  by_cases h0 : c.over = 0
  · rw [if_pos h0] at ht ⊢
    have lv : c.val.length ≤ 4611686018427387904 := by simp [keyF] at ht; omega
    have cx := fun (u : World) (hu : Below w.heap.size w u) => bytesSize45 u x c.val (hx.on hu) lv
    obtain ⟨q, cap', rfl, -⟩ := hx
    rw [List.length_append, List.length_cons] at ht ⊢
    generalize (keyF c.key).length = A at *
    generalize (keyF c.val).length = B at *
    have e1 : IntKind.i64.wrap ((A : Int) + 1) = ((A + 1 : Nat) : Int) := by rw [IntKind.wrap_i64]; omega
    have e2 : IntKind.i64.wrap ((A : Int) + 1 + (B : Int)) = ((A + (B + 1) : Nat) : Int) := by rw [IntKind.wrap_i64]; omega
    have tk : True := trivial
    go_enter Try.func44, Try.ntmps44
    go_wp2_with (first
      | (go_at_call 45; clear tk; refine (ck _ (bel1 _ _)).mono ?_; rintro e w1 ⟨rfl, hB1⟩; have q1 := cell_past hB1 (ncell4 w _ _ _ _ 44).2.1; have q2 := cell_past hB1 (ncell4 w _ _ _ _ 44).2.2.1)
      | (go_at_call 45; refine (cx _ ((bel1 _ _).trans (hB1.mono (by simp)))).mono ?_; rintro e w2 ⟨rfl, hB2⟩))
    go_ret
    exact ⟨by first | rfl | simp | (simp; omega), ((bel1 _ _).trans (hB1.mono (by simp))).trans (hB2.mono (by have := hB1.size; simp at this; omega))⟩
  · rw [if_neg h0] at ht ⊢
    obtain ⟨q, cap', rfl, -⟩ := hx
    have hn1 := nI_le c.len
    have hn2 := nI_le c.over
    have c1 := fun (u : World) => numberSize46 c.len u
    have c2 := fun (u : World) => numberSize46 c.over u
    rw [List.length_append, List.length_cons, List.length_append] at ht ⊢
    generalize (keyF c.key).length = A at *
    generalize (nI c.len).length = B at *
    generalize (nI c.over).length = D at *
    generalize c.len = xl at *
    generalize c.over = xo at *
    have e1 : IntKind.i64.wrap ((A : Int) + 1) = ((A + 1 : Nat) : Int) := by rw [IntKind.wrap_i64]; omega
    have e2 : IntKind.i64.wrap ((A : Int) + 1 + (B : Int)) = ((A + 1 + B : Nat) : Int) := by rw [IntKind.wrap_i64]; omega
    have e3 : IntKind.i64.wrap ((A : Int) + 1 + (B : Int) + (D : Int)) = ((A + (B + D + 1) : Nat) : Int) := by rw [IntKind.wrap_i64]; omega
    go_enter Try.func44, Try.ntmps44
    go_wp2_with (go_at_call 45; refine (ck _ (bel1 _ _)).mono ?_; rintro e w1 ⟨rfl, hB1⟩; have q1 := cell_past hB1 (ncell4 w _ _ _ _ 44).2.2.2; have q2 := cell_past hB1 (ncell4 w _ _ _ _ 44).2.2.1)
    have H1 : Below w.heap.size w w1.drew := ((bel1 _ _).trans (hB1.mono (by simp))).drew
    have r1 : w1.drew.cell? ⟨w.heap.size, 3, none⟩ = some (.int .i64 xl) := q1
    have r2 : w1.drew.cell? ⟨w.heap.size, 2, none⟩ = some (.int .i64 xo) := q2
    clear hB1 ck
    go_region_with (first
      | (go_at_call 46; refine (c1 _).mono ?_; rintro e wa ⟨rfl, hBa⟩; have qa := cell_past hBa (by assumption : World.cell? _ ⟨w.heap.size, 3, none⟩ = some (.int .i64 xl)); have qb := cell_past hBa (by assumption : World.cell? _ ⟨w.heap.size, 2, none⟩ = some (.int .i64 xo)))
      | (go_at_call 46; refine (c2 _).mono ?_; rintro e wb ⟨rfl, hBb⟩; have qa := cell_past hBb (by assumption : World.cell? _ ⟨w.heap.size, 3, none⟩ = some (.int .i64 xl)); have qb := cell_past hBb (by assumption : World.cell? _ ⟨w.heap.size, 2, none⟩ = some (.int .i64 xo))))
    all_goals
      go_wp2
      go_ret
      first
        | exact ⟨by first | rfl | simp | (simp; omega), (H1.trans (hBa.mono H1.size)).trans (hBb.mono (Nat.le_trans H1.size hBa.size))⟩
        | exact ⟨by first | rfl | simp | (simp; omega), (H1.trans (hBb.mono H1.size)).trans (hBa.mono (Nat.le_trans H1.size hBb.size))⟩
end Go.Proofs.Ytbkpgppaahpalaa
