/-
  The iterator of elements: what it tells of a graph, of either kind, one by one.
-/
import Derived.Test.YteknbploiombiaaZPm
import Derived.Test.YteknbploiombiaaZHv
import Derived.RangeFuncNested
import Derived.RangeFuncBound
import Derived.RangeFuncCalls
import Derived.RangeFuncLeaves
import Derived.Shelf.Abstract
import Derived.Shelf.RegionOpen
import Derived.OwnWalkIn
import Derived.TacticsInMore
import Derived.LoopNIn
import Derived.LoopIn
import Derived.RangeFuncBox
namespace Go.Proofs.Yteknbploiombiaa
open Go.RowKit Go.Shelf
set_option linter.unusedVariables false      -- a walk need not use every condition
attribute [local go_sem] Oper.semAt_some

/-- The first k of m. -/
def upto (m k : Nat) : List (Fin m) := (List.finRange m).take k
theorem upto_len (m k : Nat) (h : k ≤ m) : (upto m k).length = k := by simp [upto, h]
theorem upto_succ (m k : Nat) (h : k < m) : upto m (k + 1) = upto m k ++ [⟨k, h⟩] := by
  unfold upto
  rw [List.take_succ_eq_append_getElem (by simpa using h)]
  simp
theorem upto_all (m : Nat) : upto m m = List.finRange m := by simp [upto, List.take_of_length_le]
theorem upto_pre (m k : Nat) : upto m k <+: List.finRange m := List.take_prefix _ _
variable {α : Type}
/-- The headers of a row's elements, by their places. -/
theorem Lq.heads {R : El α} {w : World} {lo : Nat} (hd : ∀ (x : α) (sl : Value), R.In w lo x sl → ∃ p n c, sl = .slice p n c) {l : List α} {b o : Nat} (h : Lq R w lo l b o) :
    ∃ (hp : Nat → Option Addr) (hn hc : Nat → Nat), ∀ i (hi : i < l.length), Ats w b (o + i * R.n) (R.cs l[i] (.slice (hp i) (hn i) (hc i))) ∧ R.In w lo l[i] (.slice (hp i) (hn i) (hc i)) := by
  have h1 : ∀ i, ∃ q : Option Addr × Nat × Nat, ∀ hi : i < l.length, Ats w b (o + i * R.n) (R.cs l[i] (.slice q.1 q.2.1 q.2.2)) ∧ R.In w lo l[i] (.slice q.1 q.2.1 q.2.2) := fun i => by
    by_cases hi : i < l.length
    · obtain ⟨sl, ha, hv⟩ := h.at i hi
      obtain ⟨p, n, c, rfl⟩ := hd _ _ hv
      exact ⟨(p, n, c), fun _ => ⟨ha, hv⟩⟩
    · exact ⟨(none, 0, 0), fun h => absurd h hi⟩
  exact ⟨fun i => (Classical.choose (h1 i)).1, fun i => (Classical.choose (h1 i)).2.1, fun i => (Classical.choose (h1 i)).2.2, fun i hi => Classical.choose_spec (h1 i) hi⟩
/-- A slice's elements by their places: where they lie, their headers. -/
def Heads (R : El α) (w : World) (l : List α) (p : Option Addr) (b o : Nat) (hp : Nat → Option Addr) (hn hc : Nat → Nat) : Prop :=
  (0 < l.length → p = some ⟨b, o, none⟩) ∧ ∀ i (hi : i < l.length), Ats w b (o + i * R.n) (R.cs l[i] (.slice (hp i) (hn i) (hc i))) ∧ R.In w 0 l[i] (.slice (hp i) (hn i) (hc i))
theorem Sq.heads {R : El α} {w : World} (hd : ∀ (x : α) (sl : Value), R.In w 0 x sl → ∃ p n c, sl = .slice p n c) {l : List α} {p : Option Addr} {n cap : Nat} (h : Sq R w 0 l (.slice p n cap)) :
    ∃ b o hp hn hc, Heads R w l p b o hp hn hc := by
  obtain ⟨p', cap', e, -, -, -, hx⟩ := h
  injection e with e1 e2 e3
  subst e1
  rcases hx with rfl | ⟨b, o, rfl, -, hx⟩
  · exact ⟨0, 0, fun _ => none, fun _ => 0, fun _ => 0, fun h => absurd h (by simp), fun i hi => absurd hi (by simp)⟩
  · obtain ⟨hp, hn, hc, hh⟩ := hx.heads hd
    exact ⟨b, o, hp, hn, hc, fun _ => rfl, hh⟩
theorem Heads.on {R : El α} {w w' : World} {l : List α} {p : Option Addr} {b o : Nat} {hp : Nat → Option Addr} {hn hc : Nat → Nat} (h : Heads R w l p b o hp hn hc) (hb : Below w.heap.size w w') : Heads R w' l p b o hp hn hc :=
  ⟨h.1, fun i hi => ⟨(h.2 i hi).1.keep (keep_below hb) (Nat.zero_le _), R.on hb (h.2 i hi).2⟩⟩
theorem Heads.keep {R : El α} {w w' : World} {l : List α} {p : Option Addr} {b o : Nat} {hp : Nat → Option Addr} {hn hc : Nat → Nat} (h : Heads R w l p b o hp hn hc) (hb : Keep 0 w w') : Heads R w' l p b o hp hn hc :=
  ⟨h.1, fun i hi => ⟨(h.2 i hi).1.keep hb (Nat.zero_le _), R.keep hb (Nat.le_refl _) _ _ (h.2 i hi).2⟩⟩
theorem keep_n {n₀ : Nat} {u w w' : World} (hb : Below n₀ w w') (hs : ∀ a v, u.cell? a = some v → a.block < n₀ ∧ w.cell? a = some v) : ∀ a v, u.cell? a = some v → w'.cell? a = some v := fun a v h => (hb.cell (hs a v h).1).trans (hs a v h).2
theorem Abides_alloc {β : Type} {B : Nat} {J : β → World → Prop} (h : AbidesFrom B J) {s : β} {W : World} (o : Obj) (hs : J s W) : J s (W.alloc o) :=
  h s W _ none hs (World.grownBy_alloc W o none) (fun r e => by cases e)
def vn : Value → Nat
  | .int _ x => x.toNat
  | _ => 0

set_option maxRecDepth 100000 in
set_option maxHeartbeats 4000000 in
theorem els88v (n : Nat) (hn1 : 1 ≤ n) (l Bk Bg n₀ : Nat) (xs : List Vx) (u : World) (p : Option Addr) (cap b o : Nat) (q : Value) (lst : Int) (hp : Nat → Option Addr) (hn hc : Nat → Nat) (hcap : cap ≤ 9223372036854775807) (hlc : xs.length ≤ cap) (hH : Heads RV u xs p b o hp hn hc) (hu : u.heap.size = n₀)
    (J Jx : List (Fin xs.length) → World → Prop) (W : World) (hJ : AbidesFrom W.heap.size J)
    (hY : ∀ (pre : List (Fin xs.length)) (x : Fin xs.length) (W1 : World), J pre W1 → pre.length < xs.length → YieldAt Fence.wide (n - 1) Try.prog l #[.agg #[.int .i64 xs[x.1].id, .string xs[x.1].lb, .slice (hp x.1) (hn x.1) (hc x.1)]] W1 fun e W' =>
      (e = .returned (.bool true) ∧ J (pre ++ [x]) W' ∧ Below n₀ W1 W') ∨ (e = .returned (.bool false) ∧ Jx (pre ++ [x]) W'))
    (huW : Below n₀ u W) (hk : W.cell? ⟨Bk, 0, none⟩ = some (.int .i64 6)) (hg : W.cell? ⟨Bg, 0, none⟩ = some (.slice p xs.length cap)) (h0 : J [] W) :
    CallsIn Fence.wide n Try.prog 88 #[.func (.yield l) #[] #[], .pointer (some ⟨Bk, 0, none⟩), .pointer (some ⟨Bg, 0, none⟩)] W fun e W' => (∃ v, e = .returned v) ∧
      ((∃ ys, ys = List.finRange xs.length ∧ J ys W') ∨ (∃ pre, pre <+: List.finRange xs.length ∧ Jx pre W')) := by
  obtain ⟨N, hN⟩ : ∃ N, xs.length = N := ⟨_, rfl⟩
  have hlen := Lib.hid hN
  have hH := Lib.hid hH
  have huW := Lib.hid huW
  rw [hN] at hg hlc
  refine callsIn_of_wp Try.func88 rfl trivial ?_ rfl
  simp only [Try.ntmps88, List.size_toArray, List.length_cons, List.length_nil, Nat.reduceAdd, Nat.reduceSub, Array.replicate_succ, Array.replicate_zero, List.push_toArray, List.append_toArray, List.nil_append, List.cons_append]
  clear hN
  gi_wp2
  gi_loopw [14] (fun i wr => ∃ k : Nat, k ≤ N ∧ i = .int .i64 (k : Nat) ∧ J (upto xs.length k) wr ∧ Hid (Below n₀ u wr))
    (fun i _ => N - vn i)
  case atStart => exact ⟨0, Nat.zero_le _, rfl, h0, huW.out⟩
  case round =>
    obtain ⟨k, hkN, rfl, hJs, hB⟩ := hrel
    by_cases hlt : k < N
    · have hlt' : k < xs.length := by have := hlen.out; omega
      obtain ⟨hat, -⟩ := hH.out.2 k hlt'
      have hpz := hH.out.1 (by omega)
      subst hpz
      obtain ⟨a0, a1, a2⟩ := ats3 hat
      simp only [show RV.n = 3 from rfl] at a0 a1 a2
      replace a0 := (hB.out.cell (by rw [← hu]; exact cell_lt a0)).trans a0
      replace a1 := (hB.out.cell (by rw [← hu]; exact cell_lt a1)).trans a1
      replace a2 := (hB.out.cell (by rw [← hu]; exact cell_lt a2)).trans a2
      have hJa := Abides_alloc hJ (Obj.cells #[.int .i64 xs[k].id, .string xs[k].lb, .slice (hp k) (hn k) (hc k)] 40) hJs
      obtain ⟨fn, tmps, assign, body, hy, hR⟩ := hY (upto xs.length k) ⟨k, hlt'⟩ _ hJa (by rw [upto_len _ k (by omega)]; exact hlt')
      dsimp only at hy hR
      have hkz : (k : Int) < (N : Int) := by omega
      have hkz0 : (0 : Int) ≤ (k : Int) := by omega
      clear hY hat
      generalize hx : xs[k] = x at *
      clear hx
      generalize hp k = p1 at *
      generalize hn k = n1 at *
      generalize hc k = c1 at *
      gi_wp2
      refine hR.mono ?_
      rintro e W3 (⟨rfl, hJ3, hk3⟩ | ⟨rfl, hJx3⟩)
      · gi_wp2
        go_roundw
        case rel => exact ⟨k + 1, by omega, by simp, by rw [upto_succ _ k hlt']; exact hJ3, (hB.out.trans (((Below.refl n₀ wr).alloc (by rw [← hu]; exact hB.out.size) _).trans hk3))⟩
        case measure => simp [vn]; omega
      · gi_wp2
        refine bodyPost_ret (results_none rfl _ _ _) rfl ?_
        exact ⟨⟨_, rfl⟩, .inr ⟨_, by rw [← upto_succ _ k hlt']; exact upto_pre _ _, hJx3⟩⟩
    · obtain rfl : k = N := by omega
      gi_wp2
      go_end0
      exact ⟨⟨_, rfl⟩, .inl ⟨_, rfl, by have := hJs; rwa [← hlen.out, upto_all] at this⟩⟩

set_option maxRecDepth 100000 in
set_option maxHeartbeats 4000000 in
theorem els88e (n : Nat) (hn1 : 1 ≤ n) (l Bk Bg n₀ : Nat) (xs : List Lk) (u : World) (p : Option Addr) (cap b o : Nat) (q : Value) (lst : Int) (hp : Nat → Option Addr) (hn hc : Nat → Nat) (hcap : cap ≤ 9223372036854775807) (hlc : xs.length ≤ cap) (hH : Heads RL u xs p b o hp hn hc) (hu : u.heap.size = n₀)
    (J Jx : List (Fin xs.length) → World → Prop) (W : World) (hJ : AbidesFrom W.heap.size J)
    (hY : ∀ (pre : List (Fin xs.length)) (x : Fin xs.length) (W1 : World), J pre W1 → pre.length < xs.length → YieldAt Fence.wide (n - 1) Try.prog l #[.agg #[.int .i64 xs[x.1].id, .string xs[x.1].lb, .slice (hp x.1) (hn x.1) (hc x.1)]] W1 fun e W' =>
      (e = .returned (.bool true) ∧ J (pre ++ [x]) W' ∧ Below n₀ W1 W') ∨ (e = .returned (.bool false) ∧ Jx (pre ++ [x]) W'))
    (huW : Below n₀ u W) (hk : W.cell? ⟨Bk, 0, none⟩ = some (.int .i64 7)) (hg : W.cell? ⟨Bg, 1, none⟩ = some (.slice p xs.length cap)) (h0 : J [] W) :
    CallsIn Fence.wide n Try.prog 88 #[.func (.yield l) #[] #[], .pointer (some ⟨Bk, 0, none⟩), .pointer (some ⟨Bg, 0, none⟩)] W fun e W' => (∃ v, e = .returned v) ∧
      ((∃ ys, ys = List.finRange xs.length ∧ J ys W') ∨ (∃ pre, pre <+: List.finRange xs.length ∧ Jx pre W')) := by
  obtain ⟨N, hN⟩ : ∃ N, xs.length = N := ⟨_, rfl⟩
  have hlen := Lib.hid hN
  have hH := Lib.hid hH
  have huW := Lib.hid huW
  rw [hN] at hg hlc
  refine callsIn_of_wp Try.func88 rfl trivial ?_ rfl
  simp only [Try.ntmps88, List.size_toArray, List.length_cons, List.length_nil, Nat.reduceAdd, Nat.reduceSub, Array.replicate_succ, Array.replicate_zero, List.push_toArray, List.append_toArray, List.nil_append, List.cons_append]
  clear hN
  gi_wp2
  gi_loopw [34] (fun i wr => ∃ k : Nat, k ≤ N ∧ i = .int .i64 (k : Nat) ∧ J (upto xs.length k) wr ∧ Hid (Below n₀ u wr))
    (fun i _ => N - vn i)
  case atStart => exact ⟨0, Nat.zero_le _, rfl, h0, huW.out⟩
  case round =>
    obtain ⟨k, hkN, rfl, hJs, hB⟩ := hrel
    by_cases hlt : k < N
    · have hlt' : k < xs.length := by have := hlen.out; omega
      obtain ⟨hat, -⟩ := hH.out.2 k hlt'
      have hpz := hH.out.1 (by omega)
      subst hpz
      obtain ⟨a0, a1, a2, a3, a4⟩ := ats5 hat
      simp only [show RL.n = 5 from rfl] at a0 a1 a2 a3 a4
      replace a0 := (hB.out.cell (by rw [← hu]; exact cell_lt a0)).trans a0
      replace a1 := (hB.out.cell (by rw [← hu]; exact cell_lt a1)).trans a1
      replace a2 := (hB.out.cell (by rw [← hu]; exact cell_lt a2)).trans a2
      replace a3 := (hB.out.cell (by rw [← hu]; exact cell_lt a3)).trans a3
      replace a4 := (hB.out.cell (by rw [← hu]; exact cell_lt a4)).trans a4
      have hJa := Abides_alloc hJ (Obj.cells #[.int .i64 xs[k].id, .string xs[k].lb, .int .i64 xs[k].out, .int .i64 xs[k].inn, .slice (hp k) (hn k) (hc k)] 46) hJs
      obtain ⟨fn, tmps, assign, body, hy, hR⟩ := hY (upto xs.length k) ⟨k, hlt'⟩ _ hJa (by rw [upto_len _ k (by omega)]; exact hlt')
      dsimp only at hy hR
      have hkz : (k : Int) < (N : Int) := by omega
      have hkz0 : (0 : Int) ≤ (k : Int) := by omega
      clear hY hat
      generalize hx : xs[k] = x at *
      clear hx
      generalize hp k = p1 at *
      generalize hn k = n1 at *
      generalize hc k = c1 at *
      gi_wp2
      refine hR.mono ?_
      rintro e W3 (⟨rfl, hJ3, hk3⟩ | ⟨rfl, hJx3⟩)
      · gi_wp2
        go_roundw
        case rel => exact ⟨k + 1, by omega, by simp, by rw [upto_succ _ k hlt']; exact hJ3, (hB.out.trans (((Below.refl n₀ wr).alloc (by rw [← hu]; exact hB.out.size) _).trans hk3))⟩
        case measure => simp [vn]; omega
      · gi_wp2
        refine bodyPost_ret (results_none rfl _ _ _) rfl ?_
        exact ⟨⟨_, rfl⟩, .inr ⟨_, by rw [← upto_succ _ k hlt']; exact upto_pre _ _, hJx3⟩⟩
    · obtain rfl : k = N := by omega
      gi_wp2
      go_end0
      exact ⟨⟨_, rfl⟩, .inl ⟨_, rfl, by have := hJs; rwa [← hlen.out, upto_all] at this⟩⟩
end Go.Proofs.Yteknbploiombiaa
