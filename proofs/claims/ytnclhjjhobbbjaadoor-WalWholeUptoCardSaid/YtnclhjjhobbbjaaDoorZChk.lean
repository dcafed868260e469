/-
  What slices.Chunk(b, 112) gives: pieces, one behind the other.
-/
import Derived.Test.YtnclhjjhobbbjaaDoorZCtmRctBsxNumpNumTFuse
import Derived.RangeFuncNested
import Derived.RangeFuncBound
import Derived.RangeFuncCalls
import Derived.RangeFuncLeaves
import Derived.Shelf.Abstract
import Derived.Shelf.RegionOpen
import Derived.OwnWalkIn
import Derived.TacticsInMore
import Derived.LoopNIn
import Derived.LoopIn
namespace Go.Proofs.YtnclhjjhobbbjaaDoor
open Go.RowKit Go.Shelf
set_option linter.unusedVariables false      -- a walk need not use every condition
attribute [local go_sem] Oper.semAt_some

theorem chunk61 (sl : Value) (p : Option Addr) (n c : Nat) (hs : sl = .slice p n c) (w : World) :
    Calls Tryd.prog 61 #[sl, .int .i64 112] w fun e w' => e = .returned (.func (.func 72) #[] #[.pointer (some ⟨w.heap.size, 0, none⟩), .pointer (some ⟨w.heap.size + 1, 0, none⟩)]) ∧
      w' = (w.alloc (.cells #[sl] 43)).alloc (.cells #[.int .i64 112] 3) := by
  subst hs
  go_enter Tryd.func61, Tryd.ntmps61
  go_wp2
  go_ret
  exact ⟨rfl, rfl⟩
/-- The first k of m. -/
def upto (m k : Nat) : List (Fin m) := (List.finRange m).take k
theorem upto_len (m k : Nat) (h : k ≤ m) : (upto m k).length = k := by simp [upto, h]
theorem upto_succ (m k : Nat) (h : k < m) : upto m (k + 1) = upto m k ++ [⟨k, h⟩] := by
  unfold upto
  rw [List.take_succ_eq_append_getElem (by simpa using h)]
  simp
theorem upto_all (m : Nat) : upto m m = List.finRange m := by simp [upto, List.take_of_length_le]
/-- What the two boxes of Chunk hold stays. -/
def KeepBox (Bs : Nat) (W W' : World) : Prop := W'.cell? ⟨Bs, 0, none⟩ = W.cell? ⟨Bs, 0, none⟩ ∧ W'.cell? ⟨Bs + 1, 0, none⟩ = W.cell? ⟨Bs + 1, 0, none⟩
theorem grown_drew (w : World) : w.grownBy w.drew none := ⟨rfl, rfl, rfl, Nat.le_refl _, fun _ _ _ => rfl⟩
def vn : Value → Nat
  | .int _ x => x.toNat
  | _ => 0
/-- How long the piece x of n bytes is. -/
def pl (n x : Nat) : Nat := min 112 (n - 112 * x)
set_option maxRecDepth 100000 in
set_option maxHeartbeats 2000000 in
theorem chunk72 (n : Nat) (hn : 1 ≤ n) (l Bs b o N cap : Nat) (p : Option Addr) (hp : 0 < N → p = some ⟨b, o, none⟩) (hm : N ≤ cap) (hcap : cap ≤ 9223372036854775807) (hN : N ≤ 4398046511104) (m : Nat) (hmN : m = (N + 111) / 112) (J Jx : List (Fin m) → World → Prop) (W : World) (hJ : AbidesFrom W.heap.size J)
    (hY : ∀ pre x W1, J pre W1 → pre.length < m → YieldAt Fence.wide (n - 1) Tryd.prog l #[.slice (some ⟨b, o + 112 * x.1, none⟩) (pl N x.1) (pl N x.1)] W1 fun e W' =>
      (e = .returned (.bool true) ∧ J (pre ++ [x]) W' ∧ KeepBox Bs W1 W') ∨ (e = .returned (.bool false) ∧ Jx (pre ++ [x]) W'))
    (hBs : W.cell? ⟨Bs, 0, none⟩ = some (.slice p N cap)) (hBn : W.cell? ⟨Bs + 1, 0, none⟩ = some (.int .i64 112)) (h0 : J [] W) :
    CallsIn Fence.wide n Tryd.prog 72 #[.func (.yield l) #[] #[], .pointer (some ⟨Bs, 0, none⟩), .pointer (some ⟨Bs + 1, 0, none⟩)] W fun e W' => (∃ v, e = .returned v) ∧
      ((∃ ys, ys = List.finRange m ∧ J ys W') ∨ (∃ pre, True ∧ Jx pre W')) := by
  have HM := Lib.hid hmN
  refine callsIn_of_wp Tryd.func72 rfl trivial ?_ rfl
  simp only [Tryd.ntmps72, List.size_toArray, List.length_cons, List.length_nil, Nat.reduceAdd, Nat.reduceSub, Array.replicate_succ, Array.replicate_zero, List.push_toArray, List.append_toArray, List.nil_append, List.cons_append]
  clear hmN
  gi_wp2
  gi_loopw [4] (fun i wr => ∃ k : Nat, k ≤ m ∧ i = .int .i64 (112 * k : Nat) ∧ J (upto m k) wr ∧ wr.cell? ⟨Bs, 0, none⟩ = some (.slice p N cap) ∧ wr.cell? ⟨Bs + 1, 0, none⟩ = some (.int .i64 112))
    (fun i _ => 112 * m - vn i)
  case atStart => exact ⟨0, Nat.zero_le _, rfl, h0, hBs, hBn⟩
  case round =>
    obtain ⟨k, hk, rfl, hJs, hcs, hcn⟩ := hrel
    have hM := HM.out
    by_cases hlt : k < m
    · have hJd : J (upto m k) wr.drew := hJ _ _ _ none hJs (grown_drew wr) (fun r e => by cases e)
      obtain ⟨fn, tmps, assign, body, hy, hR⟩ := hY (upto m k) ⟨k, hlt⟩ wr.drew hJd (by rw [upto_len m k hk]; exact hlt)
      dsimp only at hy hR
      obtain ⟨j, hj⟩ : ∃ j, 112 * k = j := ⟨_, rfl⟩
      have hpl : pl N k = min 112 (N - 112 * k) := rfl
      rw [hj] at hy hpl ⊢
      have hkN : j < N := by omega
      have hkz : (j : Int) < (N : Int) := by omega
      have hkz0 : (0 : Int) ≤ (j : Int) := by omega
      have hkc : (j : Int) ≤ (cap : Int) := by omega
      have hjne : ¬ cap = j := by omega
      obtain rfl := hp (by omega)
      have hJ112 : j + 112 < 9223372036854775807 := by omega
      have HJ := Lib.hid hj
      obtain ⟨q, hq⟩ : ∃ q, pl N k = q := ⟨_, rfl⟩
      rw [hq] at hy hpl
      have hqz : (q : Int) = min 112 (((N - j : Nat)) : Int) := by omega
      have hq1 : 1 ≤ q := by omega
      have hjq : j + q ≤ N := by omega
      have hs1 : IntKind.i64.wrap ((j : Int) + (q : Int)) = (j : Int) + (q : Int) := by rw [IntKind.wrap_i64]; omega
      have hs2 : (j : Int) ≤ (j : Int) + (q : Int) := by omega
      have hs3 : (j : Int) + (q : Int) ≤ (cap : Int) := by omega
      have hs5 : ((j : Int) + (q : Int)).toNat - j = q := by omega
      have hs4 : IntKind.i64.wrap ((j : Int) + 112) = (j : Int) + 112 := by rw [IntKind.wrap_i64]; omega
      clear hM hj hpl hq hY
      gi_wp2
      gi_region
      first
        | rw [show (if ((N - j : Nat) : Int) < 112 then ((N - j : Nat) : Int) else 112) = (q : Int) by split <;> omega]
        | rw [← hqz]
      clear hqz
      gi_wp2
      refine hR.mono ?_
      rintro e W3 (⟨rfl, hJ3, hk3⟩ | ⟨rfl, hJx3⟩)
      · have c1 : W3.cell? ⟨Bs, 0, none⟩ = some (.slice (some ⟨b, o, none⟩) N cap) := hk3.1.trans hcs
        have c2 : W3.cell? ⟨Bs + 1, 0, none⟩ = some (.int .i64 112) := hk3.2.trans hcn
        gi_wp2
        go_roundw
        case rel => exact ⟨k + 1, by omega, by rw [show 112 * (k + 1) = j + 112 by have := HJ.out; omega]; rfl, by rw [upto_succ m k hlt]; exact hJ3, c1, c2⟩
        case measure => have := HJ.out; simp [vn]; omega
      · gi_wp2
        refine bodyPost_ret (results_none rfl _ _ _) rfl ?_
        exact ⟨⟨_, rfl⟩, .inr ⟨_, trivial, hJx3⟩⟩
    · obtain rfl : k = m := by omega
      have hge : N ≤ 112 * k := by omega
      gi_wp2
      go_end0
      exact ⟨⟨_, rfl⟩, .inl ⟨_, upto_all k, hJs⟩⟩
theorem chunk_stops (n : Nat) (hn : 1 ≤ n) (Bs b o N cap : Nat) (p : Option Addr) (hp : 0 < N → p = some ⟨b, o, none⟩) (hm : N ≤ cap) (hcap : cap ≤ 9223372036854775807) (hN : N ≤ 4398046511104) (m : Nat) (hmN : m = (N + 111) / 112) (w : World) (hB : Bs + 1 < w.heap.size)
    (hBs : w.cell? ⟨Bs, 0, none⟩ = some (.slice p N cap)) (hBn : w.cell? ⟨Bs + 1, 0, none⟩ = some (.int .i64 112)) :
    SeqStopsK Fence.wide n Tryd.prog 72 #[.pointer (some ⟨Bs, 0, none⟩), .pointer (some ⟨Bs + 1, 0, none⟩)] (fun x : Fin m => #[Value.slice (some ⟨b, o + 112 * x.1, none⟩) (pl N x.1) (pl N x.1)]) (KeepBox Bs)
      (fun ys => ys = List.finRange m) (fun _ => True) m w := fun l J Jx W hW hJ _ hY h0 =>
  chunk72 n hn l Bs b o N cap p hp hm hcap hN m hmN J Jx W hJ hY ((hW.cell (p := ⟨Bs, 0, none⟩) (by show Bs < _; omega)).trans hBs) ((hW.cell (p := ⟨Bs + 1, 0, none⟩) hB).trans hBn) h0
end Go.Proofs.YtnclhjjhobbbjaaDoor
