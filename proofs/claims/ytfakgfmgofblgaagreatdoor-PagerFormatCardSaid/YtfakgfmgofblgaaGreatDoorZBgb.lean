/-
  Open of the disk that begun of the laws of layer 7 leaves.
-/
import Derived.Test.YtfakgfmgofblgaaGreatDoorZOpfMadCrashDcrBga
namespace Go.Proofs.YtfakgfmgofblgaaGreatDoor
open Go.RowKit Go.Maps
set_option linter.unusedVariables false
attribute [local go_sem ↓] Go.wp_at_zero Go.wp_at_succ

def bxB : List UInt8 := bx3.bytes 16
theorem bxB_len : bxB.length = 34 := bx3_len
def Qb : List (List (Nat × List UInt8)) := [[(0, bxB), (1, [97])]]
theorem Qb_recs : Qb.map recs = [P3.stRs] := by
  rw [P3_rs]
  rfl
theorem Qb_last (k : Nat) : lastM Qb.flatten k = if k = 1 then some [97] else if k = 0 then some bxB else none := rfl
theorem Qb_keys : keysM (lastM Qb.flatten) = [0, 1] := by
  have e : (fun k => (lastM Qb.flatten k).isSome) = fun k : Nat => decide (k = 0) || decide (k = 1) := by
    funext k
    rw [Qb_last]
    by_cases h : k = 1
    · simp [h]
    · by_cases h2 : k = 0 <;> simp [h, h2]
  unfold keysM
  rw [e]
  decide +kernel
theorem Qb_wanted : wanted bx3 (lastM Qb.flatten) = [0, 1] := by
  unfold wanted
  rw [Qb_keys]
  simp [List.filter, bx3_has 0 (by decide), bx3_has 1 (by decide)]
/-- What Open hands back there. -/
def OpB (w : World) (d pb mb : Nat) (e : Ending) (w' : World) : Prop :=
  ∃ l p ms mk ml base s', e = .returned (.tuple #[.pointer (some ⟨p, 0, none⟩), .int .i64 0]) ∧ (∀ k, Xp p ms mk ml (.slice none 0 0) k → w.heap.size ≤ k) ∧ At w' d pb mb s' ∧ PAt w' d l p ms mk ml base (.slice none 0 0) (Pgr.new 20 16 bx3 8) ∧ TabOk w' ∧ s'.rpg 20 1 = ([97], 0) ∧ Kept d pb mb w w'
theorem opB_of {w : World} {d pb mb : Nat} {q : Lg × Dsk} (hq : q.2.rpg 20 1 = ([97], 0)) (R : Int × Lg × Dsk) (hR : R.2 = q) {e : Ending} {w' : World} (ho : Opd w d pb mb R (Pgr.new 20 16 bx3 8) e w') : OpB w d pb mb e w' := by
  obtain ⟨l, p, ms, mk, ml, base, he, hl, hx, hP, hA, hL, hK, hT', -⟩ := ho
  rw [hR] at hA
  exact ⟨l, p, ms, mk, ml, base, q.2, he, fun k hk => (hx k hk).1, hA, hP, hT', hq, hK⟩
set_option maxRecDepth 100000 in
theorem openB11 (w : World) (d pb mb : Nat) (s : Dsk) (h : At w d pb mb s) (hT : TabOk w) (hw : Wl s ⟨2, 20, vnt 16, 1, false, false⟩ [P3.stRs]) (hf : s.fuse = 0) (hN : s.N = 86) :
    Calls Tryz.prog 11 #[.pointer (some ⟨d, 0, none⟩), .int .i64 8] w (OpB w d pb mb) := by
  obtain ⟨m, hm⟩ : ∃ m, lastM Qb.flatten = m := ⟨_, rfl⟩
  have hwt : wanted bx3 m = [0, 1] := by rw [← hm]; exact Qb_wanted
  have hm0 : m 0 = some bxB := by rw [← hm]; rfl
  have hm1 : m 1 = some [97] := by rw [← hm]; rfl
  have key := setl_is (s := s) (L := ⟨2, 20, vnt 16, 1, true, false⟩) hw.cl hf rfl (by show (0 : Int) ≤ 2; decide) (by show (2 : Int) < 1099511627776; decide) hw.pl (slots := 20) (f := fun i => (([0, 1] : List Nat).getD i 0, (m (([0, 1] : List Nat).getD i 0)).getD [])) (n := 2) (by omega) (fun i hi => by
    have : i = 0 ∨ i = 1 := by omega
    rcases this with rfl | rfl
    · show 2 + 20 + 4 * 0 + 4 ≤ s.N; omega
    · show 2 + 20 + 4 * 1 + 4 ≤ s.N; omega)
  have hrep : repl s ⟨2, 20, vnt 16, 1, true, false⟩ (Pgr.new 20 16 bx3 8) m = setl s ⟨2, 20, vnt 16, 1, true, false⟩ 20 (fun i => (([0, 1] : List Nat).getD i 0, (m (([0, 1] : List Nat).getD i 0)).getD [])) 2 := by
    unfold repl
    have e1 : (Pgr.new 20 16 bx3 8).was = bx3 := rfl
    have e2 : (Pgr.new 20 16 bx3 8).slots = 20 := rfl
    rw [e1, e2, hwt]
    rfl
  obtain ⟨k1, k2, k3, k4, k5⟩ := key
  rw [← hrep] at k1 k2 k3 k4 k5
  have hpg := k5 1 (by decide) (fun j h1 h2 => by omega)
  have hpg' : PgOn (repl s ⟨2, 20, vnt 16, 1, true, false⟩ (Pgr.new 20 16 bx3 8) m).2.2 20 1 [97] := by
    have e : (m (([0, 1] : List Nat).getD 1 0)).getD [] = [97] := by
      show (m 1).getD [] = [97]
      rw [hm1]; rfl
    have h9 : PgOn (repl s ⟨2, 20, vnt 16, 1, true, false⟩ (Pgr.new 20 16 bx3 8) m).2.2 20 1 ((m (([0, 1] : List Nat).getD 1 0)).getD []) := hpg
    rwa [e] at h9
  have hrp := rpg_on k2 (by rw [k4, hN]; decide) (by decide) (by decide) hpg'
  have hl : s.lmay (20 : Nat) (16 : Nat) = true := by
    unfold Dsk.lmay
    rw [hN]
    decide
  have c := open11 w d pb mb s h hT 8 (by decide) (by decide) ⟨2, 20, vnt 16, 1, false, false⟩ Qb (by rw [Qb_recs]; exact hw) 16 rfl hl (fun q hq x hx => by
      unfold Qb at hq
      obtain rfl := List.mem_singleton.1 hq
      rcases List.mem_cons.1 hx with rfl | hx
      · exact ⟨by decide, by show bxB.length ≤ 448; rw [bxB_len]; decide, fun _ => ⟨bx3, bx3_fit, rfl⟩⟩
      · obtain rfl := List.mem_singleton.1 hx
        exact ⟨by decide, by decide, fun h => by cases h⟩) ⟨by decide, fun q hq => by
      unfold Qb at hq
      obtain rfl := List.mem_singleton.1 hq
      show 2 ≤ 1000000000
      decide⟩ bx3 bx3_fit (.inl rfl) (by
    show (repR (repl s ⟨2, 20, vnt 16, 1, true, false⟩ (Pgr.new 20 16 bx3 8) (lastM Qb.flatten))).1 = 0
    rw [hm]
    unfold repR
    show (if _ then _ else _) = _
    rw [k1, if_neg (by decide)])
  exact c.mono fun e w' ho => opB_of (q := (repl s ⟨2, 20, vnt 16, 1, true, false⟩ (Pgr.new 20 16 bx3 8) m).2) hrp _ (by
    show (repl s ⟨2, 20, vnt 16, 1, true, false⟩ (Pgr.new 20 16 bx3 8) (lastM Qb.flatten)).2 = _
    rw [hm]) ho
end Go.Proofs.YtfakgfmgofblgaaGreatDoor
