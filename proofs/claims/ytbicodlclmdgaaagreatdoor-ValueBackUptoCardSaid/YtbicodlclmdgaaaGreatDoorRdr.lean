/-
  What the small methods of the reader of package value do, where nothing is wrong.
-/
import Derived.Test.YtbicodlclmdgaaaGreatDoorCheck
import Derived.Test.YtbicodlclmdgaaaGreatDoorClone
import Derived.Deep.LoopGhost
import Derived.Deep.RegionHeld3
import Derived.WalkSpells
import Derived.WalkLawsBesides
namespace Go.Proofs.YtbicodlclmdgaaaGreatDoor
open Go.RowKit
set_option linter.unusedVariables false      -- a walk need not use every condition

/-- The reader's block r: its text, where it is, closed, the keys that are being read. -/
def Rd (w : World) (r : Nat) (T : ByteArray) (p k : Nat) : Prop := w.heap[r]? = some (.cells #[.string T, .int .i64 p, .bool false, .int .i64 k] 89)
theorem Rd.cells {w : World} {r : Nat} {T : ByteArray} {p k : Nat} (h : Rd w r T p k) : w.cell? ⟨r, 0, none⟩ = some (.string T) ∧ w.cell? ⟨r, 1, none⟩ = some (.int .i64 p) ∧ w.cell? ⟨r, 2, none⟩ = some (.bool false) ∧ w.cell? ⟨r, 3, none⟩ = some (.int .i64 k) ∧ ∀ i, w.frozen? ⟨r, i, none⟩ = false := by
  unfold Rd at h
  refine ⟨?_, ?_, ?_, ?_, fun i => ?_⟩ <;> simp [World.cell?, World.frozen?, h]
theorem Rd.lt {w : World} {r : Nat} {T : ByteArray} {p k : Nat} (h : Rd w r T p k) : r < w.heap.size := (Array.getElem?_eq_some_iff.1 h).1
theorem Rd.setAt {w : World} {r : Nat} {T : ByteArray} {p k : Nat} (h : Rd w r T p k) (q : Nat) : Rd (w.setCell ⟨r, 1, none⟩ (.int .i64 q)) r T q k := by
  unfold Rd at *
  simp [World.setCell, Array.getElem?_modify, h]
theorem Rd.setKeys {w : World} {r : Nat} {T : ByteArray} {p k : Nat} (h : Rd w r T p k) (q : Nat) : Rd (w.setCell ⟨r, 3, none⟩ (.int .i64 q)) r T p q := by
  unfold Rd at *
  simp [World.setCell, Array.getElem?_modify, h]
theorem Rd.alloc {w : World} {r : Nat} {T : ByteArray} {p k : Nat} (h : Rd w r T p k) (o : Obj) : Rd (w.alloc o) r T p k := (Below.heap_alloc w o r h.lt).trans h
theorem Rd.grown {w w' : World} {r : Nat} {T : ByteArray} {p k : Nat} (h : Rd w r T p k) {row : Option Nat} (hg : w.grownBy w' row) (hr : some r ≠ row) : Rd w' r T p k := (hg.block r h.lt hr).trans h
theorem Rd.on {w w' : World} {r : Nat} {T : ByteArray} {p k : Nat} (h : Rd w r T p k) {B : Nat} (hb : Below B w w') (hr : r < B) : Rd w' r T p k := (hb.block r hr).trans h
theorem gr_set (w : World) (r i : Nat) (u : Value) : w.grownBy (w.setCell ⟨r, i, none⟩ u) (some r) :=
  ⟨rfl, rfl, rfl, by simp [World.setCell], fun _ _ hk => Below.heap_setCell _ _ _ _ (fun e => hk (by rw [e]))⟩
theorem gr_bel {w w' : World} (h : Below w.heap.size w w') (row : Option Nat) : w.grownBy w' row := ⟨h.os, h.tape, h.output, h.size, fun k hk _ => h.block k hk⟩
/-- Nothing but the reader has turned, and it stands there. -/
def Rp (r : Nat) (T : ByteArray) (p k : Nat) (w w' : World) : Prop := w.grownBy w' (some r) ∧ Rd w' r T p k
theorem Rp.refl {w : World} {r : Nat} {T : ByteArray} {p k : Nat} (h : Rd w r T p k) : Rp r T p k w w := ⟨World.grownBy.refl w _, h⟩
theorem Rp.drew {w : World} {r : Nat} {T : ByteArray} {p k : Nat} (h : Rd w r T p k) : Rp r T p k w w.drew := ⟨⟨rfl, rfl, rfl, Nat.le_refl _, fun _ _ _ => rfl⟩, h⟩
theorem Rp.trans {a b c : World} {r : Nat} {T : ByteArray} {p k p' k' : Nat} (h : Rp r T p k a b) (h' : Rp r T p' k' b c) : Rp r T p' k' a c := ⟨h.1.trans h'.1, h'.2⟩
theorem Rp.keep {w w' : World} {r : Nat} {T : ByteArray} {p k : Nat} (h : Rp r T p k w w') : Keep (r + 1) w w' := fun a v ha hc => h.1.cell hc (by intro e; injection e with e; omega)
theorem Rp.step {w w1 : World} {r : Nat} {T : ByteArray} {q k : Nat} (h : Rp r T q k w w1) : Rp r T (q + 1) k w (w1.setCell ⟨r, 1, none⟩ (.int .i64 ((q : Int) + 1))) := h.trans ⟨gr_set w1 r 1 _, h.2.setAt (q + 1)⟩
theorem Rp.dr {w w1 : World} {r : Nat} {T : ByteArray} {q k : Nat} (h : Rp r T q k w w1) : Rp r T q k w w1.drew := h.trans (Rp.drew h.2)
/-- What stands in the text at p. -/
def Has (T : ByteArray) (p : Nat) (s : List UInt8) : Prop := ∀ (i : Nat) (h : i < s.length), ∃ h' : p + i < T.size, T[p + i] = s[i]

set_option maxHeartbeats 1000000 in
theorem ended_no (w : World) (r : Nat) (T : ByteArray) (p k : Nat) (h : Rd w r T p k) (hp : p < T.size) :
    Calls Tryz.prog 80 #[.pointer (some ⟨r, 0, none⟩)] w fun e w' => e = .returned (.bool false) ∧ Rp r T p k w w' := by
  have hr := Rp.drew h
  obtain ⟨c0, c1, c2, c3, cf⟩ := h.cells
  have hn : ((p : Int) == (T.size : Int)) = false := by simp; omega
  go_enter Tryz.func80, Tryz.ntmps80
  go_wp2
  go_region
  go_wp2
  go_ret
  exact ⟨rfl, hr⟩
set_option maxHeartbeats 1000000 in
theorem ended_yes (w : World) (r : Nat) (T : ByteArray) (p k : Nat) (h : Rd w r T p k) (hp : p = T.size) :
    Calls Tryz.prog 80 #[.pointer (some ⟨r, 0, none⟩)] w fun e w' => e = .returned (.bool true) ∧ Rp r T p k w w' := by
  have hr := Rp.drew h
  obtain ⟨c0, c1, c2, c3, cf⟩ := h.cells
  have hn : ((p : Int) == (T.size : Int)) = true := by simp; omega
  go_enter Tryz.func80, Tryz.ntmps80
  go_wp2
  go_region
  go_wp2
  go_ret
  exact ⟨rfl, hr⟩
set_option maxHeartbeats 1000000 in
theorem cut_no (w : World) (r : Nat) (T : ByteArray) (p k : Nat) (h : Rd w r T p k) (hp : p < T.size) :
    Calls Tryz.prog 96 #[.pointer (some ⟨r, 0, none⟩)] w fun e w' => e = .returned (.bool false) ∧ Rp r T p k w w' := by
  go_enter Tryz.func96, Tryz.ntmps96
  go_wp2_with (first
    | (go_at_call 80; refine (ended_no _ r T p k h hp).mono ?_; rintro e w1 ⟨rfl, h1⟩)
    | (go_at_call 80; refine (ended_no _ r T p k h1.2 hp).mono ?_; rintro e w2 ⟨rfl, h2⟩))
  go_ret
  exact ⟨rfl, h1.trans h2⟩
theorem noSign_no (c : UInt8) (w : World) (h1 : 32 ≤ c.toNat) (h2 : c.toNat ≤ 126) : Calls Tryz.prog 105 #[.int .u8 c.toNat] w fun e w' => e = .returned (.bool false) ∧ w' = w := by
  have i1 : ¬ (c.toNat : Int) < 32 := by omega
  have i2 : ¬ (126 : Int) < (c.toNat : Int) := by omega
  go_enter Tryz.func105, Tryz.ntmps105
  go_wp2
  go_ret
  exact ⟨rfl, rfl⟩
theorem digit_yes (c : UInt8) (w : World) (h1 : 48 ≤ c.toNat) (h2 : c.toNat ≤ 57) : Calls Tryz.prog 57 #[.int .u8 c.toNat] w fun e w' => e = .returned (.bool true) ∧ w' = w := by
  have i1 : (48 : Int) ≤ c.toNat := by omega
  have i2 : (c.toNat : Int) ≤ 57 := by omega
  go_enter Tryz.func57, Tryz.ntmps57
  go_wp2
  go_ret
  exact ⟨rfl, rfl⟩
theorem digit_no (c : UInt8) (w : World) (h1 : ¬ (48 ≤ c.toNat ∧ c.toNat ≤ 57)) : Calls Tryz.prog 57 #[.int .u8 c.toNat] w fun e w' => e = .returned (.bool false) ∧ w' = w := by
  by_cases i1 : (48 : Int) ≤ c.toNat
  · have i2 : ¬ (c.toNat : Int) ≤ 57 := by omega
    go_enter Tryz.func57, Tryz.ntmps57
    go_wp2
    go_ret
    exact ⟨rfl, rfl⟩
  · go_enter Tryz.func57, Tryz.ntmps57
    go_wp2
    go_ret
    exact ⟨rfl, rfl⟩

set_option maxHeartbeats 1000000 in
theorem word99 (w : World) (r : Nat) (T s : ByteArray) (p k : Nat) (h : Rd w r T p k) (hs : Has T p s.data.toList) (hT : T.size ≤ maxLen) :
    Calls Tryz.prog 99 #[.pointer (some ⟨r, 0, none⟩), .string s] w fun e w' => e = .returned (.tuple #[]) ∧ Rp r T (p + s.size) k w w' := by
  unfold maxLen at hT
  go_enter Tryz.func99, Tryz.ntmps99
  go_wp2
  go_loopg [7] s.size (fun c i wr => ∃ j : Nat, c + j = s.size ∧ i = .int .i64 j ∧ Hid (Rp r T (p + j) k w wr))
  case atStart => exact ⟨0, rfl, rfl, Rp.refl h⟩
  case round =>
    obtain ⟨j, hj, rfl, hR⟩ := hrel
    by_cases hlt : j < s.size
    · obtain ⟨hp', hb⟩ := hs j (by simpa using hlt)
      have hb' : T[p + j] = s[j] := hb
      clear hb
      obtain ⟨q, hq⟩ : ∃ q, Hid (q = p + j) := ⟨_, rfl⟩
      simp only [← hq.out] at hR hp' hb'
      have hne : ((T[q].toNat : Int) != (s[j].toNat : Int)) = false := by rw [hb']; simp
      go_wp2_with (go_at_call 96; refine (cut_no _ r T q k hR.out.2 hp').mono ?_; rintro e w1 ⟨rfl, h1⟩; obtain ⟨c0, c1, c2, c3, cf⟩ := h1.2.cells)
      go_region
      go_wp2
      have hw : IntKind.i64.wrap ((q : Int) + 1) = ((q + 1 : Nat) : Int) := by rw [IntKind.wrap_i64]; omega
      go_roundg (gk - 1)
      case rel =>
        refine ⟨j + 1, by omega, by go_num, ?_⟩
        show Rp r T (p + (j + 1)) k w _
        rw [show p + (j + 1) = q + 1 by rw [hq.out]; omega]
        exact (hR.out.trans h1).step.dr
      case measure => omega
    · obtain rfl : j = s.size := by omega
      go_wp2
      go_end0
      exact ⟨rfl, hR.out⟩

set_option maxHeartbeats 1000000 in
theorem char_plain (w : World) (r : Nat) (T : ByteArray) (p k : Nat) (h : Rd w r T p k) (hp : p < T.size) (h1 : 32 ≤ T[p].toNat) (h2 : T[p].toNat ≤ 126) (h3 : T[p].toNat ≠ 92) (hT : T.size ≤ maxLen) :
    Calls Tryz.prog 116 #[.pointer (some ⟨r, 0, none⟩)] w fun e w' => e = .returned (.int .u8 T[p].toNat) ∧ Rp r T (p + 1) k w w' := by
  unfold maxLen at hT
  have c105 := fun w => noSign_no T[p] w h1 h2
  have hr := (Rp.refl h).dr.step
  obtain ⟨c0, c1, c2, c3, cf⟩ := h.cells
  have hne : ((T[p].toNat : Int) != 92) = true := by simp; omega
  have hw : IntKind.i64.wrap ((p : Int) + 1) = (p : Int) + 1 := by rw [IntKind.wrap_i64]; omega
  go_enter Tryz.func116, Tryz.ntmps116
  go_wp2
  go_region
  go_wp2_with (go_at_call 105; refine (c105 _).mono ?_; rintro e w1 ⟨rfl, rfl⟩)
  go_ret
  exact ⟨rfl, hr⟩
set_option maxHeartbeats 1000000 in
theorem next_close (w : World) (r : Nat) (T : ByteArray) (p k : Nat) (h : Rd w r T p k) (hp : p < T.size) (c : UInt8) (hc : T[p] = c) (b : Bool) (hT : T.size ≤ maxLen) :
    Calls Tryz.prog 117 #[.pointer (some ⟨r, 0, none⟩), .int .u8 c.toNat, .bool b] w fun e w' => e = .returned (.int .i64 1) ∧ Rp r T (p + 1) k w w' := by
  unfold maxLen at hT
  have heq : ((T[p].toNat : Int) == (c.toNat : Int)) = true := by rw [hc]; simp
  have hw : IntKind.i64.wrap ((p : Int) + 1) = (p : Int) + 1 := by rw [IntKind.wrap_i64]; omega
  clear hc
  go_enter Tryz.func117, Tryz.ntmps117
  go_wp2_with (go_at_call 96; refine (cut_no _ r T p k h hp).mono ?_; rintro e w1 ⟨rfl, h1⟩; obtain ⟨c0, c1, c2, c3, cf⟩ := h1.2.cells)
  go_region
  go_wp2
  go_ret
  exact ⟨rfl, h1.dr.step⟩
set_option maxHeartbeats 1000000 in
theorem next_first (w : World) (r : Nat) (T : ByteArray) (p k : Nat) (h : Rd w r T p k) (hp : p < T.size) (c : UInt8) (hc : T[p] ≠ c) (hT : T.size ≤ maxLen) :
    Calls Tryz.prog 117 #[.pointer (some ⟨r, 0, none⟩), .int .u8 c.toNat, .bool false] w fun e w' => e = .returned (.int .i64 0) ∧ Rp r T p k w w' := by
  unfold maxLen at hT
  have heq : ((T[p].toNat : Int) == (c.toNat : Int)) = false := by
    simp; intro e; exact hc (UInt8.toNat_inj.1 (by omega))
  clear hc
  go_enter Tryz.func117, Tryz.ntmps117
  go_wp2_with (go_at_call 96; refine (cut_no _ r T p k h hp).mono ?_; rintro e w1 ⟨rfl, h1⟩; obtain ⟨c0, c1, c2, c3, cf⟩ := h1.2.cells)
  go_region
  go_wp2
  go_ret
  exact ⟨rfl, h1.dr⟩
set_option maxHeartbeats 1000000 in
theorem next_more (w : World) (r : Nat) (T : ByteArray) (p k : Nat) (h : Rd w r T p k) (c : UInt8) (hc : c.toNat ≠ 44) (hs : Has T p [44, 32]) (hT : T.size ≤ maxLen) :
    Calls Tryz.prog 117 #[.pointer (some ⟨r, 0, none⟩), .int .u8 c.toNat, .bool true] w fun e w' => e = .returned (.int .i64 0) ∧ Rp r T (p + 2) k w w' := by
  obtain ⟨hp, h44⟩ := hs 0 (by simp)
  simp only [Nat.add_zero] at hp h44
  have heq : ((T[p].toNat : Int) == (c.toNat : Int)) = false := by
    rw [h44]; simp; omega
  clear h44
  go_enter Tryz.func117, Tryz.ntmps117
  go_wp2_with (go_at_call 96; refine (cut_no _ r T p k h hp).mono ?_; rintro e w1 ⟨rfl, h1⟩; obtain ⟨c0, c1, c2, c3, cf⟩ := h1.2.cells)
  go_region
  go_wp2_with (go_at_call 99; refine (word99 _ r T ⟨#[44, 32]⟩ p k h1.dr.2 hs hT).mono ?_; rintro e w2 ⟨rfl, h2⟩)
  go_ret
  exact ⟨rfl, h1.dr.trans h2⟩
end Go.Proofs.YtbicodlclmdgaaaGreatDoor
