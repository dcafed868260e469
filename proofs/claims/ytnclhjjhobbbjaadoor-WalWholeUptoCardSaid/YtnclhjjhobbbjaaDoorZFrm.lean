/-
  A frame as bytes: what Seal makes, what Open reads; a sector that is being written. No walk.
-/
import Derived.Test.YtnclhjjhobbbjaaDoorZSumShlSmallCallDirtyWrite
import Derived.Test.YtnclhjjhobbbjaaDoorZFlushW
namespace Go.Proofs.YtnclhjjhobbbjaaDoor
open Go.RowKit

/-- A number in eight bytes, the highest first. -/
def be8 (n : Nat) : List UInt8 := [UInt8.ofNat (n / 256 ^ 7), UInt8.ofNat (n / 256 ^ 6), UInt8.ofNat (n / 256 ^ 5), UInt8.ofNat (n / 256 ^ 4), UInt8.ofNat (n / 256 ^ 3), UInt8.ofNat (n / 256 ^ 2), UInt8.ofNat (n / 256 ^ 1), UInt8.ofNat (n / 256 ^ 0)]
/-- A sum in four bytes, the lowest first. -/
def le4b (x : Nat) : List UInt8 := [UInt8.ofNat (x / 256 ^ 0), UInt8.ofNat (x / 256 ^ 1), UInt8.ofNat (x / 256 ^ 2), UInt8.ofNat (x / 256 ^ 3)]
/-- The 124 bytes ahead of the sum. -/
def headB (k n : Nat) (pay : List UInt8) : List UInt8 := UInt8.ofNat k :: UInt8.ofNat pay.length :: (be8 n ++ (pay ++ List.replicate (114 - pay.length) 0))
def frameB (k n : Nat) (pay : List UInt8) : List UInt8 := headB k n pay ++ le4b (csum (nat8 (headB k n pay)))
theorem len_be8 (n : Nat) : (be8 n).length = 8 := rfl
theorem len_headB (k n : Nat) {pay : List UInt8} (h : pay.length ≤ 112) : (headB k n pay).length = 124 := by
  simp [headB, len_be8]; omega
theorem len_frameB (k n : Nat) {pay : List UInt8} (h : pay.length ≤ 112) : (frameB k n pay).length = 128 := by
  rw [frameB, List.length_append, len_headB k n h]; rfl
theorem nat8_le4 (x : Nat) : nat8 (le4b x) = le4 x := by
  simp [nat8, le4b, le4]
theorem frame_framed (k n : Nat) (pay : List UInt8) : nat8 (frameB k n pay) = framed (nat8 (headB k n pay)) := by
  rw [frameB, framed, ← nat8_le4]
  simp [nat8]

/-- Which frames may be sealed. -/
def okF (k n : Int) (pay : List UInt8) : Bool := decide (1 ≤ k) && decide (k ≤ 255) && decide (0 ≤ n) && decide (pay.length ≤ 112)
def sealE (k n : Int) (pay : List UInt8) : Int := if okF k n pay then 0 else 1
def sealB (k n : Int) (pay : List UInt8) : List UInt8 := if okF k n pay then frameB k.toNat n.toNat pay else zer
theorem len_sealB (k n : Int) (pay : List UInt8) : (sealB k n pay).length = 128 := by
  unfold sealB
  split
  · rename_i h
    simp [okF] at h
    exact len_frameB _ _ (by omega)
  · exact len_zer

/-! ### A sector that is being written -/

structure Sec (w : World) (g : Nat) (l : List UInt8) : Prop where
  len : l.length = 128
  at_ : w.rangeAt g 0 (enc l)
  th : w.there g 0 128
theorem Sec.new (w : World) {l : List UInt8} (h : l.length = 128) : Sec (w.alloc (.cells (encA l) 66)) w.heap.size l :=
  ⟨h, range_new w (enc l) 66, by have := there_new w (encA l) 66; rwa [size_encA, h] at this⟩
theorem Sec.lt {w : World} {g : Nat} {l : List UInt8} (h : Sec w g l) : g < w.heap.size := by
  obtain ⟨u, hu⟩ := Option.isSome_iff_exists.1 (h.th 0 (by omega)).1
  exact World.block_lt_of_cell? w ⟨g, 0 + 0, none⟩ hu
theorem Sec.same {w w' : World} {g : Nat} {l : List UInt8} (h : Sec w g l) (e : w'.heap[g]? = w.heap[g]?) : Sec w' g l := ⟨h.len, rangeAt_same h.at_ e, there_same h.th e⟩
theorem Sec.on {w w' : World} {g : Nat} {l : List UInt8} (h : Sec w g l) (hb : Below w.heap.size w w') : Sec w' g l := h.same (hb.block g h.lt)
theorem Sec.grown {w w' : World} {g b : Nat} {l : List UInt8} (h : Sec w g l) (hg : w.grownBy w' (some b)) (hne : g ≠ b) : Sec w' g l := h.same (hg.block g h.lt (fun e => hne (by injection e)))
theorem Sec.cell {w : World} {g i : Nat} {l : List UInt8} (h : Sec w g l) (hi : i < 128) : w.cell? ⟨g, i, none⟩ = some (.int .u8 (l.getD i 0).toNat) ∧ w.frozen? ⟨g, i, none⟩ = false := by
  have h1 := bs_cell h.at_ (i := i) (by rw [h.len]; exact hi)
  have h2 := (h.th i hi).2
  rw [Nat.zero_add] at h1 h2
  exact ⟨h1, h2⟩
theorem enc_app (a b : List UInt8) : enc (a ++ b) = enc a ++ enc b := by simp [enc]
theorem Sec.sets {w : World} {g o : Nat} {l cs : List UInt8} (h : Sec w g l) (ho : o + cs.length ≤ 128) : Sec (w.setCells g o (enc cs)) g (l.take o ++ (cs ++ l.drop (o + cs.length))) := by
  refine ⟨by simp [h.len]; omega, fun j v hv => ?_, World.there_setCells h.th _ _ _⟩
  have hl := h.len
  rw [enc_app, enc_app] at hv
  by_cases h1 : j < o
  · rw [List.getElem?_append_left (by rw [len_enc, List.length_take]; omega)] at hv
    rw [World.cell?_setCells_out g (enc cs) o w _ (fun _ _ => .inl (by show 0 + j < o; omega))]
    refine h.at_ j v ?_
    rw [← hv]
    unfold enc
    rw [List.getElem?_map, List.getElem?_map, List.getElem?_take_of_lt h1]
  · rw [List.getElem?_append_right (by rw [len_enc, List.length_take]; omega), len_enc, List.length_take, show min o l.length = o by omega] at hv
    by_cases h2 : j < o + cs.length
    · rw [List.getElem?_append_left (by rw [len_enc]; omega)] at hv
      have hth : w.there g o (enc cs).length := fun i hi => by
        rw [len_enc] at hi
        have := h.th (o + i) (by omega)
        rwa [Nat.zero_add] at this
      have := World.rangeAt_setCells_same w g o (enc cs) hth (j - o) v hv
      rw [show o + (j - o) = 0 + j by omega] at this
      exact this
    · rw [List.getElem?_append_right (by rw [len_enc]; omega), len_enc] at hv
      rw [World.cell?_setCells_out g (enc cs) o w _ (fun _ _ => .inr (by show o + (enc cs).length ≤ 0 + j; rw [len_enc]; omega))]
      refine h.at_ j v ?_
      rw [← hv]
      unfold enc
      rw [List.getElem?_map, List.getElem?_map, List.getElem?_drop]
      congr 2
      omega
theorem Sec.set {w : World} {g i : Nat} {l : List UInt8} (h : Sec w g l) (hi : i < 128) (c : UInt8) : Sec (w.setCell ⟨g, i, none⟩ (.int .u8 c.toNat)) g (l.set i c) := by
  have := h.sets (o := i) (cs := [c]) (by simp; omega)
  have e : l.take i ++ ([c] ++ l.drop (i + [c].length)) = l.set i c := by
    rw [List.set_eq_take_append_cons_drop, if_pos (by rw [h.len]; exact hi)]
    rfl
  rw [e] at this
  exact this
/-- As a row of bytes. -/
theorem Sec.bs {w : World} {g o n c : Nat} {l : List UInt8} (h : Sec w g l) (hon : o + n ≤ 128) (hc : n ≤ c) (hcm : c ≤ maxLen) : Bs w (.slice (some ⟨g, o, none⟩) n c) ((l.drop o).take n) := by
  have hl : ((l.drop o).take n).length = n := by simp [h.len]; omega
  refine ⟨_, c, by rw [hl], by rw [hl]; exact hc, hcm, fun e => (by cases e), .inr ⟨g, o, rfl, fun j v hv => ?_⟩⟩
  have hj : j < n := by have := (List.getElem?_eq_some_iff.1 hv).1; rwa [len_enc, hl] at this
  have := h.at_ (o + j) v (by
    rw [← hv]
    unfold enc
    rw [List.getElem?_map, List.getElem?_map, List.getElem?_take_of_lt hj, List.getElem?_drop])
  rwa [Nat.zero_add] at this
/-- Bytes of a number, set from the last one on. -/
def pset (l : List UInt8) (n : Nat) : Nat → List UInt8
  | 0 => l
  | k + 1 => (pset l n k).set (9 - k) (UInt8.ofNat (n / 256 ^ k))
theorem pset_all {l : List UInt8} (h : l.length = 128) (n : Nat) : pset l n 8 = l.take 2 ++ (be8 n ++ l.drop 10) := by
  match l, h with
  | _ :: _ :: _ :: _ :: _ :: _ :: _ :: _ :: _ :: _ :: r, _ => rfl
theorem len_pset {l : List UInt8} (n : Nat) : ∀ k, (pset l n k).length = l.length
  | 0 => rfl
  | k + 1 => by rw [pset, List.length_set, len_pset n k]
end Go.Proofs.YtnclhjjhobbbjaaDoor
