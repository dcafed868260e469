/-
  A frame as bytes: what Seal makes, what Open reads; a sector that is being written. No walk.
  What putN, bytesOf and takeN of package sector do; what bytes.Clone does.
  Bytes of one's own; what bytes.Clone does.
  Bytes put behind bytes of one's own.
  Slices of slices of bytes; both Joins.
-/
import Derived.Test.YtfakgfmgofblgaaGreatDoorZBitsSumShlSmallCall
import Derived.Test.YtfakgfmgofblgaaGreatDoorZFlushW
import Derived.Deep.AppendLies
import Derived.Deep.Upon
import Derived.Lib.AppendZeros
import Derived.Deep.LoopGhost
namespace Go.Proofs.YtfakgfmgofblgaaGreatDoor
open Go.RowKit

/-- A number in eight bytes, the highest first. -/
def be8 (n : Nat) : List UInt8 := [UInt8.ofNat (n / 256 ^ 7), UInt8.ofNat (n / 256 ^ 6), UInt8.ofNat (n / 256 ^ 5), UInt8.ofNat (n / 256 ^ 4), UInt8.ofNat (n / 256 ^ 3), UInt8.ofNat (n / 256 ^ 2), UInt8.ofNat (n / 256 ^ 1), UInt8.ofNat (n / 256 ^ 0)]
/-- A sum in four bytes, the lowest first. -/
def le4b (x : Nat) : List UInt8 := [UInt8.ofNat (x / 256 ^ 0), UInt8.ofNat (x / 256 ^ 1), UInt8.ofNat (x / 256 ^ 2), UInt8.ofNat (x / 256 ^ 3)]
/-- The 124 bytes ahead of the sum. -/
def headB (k n : Nat) (pay : List UInt8) : List UInt8 := UInt8.ofNat k :: UInt8.ofNat pay.length :: (be8 n ++ (pay ++ List.replicate (114 - pay.length) 0))
def frameB (k n : Nat) (pay : List UInt8) : List UInt8 := headB k n pay ++ le4b (csum (nat8 (headB k n pay)))
theorem len_be8 (n : Nat) : (be8 n).length = 8 := rfl
theorem len_headB (k n : Nat) {pay : List UInt8} (h : pay.length ≤ 112) : (headB k n pay).length = 124 := by
  simp [headB, len_be8]; omega
theorem len_frameB (k n : Nat) {pay : List UInt8} (h : pay.length ≤ 112) : (frameB k n pay).length = 128 := by
  rw [frameB, List.length_append, len_headB k n h]; rfl
theorem nat8_le4 (x : Nat) : nat8 (le4b x) = le4 x := by
  simp [nat8, le4b, le4]
theorem frame_framed (k n : Nat) (pay : List UInt8) : nat8 (frameB k n pay) = framed (nat8 (headB k n pay)) := by
  rw [frameB, framed, ← nat8_le4]
  simp [nat8]

/-- Which frames may be sealed. -/
def okF (k n : Int) (pay : List UInt8) : Bool := decide (1 ≤ k) && decide (k ≤ 255) && decide (0 ≤ n) && decide (pay.length ≤ 112)
def sealE (k n : Int) (pay : List UInt8) : Int := if okF k n pay then 0 else 1
def sealB (k n : Int) (pay : List UInt8) : List UInt8 := if okF k n pay then frameB k.toNat n.toNat pay else zer
theorem len_sealB (k n : Int) (pay : List UInt8) : (sealB k n pay).length = 128 := by
  unfold sealB
  split
  · rename_i h
    simp [okF] at h
    exact len_frameB _ _ (by omega)
  · exact len_zer

/-! ### A sector that is being written -/

structure Sec (w : World) (g : Nat) (l : List UInt8) : Prop where
  len : l.length = 128
  at_ : w.rangeAt g 0 (enc l)
  th : w.there g 0 128
theorem Sec.new (w : World) {l : List UInt8} (h : l.length = 128) : Sec (w.alloc (.cells (encA l) 118)) w.heap.size l :=
  ⟨h, range_new w (enc l) 118, by have := there_new w (encA l) 118; rwa [size_encA, h] at this⟩
theorem Sec.lt {w : World} {g : Nat} {l : List UInt8} (h : Sec w g l) : g < w.heap.size := by
  obtain ⟨u, hu⟩ := Option.isSome_iff_exists.1 (h.th 0 (by omega)).1
  exact World.block_lt_of_cell? w ⟨g, 0 + 0, none⟩ hu
theorem Sec.same {w w' : World} {g : Nat} {l : List UInt8} (h : Sec w g l) (e : w'.heap[g]? = w.heap[g]?) : Sec w' g l := ⟨h.len, rangeAt_same h.at_ e, there_same h.th e⟩
theorem Sec.on {w w' : World} {g : Nat} {l : List UInt8} (h : Sec w g l) (hb : Below w.heap.size w w') : Sec w' g l := h.same (hb.block g h.lt)
theorem Sec.grown {w w' : World} {g b : Nat} {l : List UInt8} (h : Sec w g l) (hg : w.grownBy w' (some b)) (hne : g ≠ b) : Sec w' g l := h.same (hg.block g h.lt (fun e => hne (by injection e)))
theorem Sec.cell {w : World} {g i : Nat} {l : List UInt8} (h : Sec w g l) (hi : i < 128) : w.cell? ⟨g, i, none⟩ = some (.int .u8 (l.getD i 0).toNat) ∧ w.frozen? ⟨g, i, none⟩ = false := by
  have h1 := bs_cell h.at_ (i := i) (by rw [h.len]; exact hi)
  have h2 := (h.th i hi).2
  rw [Nat.zero_add] at h1 h2
  exact ⟨h1, h2⟩
theorem enc_app (a b : List UInt8) : enc (a ++ b) = enc a ++ enc b := by simp [enc]
theorem Sec.sets {w : World} {g o : Nat} {l cs : List UInt8} (h : Sec w g l) (ho : o + cs.length ≤ 128) : Sec (w.setCells g o (enc cs)) g (l.take o ++ (cs ++ l.drop (o + cs.length))) := by
  refine ⟨by simp [h.len]; omega, fun j v hv => ?_, World.there_setCells h.th _ _ _⟩
  have hl := h.len
  rw [enc_app, enc_app] at hv
  by_cases h1 : j < o
  · rw [List.getElem?_append_left (by rw [len_enc, List.length_take]; omega)] at hv
    rw [World.cell?_setCells_out g (enc cs) o w _ (fun _ _ => .inl (by show 0 + j < o; omega))]
    refine h.at_ j v ?_
    rw [← hv]
    unfold enc
    rw [List.getElem?_map, List.getElem?_map, List.getElem?_take_of_lt h1]
  · rw [List.getElem?_append_right (by rw [len_enc, List.length_take]; omega), len_enc, List.length_take, show min o l.length = o by omega] at hv
    by_cases h2 : j < o + cs.length
    · rw [List.getElem?_append_left (by rw [len_enc]; omega)] at hv
      have hth : w.there g o (enc cs).length := fun i hi => by
        rw [len_enc] at hi
        have := h.th (o + i) (by omega)
        rwa [Nat.zero_add] at this
      have := World.rangeAt_setCells_same w g o (enc cs) hth (j - o) v hv
      rw [show o + (j - o) = 0 + j by omega] at this
      exact this
    · rw [List.getElem?_append_right (by rw [len_enc]; omega), len_enc] at hv
      rw [World.cell?_setCells_out g (enc cs) o w _ (fun _ _ => .inr (by show o + (enc cs).length ≤ 0 + j; rw [len_enc]; omega))]
      refine h.at_ j v ?_
      rw [← hv]
      unfold enc
      rw [List.getElem?_map, List.getElem?_map, List.getElem?_drop]
      congr 2
      omega
theorem Sec.set {w : World} {g i : Nat} {l : List UInt8} (h : Sec w g l) (hi : i < 128) (c : UInt8) : Sec (w.setCell ⟨g, i, none⟩ (.int .u8 c.toNat)) g (l.set i c) := by
  have := h.sets (o := i) (cs := [c]) (by simp; omega)
  have e : l.take i ++ ([c] ++ l.drop (i + [c].length)) = l.set i c := by
    rw [List.set_eq_take_append_cons_drop, if_pos (by rw [h.len]; exact hi)]
    rfl
  rw [e] at this
  exact this
/-- As a row of bytes. -/
theorem Sec.bs {w : World} {g o n c : Nat} {l : List UInt8} (h : Sec w g l) (hon : o + n ≤ 128) (hc : n ≤ c) (hcm : c ≤ maxLen) : Bs w (.slice (some ⟨g, o, none⟩) n c) ((l.drop o).take n) := by
  have hl : ((l.drop o).take n).length = n := by simp [h.len]; omega
  refine ⟨_, c, by rw [hl], by rw [hl]; exact hc, hcm, fun e => (by cases e), .inr ⟨g, o, rfl, fun j v hv => ?_⟩⟩
  have hj : j < n := by have := (List.getElem?_eq_some_iff.1 hv).1; rwa [len_enc, hl] at this
  have := h.at_ (o + j) v (by
    rw [← hv]
    unfold enc
    rw [List.getElem?_map, List.getElem?_map, List.getElem?_take_of_lt hj, List.getElem?_drop])
  rwa [Nat.zero_add] at this
/-- Bytes of a number, set from the last one on. -/
def pset (l : List UInt8) (n : Nat) : Nat → List UInt8
  | 0 => l
  | k + 1 => (pset l n k).set (9 - k) (UInt8.ofNat (n / 256 ^ k))
theorem pset_all {l : List UInt8} (h : l.length = 128) (n : Nat) : pset l n 8 = l.take 2 ++ (be8 n ++ l.drop 10) := by
  match l, h with
  | _ :: _ :: _ :: _ :: _ :: _ :: _ :: _ :: _ :: _ :: r, _ => rfl
theorem len_pset {l : List UInt8} (n : Nat) : ∀ k, (pset l n k).length = l.length
  | 0 => rfl
  | k + 1 => by rw [pset, List.length_set, len_pset n k]
end Go.Proofs.YtfakgfmgofblgaaGreatDoor
namespace Go.Proofs.YtfakgfmgofblgaaGreatDoor
open Go.RowKit
set_option linter.unusedVariables false      -- a walk need not use every condition

theorem div_step (n k : Nat) : n / 256 ^ k / 256 = n / 256 ^ (k + 1) := by rw [Nat.div_div_eq_div_mul, Nat.pow_succ]
theorem ofNat_val (x : Nat) : ((UInt8.ofNat x).toNat : Int) = (x : Int) % 256 := by
  rw [UInt8.toNat_ofNat']
  omega
set_option maxHeartbeats 1600000 in
theorem putN196 (w : World) (g : Nat) (l : List UInt8) (h : Sec w g l) (n : Nat) (hn : n < 9223372036854775808) :
    Calls Tryz.prog 196 #[.slice (some ⟨g, 2, none⟩) 8 126, .int .i64 n] w fun e w' => (∃ v, e = .returned v) ∧ Sec w' g (l.take 2 ++ (be8 n ++ l.drop 10)) ∧ w.grownBy w' (some g) ∧ w'.heap.size = w.heap.size := by
  have H : Hid (Sec w g l) := h
  have HL : Hid (l.length = 128) := h.len
  clear h
  go_enter Tryz.func196, Tryz.ntmps196
  go_wp2
  go_loopg [1, 4] 8 (fun gk s1 s4 wr => ∃ k : Nat, k + gk = 8 ∧ s4 = .int .i64 (7 - (k : Int)) ∧ s1 = .int .i64 (n / 256 ^ k : Nat) ∧ Hid (Sec wr g (pset l n k)) ∧ Hid (w.grownBy wr (some g) ∧ wr.heap.size = w.heap.size))
  case atStart => exact ⟨0, by omega, rfl, by simp, H, ⟨⟨rfl, rfl, rfl, Nat.le_refl _, fun _ _ _ => rfl⟩, rfl⟩⟩
  case round =>
    obtain ⟨k, hk, rfl, rfl, hS, hG⟩ := hrel
    cases gk with
    | zero =>
      obtain rfl : k = 8 := by omega
      go_wp2
      go_end0
      refine ⟨⟨_, rfl⟩, ?_, hG.out.1, hG.out.2⟩
      rw [← pset_all HL.out]; exact hS.out
    | succ q =>
      have hc := hS.out.cell (i := 9 - k) (by omega)
      obtain ⟨hc1, hc2⟩ := hc
      have h7 : (0 : Int) ≤ 7 - (k : Int) := by omega
      have h8 : (7 : Int) - (k : Int) < 8 := by omega
      have hz : (7 : Int) - (k : Int) = ((7 - k : Nat) : Int) := by omega
      have hoff : 2 + (7 - k) = 9 - k := by omega
      rw [← hoff] at hc1 hc2
      have hS2 := hS.out.set (i := 9 - k) (by omega) (UInt8.ofNat (n / 256 ^ k))
      have HS2 : Hid (Sec (wr.setCell ⟨g, 2 + (7 - k), none⟩ (.int .u8 (UInt8.ofNat (n / 256 ^ k)).toNat)) g (pset l n (k + 1))) := by
        rw [hoff]; exact hS2
      clear hS2
      have hv := ofNat_val (n / 256 ^ k)
      have hd := div_step n k
      have hm : Hid ((7 - k : Nat) = 7 - k) := rfl
      rw [hz]
      obtain ⟨m, hmm⟩ : ∃ m, n / 256 ^ k = m := ⟨_, rfl⟩
      obtain ⟨j, hj⟩ : ∃ j, 7 - k = j := ⟨_, rfl⟩
      rw [hmm] at hv hd HS2 ⊢
      rw [hj] at hc1 hc2 HS2 ⊢
      have hjz : ((j : Nat) : Int) < 8 := by omega
      rw [hv] at HS2
      clear h7 h8 hz hoff
      go_wp2
      go_roundg q
      case measure => omega
      case rel =>
        refine ⟨k + 1, by omega, by congr 1; omega, ?_, HS2.out, hG.out.1.trans (gr_set _ _ _ _), ?_⟩
        · rw [← hd]; simp
        · have := hG.out.2
          simpa [World.setCell] using this
/-- The number that eight bytes say, the highest first. -/
def be (l : List UInt8) : Nat := l.foldl (fun u c => u * 256 + c.toNat) 0
theorem be_app (l : List UInt8) (c : UInt8) : be (l ++ [c]) = be l * 256 + c.toNat := by simp [be, List.foldl_append]
theorem be_lt_of : ∀ (l : List UInt8) (u : Nat), l.foldl (fun u c => u * 256 + c.toNat) u < (u + 1) * 256 ^ l.length
  | [], u => by simp
  | c :: l, u => by
    have h := be_lt_of l (u * 256 + c.toNat)
    have hc := UInt8.toNat_lt c
    rw [List.foldl_cons, List.length_cons]
    refine Nat.lt_of_lt_of_le h ?_
    rw [Nat.pow_succ, Nat.mul_comm (256 ^ l.length) 256, ← Nat.mul_assoc]
    exact Nat.mul_le_mul_right _ (by omega)
theorem be_lt (l : List UInt8) : be l < 256 ^ l.length := by
  have := be_lt_of l 0
  unfold be
  omega
theorem or_u64 {a b : Nat} (ha : a < 18446744073709551616) (hb : b < 18446744073709551616) : bits .or .u64 (a : Int) (b : Int) = ((a ||| b : Nat) : Int) := by
  have e : bits .or .u64 (a : Int) (b : Int) = IntKind.u64.wrap ((BitVec.ofInt 64 (a : Int) ||| BitVec.ofInt 64 (b : Int)).toNat : Int) := rfl
  rw [e, BitVec.toNat_or, ofInt_toNat 64 a ha, ofInt_toNat 64 b hb]
  have := Nat.or_lt_two_pow (n := 64) ha hb
  simp only [IntKind.wrap_u64]
  omega
theorem or_low (a c : Nat) (hc : c < 256) : a * 256 ||| c = a * 256 + c := by
  have := Nat.two_pow_add_eq_or_of_lt (i := 8) (b := c) hc a
  rw [Nat.mul_comm a 256]
  exact this.symm
/-- A number as int64. -/
def sgn (u : Nat) : Int := wrap64 (u : Int)
set_option maxHeartbeats 1600000 in
theorem takeN179 (w : World) (g o : Nat) (cap : Nat) (l : List UInt8) (hl : l.length = 8) (hc : w.rangeAt g o (enc l)) :
    Calls Tryz.prog 179 #[.slice (some ⟨g, o, none⟩) 8 cap] w fun e w' => e = .returned (.int .i64 (sgn (be l))) ∧ w' = w := by
  go_enter Tryz.func179, Tryz.ntmps179
  go_wp2
  go_loopg [3, 8] 8 (fun gk s3 s8 wr => ∃ k : Nat, k + gk = 8 ∧ s8 = .int .i64 k ∧ s3 = .int .u64 (be (l.take k)) ∧ wr = w)
  case atStart => exact ⟨0, by omega, rfl, rfl, rfl⟩
  case round =>
    obtain ⟨k, hk, rfl, rfl, rfl⟩ := hrel
    cases gk with
    | zero =>
      obtain rfl : k = 8 := by omega
      rw [← hl, List.take_length]
      have hb : be l < 18446744073709551616 := by
        have := be_lt l
        rw [hl] at this; exact this
      go_wp2
      go_ret
      exact ⟨rfl, rfl⟩
    | succ q =>
      have hk8 : k < 8 := by omega
      have hkz : (k : Int) < 8 := by omega
      have hcell := bs_cell hc (i := k) (by omega)
      obtain ⟨c, hcc⟩ : ∃ c : UInt8, l.getD k 0 = c := ⟨_, rfl⟩
      rw [hcc] at hcell
      have hT : Hid (be (l.take (k + 1)) = be (l.take k) * 256 + c.toNat) := by
        show be (l.take (k + 1)) = _
        rw [List.take_succ_eq_append_getElem (by omega), be_app]
        congr 2
        rw [← hcc]; simp [show k < l.length by omega]
      have hb : be (l.take k) < 256 ^ k := by
        have := be_lt (l.take k)
        rwa [List.length_take, show min k l.length = k by omega] at this
      have hb7 : be (l.take k) < 72057594037927936 := Nat.lt_of_lt_of_le hb (by
        have : 256 ^ k ≤ 256 ^ 7 := Nat.pow_le_pow_right (by decide) (by omega)
        omega)
      generalize be (l.take k) = u at *
      have hc8 : c.toNat < 256 := UInt8.toNat_lt c
      have ho := or_u64 (a := u * 256) (b := c.toNat) (by omega) (by omega)
      rw [or_low u c.toNat hc8] at ho
      have ho' : bits .or .u64 ((u : Int) * 256) (c.toNat : Int) = ((u * 256 + c.toNat : Nat) : Int) := by
        rw [← ho]; simp
      clear ho hc hcc hb
      go_wp2
      go_roundg q
      case measure => omega
      case rel =>
        exact ⟨k + 1, by omega, by simp, by rw [hT.out]; simp, rfl⟩
/-- A sum's bytes, of which k are written. -/
def p4 (a b c d : Int) : Nat → List Value
  | 0 => [.int .u8 0, .int .u8 0, .int .u8 0, .int .u8 0]
  | 1 => [.int .u8 a, .int .u8 0, .int .u8 0, .int .u8 0]
  | 2 => [.int .u8 a, .int .u8 b, .int .u8 0, .int .u8 0]
  | 3 => [.int .u8 a, .int .u8 b, .int .u8 c, .int .u8 0]
  | _ => [.int .u8 a, .int .u8 b, .int .u8 c, .int .u8 d]
def by4 (x k : Nat) : Int := ((x / 256 ^ k : Nat) : Int) % 256
theorem p4_all (x : Nat) : encA (le4b x) = (p4 (by4 x 0) (by4 x 1) (by4 x 2) (by4 x 3) 4).toArray := by
  unfold p4 encA enc le4b by4
  simp only [List.map_cons, List.map_nil, ofNat_val]
theorem results_cell67 {fn : Func} {p : Tmp} (h : fn.results = #[.cell p 228]) (tmps : Array Value) (w : World) (g : Nat) (a b c d : Int) (t : TypeId) (hp : tmps.getD p undef = .pointer (some ⟨g, 0, none⟩)) (hr : w.heap[g]? = some (.cells #[.int .u8 a, .int .u8 b, .int .u8 c, .int .u8 d] t)) :
    (results fn tmps).run Tryz.prog w = .ok (.agg #[.int .u8 a, .int .u8 b, .int .u8 c, .int .u8 d]) w := by
  have hp' : tmps[p]?.getD undef = .pointer (some ⟨g, 0, none⟩) := by simpa using hp
  have hv := run_loadVar_mid (P := Tryz.prog) w g 0 228 [.int .u8 a, .int .u8 b, .int .u8 c, .int .u8 d] _ (by
    have := World.rangeAt_of_block hr 0 4
    simpa using this) Tryz.underlying228 rfl (by kernel_rfl)
  simp only [results, h]
  simp [hp', asAddr, hv]
set_option maxHeartbeats 1600000 in
theorem bytesOf197 (w : World) (x : Nat) (hx : x < 4294967296) :
    Calls Tryz.prog 197 #[.int .u32 x] w fun e w' => e = .returned (.agg (encA (le4b x))) ∧ Below w.heap.size w w' := by
  rw [p4_all]
  have h0 : Hid (by4 x 0 = ((x / 256 ^ 0 : Nat) : Int) % 256) := rfl
  have h1 : Hid (by4 x 1 = ((x / 256 ^ 1 : Nat) : Int) % 256) := rfl
  have h2 : Hid (by4 x 2 = ((x / 256 ^ 2 : Nat) : Int) % 256) := rfl
  have h3 : Hid (by4 x 3 = ((x / 256 ^ 3 : Nat) : Int) % 256) := rfl
  generalize by4 x 0 = a at *
  generalize by4 x 1 = b at *
  generalize by4 x 2 = c at *
  generalize by4 x 3 = d at *
  go_enter Tryz.func197, Tryz.ntmps197
  go_wp2
  go_loopg [0, 5] 4 (fun gk s0 s5 wr => ∃ k : Nat, k + gk = 4 ∧ s5 = .int .i64 k ∧ s0 = .int .u32 (x / 256 ^ k : Nat) ∧ wr = (w.alloc (.cells (p4 a b c d 0).toArray 228)).alloc (.cells (p4 a b c d k).toArray 228))
  case atStart => exact ⟨0, by omega, rfl, by simp, rfl⟩
  case round =>
    obtain ⟨k, hk, rfl, rfl, rfl⟩ := hrel
    cases gk with
    | zero =>
      obtain rfl : k = 4 := by omega
      unfold p4
      go_wp2
      refine bodyPost_ret (v := .agg #[.int .u8 a, .int .u8 b, .int .u8 c, .int .u8 d]) ?_ rfl ⟨rfl, ?_⟩
      · refine results_cell67 Tryz.results197 _ _ w.heap.size a b c d 228 rfl ?_
        exact blk_on (bel1 _ _) (heap_alloc_last w _)
      · exact (bel1 w _).alloc (by simp) _
    | succ q =>
      have hd := div_step x k
      have hu : x / 256 ^ k < 4294967296 := Nat.lt_of_le_of_lt (Nat.div_le_self _ _) hx
      obtain ⟨m, hmm⟩ : ∃ m, x / 256 ^ k = m := ⟨_, rfl⟩
      have hk4 : k = 0 ∨ k = 1 ∨ k = 2 ∨ k = 3 := by omega
      rcases hk4 with rfl | rfl | rfl | rfl
      all_goals
        rw [hmm] at hd hu ⊢
        (try rw [hmm] at h0); (try rw [hmm] at h1); (try rw [hmm] at h2); (try rw [hmm] at h3)
        clear hmm hx
        unfold p4
        go_wp2
        go_roundg q
        case measure => omega
        case rel => first
          | exact ⟨1, by omega, rfl, by rw [← hd]; simp, by rw [h0.out]; rfl⟩
          | exact ⟨2, by omega, rfl, by rw [← hd]; simp, by rw [h1.out]; rfl⟩
          | exact ⟨3, by omega, rfl, by rw [← hd]; simp, by rw [h2.out]; rfl⟩
          | exact ⟨4, by omega, rfl, by rw [← hd]; simp, by rw [h3.out]; rfl⟩
end Go.Proofs.YtfakgfmgofblgaaGreatDoor
namespace Go.Proofs.YtfakgfmgofblgaaGreatDoor
open Go.RowKit
set_option linter.unusedVariables false      -- a walk need not use every condition

/-- Bytes of one's own. -/
def Bts (w : World) (base : Nat) (v : Value) (t : List UInt8) : Prop := w.ownsRow base 5 1 v t.length (enc t)
theorem Bts.bs {w : World} {base : Nat} {v : Value} {t : List UInt8} (h : Bts w base v t) : Bs w v t := by
  unfold Bts at h
  rcases h.2 with ⟨rfl, h0⟩ | ⟨g, cap, cur, rfl, hbg, hg, hnc, hcm, hcs, htake⟩
  · have : t = [] := List.eq_nil_of_length_eq_zero h0
    subst this
    exact bs_nil w
  · refine ⟨_, cap, rfl, hnc, hcm, fun e => (by cases e), .inr ⟨g, 0, rfl, fun j u hu => ?_⟩⟩
    have := h.cells (g := g) rfl j u hu
    rw [Go.WideShapes.add_plain] at this
    exact this
theorem Bts.on {w w' : World} {base : Nat} {v : Value} {t : List UInt8} (h : Bts w base v t) (hb : Below w.heap.size w w') : Bts w' base v t := by
  unfold Bts at *
  refine World.ownsRow.kept h (gr_bel hb none) ?_
  cases hv : v.ownBlock with
  | none => exact .inl rfl
  | some g => exact .inr (by simp)
set_option maxHeartbeats 2000000 in
set_option maxRecDepth 100000 in
theorem clone62 (w : World) (v : Value) (t : List UInt8) (hv : Bs w v t) (hbig : t.length ≤ 140737488355328) :
    Calls Tryz.prog 62 #[v] w fun e w' => ∃ v', e = .returned v' ∧ Bts w' w.heap.size v' t ∧ Below w.heap.size w w' := by
  obtain ⟨p, cap, rfl, h1, h2, h3, h4⟩ := hv
  have q22 : ∀ (w : World) (a : Option Addr) (n c n' c' : Nat), (binOp .eql 29 (.slice a n c) (.slice none n' c')).run Tryz.prog w = .ok (.bool a.isNone) w := fun w a n c n' c' => Lib.run_eql_slice_nil w _ _ a n c n' c' Tryz.underlying29
  obtain ⟨i0, hi, hz0, hz1, hz2⟩ := info_parts info5
  cases p with
  | none =>
    have ht : t = [] := List.eq_nil_of_length_eq_zero (by have := h3 rfl; omega)
    subst ht
    go_enter Tryz.func62, Tryz.ntmps62
    go_wp2
    go_ret
    exact ⟨_, rfl, World.ownsRow_nil _ _ _ _, Below.refl _ _⟩
  | some a =>
    have hnews : ∀ j u, (enc t)[j]? = some u → w.cell? (a.add j) = some u := by
      intro j u hu
      rcases h4 with rfl | ⟨g, o, e, hc⟩
      · simp [enc] at hu
      · injection e with e
        subst e
        rw [Go.WideShapes.add_plain]
        exact hc j u hu
    have HN : Hid (∀ j u, (enc t)[j]? = some u → w.cell? (a.add j) = some u) := hnews
    clear hnews h4
    go_enter Tryz.func62, Tryz.ntmps62
    go_wp2_with (at_builtin; refine wpList_append_own _ rfl _ _ 29 rfl w.heap.size 5 i0 (.int .u8 0) 1 1 Tryz.underlying29 hi hz0 hz1 hz2 rfl (by decide) _ _ _ rfl (World.ownsRow_made w #[] 0 (Nat.le_refl _) (Nat.zero_le _) rfl) a t.length cap (enc t) rfl ?qc1 ?qc2 ?qc3 ?qc4 ?qc5 ?qc6 ?_)
    case qc1 => rw [len_enc]; omega
    case qc2 => exact fun j u hu => Lib.cell?_alloc_some _ (HN.out j u hu)
    case qc3 => exact one_enc t
    case qc4 => unfold maxLen; omega
    case qc5 => omega
    case qc6 => simp
    intro v' w1 hown hgrow hnil
    go_wp2
    go_ret
    refine ⟨v', rfl, ?_, ((Below.refl _ w).alloc (Nat.le_refl _) _).grown hgrow (by simp) (by intro k hk; simp [Value.ownBlock] at hk; omega)⟩
    unfold Bts
    simpa using hown
end Go.Proofs.YtfakgfmgofblgaaGreatDoor
namespace Go.Proofs.YtfakgfmgofblgaaGreatDoor
open Go.RowKit
set_option linter.unusedVariables false      -- a walk need not use every condition

theorem app_run (w : World) (base : Nat) (v x : Value) (t u : List UInt8) (hown : Bts w base v t) (hx : Bs w x u) (hlen : t.length + u.length ≤ 140737488355328) (hbase : base ≤ w.heap.size) (ty : TypeId) :
    ∃ v' w', (Builtin.append_ #[29, 29] ty #[v, x]).run Tryz.prog w = .ok v' w' ∧ Bts w' base v' (t ++ u) ∧ w.grownBy w' v.ownBlock := by
  obtain ⟨i0, hi, hz0, hz1, hz2⟩ := info_parts info5
  obtain ⟨p, cap, rfl, h1, h2, h3, h4⟩ := hx
  by_cases hu : u = []
  · subst hu
    have hsrc : Src Tryz.prog i0.size 29 (.slice p 0 cap) 0 [] w := by
      cases p with
      | none => exact Src.ofNil (w := w) Tryz.underlying29 cap
      | some a => exact Src.ofSlice (w := w) Tryz.underlying29 a 0 cap [] (by simp) (by simp) (by simp)
    have hs : ∃ q n c, v = .slice q n c ∧ n ≤ c := by
      rcases hown.2 with ⟨rfl, h0⟩ | ⟨g, cap, cur, rfl, hbg, hg, hnc, hcm, hcs, htake⟩
      · exact ⟨none, 0, 0, rfl, Nat.le_refl _⟩
      · exact ⟨_, _, cap, rfl, hnc⟩
    obtain ⟨q, n, c, rfl, hnc⟩ := hs
    refine ⟨_, w, run_append_nothing w 29 29 ty 5 i0 Tryz.underlying29 hi q n c hnc _ hsrc, by rw [List.append_nil]; exact hown, ⟨rfl, rfl, rfl, Nat.le_refl _, fun _ _ _ => rfl⟩⟩
  · obtain ⟨g, o, rfl, hc⟩ : ∃ g o, p = some ⟨g, o, none⟩ ∧ w.rangeAt g o (enc u) := h4.resolve_left hu
    have hpos : 0 < u.length := by cases u with
      | nil => exact absurd rfl hu
      | cons a b => simp
    obtain ⟨g', cap', w', hr, ho, hg, -, -⟩ := run_append_lies (P := Tryz.prog) w 29 ty base 5 i0 (.int .u8 0) 1 1 Tryz.underlying29 hi hz0 hz1 hz2 rfl (by decide) v t.length (enc t) hown ⟨g, o, none⟩ u.length cap (enc u) (by rw [len_enc]; omega) (fun j y hy => by rw [Go.WideShapes.add_plain]; exact hc j y hy) (one_enc u) hpos (by unfold maxLen; omega) (by omega) hbase w.heap.size rfl
    refine ⟨_, w', hr, ?_, hg⟩
    unfold Bts
    rw [List.length_append, enc, List.map_append]
    exact ho
theorem Bts.below {w w' : World} {base : Nat} {v : Value} {t : List UInt8} (h : Bts w base v t) (hg : w.grownBy w' v.ownBlock) (hbase : base ≤ w.heap.size) : Below base w w' :=
  ⟨hg.os, hg.tape, hg.output, hg.size, fun k hk => hg.block k (by omega) (fun e => by have := (World.ownsRow.lt h k e.symm).1; omega)⟩
theorem wpList_app {ops : Array Oper} {rest : List Oper} {o : Oper} {a : Act} {w : World} {Q : Exit → Act → World → Prop} (hgd : o.guard = none) (s x : Operand)
    (ho : o.op = .call { callee := .builtin .append, args := #[s, x], argTypes := #[29, 29] }) (base : Nat) (v y : Value) (t u : List UInt8) (hs : a.eval s = v) (hy : a.eval x = y) (hown : Bts w base v t) (hx : Bs w y u)
    (hlen : t.length + u.length ≤ 140737488355328) (hbase : base ≤ w.heap.size)
    (h : ∀ v' w', Bts w' base v' (t ++ u) → w.grownBy w' v.ownBlock → wpList Tryz.prog ops Q rest (a.put o.dst v') w') : wpList Tryz.prog ops Q (o :: rest) a w :=
  wpList_plain hgd fun _ hK => by
    obtain ⟨v', w', hr, h2, h3⟩ := app_run w base v y t u hown hx hlen hbase o.type
    unfold Oper.wp execOp
    simp only [ho, resolve, invoke, builtin, Sem.run_bind, Sem.run_pure, Result.andThen_ok, List.map_toArray, List.map_cons, List.map_nil, hs, hy, hr]
    exact hK _ _ (h v' w' h2 h3)
end Go.Proofs.YtfakgfmgofblgaaGreatDoor
namespace Go.Proofs.YtfakgfmgofblgaaGreatDoor
open Go.RowKit
set_option linter.unusedVariables false      -- a walk need not use every condition
attribute [local go_sem ↓] Go.wp_at_zero Go.wp_at_succ

/-- Slices of bytes that lie one behind the other, wherever that is. -/
def Bss (w : World) (v : Value) (L : List (List UInt8)) : Prop := ∃ p cap, v = .slice p L.length cap ∧
  (L = [] ∨ ∃ g o, p = some ⟨g, o, none⟩ ∧ ∀ i (h : i < L.length), ∃ x, w.cell? ⟨g, o + i, none⟩ = some x ∧ Bs w x L[i])
theorem Bss.on {w w' : World} {v : Value} {L : List (List UInt8)} (h : Bss w v L) (hb : Below w.heap.size w w') : Bss w' v L := by
  obtain ⟨p, cap, rfl, h⟩ := h
  refine ⟨p, cap, rfl, ?_⟩
  rcases h with h | ⟨g, o, rfl, h⟩
  · exact .inl h
  · refine .inr ⟨g, o, rfl, fun i hi => ?_⟩
    obtain ⟨x, hx, hB⟩ := h i hi
    exact ⟨x, (World.cell?_of_block (w := w) (a := ⟨g, o + i, none⟩) (hb.block _ (World.block_lt_of_cell? w ⟨g, o + i, none⟩ hx))).trans hx, hB.on hb⟩
theorem flat_succ (L : List (List UInt8)) {i : Nat} (h : i < L.length) : (L.take (i + 1)).flatten = (L.take i).flatten ++ L[i] := by
  rw [List.take_succ_eq_append_getElem h, List.flatten_append, List.flatten_cons, List.flatten_nil, List.append_nil]
theorem flat_le (L : List (List UInt8)) (i : Nat) : (L.take i).flatten.length ≤ L.flatten.length := by
  have h := List.take_append_drop i L
  have h2 : L.flatten = (L.take i).flatten ++ (L.drop i).flatten := by rw [← List.flatten_append, h]
  rw [h2]; simp
set_option maxHeartbeats 2000000 in
set_option maxRecDepth 100000 in
theorem grow195 (w : World) (n : Nat) (hn : n ≤ 140737488355328) :
    Calls Tryz.prog 195 #[.slice none 0 0, .int .i64 n] w fun e w' => ∃ v', e = .returned v' ∧ Bts w' w.heap.size v' [] ∧ Below w.heap.size w w' := by
  obtain ⟨i0, hi, hz0, hz1, hz2⟩ := info_parts info5
  by_cases h0 : n = 0
  · subst h0
    go_enter Tryz.func195, Tryz.ntmps195
    go_wp2
    go_ret
    exact ⟨_, rfl, World.ownsRow_nil _ _ _ _, Below.refl _ _⟩
  · have hr := Lib.run_append_nil_zeros (P := Tryz.prog) w 29 3 29 5 i0 (.int .u8 0) .i64 .i64 Tryz.underlying29 Tryz.underlying3 hi hz0 n (by omega) (by rw [hz1]; decide) (by omega) (by rw [hz2]; omega)
    have hcap : n ≤ grownCap w n 0 5 ∧ grownCap w n 0 5 ≤ maxLen := ⟨grownCap_ge _ _ _ _, grownCap_le_maxLen _ _ _ _ (by unfold maxLen; omega)⟩
    have hnz : (n : Int) ≤ 140737488355328 := by omega
    have hn0 : (0 : Int) < (n : Int) := by omega
    generalize hc : grownCap w n 0 5 = c at *
    go_enter Tryz.func195, Tryz.ntmps195
    go_wp2_with (at_builtin; refine Lib.wpList_append_run _ rfl _ _ _ _ rfl _ _ rfl rfl _ _ hr ?_)
    go_ret
    refine ⟨_, rfl, ?_, ?_⟩
    · refine ⟨rfl, .inr ⟨w.heap.size, c, _, rfl, Nat.le_refl _, heap_alloc_last w.drew _, Nat.zero_le _, hcap.2, ?_, rfl⟩⟩
      have hz : ∀ k, (Builtin.zeroCells #[Value.int .u8 0] k).size = k := fun k => by simp [Builtin.zeroCells]
      rw [Array.size_append, hz, hz]
      omega
    · exact (Below.refl _ w).drew.alloc (Nat.le_refl _) _
set_option maxHeartbeats 2000000 in
set_option maxRecDepth 100000 in
theorem concat178 (w : World) (v : Value) (L : List (List UInt8)) (hv : Bss w v L) (hn : L.length ≤ 140737488355328) (hlen : L.flatten.length ≤ 140737488355328) :
    Calls Tryz.prog 178 #[v] w fun e w' => ∃ v', e = .returned v' ∧ Bts w' w.heap.size v' L.flatten ∧ Below w.heap.size w w' := by
  have HV := Lib.hid hv
  have c51 := grow195
  obtain ⟨p, cap, rfl, -⟩ := hv
  have hnz : (L.length : Int) ≤ 140737488355328 := by omega
  go_enter Tryz.func178, Tryz.ntmps178
  go_wp2
  go_loopg [3, 11] L.length (fun g s3 s11 wr => ∃ i : Nat, i + g = L.length ∧ s11 = .int .i64 i ∧ s3 = .int .i64 ((L.take i).flatten.length : Nat) ∧ w = wr)
  case atStart => exact ⟨0, by omega, rfl, by simp, rfl⟩
  case round =>
    obtain ⟨i, hig, rfl, rfl, rfl⟩ := hrel
    cases gk with
    | succ g =>
      have hi : i < L.length := by omega
      have hiz : (i : Int) < (L.length : Int) := by omega
      have hi0 : (0 : Int) ≤ (i : Int) := by omega
      obtain ⟨p', cap', e, hel⟩ := HV.out
      injection e with e1 e2 e3
      subst e1 e3
      obtain ⟨b, o, rfl, hel2⟩ := hel.resolve_left (fun e => by rw [e] at hi; simp at hi)
      obtain ⟨x, hx, hxB⟩ := hel2 i hi
      obtain ⟨xp, xc, rfl, -⟩ := hxB
      have hfl : (L.take i).flatten.length + L[i].length ≤ 140737488355328 := by
        have := flat_le L (i + 1)
        rw [flat_succ L hi, List.length_append] at this
        omega
      have HF : Hid ((L.take (i + 1)).flatten.length = (L.take i).flatten.length + L[i].length) := by
        show _ = _
        rw [flat_succ L hi, List.length_append]
      generalize (L.take i).flatten.length = T at *
      generalize L[i].length = U at *
      have hs : IntKind.i64.wrap ((T : Int) + (U : Int)) = ((T + U : Nat) : Int) := by rw [IntKind.wrap_i64]; omega
      have hs0 : ¬ (((T + U : Nat) : Int) < 0) := by omega
      clear hel hel2
      go_wp2
      go_roundg g
      case measure => omega
      case rel => exact ⟨i + 1, by omega, by first | rfl | simp, by rw [HF.out]; simp, rfl⟩
    | zero =>
      obtain rfl : i = L.length := by omega
      rw [List.take_length]
      generalize hF : L.flatten.length = F at *
      have HFl := Lib.hid hF
      clear hF
      go_wp2_with (go_at_call 195; refine (c51 _ F (by omega)).mono ?_; rintro e w1 ⟨v1, rfl, hB1, hb1⟩)
      have HB1 := Lib.hid hB1
      have Hb1 := Lib.hid hb1
      clear hB1 hb1
      go_loopg [6, 27] L.length (fun g s6 s27 wr => ∃ i : Nat, i + g = L.length ∧ s27 = .int .i64 i ∧ Bts wr w.heap.size s6 (L.take i).flatten ∧ Below w.heap.size w wr)
      case atStart => exact ⟨0, by omega, rfl, HB1.out, Hb1.out⟩
      case round =>
        obtain ⟨i, hig, rfl, hB, hb⟩ := hrel
        have HB := Lib.hid hB
        have Hb := Lib.hid hb
        have hbz := hb.size
        clear hB hb
        cases gk with
        | zero =>
          obtain rfl : i = L.length := by omega
          go_wp2
          go_ret
          exact ⟨_, rfl, by have := HB.out; rwa [List.take_length] at this, Hb.out⟩
        | succ g =>
          have hi : i < L.length := by omega
          have hiz : (i : Int) < (L.length : Int) := by omega
          have hi0 : (0 : Int) ≤ (i : Int) := by omega
          obtain ⟨p', cap', e, hel⟩ := HV.out.on Hb.out
          injection e with e1 e2 e3
          subst e1 e3
          obtain ⟨b, o, rfl, hel2⟩ := hel.resolve_left (fun e => by rw [e] at hi; simp at hi)
          obtain ⟨x, hx, hxB⟩ := hel2 i hi
          have HX := Lib.hid hxB
          obtain ⟨xp, xc, rfl, -⟩ := hxB
          have hfl : Hid ((L.take i).flatten.length + L[i].length ≤ 140737488355328) := by
            have := flat_le L (i + 1)
            have h2 := HFl.out
            rw [flat_succ L hi, List.length_append] at this
            show _ ≤ _
            omega
          have HF := Lib.hid (flat_succ L hi)
          generalize (L.take i).flatten = T at *
          generalize L[i] = U at *
          clear hel hel2
          go_wp2_with (at_builtin; refine wpList_app rfl _ _ rfl w.heap.size _ _ T U rfl rfl HB.out HX.out hfl.out hbz ?_; intro v' w' hbt hgr)
          go_roundg g
          case measure => omega
          case rel => exact ⟨i + 1, by omega, by first | rfl | simp, by rw [HF.out]; exact hbt, Hb.out.trans (HB.out.below hgr hbz)⟩
theorem join150 (w : World) (v : Value) (L : List (List UInt8)) (hv : Bss w v L) (hn : L.length ≤ 140737488355328) (hlen : L.flatten.length ≤ 140737488355328) :
    Calls Tryz.prog 150 #[v] w fun e w' => ∃ v', e = .returned v' ∧ Bts w' w.heap.size v' L.flatten ∧ Below w.heap.size w w' := by
  have c47 := concat178 w v L hv hn hlen
  obtain ⟨p, cap, rfl, -⟩ := hv
  go_enter Tryz.func150, Tryz.ntmps150
  go_wp2_with (go_at_call 178; refine c47.mono ?_; rintro e w1 ⟨v1, rfl, hB1, hb1⟩)
  go_ret
  exact ⟨_, rfl, hB1, hb1⟩
end Go.Proofs.YtfakgfmgofblgaaGreatDoor
