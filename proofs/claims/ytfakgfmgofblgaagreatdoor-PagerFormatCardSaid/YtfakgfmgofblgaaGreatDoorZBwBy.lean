/-
  What the small functions of the page 0's base do: which pages are not free.
  What bytes of the page 0's base does.
-/
import Derived.Test.YtfakgfmgofblgaaGreatDoorZFoWdWgWlBa
import Derived.Lib.Hide
import Derived.Lib.Tables
import Derived.Deep.RegionHeld3
import Derived.Deep.LoopGhost
import Derived.Test.YtfakgfmgofblgaaGreatDoorZFrmPutnClnAppJn
import Derived.Laws.CopyOwn
namespace Go.Proofs.YtfakgfmgofblgaaGreatDoor
open Go.RowKit
set_option linter.unusedVariables false      -- a walk need not use every condition

/-- A base lies at a place, in the midst of what else lies there. -/
structure BaAt (w : World) (g o : Nat) (b : Ba) : Prop where
  rg : w.rangeAt g o b.cells
  th : w.there g o 260
  ok : b.Ok
theorem BaAt.at {w : World} {g o : Nat} {b : Ba} (h : BaAt w g o b) {i : Nat} (hi : i < 256) : w.cell? ⟨g, o + i, none⟩ = some (.int .u8 (b.at i)) := h.rg i _ (Ba.cell h.ok hi)
theorem BaAt.word {w : World} {g o : Nat} {b : Ba} (h : BaAt w g o b) {i : Nat} (hi : i < 4) : w.cell? ⟨g, o + 256 + i, none⟩ = some (.int .i64 (b.wd i)) := by
  have := h.rg (256 + i) _ (Ba.word h.ok hi)
  rw [← Nat.add_assoc] at this
  exact this
theorem BaAt.blk {w w' : World} {g o : Nat} {b : Ba} (h : BaAt w g o b) (e : w'.heap[g]? = w.heap[g]?) : BaAt w' g o b := ⟨rangeAt_same h.rg e, there_same h.th e, h.ok⟩
theorem BaAt.lt {w : World} {g o : Nat} {b : Ba} (h : BaAt w g o b) : g < w.heap.size := World.block_lt_of_cell? w _ (h.at (i := 0) (by decide))
theorem BaAt.on {w w' : World} {g o : Nat} {b : Ba} (h : BaAt w g o b) (hb : Below w.heap.size w w') : BaAt w' g o b := h.blk (hb.block _ h.lt)
theorem tdiv8 (p : Nat) : Int.tdiv (p : Int) 8 = ((p / 8 : Nat) : Int) := by rw [Int.tdiv_eq_ediv_of_nonneg (by omega)]; rfl
theorem tmod8 (p : Nat) : Int.tmod (p : Int) 8 = ((p % 8 : Nat) : Int) := by rw [Int.tmod_eq_emod_of_nonneg (by omega)]; rfl
theorem takenLen151 (w : World) (pages : Nat) (hp : pages ≤ 2048) : Calls Tryz.prog 151 #[.int .i64 pages] w fun e w' => e = .returned (.int .i64 (tlen pages)) ∧ w' = w := by
  have e1 : IntKind.i64.wrap ((pages : Int) + 8) = (pages : Int) + 8 := by rw [IntKind.wrap_i64]; omega
  have e2 : IntKind.i64.wrap ((pages : Int) + 8 - 1) = ((pages + 7 : Nat) : Int) := by rw [IntKind.wrap_i64]; omega
  have e3 := tdiv8 (pages + 7)
  have e4 : IntKind.i64.wrap (((pages + 7) / 8 : Nat) : Int) = (((pages + 7) / 8 : Nat) : Int) := by rw [IntKind.wrap_i64]; omega
  unfold tlen
  go_enter Tryz.func151, Tryz.ntmps151
  go_wp2
  go_ret
  exact ⟨rfl, rfl⟩
theorem has111 (w : World) (g o : Nat) (b : Ba) (h : BaAt w g o b) (p : Nat) (hp : p < 2048) : Calls Tryz.prog 111 #[.pointer (some ⟨g, o, none⟩), .int .i64 p] w fun e w' => e = .returned (.bool (b.has p)) ∧ w' = w := by
  have hc := h.at (i := p / 8) (by omega)
  have hq := tdiv8 p
  have hr := tmod8 p
  have hjz : ((p / 8 : Nat) : Int) < 256 := by omega
  have hjz0 : (0 : Int) ≤ ((p / 8 : Nat) : Int) := by omega
  have hk : p % 8 < 8 := by omega
  have hbit := has_bit (b.at_lt (p / 8)) hk
  have hR : b.has p = (b.at (p / 8)).testBit (p % 8) := rfl
  rw [hR, ← hbit]
  clear h hR hbit
  generalize b.at (p / 8) = c at *
  go_enter Tryz.func111, Tryz.ntmps111
  go_wp2
  go_ret
  exact ⟨by simp, rfl⟩
/-- One byte of a base is written. -/
theorem BaAt.byte {w : World} {g o : Nat} {b : Ba} (h : BaAt w g o b) {i : Nat} (hi : i < 256) (c : UInt8) : BaAt (w.setCell ⟨g, o + i, none⟩ (.int .u8 c.toNat)) g o { b with tk := b.tk.set i c } := by
  have ht := h.th i (by omega)
  refine ⟨fun j v hv => ?_, ?_, ⟨by simp [h.ok.t], h.ok.w, h.ok.r⟩⟩
  · have hj : j < 260 := by
      have := (List.getElem?_eq_some_iff.1 hv).1
      rw [Ba.len (b := { b with tk := b.tk.set i c }) ⟨by simp [h.ok.t], h.ok.w, h.ok.r⟩] at this
      exact this
    unfold Ba.cells enc at hv
    simp only [List.map_set] at hv
    by_cases e : j = i
    · subst e
      rw [World.cell?_setCell_same' _ _ _ ht.1]
      rw [List.getElem?_append_left (by rw [List.length_set, List.length_map, h.ok.t]; exact hi), List.getElem?_set_self (by rw [List.length_map, h.ok.t]; exact hi)] at hv
      exact hv
    · rw [World.cell?_setCell_other _ _ _ _ (fun e2 => e (by injection e2 with _ e2; omega))]
      refine h.rg j v ?_
      rw [← hv]
      unfold Ba.cells enc
      by_cases hj2 : j < 256
      · rw [List.getElem?_append_left (by rw [List.length_map, h.ok.t]; exact hj2), List.getElem?_append_left (by rw [List.length_set, List.length_map, h.ok.t]; exact hj2), List.getElem?_set_ne (fun e2 => e e2.symm)]
      · rw [List.getElem?_append_right (by rw [List.length_map, h.ok.t]; omega), List.getElem?_append_right (by rw [List.length_set, List.length_map, h.ok.t]; omega), List.length_set]
  · exact World.there_setCells h.th g (o + i) [.int .u8 c.toNat]
theorem shl_one {k : Nat} (hk : k < 8) : (1 : Int) * 2 ^ k % 256 = ((2 ^ k : Nat) : Int) := by
  have := pow8 hk
  rw [Int.one_mul, show (2 : Int) ^ k = ((2 ^ k : Nat) : Int) by simp]
  generalize 2 ^ k = x at *
  omega
theorem at_getD (b : Ba) (i : Nat) : b.at i = (b.tk.getD i 0).toNat := rfl
theorem pw_mod {k : Nat} (hk : k < 8) : (2 : Int) ^ k % 256 = ((2 ^ k : Nat) : Int) := by
  have := shl_one hk
  rw [Int.one_mul] at this
  exact this
set_option maxHeartbeats 800000 in
theorem put78 (w : World) (g o : Nat) (b : Ba) (h : BaAt w g o b) (p : Nat) (hp : p < 2048) : Calls Tryz.prog 78 #[.pointer (some ⟨g, o, none⟩), .int .i64 p] w fun e w' => e = .returned (.tuple #[]) ∧ w' = (w.setCell ⟨g, o + p / 8, none⟩ (.int .u8 (orb (b.tk.getD (p / 8) 0) (p % 8)).toNat)).drew := by
  have hc := h.at (i := p / 8) (by omega)
  have hf : w.frozen? ⟨g, o + p / 8, none⟩ = false := (h.th (p / 8) (by omega)).2
  have hq := tdiv8 p
  have hr := tmod8 p
  have hjz : ((p / 8 : Nat) : Int) < 256 := by omega
  have hjz0 : (0 : Int) ≤ ((p / 8 : Nat) : Int) := by omega
  have hk : p % 8 < 8 := by omega
  rw [at_getD] at hc
  generalize b.tk.getD (p / 8) 0 = c at *
  have HR : Hid (bits .or .u8 (c.toNat : Int) (2 ^ (p % 8) % 256) = ((orb c (p % 8)).toNat : Int)) := by
    show _ = _
    rw [pw_mod hk, or_u8 (UInt8.toNat_lt c) (pow8 hk), orb_toNat c hk]
  clear h
  go_enter Tryz.func78, Tryz.ntmps78
  go_region
  go_end0
  exact ⟨rfl, by rw [← HR.out]⟩
set_option maxHeartbeats 800000 in
theorem take81 (w : World) (g o : Nat) (b : Ba) (h : BaAt w g o b) (p : Nat) (hp : p < 2048) : Calls Tryz.prog 81 #[.pointer (some ⟨g, o, none⟩), .int .i64 p] w fun e w' => e = .returned (.tuple #[]) ∧ w' = (w.setCell ⟨g, o + p / 8, none⟩ (.int .u8 (anb (b.tk.getD (p / 8) 0) (p % 8)).toNat)).drew := by
  have hc := h.at (i := p / 8) (by omega)
  have hf : w.frozen? ⟨g, o + p / 8, none⟩ = false := (h.th (p / 8) (by omega)).2
  have hq := tdiv8 p
  have hr := tmod8 p
  have hjz : ((p / 8 : Nat) : Int) < 256 := by omega
  have hjz0 : (0 : Int) ≤ ((p / 8 : Nat) : Int) := by omega
  have hk : p % 8 < 8 := by omega
  rw [at_getD] at hc
  generalize b.tk.getD (p / 8) 0 = c at *
  have HR : Hid (bits .andNot .u8 (c.toNat : Int) (2 ^ (p % 8) % 256) = ((anb c (p % 8)).toNat : Int)) := by
    show _ = _
    rw [pw_mod hk, andnot_u8 (UInt8.toNat_lt c) hk, anb_toNat c]
  clear h
  go_enter Tryz.func81, Tryz.ntmps81
  go_region
  go_end0
  exact ⟨rfl, by rw [← HR.out]⟩
theorem pop8_eq {a : Nat} (ha : a < 256) : Lib.pop8 a = pop a := by
  have h : ∀ x : Fin 256, Lib.pop8 (x.val : Int) = pop x.val := by decide +kernel
  exact h ⟨a, ha⟩
theorem ones117 (w : World) (a : Nat) (ha : a < 256) : Calls Tryz.prog 117 #[.int .u8 a] w fun e w' => e = .returned (.int .i64 (pop a)) ∧ w' = w := by
  have hz : (0 : Int) ≤ (a : Int) := by omega
  have hz2 : (a : Int) ≤ 255 := by omega
  have hw : wrap64 (Lib.pop8 a) = Lib.pop8 a := by rw [pop8_eq ha]; have := pop_le a; unfold wrap64; omega
  rw [← pop8_eq ha]
  go_enter Tryz.func117, Tryz.ntmps117
  go_wp2
  go_ret
  exact ⟨by simp [hw], rfl⟩
theorem ntz8_eq {a : Nat} (ha : a < 256) : Lib.ntz8 ((255 ^^^ a : Nat) : Int) = low a := by
  have h : ∀ x : Fin 256, Lib.ntz8 ((255 ^^^ x.val : Nat) : Int) = low x.val := by decide +kernel
  exact h ⟨a, ha⟩
theorem low_le {a : Nat} (ha : a < 256) : low a ≤ 8 := by
  have h : ∀ x : Fin 256, low x.val ≤ 8 := by decide +kernel
  exact h ⟨a, ha⟩
theorem tz129 (w : World) (a : Nat) (ha : a < 256) : Calls Tryz.prog 129 #[.int .u8 (255 ^^^ a : Nat)] w fun e w' => e = .returned (.int .i64 (low a)) ∧ w' = w := by
  have hlt : 255 ^^^ a < 256 := Nat.xor_lt_two_pow (n := 8) (by decide) ha
  have hw : wrap64 (Lib.ntz8 ((255 ^^^ a : Nat) : Int)) = Lib.ntz8 ((255 ^^^ a : Nat) : Int) := by rw [ntz8_eq ha]; have := low_le ha; unfold wrap64; omega
  rw [← ntz8_eq ha]
  generalize 255 ^^^ a = x at *
  have hz : (0 : Int) ≤ (x : Int) := by omega
  have hz2 : (x : Int) ≤ 255 := by omega
  go_enter Tryz.func129, Tryz.ntmps129
  go_wp2
  go_ret
  exact ⟨by simp [hw], rfl⟩
theorem tz129x (w : World) (a : Nat) (ha : a < 256) : Calls Tryz.prog 129 #[.int .u8 (bits .xor .u8 255 (a : Int))] w fun e w' => e = .returned (.int .i64 (low a)) ∧ w' = w := by
  have hx : bits .xor .u8 255 (a : Int) = ((255 ^^^ a : Nat) : Int) := xor_u8 (a := 255) (by decide) ha
  rw [hx]
  exact tz129 w a ha
theorem BaAt.tk {w : World} {g o : Nat} {b : Ba} (h : BaAt w g o b) : w.rangeAt g o (enc b.tk) := fun j v hv => h.rg j v (by
  unfold Ba.cells
  rw [List.getElem?_append_left (List.getElem?_eq_some_iff.1 hv).1]
  exact hv)
theorem BaAt.ws {w : World} {g o : Nat} {b : Ba} (h : BaAt w g o b) : w.rangeAt g (o + 256) (wds b.ws) := fun j v hv => by
  have := h.rg (256 + j) v (by
    unfold Ba.cells
    rw [List.getElem?_append_right (by rw [len_enc, h.ok.t]; omega), len_enc, h.ok.t, Nat.add_sub_cancel_left]
    exact hv)
  rw [← Nat.add_assoc] at this
  exact this
theorem size61 : (Tryz.prog.info? 61).map (·.size) = some 256 := by kernel_rfl
theorem size40 : (Tryz.prog.info? 40).map (·.size) = some 4 := by kernel_rfl
theorem tk_at {b : Ba} (h : b.Ok) {i : Nat} (hi : i < 256) : (enc b.tk).toArray[i]? = some (.int .u8 (b.at i)) := by
  have := Ba.cell h hi
  unfold Ba.cells at this
  rw [List.getElem?_append_left (by rw [len_enc, h.t]; exact hi)] at this
  rw [List.getElem?_toArray]
  exact this
theorem run_index61 (w : World) (cs : Array Value) (i : Nat) (hi : i < 256) (v : Value) (hv : cs[i]? = some v) : (Instr.index 61 (.agg cs) (.int .i64 i)).run Tryz.prog w = .ok v w := by
  simp [Instr.index, go_sem, run_underlying Tryz.underlying61, Tryz.sizeOf5, hi, hv]
theorem run_index40 (w : World) (cs : Array Value) (i : Nat) (hi : i < 4) (v : Value) (hv : cs[i]? = some v) : (Instr.index 40 (.agg cs) (.int .i64 i)).run Tryz.prog w = .ok v w := by
  simp [Instr.index, go_sem, run_underlying Tryz.underlying40, Tryz.sizeOf2, hi, hv]
theorem drop_tk {b : Ba} (h : b.Ok) {i : Nat} (hi : i < 256) : b.tk.drop i = b.tk.getD i 0 :: b.tk.drop (i + 1) := by
  rw [List.drop_eq_getElem_cons (by rw [h.t]; exact hi), List.getD_eq_getElem?_getD, List.getElem?_eq_getElem (by rw [h.t]; exact hi)]
  rfl
set_option maxHeartbeats 1600000 in
set_option maxRecDepth 10000 in
theorem leastFree76 (w : World) (g o : Nat) (b : Ba) (h : BaAt w g o b) : Calls Tryz.prog 76 #[.pointer (some ⟨g, o, none⟩)] w fun e w' => e = .returned (.int .i64 b.least) ∧ w' = w := by
  have r := h.tk
  have hi1 : (Tryz.prog.info? 61).map (·.size) = some (enc b.tk).length := by rw [size61, len_enc, h.ok.t]
  have HA : Hid (∀ i, i < 256 → (enc b.tk).toArray[i]? = some (.int .u8 (b.at i))) := fun i hi => tk_at h.ok hi
  have HO := Lib.hid h.ok
  obtain ⟨R, hR⟩ : ∃ R, b.least = R := ⟨_, rfl⟩
  have HR := Lib.hid hR
  rw [hR]
  clear h hR
  go_enter Tryz.func76, Tryz.ntmps76
  go_wp2_with (first
    | (with_reducible show wpList _ _ _ (Oper.mk (some 8) (Op.load 61 (Operand.tmp 7)) _ _ _ _ :: _) _ _
       refine wpList_load_mid rfl 61 _ rfl _ _ rfl _ _ r Tryz.underlying61 rfl hi1 ?_))
  generalize (enc b.tk).toArray = A at HA ⊢
  go_loopg [9] 256 (fun gk s9 wr => ∃ i : Nat, i + gk = 256 ∧ s9 = .int .i64 i ∧ wr = w ∧ Hid (lfr (b.tk.drop i) i = R))
  case atStart => exact ⟨0, rfl, rfl, rfl, by show _ = _; rw [← HR.out]; rfl⟩
  case round =>
    obtain ⟨i, hg, rfl, rfl, hl⟩ := hrel
    cases gk with
    | zero =>
      obtain rfl : i = 256 := by omega
      have hRR : R = 2048 := by rw [← hl.out, List.drop_of_length_le (by rw [HO.out.t]; exact Nat.le_refl _)]; rfl
      subst hRR
      go_wp2
      go_ret
      exact ⟨rfl, rfl⟩
    | succ k =>
      have hi : i < 256 := by omega
      have hv := run_index61 wr A i hi _ (HA.out i hi)
      have hiz : (i : Int) < 256 := by omega
      have hl2 := hl.out
      rw [drop_tk HO.out hi, lfr] at hl2
      have hc := b.at_lt i
      have hcd : (b.tk.getD i 0).toNat = b.at i := rfl
      rw [hcd] at hl2
      generalize b.at i = c at *
      by_cases h255 : c = 255
      · subst h255
        rw [if_pos rfl] at hl2
        have HL2 := Lib.hid hl2
        clear hl2 hl hcd
        go_wp2
        go_roundg k
        case measure => omega
        case rel => exact ⟨i + 1, by omega, by first | rfl | simp, rfl, HL2.out⟩
      · rw [if_neg h255] at hl2
        have hcz : ((c : Int) != 255) = true := by simp; omega
        have cT := tz129x wr c hc
        have hlow := low_le hc
        have e1 : IntKind.i64.wrap ((i : Int) * 8) = (i : Int) * 8 := by rw [IntKind.wrap_i64]; omega
        have e2 : IntKind.i64.wrap ((i : Int) * 8 + (low c : Int)) = (R : Int) := by rw [IntKind.wrap_i64, ← hl2]; omega
        clear hl hl2 hcd
        generalize low c = q at *
        go_wp2_with (first | (go_at_call 129; refine cT.mono ?_; rintro e w' ⟨rfl, rfl⟩))
        go_ret
        exact ⟨rfl, rfl⟩
/-- How many pages the first bytes tell of. -/
def cnt (b : Ba) (i : Nat) : Nat := ((b.tk.take i).map fun c => pop c.toNat).sum
theorem cnt_succ {b : Ba} (h : b.Ok) {i : Nat} (hi : i < 256) : cnt b (i + 1) = cnt b i + pop (b.at i) := by
  unfold cnt Ba.at
  rw [List.take_add_one, List.getD_eq_getElem?_getD, List.getElem?_eq_getElem (by rw [h.t]; exact hi)]
  simp only [Option.toList_some, List.map_append, List.map_cons, List.map_nil, List.sum_append, List.sum_cons, List.sum_nil, Option.getD_some, Nat.add_zero]
theorem cnt_all {b : Ba} (h : b.Ok) : cnt b 256 = b.count := by
  unfold cnt Ba.count
  rw [List.take_of_length_le (by rw [h.t]; exact Nat.le_refl _)]
theorem cnt_le {b : Ba} (h : b.Ok) : ∀ i, i ≤ 256 → cnt b i ≤ 8 * i
  | 0, _ => by simp [cnt]
  | i + 1, hi => by
    have := cnt_le h i (by omega)
    have := pop_le (b.at i)
    rw [cnt_succ h (by omega)]
    omega
set_option maxHeartbeats 1600000 in
set_option maxRecDepth 10000 in
theorem count60 (w : World) (g o : Nat) (b : Ba) (h : BaAt w g o b) : Calls Tryz.prog 60 #[.pointer (some ⟨g, o, none⟩)] w fun e w' => e = .returned (.int .i64 b.count) ∧ w' = w := by
  have r := h.tk
  have hi1 : (Tryz.prog.info? 61).map (·.size) = some (enc b.tk).length := by rw [size61, len_enc, h.ok.t]
  have HA : Hid (∀ i, i < 256 → (enc b.tk).toArray[i]? = some (.int .u8 (b.at i))) := fun i hi => tk_at h.ok hi
  have HO := Lib.hid h.ok
  clear h
  go_enter Tryz.func60, Tryz.ntmps60
  go_wp2_with (first
    | (with_reducible show wpList _ _ _ (Oper.mk (some 9) (Op.load 61 (Operand.tmp 8)) _ _ _ _ :: _) _ _
       refine wpList_load_mid rfl 61 _ rfl _ _ rfl _ _ r Tryz.underlying61 rfl hi1 ?_))
  generalize (enc b.tk).toArray = A at HA ⊢
  go_loopg [3, 10] 256 (fun gk s3 s10 wr => ∃ i : Nat, i + gk = 256 ∧ s10 = .int .i64 i ∧ wr = w ∧ s3 = .int .i64 (cnt b i))
  case atStart => exact ⟨0, rfl, rfl, rfl, rfl⟩
  case round =>
    obtain ⟨i, hg, rfl, rfl, rfl⟩ := hrel
    cases gk with
    | zero =>
      obtain rfl : i = 256 := by omega
      rw [cnt_all HO.out]
      go_wp2
      go_ret
      exact ⟨rfl, rfl⟩
    | succ k =>
      have hi : i < 256 := by omega
      have hv := run_index61 wr A i hi _ (HA.out i hi)
      have hiz : (i : Int) < 256 := by omega
      have hc := b.at_lt i
      have hs := cnt_succ HO.out hi
      have hle := cnt_le HO.out i (by omega)
      have hple := pop_le (b.at i)
      have cT := ones117 wr (b.at i) hc
      have HS := Lib.hid hs
      clear hs
      generalize cnt b i = n at *
      generalize b.at i = c at *
      have e1 : IntKind.i64.wrap ((n : Int) + (pop c : Int)) = ((n + pop c : Nat) : Int) := by rw [IntKind.wrap_i64]; omega
      generalize pop c = q at *
      go_wp2_with (first | (go_at_call 117; refine cT.mono ?_; rintro e w' ⟨rfl, rfl⟩))
      go_roundg k
      case measure => omega
      case rel => exact ⟨i + 1, by omega, by first | rfl | simp, rfl, by rw [HS.out]; first | rfl | simp⟩
end Go.Proofs.YtfakgfmgofblgaaGreatDoor
namespace Go.Proofs.YtfakgfmgofblgaaGreatDoor
open Go.RowKit
set_option linter.unusedVariables false      -- a walk need not use every condition

def zb (n : Nat) : List UInt8 := List.replicate n 0
theorem zb_len (n : Nat) : (zb n).length = n := by simp [zb]
theorem made_zb (n : Nat) : madeCells (Value.int .u8 0).cells n = (enc (zb n)).toArray := by
  apply Array.ext
  · simp [madeCells, enc, zb]
  · intro i h1 h2
    simp [madeCells, enc, zb, Value.cells, Nat.mod_one]
theorem make29 (n c : Nat) (h1 : n ≤ c) (h2 : c ≤ 1000) (w : World) : (Instr.makeSlice 29 (.int .i64 n) (.int .i64 c)).run Tryz.prog w = .ok (.slice (some ⟨w.heap.size, 0, none⟩) n c) (w.alloc (.cells (enc (zb c)).toArray 5)) := by
  obtain ⟨i, hi, hz, hs, hb⟩ := info_parts info5
  have hr := run_make (P := Tryz.prog) w 29 5 i _ Tryz.underlying29 hi hz .i64 .i64 n c (by omega) (by omega) (by rw [hb]; omega) (by omega)
  simp only [Int.toNat_natCast, hs, Nat.mul_one, made_zb] at hr
  exact hr
/-- Bytes at the head of a block of one's own are a row of one's own. -/
theorem bts_of {w : World} {base g n c : Nat} {t r : List UInt8} (hb : base ≤ g) (hg : w.heap[g]? = some (.cells (enc (t ++ r)).toArray 5)) (hn : t.length = n) (hc : (t ++ r).length = c) (hm : c ≤ maxLen) : Bts w base (.slice (some ⟨g, 0, none⟩) n c) t := by
  subst hn hc
  refine ⟨by rw [len_enc, Nat.mul_one], .inr ⟨g, _, _, rfl, hb, hg, by simp, hm, by rw [List.size_toArray, len_enc, Nat.mul_one], ?_⟩⟩
  rw [Nat.mul_one]
  unfold enc
  rw [List.map_append, List.toList_toArray, List.take_append_of_le_length (by simp), List.take_of_length_le (by simp)]
theorem size5 : (Tryz.prog.info? 5).map (·.size) = some 1 := by kernel_rfl
theorem splice_enc (n : Nat) (t : List UInt8) (h : t.length ≤ n) : splice (enc (zb n)) 0 (enc t) = enc (t ++ zb (n - t.length)) := by
  unfold splice enc zb
  simp
/-- Bytes are copied to the head of a block of zeros. -/
theorem copy_head {w : World} {g n c dLen sLen sCap : Nat} {T : TypeId} {ad : Addr} {t : List UInt8} (hg : w.heap[g]? = some (.cells (enc (zb n)).toArray T)) (hl : t.length = Nat.min sLen dLen) (hn : t.length ≤ n)
    (hsrc : ∀ j v, (enc t)[j]? = some v → w.cell? (ad.add j) = some v) : ∃ W, (∀ ty, (Builtin.copy_ #[29, 29] ty #[.slice (some ⟨g, 0, none⟩) dLen c, .slice (some ad) sLen sCap]).run Tryz.prog w = .ok (goInt t.length) W) ∧ W.heap[g]? = some (.cells (enc (t ++ zb (n - t.length))).toArray T) ∧ (∀ B, B ≤ g → B ≤ w.heap.size → Below B w W) := by
  refine ⟨w.setRow g (splice (enc (zb n)) 0 (enc t)).toArray, fun ty => ?_, ?_, fun B h1 h2 => below_setRow (Below.refl _ _) h1 _⟩
  · have := run_copy_row (P := Tryz.prog) w 29 29 ty 5 g 0 dLen c ad sLen sCap (enc (zb n)).toArray T (enc t) Tryz.underlying29 size5 hg (by rw [len_enc]; exact hl) hsrc (by rw [List.size_toArray, len_enc, len_enc, zb_len]; omega) (one_enc _)
    rw [len_enc] at this
    rw [this]
    unfold splice
    rw [len_enc, List.toList_toArray, List.append_assoc]
  · have := setRow_heap w g _ (splice (enc (zb n)) 0 (enc t)).toArray T _ hg
    rw [this, splice_enc n t hn]
/-- A word's bytes, the first k of them laid. -/
def part8 (n : Int) (k : Nat) : List UInt8 := (List.range 8).map fun i => if i < k then wbyte n i else 0
theorem part8_len (n : Int) (k : Nat) : (part8 n k).length = 8 := by simp [part8]
theorem part8_all (n : Int) : part8 n 8 = wb8 n := by
  unfold part8 wb8
  apply List.map_congr_left
  intro i hi
  rw [if_pos (List.mem_range.1 hi)]
theorem part8_succ (n : Int) {k : Nat} (hk : k < 8) : (enc (part8 n k)).toArray.setIfInBounds k (.int .u8 (wbyte n k).toNat) = (enc (part8 n (k + 1))).toArray := by
  apply Array.ext'
  rw [Array.toList_setIfInBounds]
  simp only 
  apply List.ext_getElem
  · simp [enc, part8]
  · intro i h1 h2
    rw [List.getElem_set]
    simp only [enc, part8, List.getElem_map, List.getElem_range]
    by_cases e : k = i
    · subst e; rw [if_pos rfl, if_pos (by omega)]
    · rw [if_neg e]
      by_cases h : i < k
      · rw [if_pos h, if_pos (by omega)]
      · rw [if_neg h, if_neg (by omega)]
theorem part8_zero (n : Int) : (enc (part8 n 0)).toArray = #[.int .u8 0, .int .u8 0, .int .u8 0, .int .u8 0, .int .u8 0, .int .u8 0, .int .u8 0, .int .u8 0] := by
  have h8 : List.range 8 = [0, 1, 2, 3, 4, 5, 6, 7] := by decide
  unfold part8 enc
  rw [h8]
  simp
theorem bs_blk {w : World} {g : Nat} {t : List UInt8} {T : TypeId} {n : Nat} (hg : w.heap[g]? = some (.cells (enc t).toArray T)) (hn : t.length = n) (hm : n ≤ maxLen) : Bs w (.slice (some ⟨g, 0, none⟩) n n) t := by
  subst hn
  refine ⟨_, t.length, rfl, Nat.le_refl _, hm, fun e => (by cases e), .inr ⟨_, _, rfl, ?_⟩⟩
  intro j v hv
  unfold World.cell?
  simp only [hg]
  simp [hv]
/-- The bytes of the words so far. -/
def wsb (b : Ba) (i : Nat) : List UInt8 := ((b.ws.take i).map wb8).flatten
theorem wsb_succ {b : Ba} (h : b.Ok) {i : Nat} (hi : i < 4) : wsb b (i + 1) = wsb b i ++ wb8 (b.wd i) := by
  unfold wsb Ba.wd
  rw [List.take_add_one, List.getElem?_eq_getElem (by rw [h.w]; exact hi), List.getD_eq_getElem?_getD, List.getElem?_eq_getElem (by rw [h.w]; exact hi)]
  simp only [Option.toList_some, List.map_append, List.map_cons, List.map_nil, List.flatten_append, List.flatten_cons, List.flatten_nil, List.append_nil, Option.getD_some]
theorem wsb_len {b : Ba} (h : b.Ok) : ∀ i, i ≤ 4 → (wsb b i).length = 8 * i
  | 0, _ => by simp [wsb]
  | i + 1, hi => by
    rw [wsb_succ h (by omega), List.length_append, wsb_len h i (by omega), wb8_len]
    omega
theorem wsb_all {b : Ba} (h : b.Ok) : wsb b 4 = (b.ws.map wb8).flatten := by
  unfold wsb
  rw [List.take_of_length_le (by rw [h.w]; exact Nat.le_refl _)]
theorem ws_at {b : Ba} (h : b.Ok) {i : Nat} (hi : i < 4) : (wds b.ws).toArray[i]? = some (.int .i64 (b.wd i)) := by
  unfold wds Ba.wd
  rw [List.getElem?_toArray, List.getElem?_map, List.getElem?_eq_getElem (by rw [h.w]; exact hi), List.getD_eq_getElem?_getD, List.getElem?_eq_getElem (by rw [h.w]; exact hi)]
  rfl
set_option maxHeartbeats 4000000 in
set_option maxRecDepth 20000 in
theorem bytes121 (w : World) (g o : Nat) (b : Ba) (h : BaAt w g o b) (pages : Nat) (hp1 : 1 ≤ pages) (hp : pages ≤ 2048) :
    Calls Tryz.prog 121 #[.pointer (some ⟨g, o, none⟩), .int .i64 pages] w fun e w' => ∃ v, e = .returned v ∧ Bts w' w.heap.size v (b.bytes pages) ∧ Below w.heap.size w w' := by
  have cT := takenLen151 w pages hp
  have HO := Lib.hid h.ok
  have hlt := h.lt
  have HH := Lib.hid h
  obtain ⟨tl, htl⟩ : ∃ tl, tlen pages = tl := ⟨_, rfl⟩
  have ht1 : 1 ≤ tl ∧ tl ≤ 256 := by rw [← htl]; unfold tlen; omega
  obtain ⟨c, hc⟩ : ∃ c, tl + 32 = c := ⟨_, rfl⟩
  have e1 : IntKind.i64.wrap ((tl : Int) + 32) = (c : Int) := by rw [IntKind.wrap_i64]; omega
  have hmk := make29 tl c (by omega) (by omega) w
  obtain ⟨W1, hW1⟩ : ∃ W1, w.alloc (.cells (enc (zb c)).toArray 5) = W1 := ⟨_, rfl⟩
  have B1 := Lib.hid (show Below w.heap.size w W1 by rw [← hW1]; exact bel1 w _)
  have k1 := Lib.hid (show W1.heap[w.heap.size]? = some (.cells (enc (zb c)).toArray 5) by rw [← hW1]; exact heap_alloc_last w _)
  rw [hW1] at hmk
  rw [htl] at cT
  have HP : Hid (b.tk.take tl ++ (b.ws.map wb8).flatten = b.bytes pages) := by show _ = _; unfold Ba.bytes; rw [htl]
  obtain ⟨TT, hTT⟩ : ∃ TT, b.tk.take tl = TT := ⟨_, rfl⟩
  have hTl : TT.length = tl := by rw [← hTT, List.length_take, HO.out.t]; omega
  have HTr : Hid (∀ (W : World), Below w.heap.size w W → ∀ j v, (enc TT)[j]? = some v → W.cell? ((⟨g, o, none⟩ : Addr).add j) = some v) := fun W hW j v hv => by
    have hb := HH.out.on hW
    rw [Go.WideShapes.add_plain]
    refine hb.tk j v ?_
    rw [← hTT] at hv
    unfold enc at hv ⊢
    rw [List.map_take] at hv
    have hj : j < tl := by
      have := (List.getElem?_eq_some_iff.1 hv).1
      rw [List.length_take] at this
      omega
    rw [List.getElem?_take_of_lt hj] at hv
    exact hv
  have hi40 : (Tryz.prog.info? 40).map (·.size) = some (wds b.ws).length := by rw [size40]; simp [wds, HO.out.w]
  rw [hTT] at HP
  obtain ⟨BB, hBB⟩ : ∃ BB, b.bytes pages = BB := ⟨_, rfl⟩
  rw [hBB] at HP ⊢
  obtain ⟨W2, hcp, hg2, hb2⟩ := copy_head (c := c) (dLen := tl) (sLen := 256) (sCap := 256) (ad := ⟨g, o, none⟩) (t := TT) k1.out (by rw [hTl]; exact (Nat.min_eq_right ht1.2).symm) (by omega) (HTr.out _ B1.out)
  rw [hTl] at hcp hg2
  have B2 := Lib.hid (B1.out.trans (hb2 _ (Nat.le_refl _) B1.out.size))
  have hR2 := (HH.out.on B2.out).ws
  have HG2 := Lib.hid (bts_of (base := w.heap.size) (Nat.le_refl _) hg2 hTl (show _ = c by rw [List.length_append, zb_len, hTl]; omega) (by unfold maxLen; omega))
  clear h hW1 hTT htl hBB k1 HTr hg2 hb2 B1
  go_enter Tryz.func121, Tryz.ntmps121
  go_wp2_with (first
    | (go_at_call 151; refine cT.mono ?_; rintro e w' ⟨rfl, ew⟩; rw [ew]; clear ew w')
    | (with_reducible show wpList _ _ _ (Oper.mk (some 25) (Op.load 40 (Operand.tmp 24)) _ _ _ _ :: _) _ _
       refine wpList_load_mid rfl 40 _ rfl _ _ rfl _ _ hR2 Tryz.underlying40 rfl hi40 ?_))
  have HA : Hid (∀ i, i < 4 → (wds b.ws).toArray[i]? = some (.int .i64 (b.wd i))) := fun i hi => ws_at HO.out hi
  generalize (wds b.ws).toArray = A at HA ⊢
  go_loopg [5, 26] 4 (fun gk s5 s26 wr => ∃ i : Nat, i + gk = 4 ∧ s26 = .int .i64 i ∧ Hid (Bts wr w.heap.size s5 (TT ++ wsb b i)) ∧ Hid (Below w.heap.size w wr))
  case atStart => exact ⟨0, rfl, rfl, by simp only [wsb, List.take_zero, List.map_nil, List.flatten_nil, List.append_nil]; exact HG2.out, B2.out⟩
  case round =>
    obtain ⟨i, hgi, rfl, hB, hBel⟩ := hrel
    obtain ⟨wo, rfl⟩ : ∃ v, v = wr := ⟨_, rfl⟩
    obtain ⟨sp, sc, rfl, -⟩ := hB.out.bs
    cases gk with
    | zero =>
      obtain rfl : i = 4 := by omega
      have HB' := Lib.hid hB.out
      rw [wsb_all HO.out, HP.out] at HB'
      have hlen : (TT ++ wsb b 4).length = BB.length := by rw [wsb_all HO.out, HP.out]
      rw [hlen]
      clear hlen hB
      go_wp2
      go_ret
      exact ⟨_, rfl, HB'.out, hBel.out⟩
    | succ k =>
      have hi : i < 4 := by omega
      have hv := run_index40 wo A i hi _ (HA.out i hi)
      have hiz : (i : Int) < 4 := by omega
      have HW := Lib.hid (wsb_succ HO.out hi)
      have HWl := Lib.hid (wsb_len HO.out i (by omega))
      have hnb := Ba.wd_ok HO.out i
      generalize b.wd i = n at *
      have hz8 := part8_zero n
      obtain ⟨LL, hLL⟩ : ∃ LL, (TT ++ wsb b i).length = LL := ⟨_, rfl⟩
      rw [hLL] at hB ⊢
      have HLL : Hid (LL = tl + 8 * i) := by show _ = _; rw [← hLL, List.length_append, hTl, HWl.out]
      clear hLL
      go_wp2
      go_loopg [29] 8 (fun gj s29 wq => ∃ q : Nat, q + gj = 8 ∧ s29 = .int .i64 q ∧ Hid (wq.heap[wo.heap.size]? = some (.cells (enc (part8 n q)).toArray 198)) ∧ Hid (Below wo.heap.size wo wq))
      case atStart => exact ⟨0, rfl, rfl, by show _ = _; rw [hz8]; exact heap_alloc_last wo _, bel1 wo _⟩
      case round =>
        obtain ⟨q, hq, rfl, hK, hBq⟩ := hrel
        cases gk with
        | zero =>
          obtain rfl : q = 8 := by omega
          have hK8 := hK.out
          rw [part8_all] at hK8
          have HX := Lib.hid (bs_blk hK8 (wb8_len n) (by unfold maxLen; omega))
          have HY := Lib.hid (hB.out.on hBq.out)
          clear hK8
          go_wp2_with (first
            | (at_builtin
               refine wpList_app rfl _ _ rfl w.heap.size _ _ (TT ++ wsb b i) (wb8 n) rfl rfl HY.out HX.out (by rw [List.length_append, hTl, HWl.out, wb8_len]; omega) (Nat.le_trans hBel.out.size hBq.out.size) ?_
               intro v' w' h1 h2
               have HV := Lib.hid h1
               have HB' := Lib.hid (hBel.out.trans ((hBq.out.mono hBel.out.size).trans (HY.out.below h2 (Nat.le_trans hBel.out.size hBq.out.size))))
               clear h1 h2))
          go_roundg k
          case measure => omega
          case rel => exact ⟨i + 1, by omega, by first | rfl | simp, by rw [HW.out, ← List.append_assoc]; exact HV.out, HB'.out⟩
        | succ j =>
          have hq8 : q < 8 := by omega
          have hqz : (q : Int) < 8 := by omega
          have hq0 : (0 : Int) ≤ (q : Int) := by omega
          have e2 : IntKind.i64.wrap ((7 : Int) - (q : Int)) = ((7 - q : Nat) : Int) := by rw [IntKind.wrap_i64]; omega
          have e3 : IntKind.i64.wrap ((8 : Int) * ((7 - q : Nat) : Int)) = ((8 * (7 - q) : Nat) : Int) := by rw [IntKind.wrap_i64]; omega
          have hwb := wbyte_toNat n q
          obtain ⟨sh, hsh⟩ : ∃ sh, 8 * (7 - q) = sh := ⟨_, rfl⟩
          obtain ⟨y, hy⟩ : ∃ y, 7 - q = y := ⟨_, rfl⟩
          rw [hy] at e2
          rw [hsh, hy] at e3
          rw [hsh] at hwb
          have hcell : wr.cell? ⟨wo.heap.size, q, none⟩ = some (.int .u8 ((part8 n q).getD q 0).toNat) := by
            unfold World.cell?
            simp only [hK.out]
            have := enc_at (t := part8 n q) (i := q) (by rw [part8_len]; exact hq8)
            simpa using this
          have hfz : wr.frozen? ⟨wo.heap.size, q, none⟩ = false := by
            unfold World.frozen?
            simp only [hK.out]
            simp
          have HSH : Hid (sh ≤ 64) := by show _ ≤ _; omega
          clear hsh hy
          go_wp2
          go_roundg j
          case measure => omega
          case rel =>
            refine ⟨q + 1, by omega, by first | rfl | simp, ?_, ?_⟩
            · show _ = _
              rw [blk_set hK.out, Nat.min_eq_left HSH.out, ← hwb, part8_succ n hq8]
            · exact hBq.out.grown (gr_set _ _ _ _) hBq.out.size (fun r e => by injection e with e; omega)
end Go.Proofs.YtfakgfmgofblgaaGreatDoor
