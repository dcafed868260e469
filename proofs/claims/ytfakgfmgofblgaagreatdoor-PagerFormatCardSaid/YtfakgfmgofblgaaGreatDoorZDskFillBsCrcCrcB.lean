/-
  A disk as plain data, and how one lies in memory: no walk.
  Sectors as cells; how they are laid, loaded, answered.
  Bytes in memory, wherever they lie; what bytes.Equal does with them; numbers that fit.
  The sum of bytes (CRC-32) as mathematics: that turned bits within 32 bits one behind the other are seen. No walk, no program: for layer 5.
  The sum of bytes, byte by byte and by a table; what bytes with their sum behind them become where bits are turned. No walk, no program: for layer 5.
-/
import Derived.WalkKit
import Derived.Deep.MidRow
import Derived.Maps.OwnSet
import Derived.Maps.RangeWalk
import Derived.Maps.AppendAt
import Derived.Test.YtfakgfmgofblgaaGreatDoorChecked
import Derived.Deep.LoopGhost
import Derived.Deep.WholeRow
import Derived.Laws.ResultCell
import Derived.Lib.SliceRun
import Derived.Lib.Hide
import Derived.Laws.AppendOwnNone
import Derived.Laws.IdiomStrings
import Derived.Laws.BytesArg
namespace Go.Proofs.YtfakgfmgofblgaaGreatDoor
open Go.RowKit Go.Maps

/-- A sector's cells. -/
def enc (bs : List UInt8) : List Value := bs.map fun c => Value.int .u8 c.toNat
def encA (bs : List UInt8) : Array Value := (enc bs).toArray
/-- A place's cells: what stays, and whether it is torn. -/
def plc (bs : List UInt8) (t : Bool) : List Value := enc bs ++ [.bool t]
/-- How a sector in the cache reads. -/
def secR : Value → Option (DataW (Array Value) × List MemPlace)
  | .agg cs => some (.held cs, [])
  | _ => none
theorem secR_inv (v : Value) (y : DataW (Array Value) × List MemPlace) (h : secR v = some y) : ∃ c : Array Value, v = .agg c := by
  cases v <;> simp [secR] at h
  exact ⟨_, rfl⟩
theorem len_enc (bs : List UInt8) : (enc bs).length = bs.length := by simp [enc]
theorem one_enc (bs : List UInt8) : ∀ v ∈ enc bs, v.oneCell' = true := by
  intro v hv
  obtain ⟨c, -, rfl⟩ := List.mem_map.1 hv
  rfl
theorem one_plc (bs : List UInt8) (t : Bool) : ∀ v ∈ plc bs t, v.oneCell' = true := by
  intro v hv
  rcases List.mem_append.1 hv with h | h
  · exact one_enc bs v h
  · simp at h; subst h; rfl
theorem enc_inj {a b : List UInt8} (h : enc a = enc b) : a = b := by
  unfold enc at h
  refine (List.map_inj_right fun x y e => ?_).1 h
  injection e with _ e
  exact UInt8.toNat_inj.1 (by omega)

structure Dsk where
  N : Nat
  st : Nat → List UInt8
  tn : Nat → Bool
  ca : Nat → Option (List UInt8)
  down : Bool
  fuse : Int
  calls : Int

/-- The cache, as the map reads. -/
structure Tied (N : Nat) (D : DataW (Array Value)) (ca : Nat → Option (List UInt8)) : Prop where
  back : ∀ x : Int, Maps.has D (.int .i64 x) = true → ∃ k : Nat, x = k ∧ (ca k).isSome = true
  has : ∀ (k : Nat) (bs : List UInt8), ca k = some bs → Maps.has D (.int .i64 k) = true
  at_ : ∀ (k : Nat) (bs : List UInt8), ca k = some bs → ∀ z, D.atKey (.int .i64 k) z = .held (encA bs)
  lt : ∀ (k : Nat) (bs : List UInt8), ca k = some bs → k < N
  len : ∀ (k : Nat) (bs : List UInt8), ca k = some bs → bs.length = 128

def blkD (pb mb N : Nat) (down : Bool) (fuse calls : Int) : Obj := .cells #[.slice (some ⟨pb, 0, none⟩) N N, .map (some mb), .bool down, .int .i64 fuse, .int .i64 calls] 88

/-- The disk s lies at d, its places at pb, its cache at mb. -/
structure At (w : World) (d pb mb : Nat) (s : Dsk) : Prop where
  blk : w.heap[d]? = some (.cells #[.slice (some ⟨pb, 0, none⟩) s.N s.N, .map (some mb), .bool s.down, .int .i64 s.fuse, .int .i64 s.calls] 88)
  ne : d ≠ pb
  pos : 1 ≤ s.N
  top : s.N ≤ 16384
  pl : ∀ i, i < s.N → w.rangeAt pb (i * 129) (plc (s.st i) (s.tn i))
  sl : ∀ i, i < s.N → (s.st i).length = 128
  th : w.there pb 0 (s.N * 129)
  own : ∃ n D, w.ownsMap Tryz.prog 3 secR mb n D ∧ Tied s.N D s.ca
  fu : 0 ≤ s.fuse ∧ s.fuse ≤ 9223372036854775807
  cl : -9223372036854775808 ≤ s.calls ∧ s.calls ≤ 9223372036854775807

theorem five_of {w : World} {g : Nat} {a b c d f : Value} {t : TypeId} (e : w.heap[g]? = some (.cells #[a, b, c, d, f] t)) :
    w.cell? ⟨g, 0, none⟩ = some a ∧ w.cell? ⟨g, 1, none⟩ = some b ∧ w.cell? ⟨g, 2, none⟩ = some c ∧ w.cell? ⟨g, 3, none⟩ = some d ∧ w.cell? ⟨g, 4, none⟩ = some f ∧ ∀ i, w.frozen? ⟨g, i, none⟩ = false := by
  refine ⟨?_, ?_, ?_, ?_, ?_, fun i => ?_⟩ <;> simp [World.cell?, World.frozen?, e]

/-! ### What is kept -/

/-- All that lay in w but the three blocks of a disk lies so in w'. -/
structure Kept (d pb mb : Nat) (w w' : World) : Prop where
  os : w'.os = w.os
  tape : w'.tape = w.tape
  output : w'.output = w.output
  size : w.heap.size ≤ w'.heap.size
  block : ∀ k, k < w.heap.size → k ≠ d → k ≠ pb → k ≠ mb → w'.heap[k]? = w.heap[k]?
theorem Kept.refl (d pb mb : Nat) (w : World) : Kept d pb mb w w := ⟨rfl, rfl, rfl, Nat.le_refl _, fun _ _ _ _ _ => rfl⟩
theorem Kept.trans {d pb mb : Nat} {a b c : World} (h : Kept d pb mb a b) (k : Kept d pb mb b c) : Kept d pb mb a c :=
  ⟨k.os.trans h.os, k.tape.trans h.tape, k.output.trans h.output, Nat.le_trans h.size k.size, fun i hi h1 h2 h3 => (k.block i (Nat.lt_of_lt_of_le hi h.size) h1 h2 h3).trans (h.block i hi h1 h2 h3)⟩
theorem Kept.bel {d pb mb : Nat} {w w' : World} (h : Below w.heap.size w w') : Kept d pb mb w w' := ⟨h.os, h.tape, h.output, h.size, fun k hk _ _ _ => h.block k hk⟩
theorem Kept.grown {d pb mb : Nat} {w w' : World} {r : Option Nat} (h : w.grownBy w' r) (hr : ∀ k, r = some k → k = d ∨ k = pb ∨ k = mb) : Kept d pb mb w w' :=
  ⟨h.os, h.tape, h.output, h.size, fun k hk h1 h2 h3 => h.block k hk (fun e => by rcases hr k e.symm with h | h | h <;> contradiction)⟩
theorem Kept.below {d pb mb B : Nat} {w w' : World} (h : Kept d pb mb w w') (hd : B ≤ d) (hp : B ≤ pb) (hm : B ≤ mb) (hB : B ≤ w.heap.size) : Below B w w' :=
  ⟨h.os, h.tape, h.output, h.size, fun k hk => h.block k (by omega) (by omega) (by omega) (by omega)⟩
theorem gr_set (w : World) (r i : Nat) (u : Value) : w.grownBy (w.setCell ⟨r, i, none⟩ u) (some r) :=
  ⟨rfl, rfl, rfl, by simp [World.setCell], fun _ _ hk => Below.heap_setCell _ _ _ _ (fun e => hk (by rw [e]))⟩
theorem gr_bel {w w' : World} (h : Below w.heap.size w w') (row : Option Nat) : w.grownBy w' row := ⟨h.os, h.tape, h.output, h.size, fun k hk _ => h.block k hk⟩
theorem gr_sets (r : Nat) : ∀ (vs : List Value) (o : Nat) (w : World), w.grownBy (w.setCells r o vs) (some r)
  | [], _, w => ⟨rfl, rfl, rfl, Nat.le_refl _, fun _ _ _ => rfl⟩
  | v :: vs, o, w => by
    rw [World.setCells]
    exact (gr_set w r o v).trans (gr_sets r vs (o + 1) _)
theorem bel1 (w : World) (o : Obj) : Below w.heap.size w (w.alloc o) := (Below.refl _ w).alloc (Nat.le_refl _) o
theorem bel_then {a b c : World} (h : Below a.heap.size a b) (k : Below b.heap.size b c) : Below a.heap.size a c := h.trans (k.mono h.size)
theorem blk_on {w w' : World} (h : Below w.heap.size w w') {g : Nat} {o : Obj} (e : w.heap[g]? = some o) : w'.heap[g]? = some o :=
  (h.block g (Array.getElem?_eq_some_iff.1 e).1).trans e
theorem rangeAt_same {w w' : World} {b o : Nat} {cs : List Value} (h : w.rangeAt b o cs) (e : w'.heap[b]? = w.heap[b]?) : w'.rangeAt b o cs := fun j v hv =>
  (World.cell?_of_block (w := w) (a := ⟨b, o + j, none⟩) e).trans (h j v hv)
theorem there_same {w w' : World} {b o n : Nat} (h : w.there b o n) (e : w'.heap[b]? = w.heap[b]?) : w'.there b o n := fun j hj => by
  rw [World.cell?_of_block (w := w) (a := ⟨b, o + j, none⟩) e, World.frozen?_of_block (w := w) (a := ⟨b, o + j, none⟩) e]
  exact h j hj
theorem At.lts {w : World} {d pb mb : Nat} {s : Dsk} (h : At w d pb mb s) : d < w.heap.size ∧ pb < w.heap.size ∧ mb < w.heap.size ∧ mb ≠ d ∧ mb ≠ pb := by
  have hd := (Array.getElem?_eq_some_iff.1 h.blk).1
  obtain ⟨n, D, ho, -⟩ := h.own
  have hm := ho.lt
  obtain ⟨es, ck, hmb, -⟩ := ho
  have hp := (h.th 0 (by have := h.pos; omega)).1
  have hpb : pb < w.heap.size := by
    obtain ⟨u, hu⟩ := Option.isSome_iff_exists.1 hp
    exact World.block_lt_of_cell? w _ hu
  refine ⟨hd, hpb, hm, ?_, ?_⟩
  · rintro rfl
    rw [h.blk] at hmb; cases hmb
  · rintro rfl
    simp [World.cell?, hmb] at hp
/-- Where none of its blocks has turned the disk stands. -/
theorem At.same {w w' : World} {d pb mb : Nat} {s : Dsk} (h : At w d pb mb s) (hd : w'.heap[d]? = w.heap[d]?) (hp : w'.heap[pb]? = w.heap[pb]?) (hm : w'.heap[mb]? = w.heap[mb]?) : At w' d pb mb s := by
  refine { h with blk := hd.trans h.blk, pl := fun i hi => rangeAt_same (h.pl i hi) hp, th := there_same h.th hp, own := ?_ }
  obtain ⟨n, D, ⟨es, ck, hmb, r⟩, ht⟩ := h.own
  exact ⟨n, D, ⟨es, ck, hm.trans hmb, r⟩, ht⟩
theorem At.on {w w' : World} {d pb mb : Nat} {s : Dsk} (h : At w d pb mb s) (hb : Below w.heap.size w w') : At w' d pb mb s :=
  have l := h.lts
  h.same (hb.block _ l.1) (hb.block _ l.2.1) (hb.block _ l.2.2.1)
theorem At.drew {w : World} {d pb mb : Nat} {s : Dsk} (h : At w d pb mb s) : At w.drew d pb mb s := h.same rfl rfl rfl
theorem At.alloc {w : World} {d pb mb : Nat} {s : Dsk} (h : At w d pb mb s) (o : Obj) : At (w.alloc o) d pb mb s := h.on (bel1 w o)
end Go.Proofs.YtfakgfmgofblgaaGreatDoor
namespace Go.Proofs.YtfakgfmgofblgaaGreatDoor
open Go.RowKit Go.Maps
set_option linter.unusedVariables false      -- a walk need not use every condition

theorem size26 : (Tryz.prog.info? 118).map (·.size) = some 128 := by kernel_rfl
theorem size83 : (Tryz.prog.info? 120).map (·.size) = some 129 := by kernel_rfl
theorem zc26 : Tryz.zeroCells118 = encA (List.replicate 128 0) := by kernel_rfl
theorem size_encA (bs : List UInt8) : (encA bs).size = bs.length := by simp [encA, enc]
theorem one_encA (bs : List UInt8) : (encA bs).all (·.oneCell') = true := all_oneCell_toArray (one_enc bs)
/-- A sector of which i bytes are written. -/
def part (b : UInt8) (i : Nat) : Array Value := encA (List.replicate i b ++ List.replicate (128 - i) 0)
theorem part_size (b : UInt8) {i : Nat} (hi : i ≤ 128) : (part b i).size = 128 := by unfold part; rw [size_encA]; simp; omega
theorem part_step (b : UInt8) {i : Nat} (hi : i < 128) : (part b i).setIfInBounds i (.int .u8 b.toNat) = part b (i + 1) := by
  unfold part encA enc
  rw [show 128 - i = (128 - (i + 1)) + 1 by omega, List.replicate_succ]
  apply Array.ext'
  simp only [Array.toList_setIfInBounds, List.map_append, List.map_replicate, List.map_cons]
  rw [List.set_append_right _ _ (by simp)]
  simp only [List.length_replicate, Nat.sub_self, List.set_cons_zero]
  rw [List.replicate_succ', List.append_assoc]
  rfl
/-- A sector of one byte. -/
def fil (b : UInt8) : List UInt8 := List.replicate 128 b
theorem len_fil (b : UInt8) : (fil b).length = 128 := by simp [fil]
theorem fil_inj {a b : UInt8} (h : fil a = fil b) : a = b := (List.replicate_inj.1 h).2.resolve_left (by decide)
theorem part_end (b : UInt8) : part b 128 = encA (fil b) := by simp [part, fil]
theorem part_start (b : UInt8) : Tryz.zeroCells118 = part b 0 := by rw [zc26]; simp [part]

theorem range_new (w : World) (cs : List Value) (t : TypeId) : (w.alloc (.cells cs.toArray t)).rangeAt w.heap.size 0 cs := by
  have := World.rangeAt_of_block (heap_alloc_last w (.cells cs.toArray t)) 0 cs.length
  simpa using this
theorem there_new (w : World) (c : Array Value) (t : TypeId) : (w.alloc (.cells c t)).there w.heap.size 0 c.size := fun j hj => by
  have e := heap_alloc_last w (.cells c t)
  rw [Nat.zero_add, cell_of_row _ _ j c t (0, 0) e]
  exact ⟨by simp [hj], by simp only [World.frozen?, e]; simp⟩

theorem results_cell_mid {fn : Func} {p : Tmp} (h : fn.results = #[.cell p 118]) (tmps : Array Value) (w : World) (g : Nat) (bs : List UInt8) (hp : tmps.getD p undef = .pointer (some ⟨g, 0, none⟩)) (hr : w.rangeAt g 0 (enc bs)) (hl : bs.length = 128) :
    (results fn tmps).run Tryz.prog w = .ok (.agg (encA bs)) w := by
  have hp' : tmps[p]?.getD undef = .pointer (some ⟨g, 0, none⟩) := by simpa using hp
  have hv := run_loadVar_mid (P := Tryz.prog) w g 0 118 (enc bs) _ hr Tryz.underlying118 rfl (by rw [size26, len_enc, hl])
  simp only [results, h]
  simp [hp', asAddr, hv, encA]
theorem results_cell_tmp_mid {fn : Func} {p u : Tmp} (h : fn.results = #[.cell p 118, .tmp u]) (tmps : Array Value) (w : World) (g : Nat) (bs : List UInt8) (hp : tmps.getD p undef = .pointer (some ⟨g, 0, none⟩)) (hr : w.rangeAt g 0 (enc bs)) (hl : bs.length = 128) :
    (results fn tmps).run Tryz.prog w = .ok (.tuple #[.agg (encA bs), tmps.getD u undef]) w := by
  have hv := run_loadVar_mid (P := Tryz.prog) w g 0 118 (enc bs) _ hr Tryz.underlying118 rfl (by rw [size26, len_enc, hl])
  rw [results_cell_tmp h, hp]
  simp only [asAddr, Sem.run_pure, Result.andThen, hv]
  rfl

end Go.Proofs.YtfakgfmgofblgaaGreatDoor
namespace Go.Proofs.YtfakgfmgofblgaaGreatDoor
open Go.RowKit
set_option linter.unusedVariables false      -- a walk need not use every condition

theorem info5 : (Tryz.prog.info? 5).map (fun i => (i.zero, i.size, i.bytes)) = some (some (.int .u8 0), 1, 1) := by kernel_rfl
/-- Bytes that lie somewhere: none of them, whatever the address, or from an address on. -/
def Bs (w : World) (v : Value) (t : List UInt8) : Prop := ∃ p cap, v = .slice p t.length cap ∧ t.length ≤ cap ∧ cap ≤ maxLen ∧ (p = none → cap = 0) ∧
  (t = [] ∨ ∃ g o, p = some ⟨g, o, none⟩ ∧ w.rangeAt g o (enc t))
theorem bs_nil (w : World) : Bs w (.slice none 0 0) [] := ⟨none, 0, rfl, Nat.le_refl _, by unfold maxLen; omega, fun _ => rfl, .inl rfl⟩
theorem range_on {w w' : World} {g o : Nat} {cs : List Value} (h : w.rangeAt g o cs) (hb : Below w.heap.size w w') : w'.rangeAt g o cs := fun j v hv => by
  have h1 := h j v hv
  have hlt := World.block_lt_of_cell? w ⟨g, o + j, none⟩ h1
  exact (World.cell?_of_block (w := w) (a := ⟨g, o + j, none⟩) (hb.block _ hlt)).trans h1
theorem Bs.on {w w' : World} {v : Value} {t : List UInt8} (h : Bs w v t) (hb : Below w.heap.size w w') : Bs w' v t := by
  obtain ⟨p, cap, rfl, h1, h2, h3, h4⟩ := h
  refine ⟨p, cap, rfl, h1, h2, h3, ?_⟩
  rcases h4 with h4 | ⟨g, o, rfl, hc⟩
  · exact .inl h4
  · exact .inr ⟨g, o, rfl, range_on hc hb⟩
theorem Bs.len {w : World} {v : Value} {t : List UInt8} (h : Bs w v t) : t.length ≤ maxLen := by
  obtain ⟨p, cap, rfl, h1, h2, -⟩ := h
  omega
theorem enc_at {t : List UInt8} {i : Nat} (h : i < t.length) : (enc t)[i]? = some (.int .u8 (t.getD i 0).toNat) := by simp [enc, h]
theorem bs_cell {w : World} {g o : Nat} {t : List UInt8} (hc : w.rangeAt g o (enc t)) {i : Nat} (h : i < t.length) : w.cell? ⟨g, o + i, none⟩ = some (.int .u8 (t.getD i 0).toNat) := hc i _ (enc_at h)

/-- As a string. -/
theorem Bs.str {w : World} {v : Value} {t : List UInt8} (h : Bs w v t) : (convert 29 9 v).run Tryz.prog w = .ok (.string ⟨t.toArray⟩) w := by
  obtain ⟨p, cap, rfl, h1, h2, h3, h4⟩ := h
  rcases h4 with rfl | ⟨g, o, rfl, hc⟩
  · cases p with
    | none => exact run_convert_bytes_nil w 29 5 Tryz.underlying29 Tryz.underlying5 0 cap 9 Tryz.underlying9
    | some a => exact run_convert_bytes_back w 29 9 5 a cap [] Tryz.underlying29 Tryz.underlying5 Tryz.underlying9 fun j hj => absurd hj (Nat.not_lt_zero _)
  · refine run_convert_bytes_back w 29 9 5 ⟨g, o, none⟩ cap t Tryz.underlying29 Tryz.underlying5 Tryz.underlying9 fun j hj => ?_
    rw [Go.WideShapes.add_plain]
    have := bs_cell hc hj
    rwa [List.getD_eq_getElem?_getD, List.getElem?_eq_getElem hj] at this
theorem arr_beq (t u : List UInt8) : ((⟨t.toArray⟩ : ByteArray).toList == (⟨u.toArray⟩ : ByteArray).toList) = (t == u) := by
  rw [ByteArray.toList_eq, ByteArray.toList_eq]
set_option maxHeartbeats 1000000 in
theorem equal28 (w : World) (a b : Value) (t u : List UInt8) (ha : Bs w a t) (hb : Bs w b u) :
    Calls Tryz.prog 28 #[a, b] w fun e w' => e = .returned (.bool (t == u)) ∧ w' = w := by
  have c1 := ha.str
  have c2 := hb.str
  rw [← arr_beq]
  generalize (⟨t.toArray⟩ : ByteArray) = s1 at *
  generalize (⟨u.toArray⟩ : ByteArray) = s2 at *
  obtain ⟨p, cap, rfl, -⟩ := ha
  obtain ⟨q, cap', rfl, -⟩ := hb
  go_enter Tryz.func28, Tryz.ntmps28
  go_wp2
  go_ret
  exact ⟨rfl, rfl⟩
end Go.Proofs.YtfakgfmgofblgaaGreatDoor
namespace Go.Proofs.YtfakgfmgofblgaaGreatDoor

/-- The remainder, shifted by one bit. -/
def cz (r : Nat) : Nat := (r / 2) ^^^ (if r % 2 = 1 then 3988292384 else 0)
/-- .. with one bit of what is summed. -/
def cst (r : Nat) (b : Bool) : Nat := cz (r ^^^ b.toNat)
def crun (r : Nat) (l : List Bool) : Nat := l.foldl cst r
/-- The lowest k bits of a number, the lowest first. -/
def bitsL (w : Nat) : Nat → List Bool
  | 0 => []
  | k + 1 => decide (w % 2 = 1) :: bitsL (w / 2) k
def czn : Nat → Nat → Nat
  | 0, r => r
  | n + 1, r => czn n (cz r)

theorem xor_half (a b : Nat) : (a ^^^ b) / 2 = (a / 2) ^^^ (b / 2) := Nat.xor_div_two
theorem xor_mod (a b : Nat) : (a ^^^ b) % 2 = (a + b) % 2 := by
  have h := Nat.testBit_xor (x := a) (y := b) (i := 0)
  simp only [Nat.testBit_zero] at h
  rcases Nat.mod_two_eq_zero_or_one a with ha | ha <;> rcases Nat.mod_two_eq_zero_or_one b with hb | hb <;> rcases Nat.mod_two_eq_zero_or_one (a ^^^ b) with hc | hc <;> simp [ha, hb, hc] at h <;> omega
theorem cz_xor (a b : Nat) : cz (a ^^^ b) = cz a ^^^ cz b := by
  unfold cz
  rw [xor_half, xor_mod]
  rcases Nat.mod_two_eq_zero_or_one a with ha | ha <;> rcases Nat.mod_two_eq_zero_or_one b with hb | hb
  · rw [if_neg (by omega), if_neg (by omega), if_neg (by omega)]; simp
  · rw [if_pos (by omega), if_neg (by omega), if_pos (by omega)]; simp [Nat.xor_assoc]
  · rw [if_pos (by omega), if_pos (by omega), if_neg (by omega)]
    simp only [Nat.xor_zero]
    rw [Nat.xor_assoc, Nat.xor_assoc, Nat.xor_comm (b / 2)]
  · rw [if_neg (by omega), if_pos (by omega), if_pos (by omega)]
    simp only [Nat.xor_zero]
    rw [Nat.xor_assoc, ← Nat.xor_assoc 3988292384, Nat.xor_comm 3988292384 (b / 2), Nat.xor_assoc (b / 2), Nat.xor_self, Nat.xor_zero]
theorem cz_lt {r : Nat} (h : r < 4294967296) : cz r < 4294967296 := by
  unfold cz
  have h1 : r / 2 < 2 ^ 32 := by omega
  split
  · exact Nat.xor_lt_two_pow h1 (by decide)
  · exact Nat.xor_lt_two_pow h1 (by decide)
theorem cz_zero {r : Nat} (h : r < 4294967296) (hz : cz r = 0) : r = 0 := by
  unfold cz at hz
  by_cases ho : r % 2 = 1
  · rw [if_pos ho] at hz
    have e := congrArg (r / 2 ^^^ ·) hz
    simp only [Nat.xor_zero] at e
    rw [← Nat.xor_assoc, Nat.xor_self, Nat.zero_xor] at e
    omega
  · rw [if_neg ho, Nat.xor_zero] at hz
    omega
theorem cz_0 : cz 0 = 0 := by decide
theorem czn_0 : ∀ n, czn n 0 = 0
  | 0 => rfl
  | n + 1 => by rw [czn, cz_0]; exact czn_0 n
theorem czn_ne : ∀ (n : Nat) {r : Nat}, r < 4294967296 → r ≠ 0 → czn n r ≠ 0
  | 0, _, _, h => h
  | n + 1, r, hr, h => by
    rw [czn]
    exact czn_ne n (cz_lt hr) (fun e => h (cz_zero hr e))
theorem czn_xor : ∀ (n a b : Nat), czn n (a ^^^ b) = czn n a ^^^ czn n b
  | 0, _, _ => rfl
  | n + 1, a, b => by rw [czn, czn, czn, cz_xor]; exact czn_xor n _ _
theorem cz_even (k : Nat) : cz (2 * k) = k := by
  unfold cz
  rw [if_neg (by omega), Nat.xor_zero]
  omega
theorem bool_half (w : Nat) : w = (decide (w % 2 = 1)).toNat ^^^ (2 * (w / 2)) := by
  apply Nat.eq_of_testBit_eq
  intro i
  rw [Nat.testBit_xor]
  cases i with
  | zero =>
    have e : (2 * (w / 2)).testBit 0 = false := by rw [Nat.testBit_zero]; simp
    rw [e, Nat.testBit_zero, Nat.testBit_zero]
    by_cases h : w % 2 = 1 <;> simp [h]
  | succ i =>
    have e1 : (2 * (w / 2)).testBit (i + 1) = (w / 2).testBit i := by
      rw [Nat.testBit_succ]; congr 1; omega
    have e2 : ((decide (w % 2 = 1)).toNat).testBit (i + 1) = false := by
      rw [Nat.testBit_succ]
      have : (decide (w % 2 = 1)).toNat / 2 = 0 := by
        by_cases h : w % 2 = 1 <;> simp [h]
      rw [this]; simp
    rw [e1, e2, Nat.testBit_succ]; simp
/-- Bits that go in one behind the other, or all at once ahead. -/
theorem crun_bits : ∀ (k w r : Nat), w < 2 ^ k → crun r (bitsL w k) = czn k (r ^^^ w)
  | 0, w, r, h => by
    have : w = 0 := by simpa using h
    subst this
    simp [crun, bitsL, czn]
  | k + 1, w, r, h => by
    have hw : w / 2 < 2 ^ k := by rw [Nat.pow_succ] at h; omega
    show crun (cst r (decide (w % 2 = 1))) (bitsL (w / 2) k) = czn k (cz (r ^^^ w))
    rw [crun_bits k (w / 2) _ hw]
    congr 1
    have e : r ^^^ w = (r ^^^ (decide (w % 2 = 1)).toNat) ^^^ (2 * (w / 2)) := by
      rw [Nat.xor_assoc, ← bool_half w]
    rw [e, cz_xor, cz_even]
    rfl
theorem crun_zeros : ∀ (n r : Nat), crun r (List.replicate n false) = czn n r
  | 0, _ => rfl
  | n + 1, r => by
    rw [List.replicate_succ]
    show crun (cst r false) (List.replicate n false) = czn n (cz r)
    rw [crun_zeros n]
    simp [cst]
theorem crun_app (r : Nat) (a b : List Bool) : crun r (a ++ b) = crun (crun r a) b := by simp [crun, List.foldl_append]
/-- Bits that are turned in a row of at most 32 leave a trace. -/
theorem crun_burst {w k p q : Nat} (hk : k ≤ 32) (hw : w < 2 ^ k) (h0 : w ≠ 0) : crun 0 (List.replicate p false ++ (bitsL w k ++ List.replicate q false)) ≠ 0 := by
  rw [crun_app, crun_zeros, czn_0, crun_app, crun_bits k w 0 hw, crun_zeros, Nat.zero_xor]
  have hw32 : w < 4294967296 := Nat.lt_of_lt_of_le hw (by
    have := Nat.pow_le_pow_right (n := 2) (by omega) hk
    simpa using this)
  have hc : ∀ (n : Nat) {r : Nat}, r < 4294967296 → czn n r < 4294967296 := by
    intro n
    induction n with
    | zero => intro r h; exact h
    | succ n ih => intro r h; rw [czn]; exact ih (cz_lt h)
  exact czn_ne q (hc k hw32) (czn_ne k hw32 h0)
/-- Two rows of bits, place by place. -/
def xorL : List Bool → List Bool → List Bool
  | a :: l, b :: m => (a ^^ b) :: xorL l m
  | _, _ => []
theorem toNat_xor (a b : Bool) : (a ^^ b).toNat = a.toNat ^^^ b.toNat := by cases a <;> cases b <;> rfl
theorem crun_xor : ∀ (l m : List Bool) (r s : Nat), l.length = m.length → crun (r ^^^ s) (xorL l m) = crun r l ^^^ crun s m
  | [], [], _, _, _ => rfl
  | a :: l, b :: m, r, s, h => by
    show crun (cst (r ^^^ s) (a ^^ b)) (xorL l m) = crun (cst r a) l ^^^ crun (cst s b) m
    rw [← crun_xor l m _ _ (by simpa using h)]
    congr 1
    unfold cst
    rw [toNat_xor, ← cz_xor]
    congr 1
    rw [Nat.xor_assoc, Nat.xor_assoc, ← Nat.xor_assoc s, Nat.xor_comm s, Nat.xor_assoc]
  | [], _ :: _, _, _, h => by simp at h
  | _ :: _, [], _, _, h => by simp at h
theorem bitsL_len : ∀ (k w : Nat), (bitsL w k).length = k
  | 0, _ => rfl
  | k + 1, w => by rw [bitsL, List.length_cons, bitsL_len k]
theorem bitsL_xor : ∀ (k a b : Nat), xorL (bitsL a k) (bitsL b k) = bitsL (a ^^^ b) k
  | 0, _, _ => rfl
  | k + 1, a, b => by
    show (decide (a % 2 = 1) ^^ decide (b % 2 = 1)) :: xorL (bitsL (a / 2) k) (bitsL (b / 2) k) = decide ((a ^^^ b) % 2 = 1) :: bitsL ((a ^^^ b) / 2) k
    rw [bitsL_xor k, xor_half, xor_mod]
    congr 1
    rcases Nat.mod_two_eq_zero_or_one a with ha | ha <;> rcases Nat.mod_two_eq_zero_or_one b with hb | hb <;> simp [ha, hb, Nat.add_mod]
theorem xorL_app : ∀ (a c b d : List Bool), a.length = c.length → xorL (a ++ b) (c ++ d) = xorL a c ++ xorL b d
  | [], [], _, _, _ => rfl
  | x :: a, y :: c, b, d, h => by
    show (x ^^ y) :: xorL (a ++ b) (c ++ d) = (x ^^ y) :: (xorL a c ++ xorL b d)
    rw [xorL_app a c b d (by simpa using h)]
  | [], _ :: _, _, _, h => by simp at h
  | _ :: _, [], _, _, h => by simp at h
/-- Bits with their sum behind them. -/
def summed (d : List Bool) : List Bool := d ++ bitsL (4294967295 ^^^ crun 4294967295 d) 32
theorem crun_lt : ∀ (l : List Bool) {r : Nat}, r < 4294967296 → crun r l < 4294967296
  | [], _, h => h
  | b :: l, r, h => by
    show crun (cst r b) l < 4294967296
    refine crun_lt l (cz_lt ?_)
    have : b.toNat < 2 ^ 32 := by cases b <;> decide
    exact Nat.xor_lt_two_pow (n := 32) h this
/-- What parts two rows of bits that have their sums leaves no trace. -/
theorem summed_xor {d d' : List Bool} (h : d.length = d'.length) : crun 0 (xorL (summed d) (summed d')) = 0 := by
  unfold summed
  rw [xorL_app d d' _ _ h, crun_app, bitsL_xor]
  have e1 : crun 0 (xorL d d') = crun 4294967295 d ^^^ crun 4294967295 d' := by
    rw [← crun_xor d d' _ _ h, Nat.xor_self]
  have e2 : (4294967295 ^^^ crun 4294967295 d) ^^^ (4294967295 ^^^ crun 4294967295 d') = crun 4294967295 d ^^^ crun 4294967295 d' := by
    rw [Nat.xor_comm 4294967295 (crun 4294967295 d), Nat.xor_assoc, ← Nat.xor_assoc 4294967295 4294967295, Nat.xor_self, Nat.zero_xor]
  rw [e1, e2]
  have hlt : crun 4294967295 d ^^^ crun 4294967295 d' < 2 ^ 32 := Nat.xor_lt_two_pow (crun_lt d (by decide)) (crun_lt d' (by decide))
  rw [crun_bits 32 _ _ hlt, Nat.xor_self, czn_0]
/-- So where bits are turned in a row of at most 32, two rows that have their sums do not part. -/
theorem burst_seen {d d' : List Bool} (h : d.length = d'.length) {w k p q : Nat} (hk : k ≤ 32) (hw : w < 2 ^ k) (h0 : w ≠ 0)
    (hx : xorL (summed d) (summed d') = List.replicate p false ++ (bitsL w k ++ List.replicate q false)) : False := by
  have h1 := summed_xor h
  rw [hx] at h1
  exact crun_burst hk hw h0 h1
end Go.Proofs.YtfakgfmgofblgaaGreatDoor
namespace Go.Proofs.YtfakgfmgofblgaaGreatDoor

theorem czn_add : ∀ (m n r : Nat), czn (m + n) r = czn n (czn m r)
  | 0, n, r => by rw [Nat.zero_add, czn]
  | m + 1, n, r => by rw [Nat.add_right_comm, czn, czn]; exact czn_add m n _
theorem czn_pow : ∀ (n k : Nat), czn n (2 ^ n * k) = k
  | 0, k => by simp [czn]
  | n + 1, k => by
    rw [czn, show 2 ^ (n + 1) * k = 2 * (2 ^ n * k) by rw [Nat.pow_succ, Nat.mul_comm (2 ^ n) 2, Nat.mul_assoc], cz_even]
    exact czn_pow n k
theorem low_high (x n : Nat) : x = (x % 2 ^ n) ^^^ (2 ^ n * (x / 2 ^ n)) := by
  apply Nat.eq_of_testBit_eq
  intro i
  rw [Nat.testBit_xor, Nat.testBit_mod_two_pow, Nat.testBit_two_pow_mul, Nat.testBit_div_two_pow]
  by_cases h : i < n
  · simp [h, show ¬ n ≤ i by omega]
  · simp [h, show n ≤ i by omega, show i - n + n = i by omega]
/-- One byte at once. -/
def cbyte (r c : Nat) : Nat := czn 8 (r ^^^ c)
/-- .. by a table of the 256 bytes. -/
theorem cbyte_table {r c : Nat} (hc : c < 256) : cbyte r c = czn 8 ((r ^^^ c) % 256) ^^^ (r / 256) := by
  unfold cbyte
  have e := low_high (r ^^^ c) 8
  have h : (r ^^^ c) / 2 ^ 8 = r / 256 := by
    rw [Nat.xor_div_two_pow, show c / 2 ^ 8 = 0 from Nat.div_eq_of_lt hc, Nat.xor_zero]
  rw [h] at e
  have e2 : czn 8 (r ^^^ c) = czn 8 ((r ^^^ c) % 2 ^ 8 ^^^ 2 ^ 8 * (r / 256)) := congrArg (czn 8) e
  rw [e2, czn_xor, czn_pow]
theorem cbyte_lt {r c : Nat} (hr : r < 4294967296) (hc : c < 256) : cbyte r c < 4294967296 := by
  unfold cbyte
  rw [← crun_bits 8 c r hc]
  exact crun_lt _ hr

/-- The bits of bytes, the lowest of each first. -/
def bitsOf : List Nat → List Bool
  | [] => []
  | c :: l => bitsL c 8 ++ bitsOf l
theorem bitsOf_len : ∀ l : List Nat, (bitsOf l).length = 8 * l.length
  | [] => rfl
  | c :: l => by rw [bitsOf, List.length_append, bitsL_len, bitsOf_len l, List.length_cons]; omega
theorem bitsOf_app : ∀ a b : List Nat, bitsOf (a ++ b) = bitsOf a ++ bitsOf b
  | [], _ => rfl
  | c :: a, b => by rw [List.cons_append, bitsOf, bitsOf, bitsOf_app a b, List.append_assoc]
/-- The remainder behind some bytes. -/
def crem (r : Nat) (l : List Nat) : Nat := l.foldl cbyte r
theorem crem_bits : ∀ (l : List Nat) (r : Nat), (∀ c ∈ l, c < 256) → crun r (bitsOf l) = crem r l
  | [], _, _ => rfl
  | c :: l, r, h => by
    rw [bitsOf, crun_app, crun_bits 8 c r (h c (List.mem_cons_self ..)), crem_bits l _ (fun x hx => h x (List.mem_cons_of_mem _ hx))]
    rfl
theorem crem_lt : ∀ (l : List Nat) {r : Nat}, r < 4294967296 → (∀ c ∈ l, c < 256) → crem r l < 4294967296
  | [], _, h, _ => h
  | c :: l, r, h, hl => crem_lt l (r := cbyte r c) (cbyte_lt h (hl c (List.mem_cons_self ..))) (fun x hx => hl x (List.mem_cons_of_mem _ hx))
/-- The sum of bytes. -/
def csum (l : List Nat) : Nat := 4294967295 ^^^ crem 4294967295 l
theorem csum_lt {l : List Nat} (h : ∀ c ∈ l, c < 256) : csum l < 4294967296 :=
  Nat.xor_lt_two_pow (n := 32) (by decide) (crem_lt l (by decide) h)
/-- A sum in four bytes, the lowest first. -/
def le4 (x : Nat) : List Nat := [x % 256, x / 256 % 256, x / 65536 % 256, x / 16777216 % 256]
theorem bitsL_mod : ∀ (k w m : Nat), k ≤ m → bitsL (w % 2 ^ m) k = bitsL w k
  | 0, _, _, _ => rfl
  | k + 1, w, m, h => by
    obtain ⟨m, rfl⟩ : ∃ n, m = n + 1 := ⟨m - 1, by omega⟩
    have e1 : w % 2 ^ (m + 1) % 2 = w % 2 := Nat.mod_mod_of_dvd _ ⟨2 ^ m, by rw [Nat.pow_succ, Nat.mul_comm]⟩
    have e2 : w % 2 ^ (m + 1) / 2 = w / 2 % 2 ^ m := by rw [Nat.pow_succ, Nat.mul_comm, Nat.mod_mul_right_div_self]
    rw [bitsL, bitsL, e1, e2, bitsL_mod k _ m (by omega)]
theorem bitsL_add : ∀ (j k w : Nat), bitsL w (j + k) = bitsL w j ++ bitsL (w / 2 ^ j) k
  | 0, k, w => by simp [bitsL]
  | j + 1, k, w => by
    rw [Nat.add_right_comm, bitsL, bitsL, bitsL_add j k, Nat.div_div_eq_div_mul, show 2 * 2 ^ j = 2 ^ (j + 1) by rw [Nat.pow_succ, Nat.mul_comm]]
    rfl
theorem le4_bits (x : Nat) : bitsOf (le4 x) = bitsL x 32 := by
  unfold le4
  simp only [bitsOf, List.append_nil]
  rw [show (32 : Nat) = 8 + (8 + (8 + 8)) from rfl, bitsL_add 8, bitsL_add 8, bitsL_add 8, Nat.div_div_eq_div_mul, Nat.div_div_eq_div_mul]
  have h := fun w => bitsL_mod 8 w 8 (Nat.le_refl _)
  simp only [show (2 : Nat) ^ 8 = 256 from rfl] at h ⊢
  rw [h, h, h, h]
/-- Bytes with their sum behind them. -/
def framed (d : List Nat) : List Nat := d ++ le4 (csum d)
theorem framed_bits {d : List Nat} (h : ∀ c ∈ d, c < 256) : bitsOf (framed d) = summed (bitsOf d) := by
  unfold framed summed csum
  rw [bitsOf_app, le4_bits, crem_bits d _ h]

/-- Bytes whose bits are turned where a number has its bits. -/
def turned : List Nat → Nat → List Nat
  | [], _ => []
  | c :: l, w => (c ^^^ (w % 256)) :: turned l (w / 256)
theorem turned_len : ∀ (l : List Nat) (w : Nat), (turned l w).length = l.length
  | [], _ => rfl
  | c :: l, w => by rw [turned, List.length_cons, turned_len l, List.length_cons]
theorem turned_same : ∀ (l : List Nat) (w : Nat), w % 2 ^ (8 * l.length) = 0 → turned l w = l
  | [], _, _ => rfl
  | c :: l, w, h => by
    rw [List.length_cons, show 8 * (l.length + 1) = 8 + 8 * l.length by omega, Nat.pow_add] at h
    have h1 : w % 2 ^ 8 = 0 := by rw [← Nat.mod_mul_right_mod w (2 ^ 8) (2 ^ (8 * l.length)), h]
    have h2 : w / 2 ^ 8 % 2 ^ (8 * l.length) = 0 := by rw [← Nat.mod_mul_right_div_self, h, Nat.zero_div]
    rw [turned, turned_same l (w / 256) h2, show w % 256 = 0 from h1, Nat.xor_zero]
theorem xorL_self : ∀ a b : List Bool, a.length = b.length → xorL a (xorL a b) = b
  | [], [], _ => rfl
  | x :: a, y :: b, h => by
    show (x ^^ (x ^^ y)) :: xorL a (xorL a b) = y :: b
    rw [xorL_self a b (by simpa using h), ← Bool.xor_assoc, Bool.xor_self, Bool.false_xor]
  | [], _ :: _, h => by cases h
  | _ :: _, [], h => by cases h
theorem turned_bits : ∀ (l : List Nat) (w : Nat), bitsOf (turned l w) = xorL (bitsOf l) (bitsL w (8 * l.length))
  | [], _ => rfl
  | c :: l, w => by
    rw [turned, bitsOf, bitsOf, turned_bits l, List.length_cons, show 8 * (l.length + 1) = 8 + 8 * l.length by omega, bitsL_add, xorL_app _ _ _ _ (by rw [bitsL_len, bitsL_len]), ← bitsL_xor, show (256 : Nat) = 2 ^ 8 from rfl, bitsL_mod 8 w 8 (Nat.le_refl _)]
theorem turned_xor (l : List Nat) (w : Nat) : xorL (bitsOf l) (bitsOf (turned l w)) = bitsL w (8 * l.length) := by
  rw [turned_bits, xorL_self _ _ (by rw [bitsOf_len, bitsL_len])]
theorem bitsL_shift : ∀ (p w k : Nat), bitsL (w * 2 ^ p) (p + k) = List.replicate p false ++ bitsL w k
  | 0, w, k => by simp
  | p + 1, w, k => by
    rw [Nat.add_right_comm, bitsL, List.replicate_succ, List.cons_append, show w * 2 ^ (p + 1) = 2 * (w * 2 ^ p) by rw [Nat.pow_succ, ← Nat.mul_assoc, Nat.mul_comm], Nat.mul_mod_right, Nat.mul_div_cancel_left _ (by decide), bitsL_shift p]
    rfl
theorem bitsL_0 : ∀ k : Nat, bitsL 0 k = List.replicate k false
  | 0 => rfl
  | k + 1 => by rw [bitsL, List.replicate_succ, Nat.zero_div, bitsL_0 k]; rfl
/-- A frame whose bits are turned within 32 bits one behind the other, from a place within it on, is no frame, or it is the same. -/
theorem framed_turned {d d' : List Nat} (hd : ∀ c ∈ d, c < 256) (hd' : ∀ c ∈ d', c < 256) {w p : Nat} (hw : w < 2 ^ 32) (hp : p ≤ 8 * (framed d).length)
    (h : turned (framed d) (w * 2 ^ p) = framed d') : framed d' = framed d := by
  have hl : (framed d').length = (framed d).length := by rw [← h, turned_len]
  have hx : xorL (summed (bitsOf d)) (summed (bitsOf d')) = bitsL (w * 2 ^ p) (8 * (framed d).length) := by
    rw [← framed_bits hd, ← framed_bits hd', ← h, turned_xor]
  have hlen : (bitsOf d).length = (bitsOf d').length := by
    rw [bitsOf_len, bitsOf_len]
    have : ∀ e : List Nat, (framed e).length = e.length + 4 := fun e => by rw [framed, List.length_append]; rfl
    rw [this, this] at hl
    omega
  obtain ⟨m, hm⟩ : ∃ m, 8 * (framed d).length = p + m := ⟨8 * (framed d).length - p, by omega⟩
  rw [hm, bitsL_shift] at hx
  rw [← h]
  have zero : w % 2 ^ m = 0 → turned (framed d) (w * 2 ^ p) = framed d := fun h0 => turned_same _ _ (by
    rw [hm, Nat.pow_add, Nat.mul_comm w, Nat.mul_mod_mul_left, h0, Nat.mul_zero])
  by_cases h0 : w % 2 ^ m = 0
  · exact zero h0
  · exfalso
    by_cases hk : m ≤ 32
    · refine burst_seen hlen (w := w % 2 ^ m) (k := m) (p := p) (q := 0) hk (Nat.mod_lt _ (Nat.two_pow_pos m)) h0 ?_
      rw [hx, bitsL_mod m w m (Nat.le_refl _)]
      simp
    · have hmw : w % 2 ^ m = w := Nat.mod_eq_of_lt (Nat.lt_of_lt_of_le hw (Nat.pow_le_pow_right (by decide) (by omega)))
      refine burst_seen hlen (w := w) (k := 32) (p := p) (q := m - 32) (Nat.le_refl _) hw (by rwa [hmw] at h0) ?_
      rw [hx, show m = 32 + (m - 32) by omega, bitsL_add, Nat.div_eq_of_lt hw, bitsL_0]
      simp
end Go.Proofs.YtfakgfmgofblgaaGreatDoor
