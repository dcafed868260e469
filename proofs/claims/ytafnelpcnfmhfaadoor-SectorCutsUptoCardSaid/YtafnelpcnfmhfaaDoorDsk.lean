/-
  A disk as plain data, and how one lies in memory: no walk.
-/
import Derived.WalkKit
import Derived.Deep.MidRow
import Derived.Maps.OwnSet
import Derived.Maps.RangeWalk
import Derived.Maps.AppendAt
import Derived.Test.YtafnelpcnfmhfaaDoorChecked
namespace Go.Proofs.YtafnelpcnfmhfaaDoor
open Go.RowKit Go.Maps

/-- A sector's cells. -/
def enc (bs : List UInt8) : List Value := bs.map fun c => Value.int .u8 c.toNat
def encA (bs : List UInt8) : Array Value := (enc bs).toArray
/-- A place's cells: what stays, and whether it is torn. -/
def plc (bs : List UInt8) (t : Bool) : List Value := enc bs ++ [.bool t]
/-- How a sector in the cache reads. -/
def secR : Value → Option (DataW (Array Value) × List MemPlace)
  | .agg cs => some (.held cs, [])
  | _ => none
theorem secR_inv (v : Value) (y : DataW (Array Value) × List MemPlace) (h : secR v = some y) : ∃ c : Array Value, v = .agg c := by
  cases v <;> simp [secR] at h
  exact ⟨_, rfl⟩
theorem len_enc (bs : List UInt8) : (enc bs).length = bs.length := by simp [enc]
theorem one_enc (bs : List UInt8) : ∀ v ∈ enc bs, v.oneCell' = true := by
  intro v hv
  obtain ⟨c, -, rfl⟩ := List.mem_map.1 hv
  rfl
theorem one_plc (bs : List UInt8) (t : Bool) : ∀ v ∈ plc bs t, v.oneCell' = true := by
  intro v hv
  rcases List.mem_append.1 hv with h | h
  · exact one_enc bs v h
  · simp at h; subst h; rfl
theorem enc_inj {a b : List UInt8} (h : enc a = enc b) : a = b := by
  unfold enc at h
  refine (List.map_inj_right fun x y e => ?_).1 h
  injection e with _ e
  exact UInt8.toNat_inj.1 (by omega)

structure Dsk where
  N : Nat
  st : Nat → List UInt8
  tn : Nat → Bool
  ca : Nat → Option (List UInt8)
  down : Bool
  fuse : Int
  calls : Int

/-- The cache, as the map reads. -/
structure Tied (N : Nat) (D : DataW (Array Value)) (ca : Nat → Option (List UInt8)) : Prop where
  back : ∀ x : Int, Maps.has D (.int .i64 x) = true → ∃ k : Nat, x = k ∧ (ca k).isSome = true
  has : ∀ (k : Nat) (bs : List UInt8), ca k = some bs → Maps.has D (.int .i64 k) = true
  at_ : ∀ (k : Nat) (bs : List UInt8), ca k = some bs → ∀ z, D.atKey (.int .i64 k) z = .held (encA bs)
  lt : ∀ (k : Nat) (bs : List UInt8), ca k = some bs → k < N
  len : ∀ (k : Nat) (bs : List UInt8), ca k = some bs → bs.length = 128

def blkD (pb mb N : Nat) (down : Bool) (fuse calls : Int) : Obj := .cells #[.slice (some ⟨pb, 0, none⟩) N N, .map (some mb), .bool down, .int .i64 fuse, .int .i64 calls] 76

/-- The disk s lies at d, its places at pb, its cache at mb. -/
structure At (w : World) (d pb mb : Nat) (s : Dsk) : Prop where
  blk : w.heap[d]? = some (.cells #[.slice (some ⟨pb, 0, none⟩) s.N s.N, .map (some mb), .bool s.down, .int .i64 s.fuse, .int .i64 s.calls] 76)
  ne : d ≠ pb
  pos : 1 ≤ s.N
  top : s.N ≤ 16384
  pl : ∀ i, i < s.N → w.rangeAt pb (i * 129) (plc (s.st i) (s.tn i))
  sl : ∀ i, i < s.N → (s.st i).length = 128
  th : w.there pb 0 (s.N * 129)
  own : ∃ n D, w.ownsMap Tryd.prog 3 secR mb n D ∧ Tied s.N D s.ca
  fu : 0 ≤ s.fuse ∧ s.fuse ≤ 9223372036854775807
  cl : -9223372036854775808 ≤ s.calls ∧ s.calls ≤ 9223372036854775807

theorem five_of {w : World} {g : Nat} {a b c d f : Value} {t : TypeId} (e : w.heap[g]? = some (.cells #[a, b, c, d, f] t)) :
    w.cell? ⟨g, 0, none⟩ = some a ∧ w.cell? ⟨g, 1, none⟩ = some b ∧ w.cell? ⟨g, 2, none⟩ = some c ∧ w.cell? ⟨g, 3, none⟩ = some d ∧ w.cell? ⟨g, 4, none⟩ = some f ∧ ∀ i, w.frozen? ⟨g, i, none⟩ = false := by
  refine ⟨?_, ?_, ?_, ?_, ?_, fun i => ?_⟩ <;> simp [World.cell?, World.frozen?, e]

/-! ### What is kept -/

/-- All that lay in w but the three blocks of a disk lies so in w'. -/
structure Kept (d pb mb : Nat) (w w' : World) : Prop where
  os : w'.os = w.os
  tape : w'.tape = w.tape
  output : w'.output = w.output
  size : w.heap.size ≤ w'.heap.size
  block : ∀ k, k < w.heap.size → k ≠ d → k ≠ pb → k ≠ mb → w'.heap[k]? = w.heap[k]?
theorem Kept.refl (d pb mb : Nat) (w : World) : Kept d pb mb w w := ⟨rfl, rfl, rfl, Nat.le_refl _, fun _ _ _ _ _ => rfl⟩
theorem Kept.trans {d pb mb : Nat} {a b c : World} (h : Kept d pb mb a b) (k : Kept d pb mb b c) : Kept d pb mb a c :=
  ⟨k.os.trans h.os, k.tape.trans h.tape, k.output.trans h.output, Nat.le_trans h.size k.size, fun i hi h1 h2 h3 => (k.block i (Nat.lt_of_lt_of_le hi h.size) h1 h2 h3).trans (h.block i hi h1 h2 h3)⟩
theorem Kept.bel {d pb mb : Nat} {w w' : World} (h : Below w.heap.size w w') : Kept d pb mb w w' := ⟨h.os, h.tape, h.output, h.size, fun k hk _ _ _ => h.block k hk⟩
theorem Kept.grown {d pb mb : Nat} {w w' : World} {r : Option Nat} (h : w.grownBy w' r) (hr : ∀ k, r = some k → k = d ∨ k = pb ∨ k = mb) : Kept d pb mb w w' :=
  ⟨h.os, h.tape, h.output, h.size, fun k hk h1 h2 h3 => h.block k hk (fun e => by rcases hr k e.symm with h | h | h <;> contradiction)⟩
theorem Kept.below {d pb mb B : Nat} {w w' : World} (h : Kept d pb mb w w') (hd : B ≤ d) (hp : B ≤ pb) (hm : B ≤ mb) (hB : B ≤ w.heap.size) : Below B w w' :=
  ⟨h.os, h.tape, h.output, h.size, fun k hk => h.block k (by omega) (by omega) (by omega) (by omega)⟩
theorem gr_set (w : World) (r i : Nat) (u : Value) : w.grownBy (w.setCell ⟨r, i, none⟩ u) (some r) :=
  ⟨rfl, rfl, rfl, by simp [World.setCell], fun _ _ hk => Below.heap_setCell _ _ _ _ (fun e => hk (by rw [e]))⟩
theorem gr_bel {w w' : World} (h : Below w.heap.size w w') (row : Option Nat) : w.grownBy w' row := ⟨h.os, h.tape, h.output, h.size, fun k hk _ => h.block k hk⟩
theorem gr_sets (r : Nat) : ∀ (vs : List Value) (o : Nat) (w : World), w.grownBy (w.setCells r o vs) (some r)
  | [], _, w => ⟨rfl, rfl, rfl, Nat.le_refl _, fun _ _ _ => rfl⟩
  | v :: vs, o, w => by
    rw [World.setCells]
    exact (gr_set w r o v).trans (gr_sets r vs (o + 1) _)
theorem bel1 (w : World) (o : Obj) : Below w.heap.size w (w.alloc o) := (Below.refl _ w).alloc (Nat.le_refl _) o
theorem bel_then {a b c : World} (h : Below a.heap.size a b) (k : Below b.heap.size b c) : Below a.heap.size a c := h.trans (k.mono h.size)
theorem blk_on {w w' : World} (h : Below w.heap.size w w') {g : Nat} {o : Obj} (e : w.heap[g]? = some o) : w'.heap[g]? = some o :=
  (h.block g (Array.getElem?_eq_some_iff.1 e).1).trans e
theorem rangeAt_same {w w' : World} {b o : Nat} {cs : List Value} (h : w.rangeAt b o cs) (e : w'.heap[b]? = w.heap[b]?) : w'.rangeAt b o cs := fun j v hv =>
  (World.cell?_of_block (w := w) (a := ⟨b, o + j, none⟩) e).trans (h j v hv)
theorem there_same {w w' : World} {b o n : Nat} (h : w.there b o n) (e : w'.heap[b]? = w.heap[b]?) : w'.there b o n := fun j hj => by
  rw [World.cell?_of_block (w := w) (a := ⟨b, o + j, none⟩) e, World.frozen?_of_block (w := w) (a := ⟨b, o + j, none⟩) e]
  exact h j hj
theorem At.lts {w : World} {d pb mb : Nat} {s : Dsk} (h : At w d pb mb s) : d < w.heap.size ∧ pb < w.heap.size ∧ mb < w.heap.size ∧ mb ≠ d ∧ mb ≠ pb := by
  have hd := (Array.getElem?_eq_some_iff.1 h.blk).1
  obtain ⟨n, D, ho, -⟩ := h.own
  have hm := ho.lt
  obtain ⟨es, ck, hmb, -⟩ := ho
  have hp := (h.th 0 (by have := h.pos; omega)).1
  have hpb : pb < w.heap.size := by
    obtain ⟨u, hu⟩ := Option.isSome_iff_exists.1 hp
    exact World.block_lt_of_cell? w _ hu
  refine ⟨hd, hpb, hm, ?_, ?_⟩
  · rintro rfl
    rw [h.blk] at hmb; cases hmb
  · rintro rfl
    simp [World.cell?, hmb] at hp
/-- Where none of its blocks has turned the disk stands. -/
theorem At.same {w w' : World} {d pb mb : Nat} {s : Dsk} (h : At w d pb mb s) (hd : w'.heap[d]? = w.heap[d]?) (hp : w'.heap[pb]? = w.heap[pb]?) (hm : w'.heap[mb]? = w.heap[mb]?) : At w' d pb mb s := by
  refine { h with blk := hd.trans h.blk, pl := fun i hi => rangeAt_same (h.pl i hi) hp, th := there_same h.th hp, own := ?_ }
  obtain ⟨n, D, ⟨es, ck, hmb, r⟩, ht⟩ := h.own
  exact ⟨n, D, ⟨es, ck, hm.trans hmb, r⟩, ht⟩
theorem At.on {w w' : World} {d pb mb : Nat} {s : Dsk} (h : At w d pb mb s) (hb : Below w.heap.size w w') : At w' d pb mb s :=
  have l := h.lts
  h.same (hb.block _ l.1) (hb.block _ l.2.1) (hb.block _ l.2.2.1)
theorem At.drew {w : World} {d pb mb : Nat} {s : Dsk} (h : At w d pb mb s) : At w.drew d pb mb s := h.same rfl rfl rfl
theorem At.alloc {w : World} {d pb mb : Nat} {s : Dsk} (h : At w d pb mb s) (o : Obj) : At (w.alloc o) d pb mb s := h.on (bel1 w o)
end Go.Proofs.YtafnelpcnfmhfaaDoor
