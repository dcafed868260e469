/-
  A log as plain data, how one lies in memory, and its small functions.
  The small methods of a log.
  What Frames and commitBytes of package wal do, and commit of the document.
  Things in memory that touch some blocks and no others; slices of such things; rows of one's own that grow.
  Arguments that are slices of slices of bytes, and slices of such; what their bulk says of a commit's bytes.
  Arguments that are a row of operations, and truths.
-/
import Derived.Test.YtnclhjjhobbbjaaDoorZCtmRctBsxNumpNumTFuse
import Derived.Test.YtnclhjjhobbbjaaDoorZClnAppJnCuaVntWm
namespace Go.Proofs.YtnclhjjhobbbjaaDoor
open Go.RowKit Go.Maps
set_option linter.unusedVariables false      -- a walk need not use every condition

/-! ### What is kept -/

/-- All that lay in w but the blocks of X lies so in w'. -/
structure Kp (X : Nat → Prop) (w w' : World) : Prop where
  os : w'.os = w.os
  tape : w'.tape = w.tape
  output : w'.output = w.output
  size : w.heap.size ≤ w'.heap.size
  block : ∀ k, k < w.heap.size → ¬ X k → w'.heap[k]? = w.heap[k]?
theorem Kp.refl (X : Nat → Prop) (w : World) : Kp X w w := ⟨rfl, rfl, rfl, Nat.le_refl _, fun _ _ _ => rfl⟩
theorem Kp.trans {X : Nat → Prop} {a b c : World} (h : Kp X a b) (k : Kp X b c) : Kp X a c :=
  ⟨k.os.trans h.os, k.tape.trans h.tape, k.output.trans h.output, Nat.le_trans h.size k.size, fun i hi hx => (k.block i (Nat.lt_of_lt_of_le hi h.size) hx).trans (h.block i hi hx)⟩
theorem Kp.bel {X : Nat → Prop} {w w' : World} (h : Below w.heap.size w w') : Kp X w w' := ⟨h.os, h.tape, h.output, h.size, fun k hk _ => h.block k hk⟩
theorem Kp.kept {X : Nat → Prop} {d pb mb : Nat} {w w' : World} (h : Kept d pb mb w w') (hd : X d) (hp : X pb) (hm : X mb) : Kp X w w' :=
  ⟨h.os, h.tape, h.output, h.size, fun k hk hx => h.block k hk (fun e => hx (e ▸ hd)) (fun e => hx (e ▸ hp)) (fun e => hx (e ▸ hm))⟩
theorem Kp.grown {X : Nat → Prop} {w w' : World} {r : Nat} (h : w.grownBy w' (some r)) (hr : X r) : Kp X w w' :=
  ⟨h.os, h.tape, h.output, h.size, fun k hk hx => h.block k hk (fun e => hx (by injection e with e; exact e ▸ hr))⟩
theorem Kp.below {X : Nat → Prop} {w w' : World} {B : Nat} (h : Kp X w w') (hX : ∀ k, X k → B ≤ k) (hB : B ≤ w.heap.size) : Below B w w' :=
  ⟨h.os, h.tape, h.output, h.size, fun k hk => h.block k (by omega) (fun hx => by have := hX k hx; omega)⟩
theorem Kp.mono {X Y : Nat → Prop} {w w' : World} (h : Kp X w w') (hxy : ∀ k, X k → Y k) : Kp Y w w' := ⟨h.os, h.tape, h.output, h.size, fun k hk hy => h.block k hk (fun hx => hy (hxy k hx))⟩

/-- Bytes in none of these blocks. -/
def BsX (X : Nat → Prop) (w : World) (v : Value) (t : List UInt8) : Prop := Bs w v t ∧ (t ≠ [] → ∀ a n c, v = .slice (some a) n c → ¬ X a.block)
theorem range_kp {X : Nat → Prop} {w w' : World} {g o : Nat} {cs : List Value} (h : w.rangeAt g o cs) (hk : Kp X w w') (hx : ¬ X g) : w'.rangeAt g o cs := fun j v hv => by
  have h1 := h j v hv
  have hlt := World.block_lt_of_cell? w ⟨g, o + j, none⟩ h1
  exact (World.cell?_of_block (w := w) (a := ⟨g, o + j, none⟩) (hk.block _ hlt hx)).trans h1
theorem BsX.kp {X : Nat → Prop} {w w' : World} {v : Value} {t : List UInt8} (h : BsX X w v t) (hk : Kp X w w') : BsX X w' v t := by
  refine ⟨?_, h.2⟩
  obtain ⟨p, cap, rfl, h1, h2, h3, h4⟩ := h.1
  refine ⟨p, cap, rfl, h1, h2, h3, ?_⟩
  rcases h4 with h4 | ⟨g, o, rfl, hc⟩
  · exact .inl h4
  · by_cases ht : t = []
    · exact .inl ht
    · exact .inr ⟨g, o, rfl, range_kp hc hk (h.2 ht _ _ _ rfl)⟩
theorem BsX.on {X : Nat → Prop} {w w' : World} {v : Value} {t : List UInt8} (h : BsX X w v t) (hb : Below w.heap.size w w') : BsX X w' v t := h.kp (Kp.bel hb)

/-! ### A log -/

structure Lg where
  e : Int
  slots : Nat
  note : List UInt8
  used : Nat
  stale : Bool
  broken : Bool
/-- The blocks of a disk and of a log. -/
def X4 (d pb mb l : Nat) (k : Nat) : Prop := k = d ∨ k = pb ∨ k = mb ∨ k = l
def lblk (d : Nat) (L : Lg) (nv : Value) : Obj := .cells #[.pointer (some ⟨d, 0, none⟩), .int .i64 L.e, .int .i64 L.slots, nv, .int .i64 L.used, .bool L.stale, .bool L.broken] 54
structure LAt (w : World) (d pb mb l : Nat) (L : Lg) : Prop where
  blk : ∃ nv, w.heap[l]? = some (.cells #[.pointer (some ⟨d, 0, none⟩), .int .i64 L.e, .int .i64 L.slots, nv, .int .i64 L.used, .bool L.stale, .bool L.broken] 54) ∧ BsX (X4 d pb mb l) w nv L.note
  ne : l ≠ d ∧ l ≠ pb ∧ l ≠ mb
  pos : 0 < L.e
  top : L.e ≤ 1099511627776
  sl : 1 ≤ L.slots ∧ L.slots ≤ 4096
  us : L.used ≤ L.slots
  nt : L.note.length ≤ 112
theorem LAt.lt {w : World} {d pb mb l : Nat} {L : Lg} (h : LAt w d pb mb l L) : l < w.heap.size := by
  obtain ⟨nv, hb, -⟩ := h.blk
  exact (Array.getElem?_eq_some_iff.1 hb).1
theorem LAt.on {w w' : World} {d pb mb l : Nat} {L : Lg} (h : LAt w d pb mb l L) (hb : Below w.heap.size w w') : LAt w' d pb mb l L := by
  obtain ⟨nv, h1, h2⟩ := h.blk
  exact { h with blk := ⟨nv, (hb.block _ h.lt).trans h1, h2.on hb⟩ }
theorem LAt.kept {w w' : World} {d pb mb l : Nat} {L : Lg} (h : LAt w d pb mb l L) (hb : Kept d pb mb w w') : LAt w' d pb mb l L := by
  obtain ⟨nv, h1, h2⟩ := h.blk
  exact { h with blk := ⟨nv, (hb.block _ h.lt h.ne.1 h.ne.2.1 h.ne.2.2).trans h1, h2.kp (Kp.kept hb (.inl rfl) (.inr (.inl rfl)) (.inr (.inr (.inl rfl))))⟩ }
theorem seven_of {w : World} {g : Nat} {a b c d e f h : Value} {t : TypeId} (hb : w.heap[g]? = some (.cells #[a, b, c, d, e, f, h] t)) :
    w.cell? ⟨g, 0, none⟩ = some a ∧ w.cell? ⟨g, 1, none⟩ = some b ∧ w.cell? ⟨g, 2, none⟩ = some c ∧ w.cell? ⟨g, 3, none⟩ = some d ∧ w.cell? ⟨g, 4, none⟩ = some e ∧ w.cell? ⟨g, 5, none⟩ = some f ∧ w.cell? ⟨g, 6, none⟩ = some h ∧ ∀ i, w.frozen? ⟨g, i, none⟩ = false := by
  refine ⟨?_, ?_, ?_, ?_, ?_, ?_, ?_, fun i => ?_⟩ <;> simp [World.cell?, World.frozen?, hb]

/-! ### Small functions -/

theorem sectors42 (w : World) (d pb mb : Nat) (s : Dsk) (h : At w d pb mb s) : Calls Tryd.prog 42 #[.pointer (some ⟨d, 0, none⟩)] w fun e w' => e = .returned (.int .i64 s.N) ∧ w' = w := by
  obtain ⟨c0, -, -, -, -, -⟩ := five_of h.blk
  have c := made31 w d pb mb s h
  clear h
  go_enter Tryd.func42, Tryd.ntmps42
  go_wp2_with (first | (go_at_call 31; refine c.mono ?_; rintro e w' ⟨rfl, rfl⟩))
  go_ret
  exact ⟨rfl, rfl⟩
theorem madeDisk24 (w : World) (d pb mb : Nat) (s : Dsk) (h : At w d pb mb s) : Calls Tryd.prog 24 #[.pointer (some ⟨d, 0, none⟩)] w fun e w' => e = .returned (.bool true) ∧ w' = w := by
  have c := sectors42 w d pb mb s h
  have hp : (0 : Int) < (s.N : Int) := by have := h.pos; omega
  clear h
  go_enter Tryd.func24, Tryd.ntmps24
  go_wp2_with (first | (go_at_call 42; refine c.mono ?_; rintro e w' ⟨rfl, rfl⟩))
  go_ret
  exact ⟨by simp; omega, rfl⟩
/-- May a log have so many slots? -/
def Dsk.may (s : Dsk) (n : Int) : Bool := decide (1 ≤ n) && decide (n ≤ 4096) && decide (2 + n ≤ s.N)
set_option maxHeartbeats 400000 in
theorem maySlots25 (w : World) (d pb mb : Nat) (s : Dsk) (h : At w d pb mb s) (n : Int) : Calls Tryd.prog 25 #[.pointer (some ⟨d, 0, none⟩), .int .i64 n] w fun e w' => e = .returned (.bool (s.may n)) ∧ w' = w := by
  have c := sectors42 w d pb mb s h
  have hN := h.top
  clear h
  unfold Dsk.may
  by_cases h1 : 1 ≤ n
  · by_cases h2 : n ≤ 4096
    · have hw : IntKind.i64.wrap (2 + n) = 2 + n := by rw [IntKind.wrap_i64]; omega
      go_enter Tryd.func25, Tryd.ntmps25
      go_wp2_with (first | (go_at_call 42; refine c.mono ?_; rintro e w' ⟨rfl, rfl⟩))
      go_ret
      exact ⟨by simp [h1, h2], rfl⟩
    · go_enter Tryd.func25, Tryd.ntmps25
      go_wp2
      go_ret
      exact ⟨by simp; omega, rfl⟩
  · go_enter Tryd.func25, Tryd.ntmps25
    go_wp2
    go_ret
    exact ⟨by simp; omega, rfl⟩
theorem isRight37 (w : World) (e : Int) (x y : Value) (hx : x.oneCell' = true) (hy : y.oneCell' = true) : Calls Tryd.prog 37 #[.agg #[.int .i64 e, x, y]] w fun r w' => r = .returned (.bool (decide (0 < e))) ∧ w' = w.alloc (.cells #[.int .i64 e, x, y] 52) := by
  go_enter Tryd.func37, Tryd.ntmps37
  go_wp2
  go_ret
  exact ⟨rfl, rfl⟩
theorem at47 (w : World) (e : Int) (he : 0 ≤ e) (x y : Value) (hx : x.oneCell' = true) (hy : y.oneCell' = true) : Calls Tryd.prog 47 #[.agg #[.int .i64 e, x, y]] w fun r w' => r = .returned (.int .i64 (e % 2)) ∧ w' = w.alloc (.cells #[.int .i64 e, x, y] 52) := by
  have ht : e.tmod 2 = e % 2 := Int.tmod_eq_emod_of_nonneg he
  go_enter Tryd.func47, Tryd.ntmps47
  go_wp2
  go_ret
  exact ⟨rfl, rfl⟩
end Go.Proofs.YtnclhjjhobbbjaaDoor
namespace Go.Proofs.YtnclhjjhobbbjaaDoor
open Go.RowKit Go.Maps
set_option linter.unusedVariables false      -- a walk need not use every condition

theorem Bs.one {w : World} {v : Value} {t : List UInt8} (h : Bs w v t) : v.oneCell' = true := by
  obtain ⟨p, cap, rfl, -⟩ := h
  rfl
theorem made41 (w : World) (d pb mb l : Nat) (L : Lg) (h : LAt w d pb mb l L) : Calls Tryd.prog 41 #[.pointer (some ⟨l, 0, none⟩)] w fun e w' => e = .returned (.bool true) ∧ Below w.heap.size w w' := by
  obtain ⟨nv, hb, hn⟩ := h.blk
  obtain ⟨p, cap, rfl, -⟩ := hn.1
  obtain ⟨c0, c1, c2, c3, c4, c5, c6, fr⟩ := seven_of hb
  have cR := isRight37 w L.e (.int .i64 L.slots) (.slice p L.note.length cap) rfl rfl
  rw [decide_eq_true h.pos] at cR
  clear h hb hn fr
  go_enter Tryd.func41, Tryd.ntmps41
  go_wp2_with (first | (go_at_call 37; refine cR.mono ?_; rintro e w' ⟨rfl, rfl⟩))
  go_ret
  exact ⟨rfl, bel1 w _⟩
def Lg.ready (L : Lg) : Int := if L.broken then 62 else 0
theorem ready32 (w : World) (d pb mb l : Nat) (L : Lg) (h : LAt w d pb mb l L) : Calls Tryd.prog 32 #[.pointer (some ⟨l, 0, none⟩)] w fun e w' => e = .returned (.int .i64 L.ready) ∧ Below w.heap.size w w' := by
  have cM := made41 w d pb mb l L h
  have H := Lib.hid h
  unfold Lg.ready
  generalize hbr : L.broken = x
  have HB := Lib.hid hbr
  clear h hbr
  cases x
  all_goals
    go_enter Tryd.func32, Tryd.ntmps32
    go_wp2_with (first | (go_at_call 41; refine cM.mono ?_; rintro e w' ⟨rfl, hb⟩; obtain ⟨nv, hblk, hn⟩ := (H.out.on hb).blk; rw [HB.out] at hblk; obtain ⟨-, -, -, -, -, -, c6, -⟩ := seven_of hblk; clear hblk hn))
    go_ret
    exact ⟨rfl, hb⟩
theorem epoch20 (w : World) (d pb mb l : Nat) (L : Lg) (h : LAt w d pb mb l L) : Calls Tryd.prog 20 #[.pointer (some ⟨l, 0, none⟩)] w fun e w' => e = .returned (.int .i64 L.e) ∧ Below w.heap.size w w' := by
  have cM := made41 w d pb mb l L h
  have H := Lib.hid h
  clear h
  go_enter Tryd.func20, Tryd.ntmps20
  go_wp2_with (first | (go_at_call 41; refine cM.mono ?_; rintro e w' ⟨rfl, hb⟩; obtain ⟨nv, hblk, hn⟩ := (H.out.on hb).blk; obtain ⟨-, c1, -, -, -, -, c6, -⟩ := seven_of hblk; clear hblk hn))
  go_ret
  exact ⟨rfl, hb⟩
theorem used22 (w : World) (d pb mb l : Nat) (L : Lg) (h : LAt w d pb mb l L) : Calls Tryd.prog 22 #[.pointer (some ⟨l, 0, none⟩)] w fun e w' => e = .returned (.int .i64 L.used) ∧ Below w.heap.size w w' := by
  have cM := made41 w d pb mb l L h
  have H := Lib.hid h
  clear h
  go_enter Tryd.func22, Tryd.ntmps22
  go_wp2_with (first | (go_at_call 41; refine cM.mono ?_; rintro e w' ⟨rfl, hb⟩; obtain ⟨nv, hblk, hn⟩ := (H.out.on hb).blk; obtain ⟨-, c1, -, -, c4, -, c6, -⟩ := seven_of hblk; clear hblk hn))
  go_ret
  exact ⟨rfl, hb⟩
theorem number52 (w : World) (d pb mb l : Nat) (L : Lg) (h : LAt w d pb mb l L) (i : Nat) (hi : i ≤ 4096) : Calls Tryd.prog 52 #[.pointer (some ⟨l, 0, none⟩), .int .i64 i] w fun e w' => e = .returned (.int .i64 (L.e * 65536 + i)) ∧ w' = w := by
  obtain ⟨nv, hblk, hn⟩ := h.blk
  obtain ⟨-, c1, -⟩ := seven_of hblk
  have hp := h.pos
  have ht := h.top
  have w1 : IntKind.i64.wrap (L.e * 65536) = L.e * 65536 := by rw [IntKind.wrap_i64]; omega
  have w2 : IntKind.i64.wrap (L.e * 65536 + i) = L.e * 65536 + i := by rw [IntKind.wrap_i64]; omega
  clear h hblk hn
  go_enter Tryd.func52, Tryd.ntmps52
  go_wp2
  go_ret
  exact ⟨rfl, rfl⟩
theorem sectorOf53 (w : World) (i : Nat) (hi : i ≤ 4096) : Calls Tryd.prog 53 #[.int .i64 i] w fun e w' => e = .returned (.int .i64 ((2 + i : Nat) : Int)) ∧ w' = w := by
  have w2 : IntKind.i64.wrap (2 + (i : Int)) = ((2 + i : Nat) : Int) := by rw [IntKind.wrap_i64]; omega
  go_enter Tryd.func53, Tryd.ntmps53
  go_wp2
  go_ret
  exact ⟨rfl, rfl⟩
/-! ### No log -/
theorem nilMade41 (w : World) : Calls Tryd.prog 41 #[.pointer none] w fun e w' => e = .returned (.bool false) ∧ w' = w := by
  go_enter Tryd.func41, Tryd.ntmps41
  go_wp2
  go_ret
  exact ⟨rfl, rfl⟩
end Go.Proofs.YtnclhjjhobbbjaaDoor
namespace Go.Proofs.YtnclhjjhobbbjaaDoor
open Go.RowKit Go.Maps
set_option linter.unusedVariables false      -- a walk need not use every condition
attribute [local go_sem ↓] Go.wp_at_zero Go.wp_at_succ

theorem cell_on {w w' : World} {g o : Nat} {x : Value} (hb : Below w.heap.size w w') (h : w.cell? ⟨g, o, none⟩ = some x) : w'.cell? ⟨g, o, none⟩ = some x :=
  (World.cell?_of_block (w := w) (a := ⟨g, o, none⟩) (hb.block _ (World.block_lt_of_cell? w ⟨g, o, none⟩ h))).trans h
theorem rsb_succ (rs : Rs) {i : Nat} (h : i < rs.length) : rsb (rs.take (i + 1)) = rsb (rs.take i) ++ (vnt rs[i].length ++ rs[i]) := by
  rw [List.take_succ_eq_append_getElem h, rsb_app, rsb_cons, rsb_nil, List.append_nil]
theorem rsb_take_le (rs : Rs) (i : Nat) : (rsb (rs.take i)).length ≤ (rsb rs).length := by
  have h := List.take_append_drop i rs
  have h2 : rsb rs = rsb (rs.take i) ++ rsb (rs.drop i) := by rw [← rsb_app, h]
  rw [h2]; simp
theorem rsb_len (rs : Rs) : rs.length ≤ (rsb rs).length := by
  induction rs with
  | nil => simp
  | cons r rs ih =>
    rw [rsb_cons]
    have := vnt_pos r.length
    simp
    omega
theorem cby_len (rs : Rs) : (cby rs).length = (vnt rs.length).length + (rsb rs).length := by simp [cby]
theorem numberLen49 (n : Nat) (hn : n ≤ 140737488355328) (w : World) : Calls Tryd.prog 49 #[.int .i64 n] w fun e w' => e = .returned (.int .i64 (vnt n).length) ∧ Below w.heap.size w w' := by
  have c := put45 n (by omega) w
  have hw : IntKind.u64.wrap (n : Int) = (n : Int) := by rw [IntKind.wrap_u64]; omega
  generalize vnt n = E at *
  go_enter Tryd.func49, Tryd.ntmps49
  go_wp2_with (first | (go_at_call 45; refine c.mono ?_; rintro e w1 ⟨v1, rfl, hb1, hB1⟩; obtain ⟨p, cap, rfl, -⟩ := hb1.bs; clear hb1))
  go_ret
  exact ⟨rfl, hB1⟩
set_option maxHeartbeats 1000000 in
set_option maxRecDepth 100000 in
theorem frames33 (w : World) (v : Value) (rs : Rs) (hv : Bss w v rs) (hlen : (cby rs).length ≤ 4398046511104) :
    Calls Tryd.prog 33 #[v] w fun e w' => e = .returned (.int .i64 (pn (cby rs))) ∧ Below w.heap.size w w' := by
  have HV := Lib.hid hv
  obtain ⟨p, cap, rfl, -⟩ := hv
  have hl := rsb_len rs
  have hcl := cby_len rs
  have hv10 := vnt_le rs.length
  have hnz : rs.length ≤ 4398046511104 := by omega
  have c0 := numberLen49 rs.length (by omega)
  have cN := fun (n : Nat) hn => numberLen49 n hn
  obtain ⟨V, hV⟩ : ∃ V, (vnt rs.length).length = V := ⟨_, rfl⟩
  rw [hV] at c0 hcl hv10
  have HPN : Hid (pn (cby rs) = (V + (rsb rs).length + 111) / 112) := by show _ = _; unfold pn; rw [hcl]
  have HTot : Hid (V + (rsb rs).length ≤ 4398046511104) := by show _ ≤ _; omega
  generalize pn (cby rs) = PN at *
  clear hcl hV hlen hl
  go_enter Tryd.func33, Tryd.ntmps33
  go_wp2_with (first | (go_at_call 49; refine (c0 _).mono ?_; rintro e w1 ⟨rfl, hB1⟩))
  clear c0
  have HB1 := Lib.hid hB1
  clear hB1
  go_loopg [3, 11] rs.length (fun g s3 s11 wr => ∃ i T : Nat, i + g = rs.length ∧ s11 = .int .i64 i ∧ s3 = .int .i64 T ∧ Hid (T = V + (rsb (rs.take i)).length) ∧ Hid (Below w.heap.size w wr))
  case atStart => exact ⟨0, V, by omega, rfl, rfl, by show V = V + _; rw [List.take_zero]; rfl, HB1.out⟩
  case round =>
    obtain ⟨i, T, hig, rfl, rfl, hT, hb⟩ := hrel
    cases gk with
    | zero =>
      obtain rfl : i = rs.length := by omega
      have hT' := hT.out
      rw [List.take_length] at hT'
      have h1 := HTot.out
      have h2 := HPN.out
      have e1 : IntKind.i64.wrap ((T : Int) + 112) = (T : Int) + 112 := by rw [IntKind.wrap_i64]; omega
      have e2 : IntKind.i64.wrap ((T : Int) + 112 - 1) = (T : Int) + 112 - 1 := by rw [IntKind.wrap_i64]; omega
      have e3 : ((T : Int) + 112 - 1).tdiv 112 = (PN : Int) := by rw [Int.tdiv_eq_ediv_of_nonneg (by omega)]; omega
      have e4 : IntKind.i64.wrap (PN : Int) = (PN : Int) := by rw [IntKind.wrap_i64]; omega
      clear hT hT' h1 h2
      go_wp2
      go_ret
      exact ⟨by first | rfl | (congr 2), hb.out⟩
    | succ g =>
      have hi : i < rs.length := by omega
      have hiz : (i : Int) < (rs.length : Int) := by omega
      have hi0 : (0 : Int) ≤ (i : Int) := by omega
      obtain ⟨p', cap', e, hel⟩ := HV.out.on hb.out
      injection e with e1 e2 e3
      subst e1 e3
      obtain ⟨b, o, rfl, hel2⟩ := hel.resolve_left (fun e => by rw [e] at hi; simp at hi)
      obtain ⟨x, hx, hxB⟩ := hel2 i hi
      have hsu := rsb_succ rs hi
      have hle := rsb_take_le rs (i + 1)
      have hU := hxB.len
      obtain ⟨xp, xc, rfl, -⟩ := hxB
      have c1 := cN rs[i].length (by unfold maxLen at hU; have := HTot.out; have := congrArg List.length hsu; simp at this; omega)
      have hS : Hid ((rsb (rs.take (i + 1))).length = (rsb (rs.take i)).length + ((vnt rs[i].length).length + rs[i].length)) := by show _ = _; rw [hsu]; simp
      have hT2 := hT.out
      have hTot2 := HTot.out
      generalize (vnt rs[i].length).length = A at *
      generalize rs[i].length = U at *
      have hS2 := hS.out
      have e1 : IntKind.i64.wrap ((A : Int) + (U : Int)) = ((A + U : Nat) : Int) := by rw [IntKind.wrap_i64]; omega
      have e2 : IntKind.i64.wrap ((T : Int) + ((A + U : Nat) : Int)) = ((T + (A + U) : Nat) : Int) := by rw [IntKind.wrap_i64]; omega
      have hT3 : Hid (T + (A + U) = V + (rsb (rs.take (i + 1))).length) := by show _ = _; omega
      have HE2 : Hid (wrap64 ((T : Int) + ((A : Int) + (U : Int))) = (T : Int) + ((A : Int) + (U : Int))) := by show _ = _; unfold wrap64; omega
      clear hel hel2 hsu hle hU hT2 hTot2 hS2 hS
      go_wp2_with (first | (go_at_call 49; refine (c1 _).mono ?_; rintro e w2 ⟨rfl, hB2⟩))
      have HB2 := Lib.hid (hb.out.trans (hB2.mono hb.out.size))
      clear hB2
      go_roundg g
      case measure => omega
      case rel => exact ⟨i + 1, T + (A + U), by omega, by first | rfl | simp, by first | rfl | (simp; exact HE2.out), hT3, HB2⟩
set_option maxHeartbeats 1000000 in
set_option maxRecDepth 100000 in
theorem commitBytes51 (w : World) (v : Value) (rs : Rs) (hv : Bss w v rs) (hlen : (cby rs).length ≤ 4398046511104) :
    Calls Tryd.prog 51 #[v] w fun e w' => ∃ v', e = .returned v' ∧ Bts w' w.heap.size v' (cby rs) ∧ Below w.heap.size w w' := by
  have HV := Lib.hid hv
  obtain ⟨p, cap, rfl, -⟩ := hv
  have hl := rsb_len rs
  have hcl := cby_len rs
  have hnz : rs.length ≤ 4398046511104 := by omega
  have c0 := put45 rs.length (by omega)
  have cN := fun (n : Nat) hn => put45 n hn
  have hw : IntKind.u64.wrap (rs.length : Int) = (rs.length : Int) := by rw [IntKind.wrap_u64]; omega
  have HC : Hid (cby rs = vnt rs.length ++ rsb rs) := rfl
  obtain ⟨V, hV⟩ : ∃ V, vnt rs.length = V := ⟨_, rfl⟩
  rw [hV] at c0 hcl
  have HC2 : Hid (cby rs = V ++ rsb rs) := by show _ = _; rw [HC.out, hV]
  have HTot : Hid (V.length + (rsb rs).length ≤ 4398046511104) := by show _ ≤ _; omega
  generalize cby rs = CB at *
  clear hcl hV hlen hl HC
  go_enter Tryd.func51, Tryd.ntmps51
  go_wp2_with (first | (go_at_call 45; refine (c0 _).mono ?_; rintro e w1 ⟨v1, rfl, hb1, hB1⟩))
  clear c0
  have HB1 := Lib.hid hB1
  have HO1 := Lib.hid hb1
  clear hB1 hb1
  go_loopg [3, 12] rs.length (fun g s3 s12 wr => ∃ (i : Nat) (T : List UInt8), i + g = rs.length ∧ s12 = .int .i64 i ∧ Hid (T = V ++ rsb (rs.take i)) ∧ Hid (Bts wr w.heap.size s3 T) ∧ Hid (Below w.heap.size w wr))
  case atStart => exact ⟨0, V, by omega, rfl, by show V = V ++ _; rw [List.take_zero, rsb_nil, List.append_nil], HO1.out, HB1.out⟩
  case round =>
    obtain ⟨i, T, hig, rfl, hT, ho, hb⟩ := hrel
    cases gk with
    | zero =>
      obtain rfl : i = rs.length := by omega
      have hT' : Hid (T = CB) := by have := hT.out; rw [List.take_length] at this; show _ = _; rw [this, HC2.out]
      clear hT
      go_wp2
      go_ret
      exact ⟨_, rfl, by rw [← hT'.out]; exact ho.out, hb.out⟩
    | succ g =>
      have hi : i < rs.length := by omega
      have hiz : (i : Int) < (rs.length : Int) := by omega
      have hi0 : (0 : Int) ≤ (i : Int) := by omega
      obtain ⟨p', cap', e, hel⟩ := HV.out
      injection e with e1 e2 e3
      subst e1 e3
      obtain ⟨b, o, rfl, hel2⟩ := hel.resolve_left (fun e => by rw [e] at hi; simp at hi)
      obtain ⟨x, hx0, hxB⟩ := hel2 i hi
      have hx := cell_on hb.out hx0
      clear hx0
      have hsu := rsb_succ rs hi
      have hle := rsb_take_le rs (i + 1)
      have hU := hxB.len
      unfold maxLen at hU
      have HXB := Lib.hid hxB
      obtain ⟨xp, xc, rfl, -⟩ := hxB
      have c1 := cN rs[i].length (by omega)
      have hw1 : IntKind.u64.wrap (rs[i].length : Int) = (rs[i].length : Int) := by rw [IntKind.wrap_u64]; omega
      have hL : Hid (T.length + ((vnt rs[i].length).length + rs[i].length) ≤ 4398046511104) := by
        have h1 := HTot.out
        have h2 := congrArg List.length hsu
        have h3 := congrArg List.length hT.out
        simp at h2 h3
        show _ ≤ _
        omega
      have hT3 : Hid (T ++ vnt rs[i].length ++ rs[i] = V ++ rsb (rs.take (i + 1))) := by show _ = _; rw [hsu, hT.out]; simp
      generalize vnt rs[i].length = A at *
      generalize rs[i] = U at *
      have HO := Lib.hid ho.out
      clear hel hel2 hsu hle hT
      have tk : True := trivial
      go_wp2_with (first
        | (go_at_call 45; refine (c1 _).mono ?_; rintro e w2 ⟨v2, rfl, hb2, hB2⟩; have HB2 := Lib.hid hB2; have HX2 := Lib.hid hb2; clear hb2 hB2)
        | (at_builtin; clear tk; refine wpList_app rfl _ _ rfl w.heap.size _ _ T A rfl rfl (HO.out.on HB2.out) HX2.out.bs (by have := hL.out; omega) (Nat.le_trans hb.out.size HB2.out.size) ?_; intro v3 w3 hb3 hg3; have HO3 := Lib.hid hb3; have HB3 := Lib.hid ((hb.out.trans (HB2.out.mono hb.out.size)).trans ((HO.out.on HB2.out).below hg3 (Nat.le_trans hb.out.size HB2.out.size))); clear hb3 hg3)
        | (at_builtin; refine wpList_app rfl _ _ rfl w.heap.size _ _ (T ++ A) U rfl rfl HO3.out (HXB.out.on HB3.out) (by have := hL.out; simp; omega) HB3.out.size ?_; intro v4 w4 hb4 hg4; have HO4 := Lib.hid hb4; have HB4 := Lib.hid (HB3.out.trans (HO3.out.below hg4 HB3.out.size)); clear hb4 hg4))
      go_roundg g
      case measure => omega
      case rel => exact ⟨i + 1, T ++ A ++ U, by omega, by first | rfl | simp, hT3, HO4, HB4⟩
end Go.Proofs.YtnclhjjhobbbjaaDoor
namespace Go.Proofs.YtnclhjjhobbbjaaDoor
open Go.RowKit
set_option linter.unusedVariables false      -- a walk need not use every condition

/-- How things of a kind lie in memory, in none of some blocks. -/
structure Elem (α : Type) where
  E : (Nat → Prop) → World → Value → α → Prop
  kp : ∀ {X : Nat → Prop} {w w' : World} {x : Value} {a : α}, E X w x a → Kp X w w' → E X w' x a
  mono : ∀ {X Y : Nat → Prop} {w : World} {x : Value} {a : α}, E X w x a → (∀ k, k < w.heap.size → Y k → X k) → E Y w x a
  one : ∀ {X : Nat → Prop} {w : World} {x : Value} {a : α}, E X w x a → x.oneCell' = true
abbrev BsY := BsX
theorem BsY.kp {X : Nat → Prop} {w w' : World} {v : Value} {t : List UInt8} (h : BsY X w v t) (hk : Kp X w w') : BsY X w' v t := BsX.kp h hk
theorem Bs.blk_lt {w : World} {v : Value} {t : List UInt8} (h : Bs w v t) (ht : t ≠ []) {a : Addr} {n c : Nat} (e : v = .slice (some a) n c) : a.block < w.heap.size := by
  obtain ⟨p, cap, rfl, h1, h2, h3, h4⟩ := h
  obtain ⟨g, o, rfl, hc⟩ := h4.resolve_left ht
  injection e with e1 e2 e3
  injection e1 with e1
  subst e1
  have hp : 0 < t.length := by cases t with
    | nil => exact absurd rfl ht
    | cons a b => simp
  exact World.block_lt_of_cell? w _ (hc 0 _ (enc_get hp))
def bytesE : Elem (List UInt8) where
  E := BsY
  kp := BsY.kp
  mono := fun h hY => ⟨h.1, fun ht a n c e hx => h.2 ht a n c e (hY _ (h.1.blk_lt ht e) hx)⟩
  one := fun h => h.1.one
/-- A slice of such things, wherever it lies. -/
def slE {α : Type} (E : Elem α) (X : Nat → Prop) (w : World) (v : Value) (L : List α) : Prop := ∃ p cap, v = .slice p L.length cap ∧
  (L = [] ∨ ∃ g o, p = some ⟨g, o, none⟩ ∧ ¬ X g ∧ ∀ i (h : i < L.length), ∃ x, w.cell? ⟨g, o + i, none⟩ = some x ∧ E.E X w x L[i])
def sl {α : Type} (E : Elem α) : Elem (List α) where
  E := slE E
  kp := fun {X w w' x a} h hk => by
    obtain ⟨p, cap, rfl, h⟩ := h
    refine ⟨p, cap, rfl, ?_⟩
    rcases h with h | ⟨g, o, rfl, hx, h⟩
    · exact .inl h
    · refine .inr ⟨g, o, rfl, hx, fun i hi => ?_⟩
      obtain ⟨y, hy, hE⟩ := h i hi
      exact ⟨y, (World.cell?_of_block (w := w) (a := ⟨g, o + i, none⟩) (hk.block _ (World.block_lt_of_cell? w ⟨g, o + i, none⟩ hy) hx)).trans hy, E.kp hE hk⟩
  mono := fun {X Y w x a} h hY => by
    obtain ⟨p, cap, rfl, h⟩ := h
    refine ⟨p, cap, rfl, ?_⟩
    rcases h with h | ⟨g, o, rfl, hx, h⟩
    · exact .inl h
    · by_cases h0 : a = []
      · exact .inl h0
      · refine .inr ⟨g, o, rfl, fun hy => hx (hY g ?_ hy), fun i hi => ?_⟩
        · have hp : 0 < a.length := by cases a with
            | nil => exact absurd rfl h0
            | cons a b => simp
          obtain ⟨y, hy', -⟩ := h 0 hp
          exact World.block_lt_of_cell? w ⟨g, o + 0, none⟩ hy'
        · obtain ⟨y, hy, hE⟩ := h i hi
          exact ⟨y, hy, E.mono hE hY⟩
  one := fun h => by
    obtain ⟨p, cap, rfl, h⟩ := h
    rfl
theorem Elem.on {α : Type} (E : Elem α) {X : Nat → Prop} {w w' : World} {x : Value} {a : α} (h : E.E X w x a) (hb : Below w.heap.size w w') : E.E X w' x a := E.kp h (Kp.bel hb)
/-- Slices of bytes, as before. -/
theorem bss_of {X : Nat → Prop} {w : World} {v : Value} {L : List (List UInt8)} (h : (sl bytesE).E X w v L) : Bss w v L := by
  obtain ⟨p, cap, rfl, h⟩ := h
  refine ⟨p, cap, rfl, ?_⟩
  rcases h with h | ⟨g, o, rfl, hx, h⟩
  · exact .inl h
  · refine .inr ⟨g, o, rfl, fun i hi => ?_⟩
    obtain ⟨y, hy, hE⟩ := h i hi
    exact ⟨y, hy, hE.1⟩
theorem of_bss {w : World} {v : Value} {L : List (List UInt8)} (h : Bss w v L) : (sl bytesE).E (fun k => w.heap.size ≤ k) w v L := by
  obtain ⟨p, cap, rfl, h⟩ := h
  refine ⟨p, cap, rfl, ?_⟩
  rcases h with h | ⟨g, o, rfl, h⟩
  · exact .inl h
  · by_cases h0 : L = []
    · exact .inl h0
    · refine .inr ⟨g, o, rfl, ?_, fun i hi => ?_⟩
      · have hp : 0 < L.length := by cases L with
          | nil => exact absurd rfl h0
          | cons a b => simp
        obtain ⟨y, hy', -⟩ := h 0 hp
        have : g < w.heap.size := World.block_lt_of_cell? w ⟨g, o + 0, none⟩ hy'
        show ¬ (w.heap.size ≤ g)
        omega
      · obtain ⟨y, hy, hE⟩ := h i hi
        exact ⟨y, hy, hE, fun ht a n c e => by have := hE.blk_lt ht e; show ¬ (w.heap.size ≤ a.block); omega⟩
/-- An element of a slice. -/
theorem sl_at {α : Type} {E : Elem α} {X : Nat → Prop} {w : World} {v : Value} {L : List α} (h : (sl E).E X w v L) {i : Nat} (hi : i < L.length) : ∃ g o cap x, v = .slice (some ⟨g, o, none⟩) L.length cap ∧ w.cell? ⟨g, o + i, none⟩ = some x ∧ E.E X w x L[i] := by
  obtain ⟨p, cap, rfl, h⟩ := h
  obtain ⟨g, o, rfl, -, h⟩ := h.resolve_left (fun e => by rw [e] at hi; simp at hi)
  obtain ⟨x, hx, hE⟩ := h i hi
  exact ⟨g, o, cap, x, rfl, hx, hE⟩
theorem sl_hdr {α : Type} {E : Elem α} {X : Nat → Prop} {w : World} {v : Value} {L : List α} (h : (sl E).E X w v L) : ∃ p cap, v = .slice p L.length cap := by
  obtain ⟨p, cap, rfl, -⟩ := h
  exact ⟨p, cap, rfl⟩

/-! ### A row of one's own, of things that don't touch it -/

def RowG {α : Type} (T : TypeId) (E : Elem α) (w : World) (base : Nat) (v : Value) (L : List α) : Prop :=
  ∃ vs : List Value, w.ownsRow base T 1 v L.length vs ∧ ∀ i (h : i < L.length), ∃ x, vs[i]? = some x ∧ E.E (fun k => v.ownBlock = some k) w x L[i]
theorem rowG_nil {α : Type} (T : TypeId) (E : Elem α) (w : World) (base : Nat) : RowG T E w base (.slice none 0 0) ([] : List α) := ⟨[], World.ownsRow_nil _ _ _ _, fun i h => absurd h (Nat.not_lt_zero _)⟩
theorem RowG.on {α : Type} {T : TypeId} {E : Elem α} {w w' : World} {base : Nat} {v : Value} {L : List α} (h : RowG T E w base v L) (hb : Below w.heap.size w w') : RowG T E w' base v L := by
  obtain ⟨vs, ho, he⟩ := h
  refine ⟨vs, own_bel ho hb, fun i hi => ?_⟩
  obtain ⟨x, hx, hE⟩ := he i hi
  exact ⟨x, hx, E.on hE hb⟩
theorem RowG.hdr {α : Type} {T : TypeId} {E : Elem α} {w : World} {base : Nat} {v : Value} {L : List α} (h : RowG T E w base v L) : ∃ p c, v = .slice p L.length c := by
  obtain ⟨vs, ho, -⟩ := h
  rcases ho.2 with ⟨rfl, h0⟩ | ⟨g, cap, cur, rfl, -⟩
  · exact ⟨none, 0, by rw [h0]⟩
  · exact ⟨_, cap, rfl⟩
/-- As a slice, wherever it lies. -/
theorem RowG.sl {α : Type} {T : TypeId} {E : Elem α} {w : World} {base : Nat} {v : Value} {L : List α} (h : RowG T E w base v L) : (sl E).E (fun _ => False) w v L := by
  obtain ⟨vs, ho, he⟩ := h
  rcases ho.2 with ⟨rfl, h0⟩ | ⟨g, cap, cur, rfl, hbg, hg, hnc, hcm, hcs, htake⟩
  · have : L = [] := List.eq_nil_of_length_eq_zero h0
    subst this
    exact ⟨none, 0, rfl, .inl rfl⟩
  · refine ⟨_, cap, rfl, .inr ⟨g, 0, rfl, fun h => h, fun i hi => ?_⟩⟩
    obtain ⟨x, hx, hE⟩ := he i hi
    have := ho.cells (g := g) rfl i x hx
    rw [Go.WideShapes.add_plain] at this
    exact ⟨x, this, E.mono hE (fun _ _ h => h.elim)⟩
theorem rowG_app {α : Type} {ops : Array Oper} {rest : List Oper} {o : Oper} {a : Act} {w : World} {Q : Exit → Act → World → Prop} (T : TypeId) (ST : TypeId) (E : Elem α) (hst : Tryd.prog.underlying ST = some (.slice T)) (i0 : TypeInfo) (hinf : Tryd.prog.info? T = some i0) (z : Value) (hz0 : i0.zero = some z) (hz1 : i0.size = 1) (hz2 : i0.bytes = 24) (hzc : z.cells.size = 1)
    (hgd : o.guard = none) (s x : Operand)
    (ho : o.op = .call { callee := .builtin .append, args := #[s, x], argTypes := #[ST, ST] }) (base g0 : Nat) (v y : Value) (L : List α) (u : α) (hs : a.eval s = v) (hx : a.eval x = .slice (some ⟨g0, 0, none⟩) 1 1)
    (h : RowG T E w base v L) (hu : E.E (fun k => v.ownBlock = some k) w y u) (hy : w.cell? ⟨g0, 0, none⟩ = some y) (hbase : base ≤ w.heap.size) (hlen : L.length + 1 ≤ 4398046511104)
    (hK : ∀ g cap w', RowG T E w' base (.slice (some ⟨g, 0, none⟩) (L.length + 1) cap) (L ++ [u]) → w.grownBy w' v.ownBlock → Below base w w' → wpList Tryd.prog ops Q rest (a.put o.dst (.slice (some ⟨g, 0, none⟩) (L.length + 1) cap)) w') : wpList Tryd.prog ops Q (o :: rest) a w :=
  wpList_plain hgd fun _ hk => by
    obtain ⟨vs, hown, he⟩ := h
    have hvs : vs.length = L.length := by have := hown.1; omega
    obtain ⟨g, cap, w', hr, hown', hg, hat, hlt⟩ := run_append_lies (P := Tryd.prog) w ST o.type base T i0 z 1 24 hst hinf hz0 hz1 hz2 hzc (by decide) v L.length vs hown ⟨g0, 0, none⟩ 1 1 [y] rfl
      (fun j q hq => by
        cases j with
        | zero => simp at hq; subst hq; rw [Go.WideShapes.add_plain]; exact hy
        | succ j => simp at hq)
      (fun q hq => by simp at hq; subst hq; exact E.one hu) (by decide) (by unfold maxLen; omega) (by omega) hbase w.heap.size rfl
    have hB : Below base w w' := (Below.refl base w).grown hg hbase (fun j e => (World.ownsRow.lt hown j e).1)
    have kp : Kp (fun k => v.ownBlock = some k) w w' := ⟨hg.os, hg.tape, hg.output, hg.size, fun k hk hx => hg.block k hk (fun e => hx e.symm)⟩
    have hmv : ∀ {q : Value} {b : α}, E.E (fun k => v.ownBlock = some k) w q b → E.E (fun k => (Value.slice (some ⟨g, 0, none⟩) (L.length + 1) cap).ownBlock = some k) w' q b := fun {q b} hq => by
      have h1 : E.E (fun k => v.ownBlock = some k ∨ k = g) w q b := E.mono hq (fun k hk hx => by
        rcases hx with hx | hx
        · exact hx
        · rcases hat with hat | hat
          · rw [hx]; exact hat
          · omega)
      have h2 := E.kp h1 ⟨kp.os, kp.tape, kp.output, kp.size, fun k hk hx => kp.block k hk (fun e => hx (.inl e))⟩
      refine E.mono h2 (fun k hk hx => .inr ?_)
      exact (Option.some.inj (show some g = some k from hx)).symm
    have hR : RowG T E w' base (.slice (some ⟨g, 0, none⟩) (L.length + 1) cap) (L ++ [u]) := by
      refine ⟨vs ++ [y], by rw [List.length_append, List.length_singleton]; exact hown', fun i hi => ?_⟩
      rw [List.length_append, List.length_singleton] at hi
      by_cases hl : i < L.length
      · obtain ⟨q, hq, hE⟩ := he i hl
        exact ⟨q, by rw [List.getElem?_append_left (by omega)]; exact hq, by rw [List.getElem_append_left hl]; exact hmv hE⟩
      · obtain rfl : i = L.length := by omega
        exact ⟨y, by rw [List.getElem?_append_right (by omega), hvs, Nat.sub_self]; rfl, by simpa using hmv hu⟩
    unfold Oper.wp execOp
    simp only [ho, resolve, invoke, builtin, Sem.run_bind, Sem.run_pure, Result.andThen_ok, List.map_toArray, List.map_cons, List.map_nil, hs, hx, hr]
    exact hk _ _ (hK g cap w' hR hg hB)
theorem info43 : (Tryd.prog.info? 43).map (fun i => (i.zero, i.size, i.bytes)) = some (some (.slice none 0 0), 1, 24) := by kernel_rfl
theorem info35 : (Tryd.prog.info? 35).map (fun i => (i.zero, i.size, i.bytes)) = some (some (.slice none 0 0), 1, 24) := by kernel_rfl
theorem info33 : (Tryd.prog.info? 33).map (fun i => (i.zero, i.size, i.bytes)) = some (some (.slice none 0 0), 1, 24) := by kernel_rfl
end Go.Proofs.YtnclhjjhobbbjaaDoor
namespace Go.Proofs.YtnclhjjhobbbjaaDoor
open Go.ChangeShapes Go.WideShapes Go.ChangeAt Go.RowKit

theorem rsb_le : ∀ rs : Rs, (rsb rs).length ≤ 10 * rs.length + rs.flatten.length
  | [] => by simp [rsb_nil]
  | r :: rs => by
    have h1 := rsb_le rs
    have h2 := vnt_le r.length
    rw [rsb_cons]
    simp only [List.length_append, List.length_cons, List.flatten_cons]
    omega
/-- Records of no great bulk. -/
def Few (c : Rs) : Prop := c.length ≤ 1048576 ∧ c.flatten.length ≤ 1048576
theorem mem_flat_len {r : List UInt8} : ∀ {rs : Rs}, r ∈ rs → r.length ≤ rs.flatten.length
  | [], h => by cases h
  | a :: rs, h => by
    simp only [List.flatten_cons, List.length_append]
    rcases List.mem_cons.1 h with rfl | h
    · omega
    · have := mem_flat_len h
      omega
theorem Few.len {c : Rs} (h : Few c) : (cby c).length ≤ 4398046511104 := by
  have h1 := h.1
  have h2 := h.2
  have h3 := rsb_le c
  have h4 := vnt_le c.length
  rw [cby_len]
  omega
theorem Few.ok {c : Rs} (h : Few c) : okC c := ⟨by have := h.1; omega, fun r hr => by have := mem_flat_len hr; have := h.2; omega⟩
theorem bulk_mem {H : Type} : ∀ (E : List (DataW H)) (i : Nat) (h : i < E.length), Rows.uptoBulk E[i] ≤ Rows.uptoBulkAll E
  | [], i, h => by simp at h
  | x :: E, 0, h => by simp only [List.getElem_cons_zero, Rows.uptoBulkAll]; omega
  | x :: E, i + 1, h => by
    have := bulk_mem E i (by simpa using h)
    simp only [List.getElem_cons_succ, Rows.uptoBulkAll]
    omega
set_option maxRecDepth 100000 in
theorem open_bssU {H : Type} {enc : TypeId × Value → H} {W : World} (n : Nat) (cs : List Value) (x : DataW H × List MemPlace) (h : DataW.trod enc Tryd.prog W 0 (fun _ => true) true n 35 cs = some x) :
    ∃ (v : Value) (L : List (List UInt8)), cs = [v] ∧ Bss W v L ∧ L.length ≤ Rows.uptoBulk x.1 ∧ L.flatten.length ≤ Rows.uptoBulk x.1 := by
  rcases DataW.trod_slice Tryd.underlying35 h with ⟨hcs, -⟩ | ⟨a, len, cap, elems, rest, m, rfl, hcs, hx, hb, hl, hm, hlen, hel, hsp, hns⟩
  · exact ⟨_, [], hcs, ⟨none, 0, rfl, .inl rfl⟩, by simp, by simp⟩
  · subst hx
    rw [cells22] at hel
    have hr := bulk_slice (elems.map (·.1)) (rest.map (·.1))
    rw [List.length_map, hlen] at hr
    have hadd : ∀ n, (a.add n).block = a.block ∧ (a.add n).off = a.off + n := by
      intro n; unfold Addr.add; split <;> simp_all
    have each : ∀ i (hi : i < len), ∃ o : List UInt8, (i = 0 → a.spot = none) ∧ (∃ x, W.cell? ⟨a.block, a.off + i, none⟩ = some x ∧ Bs W x o) ∧ o.length ≤ Rows.uptoBulk ((elems.map (·.1))[i]'(by rw [List.length_map, hlen]; exact hi)) := by
      intro i hi
      have he := hel i hi
      rw [List.getElem?_eq_getElem (by omega), Option.bind_eq_some_iff] at he
      obtain ⟨ci, hci, htr⟩ := he
      obtain ⟨x, o, rfl, hB, hbl⟩ := open_bytesU m ci _ htr
      obtain ⟨h1, h2, -⟩ := cells_range hci (by omega)
      rw [(hadd (i * 1)).1, (hadd (i * 1)).2] at h2
      refine ⟨o, fun hi0 => ?_, ⟨x, ?_, hB⟩, by rw [List.getElem_map]; exact hbl⟩
      · subst hi0
        simpa [Addr.add] using h1
      · have := h2 0 _ rfl
        simpa using this
    by_cases h0 : len = 0
    · subst h0
      exact ⟨_, [], hcs, ⟨some a, cap, rfl, .inl rfl⟩, by simp, by simp⟩
    · obtain ⟨o0, hs0, -⟩ := each 0 (by omega)
      have hsn := hs0 rfl
      let g : Nat → List UInt8 := fun i => if h : i < len then (each i h).choose else o0
      have hg : ∀ i (h : i < len), (∃ x, W.cell? ⟨a.block, a.off + i, none⟩ = some x ∧ Bs W x (g i)) ∧ (g i).length ≤ Rows.uptoBulk ((elems.map (·.1))[i]'(by rw [List.length_map, hlen]; exact h)) := fun i h => by
        have hs := (each i h).choose_spec.2
        have e : g i = (each i h).choose := dif_pos h
        rw [e]
        exact hs
      refine ⟨_, (List.range len).map g, hcs, ⟨some a, cap, by simp, .inr ⟨a.block, a.off, ?_, fun i hi => ?_⟩⟩, by rw [List.length_map, List.length_range]; exact hr, ?_⟩
      · obtain ⟨b, o, sp⟩ := a
        have : sp = none := hsn
        subst this
        rfl
      · simp only [List.length_map, List.length_range] at hi
        simp only [List.getElem_map, List.getElem_range]
        exact (hg i hi).1
      · have hf := bulk_flat (elems.map (·.1)) ((List.range len).map g) (by simp [hlen]) (fun i hi hi' => by
          simp only [List.length_map, List.length_range] at hi
          rw [List.getElem_map, List.getElem_range]
          exact (hg i hi).2)
        simp only [Rows.uptoBulk]
        omega
theorem cells35 : Tryd.prog.cellsOf 35 = 1 := by kernel_rfl
set_option maxRecDepth 100000 in
theorem arg_b3U {H : Type} {enc : TypeId × Value → H} {W : World} {base : Nat} {v : Value} {d : DataW H} {ps : List MemPlace} (hval : Value.okWide Tryd.prog W .any base 33 v) (h : DataW.Trod enc Tryd.prog W 0 (fun _ => true) true 33 v d ps) :
    ∃ C : Cs, (sl (sl bytesE)).E (fun k => W.heap.size ≤ k) W v C ∧ C.length ≤ Rows.uptoBulk d ∧ ∀ i (h : i < C.length), C[i].length ≤ Rows.uptoBulk d ∧ C[i].flatten.length ≤ Rows.uptoBulk d := by
  obtain ⟨a0, len0, cap0, rfl⟩ := okWide_slice Tryd.underlying33 hval
  obtain ⟨n, hn⟩ := h
  rcases DataW.trod_slice Tryd.underlying33 hn with ⟨hcs, -⟩ | ⟨a, len, cap, elems, rest, m, rfl, hcs, hx, hb, hl, hm, hlen, hel, hsp, hns⟩
  · simp [Value.cells] at hcs
    obtain ⟨rfl, rfl, rfl⟩ := hcs
    exact ⟨[], ⟨none, 0, rfl, .inl rfl⟩, by simp, fun i hi => (by simp at hi)⟩
  · simp [Value.cells] at hcs
    obtain ⟨rfl, rfl, rfl⟩ := hcs
    simp only [Prod.mk.injEq] at hx
    obtain ⟨rfl, rfl⟩ := hx
    rw [cells35] at hel
    have hr := bulk_slice (elems.map (·.1)) (rest.map (·.1))
    rw [List.length_map, hlen] at hr
    have hadd : ∀ n, (a.add n).block = a.block ∧ (a.add n).off = a.off + n := by
      intro n; unfold Addr.add; split <;> simp_all
    have each : ∀ i (hi : i < len0), ∃ o : Rs, (i = 0 → a.spot = none) ∧ (∃ x, W.cell? ⟨a.block, a.off + i, none⟩ = some x ∧ Bss W x o) ∧ o.length ≤ Rows.uptoBulk (.slice (elems.map (·.1)) (rest.map (·.1))) ∧ o.flatten.length ≤ Rows.uptoBulk (.slice (elems.map (·.1)) (rest.map (·.1))) := by
      intro i hi
      have he := hel i hi
      rw [List.getElem?_eq_getElem (by omega), Option.bind_eq_some_iff] at he
      obtain ⟨ci, hci, htr⟩ := he
      obtain ⟨x, o, rfl, hB, hb1, hb2⟩ := open_bssU m ci _ htr
      obtain ⟨h1, h2, -⟩ := cells_range hci (by omega)
      rw [(hadd (i * 1)).1, (hadd (i * 1)).2] at h2
      have hle : Rows.uptoBulk (elems[i]'(by omega)).1 ≤ Rows.uptoBulk (.slice (elems.map (·.1)) (rest.map (·.1))) := by
        have hm := bulk_mem (elems.map (·.1)) i (by rw [List.length_map, hlen]; exact hi)
        rw [List.getElem_map] at hm
        simp only [Rows.uptoBulk]
        omega
      refine ⟨o, fun hi0 => ?_, ⟨x, ?_, hB⟩, Nat.le_trans hb1 hle, Nat.le_trans hb2 hle⟩
      · subst hi0
        simpa [Addr.add] using h1
      · have := h2 0 _ rfl
        simpa using this
    by_cases h0 : len0 = 0
    · subst h0
      exact ⟨[], ⟨some a, cap0, rfl, .inl rfl⟩, by simp, fun i hi => (by simp at hi)⟩
    · obtain ⟨o0, hs0, hc0, -⟩ := each 0 (by omega)
      have hsn := hs0 rfl
      let g : Nat → Rs := fun i => if h : i < len0 then (each i h).choose else o0
      have hg : ∀ i (h : i < len0), (∃ x, W.cell? ⟨a.block, a.off + i, none⟩ = some x ∧ Bss W x (g i)) ∧ (g i).length ≤ Rows.uptoBulk (.slice (elems.map (·.1)) (rest.map (·.1))) ∧ (g i).flatten.length ≤ Rows.uptoBulk (.slice (elems.map (·.1)) (rest.map (·.1))) := fun i h => by
        have hs := (each i h).choose_spec.2
        have e : g i = (each i h).choose := dif_pos h
        rw [e]
        exact hs
      refine ⟨(List.range len0).map g, ⟨some a, cap0, by simp, .inr ⟨a.block, a.off, ?_, ?_, fun i hi => ?_⟩⟩, by rw [List.length_map, List.length_range]; exact hr, fun i hi => ?_⟩
      · obtain ⟨b, o, sp⟩ := a
        have : sp = none := hsn
        subst this
        rfl
      · obtain ⟨x, hx, -⟩ := hc0
        have := World.block_lt_of_cell? W _ hx
        show ¬ (W.heap.size ≤ a.block)
        simp only at this
        omega
      · simp only [List.length_map, List.length_range] at hi
        simp only [List.getElem_map, List.getElem_range]
        obtain ⟨x, hx, hB⟩ := (hg i hi).1
        exact ⟨x, hx, of_bss hB⟩
      · simp only [List.length_map, List.length_range] at hi
        simp only [List.getElem_map, List.getElem_range]
        exact (hg i hi).2
end Go.Proofs.YtnclhjjhobbbjaaDoor
namespace Go.Proofs.YtnclhjjhobbbjaaDoor
open Go.ChangeShapes Go.WideShapes Go.ChangeAt Go.RowKit

theorem cells38 : Tryd.prog.cellsOf 38 = 6 := by kernel_rfl
theorem cells4 : Tryd.prog.cellsOf 4 = 1 := by kernel_rfl
theorem six_list {α : Type} {l : List α} (h : l.length = 6) : ∃ a b c d e f, l = [a, b, c, d, e, f] := by
  match l, h with
  | [a, b, c, d, e, f], _ => exact ⟨a, b, c, d, e, f, rfl⟩
/-- An operation as plain data. -/
structure Opr where
  x : Int
  rv : Value
  r : Rs
  n : Int
  t : Int
  kp : Option Addr
  kn : Nat
  kc : Nat
  bits : Int
def Opr.cells (o : Opr) : List Value := [.int .i64 o.x, o.rv, .int .i64 o.n, .int .i64 o.t, .slice o.kp o.kn o.kc, .int .u32 o.bits]
structure Opr.ok (W : World) (B : Nat) (o : Opr) : Prop where
  bs : Bss W o.rv o.r
  l1 : o.r.length ≤ B
  l2 : o.r.flatten.length ≤ B
set_option maxRecDepth 100000 in
theorem open_op {H : Type} {enc : TypeId × Value → H} {W : World} (n : Nat) (cs : List Value) (x : DataW H × List MemPlace) (h : DataW.trod enc Tryd.prog W 0 (fun _ => true) true n 38 cs = some x) :
    ∃ o : Opr, cs = o.cells ∧ o.ok W (Rows.uptoBulk x.1) := by
  obtain ⟨xs, m, rfl, rfl, hl, hxl, hf⟩ := DataW.trod_struct Tryd.underlying38 h
  rw [cells38] at hl
  obtain ⟨c0, c1, c2, c3, c4, c5, rfl⟩ := six_list hl
  obtain ⟨x0, x1, x2, x3, x4, x5, rfl⟩ := six_list (show xs.length = 6 from hxl)
  have f0 := hf 0 _ rfl
  have f1 := hf 1 _ rfl
  have f2 := hf 2 _ rfl
  have f3 := hf 3 _ rfl
  have f4 := hf 4 _ rfl
  have f5 := hf 5 _ rfl
  simp only [List.getElem?_cons_zero, List.getElem?_cons_succ] at f0 f1 f2 f3 f4 f5
  obtain ⟨k0, h0, rfl, w0⟩ := DataW.trod_int Tryd.underlying3 f0
  obtain ⟨v1, L, h1, hB, hb1, hb2⟩ := open_bssU _ _ _ f1
  obtain ⟨k2, h2, rfl, w2⟩ := DataW.trod_int Tryd.underlying3 f2
  obtain ⟨k3, h3, rfl, w3⟩ := DataW.trod_int Tryd.underlying3 f3
  obtain ⟨k5, h5, rfl, w5⟩ := DataW.trod_int Tryd.underlying36 f5
  have h4 : ∃ p n c, c4 = .slice p n c := by
    rcases DataW.trod_slice Tryd.underlying23 f4 with ⟨hcs, -⟩ | ⟨a, len, cap, elems, rest, m, rfl, hcs, -⟩
    · have hcs' : [c4] = [Value.slice none 0 0] := hcs
      injection hcs' with e
      exact ⟨_, _, _, e⟩
    · have hcs' : [c4] = [Value.slice (some a) len cap] := hcs
      injection hcs' with e
      exact ⟨_, _, _, e⟩
  obtain ⟨kp, kn, kc, rfl⟩ := h4
  have e0 : [c0] = [Value.int .i64 k0] := h0
  have e1 : [c1] = [v1] := h1
  have e2 : [c2] = [Value.int .i64 k2] := h2
  have e3 : [c3] = [Value.int .i64 k3] := h3
  have e5 : [c5] = [Value.int .u32 k5] := h5
  injection e0 with e0; injection e1 with e1; injection e2 with e2; injection e3 with e3; injection e5 with e5
  subst e0 e1 e2 e3 e5
  refine ⟨⟨k0, _, L, k2, k3, kp, kn, kc, k5⟩, rfl, ⟨hB, ?_, ?_⟩⟩
  · refine Nat.le_trans hb1 ?_
    simp only [List.map_cons, List.map_nil, Rows.uptoBulk, Rows.uptoBulkAll]
    omega
  · refine Nat.le_trans hb2 ?_
    simp only [List.map_cons, List.map_nil, Rows.uptoBulk, Rows.uptoBulkAll]
    omega
/-- Operations in memory. -/
structure OpsAt (w : World) (v : Value) (l : List Opr) (B : Nat) : Prop where
  at_ : ∃ p c, v = .slice p l.length c ∧ (l = [] ∨ ∃ b o, p = some ⟨b, o, none⟩ ∧ ∀ i (hi : i < l.length), w.rangeAt b (o + i * 6) l[i].cells)
  ok : ∀ i (hi : i < l.length), l[i].ok w B
  len : l.length ≤ B
set_option maxRecDepth 100000 in
theorem arg_ops {H : Type} {enc : TypeId × Value → H} {W : World} {base : Nat} {v : Value} {d : DataW H} {ps : List MemPlace} (hval : Value.okWide Tryd.prog W .any base 22 v) (h : DataW.Trod enc Tryd.prog W 0 (fun _ => true) true 22 v d ps) :
    ∃ l : List Opr, OpsAt W v l (Rows.uptoBulk d) := by
  obtain ⟨a0, len0, cap0, rfl⟩ := okWide_slice Tryd.underlying22 hval
  obtain ⟨n, hn⟩ := h
  rcases DataW.trod_slice Tryd.underlying22 hn with ⟨hcs, -⟩ | ⟨a, len, cap, elems, rest, m, rfl, hcs, hx, hb, hl, hm, hlen, hel, hsp, hns⟩
  · simp [Value.cells] at hcs
    obtain ⟨rfl, rfl, rfl⟩ := hcs
    exact ⟨[], ⟨⟨none, 0, rfl, .inl rfl⟩, fun i hi => (by simp at hi), by simp⟩⟩
  · simp [Value.cells] at hcs
    obtain ⟨rfl, rfl, rfl⟩ := hcs
    simp only [Prod.mk.injEq] at hx
    obtain ⟨rfl, rfl⟩ := hx
    rw [cells38] at hel
    have hr := bulk_slice (elems.map (·.1)) (rest.map (·.1))
    rw [List.length_map, hlen] at hr
    have hadd : ∀ n, (a.add n).block = a.block ∧ (a.add n).off = a.off + n := by
      intro n; unfold Addr.add; split <;> simp_all
    have each : ∀ i, i < len0 → ∃ o : Opr, ((i = 0 → a.spot = none) ∧ W.rangeAt a.block (a.off + i * 6) o.cells) ∧ o.ok W (Rows.uptoBulk (.slice (elems.map (·.1)) (rest.map (·.1)))) := by
      intro i hi
      have he := hel i hi
      rw [List.getElem?_eq_getElem (by omega), Option.bind_eq_some_iff] at he
      obtain ⟨ci, hci, htr⟩ := he
      obtain ⟨o, rfl, hok⟩ := open_op m ci _ htr
      obtain ⟨h1, h2, -⟩ := cells_range hci (by omega)
      rw [(hadd (i * 6)).1, (hadd (i * 6)).2] at h2
      have hle : Rows.uptoBulk (elems[i]'(by omega)).1 ≤ Rows.uptoBulk (.slice (elems.map (·.1)) (rest.map (·.1))) := by
        have hm := bulk_mem (elems.map (·.1)) i (by rw [List.length_map, hlen]; exact hi)
        rw [List.getElem_map] at hm
        simp only [Rows.uptoBulk]
        omega
      refine ⟨o, ⟨fun hi0 => ?_, h2⟩, ⟨hok.bs, Nat.le_trans hok.l1 hle, Nat.le_trans hok.l2 hle⟩⟩
      subst hi0
      simpa [Addr.add] using h1
    by_cases h0 : len0 = 0
    · subst h0
      exact ⟨[], ⟨⟨some a, cap0, rfl, .inl rfl⟩, fun i hi => (by simp at hi), by simp⟩⟩
    · obtain ⟨o0, ⟨hs0, hr0⟩, -⟩ := each 0 (by omega)
      have hsn := hs0 rfl
      let g : Nat → Opr := fun i => if h : i < len0 then (each i h).choose else o0
      have hg : ∀ i (h : i < len0), W.rangeAt a.block (a.off + i * 6) (g i).cells ∧ (g i).ok W (Rows.uptoBulk (.slice (elems.map (·.1)) (rest.map (·.1)))) := fun i h => by
        have e : g i = (each i h).choose := dif_pos h
        rw [e]
        exact ⟨(each i h).choose_spec.1.2, (each i h).choose_spec.2⟩
      refine ⟨(List.range len0).map g, ⟨⟨some a, cap0, by simp, .inr ⟨a.block, a.off, ?_, fun i hi => ?_⟩⟩, fun i hi => ?_, by rw [List.length_map, List.length_range]; exact hr⟩⟩
      · obtain ⟨b, o, sp⟩ := a
        have : sp = none := hsn
        subst this
        rfl
      · simp only [List.length_map, List.length_range] at hi
        simp only [List.getElem_map, List.getElem_range]
        exact (hg i hi).1
      · simp only [List.length_map, List.length_range] at hi
        simp only [List.getElem_map, List.getElem_range]
        exact (hg i hi).2
set_option maxRecDepth 100000 in
/-- An argument of the type of truths. -/
theorem arg_bools {H : Type} {enc : TypeId × Value → H} {W : World} {base : Nat} {v : Value} {d : DataW H} {ps : List MemPlace} (hval : Value.okWide Tryd.prog W .any base 23 v) (h : DataW.Trod enc Tryd.prog W 0 (fun _ => true) true 23 v d ps) :
    ∃ (kb : List Bool) (p : Option Addr) (c : Nat), v = .slice p kb.length c ∧ kb.length ≤ Rows.uptoBulk d ∧ (kb = [] ∨ ∃ b o, p = some ⟨b, o, none⟩ ∧ b < W.heap.size ∧ ∀ i (hi : i < kb.length), W.cell? ⟨b, o + i, none⟩ = some (.bool kb[i])) := by
  obtain ⟨a0, len0, cap0, rfl⟩ := okWide_slice Tryd.underlying23 hval
  obtain ⟨n, hn⟩ := h
  rcases DataW.trod_slice Tryd.underlying23 hn with ⟨hcs, -⟩ | ⟨a, len, cap, elems, rest, m, rfl, hcs, hx, hb, hl, hm, hlen, hel, hsp, hns⟩
  · simp [Value.cells] at hcs
    obtain ⟨rfl, rfl, rfl⟩ := hcs
    exact ⟨[], none, 0, rfl, by simp, .inl rfl⟩
  · simp [Value.cells] at hcs
    obtain ⟨rfl, rfl, rfl⟩ := hcs
    simp only [Prod.mk.injEq] at hx
    obtain ⟨rfl, rfl⟩ := hx
    rw [cells4] at hel
    have hr := bulk_slice (elems.map (·.1)) (rest.map (·.1))
    rw [List.length_map, hlen] at hr
    have hadd : ∀ n, (a.add n).block = a.block ∧ (a.add n).off = a.off + n := by
      intro n; unfold Addr.add; split <;> simp_all
    have each : ∀ i, i < len0 → ∃ x : Bool, (i = 0 → a.spot = none) ∧ W.cell? ⟨a.block, a.off + i, none⟩ = some (.bool x) := by
      intro i hi
      have he := hel i hi
      rw [List.getElem?_eq_getElem (by omega), Option.bind_eq_some_iff] at he
      obtain ⟨ci, hci, htr⟩ := he
      obtain ⟨x, rfl, -⟩ := DataW.trod_bool Tryd.underlying4 htr
      obtain ⟨h1, h2, -⟩ := cells_range hci (by omega)
      rw [(hadd (i * 1)).1, (hadd (i * 1)).2] at h2
      refine ⟨x, fun hi0 => ?_, ?_⟩
      · subst hi0
        simpa [Addr.add] using h1
      · have := h2 0 _ rfl
        simpa using this
    by_cases h0 : len0 = 0
    · subst h0
      exact ⟨[], some a, cap0, rfl, by simp, .inl rfl⟩
    · obtain ⟨o0, hs0, hr0⟩ := each 0 (by omega)
      have hsn := hs0 rfl
      let g : Nat → Bool := fun i => if h : i < len0 then (each i h).choose else o0
      have hg : ∀ i (h : i < len0), W.cell? ⟨a.block, a.off + i, none⟩ = some (.bool (g i)) := fun i h => by
        show W.cell? ⟨a.block, a.off + i, none⟩ = some (.bool (if h : i < len0 then (each i h).choose else o0))
        rw [dif_pos h]; exact (each i h).choose_spec.2
      refine ⟨(List.range len0).map g, some a, cap0, by simp, by rw [List.length_map, List.length_range]; exact hr, .inr ⟨a.block, a.off, ?_, ?_, fun i hi => ?_⟩⟩
      · obtain ⟨b, o, sp⟩ := a
        have : sp = none := hsn
        subst this
        rfl
      · have := World.block_lt_of_cell? W ⟨a.block, a.off + 0, none⟩ hr0
        exact this
      · simp only [List.length_map, List.length_range] at hi
        simp only [List.getElem_map, List.getElem_range]
        exact hg i hi
end Go.Proofs.YtnclhjjhobbbjaaDoor
