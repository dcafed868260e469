/-
  A log as plain data, how one lies in memory, and its small functions.
  The small methods of a log.
  What Frames and commitBytes of package wal do, and commit of the document.
-/
import Derived.Test.YtnclhjjhobbbjaaDoorZCtmRctBsxNumpNumTFuse
import Derived.Test.YtnclhjjhobbbjaaDoorZOpmPutAppJnVntWm
namespace Go.Proofs.YtnclhjjhobbbjaaDoor
open Go.RowKit Go.Maps
set_option linter.unusedVariables false      -- a walk need not use every condition

/-! ### What is kept -/

/-- All that lay in w but the blocks of X lies so in w'. -/
structure Kp (X : Nat → Prop) (w w' : World) : Prop where
  os : w'.os = w.os
  tape : w'.tape = w.tape
  output : w'.output = w.output
  size : w.heap.size ≤ w'.heap.size
  block : ∀ k, k < w.heap.size → ¬ X k → w'.heap[k]? = w.heap[k]?
theorem Kp.refl (X : Nat → Prop) (w : World) : Kp X w w := ⟨rfl, rfl, rfl, Nat.le_refl _, fun _ _ _ => rfl⟩
theorem Kp.trans {X : Nat → Prop} {a b c : World} (h : Kp X a b) (k : Kp X b c) : Kp X a c :=
  ⟨k.os.trans h.os, k.tape.trans h.tape, k.output.trans h.output, Nat.le_trans h.size k.size, fun i hi hx => (k.block i (Nat.lt_of_lt_of_le hi h.size) hx).trans (h.block i hi hx)⟩
theorem Kp.bel {X : Nat → Prop} {w w' : World} (h : Below w.heap.size w w') : Kp X w w' := ⟨h.os, h.tape, h.output, h.size, fun k hk _ => h.block k hk⟩
theorem Kp.kept {X : Nat → Prop} {d pb mb : Nat} {w w' : World} (h : Kept d pb mb w w') (hd : X d) (hp : X pb) (hm : X mb) : Kp X w w' :=
  ⟨h.os, h.tape, h.output, h.size, fun k hk hx => h.block k hk (fun e => hx (e ▸ hd)) (fun e => hx (e ▸ hp)) (fun e => hx (e ▸ hm))⟩
theorem Kp.grown {X : Nat → Prop} {w w' : World} {r : Nat} (h : w.grownBy w' (some r)) (hr : X r) : Kp X w w' :=
  ⟨h.os, h.tape, h.output, h.size, fun k hk hx => h.block k hk (fun e => hx (by injection e with e; exact e ▸ hr))⟩
theorem Kp.below {X : Nat → Prop} {w w' : World} {B : Nat} (h : Kp X w w') (hX : ∀ k, X k → B ≤ k) (hB : B ≤ w.heap.size) : Below B w w' :=
  ⟨h.os, h.tape, h.output, h.size, fun k hk => h.block k (by omega) (fun hx => by have := hX k hx; omega)⟩
theorem Kp.mono {X Y : Nat → Prop} {w w' : World} (h : Kp X w w') (hxy : ∀ k, X k → Y k) : Kp Y w w' := ⟨h.os, h.tape, h.output, h.size, fun k hk hy => h.block k hk (fun hx => hy (hxy k hx))⟩

/-- Bytes in none of these blocks. -/
def BsX (X : Nat → Prop) (w : World) (v : Value) (t : List UInt8) : Prop := Bs w v t ∧ (t ≠ [] → ∀ a n c, v = .slice (some a) n c → ¬ X a.block)
theorem range_kp {X : Nat → Prop} {w w' : World} {g o : Nat} {cs : List Value} (h : w.rangeAt g o cs) (hk : Kp X w w') (hx : ¬ X g) : w'.rangeAt g o cs := fun j v hv => by
  have h1 := h j v hv
  have hlt := World.block_lt_of_cell? w ⟨g, o + j, none⟩ h1
  exact (World.cell?_of_block (w := w) (a := ⟨g, o + j, none⟩) (hk.block _ hlt hx)).trans h1
theorem BsX.kp {X : Nat → Prop} {w w' : World} {v : Value} {t : List UInt8} (h : BsX X w v t) (hk : Kp X w w') : BsX X w' v t := by
  refine ⟨?_, h.2⟩
  obtain ⟨p, cap, rfl, h1, h2, h3, h4⟩ := h.1
  refine ⟨p, cap, rfl, h1, h2, h3, ?_⟩
  rcases h4 with h4 | ⟨g, o, rfl, hc⟩
  · exact .inl h4
  · by_cases ht : t = []
    · exact .inl ht
    · exact .inr ⟨g, o, rfl, range_kp hc hk (h.2 ht _ _ _ rfl)⟩
theorem BsX.on {X : Nat → Prop} {w w' : World} {v : Value} {t : List UInt8} (h : BsX X w v t) (hb : Below w.heap.size w w') : BsX X w' v t := h.kp (Kp.bel hb)

/-! ### A log -/

structure Lg where
  e : Int
  slots : Nat
  note : List UInt8
  used : Nat
  stale : Bool
  broken : Bool
/-- The blocks of a disk and of a log. -/
def X4 (d pb mb l : Nat) (k : Nat) : Prop := k = d ∨ k = pb ∨ k = mb ∨ k = l
def lblk (d : Nat) (L : Lg) (nv : Value) : Obj := .cells #[.pointer (some ⟨d, 0, none⟩), .int .i64 L.e, .int .i64 L.slots, nv, .int .i64 L.used, .bool L.stale, .bool L.broken] 54
structure LAt (w : World) (d pb mb l : Nat) (L : Lg) : Prop where
  blk : ∃ nv, w.heap[l]? = some (.cells #[.pointer (some ⟨d, 0, none⟩), .int .i64 L.e, .int .i64 L.slots, nv, .int .i64 L.used, .bool L.stale, .bool L.broken] 54) ∧ BsX (X4 d pb mb l) w nv L.note
  ne : l ≠ d ∧ l ≠ pb ∧ l ≠ mb
  pos : 0 < L.e
  top : L.e ≤ 1099511627776
  sl : 1 ≤ L.slots ∧ L.slots ≤ 4096
  us : L.used ≤ L.slots
  nt : L.note.length ≤ 112
theorem LAt.lt {w : World} {d pb mb l : Nat} {L : Lg} (h : LAt w d pb mb l L) : l < w.heap.size := by
  obtain ⟨nv, hb, -⟩ := h.blk
  exact (Array.getElem?_eq_some_iff.1 hb).1
theorem LAt.on {w w' : World} {d pb mb l : Nat} {L : Lg} (h : LAt w d pb mb l L) (hb : Below w.heap.size w w') : LAt w' d pb mb l L := by
  obtain ⟨nv, h1, h2⟩ := h.blk
  exact { h with blk := ⟨nv, (hb.block _ h.lt).trans h1, h2.on hb⟩ }
theorem LAt.kept {w w' : World} {d pb mb l : Nat} {L : Lg} (h : LAt w d pb mb l L) (hb : Kept d pb mb w w') : LAt w' d pb mb l L := by
  obtain ⟨nv, h1, h2⟩ := h.blk
  exact { h with blk := ⟨nv, (hb.block _ h.lt h.ne.1 h.ne.2.1 h.ne.2.2).trans h1, h2.kp (Kp.kept hb (.inl rfl) (.inr (.inl rfl)) (.inr (.inr (.inl rfl))))⟩ }
theorem seven_of {w : World} {g : Nat} {a b c d e f h : Value} {t : TypeId} (hb : w.heap[g]? = some (.cells #[a, b, c, d, e, f, h] t)) :
    w.cell? ⟨g, 0, none⟩ = some a ∧ w.cell? ⟨g, 1, none⟩ = some b ∧ w.cell? ⟨g, 2, none⟩ = some c ∧ w.cell? ⟨g, 3, none⟩ = some d ∧ w.cell? ⟨g, 4, none⟩ = some e ∧ w.cell? ⟨g, 5, none⟩ = some f ∧ w.cell? ⟨g, 6, none⟩ = some h ∧ ∀ i, w.frozen? ⟨g, i, none⟩ = false := by
  refine ⟨?_, ?_, ?_, ?_, ?_, ?_, ?_, fun i => ?_⟩ <;> simp [World.cell?, World.frozen?, hb]

/-! ### Small functions -/

theorem sectors42 (w : World) (d pb mb : Nat) (s : Dsk) (h : At w d pb mb s) : Calls Tryd.prog 42 #[.pointer (some ⟨d, 0, none⟩)] w fun e w' => e = .returned (.int .i64 s.N) ∧ w' = w := by
  obtain ⟨c0, -, -, -, -, -⟩ := five_of h.blk
  have c := made31 w d pb mb s h
  clear h
  go_enter Tryd.func42, Tryd.ntmps42
  go_wp2_with (first | (go_at_call 31; refine c.mono ?_; rintro e w' ⟨rfl, rfl⟩))
  go_ret
  exact ⟨rfl, rfl⟩
theorem madeDisk24 (w : World) (d pb mb : Nat) (s : Dsk) (h : At w d pb mb s) : Calls Tryd.prog 24 #[.pointer (some ⟨d, 0, none⟩)] w fun e w' => e = .returned (.bool true) ∧ w' = w := by
  have c := sectors42 w d pb mb s h
  have hp : (0 : Int) < (s.N : Int) := by have := h.pos; omega
  clear h
  go_enter Tryd.func24, Tryd.ntmps24
  go_wp2_with (first | (go_at_call 42; refine c.mono ?_; rintro e w' ⟨rfl, rfl⟩))
  go_ret
  exact ⟨by simp; omega, rfl⟩
/-- May a log have so many slots? -/
def Dsk.may (s : Dsk) (n : Int) : Bool := decide (1 ≤ n) && decide (n ≤ 4096) && decide (2 + n ≤ s.N)
set_option maxHeartbeats 400000 in
theorem maySlots25 (w : World) (d pb mb : Nat) (s : Dsk) (h : At w d pb mb s) (n : Int) : Calls Tryd.prog 25 #[.pointer (some ⟨d, 0, none⟩), .int .i64 n] w fun e w' => e = .returned (.bool (s.may n)) ∧ w' = w := by
  have c := sectors42 w d pb mb s h
  have hN := h.top
  clear h
  unfold Dsk.may
  by_cases h1 : 1 ≤ n
  · by_cases h2 : n ≤ 4096
    · have hw : IntKind.i64.wrap (2 + n) = 2 + n := by rw [IntKind.wrap_i64]; omega
      go_enter Tryd.func25, Tryd.ntmps25
      go_wp2_with (first | (go_at_call 42; refine c.mono ?_; rintro e w' ⟨rfl, rfl⟩))
      go_ret
      exact ⟨by simp [h1, h2], rfl⟩
    · go_enter Tryd.func25, Tryd.ntmps25
      go_wp2
      go_ret
      exact ⟨by simp; omega, rfl⟩
  · go_enter Tryd.func25, Tryd.ntmps25
    go_wp2
    go_ret
    exact ⟨by simp; omega, rfl⟩
theorem isRight37 (w : World) (e : Int) (x y : Value) (hx : x.oneCell' = true) (hy : y.oneCell' = true) : Calls Tryd.prog 37 #[.agg #[.int .i64 e, x, y]] w fun r w' => r = .returned (.bool (decide (0 < e))) ∧ w' = w.alloc (.cells #[.int .i64 e, x, y] 52) := by
  go_enter Tryd.func37, Tryd.ntmps37
  go_wp2
  go_ret
  exact ⟨rfl, rfl⟩
theorem at47 (w : World) (e : Int) (he : 0 ≤ e) (x y : Value) (hx : x.oneCell' = true) (hy : y.oneCell' = true) : Calls Tryd.prog 47 #[.agg #[.int .i64 e, x, y]] w fun r w' => r = .returned (.int .i64 (e % 2)) ∧ w' = w.alloc (.cells #[.int .i64 e, x, y] 52) := by
  have ht : e.tmod 2 = e % 2 := Int.tmod_eq_emod_of_nonneg he
  go_enter Tryd.func47, Tryd.ntmps47
  go_wp2
  go_ret
  exact ⟨rfl, rfl⟩
end Go.Proofs.YtnclhjjhobbbjaaDoor
namespace Go.Proofs.YtnclhjjhobbbjaaDoor
open Go.RowKit Go.Maps
set_option linter.unusedVariables false      -- a walk need not use every condition

theorem Bs.one {w : World} {v : Value} {t : List UInt8} (h : Bs w v t) : v.oneCell' = true := by
  obtain ⟨p, cap, rfl, -⟩ := h
  rfl
theorem made41 (w : World) (d pb mb l : Nat) (L : Lg) (h : LAt w d pb mb l L) : Calls Tryd.prog 41 #[.pointer (some ⟨l, 0, none⟩)] w fun e w' => e = .returned (.bool true) ∧ Below w.heap.size w w' := by
  obtain ⟨nv, hb, hn⟩ := h.blk
  obtain ⟨p, cap, rfl, -⟩ := hn.1
  obtain ⟨c0, c1, c2, c3, c4, c5, c6, fr⟩ := seven_of hb
  have cR := isRight37 w L.e (.int .i64 L.slots) (.slice p L.note.length cap) rfl rfl
  rw [decide_eq_true h.pos] at cR
  clear h hb hn fr
  go_enter Tryd.func41, Tryd.ntmps41
  go_wp2_with (first | (go_at_call 37; refine cR.mono ?_; rintro e w' ⟨rfl, rfl⟩))
  go_ret
  exact ⟨rfl, bel1 w _⟩
def Lg.ready (L : Lg) : Int := if L.broken then 62 else 0
theorem ready32 (w : World) (d pb mb l : Nat) (L : Lg) (h : LAt w d pb mb l L) : Calls Tryd.prog 32 #[.pointer (some ⟨l, 0, none⟩)] w fun e w' => e = .returned (.int .i64 L.ready) ∧ Below w.heap.size w w' := by
  have cM := made41 w d pb mb l L h
  have H := Lib.hid h
  unfold Lg.ready
  generalize hbr : L.broken = x
  have HB := Lib.hid hbr
  clear h hbr
  cases x
  all_goals
    go_enter Tryd.func32, Tryd.ntmps32
    go_wp2_with (first | (go_at_call 41; refine cM.mono ?_; rintro e w' ⟨rfl, hb⟩; obtain ⟨nv, hblk, hn⟩ := (H.out.on hb).blk; rw [HB.out] at hblk; obtain ⟨-, -, -, -, -, -, c6, -⟩ := seven_of hblk; clear hblk hn))
    go_ret
    exact ⟨rfl, hb⟩
theorem epoch20 (w : World) (d pb mb l : Nat) (L : Lg) (h : LAt w d pb mb l L) : Calls Tryd.prog 20 #[.pointer (some ⟨l, 0, none⟩)] w fun e w' => e = .returned (.int .i64 L.e) ∧ Below w.heap.size w w' := by
  have cM := made41 w d pb mb l L h
  have H := Lib.hid h
  clear h
  go_enter Tryd.func20, Tryd.ntmps20
  go_wp2_with (first | (go_at_call 41; refine cM.mono ?_; rintro e w' ⟨rfl, hb⟩; obtain ⟨nv, hblk, hn⟩ := (H.out.on hb).blk; obtain ⟨-, c1, -, -, -, -, c6, -⟩ := seven_of hblk; clear hblk hn))
  go_ret
  exact ⟨rfl, hb⟩
theorem used22 (w : World) (d pb mb l : Nat) (L : Lg) (h : LAt w d pb mb l L) : Calls Tryd.prog 22 #[.pointer (some ⟨l, 0, none⟩)] w fun e w' => e = .returned (.int .i64 L.used) ∧ Below w.heap.size w w' := by
  have cM := made41 w d pb mb l L h
  have H := Lib.hid h
  clear h
  go_enter Tryd.func22, Tryd.ntmps22
  go_wp2_with (first | (go_at_call 41; refine cM.mono ?_; rintro e w' ⟨rfl, hb⟩; obtain ⟨nv, hblk, hn⟩ := (H.out.on hb).blk; obtain ⟨-, c1, -, -, c4, -, c6, -⟩ := seven_of hblk; clear hblk hn))
  go_ret
  exact ⟨rfl, hb⟩
theorem number52 (w : World) (d pb mb l : Nat) (L : Lg) (h : LAt w d pb mb l L) (i : Nat) (hi : i ≤ 4096) : Calls Tryd.prog 52 #[.pointer (some ⟨l, 0, none⟩), .int .i64 i] w fun e w' => e = .returned (.int .i64 (L.e * 65536 + i)) ∧ w' = w := by
  obtain ⟨nv, hblk, hn⟩ := h.blk
  obtain ⟨-, c1, -⟩ := seven_of hblk
  have hp := h.pos
  have ht := h.top
  have w1 : IntKind.i64.wrap (L.e * 65536) = L.e * 65536 := by rw [IntKind.wrap_i64]; omega
  have w2 : IntKind.i64.wrap (L.e * 65536 + i) = L.e * 65536 + i := by rw [IntKind.wrap_i64]; omega
  clear h hblk hn
  go_enter Tryd.func52, Tryd.ntmps52
  go_wp2
  go_ret
  exact ⟨rfl, rfl⟩
theorem sectorOf53 (w : World) (i : Nat) (hi : i ≤ 4096) : Calls Tryd.prog 53 #[.int .i64 i] w fun e w' => e = .returned (.int .i64 ((2 + i : Nat) : Int)) ∧ w' = w := by
  have w2 : IntKind.i64.wrap (2 + (i : Int)) = ((2 + i : Nat) : Int) := by rw [IntKind.wrap_i64]; omega
  go_enter Tryd.func53, Tryd.ntmps53
  go_wp2
  go_ret
  exact ⟨rfl, rfl⟩
/-! ### No log -/
theorem nilMade41 (w : World) : Calls Tryd.prog 41 #[.pointer none] w fun e w' => e = .returned (.bool false) ∧ w' = w := by
  go_enter Tryd.func41, Tryd.ntmps41
  go_wp2
  go_ret
  exact ⟨rfl, rfl⟩
end Go.Proofs.YtnclhjjhobbbjaaDoor
namespace Go.Proofs.YtnclhjjhobbbjaaDoor
open Go.RowKit Go.Maps
set_option linter.unusedVariables false      -- a walk need not use every condition
attribute [local go_sem ↓] Go.wp_at_zero Go.wp_at_succ

theorem cell_on {w w' : World} {g o : Nat} {x : Value} (hb : Below w.heap.size w w') (h : w.cell? ⟨g, o, none⟩ = some x) : w'.cell? ⟨g, o, none⟩ = some x :=
  (World.cell?_of_block (w := w) (a := ⟨g, o, none⟩) (hb.block _ (World.block_lt_of_cell? w ⟨g, o, none⟩ h))).trans h
theorem rsb_succ (rs : Rs) {i : Nat} (h : i < rs.length) : rsb (rs.take (i + 1)) = rsb (rs.take i) ++ (vnt rs[i].length ++ rs[i]) := by
  rw [List.take_succ_eq_append_getElem h, rsb_app, rsb_cons, rsb_nil, List.append_nil]
theorem rsb_take_le (rs : Rs) (i : Nat) : (rsb (rs.take i)).length ≤ (rsb rs).length := by
  have h := List.take_append_drop i rs
  have h2 : rsb rs = rsb (rs.take i) ++ rsb (rs.drop i) := by rw [← rsb_app, h]
  rw [h2]; simp
theorem rsb_len (rs : Rs) : rs.length ≤ (rsb rs).length := by
  induction rs with
  | nil => simp
  | cons r rs ih =>
    rw [rsb_cons]
    have := vnt_pos r.length
    simp
    omega
theorem cby_len (rs : Rs) : (cby rs).length = (vnt rs.length).length + (rsb rs).length := by simp [cby]
theorem numberLen49 (n : Nat) (hn : n ≤ 140737488355328) (w : World) : Calls Tryd.prog 49 #[.int .i64 n] w fun e w' => e = .returned (.int .i64 (vnt n).length) ∧ Below w.heap.size w w' := by
  have c := put45 n (by omega) w
  have hw : IntKind.u64.wrap (n : Int) = (n : Int) := by rw [IntKind.wrap_u64]; omega
  generalize vnt n = E at *
  go_enter Tryd.func49, Tryd.ntmps49
  go_wp2_with (first | (go_at_call 45; refine c.mono ?_; rintro e w1 ⟨v1, rfl, hb1, hB1⟩; obtain ⟨p, cap, rfl, -⟩ := hb1.bs; clear hb1))
  go_ret
  exact ⟨rfl, hB1⟩
set_option maxHeartbeats 1000000 in
set_option maxRecDepth 100000 in
theorem frames33 (w : World) (v : Value) (rs : Rs) (hv : Bss w v rs) (hlen : (cby rs).length ≤ 4398046511104) :
    Calls Tryd.prog 33 #[v] w fun e w' => e = .returned (.int .i64 (pn (cby rs))) ∧ Below w.heap.size w w' := by
  have HV := Lib.hid hv
  obtain ⟨p, cap, rfl, -⟩ := hv
  have hl := rsb_len rs
  have hcl := cby_len rs
  have hv10 := vnt_le rs.length
  have hnz : rs.length ≤ 4398046511104 := by omega
  have c0 := numberLen49 rs.length (by omega)
  have cN := fun (n : Nat) hn => numberLen49 n hn
  obtain ⟨V, hV⟩ : ∃ V, (vnt rs.length).length = V := ⟨_, rfl⟩
  rw [hV] at c0 hcl hv10
  have HPN : Hid (pn (cby rs) = (V + (rsb rs).length + 111) / 112) := by show _ = _; unfold pn; rw [hcl]
  have HTot : Hid (V + (rsb rs).length ≤ 4398046511104) := by show _ ≤ _; omega
  generalize pn (cby rs) = PN at *
  clear hcl hV hlen hl
  go_enter Tryd.func33, Tryd.ntmps33
  go_wp2_with (first | (go_at_call 49; refine (c0 _).mono ?_; rintro e w1 ⟨rfl, hB1⟩))
  clear c0
  have HB1 := Lib.hid hB1
  clear hB1
  go_loopg [3, 11] rs.length (fun g s3 s11 wr => ∃ i T : Nat, i + g = rs.length ∧ s11 = .int .i64 i ∧ s3 = .int .i64 T ∧ Hid (T = V + (rsb (rs.take i)).length) ∧ Hid (Below w.heap.size w wr))
  case atStart => exact ⟨0, V, by omega, rfl, rfl, by show V = V + _; rw [List.take_zero]; rfl, HB1.out⟩
  case round =>
    obtain ⟨i, T, hig, rfl, rfl, hT, hb⟩ := hrel
    cases gk with
    | zero =>
      obtain rfl : i = rs.length := by omega
      have hT' := hT.out
      rw [List.take_length] at hT'
      have h1 := HTot.out
      have h2 := HPN.out
      have e1 : IntKind.i64.wrap ((T : Int) + 112) = (T : Int) + 112 := by rw [IntKind.wrap_i64]; omega
      have e2 : IntKind.i64.wrap ((T : Int) + 112 - 1) = (T : Int) + 112 - 1 := by rw [IntKind.wrap_i64]; omega
      have e3 : ((T : Int) + 112 - 1).tdiv 112 = (PN : Int) := by rw [Int.tdiv_eq_ediv_of_nonneg (by omega)]; omega
      have e4 : IntKind.i64.wrap (PN : Int) = (PN : Int) := by rw [IntKind.wrap_i64]; omega
      clear hT hT' h1 h2
      go_wp2
      go_ret
      exact ⟨by first | rfl | (congr 2), hb.out⟩
    | succ g =>
      have hi : i < rs.length := by omega
      have hiz : (i : Int) < (rs.length : Int) := by omega
      have hi0 : (0 : Int) ≤ (i : Int) := by omega
      obtain ⟨p', cap', e, hel⟩ := HV.out.on hb.out
      injection e with e1 e2 e3
      subst e1 e3
      obtain ⟨b, o, rfl, hel2⟩ := hel.resolve_left (fun e => by rw [e] at hi; simp at hi)
      obtain ⟨x, hx, hxB⟩ := hel2 i hi
      have hsu := rsb_succ rs hi
      have hle := rsb_take_le rs (i + 1)
      have hU := hxB.len
      obtain ⟨xp, xc, rfl, -⟩ := hxB
      have c1 := cN rs[i].length (by unfold maxLen at hU; have := HTot.out; have := congrArg List.length hsu; simp at this; omega)
      have hS : Hid ((rsb (rs.take (i + 1))).length = (rsb (rs.take i)).length + ((vnt rs[i].length).length + rs[i].length)) := by show _ = _; rw [hsu]; simp
      have hT2 := hT.out
      have hTot2 := HTot.out
      generalize (vnt rs[i].length).length = A at *
      generalize rs[i].length = U at *
      have hS2 := hS.out
      have e1 : IntKind.i64.wrap ((A : Int) + (U : Int)) = ((A + U : Nat) : Int) := by rw [IntKind.wrap_i64]; omega
      have e2 : IntKind.i64.wrap ((T : Int) + ((A + U : Nat) : Int)) = ((T + (A + U) : Nat) : Int) := by rw [IntKind.wrap_i64]; omega
      have hT3 : Hid (T + (A + U) = V + (rsb (rs.take (i + 1))).length) := by show _ = _; omega
      have HE2 : Hid (wrap64 ((T : Int) + ((A : Int) + (U : Int))) = (T : Int) + ((A : Int) + (U : Int))) := by show _ = _; unfold wrap64; omega
      clear hel hel2 hsu hle hU hT2 hTot2 hS2 hS
      go_wp2_with (first | (go_at_call 49; refine (c1 _).mono ?_; rintro e w2 ⟨rfl, hB2⟩))
      have HB2 := Lib.hid (hb.out.trans (hB2.mono hb.out.size))
      clear hB2
      go_roundg g
      case measure => omega
      case rel => exact ⟨i + 1, T + (A + U), by omega, by first | rfl | simp, by first | rfl | (simp; exact HE2.out), hT3, HB2⟩
set_option maxHeartbeats 1000000 in
set_option maxRecDepth 100000 in
theorem commitBytes51 (w : World) (v : Value) (rs : Rs) (hv : Bss w v rs) (hlen : (cby rs).length ≤ 4398046511104) :
    Calls Tryd.prog 51 #[v] w fun e w' => ∃ v', e = .returned v' ∧ Bts w' w.heap.size v' (cby rs) ∧ Below w.heap.size w w' := by
  have HV := Lib.hid hv
  obtain ⟨p, cap, rfl, -⟩ := hv
  have hl := rsb_len rs
  have hcl := cby_len rs
  have hnz : rs.length ≤ 4398046511104 := by omega
  have c0 := put45 rs.length (by omega)
  have cN := fun (n : Nat) hn => put45 n hn
  have hw : IntKind.u64.wrap (rs.length : Int) = (rs.length : Int) := by rw [IntKind.wrap_u64]; omega
  have HC : Hid (cby rs = vnt rs.length ++ rsb rs) := rfl
  obtain ⟨V, hV⟩ : ∃ V, vnt rs.length = V := ⟨_, rfl⟩
  rw [hV] at c0 hcl
  have HC2 : Hid (cby rs = V ++ rsb rs) := by show _ = _; rw [HC.out, hV]
  have HTot : Hid (V.length + (rsb rs).length ≤ 4398046511104) := by show _ ≤ _; omega
  generalize cby rs = CB at *
  clear hcl hV hlen hl HC
  go_enter Tryd.func51, Tryd.ntmps51
  go_wp2_with (first | (go_at_call 45; refine (c0 _).mono ?_; rintro e w1 ⟨v1, rfl, hb1, hB1⟩))
  clear c0
  have HB1 := Lib.hid hB1
  have HO1 := Lib.hid hb1
  clear hB1 hb1
  go_loopg [3, 12] rs.length (fun g s3 s12 wr => ∃ (i : Nat) (T : List UInt8), i + g = rs.length ∧ s12 = .int .i64 i ∧ Hid (T = V ++ rsb (rs.take i)) ∧ Hid (Bts wr w.heap.size s3 T) ∧ Hid (Below w.heap.size w wr))
  case atStart => exact ⟨0, V, by omega, rfl, by show V = V ++ _; rw [List.take_zero, rsb_nil, List.append_nil], HO1.out, HB1.out⟩
  case round =>
    obtain ⟨i, T, hig, rfl, hT, ho, hb⟩ := hrel
    cases gk with
    | zero =>
      obtain rfl : i = rs.length := by omega
      have hT' : Hid (T = CB) := by have := hT.out; rw [List.take_length] at this; show _ = _; rw [this, HC2.out]
      clear hT
      go_wp2
      go_ret
      exact ⟨_, rfl, by rw [← hT'.out]; exact ho.out, hb.out⟩
    | succ g =>
      have hi : i < rs.length := by omega
      have hiz : (i : Int) < (rs.length : Int) := by omega
      have hi0 : (0 : Int) ≤ (i : Int) := by omega
      obtain ⟨p', cap', e, hel⟩ := HV.out
      injection e with e1 e2 e3
      subst e1 e3
      obtain ⟨b, o, rfl, hel2⟩ := hel.resolve_left (fun e => by rw [e] at hi; simp at hi)
      obtain ⟨x, hx0, hxB⟩ := hel2 i hi
      have hx := cell_on hb.out hx0
      clear hx0
      have hsu := rsb_succ rs hi
      have hle := rsb_take_le rs (i + 1)
      have hU := hxB.len
      unfold maxLen at hU
      have HXB := Lib.hid hxB
      obtain ⟨xp, xc, rfl, -⟩ := hxB
      have c1 := cN rs[i].length (by omega)
      have hw1 : IntKind.u64.wrap (rs[i].length : Int) = (rs[i].length : Int) := by rw [IntKind.wrap_u64]; omega
      have hL : Hid (T.length + ((vnt rs[i].length).length + rs[i].length) ≤ 4398046511104) := by
        have h1 := HTot.out
        have h2 := congrArg List.length hsu
        have h3 := congrArg List.length hT.out
        simp at h2 h3
        show _ ≤ _
        omega
      have hT3 : Hid (T ++ vnt rs[i].length ++ rs[i] = V ++ rsb (rs.take (i + 1))) := by show _ = _; rw [hsu, hT.out]; simp
      generalize vnt rs[i].length = A at *
      generalize rs[i] = U at *
      have HO := Lib.hid ho.out
      clear hel hel2 hsu hle hT
      have tk : True := trivial
      go_wp2_with (first
        | (go_at_call 45; refine (c1 _).mono ?_; rintro e w2 ⟨v2, rfl, hb2, hB2⟩; have HB2 := Lib.hid hB2; have HX2 := Lib.hid hb2; clear hb2 hB2)
        | (at_builtin; clear tk; refine wpList_app rfl _ _ rfl w.heap.size _ _ T A rfl rfl (HO.out.on HB2.out) HX2.out.bs (by have := hL.out; omega) (Nat.le_trans hb.out.size HB2.out.size) ?_; intro v3 w3 hb3 hg3; have HO3 := Lib.hid hb3; have HB3 := Lib.hid ((hb.out.trans (HB2.out.mono hb.out.size)).trans ((HO.out.on HB2.out).below hg3 (Nat.le_trans hb.out.size HB2.out.size))); clear hb3 hg3)
        | (at_builtin; refine wpList_app rfl _ _ rfl w.heap.size _ _ (T ++ A) U rfl rfl HO3.out (HXB.out.on HB3.out) (by have := hL.out; simp; omega) HB3.out.size ?_; intro v4 w4 hb4 hg4; have HO4 := Lib.hid hb4; have HB4 := Lib.hid (HB3.out.trans (HO3.out.below hg4 HB3.out.size)); clear hb4 hg4))
      go_roundg g
      case measure => omega
      case rel => exact ⟨i + 1, T ++ A ++ U, by omega, by first | rfl | simp, hT3, HO4, HB4⟩
end Go.Proofs.YtnclhjjhobbbjaaDoor
