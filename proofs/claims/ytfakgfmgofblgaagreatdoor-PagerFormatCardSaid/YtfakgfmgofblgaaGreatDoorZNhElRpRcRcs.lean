/-
  What newestHead of package wal does.
  Things in memory that touch some blocks and no others; slices of such things; rows of one's own that grow.
  What readPieces of package wal does.
  What readCommit and readCommits of package wal do.
  What readCommits of package wal does.
-/
import Derived.Test.YtfakgfmgofblgaaGreatDoorZWpRfRh
import Derived.Test.YtfakgfmgofblgaaGreatDoorZNumpNumTFuseLgLs
import Derived.Test.YtfakgfmgofblgaaGreatDoorZVntWmCtmRctBsx
import Derived.Deep.QuietTactic
import Derived.BigQuiet
namespace Go.Proofs.YtfakgfmgofblgaaGreatDoor
open Go.RowKit Go.Maps
set_option linter.unusedVariables false      -- a walk need not use every condition
attribute [local go_sem ↓] Go.wp_at_zero Go.wp_at_succ

/-- The head that holds. -/
def newest (a b : Hd) : Hd := if b.1 < a.1 then a else b
def Dsk.head (s : Dsk) : Hd := newest (hdOf (frO (s.con 0)) 0 s.N) (hdOf (frO (s.con 1)) 1 s.N)
theorem six_of {w : World} {g : Nat} {a b c d e f : Value} {t : TypeId} (hb : w.heap[g]? = some (.cells #[a, b, c, d, e, f] t)) :
    w.cell? ⟨g, 0, none⟩ = some a ∧ w.cell? ⟨g, 1, none⟩ = some b ∧ w.cell? ⟨g, 2, none⟩ = some c ∧ w.cell? ⟨g, 3, none⟩ = some d ∧ w.cell? ⟨g, 4, none⟩ = some e ∧ w.cell? ⟨g, 5, none⟩ = some f ∧ ∀ i, w.frozen? ⟨g, i, none⟩ = false := by
  refine ⟨?_, ?_, ?_, ?_, ?_, ?_, fun i => ?_⟩ <;> simp [World.cell?, World.frozen?, hb]
/-- Two heads lie in an array. -/
def NhI (w wr : World) (A B : Hd) : Prop := wr.heap[w.heap.size]? = some (.cells #[.int .i64 0, .int .i64 0, .slice none 0 0] 141) ∧ Below w.heap.size w wr ∧
  ∃ p0 c0 p1 c1, wr.heap[w.heap.size + 1]? = some (.cells #[.int .i64 A.1, .int .i64 A.2.1, .slice p0 A.2.2.length c0, .int .i64 B.1, .int .i64 B.2.1, .slice p1 B.2.2.length c1] 177) ∧
    Bs wr (.slice p0 A.2.2.length c0) A.2.2 ∧ Bs wr (.slice p1 B.2.2.length c1) B.2.2 ∧ Fresh (w.heap.size + 2) (.slice p0 A.2.2.length c0) ∧ Fresh (w.heap.size + 2) (.slice p1 B.2.2.length c1)
theorem nh_start (w : World) : NhI w ((w.alloc (.cells #[.int .i64 0, .int .i64 0, .slice none 0 0] 141)).alloc (.cells #[.int .i64 0, .int .i64 0, .slice none 0 0, .int .i64 0, .int .i64 0, .slice none 0 0] 177)) (0, 0, []) (0, 0, []) := by
  refine ⟨blk_on (bel1 _ _) (heap_alloc_last w _), bel_then (bel1 w _) (bel1 _ _), none, 0, none, 0, ?_, bs_nil _, bs_nil _, fun _ _ _ _ e => (by cases e), fun _ _ _ _ e => (by cases e)⟩
  have := heap_alloc_last (w.alloc (.cells #[.int .i64 0, .int .i64 0, .slice none 0 0] 141)) (.cells #[.int .i64 0, .int .i64 0, .slice none 0 0, .int .i64 0, .int .i64 0, .slice none 0 0] 177)
  rw [World.size_alloc] at this
  exact this
set_option maxHeartbeats 4000000 in
set_option maxRecDepth 100000 in
theorem newest99 (w : World) (d pb mb : Nat) (s : Dsk) (h0 : At w d pb mb s) (hT0 : TabOk w) (hd : s.down = false) (hN : 2 ≤ s.N) :
    Calls Tryz.prog 99 #[.pointer (some ⟨d, 0, none⟩)] w (HdR s.head w) := by
  have h := Lib.hid h0
  have hT := Lib.hid hT0
  have HS := Lib.hid (nh_start w)
  clear h0 hT0
  unfold Dsk.head
  obtain ⟨H0, hH0⟩ : ∃ H, hdOf (frO (s.con 0)) 0 s.N = H := ⟨_, rfl⟩
  obtain ⟨H1, hH1⟩ : ∃ H, hdOf (frO (s.con 1)) 1 s.N = H := ⟨_, rfl⟩
  rw [hH0, hH1]
  go_enter Tryz.func99, Tryz.ntmps99
  go_wp2
  go_loopg [5] 2 (fun gk s5 wr => ∃ x : Nat, x + gk = 2 ∧ s5 = .int .i64 x ∧ Hid (NhI w wr (if 1 ≤ x then H0 else (0, 0, [])) (if 2 ≤ x then H1 else (0, 0, []))))
  case atStart => exact ⟨0, rfl, rfl, HS.out⟩
  case round =>
    obtain ⟨x, hx, rfl, hI⟩ := hrel
    have hx3 : x = 0 ∨ x = 1 ∨ x = 2 := by omega
    rcases hx3 with rfl | rfl | rfl
    · obtain rfl : gk = 2 := by omega
      simp only [show ¬ (1 ≤ 0) by decide, show ¬ (2 ≤ 0) by decide, if_false] at hI
      obtain ⟨k0, hB, p0, c0, p1, c1, k1, b0, b1, f0, f1⟩ := hI.out
      obtain ⟨z0, z1, z2, z3, z4, z5, zf⟩ := six_of k1
      have HB := Lib.hid hB
      have HK0 := Lib.hid k0
      have HK1 := Lib.hid k1
      have HB0 := Lib.hid b0
      have HB1 := Lib.hid b1
      have cR := readHead143 wr d pb mb s (h.out.on hB) (tab_on hT.out hB) hd 0 (by decide) (by omega)
      rw [hH0] at cR
      clear k0 hB k1 b0 b1 z0 z1 z2 z3 z4 z5 zf
      go_wp2_with (first
        | (go_at_call 143; refine cR.mono ?_
           rintro e w2 ⟨p, c, rfl, hbs, hfr, hb2⟩
           have HBS := Lib.hid hbs
           have HFR := Lib.hid (show Fresh (w.heap.size + 2) (.slice p H0.2.2.length c) from hfr.mono (by have := (Array.getElem?_eq_some_iff.1 HK1.out).1; omega))
           have k3 := blk_on hb2 HK1.out
           obtain ⟨y0, y1, y2, y3, y4, y5, yf⟩ := six_of k3
           have yf0 := yf 0
           have yf1 := yf 1
           have yf2 := yf 2
           have Hb2 := Lib.hid hb2
           have HK3 := Lib.hid k3
           clear hbs hfr hb2 yf k3))
      go_roundg 1
      case measure => decide
      case rel =>
        refine ⟨1, by decide, by first | rfl | simp, ?_⟩
        show NhI w _ _ _
        have hg : w2.grownBy (((w2.setCell ⟨w.heap.size + 1, 0, none⟩ (.int .i64 H0.1)).setCell ⟨w.heap.size + 1, 1, none⟩ (.int .i64 H0.2.1)).setCell ⟨w.heap.size + 1, 2, none⟩ (.slice p H0.2.2.length c)) (some (w.heap.size + 1)) := ((gr_set _ _ _ _).trans (gr_set _ _ _ _)).trans (gr_set _ _ _ _)
        refine ⟨?_, ?_, p, c, p1, c1, ?_, ?_, ?_, ?_, ?_⟩
        · exact (hg.block _ (by have := (Array.getElem?_eq_some_iff.1 HK3.out).1; omega) (fun e => by injection e with e; omega)).trans (blk_on Hb2.out HK0.out)
        · exact (HB.out.trans (Hb2.out.mono HB.out.size)).grown hg (Nat.le_trans HB.out.size Hb2.out.size) (fun j e => by injection e with e; omega)
        · rw [blk_set (blk_set (blk_set HK3.out _) _) _]
          rfl
        · exact HBS.out.grownB hg (fun g o n c' e => by have := HFR.out g o n c' e; omega)
        · exact (HB1.out.on Hb2.out).grownB hg (fun g o n c' e => by have := f1 g o n c' e; omega)
        · exact HFR.out
        · exact f1
    · obtain rfl : gk = 1 := by omega
      simp only [show (1 ≤ 1) by decide, show ¬ (2 ≤ 1) by decide, if_false, if_true] at hI
      obtain ⟨k0, hB, p0, c0, p1, c1, k1, b0, b1, f0, f1⟩ := hI.out
      obtain ⟨z0, z1, z2, z3, z4, z5, zf⟩ := six_of k1
      have HB := Lib.hid hB
      have HK0 := Lib.hid k0
      have HK1 := Lib.hid k1
      have HB0 := Lib.hid b0
      have HB1 := Lib.hid b1
      have cR := readHead143 wr d pb mb s (h.out.on hB) (tab_on hT.out hB) hd 1 (by decide) (by omega)
      rw [hH1] at cR
      clear k0 hB k1 b0 b1 z0 z1 z2 z3 z4 z5 zf
      go_wp2_with (first
        | (go_at_call 143; refine cR.mono ?_
           rintro e w2 ⟨p, c, rfl, hbs, hfr, hb2⟩
           have HBS := Lib.hid hbs
           have HFR := Lib.hid (show Fresh (w.heap.size + 2) (.slice p H1.2.2.length c) from hfr.mono (by have := (Array.getElem?_eq_some_iff.1 HK1.out).1; omega))
           have k3 := blk_on hb2 HK1.out
           obtain ⟨y0, y1, y2, y3, y4, y5, yf⟩ := six_of k3
           have yf0 := yf 3
           have yf1 := yf 4
           have yf2 := yf 5
           have Hb2 := Lib.hid hb2
           have HK3 := Lib.hid k3
           clear hbs hfr hb2 yf k3))
      go_roundg 0
      case measure => decide
      case rel =>
        refine ⟨2, by decide, by first | rfl | simp, ?_⟩
        show NhI w _ _ _
        have hg : w2.grownBy (((w2.setCell ⟨w.heap.size + 1, 3, none⟩ (.int .i64 H1.1)).setCell ⟨w.heap.size + 1, 4, none⟩ (.int .i64 H1.2.1)).setCell ⟨w.heap.size + 1, 5, none⟩ (.slice p H1.2.2.length c)) (some (w.heap.size + 1)) := ((gr_set _ _ _ _).trans (gr_set _ _ _ _)).trans (gr_set _ _ _ _)
        refine ⟨?_, ?_, p0, c0, p, c, ?_, ?_, ?_, ?_, ?_⟩
        · exact (hg.block _ (by have := (Array.getElem?_eq_some_iff.1 HK3.out).1; omega) (fun e => by injection e with e; omega)).trans (blk_on Hb2.out HK0.out)
        · exact (HB.out.trans (Hb2.out.mono HB.out.size)).grown hg (Nat.le_trans HB.out.size Hb2.out.size) (fun j e => by injection e with e; omega)
        · rw [blk_set (blk_set (blk_set HK3.out _) _) _]
          rfl
        · exact (HB0.out.on Hb2.out).grownB hg (fun g o n c' e => by have := f0 g o n c' e; omega)
        · exact HBS.out.grownB hg (fun g o n c' e => by have := HFR.out g o n c' e; omega)
        · exact f0
        · exact HFR.out
    · obtain rfl : gk = 0 := by omega
      simp only [show (1 ≤ 2) by decide, show (2 ≤ 2) by decide, if_true] at hI
      obtain ⟨k0, hB, p0, c0, p1, c1, k1, b0, b1, f0, f1⟩ := hI.out
      obtain ⟨z0, z1, z2, z3, z4, z5, zf⟩ := six_of k1
      obtain ⟨y0, y1, y2, yf⟩ := three_of k0
      have yf0 := yf 0
      have yf1 := yf 1
      have yf2 := yf 2
      have HB := Lib.hid hB
      have HK0 := Lib.hid k0
      have HB0 := Lib.hid b0
      have HB1 := Lib.hid b1
      clear k0 hB k1 b0 b1 zf yf
      by_cases hlt : H1.1 < H0.1
      · have hNw : newest H0 H1 = H0 := if_pos hlt
        go_wp2
        refine bodyPost_ret (v := .agg #[.int .i64 H0.1, .int .i64 H0.2.1, .slice p0 H0.2.2.length c0]) (results52 Tryz.results99 _ _ w.heap.size _ _ _ rfl (blk_put3 HK0.out _ _ _)) rfl ?_
        refine ⟨p0, c0, rfl, ?_, Fresh.mono (b := w.heap.size + 2) f0 (by omega), ?_⟩
        · exact HB0.out.grownB (gr_put3 _ _ _ _ _) (fun g o n c' e => by have := f0 g o n c' e; omega)
        · exact HB.out.grown (gr_put3 _ _ _ _ _) HB.out.size (fun j e => by injection e with e; omega)
      · have hNw : newest H0 H1 = H1 := if_neg hlt
        go_wp2
        refine bodyPost_ret (v := .agg #[.int .i64 H1.1, .int .i64 H1.2.1, .slice p1 H1.2.2.length c1]) (results52 Tryz.results99 _ _ w.heap.size _ _ _ rfl (blk_put3 HK0.out _ _ _)) rfl ?_
        refine ⟨p1, c1, rfl, ?_, Fresh.mono (b := w.heap.size + 2) f1 (by omega), ?_⟩
        · exact HB1.out.grownB (gr_put3 _ _ _ _ _) (fun g o n c' e => by have := f1 g o n c' e; omega)
        · exact HB.out.grown (gr_put3 _ _ _ _ _) HB.out.size (fun j e => by injection e with e; omega)
end Go.Proofs.YtfakgfmgofblgaaGreatDoor
namespace Go.Proofs.YtfakgfmgofblgaaGreatDoor
open Go.RowKit
set_option linter.unusedVariables false      -- a walk need not use every condition

/-- How things of a kind lie in memory, in none of some blocks. -/
structure Elem (α : Type) where
  E : (Nat → Prop) → World → Value → α → Prop
  kp : ∀ {X : Nat → Prop} {w w' : World} {x : Value} {a : α}, E X w x a → Kp X w w' → E X w' x a
  mono : ∀ {X Y : Nat → Prop} {w : World} {x : Value} {a : α}, E X w x a → (∀ k, k < w.heap.size → Y k → X k) → E Y w x a
  one : ∀ {X : Nat → Prop} {w : World} {x : Value} {a : α}, E X w x a → x.oneCell' = true
abbrev BsY := BsX
theorem BsY.kp {X : Nat → Prop} {w w' : World} {v : Value} {t : List UInt8} (h : BsY X w v t) (hk : Kp X w w') : BsY X w' v t := BsX.kp h hk
theorem Bs.blk_lt {w : World} {v : Value} {t : List UInt8} (h : Bs w v t) (ht : t ≠ []) {a : Addr} {n c : Nat} (e : v = .slice (some a) n c) : a.block < w.heap.size := by
  obtain ⟨p, cap, rfl, h1, h2, h3, h4⟩ := h
  obtain ⟨g, o, rfl, hc⟩ := h4.resolve_left ht
  injection e with e1 e2 e3
  injection e1 with e1
  subst e1
  have hp : 0 < t.length := by cases t with
    | nil => exact absurd rfl ht
    | cons a b => simp
  exact World.block_lt_of_cell? w _ (hc 0 _ (enc_get hp))
def bytesE : Elem (List UInt8) where
  E := BsY
  kp := BsY.kp
  mono := fun h hY => ⟨h.1, fun ht a n c e hx => h.2 ht a n c e (hY _ (h.1.blk_lt ht e) hx)⟩
  one := fun h => h.1.one
/-- A slice of such things, wherever it lies. -/
def slE {α : Type} (E : Elem α) (X : Nat → Prop) (w : World) (v : Value) (L : List α) : Prop := ∃ p cap, v = .slice p L.length cap ∧
  (L = [] ∨ ∃ g o, p = some ⟨g, o, none⟩ ∧ ¬ X g ∧ ∀ i (h : i < L.length), ∃ x, w.cell? ⟨g, o + i, none⟩ = some x ∧ E.E X w x L[i])
def sl {α : Type} (E : Elem α) : Elem (List α) where
  E := slE E
  kp := fun {X w w' x a} h hk => by
    obtain ⟨p, cap, rfl, h⟩ := h
    refine ⟨p, cap, rfl, ?_⟩
    rcases h with h | ⟨g, o, rfl, hx, h⟩
    · exact .inl h
    · refine .inr ⟨g, o, rfl, hx, fun i hi => ?_⟩
      obtain ⟨y, hy, hE⟩ := h i hi
      exact ⟨y, (World.cell?_of_block (w := w) (a := ⟨g, o + i, none⟩) (hk.block _ (World.block_lt_of_cell? w ⟨g, o + i, none⟩ hy) hx)).trans hy, E.kp hE hk⟩
  mono := fun {X Y w x a} h hY => by
    obtain ⟨p, cap, rfl, h⟩ := h
    refine ⟨p, cap, rfl, ?_⟩
    rcases h with h | ⟨g, o, rfl, hx, h⟩
    · exact .inl h
    · by_cases h0 : a = []
      · exact .inl h0
      · refine .inr ⟨g, o, rfl, fun hy => hx (hY g ?_ hy), fun i hi => ?_⟩
        · have hp : 0 < a.length := by cases a with
            | nil => exact absurd rfl h0
            | cons a b => simp
          obtain ⟨y, hy', -⟩ := h 0 hp
          exact World.block_lt_of_cell? w ⟨g, o + 0, none⟩ hy'
        · obtain ⟨y, hy, hE⟩ := h i hi
          exact ⟨y, hy, E.mono hE hY⟩
  one := fun h => by
    obtain ⟨p, cap, rfl, h⟩ := h
    rfl
theorem Elem.on {α : Type} (E : Elem α) {X : Nat → Prop} {w w' : World} {x : Value} {a : α} (h : E.E X w x a) (hb : Below w.heap.size w w') : E.E X w' x a := E.kp h (Kp.bel hb)
/-- Slices of bytes, as before. -/
theorem bss_of {X : Nat → Prop} {w : World} {v : Value} {L : List (List UInt8)} (h : (sl bytesE).E X w v L) : Bss w v L := by
  obtain ⟨p, cap, rfl, h⟩ := h
  refine ⟨p, cap, rfl, ?_⟩
  rcases h with h | ⟨g, o, rfl, hx, h⟩
  · exact .inl h
  · refine .inr ⟨g, o, rfl, fun i hi => ?_⟩
    obtain ⟨y, hy, hE⟩ := h i hi
    exact ⟨y, hy, hE.1⟩
theorem of_bss {w : World} {v : Value} {L : List (List UInt8)} (h : Bss w v L) : (sl bytesE).E (fun k => w.heap.size ≤ k) w v L := by
  obtain ⟨p, cap, rfl, h⟩ := h
  refine ⟨p, cap, rfl, ?_⟩
  rcases h with h | ⟨g, o, rfl, h⟩
  · exact .inl h
  · by_cases h0 : L = []
    · exact .inl h0
    · refine .inr ⟨g, o, rfl, ?_, fun i hi => ?_⟩
      · have hp : 0 < L.length := by cases L with
          | nil => exact absurd rfl h0
          | cons a b => simp
        obtain ⟨y, hy', -⟩ := h 0 hp
        have : g < w.heap.size := World.block_lt_of_cell? w ⟨g, o + 0, none⟩ hy'
        show ¬ (w.heap.size ≤ g)
        omega
      · obtain ⟨y, hy, hE⟩ := h i hi
        exact ⟨y, hy, hE, fun ht a n c e => by have := hE.blk_lt ht e; show ¬ (w.heap.size ≤ a.block); omega⟩
/-- An element of a slice. -/
theorem sl_at {α : Type} {E : Elem α} {X : Nat → Prop} {w : World} {v : Value} {L : List α} (h : (sl E).E X w v L) {i : Nat} (hi : i < L.length) : ∃ g o cap x, v = .slice (some ⟨g, o, none⟩) L.length cap ∧ w.cell? ⟨g, o + i, none⟩ = some x ∧ E.E X w x L[i] := by
  obtain ⟨p, cap, rfl, h⟩ := h
  obtain ⟨g, o, rfl, -, h⟩ := h.resolve_left (fun e => by rw [e] at hi; simp at hi)
  obtain ⟨x, hx, hE⟩ := h i hi
  exact ⟨g, o, cap, x, rfl, hx, hE⟩
theorem sl_hdr {α : Type} {E : Elem α} {X : Nat → Prop} {w : World} {v : Value} {L : List α} (h : (sl E).E X w v L) : ∃ p cap, v = .slice p L.length cap := by
  obtain ⟨p, cap, rfl, -⟩ := h
  exact ⟨p, cap, rfl⟩

/-! ### A row of one's own, of things that don't touch it -/

def RowG {α : Type} (T : TypeId) (E : Elem α) (w : World) (base : Nat) (v : Value) (L : List α) : Prop :=
  ∃ vs : List Value, w.ownsRow base T 1 v L.length vs ∧ ∀ i (h : i < L.length), ∃ x, vs[i]? = some x ∧ E.E (fun k => v.ownBlock = some k) w x L[i]
theorem rowG_nil {α : Type} (T : TypeId) (E : Elem α) (w : World) (base : Nat) : RowG T E w base (.slice none 0 0) ([] : List α) := ⟨[], World.ownsRow_nil _ _ _ _, fun i h => absurd h (Nat.not_lt_zero _)⟩
theorem RowG.on {α : Type} {T : TypeId} {E : Elem α} {w w' : World} {base : Nat} {v : Value} {L : List α} (h : RowG T E w base v L) (hb : Below w.heap.size w w') : RowG T E w' base v L := by
  obtain ⟨vs, ho, he⟩ := h
  refine ⟨vs, own_bel ho hb, fun i hi => ?_⟩
  obtain ⟨x, hx, hE⟩ := he i hi
  exact ⟨x, hx, E.on hE hb⟩
theorem RowG.hdr {α : Type} {T : TypeId} {E : Elem α} {w : World} {base : Nat} {v : Value} {L : List α} (h : RowG T E w base v L) : ∃ p c, v = .slice p L.length c := by
  obtain ⟨vs, ho, -⟩ := h
  rcases ho.2 with ⟨rfl, h0⟩ | ⟨g, cap, cur, rfl, -⟩
  · exact ⟨none, 0, by rw [h0]⟩
  · exact ⟨_, cap, rfl⟩
/-- As a slice, wherever it lies. -/
theorem RowG.sl {α : Type} {T : TypeId} {E : Elem α} {w : World} {base : Nat} {v : Value} {L : List α} (h : RowG T E w base v L) : (sl E).E (fun _ => False) w v L := by
  obtain ⟨vs, ho, he⟩ := h
  rcases ho.2 with ⟨rfl, h0⟩ | ⟨g, cap, cur, rfl, hbg, hg, hnc, hcm, hcs, htake⟩
  · have : L = [] := List.eq_nil_of_length_eq_zero h0
    subst this
    exact ⟨none, 0, rfl, .inl rfl⟩
  · refine ⟨_, cap, rfl, .inr ⟨g, 0, rfl, fun h => h, fun i hi => ?_⟩⟩
    obtain ⟨x, hx, hE⟩ := he i hi
    have := ho.cells (g := g) rfl i x hx
    rw [Go.WideShapes.add_plain] at this
    exact ⟨x, this, E.mono hE (fun _ _ h => h.elim)⟩
theorem rowG_app {α : Type} {ops : Array Oper} {rest : List Oper} {o : Oper} {a : Act} {w : World} {Q : Exit → Act → World → Prop} (T : TypeId) (ST : TypeId) (E : Elem α) (hst : Tryz.prog.underlying ST = some (.slice T)) (i0 : TypeInfo) (hinf : Tryz.prog.info? T = some i0) (z : Value) (hz0 : i0.zero = some z) (hz1 : i0.size = 1) (hz2 : i0.bytes = 24) (hzc : z.cells.size = 1)
    (hgd : o.guard = none) (s x : Operand)
    (ho : o.op = .call { callee := .builtin .append, args := #[s, x], argTypes := #[ST, ST] }) (base g0 : Nat) (v y : Value) (L : List α) (u : α) (hs : a.eval s = v) (hx : a.eval x = .slice (some ⟨g0, 0, none⟩) 1 1)
    (h : RowG T E w base v L) (hu : E.E (fun k => v.ownBlock = some k) w y u) (hy : w.cell? ⟨g0, 0, none⟩ = some y) (hbase : base ≤ w.heap.size) (hlen : L.length + 1 ≤ 4398046511104)
    (hK : ∀ g cap w', RowG T E w' base (.slice (some ⟨g, 0, none⟩) (L.length + 1) cap) (L ++ [u]) → w.grownBy w' v.ownBlock → Below base w w' → wpList Tryz.prog ops Q rest (a.put o.dst (.slice (some ⟨g, 0, none⟩) (L.length + 1) cap)) w') : wpList Tryz.prog ops Q (o :: rest) a w :=
  wpList_plain hgd fun _ hk => by
    obtain ⟨vs, hown, he⟩ := h
    have hvs : vs.length = L.length := by have := hown.1; omega
    obtain ⟨g, cap, w', hr, hown', hg, hat, hlt⟩ := run_append_lies (P := Tryz.prog) w ST o.type base T i0 z 1 24 hst hinf hz0 hz1 hz2 hzc (by decide) v L.length vs hown ⟨g0, 0, none⟩ 1 1 [y] rfl
      (fun j q hq => by
        cases j with
        | zero => simp at hq; subst hq; rw [Go.WideShapes.add_plain]; exact hy
        | succ j => simp at hq)
      (fun q hq => by simp at hq; subst hq; exact E.one hu) (by decide) (by unfold maxLen; omega) (by omega) hbase w.heap.size rfl
    have hB : Below base w w' := (Below.refl base w).grown hg hbase (fun j e => (World.ownsRow.lt hown j e).1)
    have kp : Kp (fun k => v.ownBlock = some k) w w' := ⟨hg.os, hg.tape, hg.output, hg.size, fun k hk hx => hg.block k hk (fun e => hx e.symm)⟩
    have hmv : ∀ {q : Value} {b : α}, E.E (fun k => v.ownBlock = some k) w q b → E.E (fun k => (Value.slice (some ⟨g, 0, none⟩) (L.length + 1) cap).ownBlock = some k) w' q b := fun {q b} hq => by
      have h1 : E.E (fun k => v.ownBlock = some k ∨ k = g) w q b := E.mono hq (fun k hk hx => by
        rcases hx with hx | hx
        · exact hx
        · rcases hat with hat | hat
          · rw [hx]; exact hat
          · omega)
      have h2 := E.kp h1 ⟨kp.os, kp.tape, kp.output, kp.size, fun k hk hx => kp.block k hk (fun e => hx (.inl e))⟩
      refine E.mono h2 (fun k hk hx => .inr ?_)
      exact (Option.some.inj (show some g = some k from hx)).symm
    have hR : RowG T E w' base (.slice (some ⟨g, 0, none⟩) (L.length + 1) cap) (L ++ [u]) := by
      refine ⟨vs ++ [y], by rw [List.length_append, List.length_singleton]; exact hown', fun i hi => ?_⟩
      rw [List.length_append, List.length_singleton] at hi
      by_cases hl : i < L.length
      · obtain ⟨q, hq, hE⟩ := he i hl
        exact ⟨q, by rw [List.getElem?_append_left (by omega)]; exact hq, by rw [List.getElem_append_left hl]; exact hmv hE⟩
      · obtain rfl : i = L.length := by omega
        exact ⟨y, by rw [List.getElem?_append_right (by omega), hvs, Nat.sub_self]; rfl, by simpa using hmv hu⟩
    unfold Oper.wp execOp
    simp only [ho, resolve, invoke, builtin, Sem.run_bind, Sem.run_pure, Result.andThen_ok, List.map_toArray, List.map_cons, List.map_nil, hs, hx, hr]
    exact hk _ _ (hK g cap w' hR hg hB)
theorem info43 : (Tryz.prog.info? 29).map (fun i => (i.zero, i.size, i.bytes)) = some (some (.slice none 0 0), 1, 24) := by kernel_rfl
theorem info35 : (Tryz.prog.info? 127).map (fun i => (i.zero, i.size, i.bytes)) = some (some (.slice none 0 0), 1, 24) := by kernel_rfl
theorem info33 : (Tryz.prog.info? 90).map (fun i => (i.zero, i.size, i.bytes)) = some (some (.slice none 0 0), 1, 24) := by kernel_rfl
end Go.Proofs.YtfakgfmgofblgaaGreatDoor
namespace Go.Proofs.YtfakgfmgofblgaaGreatDoor
open Go.RowKit Go.Maps
set_option linter.unusedVariables false      -- a walk need not use every condition
attribute [local go_sem ↓] Go.wp_at_zero Go.wp_at_succ

theorem heap_dn (w : World) : ∀ n, (w.drewN n).heap = w.heap ∧ (w.drewN n).os = w.os ∧ (w.drewN n).tape = w.tape ∧ (w.drewN n).output = w.output := by
  intro n
  induction n generalizing w with
  | zero => exact ⟨rfl, rfl, rfl, rfl⟩
  | succ n ih => exact ih w.drew
theorem bel_dn (w : World) (n : Nat) : Below w.heap.size w (w.drewN n) := ⟨(heap_dn w n).2.1, (heap_dn w n).2.2.1, (heap_dn w n).2.2.2, by rw [(heap_dn w n).1]; exact Nat.le_refl _, fun k hk => by rw [(heap_dn w n).1]⟩
/-- The frame in a slot. -/
def Dsk.fr (s : Dsk) : Fra := fun i => frO (s.con (2 + i))
theorem oP_le (b : List UInt8) : (oP b).length ≤ 112 := by
  unfold oP
  split
  · rename_i h
    unfold opOk at h
    simp only [Bool.and_eq_true, decide_eq_true_eq] at h
    have h1 := h.1
    unfold opP
    simp
    omega
  · simp
theorem frO_le {x : Option (List UInt8)} {K N : Int} {P : List UInt8} (h : frO x = some (K, N, P)) : P.length ≤ 112 := by
  cases x with
  | none => cases h
  | some b =>
    by_cases he : oE b = 0
    · rw [frO_yes he] at h
      injection h with h
      injection h with h1 h2
      injection h2 with h2 h3
      rw [← h3]
      exact oP_le b
    · rw [frO_no he] at h; cases h
theorem pcs_len {F : Fra} {e : Int} (hF : ∀ i K N P, F i = some (K, N, P) → P.length ≤ 112) : ∀ (k i : Nat) (ps : Rs), pcs F e k i = some ps → ps.length ≤ k ∧ ps.flatten.length ≤ 112 * k
  | 0, i, ps, h => by cases h
  | k + 1, i, ps, h => by
    rw [pcs] at h
    cases hFi : F i with
    | none => rw [hFi] at h; cases h
    | some y =>
      obtain ⟨K, N, P⟩ := y
      have hp := hF i K N P hFi
      rw [hFi] at h
      simp only at h
      by_cases h1 : N = e * 65536 + i
      · rw [if_pos h1] at h
        by_cases h2 : K = 3
        · rw [if_pos h2] at h
          injection h with h
          subst h
          simp
          omega
        · rw [if_neg h2] at h
          by_cases h3 : K = 2
          · rw [if_pos h3] at h
            cases hr : pcs F e k (i + 1) with
            | none => rw [hr] at h; cases h
            | some qs =>
              rw [hr] at h
              injection h with h
              subst h
              have := pcs_len hF k (i + 1) qs hr
              rw [List.length_cons, List.flatten_cons, List.length_append]
              omega
          · rw [if_neg h3] at h; cases h
      · rw [if_neg h1] at h; cases h
theorem bsY_fresh {X : Nat → Prop} {w : World} {B : Nat} {v : Value} {t : List UInt8} (h : Bs w v t) (hf : Fresh B v) (hX : ∀ k, X k → k < B) : BsY X w v t := by
  refine ⟨h, fun ht a n c e hx => ?_⟩
  obtain ⟨p, cap, rfl, h1, h2, h3, h4⟩ := h
  obtain ⟨g, o, rfl, hc⟩ := h4.resolve_left ht
  injection e with e1 e2 e3
  injection e1 with e1
  subst e1
  have h5 := hf g o _ _ rfl
  have h6 := hX _ hx
  have h7 : g < B := h6
  omega
/-- What readPieces answers. -/
def PcR (x : Option Rs) (w : World) (e : Ending) (w' : World) : Prop := ∃ p c, e = .returned (.slice p (x.getD []).length c) ∧ (sl bytesE).E (fun _ => False) w' (.slice p (x.getD []).length c) (x.getD []) ∧ Below w.heap.size w w'
theorem pcR_none {w w' : World} (h : Below w.heap.size w w') : PcR none w (.returned (.slice none 0 0)) w' := ⟨none, 0, rfl, ⟨none, 0, rfl, .inl rfl⟩, h⟩
set_option maxHeartbeats 4000000 in
set_option maxRecDepth 100000 in
theorem readPieces176 (w : World) (d pb mb l : Nat) (s : Dsk) (L : Lg) (h0 : At w d pb mb s) (hL0 : LAt w d pb mb l L) (hT0 : TabOk w) (hd : s.down = false) (hN : 2 + L.slots ≤ s.N) :
    Calls Tryz.prog 176 #[.pointer (some ⟨l, 0, none⟩)] w (PcR (pcs s.fr L.e (L.slots - L.used) L.used) w) := by
  have h := Lib.hid h0
  have hL := Lib.hid hL0
  have hT := Lib.hid hT0
  have hsl := hL0.sl
  have hus := hL0.us
  obtain ⟨nv, hblk, hnv⟩ := hL0.blk
  obtain ⟨np, nc, rfl, -⟩ := hnv.1
  obtain ⟨c0, c1, c2, c3, c4, c5, c6, -⟩ := seven_of hblk
  obtain ⟨R, hR⟩ : ∃ R, pcs s.fr L.e (L.slots - L.used) L.used = R := ⟨_, rfl⟩
  rw [hR]
  have HR := Lib.hid hR
  clear h0 hL0 hT0 hnv hR
  have Hblk := Lib.hid hblk
  clear hblk
  go_enter Tryz.func176, Tryz.ntmps176
  go_wp2
  go_loopg [3, 4] (L.slots - L.used) (fun gk s3 s4 wr => ∃ (i : Nat) (acc : Rs), i + gk = L.slots ∧ s4 = .int .i64 i ∧ Hid (RowG 29 bytesE wr w.heap.size s3 acc) ∧ Hid (R = (pcs s.fr L.e gk i).map (acc ++ ·)) ∧ Hid (acc.length ≤ i) ∧ Hid (Below w.heap.size w wr))
  case atStart => exact ⟨L.used, [], by omega, rfl, rowG_nil _ _ _ _, by show R = _; rw [← HR.out]; cases pcs s.fr L.e (L.slots - L.used) L.used <;> rfl, Nat.zero_le _, Below.refl _ _⟩
  case round =>
    obtain ⟨i, acc, hig, rfl, hrow, hsp, hacc, hb⟩ := hrel
    have hblk := blk_on hb.out Hblk.out
    obtain ⟨z0, z1, z2, z3, z4, z5, z6, -⟩ := seven_of hblk
    obtain ⟨ap, ac, rfl⟩ := hrow.out.hdr
    clear c0 c1 c2 c3 c4 c5 c6
    cases gk with
    | zero =>
      obtain rfl : i = L.slots := by omega
      have hRn : R = none := by rw [hsp.out]; rfl
      subst hRn
      go_wp2
      go_ret
      exact pcR_none hb.out
    | succ g =>
      have hi : (i : Int) < (L.slots : Int) := by omega
      have hi2 : i ≤ 4096 := by omega
      have c64 := fun W (hW : Below wr.heap.size wr W) => readFrame175 W d pb mb s ((h.out.on hb.out).on hW) (tab_on (tab_on hT.out hb.out) hW) hd (2 + i) (by omega)
      have c53 := fun W => sectorOf171 W i hi2
      have d0 : wr.drew.cell? ⟨l, 0, none⟩ = some (.pointer (some ⟨d, 0, none⟩)) := z0
      have a0 : (wr.alloc (.cells #[.int .i64 0, .int .i64 0, .slice none 0 0] 190)).cell? ⟨l, 0, none⟩ = some (.pointer (some ⟨d, 0, none⟩)) := cell_on (bel1 wr _) z0
      obtain ⟨X, hX⟩ : ∃ X, frO (s.con (2 + i)) = X := ⟨_, rfl⟩
      rw [hX] at c64
      have HX : Hid (s.fr i = X) := hX
      have HXl : Hid (∀ K N P, X = some (K, N, P) → P.length ≤ 112) := by show ∀ K N P, X = some (K, N, P) → P.length ≤ 112; rw [← hX]; exact fun K N P e => frO_le e
      have hFz : Hid ((wr.alloc (.cells #[.int .i64 0, .int .i64 0, .slice none 0 0] 190)).heap[wr.heap.size]? = some (.cells #[.int .i64 0, .int .i64 0, .slice none 0 0] 190)) := heap_alloc_last wr _
      unfold FrmR at c64
      clear hX
      go_upto_region 5 with fail
      go_cut [5, 6] from 20 to 29 (fun s5 s6 wx => ∃ (f : Nat) (K N : Int) (P : List UInt8) (p : Option Addr) (c : Nat), s5 = .pointer (some ⟨f, 0, none⟩) ∧ s6 = .bool X.isSome ∧ wr.heap.size ≤ f ∧ wx.heap[f]? = some (.cells #[.int .i64 K, .int .i64 N, .slice p P.length c] 190) ∧ Hid (Bs wx (.slice p P.length c) P) ∧ Hid (Fresh wr.heap.size (.slice p P.length c)) ∧ Hid (∀ y, X = some y → y = (K, N, P)) ∧ Hid (Below wr.heap.size wr wx))
      case first =>
        go_region_with (first
          | (go_at_call 171; refine (c53 _).mono ?_; rintro e W5 ⟨rfl, hw5⟩; subst hw5)
          | (go_at_call 175
             refine (c64 _ (by first | exact (Below.refl _ wr).drew | exact (bel1 wr _).drew | exact bel_da wr _)).mono ?_
             rintro e W1 ⟨K, N, P, p, c, rfl, hbs, hfr, hy, hb1⟩
             have hB1 : Below wr.heap.size wr W1 := by first | exact bel_then ((Below.refl _ wr).drew) hb1 | exact bel_then ((bel1 wr _).drew) hb1 | exact bel_then (bel_da wr _) hb1
             (first
               | (have fz : W1.heap[wr.heap.size]? = some (.cells #[.int .i64 0, .int .i64 0, .slice none 0 0] 190) := (hb1.block _ (by simp)).trans hFz.out
                  obtain ⟨q0, q1, q2, qf⟩ := three_of fz
                  have qf0 := qf 0
                  have qf1 := qf 1
                  have qf2 := qf 2
                  have HFZ := Lib.hid fz
                  have hfr2 : Fresh (wr.heap.size + 1) (.slice p P.length c) := hfr.mono (by simp)
                  have HF2 := Lib.hid hfr2
                  clear fz qf hfr2)
               | skip)
             have HBS := Lib.hid hbs
             have HFR := Lib.hid (hfr.mono (show wr.heap.size ≤ _ by simp))
             have HY := Lib.hid hy
             have HB1 := Lib.hid hB1
             clear hbs hfr hy hb1 hB1))
        all_goals
          go_wp2
          go_meet
          case rel =>
            first
              | (have hh := HFZ.out; exact ⟨wr.heap.size, K, N, P, p, c, rfl, rfl, Nat.le_refl _, blk_put3 HFZ.out _ _ _, HBS.out.grownB (gr_put3 _ _ _ _ _) (fun g o n c e => by have := HF2.out g o n c e; omega), HFR.out, HY.out, HB1.out.grown (gr_put3 _ _ _ _ _) HB1.out.size (fun j e => by injection e with e; omega)⟩)
              | exact ⟨W1.heap.size, K, N, P, p, c, rfl, rfl, HB1.out.size, heap_alloc_last _ _, HBS.out.on (bel1 _ _), HFR.out, HY.out, bel_then HB1.out (bel1 _ _)⟩
      case rest =>
        obtain ⟨f, K, N, P, p, c, rfl, rfl, hwf, hbx, HBS, HFR, HY, HBx⟩ := hcut
        have Hbx := Lib.hid hbx
        obtain ⟨b0, b1, b2, -⟩ := three_of hbx
        obtain ⟨e0, e1, e2, -⟩ := three_of (w := wc.drew) hbx
        have HBw := Lib.hid (hb.out.trans (HBx.out.mono hb.out.size))
        have HLc := Lib.hid (hL.out.on HBw.out)
        have HRow := Lib.hid (hrow.out.on HBx.out)
        have hrow' := Lib.hid hrow.out
        clear c64 c53 d0 a0 hrow hFz z0 z1 z2 z3 z4 z5 z6
        cases X with
        | none =>
          have hRn : R = none := by rw [hsp.out, pcs, HX.out]; rfl
          subst hRn
          clear hsp
          simp only [Option.isSome_none]
          go_wp2
          go_quiet (fail)
          go_wp2
          go_ret
          exact pcR_none (bel_then HBw.out (bel_dn _ _))
        | some y =>
          have hyy := HY.out _ rfl
          subst hyy
          simp only [Option.isSome_some]
          by_cases hNN : N = L.e * 65536 + i
          · have hne : (N != L.e * 65536 + (i : Int)) = false := by simp; exact hNN
            have hsp2 : Hid (R = (if K = 3 then some [P] else if K = 2 then (pcs s.fr L.e g (i + 1)).map (P :: ·) else none).map (acc ++ ·)) := by
              show R = _
              rw [hsp.out, pcs, HX.out]
              simp only
              rw [if_pos hNN]
            have hPl := HXl.out K N P rfl
            obtain ⟨i0, hi', hz0, hz1, hz2⟩ := info_parts info43
            have hlt : ∀ k, (Value.slice ap acc.length ac).ownBlock = some k → k < wr.heap.size := fun k e => by obtain ⟨vs, ho, -⟩ := hrow'.out; exact (World.ownsRow.lt ho k e).2
            have HBY := Lib.hid (bsY_fresh HBS.out HFR.out hlt)
            clear hsp hNN
            by_cases hK3 : K = 3
            · subst hK3
              have hRs : R = some (acc ++ [P]) := by rw [hsp2.out, if_pos rfl]; rfl
              subst hRs
              go_wp2
              go_quiet ((go_at_call 170; refine Calls.quiet_of_same (number170 _ d pb mb l L (HLc.out.on (bel_dn _ _)) i hi2)))
              go_wp2_with (at_builtin
                           refine rowG_app 29 127 bytesE Tryz.underlying127 i0 hi' (.slice none 0 0) hz0 hz1 hz2 rfl rfl _ _ rfl w.heap.size (wc.drewN nq).heap.size _ (.slice p P.length c) acc P rfl rfl ((HRow.out.on (bel_dn _ _)).on (bel1 _ _)) ((HBY.out.kp (Kp.bel (bel_dn wc nq))).kp (Kp.bel (bel1 _ _))) (cell_new _ _ _) (by have := HBw.out.size; have := (bel_dn wc nq).size; simp; omega) (by have := hacc.out; omega) ?_
                           intro g7 c7 w7 hR7 hg7 hb7
                           have HR7 := Lib.hid hR7
                           have HB7 := Lib.hid ((bel_then (bel_then HBw.out (bel_dn wc nq)) (bel1 _ (.cells #[.slice p P.length c] 29))).trans hb7)
                           have k7 := (hg7.block f (Nat.lt_of_lt_of_le (Array.getElem?_eq_some_iff.1 (blk_on (bel_dn wc nq) Hbx.out)).1 (bel1 (wc.drewN nq) _).size) (fun e => by have := hlt f e.symm; omega)).trans (blk_on (bel1 _ (.cells #[.slice p P.length c] 29)) (blk_on (bel_dn wc nq) Hbx.out))
                           obtain ⟨x0, -, -, -⟩ := three_of k7
                           clear hR7 hg7 hb7 k7)
              go_ret
              have hln : (acc ++ [P]).length = acc.length + 1 := by simp
              refine ⟨_, _, by show _ = Ending.returned (.slice _ (acc ++ [P]).length _); rw [hln]; rfl, ?_, HB7.out⟩
              show (sl bytesE).E _ _ (.slice _ (acc ++ [P]).length _) (acc ++ [P])
              rw [hln]
              exact HR7.out.sl
            · by_cases hK2 : K = 2
              · subst hK2
                have hRs : Hid (R = (pcs s.fr L.e g (i + 1)).map ((acc ++ [P]) ++ ·)) := by
                  show R = _
                  rw [hsp2.out, if_neg (by decide), if_pos rfl]
                  cases pcs s.fr L.e g (i + 1) with
                  | none => rfl
                  | some q => simp
                have hAl : Hid ((acc ++ [P]).length ≤ i + 1) := by show _ ≤ _; have := hacc.out; simp; omega
                clear hsp2
                go_wp2
                go_quiet ((go_at_call 170; refine Calls.quiet_of_same (number170 _ d pb mb l L (HLc.out.on (bel_dn _ _)) i hi2)))
                go_wp2_with (at_builtin
                             refine rowG_app 29 127 bytesE Tryz.underlying127 i0 hi' (.slice none 0 0) hz0 hz1 hz2 rfl rfl _ _ rfl w.heap.size (wc.drewN nq).heap.size _ (.slice p P.length c) acc P rfl rfl ((HRow.out.on (bel_dn _ _)).on (bel1 _ _)) ((HBY.out.kp (Kp.bel (bel_dn wc nq))).kp (Kp.bel (bel1 _ _))) (cell_new _ _ _) (by have := HBw.out.size; have := (bel_dn wc nq).size; simp; omega) (by have := hacc.out; omega) ?_
                             intro g7 c7 w7 hR7 hg7 hb7
                             have HR7 := Lib.hid hR7
                             have HB7 := Lib.hid ((bel_then (bel_then HBw.out (bel_dn wc nq)) (bel1 _ (.cells #[.slice p P.length c] 29))).trans hb7)
                             have k7 := (hg7.block f (Nat.lt_of_lt_of_le (Array.getElem?_eq_some_iff.1 (blk_on (bel_dn wc nq) Hbx.out)).1 (bel1 (wc.drewN nq) _).size) (fun e => by have := hlt f e.symm; omega)).trans (blk_on (bel1 _ (.cells #[.slice p P.length c] 29)) (blk_on (bel_dn wc nq) Hbx.out))
                             obtain ⟨x0, -, -, -⟩ := three_of k7
                             clear hR7 hg7 hb7 k7)
                go_roundg g
                case measure => omega
                case rel =>
                  exact ⟨i + 1, acc ++ [P], by omega, by first | rfl | simp, HR7, hRs, hAl, HB7⟩
              · have hRs : R = none := by rw [hsp2.out, if_neg hK3, if_neg hK2]; rfl
                subst hRs
                have hk3 : (K == 3) = false := by simp; exact hK3
                have hk2 : (K == 2) = false := by simp; exact hK2
                go_wp2
                go_quiet ((go_at_call 170; refine Calls.quiet_of_same (number170 _ d pb mb l L (HLc.out.on (bel_dn _ _)) i hi2)))
                go_wp2_with (at_builtin
                             refine rowG_app 29 127 bytesE Tryz.underlying127 i0 hi' (.slice none 0 0) hz0 hz1 hz2 rfl rfl _ _ rfl w.heap.size (wc.drewN nq).heap.size _ (.slice p P.length c) acc P rfl rfl ((HRow.out.on (bel_dn _ _)).on (bel1 _ _)) ((HBY.out.kp (Kp.bel (bel_dn wc nq))).kp (Kp.bel (bel1 _ _))) (cell_new _ _ _) (by have := HBw.out.size; have := (bel_dn wc nq).size; simp; omega) (by have := hacc.out; omega) ?_
                             intro g7 c7 w7 hR7 hg7 hb7
                             have HR7 := Lib.hid hR7
                             have HB7 := Lib.hid ((bel_then (bel_then HBw.out (bel_dn wc nq)) (bel1 _ (.cells #[.slice p P.length c] 29))).trans hb7)
                             have k7 := (hg7.block f (Nat.lt_of_lt_of_le (Array.getElem?_eq_some_iff.1 (blk_on (bel_dn wc nq) Hbx.out)).1 (bel1 (wc.drewN nq) _).size) (fun e => by have := hlt f e.symm; omega)).trans (blk_on (bel1 _ (.cells #[.slice p P.length c] 29)) (blk_on (bel_dn wc nq) Hbx.out))
                             obtain ⟨x0, -, -, -⟩ := three_of k7
                             clear hR7 hg7 hb7 k7)
                go_ret
                exact pcR_none HB7.out
          · have hRn : R = none := by rw [hsp.out, pcs, HX.out]; simp only; rw [if_neg hNN]; rfl
            subst hRn
            have hne : (N != L.e * 65536 + (i : Int)) = true := by simp; exact hNN
            clear hsp
            go_wp2
            go_quiet ((go_at_call 170; refine Calls.quiet_of_same (number170 _ d pb mb l L (HLc.out.on (bel_dn _ _)) i hi2)))
            go_wp2
            go_ret
            exact pcR_none (bel_then HBw.out (bel_dn _ _))
end Go.Proofs.YtfakgfmgofblgaaGreatDoor
namespace Go.Proofs.YtfakgfmgofblgaaGreatDoor
open Go.RowKit Go.Maps
set_option linter.unusedVariables false      -- a walk need not use every condition
attribute [local go_sem ↓] Go.wp_at_zero Go.wp_at_succ

theorem rdc_is (F : Fra) (e : Int) (k i : Nat) : rdc F e k i = (rc ((pcs F e k i).getD []).flatten).map fun r => (r, ((pcs F e k i).getD []).length) := by
  unfold rdc
  cases pcs F e k i with
  | none => rfl
  | some ps => rfl
theorem fr_le (s : Dsk) : ∀ i K N P, s.fr i = some (K, N, P) → P.length ≤ 112 := fun i K N P h => frO_le h
/-- What readCommit answers. -/
def RcR (x : Option (Rs × Nat)) (w : World) (e : Ending) (w' : World) : Prop := ∃ p n c k, e = .returned (.tuple #[.slice p n c, .int .i64 (k : Nat)]) ∧ (x = none → k = 0) ∧ (∀ r m, x = some (r, m) → k = m ∧ RowB w' w.heap.size (.slice p n c) r) ∧ Below w.heap.size w w'
set_option maxHeartbeats 2000000 in
set_option maxRecDepth 100000 in
theorem readCommit144 (w : World) (d pb mb l : Nat) (s : Dsk) (L : Lg) (h : At w d pb mb s) (hL : LAt w d pb mb l L) (hT : TabOk w) (hd : s.down = false) (hN : 2 + L.slots ≤ s.N) :
    Calls Tryz.prog 144 #[.pointer (some ⟨l, 0, none⟩)] w (RcR (rdc s.fr L.e (L.slots - L.used) L.used) w) := by
  have c66 := readPieces176 w d pb mb l s L h hL hT hd hN
  have hsl := hL.sl
  have hlen : ((pcs s.fr L.e (L.slots - L.used) L.used).getD []).length ≤ 4096 ∧ ((pcs s.fr L.e (L.slots - L.used) L.used).getD []).flatten.length ≤ 458752 := by
    cases hx : pcs s.fr L.e (L.slots - L.used) L.used with
    | none => simp
    | some ps =>
      have := pcs_len (fr_le s) _ _ _ hx
      show ps.length ≤ 4096 ∧ ps.flatten.length ≤ 458752
      omega
  rw [rdc_is]
  generalize pcs s.fr L.e (L.slots - L.used) L.used = X at *
  unfold PcR at c66
  generalize X.getD [] = ps at *
  have c68 := fun (W : World) (v : Value) (hE : (sl bytesE).E (fun _ => False) W v ps) => join150 W v ps (bss_of hE) (by omega) (by omega)
  have c67 := fun (W : World) (v : Value) (hE : Bs W v ps.flatten) => recordsOf177 W v ps.flatten hE (by omega)
  unfold RecR at c67
  generalize ps.flatten = FL at *
  clear h hL hT hd hN hlen hsl
  cases hr : rc FL with
  | none =>
    have HRc := Lib.hid hr
    clear hr
    show Calls _ _ _ _ (RcR none w)
    go_enter Tryz.func144, Tryz.ntmps144
    go_wp2_with (first
      | (go_at_call 176; refine c66.mono ?_; rintro e w1 ⟨p1, q1, rfl, hE1, hb1⟩; have HE1 := Lib.hid hE1; have HB1 := Lib.hid hb1; clear hE1 hb1)
      | (go_at_call 150; refine (c68 _ _ HE1.out).mono ?_; rintro e w2 ⟨v2, rfl, hbt, hb2⟩; have HBT := Lib.hid hbt.bs; have HB2 := Lib.hid (bel_then HB1.out hb2); obtain ⟨p2, q2, rfl, -⟩ := hbt.bs; clear hbt hb2)
      | (go_at_call 177; refine (c67 _ _ HBT.out).mono ?_; rintro e w3 ⟨p3, n3, q3, rfl, hrow, hb3⟩; rw [HRc.out]; simp only [Option.isSome_none]; have HB3 := Lib.hid (bel_then HB2.out hb3); clear hrow hb3))
    go_ret2
    exact ⟨none, 0, 0, 0, rfl, fun _ => rfl, fun r m e => (by cases e), HB3.out⟩
  | some r =>
    have HRc := Lib.hid hr
    clear hr
    show Calls _ _ _ _ (RcR (some (r, ps.length)) w)
    go_enter Tryz.func144, Tryz.ntmps144
    go_wp2_with (first
      | (go_at_call 176; refine c66.mono ?_; rintro e w1 ⟨p1, q1, rfl, hE1, hb1⟩; have HE1 := Lib.hid hE1; have HB1 := Lib.hid hb1; clear hE1 hb1)
      | (go_at_call 150; refine (c68 _ _ HE1.out).mono ?_; rintro e w2 ⟨v2, rfl, hbt, hb2⟩; have HBT := Lib.hid hbt.bs; have HB2 := Lib.hid (bel_then HB1.out hb2); obtain ⟨p2, q2, rfl, -⟩ := hbt.bs; clear hbt hb2)
      | (go_at_call 177; refine (c67 _ _ HBT.out).mono ?_; rintro e w3 ⟨p3, n3, q3, rfl, hrow, hb3⟩; have HRow := Lib.hid (RowB.mono (hrow r HRc.out) HB2.out.size); rw [HRc.out]; simp only [Option.isSome_some]; have HB3 := Lib.hid (bel_then HB2.out hb3); clear hrow hb3))
    go_ret2
    refine ⟨_, _, _, ps.length, rfl, fun e => (by cases e), fun r' m e => ?_, HB3.out⟩
    injection e with e
    injection e with e1 e2
    subst e1 e2
    exact ⟨rfl, HRow.out⟩
end Go.Proofs.YtfakgfmgofblgaaGreatDoor
namespace Go.Proofs.YtfakgfmgofblgaaGreatDoor
open Go.RowKit Go.Maps
set_option linter.unusedVariables false      -- a walk need not use every condition
attribute [local go_sem ↓] Go.wp_at_zero Go.wp_at_succ

/-- Things that lie in none of some blocks besides. -/
def Elem.ban {α : Type} (E : Elem α) (Z : Nat → Prop) : Elem α where
  E := fun X w x a => E.E (fun k => X k ∨ Z k) w x a
  kp := fun h hk => E.kp h (hk.mono fun k hx => .inl hx)
  mono := fun h hY => E.mono h (fun k hk hy => by
    rcases hy with hy | hy
    · exact .inl (hY k hk hy)
    · exact .inr hy)
  one := fun h => E.one h
theorem own_kp {Z : Nat → Prop} {w w' : World} {base : Nat} {e : TypeId} {size : Nat} {v : Value} {n : Nat} {xs : List Value} (h : w.ownsRow base e size v n xs) (hk : Kp Z w w') (hZ : ∀ k, Z k → k < base) : w'.ownsRow base e size v n xs :=
  own_same h fun g hg hl => hk.block g hl (fun hz => by have := hZ g hz; omega)
theorem RowG.kpZ {α : Type} {T : TypeId} {E : Elem α} {Z : Nat → Prop} {w w' : World} {base : Nat} {v : Value} {L : List α} (h : RowG T (E.ban Z) w base v L) (hk : Kp Z w w') (hZ : ∀ k, Z k → k < base) : RowG T (E.ban Z) w' base v L := by
  obtain ⟨vs, ho, he⟩ := h
  refine ⟨vs, own_kp ho hk hZ, fun i hi => ?_⟩
  obtain ⟨x, hx, hE⟩ := he i hi
  exact ⟨x, hx, E.kp hE (hk.mono fun k hz => .inr hz)⟩
theorem sl_unban {α : Type} {E : Elem α} {Z X : Nat → Prop} {w : World} {v : Value} {L : List α} (h : (sl (E.ban Z)).E X w v L) : (sl E).E X w v L := by
  obtain ⟨p, cap, rfl, h⟩ := h
  refine ⟨p, cap, rfl, ?_⟩
  rcases h with h | ⟨g, o, rfl, hx, h⟩
  · exact .inl h
  · refine .inr ⟨g, o, rfl, hx, fun i hi => ?_⟩
    obtain ⟨y, hy, hE⟩ := h i hi
    exact ⟨y, hy, E.mono hE fun k _ hk => .inl hk⟩
theorem bts_bsY {X : Nat → Prop} {w : World} {base : Nat} {v : Value} {t : List UInt8} (h : Bts w base v t) (hX : ∀ k, X k → k < base ∨ w.heap.size ≤ k) : BsY X w v t := by
  refine ⟨h.bs, fun ht a n c e hx => ?_⟩
  have h1 := h.bs.blk_lt ht e
  rcases h.2 with ⟨rfl, h0⟩ | ⟨g, cap, cur, rfl, hbg, -⟩
  · cases e
  · injection e with e
    injection e with e
    subst e
    have := hX _ hx
    simp at this h1
    omega
theorem rowB_sl {X : Nat → Prop} {w : World} {base : Nat} {v : Value} {r : Rs} (h : RowB w base v r) (hX : ∀ k, X k → k < base ∨ w.heap.size ≤ k) : (sl bytesE).E X w v r := by
  obtain ⟨vs, ho, he⟩ := h
  have hlt := fun g e => World.ownsRow.lt ho g e
  rcases ho.2 with ⟨rfl, h0⟩ | ⟨g, cap, cur, rfl, hbg, hg, hnc, hcm, hcs, htake⟩
  · have : r = [] := List.eq_nil_of_length_eq_zero h0
    subst this
    exact ⟨none, 0, rfl, .inl rfl⟩
  · refine ⟨_, cap, rfl, .inr ⟨g, 0, rfl, fun hx => ?_, fun i hi => ?_⟩⟩
    · have := hX g hx
      have := (Array.getElem?_eq_some_iff.1 hg).1
      omega
    · obtain ⟨x, hx, hB⟩ := he i hi
      have := ho.cells (g := g) rfl i x hx
      rw [Go.WideShapes.add_plain] at this
      exact ⟨x, this, bts_bsY hB hX⟩
theorem rdc_some {s : Dsk} {e : Int} {k i : Nat} {r : Rs} {n : Nat} (h : rdc s.fr e k i = some (r, n)) : 1 ≤ n ∧ n ≤ k := by
  unfold rdc at h
  cases hp : pcs s.fr e k i with
  | none => rw [hp] at h; cases h
  | some ps =>
    rw [hp] at h
    simp only at h
    have hl := pcs_len (fr_le s) _ _ _ hp
    cases hr : rc ps.flatten with
    | none => rw [hr] at h; cases h
    | some r' =>
      rw [hr] at h
      injection h with h
      injection h with h1 h2
      subst h2
      refine ⟨?_, hl.1⟩
      cases ps with
      | nil => rw [List.flatten_nil, rc_nil] at hr; cases hr
      | cons a b => simp
/-- A log's block is written. -/
theorem LAt.setUsed {w : World} {d pb mb l : Nat} {L : Lg} (h : LAt w d pb mb l L) {u : Nat} (hu : u ≤ L.slots) : LAt (w.setCell ⟨l, 4, none⟩ (.int .i64 u)) d pb mb l { L with used := u } := by
  obtain ⟨nv, hb, hn⟩ := h.blk
  refine { h with blk := ⟨nv, ?_, hn.kp (Kp.grown (gr_set w l 4 _) (.inr (.inr (.inr rfl))))⟩, us := hu }
  rw [blk_set hb]
  rfl
theorem Kp.bel2 {X : Nat → Prop} {w a b : World} (h : Kp X w a) (hb : Below w.heap.size a b) : Kp X w b :=
  ⟨hb.os.trans h.os, hb.tape.trans h.tape, hb.output.trans h.output, Nat.le_trans h.size hb.size, fun k hk hx => (hb.block k hk).trans (h.block k hk hx)⟩
/-- What readCommits answers. -/
def RcsR (x : Cs × Nat) (d pb mb l : Nat) (s : Dsk) (L : Lg) (w : World) (e : Ending) (w' : World) : Prop :=
  ∃ p c, e = .returned (.slice p x.1.length c) ∧ (sl (sl bytesE)).E (fun _ => False) w' (.slice p x.1.length c) x.1 ∧ At w' d pb mb s ∧ LAt w' d pb mb l { L with used := x.2 } ∧ Kp (fun k => k = l) w w'
set_option maxHeartbeats 4000000 in
set_option maxRecDepth 100000 in
theorem readCommits101 (w : World) (d pb mb l : Nat) (s : Dsk) (L : Lg) (h0 : At w d pb mb s) (hL0 : LAt w d pb mb l L) (hT0 : TabOk w) (hd : s.down = false) (hN : 2 + L.slots ≤ s.N) :
    Calls Tryz.prog 101 #[.pointer (some ⟨l, 0, none⟩)] w (RcsR (rds s.fr L.e L.slots (L.slots - L.used + 1) L.used) d pb mb l s L w) := by
  have h := Lib.hid h0
  have hT := Lib.hid hT0
  have hL := Lib.hid hL0
  have hus := hL0.us
  have hsl := hL0.sl
  have hlt := hL0.lt
  have hne := hL0.ne
  have hnz := hL0.nz hT0
  have lts := h0.lts
  obtain ⟨i0, hi', hz0, hz1, hz2⟩ := info_parts info35
  obtain ⟨R, hR⟩ : ∃ R, rds s.fr L.e L.slots (L.slots - L.used + 1) L.used = R := ⟨_, rfl⟩
  rw [hR]
  have HR := Lib.hid hR
  obtain ⟨nv, hblk, hnv⟩ := hL0.blk
  have HBK := Lib.hid hblk
  have mkL : ∀ (W : World) (u : Nat), u ≤ L.slots → W.heap[l]? = some (.cells #[.pointer (some ⟨d, 0, none⟩), .int .i64 L.e, .int .i64 L.slots, nv, .int .i64 u, .bool L.stale, .bool L.broken] 144) → Kp (fun k => k = l) w W → LAt W d pb mb l { L with used := u } := fun W u hu hb hk =>
    { hL0 with blk := ⟨nv, hb, hnv.kp (hk.mono fun k e => .inr (.inr (.inr e)))⟩, us := hu }
  have mkA : ∀ W, Kp (fun k => k = l) w W → At W d pb mb s := fun W hk => h0.same (hk.block _ lts.1 (fun e => hne.1 e.symm)) (hk.block _ lts.2.1 (fun e => hne.2.1 e.symm)) (hk.block _ lts.2.2.1 (fun e => hne.2.2 e.symm))
  have MKL := Lib.hid mkL
  have MKA := Lib.hid mkA
  obtain ⟨np, nc, rfl, -⟩ := hnv.1
  obtain ⟨z0, z1, z2, z3, z4, z5, z6, -⟩ := seven_of hblk
  clear h0 hT0 hL0 hR mkL mkA hnv hblk
  go_enter Tryz.func101, Tryz.ntmps101
  go_wp2
  go_loopg [3] (L.slots - L.used + 1) (fun gk s3 wr => ∃ (u : Nat) (acc : Cs), L.slots - u < gk ∧ u ≤ L.slots ∧ Hid (acc.length ≤ u) ∧ Hid (RowG 127 ((sl bytesE).ban (fun k => k = l)) wr w.heap.size s3 acc) ∧ Hid (R = (acc ++ (rds s.fr L.e L.slots gk u).1, (rds s.fr L.e L.slots gk u).2)) ∧ Hid (wr.heap[l]? = some (.cells #[.pointer (some ⟨d, 0, none⟩), .int .i64 L.e, .int .i64 L.slots, .slice np L.note.length nc, .int .i64 u, .bool L.stale, .bool L.broken] 144)) ∧ Hid (Kp (fun k => k = l) w wr))
  case atStart => exact ⟨L.used, [], by omega, hus, Nat.zero_le _, rowG_nil _ _ _ _, by show R = _; rw [← HR.out]; rfl, HBK.out, Kp.refl _ _⟩
  case round =>
    clear z0 z1 z2 z3 z4 z5 z6
    obtain ⟨u, acc, hgu, huS, hacc, hrow, hsp, hbk, hK⟩ := hrel
    obtain ⟨g, rfl⟩ : ∃ g, gk = g + 1 := ⟨gk - 1, by omega⟩
    have hTr : TabOk wr := tab_blk hT.out (hK.out.block 0 (World.block_lt_of_cell? w _ (tab_zero hT.out)) (fun e => hnz e.symm))
    have c56 := readCommit144 wr d pb mb l s _ (MKA.out wr hK.out) (MKL.out wr u huS hbk.out hK.out) hTr hd hN
    obtain ⟨ap, ac, rfl⟩ := hrow.out.hdr
    simp only at c56
    cases hrd : rdc s.fr L.e (L.slots - u) u with
    | none =>
      rw [hrd] at c56
      have hRs : R = (acc, u) := by rw [hsp.out, rds, hrd]; simp
      subst hRs
      unfold RcR at c56
      clear hsp hrd
      go_wp2_with (go_at_call 144; refine c56.mono ?_; rintro e w1 ⟨p1, n1, q1, k1, rfl, hk1, -, hb1⟩; have hk0 := hk1 rfl; subst hk0; have HB1 := Lib.hid hb1; clear hk1 hb1)
      go_ret
      have hK1 := hK.out.trans (Kp.bel HB1.out)
      exact ⟨ap, ac, rfl, sl_unban ((hrow.out.on HB1.out).sl), MKA.out _ hK1, MKL.out _ u huS (blk_on HB1.out hbk.out) hK1, hK1⟩
    | some y =>
      obtain ⟨r, n⟩ := y
      rw [hrd] at c56
      have hn := rdc_some hrd
      have hRs : Hid (R = ((acc ++ [r]) ++ (rds s.fr L.e L.slots g (u + n)).1, (rds s.fr L.e L.slots g (u + n)).2)) := by show R = _; rw [hsp.out, rds, hrd]; simp
      unfold RcR at c56
      have e1 : IntKind.i64.wrap ((u : Int) + (n : Int)) = ((u + n : Nat) : Int) := by rw [IntKind.wrap_i64]; omega
      have hn0 : ((n : Int) == 0) = false := by rw [beq_eq_false_iff_ne]; omega
      have hbz := hK.out.size
      clear hsp hrd
      go_wp2_with (first
        | (go_at_call 144; refine c56.mono ?_; rintro e w1 ⟨p1, n1, q1, k1, rfl, -, hk1, hb1⟩
           obtain ⟨hk0, hr1⟩ := hk1 _ _ rfl
           subst hk0
           have HB1 := Lib.hid hb1
           have HR1 := Lib.hid (show (sl bytesE).E (fun k => ((Value.slice ap acc.length ac).ownBlock = some k) ∨ k = l) w1 (.slice p1 n1 q1) r from rowB_sl hr1 (fun k hk => by
             rcases hk with hk | hk
             · obtain ⟨vs, ho, -⟩ := hrow.out
               exact .inl (World.ownsRow.lt ho k hk).2
             · subst hk
               exact .inl (Nat.lt_of_lt_of_le hlt hbz)))
           clear hk1 hb1 hr1)
        | (at_builtin
           refine rowG_app 127 90 ((sl bytesE).ban (fun k => k = l)) Tryz.underlying90 i0 hi' (.slice none 0 0) hz0 hz1 hz2 rfl rfl _ _ rfl w.heap.size w1.heap.size _ (.slice p1 n1 q1) acc r rfl rfl ((hrow.out.on HB1.out).on (bel1 _ _)) ((sl bytesE).kp HR1.out (Kp.bel (bel1 _ _))) (cell_new _ _ _) (by have := HB1.out.size; simp; omega) (by have := hacc.out; omega) ?_
           intro g7 c7 w7 hR7 hg7 hb7
           have HR7 := Lib.hid hR7
           have HK7 := Lib.hid ((hK.out.trans (Kp.bel (bel_then HB1.out (bel1 w1 (.cells #[.slice p1 n1 q1] 127))))).bel2 hb7)
           have k7 := (hb7.block l hlt).trans (blk_on (bel_then HB1.out (bel1 w1 (.cells #[.slice p1 n1 q1] 127))) hbk.out)
           have Hk7 := Lib.hid k7
           obtain ⟨-, -, -, -, y4, -, -, yf⟩ := seven_of k7
           have yf4 := yf 4
           clear hR7 hg7 hb7 k7 yf))
      go_roundg g
      case measure => omega
      case rel =>
        have hKs : Kp (fun k => k = l) w7 (w7.setCell ⟨l, 4, none⟩ (.int .i64 ((u + k1 : Nat) : Int))) := Kp.grown (gr_set w7 l 4 _) rfl
        refine ⟨u + k1, acc ++ [r], by omega, by omega, by show _ ≤ _; have := hacc.out; simp; omega, ?_, hRs, ?_, ?_⟩
        · exact HR7.out.kpZ hKs (fun k e => by subst e; exact hlt)
        · show _ = _
          rw [blk_set Hk7.out]
          rfl
        · exact HK7.out.trans hKs
end Go.Proofs.YtfakgfmgofblgaaGreatDoor
