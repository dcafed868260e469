/-
  What newestHead of package wal does.
  Things in memory that touch some blocks and no others; slices of such things; rows of one's own that grow.
-/
import Derived.Test.YtnclhjjhobbbjaaDoorZRh
import Derived.Test.YtnclhjjhobbbjaaDoorZLgLsCom
import Derived.Test.YtnclhjjhobbbjaaDoorZCtmRctBsxNumpNumTFuse
namespace Go.Proofs.YtnclhjjhobbbjaaDoor
open Go.RowKit Go.Maps
set_option linter.unusedVariables false      -- a walk need not use every condition
attribute [local go_sem ↓] Go.wp_at_zero Go.wp_at_succ

/-- The head that holds. -/
def newest (a b : Hd) : Hd := if b.1 < a.1 then a else b
def Dsk.head (s : Dsk) : Hd := newest (hdOf (frO (s.con 0)) 0 s.N) (hdOf (frO (s.con 1)) 1 s.N)
theorem six_of {w : World} {g : Nat} {a b c d e f : Value} {t : TypeId} (hb : w.heap[g]? = some (.cells #[a, b, c, d, e, f] t)) :
    w.cell? ⟨g, 0, none⟩ = some a ∧ w.cell? ⟨g, 1, none⟩ = some b ∧ w.cell? ⟨g, 2, none⟩ = some c ∧ w.cell? ⟨g, 3, none⟩ = some d ∧ w.cell? ⟨g, 4, none⟩ = some e ∧ w.cell? ⟨g, 5, none⟩ = some f ∧ ∀ i, w.frozen? ⟨g, i, none⟩ = false := by
  refine ⟨?_, ?_, ?_, ?_, ?_, ?_, fun i => ?_⟩ <;> simp [World.cell?, World.frozen?, hb]
/-- Two heads lie in an array. -/
def NhI (w wr : World) (A B : Hd) : Prop := wr.heap[w.heap.size]? = some (.cells #[.int .i64 0, .int .i64 0, .slice none 0 0] 52) ∧ Below w.heap.size w wr ∧
  ∃ p0 c0 p1 c1, wr.heap[w.heap.size + 1]? = some (.cells #[.int .i64 A.1, .int .i64 A.2.1, .slice p0 A.2.2.length c0, .int .i64 B.1, .int .i64 B.2.1, .slice p1 B.2.2.length c1] 89) ∧
    Bs wr (.slice p0 A.2.2.length c0) A.2.2 ∧ Bs wr (.slice p1 B.2.2.length c1) B.2.2 ∧ Fresh (w.heap.size + 2) (.slice p0 A.2.2.length c0) ∧ Fresh (w.heap.size + 2) (.slice p1 B.2.2.length c1)
theorem nh_start (w : World) : NhI w ((w.alloc (.cells #[.int .i64 0, .int .i64 0, .slice none 0 0] 52)).alloc (.cells #[.int .i64 0, .int .i64 0, .slice none 0 0, .int .i64 0, .int .i64 0, .slice none 0 0] 89)) (0, 0, []) (0, 0, []) := by
  refine ⟨blk_on (bel1 _ _) (heap_alloc_last w _), bel_then (bel1 w _) (bel1 _ _), none, 0, none, 0, ?_, bs_nil _, bs_nil _, fun _ _ _ _ e => (by cases e), fun _ _ _ _ e => (by cases e)⟩
  have := heap_alloc_last (w.alloc (.cells #[.int .i64 0, .int .i64 0, .slice none 0 0] 52)) (.cells #[.int .i64 0, .int .i64 0, .slice none 0 0, .int .i64 0, .int .i64 0, .slice none 0 0] 89)
  rw [World.size_alloc] at this
  exact this
set_option maxHeartbeats 4000000 in
set_option maxRecDepth 100000 in
theorem newest36 (w : World) (d pb mb : Nat) (s : Dsk) (h0 : At w d pb mb s) (hT0 : TabOk w) (hd : s.down = false) (hN : 2 ≤ s.N) :
    Calls Tryd.prog 36 #[.pointer (some ⟨d, 0, none⟩)] w (HdR s.head w) := by
  have h := Lib.hid h0
  have hT := Lib.hid hT0
  have HS := Lib.hid (nh_start w)
  clear h0 hT0
  unfold Dsk.head
  obtain ⟨H0, hH0⟩ : ∃ H, hdOf (frO (s.con 0)) 0 s.N = H := ⟨_, rfl⟩
  obtain ⟨H1, hH1⟩ : ∃ H, hdOf (frO (s.con 1)) 1 s.N = H := ⟨_, rfl⟩
  rw [hH0, hH1]
  go_enter Tryd.func36, Tryd.ntmps36
  go_wp2
  go_loopg [5] 2 (fun gk s5 wr => ∃ x : Nat, x + gk = 2 ∧ s5 = .int .i64 x ∧ Hid (NhI w wr (if 1 ≤ x then H0 else (0, 0, [])) (if 2 ≤ x then H1 else (0, 0, []))))
  case atStart => exact ⟨0, rfl, rfl, HS.out⟩
  case round =>
    obtain ⟨x, hx, rfl, hI⟩ := hrel
    have hx3 : x = 0 ∨ x = 1 ∨ x = 2 := by omega
    rcases hx3 with rfl | rfl | rfl
    · obtain rfl : gk = 2 := by omega
      simp only [show ¬ (1 ≤ 0) by decide, show ¬ (2 ≤ 0) by decide, if_false] at hI
      obtain ⟨k0, hB, p0, c0, p1, c1, k1, b0, b1, f0, f1⟩ := hI.out
      obtain ⟨z0, z1, z2, z3, z4, z5, zf⟩ := six_of k1
      have HB := Lib.hid hB
      have HK0 := Lib.hid k0
      have HK1 := Lib.hid k1
      have HB0 := Lib.hid b0
      have HB1 := Lib.hid b1
      have cR := readHead55 wr d pb mb s (h.out.on hB) (tab_on hT.out hB) hd 0 (by decide) (by omega)
      rw [hH0] at cR
      clear k0 hB k1 b0 b1 z0 z1 z2 z3 z4 z5 zf
      go_wp2_with (first
        | (go_at_call 55; refine cR.mono ?_
           rintro e w2 ⟨p, c, rfl, hbs, hfr, hb2⟩
           have HBS := Lib.hid hbs
           have HFR := Lib.hid (show Fresh (w.heap.size + 2) (.slice p H0.2.2.length c) from hfr.mono (by have := (Array.getElem?_eq_some_iff.1 HK1.out).1; omega))
           have k3 := blk_on hb2 HK1.out
           obtain ⟨y0, y1, y2, y3, y4, y5, yf⟩ := six_of k3
           have yf0 := yf 0
           have yf1 := yf 1
           have yf2 := yf 2
           have Hb2 := Lib.hid hb2
           have HK3 := Lib.hid k3
           clear hbs hfr hb2 yf k3))
      go_roundg 1
      case measure => decide
      case rel =>
        refine ⟨1, by decide, by first | rfl | simp, ?_⟩
        show NhI w _ _ _
        have hg : w2.grownBy (((w2.setCell ⟨w.heap.size + 1, 0, none⟩ (.int .i64 H0.1)).setCell ⟨w.heap.size + 1, 1, none⟩ (.int .i64 H0.2.1)).setCell ⟨w.heap.size + 1, 2, none⟩ (.slice p H0.2.2.length c)) (some (w.heap.size + 1)) := ((gr_set _ _ _ _).trans (gr_set _ _ _ _)).trans (gr_set _ _ _ _)
        refine ⟨?_, ?_, p, c, p1, c1, ?_, ?_, ?_, ?_, ?_⟩
        · exact (hg.block _ (by have := (Array.getElem?_eq_some_iff.1 HK3.out).1; omega) (fun e => by injection e with e; omega)).trans (blk_on Hb2.out HK0.out)
        · exact (HB.out.trans (Hb2.out.mono HB.out.size)).grown hg (Nat.le_trans HB.out.size Hb2.out.size) (fun j e => by injection e with e; omega)
        · rw [blk_set (blk_set (blk_set HK3.out _) _) _]
          rfl
        · exact HBS.out.grownB hg (fun g o n c' e => by have := HFR.out g o n c' e; omega)
        · exact (HB1.out.on Hb2.out).grownB hg (fun g o n c' e => by have := f1 g o n c' e; omega)
        · exact HFR.out
        · exact f1
    · obtain rfl : gk = 1 := by omega
      simp only [show (1 ≤ 1) by decide, show ¬ (2 ≤ 1) by decide, if_false, if_true] at hI
      obtain ⟨k0, hB, p0, c0, p1, c1, k1, b0, b1, f0, f1⟩ := hI.out
      obtain ⟨z0, z1, z2, z3, z4, z5, zf⟩ := six_of k1
      have HB := Lib.hid hB
      have HK0 := Lib.hid k0
      have HK1 := Lib.hid k1
      have HB0 := Lib.hid b0
      have HB1 := Lib.hid b1
      have cR := readHead55 wr d pb mb s (h.out.on hB) (tab_on hT.out hB) hd 1 (by decide) (by omega)
      rw [hH1] at cR
      clear k0 hB k1 b0 b1 z0 z1 z2 z3 z4 z5 zf
      go_wp2_with (first
        | (go_at_call 55; refine cR.mono ?_
           rintro e w2 ⟨p, c, rfl, hbs, hfr, hb2⟩
           have HBS := Lib.hid hbs
           have HFR := Lib.hid (show Fresh (w.heap.size + 2) (.slice p H1.2.2.length c) from hfr.mono (by have := (Array.getElem?_eq_some_iff.1 HK1.out).1; omega))
           have k3 := blk_on hb2 HK1.out
           obtain ⟨y0, y1, y2, y3, y4, y5, yf⟩ := six_of k3
           have yf0 := yf 3
           have yf1 := yf 4
           have yf2 := yf 5
           have Hb2 := Lib.hid hb2
           have HK3 := Lib.hid k3
           clear hbs hfr hb2 yf k3))
      go_roundg 0
      case measure => decide
      case rel =>
        refine ⟨2, by decide, by first | rfl | simp, ?_⟩
        show NhI w _ _ _
        have hg : w2.grownBy (((w2.setCell ⟨w.heap.size + 1, 3, none⟩ (.int .i64 H1.1)).setCell ⟨w.heap.size + 1, 4, none⟩ (.int .i64 H1.2.1)).setCell ⟨w.heap.size + 1, 5, none⟩ (.slice p H1.2.2.length c)) (some (w.heap.size + 1)) := ((gr_set _ _ _ _).trans (gr_set _ _ _ _)).trans (gr_set _ _ _ _)
        refine ⟨?_, ?_, p0, c0, p, c, ?_, ?_, ?_, ?_, ?_⟩
        · exact (hg.block _ (by have := (Array.getElem?_eq_some_iff.1 HK3.out).1; omega) (fun e => by injection e with e; omega)).trans (blk_on Hb2.out HK0.out)
        · exact (HB.out.trans (Hb2.out.mono HB.out.size)).grown hg (Nat.le_trans HB.out.size Hb2.out.size) (fun j e => by injection e with e; omega)
        · rw [blk_set (blk_set (blk_set HK3.out _) _) _]
          rfl
        · exact (HB0.out.on Hb2.out).grownB hg (fun g o n c' e => by have := f0 g o n c' e; omega)
        · exact HBS.out.grownB hg (fun g o n c' e => by have := HFR.out g o n c' e; omega)
        · exact f0
        · exact HFR.out
    · obtain rfl : gk = 0 := by omega
      simp only [show (1 ≤ 2) by decide, show (2 ≤ 2) by decide, if_true] at hI
      obtain ⟨k0, hB, p0, c0, p1, c1, k1, b0, b1, f0, f1⟩ := hI.out
      obtain ⟨z0, z1, z2, z3, z4, z5, zf⟩ := six_of k1
      obtain ⟨y0, y1, y2, yf⟩ := three_of k0
      have yf0 := yf 0
      have yf1 := yf 1
      have yf2 := yf 2
      have HB := Lib.hid hB
      have HK0 := Lib.hid k0
      have HB0 := Lib.hid b0
      have HB1 := Lib.hid b1
      clear k0 hB k1 b0 b1 zf yf
      by_cases hlt : H1.1 < H0.1
      · have hNw : newest H0 H1 = H0 := if_pos hlt
        go_wp2
        refine bodyPost_ret (v := .agg #[.int .i64 H0.1, .int .i64 H0.2.1, .slice p0 H0.2.2.length c0]) (results52 Tryd.results36 _ _ w.heap.size _ _ _ rfl (blk_put3 HK0.out _ _ _)) rfl ?_
        refine ⟨p0, c0, rfl, ?_, Fresh.mono (b := w.heap.size + 2) f0 (by omega), ?_⟩
        · exact HB0.out.grownB (gr_put3 _ _ _ _ _) (fun g o n c' e => by have := f0 g o n c' e; omega)
        · exact HB.out.grown (gr_put3 _ _ _ _ _) HB.out.size (fun j e => by injection e with e; omega)
      · have hNw : newest H0 H1 = H1 := if_neg hlt
        go_wp2
        refine bodyPost_ret (v := .agg #[.int .i64 H1.1, .int .i64 H1.2.1, .slice p1 H1.2.2.length c1]) (results52 Tryd.results36 _ _ w.heap.size _ _ _ rfl (blk_put3 HK0.out _ _ _)) rfl ?_
        refine ⟨p1, c1, rfl, ?_, Fresh.mono (b := w.heap.size + 2) f1 (by omega), ?_⟩
        · exact HB1.out.grownB (gr_put3 _ _ _ _ _) (fun g o n c' e => by have := f1 g o n c' e; omega)
        · exact HB.out.grown (gr_put3 _ _ _ _ _) HB.out.size (fun j e => by injection e with e; omega)
end Go.Proofs.YtnclhjjhobbbjaaDoor
namespace Go.Proofs.YtnclhjjhobbbjaaDoor
open Go.RowKit
set_option linter.unusedVariables false      -- a walk need not use every condition

/-- How things of a kind lie in memory, in none of some blocks. -/
structure Elem (α : Type) where
  E : (Nat → Prop) → World → Value → α → Prop
  kp : ∀ {X : Nat → Prop} {w w' : World} {x : Value} {a : α}, E X w x a → Kp X w w' → E X w' x a
  mono : ∀ {X Y : Nat → Prop} {w : World} {x : Value} {a : α}, E X w x a → (∀ k, k < w.heap.size → Y k → X k) → E Y w x a
  one : ∀ {X : Nat → Prop} {w : World} {x : Value} {a : α}, E X w x a → x.oneCell' = true
abbrev BsY := BsX
theorem BsY.kp {X : Nat → Prop} {w w' : World} {v : Value} {t : List UInt8} (h : BsY X w v t) (hk : Kp X w w') : BsY X w' v t := BsX.kp h hk
theorem Bs.blk_lt {w : World} {v : Value} {t : List UInt8} (h : Bs w v t) (ht : t ≠ []) {a : Addr} {n c : Nat} (e : v = .slice (some a) n c) : a.block < w.heap.size := by
  obtain ⟨p, cap, rfl, h1, h2, h3, h4⟩ := h
  obtain ⟨g, o, rfl, hc⟩ := h4.resolve_left ht
  injection e with e1 e2 e3
  injection e1 with e1
  subst e1
  have hp : 0 < t.length := by cases t with
    | nil => exact absurd rfl ht
    | cons a b => simp
  exact World.block_lt_of_cell? w _ (hc 0 _ (enc_get hp))
def bytesE : Elem (List UInt8) where
  E := BsY
  kp := BsY.kp
  mono := fun h hY => ⟨h.1, fun ht a n c e hx => h.2 ht a n c e (hY _ (h.1.blk_lt ht e) hx)⟩
  one := fun h => h.1.one
/-- A slice of such things, wherever it lies. -/
def slE {α : Type} (E : Elem α) (X : Nat → Prop) (w : World) (v : Value) (L : List α) : Prop := ∃ p cap, v = .slice p L.length cap ∧
  (L = [] ∨ ∃ g o, p = some ⟨g, o, none⟩ ∧ ¬ X g ∧ ∀ i (h : i < L.length), ∃ x, w.cell? ⟨g, o + i, none⟩ = some x ∧ E.E X w x L[i])
def sl {α : Type} (E : Elem α) : Elem (List α) where
  E := slE E
  kp := fun {X w w' x a} h hk => by
    obtain ⟨p, cap, rfl, h⟩ := h
    refine ⟨p, cap, rfl, ?_⟩
    rcases h with h | ⟨g, o, rfl, hx, h⟩
    · exact .inl h
    · refine .inr ⟨g, o, rfl, hx, fun i hi => ?_⟩
      obtain ⟨y, hy, hE⟩ := h i hi
      exact ⟨y, (World.cell?_of_block (w := w) (a := ⟨g, o + i, none⟩) (hk.block _ (World.block_lt_of_cell? w ⟨g, o + i, none⟩ hy) hx)).trans hy, E.kp hE hk⟩
  mono := fun {X Y w x a} h hY => by
    obtain ⟨p, cap, rfl, h⟩ := h
    refine ⟨p, cap, rfl, ?_⟩
    rcases h with h | ⟨g, o, rfl, hx, h⟩
    · exact .inl h
    · by_cases h0 : a = []
      · exact .inl h0
      · refine .inr ⟨g, o, rfl, fun hy => hx (hY g ?_ hy), fun i hi => ?_⟩
        · have hp : 0 < a.length := by cases a with
            | nil => exact absurd rfl h0
            | cons a b => simp
          obtain ⟨y, hy', -⟩ := h 0 hp
          exact World.block_lt_of_cell? w ⟨g, o + 0, none⟩ hy'
        · obtain ⟨y, hy, hE⟩ := h i hi
          exact ⟨y, hy, E.mono hE hY⟩
  one := fun h => by
    obtain ⟨p, cap, rfl, h⟩ := h
    rfl
theorem Elem.on {α : Type} (E : Elem α) {X : Nat → Prop} {w w' : World} {x : Value} {a : α} (h : E.E X w x a) (hb : Below w.heap.size w w') : E.E X w' x a := E.kp h (Kp.bel hb)
/-- Slices of bytes, as before. -/
theorem bss_of {X : Nat → Prop} {w : World} {v : Value} {L : List (List UInt8)} (h : (sl bytesE).E X w v L) : Bss w v L := by
  obtain ⟨p, cap, rfl, h⟩ := h
  refine ⟨p, cap, rfl, ?_⟩
  rcases h with h | ⟨g, o, rfl, hx, h⟩
  · exact .inl h
  · refine .inr ⟨g, o, rfl, fun i hi => ?_⟩
    obtain ⟨y, hy, hE⟩ := h i hi
    exact ⟨y, hy, hE.1⟩
theorem of_bss {w : World} {v : Value} {L : List (List UInt8)} (h : Bss w v L) : (sl bytesE).E (fun k => w.heap.size ≤ k) w v L := by
  obtain ⟨p, cap, rfl, h⟩ := h
  refine ⟨p, cap, rfl, ?_⟩
  rcases h with h | ⟨g, o, rfl, h⟩
  · exact .inl h
  · by_cases h0 : L = []
    · exact .inl h0
    · refine .inr ⟨g, o, rfl, ?_, fun i hi => ?_⟩
      · have hp : 0 < L.length := by cases L with
          | nil => exact absurd rfl h0
          | cons a b => simp
        obtain ⟨y, hy', -⟩ := h 0 hp
        have : g < w.heap.size := World.block_lt_of_cell? w ⟨g, o + 0, none⟩ hy'
        show ¬ (w.heap.size ≤ g)
        omega
      · obtain ⟨y, hy, hE⟩ := h i hi
        exact ⟨y, hy, hE, fun ht a n c e => by have := hE.blk_lt ht e; show ¬ (w.heap.size ≤ a.block); omega⟩
/-- An element of a slice. -/
theorem sl_at {α : Type} {E : Elem α} {X : Nat → Prop} {w : World} {v : Value} {L : List α} (h : (sl E).E X w v L) {i : Nat} (hi : i < L.length) : ∃ g o cap x, v = .slice (some ⟨g, o, none⟩) L.length cap ∧ w.cell? ⟨g, o + i, none⟩ = some x ∧ E.E X w x L[i] := by
  obtain ⟨p, cap, rfl, h⟩ := h
  obtain ⟨g, o, rfl, -, h⟩ := h.resolve_left (fun e => by rw [e] at hi; simp at hi)
  obtain ⟨x, hx, hE⟩ := h i hi
  exact ⟨g, o, cap, x, rfl, hx, hE⟩
theorem sl_hdr {α : Type} {E : Elem α} {X : Nat → Prop} {w : World} {v : Value} {L : List α} (h : (sl E).E X w v L) : ∃ p cap, v = .slice p L.length cap := by
  obtain ⟨p, cap, rfl, -⟩ := h
  exact ⟨p, cap, rfl⟩

/-! ### A row of one's own, of things that don't touch it -/

def RowG {α : Type} (T : TypeId) (E : Elem α) (w : World) (base : Nat) (v : Value) (L : List α) : Prop :=
  ∃ vs : List Value, w.ownsRow base T 1 v L.length vs ∧ ∀ i (h : i < L.length), ∃ x, vs[i]? = some x ∧ E.E (fun k => v.ownBlock = some k) w x L[i]
theorem rowG_nil {α : Type} (T : TypeId) (E : Elem α) (w : World) (base : Nat) : RowG T E w base (.slice none 0 0) ([] : List α) := ⟨[], World.ownsRow_nil _ _ _ _, fun i h => absurd h (Nat.not_lt_zero _)⟩
theorem RowG.on {α : Type} {T : TypeId} {E : Elem α} {w w' : World} {base : Nat} {v : Value} {L : List α} (h : RowG T E w base v L) (hb : Below w.heap.size w w') : RowG T E w' base v L := by
  obtain ⟨vs, ho, he⟩ := h
  refine ⟨vs, own_bel ho hb, fun i hi => ?_⟩
  obtain ⟨x, hx, hE⟩ := he i hi
  exact ⟨x, hx, E.on hE hb⟩
theorem RowG.hdr {α : Type} {T : TypeId} {E : Elem α} {w : World} {base : Nat} {v : Value} {L : List α} (h : RowG T E w base v L) : ∃ p c, v = .slice p L.length c := by
  obtain ⟨vs, ho, -⟩ := h
  rcases ho.2 with ⟨rfl, h0⟩ | ⟨g, cap, cur, rfl, -⟩
  · exact ⟨none, 0, by rw [h0]⟩
  · exact ⟨_, cap, rfl⟩
/-- As a slice, wherever it lies. -/
theorem RowG.sl {α : Type} {T : TypeId} {E : Elem α} {w : World} {base : Nat} {v : Value} {L : List α} (h : RowG T E w base v L) : (sl E).E (fun _ => False) w v L := by
  obtain ⟨vs, ho, he⟩ := h
  rcases ho.2 with ⟨rfl, h0⟩ | ⟨g, cap, cur, rfl, hbg, hg, hnc, hcm, hcs, htake⟩
  · have : L = [] := List.eq_nil_of_length_eq_zero h0
    subst this
    exact ⟨none, 0, rfl, .inl rfl⟩
  · refine ⟨_, cap, rfl, .inr ⟨g, 0, rfl, fun h => h, fun i hi => ?_⟩⟩
    obtain ⟨x, hx, hE⟩ := he i hi
    have := ho.cells (g := g) rfl i x hx
    rw [Go.WideShapes.add_plain] at this
    exact ⟨x, this, E.mono hE (fun _ _ h => h.elim)⟩
theorem rowG_app {α : Type} {ops : Array Oper} {rest : List Oper} {o : Oper} {a : Act} {w : World} {Q : Exit → Act → World → Prop} (T : TypeId) (ST : TypeId) (E : Elem α) (hst : Tryd.prog.underlying ST = some (.slice T)) (i0 : TypeInfo) (hinf : Tryd.prog.info? T = some i0) (z : Value) (hz0 : i0.zero = some z) (hz1 : i0.size = 1) (hz2 : i0.bytes = 24) (hzc : z.cells.size = 1)
    (hgd : o.guard = none) (s x : Operand)
    (ho : o.op = .call { callee := .builtin .append, args := #[s, x], argTypes := #[ST, ST] }) (base g0 : Nat) (v y : Value) (L : List α) (u : α) (hs : a.eval s = v) (hx : a.eval x = .slice (some ⟨g0, 0, none⟩) 1 1)
    (h : RowG T E w base v L) (hu : E.E (fun k => v.ownBlock = some k) w y u) (hy : w.cell? ⟨g0, 0, none⟩ = some y) (hbase : base ≤ w.heap.size) (hlen : L.length + 1 ≤ 4398046511104)
    (hK : ∀ g cap w', RowG T E w' base (.slice (some ⟨g, 0, none⟩) (L.length + 1) cap) (L ++ [u]) → w.grownBy w' v.ownBlock → Below base w w' → wpList Tryd.prog ops Q rest (a.put o.dst (.slice (some ⟨g, 0, none⟩) (L.length + 1) cap)) w') : wpList Tryd.prog ops Q (o :: rest) a w :=
  wpList_plain hgd fun _ hk => by
    obtain ⟨vs, hown, he⟩ := h
    have hvs : vs.length = L.length := by have := hown.1; omega
    obtain ⟨g, cap, w', hr, hown', hg, hat, hlt⟩ := run_append_lies (P := Tryd.prog) w ST o.type base T i0 z 1 24 hst hinf hz0 hz1 hz2 hzc (by decide) v L.length vs hown ⟨g0, 0, none⟩ 1 1 [y] rfl
      (fun j q hq => by
        cases j with
        | zero => simp at hq; subst hq; rw [Go.WideShapes.add_plain]; exact hy
        | succ j => simp at hq)
      (fun q hq => by simp at hq; subst hq; exact E.one hu) (by decide) (by unfold maxLen; omega) (by omega) hbase w.heap.size rfl
    have hB : Below base w w' := (Below.refl base w).grown hg hbase (fun j e => (World.ownsRow.lt hown j e).1)
    have kp : Kp (fun k => v.ownBlock = some k) w w' := ⟨hg.os, hg.tape, hg.output, hg.size, fun k hk hx => hg.block k hk (fun e => hx e.symm)⟩
    have hmv : ∀ {q : Value} {b : α}, E.E (fun k => v.ownBlock = some k) w q b → E.E (fun k => (Value.slice (some ⟨g, 0, none⟩) (L.length + 1) cap).ownBlock = some k) w' q b := fun {q b} hq => by
      have h1 : E.E (fun k => v.ownBlock = some k ∨ k = g) w q b := E.mono hq (fun k hk hx => by
        rcases hx with hx | hx
        · exact hx
        · rcases hat with hat | hat
          · rw [hx]; exact hat
          · omega)
      have h2 := E.kp h1 ⟨kp.os, kp.tape, kp.output, kp.size, fun k hk hx => kp.block k hk (fun e => hx (.inl e))⟩
      refine E.mono h2 (fun k hk hx => .inr ?_)
      exact (Option.some.inj (show some g = some k from hx)).symm
    have hR : RowG T E w' base (.slice (some ⟨g, 0, none⟩) (L.length + 1) cap) (L ++ [u]) := by
      refine ⟨vs ++ [y], by rw [List.length_append, List.length_singleton]; exact hown', fun i hi => ?_⟩
      rw [List.length_append, List.length_singleton] at hi
      by_cases hl : i < L.length
      · obtain ⟨q, hq, hE⟩ := he i hl
        exact ⟨q, by rw [List.getElem?_append_left (by omega)]; exact hq, by rw [List.getElem_append_left hl]; exact hmv hE⟩
      · obtain rfl : i = L.length := by omega
        exact ⟨y, by rw [List.getElem?_append_right (by omega), hvs, Nat.sub_self]; rfl, by simpa using hmv hu⟩
    unfold Oper.wp execOp
    simp only [ho, resolve, invoke, builtin, Sem.run_bind, Sem.run_pure, Result.andThen_ok, List.map_toArray, List.map_cons, List.map_nil, hs, hx, hr]
    exact hk _ _ (hK g cap w' hR hg hB)
theorem info43 : (Tryd.prog.info? 43).map (fun i => (i.zero, i.size, i.bytes)) = some (some (.slice none 0 0), 1, 24) := by kernel_rfl
theorem info35 : (Tryd.prog.info? 35).map (fun i => (i.zero, i.size, i.bytes)) = some (some (.slice none 0 0), 1, 24) := by kernel_rfl
theorem info33 : (Tryd.prog.info? 33).map (fun i => (i.zero, i.size, i.bytes)) = some (some (.slice none 0 0), 1, 24) := by kernel_rfl
end Go.Proofs.YtnclhjjhobbbjaaDoor
