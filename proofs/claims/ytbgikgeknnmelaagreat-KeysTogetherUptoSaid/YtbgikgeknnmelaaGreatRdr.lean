/-
  The reader of package codec: its small methods.
-/
import Derived.Test.YtbgikgeknnmelaaGreatBs
import Derived.Test.YtbgikgeknnmelaaGreatKeyB
import Derived.Test.YtbgikgeknnmelaaGreatPlainB
import Derived.Deep.LoopGhost
namespace Go.Proofs.YtbgikgeknnmelaaGreat
open Go.RowKit
set_option linter.unusedVariables false      -- a walk need not use every condition

/-- Bytes lie ahead of block B. -/
def Lo (v : Value) (t : List UInt8) (B : Nat) : Prop := t = [] ∨ ∃ g o n c, v = .slice (some ⟨g, o, none⟩) n c ∧ g < B
def Bl (w : World) (v : Value) (t : List UInt8) (B : Nat) : Prop := Bs w v t ∧ Lo v t B
theorem Bs.low {w : World} {v : Value} {t : List UInt8} (h : Bs w v t) : Bl w v t w.heap.size := by
  refine ⟨h, ?_⟩
  obtain ⟨p, cap, rfl, h1, h2, h3, h4⟩ := h
  rcases h4 with h4 | ⟨g, o, rfl, hc⟩
  · exact .inl h4
  · cases t with
    | nil => exact .inl rfl
    | cons c t => exact .inr ⟨g, o, _, _, rfl, cell_lt (hc 0 (by simp))⟩
theorem Bl.grown {w w' : World} {v : Value} {t : List UInt8} {B : Nat} (h : Bl w v t B) {row : Option Nat} (hg : w.grownBy w' row) (hr : ∀ j, row = some j → B ≤ j) : Bl w' v t B := by
  refine ⟨?_, h.2⟩
  obtain ⟨⟨q, cap, rfl, h1, h2, h3, h4⟩, hl⟩ := h
  refine ⟨q, cap, rfl, h1, h2, h3, ?_⟩
  rcases h4 with h4 | ⟨g', o', rfl, hc⟩
  · exact .inl h4
  · rcases hl with hl | ⟨g, o, n, c, e, hlt⟩
    · exact .inl hl
    · injection e with e1 e2 e3
      injection e1 with e1
      injection e1 with e1
      subst e1
      exact .inr ⟨_, o', rfl, fun i hi => hg.cell (hc i hi) (fun e => by have := hr _ e.symm; have h5 : (⟨g', o' + i, none⟩ : Addr).block = g' := rfl; omega)⟩
theorem Bl.take {w : World} {p : Option Addr} {t : List UInt8} {cap n B : Nat} (h : Bl w (.slice p t.length cap) t B) (hn : n ≤ t.length) : Bl w (.slice p n cap) (t.take n) B := by
  refine ⟨h.1.take hn, ?_⟩
  rcases h.2 with rfl | ⟨g, o, n', c, e, hlt⟩
  · exact .inl (by simp)
  · injection e with e1 e2 e3
    exact .inr ⟨g, o, n, cap, by rw [e1], hlt⟩
theorem Bl.drop {w : World} {p : Option Addr} {t : List UInt8} {cap n B : Nat} (h : Bl w (.slice p t.length cap) t B) (hn : n ≤ t.length) : Bl w (.slice (if cap = n then p else p.map (·.add n)) (t.length - n) (cap - n)) (t.drop n) B := by
  refine ⟨h.1.drop hn, ?_⟩
  rcases h.2 with rfl | ⟨g, o, n', c, e, hlt⟩
  · exact .inl (by simp)
  · injection e with e1 e2 e3
    subst e1
    by_cases hc : cap = n
    · rw [if_pos hc]; exact .inr ⟨g, o, _, _, rfl, hlt⟩
    · rw [if_neg hc]; exact .inr ⟨g, o + n, t.length - n, cap - n, by simp [go_sem], hlt⟩
/-- The reader's block r holds what is left of the bytes; these lie ahead of it. -/
def Rd (w : World) (r : Nat) (t : List UInt8) : Prop := ∃ hdr, w.heap[r]? = some (.cells #[hdr] 146) ∧ Bl w hdr t r
theorem Rd.lt {w : World} {r : Nat} {t : List UInt8} (h : Rd w r t) : r < w.heap.size := by
  obtain ⟨hdr, h1, -⟩ := h
  exact (Array.getElem?_eq_some_iff.1 h1).1
theorem Bs.slice {w : World} {v : Value} {t : List UInt8} (h : Bs w v t) : ∃ p cap, v = .slice p t.length cap ∧ t.length ≤ cap ∧ t.length ≤ 9223372036854775807 := by
  obtain ⟨p, cap, e, h1, h2, -⟩ := h
  unfold maxLen at h2
  exact ⟨p, cap, e, h1, by omega⟩
/-- Nothing but the reader has turned, and that is left. -/
def Rq (r : Nat) (t : List UInt8) (w w' : World) : Prop := w.grownBy w' (some r) ∧ Rd w' r t
theorem Rq.refl {w : World} {r : Nat} {t : List UInt8} (h : Rd w r t) : Rq r t w w := ⟨World.grownBy.refl w _, h⟩
theorem Rq.trans {a b c : World} {r : Nat} {t s : List UInt8} (h : Rq r t a b) (h' : Rq r s b c) : Rq r s a c := ⟨h.1.trans h'.1, h'.2⟩
theorem Rd.grown {w w' : World} {r : Nat} {t : List UInt8} (h : Rd w r t) {row : Option Nat} (hg : w.grownBy w' row) (hr : ∀ j, row = some j → r < j) : Rd w' r t := by
  obtain ⟨hdr, h1, h2⟩ := h
  exact ⟨hdr, (hg.block r (Array.getElem?_eq_some_iff.1 h1).1 (fun e => by have := hr r e.symm; omega)).trans h1, h2.grown hg fun j hj => by have := hr j hj; omega⟩
theorem Rd.on {w w' : World} {r : Nat} {t : List UInt8} (h : Rd w r t) (hb : Below w.heap.size w w') : Rd w' r t := h.grown (gr_bel hb none) (fun j hj => by cases hj)
theorem Rd.alloc {w : World} {r : Nat} {t : List UInt8} (h : Rd w r t) (o : Obj) : Rd (w.alloc o) r t := h.on (bel1 w o)
theorem Rq.bel {w w' w'' : World} {r : Nat} {t : List UInt8} (h : Rq r t w w') (hb : Below w'.heap.size w' w'') : Rq r t w w'' := ⟨h.1.trans (gr_bel hb (some r)), h.2.on hb⟩
theorem Rq.low {w w' : World} {r : Nat} {t : List UInt8} {ob : Obj} (h : Rq r t (w.alloc ob) w') : Rq r t w w' := ⟨(World.grownBy_alloc w ob (some r)).trans h.1, h.2⟩
/-- A block that is new is written. -/
theorem Rq.far {w w1 w2 : World} {r : Nat} {t : List UInt8} (h : Rq r t w w1) {row : Option Nat} (hg : w1.grownBy w2 row) (hr : r < w.heap.size) (hrow : ∀ j, row = some j → w.heap.size ≤ j) : Rq r t w w2 :=
  ⟨h.1.andThen hg fun j hj => .inl (hrow j hj), h.2.grown hg fun j hj => by have := hrow j hj; omega⟩

/-- The reader's cell. -/
theorem Rd.cell {w : World} {r : Nat} {t : List UInt8} (h : Rd w r t) : ∃ p cap, w.heap[r]? = some (.cells #[.slice p t.length cap] 146) ∧ t.length ≤ cap ∧ t.length ≤ 9223372036854775807 ∧ Bl w (.slice p t.length cap) t r ∧ w.cell? ⟨r, 0, none⟩ = some (.slice p t.length cap) ∧ w.frozen? ⟨r, 0, none⟩ = false := by
  obtain ⟨hdr, h1, h2⟩ := h
  obtain ⟨p, cap, rfl, h3, h4⟩ := h2.1.slice
  obtain ⟨c0, cf⟩ := one_of h1
  exact ⟨p, cap, h1, h3, h4, h2, c0, cf⟩
set_option maxHeartbeats 1000000 in
theorem pass_no (w : World) (r : Nat) (t : List UInt8) (h : Rd w r t) (n : Nat) (hn : t.length < n) :
    Calls Tryz.prog 141 #[.pointer (some ⟨r, 0, none⟩), .int .i64 n] w fun e w' => e = .returned (.tuple #[.slice none 0 0, .int .i64 11]) ∧ w' = w := by
  obtain ⟨p, cap, h1, h2, h3, h4, c0, cf⟩ := h.cell
  go_enter Tryz.func141, Tryz.ntmps141
  go_wp2
  go_ret2
  exact ⟨rfl, rfl⟩
theorem rd_set {w : World} {r : Nat} {p : Option Addr} {n c : Nat} {v : Value} {s : List UInt8} (h1 : w.heap[r]? = some (.cells #[.slice p n c] 146)) (hs : Bl w v s r) :
    Rq r s w (w.setCell ⟨r, 0, none⟩ v) ∧ ∀ {u : Value} {t : List UInt8}, Bl w u t r → Bl (w.setCell ⟨r, 0, none⟩ v) u t r := by
  have hg := gr_set w r 0 v
  refine ⟨⟨hg, v, ?_, hs.grown hg fun j hj => by injection hj with hj; omega⟩, fun h => h.grown hg fun j hj => by injection hj with hj; omega⟩
  simp [World.setCell, Array.getElem?_modify, h1]
set_option maxHeartbeats 1000000 in
theorem pass_yes (w : World) (r : Nat) (t : List UInt8) (h : Rd w r t) (n : Nat) (hn : n ≤ t.length) :
    Calls Tryz.prog 141 #[.pointer (some ⟨r, 0, none⟩), .int .i64 n] w fun e w' => ∃ v, e = .returned (.tuple #[v, .int .i64 0]) ∧ Bl w' v (t.take n) r ∧ Rq r (t.drop n) w w' := by
  obtain ⟨p, cap, h1, h2, h3, h4, c0, cf⟩ := h.cell
  have htk := h4.take hn
  have hdr := h4.drop hn
  by_cases hcn : cap = n
  · subst hcn
    rw [if_pos rfl, Nat.sub_self, show t.length - cap = 0 by omega] at hdr
    have hq := Lib.hid (rd_set h1 hdr)
    clear h4 h hdr
    go_enter Tryz.func141, Tryz.ntmps141
    go_wp2
    go_ret2
    exact ⟨_, rfl, hq.out.2 htk, hq.out.1⟩
  · rw [if_neg hcn] at hdr
    have hq := Lib.hid (rd_set h1 hdr)
    clear h4 h hdr
    go_enter Tryz.func141, Tryz.ntmps141
    go_wp2
    go_ret2
    exact ⟨_, rfl, hq.out.2 htk, hq.out.1⟩
set_option maxHeartbeats 1000000 in
theorem one_no (w : World) (r : Nat) (h : Rd w r []) :
    Calls Tryz.prog 140 #[.pointer (some ⟨r, 0, none⟩)] w fun e w' => e = .returned (.tuple #[.int .u8 0, .int .i64 11]) ∧ w' = w := by
  have c69 := pass_no w r [] h 1 (by simp)
  go_enter Tryz.func140, Tryz.ntmps140
  go_wp2_with (go_at_call 141; refine c69.mono ?_; rintro e w' ⟨rfl, rfl⟩)
  go_ret2
  exact ⟨rfl, rfl⟩
/-- Where there is a byte. -/
theorem Bs.at0 {w : World} {v : Value} {c : UInt8} {t : List UInt8} (h : Bs w v (c :: t)) : ∃ g o cap, v = .slice (some ⟨g, o, none⟩) (t.length + 1) cap ∧ w.cell? ⟨g, o, none⟩ = some (.int .u8 c.toNat) := by
  obtain ⟨p, cap, rfl, h1, h2, h3, h4⟩ := h
  rcases h4 with h4 | ⟨g, o, rfl, hc⟩
  · cases h4
  · exact ⟨g, o, cap, rfl, hc 0 (by simp)⟩
set_option maxHeartbeats 1000000 in
theorem one_yes (w : World) (r : Nat) (c : UInt8) (t : List UInt8) (h : Rd w r (c :: t)) :
    Calls Tryz.prog 140 #[.pointer (some ⟨r, 0, none⟩)] w fun e w' => e = .returned (.tuple #[.int .u8 c.toNat, .int .i64 0]) ∧ Rq r t w w' := by
  have c69 := pass_yes w r (c :: t) h 1 (by simp)
  simp only [List.take_succ_cons, List.take_zero, List.drop_succ_cons, List.drop_zero] at c69
  go_enter Tryz.func140, Tryz.ntmps140
  go_wp2_with (go_at_call 141; refine c69.mono ?_; rintro e w' ⟨v, rfl, hb, hq⟩; obtain ⟨g, o, cap, rfl, hc0⟩ := hb.1.at0)
  go_ret2
  exact ⟨rfl, hq⟩
set_option maxHeartbeats 1000000 in
theorem small_no (w : World) (r : Nat) (h : Rd w r []) :
    Calls Tryz.prog 128 #[.pointer (some ⟨r, 0, none⟩)] w fun e w' => e = .returned (.tuple #[.int .i64 0, .int .i64 11]) ∧ w' = w := by
  have c68 := one_no w r h
  go_enter Tryz.func128, Tryz.ntmps128
  go_wp2_with (go_at_call 140; refine c68.mono ?_; rintro e w' ⟨rfl, rfl⟩)
  go_ret2
  exact ⟨rfl, rfl⟩
set_option maxHeartbeats 1000000 in
theorem small_yes (w : World) (r : Nat) (c : UInt8) (t : List UInt8) (h : Rd w r (c :: t)) :
    Calls Tryz.prog 128 #[.pointer (some ⟨r, 0, none⟩)] w fun e w' => e = .returned (.tuple #[.int .i64 c.toNat, .int .i64 0]) ∧ Rq r t w w' := by
  have c68 := one_yes w r c t h
  have hc := c.toNat_lt
  go_enter Tryz.func128, Tryz.ntmps128
  go_wp2_with (go_at_call 140; refine c68.mono ?_; rintro e w' ⟨rfl, hq⟩)
  go_ret2
  exact ⟨rfl, hq⟩
set_option maxHeartbeats 1000000 in
theorem begin_no (w : World) (r : Nat) (h : Rd w r []) :
    Calls Tryz.prog 126 #[.pointer (some ⟨r, 0, none⟩)] w fun e w' => e = .returned (.tuple #[.agg #[.int .i64 0, .int .i64 0, .string ⟨#[]⟩, .slice none 0 0], .int .i64 11]) ∧ Below w.heap.size w w' := by
  have c68 := one_no _ r (h.alloc (.cells #[.int .i64 0, .int .i64 0, .string ⟨#[]⟩, .slice none 0 0] 29))
  go_enter Tryz.func126, Tryz.ntmps126
  go_wp2_with (go_at_call 140; refine c68.mono ?_; rintro e w' ⟨rfl, rfl⟩)
  simp [bodyPost, results, Tryz.results126, go_sem]
  exact bel1 w _
set_option maxHeartbeats 1000000 in
theorem begin_yes (w : World) (r : Nat) (c : UInt8) (t : List UInt8) (h : Rd w r (c :: t)) :
    Calls Tryz.prog 126 #[.pointer (some ⟨r, 0, none⟩)] w fun e w' => e = .returned (.tuple #[.agg #[.int .i64 c.toNat, .int .i64 0, .string ⟨#[]⟩, .slice none 0 0], .int .i64 0]) ∧ Rq r t w w' := by
  have hrl := h.lt
  have c68 := one_yes _ r c t (h.alloc (.cells #[.int .i64 0, .int .i64 0, .string ⟨#[]⟩, .slice none 0 0] 29))
  have hc := c.toNat_lt
  go_enter Tryz.func126, Tryz.ntmps126
  go_wp2_with (go_at_call 140; refine c68.mono ?_; rintro e w1 ⟨rfl, hq⟩; have hk := (hq.1.block w.heap.size (by simp) (by intro e; injection e with e; omega)).trans (blk_new w _); obtain ⟨x0, x1, x2, x3, xf⟩ := four_of hk)
  have hfin := hq.low.far (gr_put4 w1 w.heap.size 0 (.int .i64 c.toNat) (.int .i64 0) (.string ⟨#[]⟩) (.slice none 0 0)) hrl (fun j hj => by injection hj with hj; omega)
  unfold put4 at hfin
  simp [bodyPost, results, Tryz.results126, go_sem, x0, x1, x2, x3]
  exact hfin
/-- mark: whether a string goes on. -/
theorem mark_no (w : World) (r : Nat) (h : Rd w r []) :
    Calls Tryz.prog 143 #[.pointer (some ⟨r, 0, none⟩)] w fun e w' => e = .returned (.tuple #[.bool false, .int .i64 11]) ∧ w' = w := by
  have c68 := one_no w r h
  go_enter Tryz.func143, Tryz.ntmps143
  go_wp2_with (go_at_call 140; refine c68.mono ?_; rintro e w' ⟨rfl, rfl⟩)
  go_ret2
  exact ⟨rfl, rfl⟩
def markE (d : UInt8) : Int := if d = 1 then 0 else if d = 255 then 0 else 30
theorem mark_yes (w : World) (r : Nat) (d : UInt8) (q : List UInt8) (h : Rd w r (d :: q)) :
    Calls Tryz.prog 143 #[.pointer (some ⟨r, 0, none⟩)] w fun e w' => e = .returned (.tuple #[.bool (decide (d = 255)), .int .i64 (markE d)]) ∧ Rq r q w w' := by
  have c68 := one_yes w r d q h
  by_cases h1 : d = 1
  · have e1 : ((d.toNat : Int) != 255) = true := by rw [h1]; rfl
    have e2 : ((d.toNat : Int) != 1) = false := by rw [h1]; rfl
    have e3 : ((d.toNat : Int) == 255) = false := by rw [h1]; rfl
    have e4 : decide (d = 255) = false := by rw [h1]; rfl
    have e5 : markE d = 0 := by unfold markE; rw [if_pos h1]
    rw [e4, e5]
    clear h1 e4 e5
    go_enter Tryz.func143, Tryz.ntmps143
    go_wp2_with (go_at_call 140; refine c68.mono ?_; rintro e w' ⟨rfl, hq⟩)
    go_ret2
    exact ⟨rfl, hq⟩
  · by_cases h2 : d = 255
    · have e1 : ((d.toNat : Int) != 255) = false := by rw [h2]; rfl
      have e3 : ((d.toNat : Int) == 255) = true := by rw [h2]; rfl
      have e4 : decide (d = 255) = true := by rw [h2]; rfl
      have e5 : markE d = 0 := by unfold markE; rw [if_neg h1, if_pos h2]
      rw [e4, e5]
      clear h1 h2 e4 e5
      go_enter Tryz.func143, Tryz.ntmps143
      go_wp2_with (go_at_call 140; refine c68.mono ?_; rintro e w' ⟨rfl, hq⟩)
      go_ret2
      exact ⟨rfl, hq⟩
    · have n1 : d.toNat ≠ 1 := fun e => h1 (UInt8.toNat_inj.1 e)
      have n2 : d.toNat ≠ 255 := fun e => h2 (UInt8.toNat_inj.1 e)
      have e1 : ((d.toNat : Int) != 255) = true := by simp; omega
      have e2 : ((d.toNat : Int) != 1) = true := by simp; omega
      have e3 : ((d.toNat : Int) == 255) = false := by simp; omega
      have e4 : decide (d = 255) = false := decide_eq_false h2
      have e5 : markE d = 30 := by unfold markE; rw [if_neg h1, if_neg h2]
      rw [e4, e5]
      clear h1 h2 e4 e5 n1 n2
      go_enter Tryz.func143, Tryz.ntmps143
      go_wp2_with (go_at_call 140; refine c68.mono ?_; rintro e w' ⟨rfl, hq⟩)
      go_ret2
      exact ⟨rfl, hq⟩
end Go.Proofs.YtbgikgeknnmelaaGreat
