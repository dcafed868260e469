/-
  The document's Same of entries (rambleref11).
  Meta of package keys and of the document; the document's Same of entries.
  The walk of KeysEntries.
  For any vertex, edge, value and numbers: Vertex, Edge, Sign and Meta of package keys answer as the document does, and begun holds; where what comes in is of bulk at most 1048576 (the second form: entries of greater properties are longer than any slice can be).
-/
import Derived.Test.YtbgikgeknnmelaaGreatEnr
import Derived.Test.YtbgikgeknnmelaaGreatRef
import Derived.Deep.RegionHeld3
import Derived.Test.YtbgikgeknnmelaaGreatZRenRpsRix
import Derived.Test.YtbgikgeknnmelaaGreatEdg
import Derived.Test.YtbgikgeknnmelaaGreatZRvtRed
import Derived.Test.YtbgikgeknnmelaaGreatRea
namespace Go.Proofs.YtbgikgeknnmelaaGreat
open Go.RowKit
set_option linter.unusedVariables false      -- a walk need not use every condition

set_option maxHeartbeats 4000000 in
set_option maxRecDepth 20000 in
theorem rsame9 (l : List En) (v1 v2 : Value) (w : World) (h1 : Es w v1 l) (h2 : Es w v2 l) : Calls Tryz.prog 9 #[v1, v2] w fun e w' => e = .returned (.bool true) ∧ Below w.heap.size w w' := by
  obtain ⟨p1, q1, rfl, a1, a2, a3⟩ := h1
  obtain ⟨p2, q2, rfl, b1, b2, b3⟩ := h2
  unfold maxLen at a2 b2
  go_enter Tryz.func9, Tryz.ntmps9
  go_wp2
  go_loopg [5] l.length (fun c i wr => ∃ (j : Nat), c + j = l.length ∧ i = .int .i64 j ∧ Hid (Below w.heap.size w wr))
  case atStart => exact ⟨0, rfl, rfl, Below.refl _ _⟩
  case round =>
    obtain ⟨j, hj, rfl, hBr⟩ := hrel
    by_cases hlt : j < l.length
    · obtain ⟨g1, o1, rfl, hc1⟩ := a3.resolve_left (by intro e; rw [e] at hlt; simp at hlt)
      obtain ⟨g2, o2, rfl, hc2⟩ := b3.resolve_left (by intro e; rw [e] at hlt; simp at hlt)
      obtain ⟨k1, u1, x1, y1, kb1, ub1⟩ := hc1 j hlt
      obtain ⟨k2, u2, x2, y2, kb2, ub2⟩ := hc2 j hlt
      have hB := hBr.out
      have X1 := some_on hB x1
      have Y1 := some_on hB y1
      have X2 := some_on hB x2
      have Y2 := some_on hB y2
      have f1 := fun u (h : Below w.heap.size w u) => (kb1.on h).str
      have f2 := fun u (h : Below w.heap.size w u) => (kb2.on h).str
      have f3 := fun u (h : Below w.heap.size w u) => (ub1.on h).str
      have f4 := fun u (h : Below w.heap.size w u) => (ub2.on h).str
      have F1 := f1 _ hB
      have F2 := f2 _ hB
      have F3 := f3 _ hB
      have F4 := f4 _ hB
      have D1 := f1 _ hB.drew
      have D2 := f2 _ hB.drew
      have D3 := f3 _ hB.drew
      have D4 := f4 _ hB.drew
      obtain ⟨r1, s1, rfl, -, -⟩ := kb1.slice
      obtain ⟨r2, s2, rfl, -, -⟩ := kb2.slice
      obtain ⟨r3, s3, rfl, -, -⟩ := ub1.slice
      obtain ⟨r4, s4, rfl, -, -⟩ := ub2.slice
      generalize (⟨l[j].key.toArray⟩ : ByteArray) = K at *
      generalize (⟨l[j].val.toArray⟩ : ByteArray) = V at *
      generalize l[j].key.length = KL at *
      generalize l[j].val.length = VL at *
      have hBd := Lib.hid hB.drew
      clear hc1 hc2 a3 b3 x1 y1 x2 y2 kb1 kb2 ub1 ub2 f1 f2 f3 f4 hBr hB
      have S0 := And.intro (show wr.drew.cell? ⟨g1, o1 + j * 2, none⟩ = some (.slice r1 KL s1) from X1) (And.intro (show wr.drew.cell? ⟨g1, o1 + j * 2 + 1, none⟩ = some (.slice r3 VL s3) from Y1) (And.intro (show wr.drew.cell? ⟨g2, o2 + j * 2, none⟩ = some (.slice r2 KL s2) from X2) (And.intro (show wr.drew.cell? ⟨g2, o2 + j * 2 + 1, none⟩ = some (.slice r4 VL s4) from Y2) (And.intro D1 (And.intro D2 (And.intro D3 D4))))))
      go_wp2
      go_region_held3 (fun u => u.cell? ⟨g1, o1 + j * 2, none⟩ = some (.slice r1 KL s1) ∧ u.cell? ⟨g1, o1 + j * 2 + 1, none⟩ = some (.slice r3 VL s3) ∧ u.cell? ⟨g2, o2 + j * 2, none⟩ = some (.slice r2 KL s2) ∧ u.cell? ⟨g2, o2 + j * 2 + 1, none⟩ = some (.slice r4 VL s4) ∧ (convert 36 9 (.slice r1 KL s1)).run Tryz.prog u = .ok (.string K) u ∧ (convert 36 9 (.slice r2 KL s2)).run Tryz.prog u = .ok (.string K) u ∧ (convert 36 9 (.slice r3 VL s3)).run Tryz.prog u = .ok (.string V) u ∧ (convert 36 9 (.slice r4 VL s4)).run Tryz.prog u = .ok (.string V) u)
        (first | with_reducible exact S0)
        (fail)
      all_goals go_wp2
      all_goals (go_roundg (gk - 1))
      all_goals first
        | exact ⟨j + 1, by omega, by go_num, hBd.out⟩
        | omega
    · obtain rfl : j = l.length := by omega
      go_wp2
      go_ret
      exact ⟨rfl, hBr.out⟩
end Go.Proofs.YtbgikgeknnmelaaGreat
namespace Go.Proofs.YtbgikgeknnmelaaGreat
open Go.RowKit
set_option linter.unusedVariables false      -- a walk need not use every condition

theorem two_of {w : World} {g : Nat} {a b : Value} {t : TypeId} (h : w.heap[g]? = some (.cells #[a, b] t)) :
    w.cell? ⟨g, 0, none⟩ = some a ∧ w.cell? ⟨g, 1, none⟩ = some b ∧ ∀ i, w.frozen? ⟨g, i, none⟩ = false := by
  refine ⟨?_, ?_, fun i => ?_⟩ <;> simp [World.cell?, World.frozen?, h]
/-- An entry as a value. -/
def EnR (w0 : World) (k v : List UInt8) (e : Ending) (w' : World) : Prop := ∃ a b, e = .returned (.agg #[a, b]) ∧ Bts w' 0 a k ∧ Bts w' 0 b v ∧ Below w0.heap.size w0 w'
set_option maxHeartbeats 1000000 in
set_option maxRecDepth 20000 in
theorem rmeta18 (last v n : Int) (h1 : I64 last) (h2 : I64 v) (h3 : I64 n) (w : World) : Calls Tryz.prog 18 #[.int .i64 last, .int .i64 v, .int .i64 n] w (EnR w [0] (numsQ [last, v, n])) := by
  have hq : numsQ [last, v, n] = numQ last ++ numQ v ++ numQ n := by simp [numsQ]
  rw [hq]
  have l1 := numQ_len last
  have l2 := numQ_len v
  have c1 := fun W => rnum52 last h1 W (.slice none 0 0) [] (bs_nil _) (by simp)
  have c2 := fun W b hb => rnum52 v h2 W b (numQ last) hb (by omega)
  have c3 := fun W b hb => rnum52 n h3 W b (numQ last ++ numQ v) hb (by simp; omega)
  simp only [List.nil_append] at c1
  generalize numQ last = A at *
  generalize numQ v = B at *
  generalize numQ n = C at *
  have tk1 : True := trivial
  have tk2 : True := trivial
  have E0 := blk_old (o' := .cells #[.int .u8 0] 5) (blk_new w (.cells #[.slice none 0 0, .slice none 0 0] 39))
  have B0 := bel2 w (.cells #[.slice none 0 0, .slice none 0 0] 39) (.cells #[.int .u8 0] 5)
  have L0 := bts_lit1 (w.alloc (.cells #[.slice none 0 0, .slice none 0 0] 39)) 0 (Nat.zero_le _) 0
  rw [World.size_alloc] at L0
  go_enter Tryz.func18, Tryz.ntmps18
  go_wp2_with (first
    | (go_at_call 52; clear tk1; refine (c1 _).mono ?_; rintro e w1 ⟨b1, rfl, hb1, hB1⟩; have B1 := bel_then B0 hB1; have E1 := blk_on hB1 E0; have L1 : Bts w1 0 _ [0] := own_bel L0 hB1)
    | (go_at_call 52; clear tk2; refine (c2 _ _ hb1.bs).mono ?_; rintro e w2 ⟨b2, rfl, hb2, hB2⟩; have B2 := bel_then B1 hB2; have E2 := blk_on hB2 E1; have L2 : Bts w2 0 _ [0] := own_bel L1 hB2)
    | (go_at_call 52; refine (c3 _ _ hb2.bs).mono ?_; rintro e w3 ⟨b3, rfl, hb3, hB3⟩; have B3 := bel_then B2 hB3; have E3 := blk_on hB3 E2; have L3 : Bts w3 0 _ [0] := own_bel L2 hB3; obtain ⟨p3, n3, q3, rfl⟩ := bts_hdr hb3; obtain ⟨x0, x1, xf⟩ := two_of E3))
  have hfin : EnR w [0] (A ++ B ++ C) (.returned (.agg #[.slice (some ⟨w.heap.size + 1, 0, none⟩) 1 1, .slice p3 n3 q3])) ((w3.setCell ⟨w.heap.size, 0, none⟩ (.slice (some ⟨w.heap.size + 1, 0, none⟩) 1 1)).setCell ⟨w.heap.size, 1, none⟩ (.slice p3 n3 q3)) := by
    have hne : ∀ {u : World} {b : Nat} {x : Value} {t : List UInt8}, Bts u b x t → w.heap.size < b → ∀ i, x.ownBlock ≠ some (⟨w.heap.size, i, none⟩ : Addr).block := fun h hb i e => by have := (World.ownsRow.lt h _ e).1; simp at this; omega
    have hb2' : w.heap.size < w2.heap.size := by have := (Array.getElem?_eq_some_iff.1 E2).1; exact this
    have hl : ∀ i, (Value.slice (some ⟨w.heap.size + 1, 0, none⟩) 1 1).ownBlock ≠ some (⟨w.heap.size, i, none⟩ : Addr).block := fun i e => by simp [Value.ownBlock] at e
    refine ⟨_, _, rfl, ?_, ?_, (B3.setCell (Nat.le_refl _) _).setCell (Nat.le_refl _) _⟩
    · exact ownsRow_setCell_other (ownsRow_setCell_other L3 (hl 0) _) (hl 1) _
    · exact ownsRow_setCell_other (ownsRow_setCell_other hb3.zero (hne hb3 hb2' 0) _) (hne hb3 hb2' 1) _
  rw [List.append_assoc] at hfin
  simp [bodyPost, results, Tryz.results18, go_sem, x0, x1]
  exact hfin
set_option maxHeartbeats 1000000 in
set_option maxRecDepth 20000 in
theorem meta17 (last v n : Int) (h1 : I64 last) (h2 : I64 v) (h3 : I64 n) (w : World) : Calls Tryz.prog 17 #[.int .i64 last, .int .i64 v, .int .i64 n] w (EnR w [0] (numsQ [last, v, n])) := by
  have c50 := fun W g h => numbers50 [last, v, n] (by simp) _ W (ns_at (g := g) (by intro n hn; simp at hn; rcases hn with rfl | rfl | rfl <;> assumption) (by simp) _ rfl h 3 rfl)
  generalize numsQ [last, v, n] = A at *
  have E0 := blk_old (o' := .cells #[.int .i64 last, .int .i64 v, .int .i64 n] 2) (blk_old (o' := .cells #[.int .u8 0] 5) (blk_new w (.cells #[.slice none 0 0, .slice none 0 0] 39)))
  have B0 := bel_al (bel2 w (.cells #[.slice none 0 0, .slice none 0 0] 39) (.cells #[.int .u8 0] 5)) (.cells #[.int .i64 last, .int .i64 v, .int .i64 n] 2)
  have F0 := blk_new ((w.alloc (.cells #[.slice none 0 0, .slice none 0 0] 39)).alloc (.cells #[.int .u8 0] 5)) (.cells #[.int .i64 last, .int .i64 v, .int .i64 n] 2)
  simp only [World.size_alloc] at F0
  have L0 := bts_lit1 (w.alloc (.cells #[.slice none 0 0, .slice none 0 0] 39)) 0 (Nat.zero_le _) 0
  rw [World.size_alloc] at L0
  have L1 : Bts (((w.alloc (.cells #[.slice none 0 0, .slice none 0 0] 39)).alloc (.cells #[.int .u8 0] 5)).alloc (.cells #[.int .i64 last, .int .i64 v, .int .i64 n] 2)) 0 _ [0] := own_bel L0 (bel1 _ _)
  go_enter Tryz.func17, Tryz.ntmps17
  go_wp2_with (first
    | (go_at_call 50; go_loud (refine (c50 _ _ F0).mono ?_; rintro e w3 ⟨b3, rfl, hb3, hB3⟩; have B3 := bel_then B0 hB3; have E3 := blk_on hB3 E0; have L3 : Bts w3 0 _ [0] := own_bel L1 hB3; obtain ⟨p3, n3, q3, rfl⟩ := bts_hdr hb3; obtain ⟨x0, x1, xf⟩ := two_of E3)))
  have hfin : EnR w [0] A (.returned (.agg #[.slice (some ⟨w.heap.size + 1, 0, none⟩) 1 1, .slice p3 n3 q3])) ((w3.setCell ⟨w.heap.size, 0, none⟩ (.slice (some ⟨w.heap.size + 1, 0, none⟩) 1 1)).setCell ⟨w.heap.size, 1, none⟩ (.slice p3 n3 q3)) := by
    have hne : ∀ i, (Value.slice p3 n3 q3).ownBlock ≠ some (⟨w.heap.size, i, none⟩ : Addr).block := fun i e => by have := (World.ownsRow.lt hb3 _ e).1; simp at this; omega
    have hl : ∀ i, (Value.slice (some ⟨w.heap.size + 1, 0, none⟩) 1 1).ownBlock ≠ some (⟨w.heap.size, i, none⟩ : Addr).block := fun i e => by simp [Value.ownBlock] at e
    refine ⟨_, _, rfl, ?_, ?_, (B3.setCell (Nat.le_refl _) _).setCell (Nat.le_refl _) _⟩
    · exact ownsRow_setCell_other (ownsRow_setCell_other L3 (hl 0) _) (hl 1) _
    · exact ownsRow_setCell_other (ownsRow_setCell_other hb3.zero (hne 0) _) (hne 1) _
  simp [bodyPost, results, Tryz.results17, go_sem, x0, x1]
  exact hfin
theorem es_one {W : World} {g : Nat} {a b : Value} {k v : List UInt8} (h : W.heap[g]? = some (.cells #[a, b] 39)) (ha : Bts W 0 a k) (hb : Bts W 0 b v) : Es W (.slice (some ⟨g, 0, none⟩) 1 1) [⟨k, v⟩] := by
  obtain ⟨x0, x1, -⟩ := two_of h
  refine ⟨_, 1, rfl, Nat.le_refl _, by unfold maxLen; omega, .inr ⟨g, 0, rfl, fun i hi => ?_⟩⟩
  obtain rfl : i = 0 := by simpa using hi
  exact ⟨a, b, x0, x1, ha.bs, hb.bs⟩
end Go.Proofs.YtbgikgeknnmelaaGreat
namespace Go.Proofs.YtbgikgeknnmelaaGreat
open Go.RowKit
set_option linter.unusedVariables false      -- a walk need not use every condition

theorem blk_2 (w : World) (o o' : Obj) : ((w.alloc o).alloc o').heap[w.heap.size + 1]? = some o' := blk_new' (w.alloc o) o' _ (by simp)
theorem tw_on {u u' : World} (hb : Below u.heap.size u u') {A B C : Nat} {a0 a1 a2 a3 a4 a5 a6 a7 a8 a9 a10 a11 : Value} (h : u.cell? ⟨A, 0, none⟩ = some a0 ∧ u.cell? ⟨A, 1, none⟩ = some a1 ∧ u.cell? ⟨A, 2, none⟩ = some a2 ∧ u.cell? ⟨B, 0, none⟩ = some a3 ∧ u.cell? ⟨B, 1, none⟩ = some a4 ∧ u.cell? ⟨B, 2, none⟩ = some a5 ∧ u.cell? ⟨B, 3, none⟩ = some a6 ∧ u.cell? ⟨B, 4, none⟩ = some a7 ∧ u.cell? ⟨C, 0, none⟩ = some a8 ∧ u.cell? ⟨C, 1, none⟩ = some a9 ∧ u.cell? ⟨C, 2, none⟩ = some a10 ∧ u.cell? ⟨C, 3, none⟩ = some a11) : u'.cell? ⟨A, 0, none⟩ = some a0 ∧ u'.cell? ⟨A, 1, none⟩ = some a1 ∧ u'.cell? ⟨A, 2, none⟩ = some a2 ∧ u'.cell? ⟨B, 0, none⟩ = some a3 ∧ u'.cell? ⟨B, 1, none⟩ = some a4 ∧ u'.cell? ⟨B, 2, none⟩ = some a5 ∧ u'.cell? ⟨B, 3, none⟩ = some a6 ∧ u'.cell? ⟨B, 4, none⟩ = some a7 ∧ u'.cell? ⟨C, 0, none⟩ = some a8 ∧ u'.cell? ⟨C, 1, none⟩ = some a9 ∧ u'.cell? ⟨C, 2, none⟩ = some a10 ∧ u'.cell? ⟨C, 3, none⟩ = some a11 :=
  let ⟨h0, h1, h2, h3, h4, h5, h6, h7, h8, h9, h10, h11⟩ := h; ⟨some_on hb h0, some_on hb h1, some_on hb h2, some_on hb h3, some_on hb h4, some_on hb h5, some_on hb h6, some_on hb h7, some_on hb h8, some_on hb h9, some_on hb h10, some_on hb h11⟩
theorem tw_dr {u : World} {A B C : Nat} {a0 a1 a2 a3 a4 a5 a6 a7 a8 a9 a10 a11 : Value} (h : u.cell? ⟨A, 0, none⟩ = some a0 ∧ u.cell? ⟨A, 1, none⟩ = some a1 ∧ u.cell? ⟨A, 2, none⟩ = some a2 ∧ u.cell? ⟨B, 0, none⟩ = some a3 ∧ u.cell? ⟨B, 1, none⟩ = some a4 ∧ u.cell? ⟨B, 2, none⟩ = some a5 ∧ u.cell? ⟨B, 3, none⟩ = some a6 ∧ u.cell? ⟨B, 4, none⟩ = some a7 ∧ u.cell? ⟨C, 0, none⟩ = some a8 ∧ u.cell? ⟨C, 1, none⟩ = some a9 ∧ u.cell? ⟨C, 2, none⟩ = some a10 ∧ u.cell? ⟨C, 3, none⟩ = some a11) : u.drew.cell? ⟨A, 0, none⟩ = some a0 ∧ u.drew.cell? ⟨A, 1, none⟩ = some a1 ∧ u.drew.cell? ⟨A, 2, none⟩ = some a2 ∧ u.drew.cell? ⟨B, 0, none⟩ = some a3 ∧ u.drew.cell? ⟨B, 1, none⟩ = some a4 ∧ u.drew.cell? ⟨B, 2, none⟩ = some a5 ∧ u.drew.cell? ⟨B, 3, none⟩ = some a6 ∧ u.drew.cell? ⟨B, 4, none⟩ = some a7 ∧ u.drew.cell? ⟨C, 0, none⟩ = some a8 ∧ u.drew.cell? ⟨C, 1, none⟩ = some a9 ∧ u.drew.cell? ⟨C, 2, none⟩ = some a10 ∧ u.drew.cell? ⟨C, 3, none⟩ = some a11 := h
theorem tw_al {u : World} (o : Obj) {A B C : Nat} {a0 a1 a2 a3 a4 a5 a6 a7 a8 a9 a10 a11 : Value} (h : u.cell? ⟨A, 0, none⟩ = some a0 ∧ u.cell? ⟨A, 1, none⟩ = some a1 ∧ u.cell? ⟨A, 2, none⟩ = some a2 ∧ u.cell? ⟨B, 0, none⟩ = some a3 ∧ u.cell? ⟨B, 1, none⟩ = some a4 ∧ u.cell? ⟨B, 2, none⟩ = some a5 ∧ u.cell? ⟨B, 3, none⟩ = some a6 ∧ u.cell? ⟨B, 4, none⟩ = some a7 ∧ u.cell? ⟨C, 0, none⟩ = some a8 ∧ u.cell? ⟨C, 1, none⟩ = some a9 ∧ u.cell? ⟨C, 2, none⟩ = some a10 ∧ u.cell? ⟨C, 3, none⟩ = some a11) : (u.alloc o).cell? ⟨A, 0, none⟩ = some a0 ∧ (u.alloc o).cell? ⟨A, 1, none⟩ = some a1 ∧ (u.alloc o).cell? ⟨A, 2, none⟩ = some a2 ∧ (u.alloc o).cell? ⟨B, 0, none⟩ = some a3 ∧ (u.alloc o).cell? ⟨B, 1, none⟩ = some a4 ∧ (u.alloc o).cell? ⟨B, 2, none⟩ = some a5 ∧ (u.alloc o).cell? ⟨B, 3, none⟩ = some a6 ∧ (u.alloc o).cell? ⟨B, 4, none⟩ = some a7 ∧ (u.alloc o).cell? ⟨C, 0, none⟩ = some a8 ∧ (u.alloc o).cell? ⟨C, 1, none⟩ = some a9 ∧ (u.alloc o).cell? ⟨C, 2, none⟩ = some a10 ∧ (u.alloc o).cell? ⟨C, 3, none⟩ = some a11 := tw_on (bel1 u o) h
set_option maxHeartbeats 8000000 in
set_option maxRecDepth 20000 in
theorem entries3 (x : Vx) (z : Lk) (e : V) (sx sz se : Value) (last n : Int) (w : World) (hx : RV.In w 0 x sx) (hz : RL.In w 0 z sz) (he : e.In w 0 se) (hlast : I64 last) (hn : I64 n) (mx : manyP x.ps ≤ 1048570) (mz : manyP z.ps ≤ 1048570) (lx : x.lb.size ≤ 1048570) (lz : z.lb.size ≤ 1048570) (me : e.many ≤ 1048576) :
    Calls Tryz.prog 3 #[x.agg sx, z.agg sz, e.agg se, .int .i64 last, .int .i64 n] w fun y w' => y = .returned (.bool true) ∧ Below w.heap.size w w' := by
  have c10 := fun W (hB : Below w.heap.size w W) => vertex10 x sx W (RV.keep (keep_below hB) (Nat.le_refl _) x sx hx) lx mx
  have c11 := fun W (hB : Below w.heap.size w W) => rvertex11 x sx W (RV.keep (keep_below hB) (Nat.le_refl _) x sx hx) lx mx
  have c12 := fun W (hB : Below w.heap.size w W) => edge12 z sz W (RL.keep (keep_below hB) (Nat.le_refl _) z sz hz) lz mz
  have c13 := fun W (hB : Below w.heap.size w W) => redge13 z sz W (RL.keep (keep_below hB) (Nat.le_refl _) z sz hz) lz mz
  have c15 := fun W (hB : Below w.heap.size w W) => sign15 e se W (he.on hB) me
  have c16 := fun W (hB : Below w.heap.size w W) => rsign16 e se W (he.on hB) me
  obtain ⟨m, hm, hmI⟩ : ∃ m, IntKind.i64.wrap (n - 3) = m ∧ I64 m := ⟨_, rfl, by rw [IntKind.wrap_i64]; unfold I64; omega⟩
  have c17 := fun W => meta17 last n m hlast hn hmI W
  have c18 := fun W => rmeta18 last n m hlast hn hmI W
  generalize numsQ [last, n, m] = NS at *
  have c9l : ∀ (W : World) (g g' : Nat) (a b c d : Value), W.heap[g]? = some (.cells #[a, b] 39) → W.heap[g']? = some (.cells #[c, d] 39) → Bts W 0 a [0] → Bts W 0 b NS → Bts W 0 c [0] → Bts W 0 d NS → Calls Tryz.prog 9 #[.slice (some ⟨g, 0, none⟩) 1 1, .slice (some ⟨g', 0, none⟩) 1 1] W fun y w' => y = .returned (.bool true) ∧ Below W.heap.size W w' := fun W g g' a b c d h h' ha hb hc hd => rsame9 _ _ _ W (es_one h ha hb) (es_one h' hc hd)
  generalize vxQ x = VQ at *
  generalize lkQ z = LQ at *
  generalize sgn e = SQ at *
  obtain ⟨xp, xn, xq, rfl⟩ := hx.2.2.hdr
  obtain ⟨zp, zn, zq, rfl⟩ := hz.2.2.2.2.hdr
  obtain ⟨ep, en, eq, rfl⟩ := he.header
  unfold Vx.agg at *
  unfold Lk.agg at *
  unfold V.agg at *
  clear hx hz he mx mz lx lz me
  have t9a : True := trivial
  have t9b : True := trivial
  have B0 := bel_drew (bel_al (bel2 w (.cells #[.int .i64 x.id, .string x.lb, .slice xp xn xq] 24) (.cells #[.int .i64 z.id, .string z.lb, .int .i64 z.out, .int .i64 z.inn, .slice zp zn zq] 26)) (.cells #[.int .i64 e.k, .int .i64 e.n, .string e.s, .slice ep en eq] 29))
  have E1 := blk_old (o' := (.cells #[.int .i64 e.k, .int .i64 e.n, .string e.s, .slice ep en eq] 29)) (blk_old (o' := (.cells #[.int .i64 z.id, .string z.lb, .int .i64 z.out, .int .i64 z.inn, .slice zp zn zq] 26)) (blk_new w (.cells #[.int .i64 x.id, .string x.lb, .slice xp xn xq] 24)))
  have E2 := blk_old (o' := (.cells #[.int .i64 e.k, .int .i64 e.n, .string e.s, .slice ep en eq] 29)) (blk_new (w.alloc (.cells #[.int .i64 x.id, .string x.lb, .slice xp xn xq] 24)) (.cells #[.int .i64 z.id, .string z.lb, .int .i64 z.out, .int .i64 z.inn, .slice zp zn zq] 26))
  have E3 := blk_new ((w.alloc (.cells #[.int .i64 x.id, .string x.lb, .slice xp xn xq] 24)).alloc (.cells #[.int .i64 z.id, .string z.lb, .int .i64 z.out, .int .i64 z.inn, .slice zp zn zq] 26)) (.cells #[.int .i64 e.k, .int .i64 e.n, .string e.s, .slice ep en eq] 29)
  simp only [World.size_alloc] at E2 E3
  obtain ⟨x0, x1, x2, xf⟩ := three_of E1
  obtain ⟨y0, y1, y2, y3, y4, yf⟩ := five_of E2
  obtain ⟨z0, z1, z2, z3, zf⟩ := four_of E3
  have S0 := And.intro x0 (And.intro x1 (And.intro x2 (And.intro y0 (And.intro y1 (And.intro y2 (And.intro y3 (And.intro y4 (And.intro z0 (And.intro z1 (And.intro z2 z3))))))))))
  clear E1 E2 E3 x0 x1 x2 xf y0 y1 y2 y3 y4 yf z0 z1 z2 z3 zf
  go_enter Tryz.func3, Tryz.ntmps3
  go_wp2
  generalize ((w.alloc (.cells #[.int .i64 x.id, .string x.lb, .slice xp xn xq] 24)).alloc (.cells #[.int .i64 z.id, .string z.lb, .int .i64 z.out, .int .i64 z.inn, .slice zp zn zq] 26)).alloc (.cells #[.int .i64 e.k, .int .i64 e.n, .string e.s, .slice ep en eq] 29) = W at *
  go_region_held3 (fun u => u.cell? ⟨w.heap.size, 0, none⟩ = some (.int .i64 x.id) ∧ u.cell? ⟨w.heap.size, 1, none⟩ = some (.string x.lb) ∧ u.cell? ⟨w.heap.size, 2, none⟩ = some (.slice xp xn xq) ∧ u.cell? ⟨w.heap.size + 1, 0, none⟩ = some (.int .i64 z.id) ∧ u.cell? ⟨w.heap.size + 1, 1, none⟩ = some (.string z.lb) ∧ u.cell? ⟨w.heap.size + 1, 2, none⟩ = some (.int .i64 z.out) ∧ u.cell? ⟨w.heap.size + 1, 3, none⟩ = some (.int .i64 z.inn) ∧ u.cell? ⟨w.heap.size + 1, 4, none⟩ = some (.slice zp zn zq) ∧ u.cell? ⟨w.heap.size + 1 + 1, 0, none⟩ = some (.int .i64 e.k) ∧ u.cell? ⟨w.heap.size + 1 + 1, 1, none⟩ = some (.int .i64 e.n) ∧ u.cell? ⟨w.heap.size + 1 + 1, 2, none⟩ = some (.string e.s) ∧ u.cell? ⟨w.heap.size + 1 + 1, 3, none⟩ = some (.slice ep en eq))
    (first | with_reducible exact tw_dr S0 | with_reducible exact S1 | with_reducible exact S2 | with_reducible exact S3 | with_reducible exact S4 | with_reducible exact S5 | with_reducible exact S6 | with_reducible exact S7 | with_reducible exact S8 | with_reducible exact S9 | with_reducible exact S10 | with_reducible exact tw_al _ S10 | with_reducible exact S11 | with_reducible exact tw_al _ S11 | with_reducible exact tw_al _ (tw_al _ S11) | with_reducible exact S12)
    (first
      | (go_at_call 8; refine (begun8 _).mono ?_; rintro y w1 ⟨rfl, hB1⟩; have S1 := tw_on hB1 (tw_dr S0); have B1 := bel_then B0 hB1)
      | (go_at_call 10; refine (c10 _ B1).mono ?_; rintro y w2 ⟨v2, rfl, hr2, hB2⟩; have S2 := tw_on hB2 S1; have B2 := bel_then B1 hB2)
      | (go_at_call 11; refine (c11 _ B2).mono ?_; rintro y w3 ⟨v3, rfl, hr3, hB3⟩; have S3 := tw_on hB3 S2; have B3 := bel_then B2 hB3; have c9 := rsame9 _ _ _ _ (hr2.es.on hB3) hr3.es)
      | (go_at_call 9; clear t9a; refine c9.mono ?_; rintro y w4 ⟨rfl, hB4⟩; have S4 := tw_on hB4 S3; have B4 := bel_then B3 hB4; clear c9 hr2 hr3)
      | (go_at_call 12; refine (c12 _ B4).mono ?_; rintro y w5 ⟨v5, rfl, hr5, hB5⟩; have S5 := tw_on hB5 S4; have B5 := bel_then B4 hB5)
      | (go_at_call 13; refine (c13 _ B5).mono ?_; rintro y w6 ⟨v6, rfl, hr6, hB6⟩; have S6 := tw_on hB6 S5; have B6 := bel_then B5 hB6; have c9 := rsame9 _ _ _ _ (hr5.es.on hB6) hr6.es)
      | (go_at_call 9; clear t9b; refine c9.mono ?_; rintro y w7 ⟨rfl, hB7⟩; have S7 := tw_on hB7 S6; have B7 := bel_then B6 hB7; clear c9 hr5 hr6)
      | (go_at_call 15; refine (c15 _ B7).mono ?_; rintro y w8 ⟨v8, rfl, hr8, hB8⟩; have S8 := tw_on hB8 S7; have B8 := bel_then B7 hB8)
      | (go_at_call 16; refine (c16 _ B8).mono ?_; rintro y w9 ⟨v9, rfl, hr9, hB9⟩; have S9 := tw_on hB9 S8; have B9 := bel_then B8 hB9; have c14 := equal14 _ _ _ _ _ (hr8.bs.on hB9) hr9.bs; rw [beq_self_eq_true] at c14; clear hr8 hr9)
      | (go_at_call 14; refine c14.mono ?_; rintro y w' ⟨rfl, rfl⟩; clear c14)
      | (go_at_call 17; refine (c17 _).mono ?_; rintro y w10 ⟨ka, va, rfl, hka, hva, hB10⟩; obtain ⟨p1, n1, q1, rfl⟩ := bts_hdr hka; obtain ⟨p2, n2, q2, rfl⟩ := bts_hdr hva; have S10 := tw_on hB10 S9; have B10 := bel_then B9 hB10)
      | (go_at_call 18; go_loud (refine (c18 _).mono ?_; rintro y w11 ⟨kb, vb, rfl, hkb, hvb, hB11⟩; obtain ⟨p3, n3, q3, rfl⟩ := bts_hdr hkb; obtain ⟨p4, n4, q4, rfl⟩ := bts_hdr hvb; have B11a : Below w10.heap.size w10 w11 := (by first | exact hB11 | exact bel_then (bel1 w10 _) hB11); have S11 := tw_on B11a S10; have B11 := bel_then B10 B11a; have hka := own_bel hka B11a; have hva := own_bel hva B11a; first | (have E39 := blk_on hB11 (blk_new w10 (.cells #[.slice p1 n1 q1, .slice p2 n2 q2] 39))) | skip))
      | (go_at_call 9; refine (c9l _ _ _ _ _ _ _ (by first | exact blk_old E39 | exact blk_old (blk_new w11 _) | exact blk_2 w11 _ _) (by first | exact blk_new w11 _ | exact blk_2 w11 _ _ | exact blk_old (blk_new w11 _)) (by first | exact own_bel hka (bel1 w11 _) | exact own_bel hka (bel2 w11 _ _)) (by first | exact own_bel hva (bel1 w11 _) | exact own_bel hva (bel2 w11 _ _)) (by first | exact own_bel hkb (bel1 w11 _) | exact own_bel hkb (bel2 w11 _ _)) (by first | exact own_bel hvb (bel1 w11 _) | exact own_bel hvb (bel2 w11 _ _))).mono ?_; rintro y w12 ⟨rfl, hB12⟩; have B12 := Lib.hid (bel_then (by first | exact bel_al B11 _ | exact bel_al (bel_al B11 _) _) hB12); have S12 := tw_on hB12 (by first | exact tw_al _ S11 | exact tw_al _ (tw_al _ S11))))
  all_goals go_wp2
  all_goals go_ret
  all_goals exact ⟨rfl, B12.out⟩
end Go.Proofs.YtbgikgeknnmelaaGreat
namespace Go.Proofs.YtbgikgeknnmelaaGreat
open Go.ChangeShapes Go.WideShapes Go.ChangeAt Go.RowKit
theorem read24 : Tryz.prog.readableRec 24 = true := by kernel_rfl
theorem lt24 : 24 < Tryz.prog.types.size := of_decide_eq_true (by kernel_rfl)
theorem read26 : Tryz.prog.readableRec 26 = true := by kernel_rfl
theorem lt26 : 26 < Tryz.prog.types.size := of_decide_eq_true (by kernel_rfl)
theorem read2 : Tryz.prog.readableRec 2 = true := by kernel_rfl
theorem lt2' : 2 < Tryz.prog.types.size := of_decide_eq_true (by kernel_rfl)
theorem read3 : Tryz.prog.readableRec 3 = true := by kernel_rfl
theorem lt3' : 3 < Tryz.prog.types.size := of_decide_eq_true (by kernel_rfl)
theorem bulk_pos {H : Type} (d : DataW H) : 1 ≤ Rows.uptoBulk d := by
  unfold Rows.uptoBulk; split <;> omega
/-- An argument that is a number. -/
theorem arg_num {t : TypeId} (hu : Tryz.prog.underlying t = some (.int .i64)) {H : Type} {enc : TypeId × Value → H} {W : World} {v : Value} {d : DataW H} {ps : List MemPlace} (h : DataW.Trod enc Tryz.prog W 0 (fun _ => true) true t v d ps) (hi : ∃ n, v = .int .i64 n) : ∃ n, v = .int .i64 n ∧ I64 n := by
  obtain ⟨n, rfl⟩ := hi
  obtain ⟨f, hf⟩ := h
  obtain ⟨k, hk, -, wk⟩ := DataW.trod_int hu hf
  injection hk with hk
  injection hk with _ hk
  subst hk
  exact ⟨_, rfl, i64_wf wk⟩
end Go.Proofs.YtbgikgeknnmelaaGreat
namespace Go.Proofs.YtbgikgeknnmelaaGreat.keysEntries
open Go.ChangeShapes Go.WideShapes Go.ChangeAt Go.RowKit
set_option linter.unusedVariables false      -- a walk need not use every condition

set_option maxRecDepth 100000 in
theorem lifted (os : Os) (started : os.Started) (H : Type) (enc : TypeId × Value → H) (F : Stop.Interp) :
    ReturnsInHanded {} Tryz.checked os 3 .any ((Rows.OpenSpec.upto Rows.keysEntriesSpec).pre6 enc Tryz.prog Tryz.f3 Rows.keysEntriesUptoRow.domain false) (((Rows.OpenSpec.upto Rows.keysEntriesSpec).at F).post enc Tryz.prog Tryz.f3 false true false false) := by
  refine returnsInHanded_of_cond_sized (C := Tryz.checked) (s := Rows.OpenSpec.upto Rows.keysEntriesSpec) (k := Rows.uptoSmall) rfl own started (by kernel_rfl) Tryz.func3
    (OpenSpec.witness (enc := enc) (C := Tryz.checked) (s := Rows.OpenSpec.upto Rows.keysEntriesSpec) (k := Rows.uptoSmall) rfl false ⟨#[], #[.agg #[.int .i64 0, .string ByteArray.empty, .slice none 0 0], .agg #[.int .i64 0, .string ByteArray.empty, .int .i64 0, .int .i64 0, .slice none 0 0], .agg #[.int .i64 0, .int .i64 0, .string ByteArray.empty, .slice none 0 0], .int .i64 0, .int .i64 0], []⟩ 8 (by kernel_rfl) (by kernel_rfl) (by kernel_rfl)
      (x := ([.agg [.lit (.int .i64 0), .lit (.string []), .nil], .agg [.lit (.int .i64 0), .lit (.string []), .lit (.int .i64 0), .lit (.int .i64 0), .nil], .agg [.lit (.int .i64 0), .lit (.int .i64 0), .lit (.string []), .nil], .lit (.int .i64 0), .lit (.int .i64 0)], [], [])) (by kernel_rfl) rfl (by kernel_rfl)) ?_
  intro W base args ds gs before hval0 hW _ hk hsz0 _
  have hsz : (DataW.weightsEach Tryz.prog (Tryz.f3.params.toList ++ Rows.keysEntriesSpec.plain.varTypes Tryz.prog) (ds ++ gs)).all (· ≤ reachBytes) = true := hsz0
  clear hsz0
  have hval : ∀ (j : Nat) t v, Tryz.f3.params[j]? = some t → args[j]? = some v → Value.okWide Tryz.prog W .any base t v := hval0
  have hW' := hW
  obtain ⟨p, q, hA0, hV, rfl, hfz, hnd⟩ := hW
  have hA : DataW.TrodAll enc Tryz.prog W 0 (fun _ => true) true Tryz.f3.params.toList args.toList ds p := hA0
  rw [Tryz.params3] at hA hval hsz
  obtain ⟨v0, vs0, d0, ds0, p0, q0, hargs, rfl, rfl, h0, r0⟩ := trodAll_cons hA
  obtain ⟨v1, vs1, d1, ds1, p1, q1, rfl, rfl, rfl, h1, r1⟩ := trodAll_cons r0
  obtain ⟨v2, vs2, d2, ds2, p2, q2, rfl, rfl, rfl, h2, r2⟩ := trodAll_cons r1
  obtain ⟨v3, vs3, d3, ds3, p3, q3, rfl, rfl, rfl, h3, r3⟩ := trodAll_cons r2
  obtain ⟨v4, vs4, d4, ds4, p4, q4, rfl, rfl, rfl, h4, r4⟩ := trodAll_cons r3
  obtain ⟨rfl, rfl, rfl⟩ := trodAll_nil r4
  obtain rfl : args = #[v0, v1, v2, v3, v4] := by cases args; simp_all
  obtain ⟨rfl, rfl⟩ := trodVars_none hV
  have hbulk : Rows.uptoBulk d0 + (Rows.uptoBulk d1 + (Rows.uptoBulk d2 + (Rows.uptoBulk d3 + (Rows.uptoBulk d4 + 0)))) ≤ 1048576 := by
    have h := of_decide_eq_true hk
    simp only [List.append_nil, Rows.uptoBulkAll] at h
    exact h
  have bz2 := bulk_pos d2
  have bz3 := bulk_pos d3
  have bz4 := bulk_pos d4
  obtain ⟨x, sx, rfl, mx, lx⟩ := arg_vx (hval 0 24 v0 rfl rfl) h0 (weigh hsz (j := 0) (t := 24) rfl rfl)
  obtain ⟨z, sz, rfl, mz, lz⟩ := arg_lk (hval 1 26 v1 rfl rfl) h1 (weigh hsz (j := 1) (t := 26) rfl rfl)
  obtain ⟨e, se, rfl, me, le⟩ := arg_valb (hval 2 29 v2 rfl rfl) h2 (weigh hsz (j := 2) (t := 29) rfl rfl)
  obtain ⟨last, rfl, hl⟩ := arg_num (t := 2) Tryz.underlying2 h3 (okWide_int Tryz.underlying2 (hval 3 2 v3 rfl rfl))
  obtain ⟨n, rfl, hn⟩ := arg_num (t := 3) Tryz.underlying3 h4 (okWide_int Tryz.underlying3 (hval 4 3 v4 rfl rfl))
  clear hA0 hval0
  simp only [List.append_nil] at hW'
  have lt0 : ∀ x ∈ p0, x.block < W.heap.size := by obtain ⟨m, hm⟩ := h0; exact DataW.trod_lt m _ _ _ hm
  have lt1 : ∀ x ∈ p1, x.block < W.heap.size := by obtain ⟨m, hm⟩ := h1; exact DataW.trod_lt m _ _ _ hm
  have lt2 : ∀ x ∈ p2, x.block < W.heap.size := by obtain ⟨m, hm⟩ := h2; exact DataW.trod_lt m _ _ _ hm
  have lt3 : ∀ x ∈ p3, x.block < W.heap.size := by obtain ⟨m, hm⟩ := h3; exact DataW.trod_lt m _ _ _ hm
  have lt4 : ∀ x ∈ p4, x.block < W.heap.size := by obtain ⟨m, hm⟩ := h4; exact DataW.trod_lt m _ _ _ hm
  refine (entries3 x z e sx sz se last n W mx mz me hl hn (by omega) (by omega) (by omega) (by omega) (by omega)).mono fun y W' ⟨he, bel⟩ => ?_
  subst he
  exact ⟨_, rfl, _, _, _, [], _, [], hW', trodAll_mk1 (shut_bool Tryz.underlying4 _), (trodAll_cons_mk (Below.trod laidOut read24 lt24 h0 bel lt0) (trodAll_cons_mk (Below.trod laidOut read26 lt26 h1 bel lt1) (trodAll_cons_mk (Below.trod laidOut read31 lt31 h2 bel lt2) (trodAll_cons_mk (Below.trod laidOut read2 lt2' h3 bel lt3) (trodAll_cons_mk (Below.trod laidOut read3 lt3' h4 bel lt4) trodAll_mk0))))), rfl, bel.frame _, fun h => by cases h⟩

theorem over : Rows.keysEntriesUptoRow.holds Tryz.pinned (Rows.OpenSpec.upto Rows.keysEntriesSpec) :=
  OpenClaim.holds_of_cond 3 Tryz.f3 rfl rfl rfl rfl rfl rfl rfl ⟨rfl, rfl, rfl, rfl, rfl⟩ rfl rfl rfl rfl rfl (by kernel_rfl) Tryz.func3 (by kernel_rfl)
    (of_decide_eq_true (by kernel_rfl)) (by unfold Func.isWrapper; first | (rw [if_pos (by decide +kernel)]; kernel_rfl) | (rw [if_neg (by decide +kernel)]; exact ⟨rfl, rfl⟩))
    (fun os started H enc _ F => lifted os started H enc F)
end Go.Proofs.YtbgikgeknnmelaaGreat.keysEntries
namespace Go.Proofs.YtbgikgeknnmelaaGreat
/-- The given statement. -/
theorem keysEntries_holds : Rows.KeysEntriesUptoSaid := keysEntries.over
#print axioms keysEntries_holds
end Go.Proofs.YtbgikgeknnmelaaGreat
