/-
  What wordOf, putForm and Key of package codec do.
-/
import Derived.Test.YtbgikgeknnmelaaGreatKey
namespace Go.Proofs.YtbgikgeknnmelaaGreat
open Go.RowKit
set_option linter.unusedVariables false      -- a walk need not use every condition

theorem xor_low {i r : Nat} (h : r < 2 ^ i) : 2 ^ i ^^^ r = 2 ^ i + r := by
  have e := Nat.two_pow_add_eq_or_of_lt h 1
  rw [Nat.mul_one] at e
  rw [e]
  apply Nat.eq_of_testBit_eq
  intro j
  rw [Nat.testBit_xor, Nat.testBit_or, Nat.testBit_two_pow]
  by_cases hj : i = j
  · subst hj
    rw [Nat.testBit_lt_two_pow h]; simp
  · simp [hj]
theorem xor_high {i r : Nat} (h : r < 2 ^ i) : (2 ^ i + r) ^^^ 2 ^ i = r := by
  rw [← xor_low h, Nat.xor_comm, ← Nat.xor_assoc, Nat.xor_self, Nat.zero_xor]
/-- The highest bit turned. -/
theorem xor_top (u : Nat) (h1 : u < 18446744073709551616) : bits .xor .u64 (u : Int) 9223372036854775808 = (((u + 9223372036854775808) % 18446744073709551616 : Nat) : Int) := by
  show IntKind.u64.wrap (((BitVec.ofInt 64 (u : Int) ^^^ BitVec.ofInt 64 9223372036854775808).toNat : Nat) : Int) = _
  have e1 : (BitVec.ofInt 64 9223372036854775808).toNat = 2 ^ 63 := by decide
  have e2 : (BitVec.ofInt 64 (u : Int)).toNat = u := by rw [BitVec.ofInt_natCast, BitVec.toNat_ofNat, Nat.mod_eq_of_lt (by omega)]
  rw [BitVec.toNat_xor, e1, e2]
  by_cases h : u < 2 ^ 63
  · rw [Nat.xor_comm, xor_low h, IntKind.wrap_u64]
    omega
  · obtain ⟨r, rfl⟩ : ∃ r, u = 2 ^ 63 + r := ⟨u - 2 ^ 63, by omega⟩
    rw [xor_high (by omega), IntKind.wrap_u64]
    omega
theorem xor_word {n : Int} (h : I64 n) : bits .xor .u64 (IntKind.u64.wrap n) 9223372036854775808 = (wordU n : Int) := by
  unfold I64 at h
  obtain ⟨m, hm⟩ : ∃ m : Nat, IntKind.u64.wrap n = (m : Int) := ⟨(IntKind.u64.wrap n).toNat, by rw [IntKind.wrap_u64]; omega⟩
  have hm2 : m < 18446744073709551616 := by rw [IntKind.wrap_u64] at hm; omega
  rw [hm, xor_top m hm2]
  rw [IntKind.wrap_u64] at hm
  unfold wordU
  omega

theorem bytes_store {k : Nat} {x : UInt8} {r : List UInt8} : (List.replicate (k + 1) (0 : UInt8) ++ r).set k x = List.replicate k 0 ++ x :: r := by
  induction k with
  | zero => rfl
  | succ k ih =>
    rw [List.replicate_succ, List.cons_append, List.set_cons_succ, ih, List.replicate_succ, List.cons_append]

/-- An array's cells. -/
def arr8 (l : List UInt8) : Array Value := (l.map fun c => Value.int .u8 c.toNat).toArray
theorem eight_of {w : World} {g : Nat} {x0 x1 x2 x3 x4 x5 x6 x7 : UInt8} {t : TypeId} (e : w.heap[g]? = some (.cells (arr8 [x0, x1, x2, x3, x4, x5, x6, x7]) t)) :
    w.cell? ⟨g, 0, none⟩ = some (.int .u8 x0.toNat) ∧ w.cell? ⟨g, 1, none⟩ = some (.int .u8 x1.toNat) ∧ w.cell? ⟨g, 2, none⟩ = some (.int .u8 x2.toNat) ∧ w.cell? ⟨g, 3, none⟩ = some (.int .u8 x3.toNat) ∧
    w.cell? ⟨g, 4, none⟩ = some (.int .u8 x4.toNat) ∧ w.cell? ⟨g, 5, none⟩ = some (.int .u8 x5.toNat) ∧ w.cell? ⟨g, 6, none⟩ = some (.int .u8 x6.toNat) ∧ w.cell? ⟨g, 7, none⟩ = some (.int .u8 x7.toNat) ∧ ∀ i, w.frozen? ⟨g, i, none⟩ = false := by
  refine ⟨?_, ?_, ?_, ?_, ?_, ?_, ?_, ?_, fun i => ?_⟩ <;> simp [World.cell?, World.frozen?, e, arr8]
theorem shr8 (u k : Nat) : ((u : Int) / 2 ^ (8 * k)) % 256 = ((u / 256 ^ k % 256 : Nat) : Int) := by
  have : (2 : Int) ^ (8 * k) = ((256 ^ k : Nat) : Int) := by
    rw [show (256 : Nat) = 2 ^ 8 from rfl, ← Nat.pow_mul]; simp
  rw [this]; omega
set_option maxHeartbeats 1000000 in
set_option maxRecDepth 20000 in
theorem wordOf122 (n : Int) (hn : I64 n) (w : World) :
    Calls Tryz.prog 122 #[.int .i64 n] w fun e w' => e = .returned (.agg (arr8 (beN 8 (wordU n)))) ∧ Below w.heap.size w w' := by
  have hx := xor_word hn
  have hul := wordU_lt hn
  generalize wordU n = u at *
  obtain ⟨W, hW⟩ : ∃ W, W = (w.alloc (.cells #[.int .u8 0, .int .u8 0, .int .u8 0, .int .u8 0, .int .u8 0, .int .u8 0, .int .u8 0, .int .u8 0] 142)).alloc (.cells #[.int .u8 0, .int .u8 0, .int .u8 0, .int .u8 0, .int .u8 0, .int .u8 0, .int .u8 0, .int .u8 0] 142) := ⟨_, rfl⟩
  go_enter Tryz.func122, Tryz.ntmps122
  go_wp2
  go_loopg [9] 8 (fun c i wr => ∃ k : Nat, c + k = 8 ∧ i = .int .i64 k ∧ Hid (wr.heap[w.heap.size + 1]? = some (.cells (arr8 (List.replicate (8 - k) 0 ++ beN k u)) 142)) ∧ Hid (wr.heap[w.heap.size]? = some (.cells (arr8 [0, 0, 0, 0, 0, 0, 0, 0]) 142)) ∧ Hid (Below w.heap.size w wr))
  case atStart =>
    refine ⟨0, rfl, rfl, ?_, blk_old (blk_new w _), bel2 w _ _⟩
    have := blk_new (w.alloc (.cells #[.int .u8 0, .int .u8 0, .int .u8 0, .int .u8 0, .int .u8 0, .int .u8 0, .int .u8 0, .int .u8 0] 142)) (.cells #[.int .u8 0, .int .u8 0, .int .u8 0, .int .u8 0, .int .u8 0, .int .u8 0, .int .u8 0, .int .u8 0] 142)
    rw [World.size_alloc] at this
    exact this
  case round =>
    obtain ⟨k, hk, rfl, hblk, hres, hB⟩ := hrel
    by_cases hlt : k < 8
    · obtain ⟨m, hm⟩ : ∃ m : Nat, m + k = 7 := ⟨7 - k, by omega⟩
      have hb := hblk.out
      rw [show 8 - k = m + 1 by omega] at hb
      have hsz : (arr8 (List.replicate (m + 1) 0 ++ beN k u)).size = 8 := by simp [arr8, beN_length]; omega
      obtain ⟨cv, hcv⟩ : ∃ cv, wr.cell? ⟨w.heap.size + 1, m, none⟩ = some cv := by
        refine ⟨(arr8 (List.replicate (m + 1) 0 ++ beN k u))[m]'(by omega), ?_⟩
        simp [World.cell?, hb]
      have hfz : wr.frozen? ⟨w.heap.size + 1, m, none⟩ = false := by simp [World.frozen?, hb]
      have w1 : IntKind.i64.wrap (7 - (k : Int)) = (m : Int) := by rw [IntKind.wrap_i64]; omega
      have w2 : IntKind.i64.wrap (m : Int) = (m : Int) := by rw [IntKind.wrap_i64]; omega
      have w3 : IntKind.i64.wrap (8 * (k : Int)) = 8 * (k : Int) := by rw [IntKind.wrap_i64]; omega
      have hs := shr8 u k
      have ec : (u : Int) / 256 ^ k % 256 = ((u / 256 ^ k % 256 : Nat) : Int) := by simp
      have hbl : Hid ((wr.setCell ⟨w.heap.size + 1, m, none⟩ (.int .u8 ((u : Int) / 256 ^ k % 256))).heap[w.heap.size + 1]? = some (.cells (arr8 (List.replicate (8 - (k + 1)) 0 ++ beN (k + 1) u)) 142)) := by
        show _ = _
        rw [ec]
        have e : (wr.setCell ⟨w.heap.size + 1, m, none⟩ (.int .u8 ((u / 256 ^ k % 256 : Nat) : Int))).heap[w.heap.size + 1]? = some (.cells ((arr8 (List.replicate (m + 1) 0 ++ beN k u)).setIfInBounds m (.int .u8 ((u / 256 ^ k % 256 : Nat) : Int))) 142) := by
          simp [World.setCell, Array.getElem?_modify, hb]
        rw [e, show 8 - (k + 1) = m by omega]
        simp only [beN]
        rw [← bytes_store]
        unfold arr8
        congr 2
        apply Array.ext'
        rw [Array.toList_setIfInBounds, List.map_set, toNat_of (Nat.mod_lt _ (by omega))]
      clear hb ec
      go_wp2
      go_roundg (gk - 1)
      case rel => exact ⟨k + 1, by omega, by go_num, hbl, (Below.heap_setCell _ _ _ _ (by show w.heap.size ≠ w.heap.size + 1; omega)).trans hres.out, hB.out.setCell (p := ⟨w.heap.size + 1, m, none⟩) (by show w.heap.size ≤ w.heap.size + 1; omega) _⟩
      case measure => omega
    · obtain rfl : k = 8 := by omega
      have hb := hblk.out
      obtain ⟨x0, x1, x2, x3, x4, x5, x6, x7, hx8⟩ : ∃ x0 x1 x2 x3 x4 x5 x6 x7 : UInt8, beN 8 u = [x0, x1, x2, x3, x4, x5, x6, x7] := ⟨_, _, _, _, _, _, _, _, rfl⟩
      rw [hx8] at hb
      have HX := Lib.hid hx8
      obtain ⟨c0, c1, c2, c3, c4, c5, c6, c7, cf⟩ := eight_of hb
      obtain ⟨d0, d1, d2, d3, d4, d5, d6, d7, df⟩ := eight_of hres.out
      have hB' := hB.out
      clear hblk hx8 hb hres hB
      go_wp2
      simp [bodyPost, results, Tryz.results122, go_sem, d0, d1, d2, d3, d4, d5, d6, d7]
      refine ⟨by rw [HX.out]; rfl, ?_⟩
      exact (((((((hB'.setCell (p := ⟨w.heap.size, 0, none⟩) (Nat.le_refl _) _).setCell (p := ⟨w.heap.size, 1, none⟩) (Nat.le_refl _) _).setCell (p := ⟨w.heap.size, 2, none⟩) (Nat.le_refl _) _).setCell (p := ⟨w.heap.size, 3, none⟩) (Nat.le_refl _) _).setCell (p := ⟨w.heap.size, 4, none⟩) (Nat.le_refl _) _).setCell (p := ⟨w.heap.size, 5, none⟩) (Nat.le_refl _) _).setCell (p := ⟨w.heap.size, 6, none⟩) (Nat.le_refl _) _).setCell (p := ⟨w.heap.size, 7, none⟩) (Nat.le_refl _) _
theorem hne9 {w : World} {base : Nat} {v : Value} {t : List UInt8} (h : Bts w base v t) : some w.heap.size ≠ v.ownBlock := fun e => by
  have := (World.ownsRow.lt h _ e.symm).2
  omega
set_option maxHeartbeats 1000000 in
set_option maxRecDepth 20000 in
theorem putForm_str (s : ByteArray) (w0 w : World) (b : Value) (t0 : List UInt8) (sl : Value) (hin : (V.mk 2 0 s []).In w0 0 sl) (hB : Below w0.heap.size w0 w) (hb : Bts w w0.heap.size b t0) (ht : t0.length + (kForm (.mk 2 0 s [])).length ≤ 140737488355328) :
    Calls Tryz.prog 103 #[b, (V.mk 2 0 s []).agg sl] w fun e w' => ∃ b', e = .returned b' ∧ Bts w' w0.heap.size b' (t0 ++ kForm (.mk 2 0 s [])) ∧ Below w0.heap.size w0 w' := by
  obtain ⟨p1, n1, q1, rfl⟩ := hin.header
  rw [kForm_str] at ht ⊢
  simp only [List.length_cons] at ht
  unfold V.agg
  simp only [V.k, V.n, V.s]
  have hn9 := hne9 hb
  have c49 := fun w b t0 hB hb ht => putMarked121 s w0 w b t0 hB hb ht
  go_enter Tryz.func103, Tryz.ntmps103
  go_wp2_with (first
    | (at_builtin; refine wpList_app_byts _ rfl _ _ rfl w0.heap.size _ t0 rfl (World.ownsRow.alloc (World.ownsRow.alloc hb _) _) ⟨w.heap.size + 1, 0, none⟩ 1 [2] rfl (by have := cells_new (w.alloc (.cells #[.int .i64 2, .int .i64 0, .string s, .slice p1 n1 q1] 29)) [.int .u8 2] 5; rw [World.size_alloc] at this; exact this) (by simp; omega) (by have := hB.size; simp; omega) ?_; intro v1 w1 hb1 hg1; have hB1 := below_app ((hB.alloc hB.size _).alloc (by have := hB.size; simp; omega) _) (World.ownsRow.alloc (World.ownsRow.alloc hb _) _) hg1; obtain ⟨x0, x1, x2, x3, xf⟩ := four_of ((hg1.block w.heap.size (by simp; omega) hn9).trans (blk_old (blk_new w _))); clear hg1)
    | (go_at_call 121; refine (c49 _ _ _ hB1 hb1 (by simp; omega)).mono ?_; rintro e w2 ⟨b2, rfl, hb2, hB2⟩))
  go_ret
  exact ⟨b2, rfl, by simpa using hb2, hB2⟩
set_option maxHeartbeats 1000000 in
set_option maxRecDepth 20000 in
theorem putForm_bool (n : Int) (hn : n = 0 ∨ n = 1) (w0 w : World) (b : Value) (t0 : List UInt8) (sl : Value) (hin : (V.mk 3 n ⟨#[]⟩ []).In w0 0 sl) (hB : Below w0.heap.size w0 w) (hb : Bts w w0.heap.size b t0) (ht : t0.length + (kForm (.mk 3 n ⟨#[]⟩ [])).length ≤ 140737488355328) :
    Calls Tryz.prog 103 #[b, (V.mk 3 n ⟨#[]⟩ []).agg sl] w fun e w' => ∃ b', e = .returned b' ∧ Bts w' w0.heap.size b' (t0 ++ kForm (.mk 3 n ⟨#[]⟩ [])) ∧ Below w0.heap.size w0 w' := by
  obtain ⟨p1, n1, q1, rfl⟩ := hin.header
  rw [kForm_bool] at ht ⊢
  simp only [List.length_cons, List.length_nil] at ht
  unfold V.agg
  simp only [V.k, V.n, V.s]
  have hn9 := hne9 hb
  obtain ⟨c, hc⟩ : ∃ c : UInt8, UInt8.ofNat n.toNat = c := ⟨_, rfl⟩
  have hcn : n % 256 = (c.toNat : Int) := by rw [← hc]; rcases hn with rfl | rfl <;> rfl
  rw [hc]
  clear hc hn
  go_enter Tryz.func103, Tryz.ntmps103
  go_wp2_with (first
    | (at_builtin; refine wpList_app_byts _ rfl _ _ rfl w0.heap.size _ t0 rfl (World.ownsRow.alloc (World.ownsRow.alloc hb _) _) ⟨w.heap.size + 1, 0, none⟩ 1 [3] rfl (by have := cells_new (w.alloc (.cells #[.int .i64 3, .int .i64 n, .string ⟨#[]⟩, .slice p1 n1 q1] 29)) [.int .u8 3] 5; rw [World.size_alloc] at this; exact this) (by simp; omega) (by have := hB.size; simp; omega) ?_; intro v1 w1 hb1 hg1; have hB1 := below_app ((hB.alloc hB.size _).alloc (by have := hB.size; simp; omega) _) (World.ownsRow.alloc (World.ownsRow.alloc hb _) _) hg1; obtain ⟨x0, x1, x2, x3, xf⟩ := four_of ((hg1.block w.heap.size (by simp; omega) hn9).trans (blk_old (blk_new w _))); clear hg1 hb)
    | (at_builtin; refine wpList_app_byts _ rfl _ _ rfl w0.heap.size _ _ rfl (World.ownsRow.alloc hb1 _) ⟨w1.heap.size, 0, none⟩ 1 [c] rfl (cells_new _ [.int .u8 c.toNat] _) (by simp; omega) (by have := hB1.size; simp; omega) ?_; intro v2 w2 hb2 hg2; have hB2 := bel_app hB1 hb1 hg2; clear hg2))
  go_ret
  exact ⟨v2, rfl, by simpa using hb2, hB2⟩
set_option maxHeartbeats 1000000 in
set_option maxRecDepth 20000 in
theorem putForm_num (k n : Int) (hk : k = 1 ∨ k = 6 ∨ k = 7) (w0 w : World) (b : Value) (t0 : List UInt8) (sl : Value) (hin : (V.mk k n ⟨#[]⟩ []).In w0 0 sl) (hB : Below w0.heap.size w0 w) (hb : Bts w w0.heap.size b t0) (ht : t0.length + (kForm (.mk k n ⟨#[]⟩ [])).length ≤ 140737488355328) :
    Calls Tryz.prog 103 #[b, (V.mk k n ⟨#[]⟩ []).agg sl] w fun e w' => ∃ b', e = .returned b' ∧ Bts w' w0.heap.size b' (t0 ++ kForm (.mk k n ⟨#[]⟩ [])) ∧ Below w0.heap.size w0 w' := by
  obtain ⟨p1, n1, q1, rfl⟩ := hin.header
  have hn : I64 n := ((V.in_iff _ _ _ _).1 hin).2.1
  rw [kForm_num (by omega) (by omega)] at ht ⊢
  rw [List.length_cons, beN_length] at ht
  unfold V.agg
  simp only [V.k, V.n, V.s]
  have hn9 := hne9 hb
  have c50 := fun w => wordOf122 n hn w
  obtain ⟨y0, y1, y2, y3, y4, y5, y6, y7, hy⟩ : ∃ x0 x1 x2 x3 x4 x5 x6 x7 : UInt8, beN 8 (wordU n) = [x0, x1, x2, x3, x4, x5, x6, x7] := ⟨_, _, _, _, _, _, _, _, rfl⟩
  rw [hy] at c50 ⊢
  clear hy
  obtain ⟨c, hc⟩ : ∃ c : UInt8, UInt8.ofNat k.toNat = c := ⟨_, rfl⟩
  have hck : k % 256 = (c.toNat : Int) := by rw [← hc]; rcases hk with rfl | rfl | rfl <;> rfl
  have k3 : (k == 3) = false := by simp; omega
  have k2 : (k == 2) = false := by simp; omega
  rw [hc]
  clear hc hk
  unfold arr8 at c50
  simp only [List.map_cons, List.map_nil] at c50
  go_enter Tryz.func103, Tryz.ntmps103
  go_wp2_with (first
    | (at_builtin; refine wpList_app_byts _ rfl _ _ rfl w0.heap.size _ t0 rfl (World.ownsRow.alloc (World.ownsRow.alloc hb _) _) ⟨w.heap.size + 1, 0, none⟩ 1 [c] rfl (by have := cells_new (w.alloc (.cells #[.int .i64 k, .int .i64 n, .string ⟨#[]⟩, .slice p1 n1 q1] 29)) [.int .u8 c.toNat] 5; rw [World.size_alloc] at this; exact this) (by simp; omega) (by have := hB.size; simp; omega) ?_; intro v1 w1 hb1 hg1; have hB1 := below_app ((hB.alloc hB.size _).alloc (by have := hB.size; simp; omega) _) (World.ownsRow.alloc (World.ownsRow.alloc hb _) _) hg1; obtain ⟨x0, x1, x2, x3, xf⟩ := four_of ((hg1.block w.heap.size (by simp; omega) hn9).trans (blk_old (blk_new w _))); clear hg1 hb)
    | (go_at_call 122; refine (c50 _).mono ?_; rintro e w2 ⟨rfl, hb2⟩; have hB2 := hB1.trans (hb2.mono hB1.size); have hO2 : Bts w2 w0.heap.size v1 (t0 ++ [c]) := own_bel hb1 hb2)
    | (at_builtin; refine wpList_app_byts _ rfl _ _ rfl w0.heap.size _ _ rfl (World.ownsRow.alloc hO2 _) ⟨w2.heap.size, 0, none⟩ 8 [y0, y1, y2, y3, y4, y5, y6, y7] rfl (cells_new _ [.int .u8 y0.toNat, .int .u8 y1.toNat, .int .u8 y2.toNat, .int .u8 y3.toNat, .int .u8 y4.toNat, .int .u8 y5.toNat, .int .u8 y6.toNat, .int .u8 y7.toNat] _) (by simp; omega) (by have := hB2.size; simp; omega) ?_; intro v3 w3 hb3 hg3; have hB3 := bel_app hB2 hO2 hg3; clear hg3))
  go_ret
  exact ⟨v3, rfl, by simpa using hb3, hB3⟩
theorem putForm103 (v : V) (hv : bad v = 0) (w0 w : World) (b : Value) (t0 : List UInt8) (sl : Value) (hin : v.In w0 0 sl) (hB : Below w0.heap.size w0 w) (hb : Bts w w0.heap.size b t0) (ht : t0.length + (kForm v).length ≤ 140737488355328) :
    Calls Tryz.prog 103 #[b, v.agg sl] w fun e w' => ∃ b', e = .returned b' ∧ Bts w' w0.heap.size b' (t0 ++ kForm v) ∧ Below w0.heap.size w0 w' := by
  cases kk_of hv with
  | num k n hk => exact putForm_num k n hk w0 w b t0 sl hin hB hb ht
  | bool n hn => exact putForm_bool n hn w0 w b t0 sl hin hB hb ht
  | str s hs => exact putForm_str s w0 w b t0 sl hin hB hb ht

/-! ### Key -/

theorem bads_at {l : List V} {i : Nat} (hi : i < l.length) (h : ∀ j (hj : j < l.length), j < i → bad l[j] = 0) (hb : bad l[i] ≠ 0) : bads l = bad l[i] := by
  induction l generalizing i with
  | nil => exact absurd hi (Nat.not_lt_zero _)
  | cons v l ih =>
    cases i with
    | zero =>
      simp only [List.getElem_cons_zero] at hb ⊢
      simp only [bads]; rw [if_neg hb]
    | succ i =>
      have h0 := h 0 (by simp) (by omega)
      simp only [List.getElem_cons_zero] at h0
      simp only [List.getElem_cons_succ] at hb ⊢
      simp only [bads]; rw [if_pos h0]
      exact ih (by simpa using hi) (fun j hj hji => by have := h (j + 1) (by simpa using hj) (by omega); simpa using this) hb
theorem bads_all {l : List V} (h : ∀ j (hj : j < l.length), bad l[j] = 0) : bads l = 0 := bads_of fun v hv => by
  obtain ⟨j, hj, rfl⟩ := List.getElem_of_mem hv
  exact h j hj
theorem keyL_take {l : List V} {j : Nat} (hj : j < l.length) : keyL (l.take (j + 1)) = keyL (l.take j) ++ kForm l[j] := by
  unfold keyL
  rw [List.take_succ_eq_append_getElem hj, List.flatMap_append]; simp
theorem keyL_split {l : List V} {j : Nat} (hj : j < l.length) : (keyL (l.take j)).length + (kForm l[j]).length ≤ (keyL l).length := by
  have h : keyL l = keyL (l.take (j + 1)) ++ keyL (l.drop (j + 1)) := by unfold keyL; rw [← List.flatMap_append, List.take_append_drop]
  rw [h, List.length_append, keyL_take hj, List.length_append]; omega
/-- What Key comes to. -/
def KeyR (l : List V) (w : World) (e : Ending) (w' : World) : Prop :=
  ∃ b, e = .returned (.tuple #[b, .int .i64 (bads l)]) ∧ Bts w' w.heap.size b (if bads l = 0 then keyL l else []) ∧ Below w.heap.size w w'
theorem KeyR.no {l : List V} {w w' : World} {n : Int} (hn : bads l = n) (h0 : n ≠ 0) (hb : Below w.heap.size w w') : KeyR l w (.returned (.tuple #[.slice none 0 0, .int .i64 n])) w' := by
  refine ⟨.slice none 0 0, by rw [hn], ?_, hb⟩
  rw [if_neg (by omega)]; exact World.ownsRow_nil _ _ _ _
set_option maxHeartbeats 2000000 in
set_option maxRecDepth 20000 in
theorem key76 (l : List V) (sl : Value) (w : World) (hl : Sl w 0 l sl) (hsz : (keyL l).length ≤ 140737488355328) :
    Calls Tryz.prog 76 #[sl] w (KeyR l w) := by
  obtain ⟨p, cap, rfl, hc, hcm, h56, hx⟩ := hl
  unfold maxLen at hcm
  go_enter Tryz.func76, Tryz.ntmps76
  go_wp2
  go_loopg [4, 10] l.length (fun c v i wr => ∃ (j : Nat), c + j = l.length ∧ i = .int .i64 j ∧ Hid (∀ i (hi : i < l.length), i < j → bad l[i] = 0) ∧ Hid (Bts wr w.heap.size v (keyL (l.take j))) ∧ Hid (Below w.heap.size w wr))
  case atStart => exact ⟨0, rfl, rfl, fun i _ h => absurd h (Nat.not_lt_zero _), World.ownsRow_nil _ _ _ _, Below.refl _ _⟩
  case round =>
    obtain ⟨j, hj, rfl, hall, hbr, hBr⟩ := hrel
    by_cases hlt : j < l.length
    · obtain ⟨bx, ox, rfl, -, hx1⟩ := hx.resolve_left (by intro e; rw [e] at hlt; simp at hlt)
      obtain ⟨sk, k0, k1, k2, k3, hk⟩ := hx1.at j hlt
      have hB := hBr.out
      have y0 := some_on hB k0
      have y1 := some_on hB k1
      have y2 := some_on hB k2
      have y3 := some_on hB k3
      have c31 := fun u h => check_any (l[j]'hlt) sk u h
      have c32 := fun hb u b t0 hB hb' ht => putForm103 (l[j]'hlt) hb w u b t0 sk hk hB hb' ht
      have hsp := keyL_split hlt
      have hkt := Lib.hid (keyL_take hlt)
      have hat := Lib.hid (fun h => bads_at hlt hall.out h)
      have hall' : Hid (bad l[j] = 0 → ∀ i (hi : i < l.length), i < j + 1 → bad l[i] = 0) := fun h i hi hij => by
        by_cases e : i = j
        · subst e; exact h
        · exact hall.out i hi (by omega)
      unfold V.err at c31
      clear hall
      generalize l[j] = x at *
      unfold V.agg at c31 c32
      obtain ⟨pk, nk, ck, rfl⟩ := hk.header
      have hin := hk.on hB
      clear k0 k1 k2 k3 hx hx1
      cases hm : x.may 1 with
      | false =>
        have hbad : bad x = 20 := by unfold bad; rw [hm]; rfl
        rw [hm] at c31
        simp only [Bool.false_eq_true, if_false] at c31
        have hat' : Hid (bads l = 20) := (hat.out (by omega)).trans hbad
        clear hm hat hall' c32
        go_wp2_with (go_at_call 57; refine (c31 _ (hin.on (bel1 wr _))).mono ?_; rintro e w1 ⟨rfl, hb1⟩)
        go_ret2
        exact KeyR.no hat'.out (by decide) (hB.trans (((bel1 wr _).trans (hb1.mono (by simp))).mono hB.size))
      | true =>
        rw [hm] at c31
        simp only [if_true] at c31
        by_cases h45 : x.k = 4 ∨ x.k = 5
        · have hbad : bad x = 21 := by unfold bad; rw [hm, if_neg (by decide), if_pos h45]
          have hat' : Hid (bads l = 21) := (hat.out (by omega)).trans hbad
          clear hm hat hall' c32
          rcases h45 with h4 | h5
          · have e1 : (x.k == 4) = true := by simp [h4]
            clear h4
            go_wp2_with (go_at_call 57; refine (c31 _ (hin.on (bel1 wr _))).mono ?_; rintro e w1 ⟨rfl, hb1⟩; obtain ⟨z0, z1, z2, z3, zf⟩ := four_of (blk_on hb1 (blk_new wr _)))
            go_ret2
            exact KeyR.no hat'.out (by decide) (hB.trans (((bel1 wr _).trans (hb1.mono (by simp))).mono hB.size))
          · have e1 : (x.k == 4) = false := by simp [h5]
            have e2 : (x.k == 5) = true := by simp [h5]
            clear h5
            go_wp2_with (go_at_call 57; refine (c31 _ (hin.on (bel1 wr _))).mono ?_; rintro e w1 ⟨rfl, hb1⟩; obtain ⟨z0, z1, z2, z3, zf⟩ := four_of (blk_on hb1 (blk_new wr _)))
            go_ret2
            exact KeyR.no hat'.out (by decide) (hB.trans (((bel1 wr _).trans (hb1.mono (by simp))).mono hB.size))
        · have hbad : bad x = 0 := by unfold bad; rw [hm, if_neg (by decide), if_neg h45]
          have e1 : (x.k == 4) = false := by simp; omega
          have e2 : (x.k == 5) = false := by simp; omega
          have c32 := c32 hbad
          have hall' := Lib.hid (hall'.out hbad)
          clear hm hat h45 hbad
          go_wp2_with (first
            | (go_at_call 57; refine (c31 _ (hin.on (bel1 wr _))).mono ?_; rintro e w1 ⟨rfl, hb1⟩; obtain ⟨z0, z1, z2, z3, zf⟩ := four_of (blk_on hb1 (blk_new wr _)); have hB1 := hB.trans (((bel1 wr _).trans (hb1.mono (by simp))).mono hB.size); have hO1 : Bts w1 w.heap.size _ _ := own_bel (World.ownsRow.alloc hbr.out _) hb1)
            | (go_at_call 103; refine (c32 _ _ _ hB1 hO1 (by omega)).mono ?_; rintro e w2 ⟨b2, rfl, hb2, hB2⟩))
          have hb2' : Hid (Bts w2 w.heap.size b2 (keyL (l.take (j + 1)))) := by show Bts _ _ _ _; rw [hkt.out]; exact hb2
          clear hb2
          go_roundg (gk - 1)
          case rel => exact ⟨j + 1, by omega, by go_num, hall', hb2', hB2⟩
          case measure => omega
    · obtain rfl : j = l.length := by omega
      have hz : Hid (bads l = 0) := bads_all fun i hi => hall.out i hi hi
      have hbr' : Hid (Bts wr w.heap.size u4 (keyL l)) := by have := hbr.out; rwa [List.take_length] at this
      clear hall hbr hx
      go_wp2
      go_ret2
      unfold KeyR
      rw [hz.out]
      exact ⟨u4, rfl, hbr'.out, hBr.out⟩
end Go.Proofs.YtbgikgeknnmelaaGreat
