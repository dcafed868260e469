/-
  The document's Take (rambleref03), the whole.
-/
import Derived.Test.YtekfbijkalamkaaRefN
namespace Go.Proofs.Ytekfbijkalamkaa
open Go.RowKit
set_option linter.unusedVariables false      -- a walk need not use every condition

set_option maxHeartbeats 1000000 in
set_option maxRecDepth 20000 in
theorem refTake_nil (w : World) (b : Value) (hb : Bs w b []) : Calls Try.prog 13 #[b] w (TakeR (pTake []) [] w) := by
  obtain ⟨p, cap, rfl, hpc, htl⟩ := hb.slice
  have hE : Hid (pTake [] = .error 11) := (rfl : pTake [] = .error 11)
  have hnew := blk_new w (.cells #[.int .i64 0, .int .i64 0, .string ⟨#[]⟩, .slice none 0 0] 31)
  obtain ⟨x0, x1, x2, x3, xf⟩ := four_of hnew
  clear hb
  go_enter Try.func13, Try.ntmps13
  go_wp2
  simp [bodyPost, results, Try.results13, go_sem]
  exact .inr ⟨11, hE.out, by decide, rfl, bel1 w _⟩
set_option maxHeartbeats 2000000 in
set_option maxRecDepth 20000 in
theorem refTake_num1_no (w : World) (b : Value) (c : UInt8) (t : List UInt8) (hb : Bs w b (c :: t)) (hk : c.toNat = 1) (ht : t.length < 8) : Calls Try.prog 13 #[b] w (TakeR (pTake (c :: t)) (c :: t) w) := by
  obtain ⟨g, o, cap, rfl, hcap, htl, hcell⟩ := hb.cells (by simp)
  have hc := c.toNat_lt
  have hc0 := hcell 0 (by simp)
  simp only [List.getElem_cons_zero, Nat.add_zero] at hc0
  have hgl := cell_lt hc0
  have hB2 := bel2 w (.cells #[.int .i64 0, .int .i64 0, .string ⟨#[]⟩, .slice none 0 0] 31) (.cells #[.int .i64 c.toNat, .int .i64 0, .string ⟨#[]⟩, .slice none 0 0] 31)
  have kz := blk_old (o' := (.cells #[.int .i64 c.toNat, .int .i64 0, .string ⟨#[]⟩, .slice none 0 0] 31)) (blk_new w (.cells #[.int .i64 0, .int .i64 0, .string ⟨#[]⟩, .slice none 0 0] 31))
  have kb := blk_new (w.alloc (.cells #[.int .i64 0, .int .i64 0, .string ⟨#[]⟩, .slice none 0 0] 31)) (.cells #[.int .i64 c.toNat, .int .i64 0, .string ⟨#[]⟩, .slice none 0 0] 31)
  rw [World.size_alloc] at kb
  rw [List.length_cons] at hcap htl
  have hy := some_on (bel1 w (.cells #[.int .i64 0, .int .i64 0, .string ⟨#[]⟩, .slice none 0 0] 31)) hc0
  have hy2 := some_on hB2 hc0
  obtain ⟨x0, x1, x2, x3, xf⟩ := four_of kz
  obtain ⟨y0, y1, y2, y3, yf⟩ := four_of kb
  have k1f : ((c.toNat : Int) == 1) = true := by simp; omega
  have hE : Hid (pTake (c :: t) = .error 11) := by show chk _ = _; simp only [pForm]; rw [if_pos (by omega), if_pos ht]; rfl
  clear hk hcell hb
  go_enter Try.func13, Try.ntmps13
  go_wp2
  simp [bodyPost, results, Try.results13, go_sem, x0, x1, x2, x3]
  exact .inr ⟨11, hE.out, by decide, rfl, hB2⟩
set_option maxHeartbeats 2000000 in
set_option maxRecDepth 20000 in
theorem refTake_num6_no (w : World) (b : Value) (c : UInt8) (t : List UInt8) (hb : Bs w b (c :: t)) (hk : c.toNat = 6) (ht : t.length < 8) : Calls Try.prog 13 #[b] w (TakeR (pTake (c :: t)) (c :: t) w) := by
  obtain ⟨g, o, cap, rfl, hcap, htl, hcell⟩ := hb.cells (by simp)
  have hc := c.toNat_lt
  have hc0 := hcell 0 (by simp)
  simp only [List.getElem_cons_zero, Nat.add_zero] at hc0
  have hgl := cell_lt hc0
  have hB2 := bel2 w (.cells #[.int .i64 0, .int .i64 0, .string ⟨#[]⟩, .slice none 0 0] 31) (.cells #[.int .i64 c.toNat, .int .i64 0, .string ⟨#[]⟩, .slice none 0 0] 31)
  have kz := blk_old (o' := (.cells #[.int .i64 c.toNat, .int .i64 0, .string ⟨#[]⟩, .slice none 0 0] 31)) (blk_new w (.cells #[.int .i64 0, .int .i64 0, .string ⟨#[]⟩, .slice none 0 0] 31))
  have kb := blk_new (w.alloc (.cells #[.int .i64 0, .int .i64 0, .string ⟨#[]⟩, .slice none 0 0] 31)) (.cells #[.int .i64 c.toNat, .int .i64 0, .string ⟨#[]⟩, .slice none 0 0] 31)
  rw [World.size_alloc] at kb
  rw [List.length_cons] at hcap htl
  have hy := some_on (bel1 w (.cells #[.int .i64 0, .int .i64 0, .string ⟨#[]⟩, .slice none 0 0] 31)) hc0
  have hy2 := some_on hB2 hc0
  obtain ⟨x0, x1, x2, x3, xf⟩ := four_of kz
  obtain ⟨y0, y1, y2, y3, yf⟩ := four_of kb
  have k1f : ((c.toNat : Int) == 1) = false := by simp; omega
  have k6f : ((c.toNat : Int) == 6) = true := by simp; omega
  have hE : Hid (pTake (c :: t) = .error 11) := by show chk _ = _; simp only [pForm]; rw [if_pos (by omega), if_pos ht]; rfl
  clear hk hcell hb
  go_enter Try.func13, Try.ntmps13
  go_wp2
  simp [bodyPost, results, Try.results13, go_sem, x0, x1, x2, x3]
  exact .inr ⟨11, hE.out, by decide, rfl, hB2⟩
set_option maxHeartbeats 2000000 in
set_option maxRecDepth 20000 in
theorem refTake_num7_no (w : World) (b : Value) (c : UInt8) (t : List UInt8) (hb : Bs w b (c :: t)) (hk : c.toNat = 7) (ht : t.length < 8) : Calls Try.prog 13 #[b] w (TakeR (pTake (c :: t)) (c :: t) w) := by
  obtain ⟨g, o, cap, rfl, hcap, htl, hcell⟩ := hb.cells (by simp)
  have hc := c.toNat_lt
  have hc0 := hcell 0 (by simp)
  simp only [List.getElem_cons_zero, Nat.add_zero] at hc0
  have hgl := cell_lt hc0
  have hB2 := bel2 w (.cells #[.int .i64 0, .int .i64 0, .string ⟨#[]⟩, .slice none 0 0] 31) (.cells #[.int .i64 c.toNat, .int .i64 0, .string ⟨#[]⟩, .slice none 0 0] 31)
  have kz := blk_old (o' := (.cells #[.int .i64 c.toNat, .int .i64 0, .string ⟨#[]⟩, .slice none 0 0] 31)) (blk_new w (.cells #[.int .i64 0, .int .i64 0, .string ⟨#[]⟩, .slice none 0 0] 31))
  have kb := blk_new (w.alloc (.cells #[.int .i64 0, .int .i64 0, .string ⟨#[]⟩, .slice none 0 0] 31)) (.cells #[.int .i64 c.toNat, .int .i64 0, .string ⟨#[]⟩, .slice none 0 0] 31)
  rw [World.size_alloc] at kb
  rw [List.length_cons] at hcap htl
  have hy := some_on (bel1 w (.cells #[.int .i64 0, .int .i64 0, .string ⟨#[]⟩, .slice none 0 0] 31)) hc0
  have hy2 := some_on hB2 hc0
  obtain ⟨x0, x1, x2, x3, xf⟩ := four_of kz
  obtain ⟨y0, y1, y2, y3, yf⟩ := four_of kb
  have k1f : ((c.toNat : Int) == 1) = false := by simp; omega
  have k6f : ((c.toNat : Int) == 6) = false := by simp; omega
  have k7f : ((c.toNat : Int) == 7) = true := by simp; omega
  have hE : Hid (pTake (c :: t) = .error 11) := by show chk _ = _; simp only [pForm]; rw [if_pos (by omega), if_pos ht]; rfl
  clear hk hcell hb
  go_enter Try.func13, Try.ntmps13
  go_wp2
  simp [bodyPost, results, Try.results13, go_sem, x0, x1, x2, x3]
  exact .inr ⟨11, hE.out, by decide, rfl, hB2⟩
set_option maxHeartbeats 2000000 in
set_option maxRecDepth 20000 in
theorem refTake_bool_no (w : World) (b : Value) (c : UInt8) (t : List UInt8) (hb : Bs w b (c :: t)) (hk : c.toNat = 3) (ht : t = []) : Calls Try.prog 13 #[b] w (TakeR (pTake (c :: t)) (c :: t) w) := by
  obtain ⟨g, o, cap, rfl, hcap, htl, hcell⟩ := hb.cells (by simp)
  have hc := c.toNat_lt
  have hc0 := hcell 0 (by simp)
  simp only [List.getElem_cons_zero, Nat.add_zero] at hc0
  have hgl := cell_lt hc0
  have hB2 := bel2 w (.cells #[.int .i64 0, .int .i64 0, .string ⟨#[]⟩, .slice none 0 0] 31) (.cells #[.int .i64 c.toNat, .int .i64 0, .string ⟨#[]⟩, .slice none 0 0] 31)
  have kz := blk_old (o' := (.cells #[.int .i64 c.toNat, .int .i64 0, .string ⟨#[]⟩, .slice none 0 0] 31)) (blk_new w (.cells #[.int .i64 0, .int .i64 0, .string ⟨#[]⟩, .slice none 0 0] 31))
  have kb := blk_new (w.alloc (.cells #[.int .i64 0, .int .i64 0, .string ⟨#[]⟩, .slice none 0 0] 31)) (.cells #[.int .i64 c.toNat, .int .i64 0, .string ⟨#[]⟩, .slice none 0 0] 31)
  rw [World.size_alloc] at kb
  rw [List.length_cons] at hcap htl
  have hy := some_on (bel1 w (.cells #[.int .i64 0, .int .i64 0, .string ⟨#[]⟩, .slice none 0 0] 31)) hc0
  have hy2 := some_on hB2 hc0
  obtain ⟨x0, x1, x2, x3, xf⟩ := four_of kz
  obtain ⟨y0, y1, y2, y3, yf⟩ := four_of kb
  have k1f : ((c.toNat : Int) == 1) = false := by simp; omega
  have k6f : ((c.toNat : Int) == 6) = false := by simp; omega
  have k7f : ((c.toNat : Int) == 7) = false := by simp; omega
  have k3f : ((c.toNat : Int) == 3) = true := by simp; omega
  subst ht
  have hE : Hid (pTake [c] = .error 11) := by show chk _ = _; simp only [pForm]; rw [if_neg (by omega), if_pos hk]; rfl
  clear hk hcell hb
  go_enter Try.func13, Try.ntmps13
  go_wp2
  simp [bodyPost, results, Try.results13, go_sem, x0, x1, x2, x3]
  exact .inr ⟨11, hE.out, by decide, rfl, hB2⟩
set_option maxHeartbeats 2000000 in
set_option maxRecDepth 20000 in
theorem refTake_else (w : World) (b : Value) (c : UInt8) (t : List UInt8) (hb : Bs w b (c :: t)) (h1 : c.toNat ≠ 1) (h2 : c.toNat ≠ 2) (h3 : c.toNat ≠ 3) (h6 : c.toNat ≠ 6) (h7 : c.toNat ≠ 7) : Calls Try.prog 13 #[b] w (TakeR (pTake (c :: t)) (c :: t) w) := by
  obtain ⟨g, o, cap, rfl, hcap, htl, hcell⟩ := hb.cells (by simp)
  have hc := c.toNat_lt
  have hc0 := hcell 0 (by simp)
  simp only [List.getElem_cons_zero, Nat.add_zero] at hc0
  have hgl := cell_lt hc0
  have hB2 := bel2 w (.cells #[.int .i64 0, .int .i64 0, .string ⟨#[]⟩, .slice none 0 0] 31) (.cells #[.int .i64 c.toNat, .int .i64 0, .string ⟨#[]⟩, .slice none 0 0] 31)
  have kz := blk_old (o' := (.cells #[.int .i64 c.toNat, .int .i64 0, .string ⟨#[]⟩, .slice none 0 0] 31)) (blk_new w (.cells #[.int .i64 0, .int .i64 0, .string ⟨#[]⟩, .slice none 0 0] 31))
  have kb := blk_new (w.alloc (.cells #[.int .i64 0, .int .i64 0, .string ⟨#[]⟩, .slice none 0 0] 31)) (.cells #[.int .i64 c.toNat, .int .i64 0, .string ⟨#[]⟩, .slice none 0 0] 31)
  rw [World.size_alloc] at kb
  rw [List.length_cons] at hcap htl
  have hy := some_on (bel1 w (.cells #[.int .i64 0, .int .i64 0, .string ⟨#[]⟩, .slice none 0 0] 31)) hc0
  have hy2 := some_on hB2 hc0
  obtain ⟨x0, x1, x2, x3, xf⟩ := four_of kz
  obtain ⟨y0, y1, y2, y3, yf⟩ := four_of kb
  have k1f : ((c.toNat : Int) == 1) = false := by simp; omega
  have k6f : ((c.toNat : Int) == 6) = false := by simp; omega
  have k7f : ((c.toNat : Int) == 7) = false := by simp; omega
  have k3f : ((c.toNat : Int) == 3) = false := by simp; omega
  have k2f : ((c.toNat : Int) == 2) = false := by simp; omega
  have hE : Hid (pTake (c :: t) = .error 30) := by show chk _ = _; simp only [pForm]; rw [if_neg (by omega), if_neg h3, if_neg h2]; rfl
  clear h1 h2 h3 h6 h7 hcell hb
  go_enter Try.func13, Try.ntmps13
  go_wp2
  simp [bodyPost, results, Try.results13, go_sem, x0, x1, x2, x3]
  exact .inr ⟨30, hE.out, by decide, rfl, hB2⟩
set_option maxHeartbeats 4000000 in
set_option maxRecDepth 20000 in
theorem refTake_num1_yes (w : World) (b : Value) (c : UInt8) (t : List UInt8) (hb : Bs w b (c :: t)) (hk : c.toNat = 1) (ht : 8 ≤ t.length) : Calls Try.prog 13 #[b] w (TakeR (pTake (c :: t)) (c :: t) w) := by
  have hE : Hid (pForm (c :: t) = .ok (.mk c.toNat (wordI (deN (t.take 8))) ⟨#[]⟩ [], t.drop 8)) := by show _ = _; simp only [pForm]; rw [if_pos (by omega), if_neg (by omega)]
  have hI : I64 (wordI (deN (t.take 8))) := wordI_i64 (by have := deN_lt (t.take 8); rwa [List.length_take, Nat.min_eq_left ht] at this)
  obtain ⟨g, o, cap, rfl, hcap, htl, hcell⟩ := hb.cells (by simp)
  have hc := c.toNat_lt
  have hc0 := hcell 0 (by simp)
  simp only [List.getElem_cons_zero, Nat.add_zero] at hc0
  have hB2 := bel2 w (.cells #[.int .i64 0, .int .i64 0, .string ⟨#[]⟩, .slice none 0 0] 31) (.cells #[.int .i64 c.toNat, .int .i64 0, .string ⟨#[]⟩, .slice none 0 0] 31)
  have kz := blk_old (o' := (.cells #[.int .i64 c.toNat, .int .i64 0, .string ⟨#[]⟩, .slice none 0 0] 31)) (blk_new w (.cells #[.int .i64 0, .int .i64 0, .string ⟨#[]⟩, .slice none 0 0] 31))
  have kb := blk_new (w.alloc (.cells #[.int .i64 0, .int .i64 0, .string ⟨#[]⟩, .slice none 0 0] 31)) (.cells #[.int .i64 c.toNat, .int .i64 0, .string ⟨#[]⟩, .slice none 0 0] 31)
  rw [World.size_alloc] at kb
  have hsz : ((w.alloc (.cells #[.int .i64 0, .int .i64 0, .string ⟨#[]⟩, .slice none 0 0] 31)).alloc (.cells #[.int .i64 c.toNat, .int .i64 0, .string ⟨#[]⟩, .slice none 0 0] 31)).heap.size = w.heap.size + 2 := by simp
  have hce : Hid (∀ j, 1 ≤ j → j < 9 → ((w.alloc (.cells #[.int .i64 0, .int .i64 0, .string ⟨#[]⟩, .slice none 0 0] 31)).alloc (.cells #[.int .i64 c.toNat, .int .i64 0, .string ⟨#[]⟩, .slice none 0 0] 31)).cell? ⟨g, o + j, none⟩ = some (.int .u8 ((t.take 8).getD (j - 1) 0).toNat)) := by
    intro j h1 h9
    have := some_on hB2 (hcell j (by simp; omega))
    rw [this]
    obtain ⟨k, rfl⟩ : ∃ k, j = k + 1 := ⟨j - 1, by omega⟩
    simp
    rw [List.getElem?_take_of_lt (by omega), List.getElem?_eq_getElem (by omega)]
    rfl
  have hLl : (t.take 8).length = 8 := by simp; omega
  have hql : Hid ((((c :: t).length : Nat) : Int) - ((t.drop 8).length : Int) = 9) := by show _ = _; simp; omega
  have hTl : 9 ≤ (c :: t).length := by simp; omega
  have hgl : g < w.heap.size := cell_lt hc0
  have k1f : ((c.toNat : Int) == 1) = true := by simp; omega
  generalize t.take 8 = L at *
  generalize t.drop 8 = q at *
  have hy := some_on (bel1 w (.cells #[.int .i64 0, .int .i64 0, .string ⟨#[]⟩, .slice none 0 0] 31)) hc0
  unfold pTake
  generalize pForm (c :: t) = S at *
  generalize c :: t = T at *
  have hkk := Lib.hid hk
  clear hcell hb hk ht
  obtain ⟨W, hW⟩ : ∃ W, W = (w.alloc (.cells #[.int .i64 0, .int .i64 0, .string ⟨#[]⟩, .slice none 0 0] 31)).alloc (.cells #[.int .i64 c.toNat, .int .i64 0, .string ⟨#[]⟩, .slice none 0 0] 31) := ⟨_, rfl⟩
  have hy2 := some_on hB2 hc0
  rw [← hW] at hB2 kz kb hsz hce hy2
  obtain ⟨x0, x1, x2, x3, xf⟩ := four_of kz
  obtain ⟨y0, y1, y2, y3, yf⟩ := four_of kb
  have j9 : ¬ ((T.length : Int) < 9) := by omega
  go_enter Try.func13, Try.ntmps13
  go_wp2
  rw [← hW]
  clear hW
  go_loopg [6, 7] 8 (fun g u i wr => ∃ (j v : Nat), g + j = 9 ∧ 1 ≤ j ∧ i = .int .i64 j ∧ u = .int .u64 v ∧ Hid (v = deN (L.take (j - 1))) ∧ wr = W)
  case atStart => exact ⟨1, 0, rfl, Nat.le_refl _, rfl, rfl, (rfl : _ = _), rfl⟩
  case round =>
    obtain ⟨j, v, hj, hj1, rfl, rfl, hv, rfl⟩ := hrel
    have hvl : v < 256 ^ (j - 1) := by
      have := deN_lt (L.take (j - 1))
      rw [← hv.out, List.length_take, hLl] at this
      exact Nat.lt_of_lt_of_le this (Nat.pow_le_pow_right (by omega) (by omega))
    by_cases hlt : j < 9
    · have hi := hce.out j hj1 hlt
      have ht := deN_take (l := L) (k := j - 1) (by omega)
      rw [← hv.out] at ht
      generalize L.getD (j - 1) 0 = d at *
      have hv56 : v < 72057594037927936 := Nat.lt_of_lt_of_le hvl (by have : 256 ^ (j - 1) ≤ 256 ^ 7 := Nat.pow_le_pow_right (by omega) (by omega); exact this)
      have ho := Lib.hid (or_byte v d hv56)
      have hd := d.toNat_lt
      have hv' : Hid (v * 256 + d.toNat = deN (L.take (j + 1 - 1))) := by show _ = _; rw [← ht, show j - 1 + 1 = j + 1 - 1 by omega]
      have i1 : (j : Int) < (T.length : Int) := by omega
      clear ht hvl hv hce hE hql hTl
      go_wp2
      go_roundg (gk - 1)
      case rel => exact ⟨j + 1, v * 256 + d.toNat, by omega, by omega, by go_num, congrArg (Value.int .u64) ho.out, hv', rfl⟩
      case measure => omega
    · obtain rfl : j = 9 := by omega
      have hv' : Hid (v = deN L) := by have := hv.out; rwa [List.take_of_length_le (by omega)] at this
      have hv64 : v < 18446744073709551616 := hvl
      have hx := xor_top v hv64
      have hN : wrap64 (((v : Int) + 9223372036854775808) % 18446744073709551616) = wordI (deN L) := by rw [← hv'.out]; unfold wordI wrap64; omega
      generalize wordI (deN L) = N at *
      have c38 := fun w => checked38 (.mk c.toNat N ⟨#[]⟩ []) 9 w (fun w lo => in_plain (by unfold I64; omega) hI (Nat.zero_le _) w lo)
      unfold V.agg at c38
      simp only [V.k, V.n, V.s] at c38
      have hgs := gr_set wr (w.heap.size + 1) 1 (.int .i64 N)
      have kz2 := (hgs.block w.heap.size (by omega) (by intro e; injection e with e; omega)).trans kz
      have hB3 : Below w.heap.size w (wr.setCell ⟨w.heap.size + 1, 1, none⟩ (.int .i64 N)) := hB2.setCell (p := ⟨w.heap.size + 1, 1, none⟩) (Nat.le_succ _) _
      have hs3 : (wr.setCell ⟨w.heap.size + 1, 1, none⟩ (.int .i64 N)).heap.size = w.heap.size + 2 := by rw [← hsz]; simp
      clear hce hv hvl hj hlt hj1 hgs kb kz hv' hv64
      cases hm : (V.mk c.toNat N ⟨#[]⟩ []).may 1 with
      | true =>
        have hE' : Hid (chk S = .ok (.mk c.toNat N ⟨#[]⟩ [], q)) := chk_ok hE.out hm
        have hM := Lib.hid hm
        clear hm hE
        go_wp2_with (go_at_call 38; try rw [hN]; refine (c38 _).mono ?_; rintro e w1 hrr; obtain ⟨pv, nv, cv, rfl, hin, hB1⟩ := chkR_ok hrr hM.out; clear hrr; simp only [V.k, V.n, V.s]; obtain ⟨z0, z1, z2, z3, zf⟩ := four_of (blk_on hB1 kz2))
        have hfin := TakeR.put_ok (t := T) hE'.out (V.In.low hin (by omega)) (bel_then hB3 hB1)
        unfold put4 at hfin
        rw [hql.out] at hfin
        simp [bodyPost, results, Try.results13, go_sem, z0, z1, z2, z3]
        exact hfin
      | false =>
        have hE' : Hid (chk S = .error 30) := chk_no hE.out hm
        have hM := Lib.hid hm
        clear hm hE
        go_wp2_with (go_at_call 38; try rw [hN]; refine (c38 _).mono ?_; rintro e w1 hrr; obtain ⟨rfl, hB1⟩ := chkR_no hrr hM.out; clear hrr; obtain ⟨z0, z1, z2, z3, zf⟩ := four_of (blk_on hB1 kz2))
        have hfin := TakeR.put_no (t := T) hE'.out (by decide) (bel_then hB3 hB1)
        unfold put4 at hfin
        simp [bodyPost, results, Try.results13, go_sem, z0, z1, z2, z3]
        exact hfin
set_option maxHeartbeats 4000000 in
set_option maxRecDepth 20000 in
theorem refTake_num6_yes (w : World) (b : Value) (c : UInt8) (t : List UInt8) (hb : Bs w b (c :: t)) (hk : c.toNat = 6) (ht : 8 ≤ t.length) : Calls Try.prog 13 #[b] w (TakeR (pTake (c :: t)) (c :: t) w) := by
  have hE : Hid (pForm (c :: t) = .ok (.mk c.toNat (wordI (deN (t.take 8))) ⟨#[]⟩ [], t.drop 8)) := by show _ = _; simp only [pForm]; rw [if_pos (by omega), if_neg (by omega)]
  have hI : I64 (wordI (deN (t.take 8))) := wordI_i64 (by have := deN_lt (t.take 8); rwa [List.length_take, Nat.min_eq_left ht] at this)
  obtain ⟨g, o, cap, rfl, hcap, htl, hcell⟩ := hb.cells (by simp)
  have hc := c.toNat_lt
  have hc0 := hcell 0 (by simp)
  simp only [List.getElem_cons_zero, Nat.add_zero] at hc0
  have hB2 := bel2 w (.cells #[.int .i64 0, .int .i64 0, .string ⟨#[]⟩, .slice none 0 0] 31) (.cells #[.int .i64 c.toNat, .int .i64 0, .string ⟨#[]⟩, .slice none 0 0] 31)
  have kz := blk_old (o' := (.cells #[.int .i64 c.toNat, .int .i64 0, .string ⟨#[]⟩, .slice none 0 0] 31)) (blk_new w (.cells #[.int .i64 0, .int .i64 0, .string ⟨#[]⟩, .slice none 0 0] 31))
  have kb := blk_new (w.alloc (.cells #[.int .i64 0, .int .i64 0, .string ⟨#[]⟩, .slice none 0 0] 31)) (.cells #[.int .i64 c.toNat, .int .i64 0, .string ⟨#[]⟩, .slice none 0 0] 31)
  rw [World.size_alloc] at kb
  have hsz : ((w.alloc (.cells #[.int .i64 0, .int .i64 0, .string ⟨#[]⟩, .slice none 0 0] 31)).alloc (.cells #[.int .i64 c.toNat, .int .i64 0, .string ⟨#[]⟩, .slice none 0 0] 31)).heap.size = w.heap.size + 2 := by simp
  have hce : Hid (∀ j, 1 ≤ j → j < 9 → ((w.alloc (.cells #[.int .i64 0, .int .i64 0, .string ⟨#[]⟩, .slice none 0 0] 31)).alloc (.cells #[.int .i64 c.toNat, .int .i64 0, .string ⟨#[]⟩, .slice none 0 0] 31)).cell? ⟨g, o + j, none⟩ = some (.int .u8 ((t.take 8).getD (j - 1) 0).toNat)) := by
    intro j h1 h9
    have := some_on hB2 (hcell j (by simp; omega))
    rw [this]
    obtain ⟨k, rfl⟩ : ∃ k, j = k + 1 := ⟨j - 1, by omega⟩
    simp
    rw [List.getElem?_take_of_lt (by omega), List.getElem?_eq_getElem (by omega)]
    rfl
  have hLl : (t.take 8).length = 8 := by simp; omega
  have hql : Hid ((((c :: t).length : Nat) : Int) - ((t.drop 8).length : Int) = 9) := by show _ = _; simp; omega
  have hTl : 9 ≤ (c :: t).length := by simp; omega
  have hgl : g < w.heap.size := cell_lt hc0
  have k1f : ((c.toNat : Int) == 1) = false := by simp; omega
  have k6f : ((c.toNat : Int) == 6) = true := by simp; omega
  generalize t.take 8 = L at *
  generalize t.drop 8 = q at *
  have hy := some_on (bel1 w (.cells #[.int .i64 0, .int .i64 0, .string ⟨#[]⟩, .slice none 0 0] 31)) hc0
  unfold pTake
  generalize pForm (c :: t) = S at *
  generalize c :: t = T at *
  have hkk := Lib.hid hk
  clear hcell hb hk ht
  obtain ⟨W, hW⟩ : ∃ W, W = (w.alloc (.cells #[.int .i64 0, .int .i64 0, .string ⟨#[]⟩, .slice none 0 0] 31)).alloc (.cells #[.int .i64 c.toNat, .int .i64 0, .string ⟨#[]⟩, .slice none 0 0] 31) := ⟨_, rfl⟩
  have hy2 := some_on hB2 hc0
  rw [← hW] at hB2 kz kb hsz hce hy2
  obtain ⟨x0, x1, x2, x3, xf⟩ := four_of kz
  obtain ⟨y0, y1, y2, y3, yf⟩ := four_of kb
  have j9 : ¬ ((T.length : Int) < 9) := by omega
  go_enter Try.func13, Try.ntmps13
  go_wp2
  rw [← hW]
  clear hW
  go_loopg [6, 7] 8 (fun g u i wr => ∃ (j v : Nat), g + j = 9 ∧ 1 ≤ j ∧ i = .int .i64 j ∧ u = .int .u64 v ∧ Hid (v = deN (L.take (j - 1))) ∧ wr = W)
  case atStart => exact ⟨1, 0, rfl, Nat.le_refl _, rfl, rfl, (rfl : _ = _), rfl⟩
  case round =>
    obtain ⟨j, v, hj, hj1, rfl, rfl, hv, rfl⟩ := hrel
    have hvl : v < 256 ^ (j - 1) := by
      have := deN_lt (L.take (j - 1))
      rw [← hv.out, List.length_take, hLl] at this
      exact Nat.lt_of_lt_of_le this (Nat.pow_le_pow_right (by omega) (by omega))
    by_cases hlt : j < 9
    · have hi := hce.out j hj1 hlt
      have ht := deN_take (l := L) (k := j - 1) (by omega)
      rw [← hv.out] at ht
      generalize L.getD (j - 1) 0 = d at *
      have hv56 : v < 72057594037927936 := Nat.lt_of_lt_of_le hvl (by have : 256 ^ (j - 1) ≤ 256 ^ 7 := Nat.pow_le_pow_right (by omega) (by omega); exact this)
      have ho := Lib.hid (or_byte v d hv56)
      have hd := d.toNat_lt
      have hv' : Hid (v * 256 + d.toNat = deN (L.take (j + 1 - 1))) := by show _ = _; rw [← ht, show j - 1 + 1 = j + 1 - 1 by omega]
      have i1 : (j : Int) < (T.length : Int) := by omega
      clear ht hvl hv hce hE hql hTl
      go_wp2
      go_roundg (gk - 1)
      case rel => exact ⟨j + 1, v * 256 + d.toNat, by omega, by omega, by go_num, congrArg (Value.int .u64) ho.out, hv', rfl⟩
      case measure => omega
    · obtain rfl : j = 9 := by omega
      have hv' : Hid (v = deN L) := by have := hv.out; rwa [List.take_of_length_le (by omega)] at this
      have hv64 : v < 18446744073709551616 := hvl
      have hx := xor_top v hv64
      have hN : wrap64 (((v : Int) + 9223372036854775808) % 18446744073709551616) = wordI (deN L) := by rw [← hv'.out]; unfold wordI wrap64; omega
      generalize wordI (deN L) = N at *
      have c38 := fun w => checked38 (.mk c.toNat N ⟨#[]⟩ []) 9 w (fun w lo => in_plain (by unfold I64; omega) hI (Nat.zero_le _) w lo)
      unfold V.agg at c38
      simp only [V.k, V.n, V.s] at c38
      have hgs := gr_set wr (w.heap.size + 1) 1 (.int .i64 N)
      have kz2 := (hgs.block w.heap.size (by omega) (by intro e; injection e with e; omega)).trans kz
      have hB3 : Below w.heap.size w (wr.setCell ⟨w.heap.size + 1, 1, none⟩ (.int .i64 N)) := hB2.setCell (p := ⟨w.heap.size + 1, 1, none⟩) (Nat.le_succ _) _
      have hs3 : (wr.setCell ⟨w.heap.size + 1, 1, none⟩ (.int .i64 N)).heap.size = w.heap.size + 2 := by rw [← hsz]; simp
      clear hce hv hvl hj hlt hj1 hgs kb kz hv' hv64
      cases hm : (V.mk c.toNat N ⟨#[]⟩ []).may 1 with
      | true =>
        have hE' : Hid (chk S = .ok (.mk c.toNat N ⟨#[]⟩ [], q)) := chk_ok hE.out hm
        have hM := Lib.hid hm
        clear hm hE
        go_wp2_with (go_at_call 38; try rw [hN]; refine (c38 _).mono ?_; rintro e w1 hrr; obtain ⟨pv, nv, cv, rfl, hin, hB1⟩ := chkR_ok hrr hM.out; clear hrr; simp only [V.k, V.n, V.s]; obtain ⟨z0, z1, z2, z3, zf⟩ := four_of (blk_on hB1 kz2))
        have hfin := TakeR.put_ok (t := T) hE'.out (V.In.low hin (by omega)) (bel_then hB3 hB1)
        unfold put4 at hfin
        rw [hql.out] at hfin
        simp [bodyPost, results, Try.results13, go_sem, z0, z1, z2, z3]
        exact hfin
      | false =>
        have hE' : Hid (chk S = .error 30) := chk_no hE.out hm
        have hM := Lib.hid hm
        clear hm hE
        go_wp2_with (go_at_call 38; try rw [hN]; refine (c38 _).mono ?_; rintro e w1 hrr; obtain ⟨rfl, hB1⟩ := chkR_no hrr hM.out; clear hrr; obtain ⟨z0, z1, z2, z3, zf⟩ := four_of (blk_on hB1 kz2))
        have hfin := TakeR.put_no (t := T) hE'.out (by decide) (bel_then hB3 hB1)
        unfold put4 at hfin
        simp [bodyPost, results, Try.results13, go_sem, z0, z1, z2, z3]
        exact hfin
set_option maxHeartbeats 4000000 in
set_option maxRecDepth 20000 in
theorem refTake_num7_yes (w : World) (b : Value) (c : UInt8) (t : List UInt8) (hb : Bs w b (c :: t)) (hk : c.toNat = 7) (ht : 8 ≤ t.length) : Calls Try.prog 13 #[b] w (TakeR (pTake (c :: t)) (c :: t) w) := by
  have hE : Hid (pForm (c :: t) = .ok (.mk c.toNat (wordI (deN (t.take 8))) ⟨#[]⟩ [], t.drop 8)) := by show _ = _; simp only [pForm]; rw [if_pos (by omega), if_neg (by omega)]
  have hI : I64 (wordI (deN (t.take 8))) := wordI_i64 (by have := deN_lt (t.take 8); rwa [List.length_take, Nat.min_eq_left ht] at this)
  obtain ⟨g, o, cap, rfl, hcap, htl, hcell⟩ := hb.cells (by simp)
  have hc := c.toNat_lt
  have hc0 := hcell 0 (by simp)
  simp only [List.getElem_cons_zero, Nat.add_zero] at hc0
  have hB2 := bel2 w (.cells #[.int .i64 0, .int .i64 0, .string ⟨#[]⟩, .slice none 0 0] 31) (.cells #[.int .i64 c.toNat, .int .i64 0, .string ⟨#[]⟩, .slice none 0 0] 31)
  have kz := blk_old (o' := (.cells #[.int .i64 c.toNat, .int .i64 0, .string ⟨#[]⟩, .slice none 0 0] 31)) (blk_new w (.cells #[.int .i64 0, .int .i64 0, .string ⟨#[]⟩, .slice none 0 0] 31))
  have kb := blk_new (w.alloc (.cells #[.int .i64 0, .int .i64 0, .string ⟨#[]⟩, .slice none 0 0] 31)) (.cells #[.int .i64 c.toNat, .int .i64 0, .string ⟨#[]⟩, .slice none 0 0] 31)
  rw [World.size_alloc] at kb
  have hsz : ((w.alloc (.cells #[.int .i64 0, .int .i64 0, .string ⟨#[]⟩, .slice none 0 0] 31)).alloc (.cells #[.int .i64 c.toNat, .int .i64 0, .string ⟨#[]⟩, .slice none 0 0] 31)).heap.size = w.heap.size + 2 := by simp
  have hce : Hid (∀ j, 1 ≤ j → j < 9 → ((w.alloc (.cells #[.int .i64 0, .int .i64 0, .string ⟨#[]⟩, .slice none 0 0] 31)).alloc (.cells #[.int .i64 c.toNat, .int .i64 0, .string ⟨#[]⟩, .slice none 0 0] 31)).cell? ⟨g, o + j, none⟩ = some (.int .u8 ((t.take 8).getD (j - 1) 0).toNat)) := by
    intro j h1 h9
    have := some_on hB2 (hcell j (by simp; omega))
    rw [this]
    obtain ⟨k, rfl⟩ : ∃ k, j = k + 1 := ⟨j - 1, by omega⟩
    simp
    rw [List.getElem?_take_of_lt (by omega), List.getElem?_eq_getElem (by omega)]
    rfl
  have hLl : (t.take 8).length = 8 := by simp; omega
  have hql : Hid ((((c :: t).length : Nat) : Int) - ((t.drop 8).length : Int) = 9) := by show _ = _; simp; omega
  have hTl : 9 ≤ (c :: t).length := by simp; omega
  have hgl : g < w.heap.size := cell_lt hc0
  have k1f : ((c.toNat : Int) == 1) = false := by simp; omega
  have k6f : ((c.toNat : Int) == 6) = false := by simp; omega
  have k7f : ((c.toNat : Int) == 7) = true := by simp; omega
  generalize t.take 8 = L at *
  generalize t.drop 8 = q at *
  have hy := some_on (bel1 w (.cells #[.int .i64 0, .int .i64 0, .string ⟨#[]⟩, .slice none 0 0] 31)) hc0
  unfold pTake
  generalize pForm (c :: t) = S at *
  generalize c :: t = T at *
  have hkk := Lib.hid hk
  clear hcell hb hk ht
  obtain ⟨W, hW⟩ : ∃ W, W = (w.alloc (.cells #[.int .i64 0, .int .i64 0, .string ⟨#[]⟩, .slice none 0 0] 31)).alloc (.cells #[.int .i64 c.toNat, .int .i64 0, .string ⟨#[]⟩, .slice none 0 0] 31) := ⟨_, rfl⟩
  have hy2 := some_on hB2 hc0
  rw [← hW] at hB2 kz kb hsz hce hy2
  obtain ⟨x0, x1, x2, x3, xf⟩ := four_of kz
  obtain ⟨y0, y1, y2, y3, yf⟩ := four_of kb
  have j9 : ¬ ((T.length : Int) < 9) := by omega
  go_enter Try.func13, Try.ntmps13
  go_wp2
  rw [← hW]
  clear hW
  go_loopg [6, 7] 8 (fun g u i wr => ∃ (j v : Nat), g + j = 9 ∧ 1 ≤ j ∧ i = .int .i64 j ∧ u = .int .u64 v ∧ Hid (v = deN (L.take (j - 1))) ∧ wr = W)
  case atStart => exact ⟨1, 0, rfl, Nat.le_refl _, rfl, rfl, (rfl : _ = _), rfl⟩
  case round =>
    obtain ⟨j, v, hj, hj1, rfl, rfl, hv, rfl⟩ := hrel
    have hvl : v < 256 ^ (j - 1) := by
      have := deN_lt (L.take (j - 1))
      rw [← hv.out, List.length_take, hLl] at this
      exact Nat.lt_of_lt_of_le this (Nat.pow_le_pow_right (by omega) (by omega))
    by_cases hlt : j < 9
    · have hi := hce.out j hj1 hlt
      have ht := deN_take (l := L) (k := j - 1) (by omega)
      rw [← hv.out] at ht
      generalize L.getD (j - 1) 0 = d at *
      have hv56 : v < 72057594037927936 := Nat.lt_of_lt_of_le hvl (by have : 256 ^ (j - 1) ≤ 256 ^ 7 := Nat.pow_le_pow_right (by omega) (by omega); exact this)
      have ho := Lib.hid (or_byte v d hv56)
      have hd := d.toNat_lt
      have hv' : Hid (v * 256 + d.toNat = deN (L.take (j + 1 - 1))) := by show _ = _; rw [← ht, show j - 1 + 1 = j + 1 - 1 by omega]
      have i1 : (j : Int) < (T.length : Int) := by omega
      clear ht hvl hv hce hE hql hTl
      go_wp2
      go_roundg (gk - 1)
      case rel => exact ⟨j + 1, v * 256 + d.toNat, by omega, by omega, by go_num, congrArg (Value.int .u64) ho.out, hv', rfl⟩
      case measure => omega
    · obtain rfl : j = 9 := by omega
      have hv' : Hid (v = deN L) := by have := hv.out; rwa [List.take_of_length_le (by omega)] at this
      have hv64 : v < 18446744073709551616 := hvl
      have hx := xor_top v hv64
      have hN : wrap64 (((v : Int) + 9223372036854775808) % 18446744073709551616) = wordI (deN L) := by rw [← hv'.out]; unfold wordI wrap64; omega
      generalize wordI (deN L) = N at *
      have c38 := fun w => checked38 (.mk c.toNat N ⟨#[]⟩ []) 9 w (fun w lo => in_plain (by unfold I64; omega) hI (Nat.zero_le _) w lo)
      unfold V.agg at c38
      simp only [V.k, V.n, V.s] at c38
      have hgs := gr_set wr (w.heap.size + 1) 1 (.int .i64 N)
      have kz2 := (hgs.block w.heap.size (by omega) (by intro e; injection e with e; omega)).trans kz
      have hB3 : Below w.heap.size w (wr.setCell ⟨w.heap.size + 1, 1, none⟩ (.int .i64 N)) := hB2.setCell (p := ⟨w.heap.size + 1, 1, none⟩) (Nat.le_succ _) _
      have hs3 : (wr.setCell ⟨w.heap.size + 1, 1, none⟩ (.int .i64 N)).heap.size = w.heap.size + 2 := by rw [← hsz]; simp
      clear hce hv hvl hj hlt hj1 hgs kb kz hv' hv64
      cases hm : (V.mk c.toNat N ⟨#[]⟩ []).may 1 with
      | true =>
        have hE' : Hid (chk S = .ok (.mk c.toNat N ⟨#[]⟩ [], q)) := chk_ok hE.out hm
        have hM := Lib.hid hm
        clear hm hE
        go_wp2_with (go_at_call 38; try rw [hN]; refine (c38 _).mono ?_; rintro e w1 hrr; obtain ⟨pv, nv, cv, rfl, hin, hB1⟩ := chkR_ok hrr hM.out; clear hrr; simp only [V.k, V.n, V.s]; obtain ⟨z0, z1, z2, z3, zf⟩ := four_of (blk_on hB1 kz2))
        have hfin := TakeR.put_ok (t := T) hE'.out (V.In.low hin (by omega)) (bel_then hB3 hB1)
        unfold put4 at hfin
        rw [hql.out] at hfin
        simp [bodyPost, results, Try.results13, go_sem, z0, z1, z2, z3]
        exact hfin
      | false =>
        have hE' : Hid (chk S = .error 30) := chk_no hE.out hm
        have hM := Lib.hid hm
        clear hm hE
        go_wp2_with (go_at_call 38; try rw [hN]; refine (c38 _).mono ?_; rintro e w1 hrr; obtain ⟨rfl, hB1⟩ := chkR_no hrr hM.out; clear hrr; obtain ⟨z0, z1, z2, z3, zf⟩ := four_of (blk_on hB1 kz2))
        have hfin := TakeR.put_no (t := T) hE'.out (by decide) (bel_then hB3 hB1)
        unfold put4 at hfin
        simp [bodyPost, results, Try.results13, go_sem, z0, z1, z2, z3]
        exact hfin
set_option maxHeartbeats 2000000 in
set_option maxRecDepth 20000 in
theorem refTake_bool_yes (w : World) (b : Value) (c : UInt8) (t : List UInt8) (hb : Bs w b (c :: t)) (d : UInt8) (t0 : List UInt8) (hk : c.toNat = 3) (ht : t = d :: t0) : Calls Try.prog 13 #[b] w (TakeR (pTake (c :: t)) (c :: t) w) := by
  obtain ⟨g, o, cap, rfl, hcap, htl, hcell⟩ := hb.cells (by simp)
  have hc := c.toNat_lt
  have hc0 := hcell 0 (by simp)
  simp only [List.getElem_cons_zero, Nat.add_zero] at hc0
  have hgl := cell_lt hc0
  have hB2 := bel2 w (.cells #[.int .i64 0, .int .i64 0, .string ⟨#[]⟩, .slice none 0 0] 31) (.cells #[.int .i64 c.toNat, .int .i64 0, .string ⟨#[]⟩, .slice none 0 0] 31)
  have kz := blk_old (o' := (.cells #[.int .i64 c.toNat, .int .i64 0, .string ⟨#[]⟩, .slice none 0 0] 31)) (blk_new w (.cells #[.int .i64 0, .int .i64 0, .string ⟨#[]⟩, .slice none 0 0] 31))
  have kb := blk_new (w.alloc (.cells #[.int .i64 0, .int .i64 0, .string ⟨#[]⟩, .slice none 0 0] 31)) (.cells #[.int .i64 c.toNat, .int .i64 0, .string ⟨#[]⟩, .slice none 0 0] 31)
  rw [World.size_alloc] at kb
  rw [List.length_cons] at hcap htl
  have hy := some_on (bel1 w (.cells #[.int .i64 0, .int .i64 0, .string ⟨#[]⟩, .slice none 0 0] 31)) hc0
  have hy2 := some_on hB2 hc0
  obtain ⟨x0, x1, x2, x3, xf⟩ := four_of kz
  obtain ⟨y0, y1, y2, y3, yf⟩ := four_of kb
  have k1f : ((c.toNat : Int) == 1) = false := by simp; omega
  have k6f : ((c.toNat : Int) == 6) = false := by simp; omega
  have k7f : ((c.toNat : Int) == 7) = false := by simp; omega
  have k3f : ((c.toNat : Int) == 3) = true := by simp; omega
  subst ht
  have hE : Hid (pForm (c :: d :: t0) = .ok (.mk c.toNat d.toNat ⟨#[]⟩ [], t0)) := by show _ = _; simp only [pForm]; rw [if_neg (by omega), if_pos hk, show (c.toNat : Int) = 3 by omega]
  have hc1 := hcell 1 (by simp)
  simp only [List.getElem_cons_succ, List.getElem_cons_zero] at hc1
  have hd := d.toNat_lt
  have hy3 := some_on hB2 hc1
  have hBd := bel2 w (.cells #[.int .i64 0, .int .i64 0, .string ⟨#[]⟩, .slice none 0 0] 31) (.cells #[.int .i64 c.toNat, .int .i64 d.toNat, .string ⟨#[]⟩, .slice none 0 0] 31)
  have kzd := blk_old (o' := (.cells #[.int .i64 c.toNat, .int .i64 d.toNat, .string ⟨#[]⟩, .slice none 0 0] 31)) (blk_new w (.cells #[.int .i64 0, .int .i64 0, .string ⟨#[]⟩, .slice none 0 0] 31))
  have hsd : ((w.alloc (.cells #[.int .i64 0, .int .i64 0, .string ⟨#[]⟩, .slice none 0 0] 31)).alloc (.cells #[.int .i64 c.toNat, .int .i64 d.toNat, .string ⟨#[]⟩, .slice none 0 0] 31)).heap.size = w.heap.size + 2 := by simp
  have c38 := fun w => checked38 (.mk c.toNat d.toNat ⟨#[]⟩ []) 2 w (fun w lo => in_plain (by unfold I64; omega) (by unfold I64; omega) (Nat.zero_le _) w lo)
  unfold V.agg at c38
  simp only [V.k, V.n, V.s] at c38
  have hql : Hid ((((c :: d :: t0).length : Nat) : Int) - (t0.length : Int) = 2) := by show _ = _; simp; omega
  unfold pTake
  generalize pForm (c :: d :: t0) = S at *
  rw [List.length_cons] at hcap htl
  clear hk hcell hb kb kz x0 x1 x2 x3 xf y0 y1 y2 y3 yf
  cases hm : (V.mk c.toNat d.toNat ⟨#[]⟩ []).may 1 with
  | true =>
    have hE' : Hid (chk S = .ok (.mk c.toNat d.toNat ⟨#[]⟩ [], t0)) := chk_ok hE.out hm
    have hM := Lib.hid hm
    clear hm hE
    go_enter Try.func13, Try.ntmps13
    go_wp2_with (go_at_call 38; refine (c38 _).mono ?_; rintro e w1 hrr; obtain ⟨pv, nv, cv, rfl, hin, hB1⟩ := chkR_ok hrr hM.out; clear hrr; simp only [V.k, V.n, V.s]; obtain ⟨z0, z1, z2, z3, zf⟩ := four_of (blk_on hB1 kzd))
    have hfin := TakeR.put_ok (t := c :: d :: t0) hE'.out (V.In.low hin (by omega)) (bel_then hBd hB1)
    unfold put4 at hfin
    rw [hql.out] at hfin
    simp [bodyPost, results, Try.results13, go_sem, z0, z1, z2, z3]
    exact hfin
  | false =>
    have hE' : Hid (chk S = .error 30) := chk_no hE.out hm
    have hM := Lib.hid hm
    clear hm hE
    go_enter Try.func13, Try.ntmps13
    go_wp2_with (go_at_call 38; refine (c38 _).mono ?_; rintro e w1 hrr; obtain ⟨rfl, hB1⟩ := chkR_no hrr hM.out; clear hrr; obtain ⟨z0, z1, z2, z3, zf⟩ := four_of (blk_on hB1 kzd))
    have hfin := TakeR.put_no (t := c :: d :: t0) hE'.out (by decide) (bel_then hBd hB1)
    unfold put4 at hfin
    simp [bodyPost, results, Try.results13, go_sem, z0, z1, z2, z3]
    exact hfin
set_option maxHeartbeats 2000000 in
set_option maxRecDepth 20000 in
theorem refTake_str (w : World) (b : Value) (c : UInt8) (t : List UInt8) (hb : Bs w b (c :: t)) (hk : c.toNat = 2) (ht : t.length ≤ 1073741824) : Calls Try.prog 13 #[b] w (TakeR (pTake (c :: t)) (c :: t) w) := by
  obtain ⟨g, o, cap, rfl, hcap, htl, hcell⟩ := hb.cells (by simp)
  have hc := c.toNat_lt
  have hc0 := hcell 0 (by simp)
  simp only [List.getElem_cons_zero, Nat.add_zero] at hc0
  have hgl := cell_lt hc0
  have hB2 := bel2 w (.cells #[.int .i64 0, .int .i64 0, .string ⟨#[]⟩, .slice none 0 0] 31) (.cells #[.int .i64 c.toNat, .int .i64 0, .string ⟨#[]⟩, .slice none 0 0] 31)
  have kz := blk_old (o' := (.cells #[.int .i64 c.toNat, .int .i64 0, .string ⟨#[]⟩, .slice none 0 0] 31)) (blk_new w (.cells #[.int .i64 0, .int .i64 0, .string ⟨#[]⟩, .slice none 0 0] 31))
  have kb := blk_new (w.alloc (.cells #[.int .i64 0, .int .i64 0, .string ⟨#[]⟩, .slice none 0 0] 31)) (.cells #[.int .i64 c.toNat, .int .i64 0, .string ⟨#[]⟩, .slice none 0 0] 31)
  rw [World.size_alloc] at kb
  rw [List.length_cons] at hcap htl
  have hy := some_on (bel1 w (.cells #[.int .i64 0, .int .i64 0, .string ⟨#[]⟩, .slice none 0 0] 31)) hc0
  have hy2 := some_on hB2 hc0
  obtain ⟨x0, x1, x2, x3, xf⟩ := four_of kz
  obtain ⟨y0, y1, y2, y3, yf⟩ := four_of kb
  have k1f : ((c.toNat : Int) == 1) = false := by simp; omega
  have k6f : ((c.toNat : Int) == 6) = false := by simp; omega
  have k7f : ((c.toNat : Int) == 7) = false := by simp; omega
  have k3f : ((c.toNat : Int) == 3) = false := by simp; omega
  have k2f : ((c.toNat : Int) == 2) = true := by simp; omega
  have c39 := takeStr39 _ _ c t hk (hb.on hB2) ht
  have hsz : ((w.alloc (.cells #[.int .i64 0, .int .i64 0, .string ⟨#[]⟩, .slice none 0 0] 31)).alloc (.cells #[.int .i64 c.toNat, .int .i64 0, .string ⟨#[]⟩, .slice none 0 0] 31)).heap.size = w.heap.size + 2 := by simp
  rw [List.length_cons] at c39
  generalize pTake (c :: t) = S at *
  clear hk hcell hb kb
  go_enter Try.func13, Try.ntmps13
  go_wp2_with (go_at_call 39; refine c39.mono ?_; rintro e w1 hrr; rcases hrr.kept with ⟨v, q, pv, nv, cv, hs, rfl, hin, hB1⟩ | ⟨n, hs, hn, rfl, hB1⟩ <;> (clear hrr; have hS := Lib.hid hs; clear hs; obtain ⟨z0, z1, z2, z3, zf⟩ := four_of (blk_on hB1 kz)))
  · have hfin := TakeR.put_ok (t := c :: t) hS.out (V.In.low hin (by omega)) (bel_then hB2 hB1)
    unfold put4 at hfin
    simp [bodyPost, results, Try.results13, go_sem, z0, z1, z2, z3]
    simpa using hfin
  · have hfin := TakeR.put_no (t := c :: t) hS.out hn (bel_then hB2 hB1)
    unfold put4 at hfin
    simp [bodyPost, results, Try.results13, go_sem, z0, z1, z2, z3]
    exact hfin
/-- The document's Take. -/
theorem refTake13 (w : World) (b : Value) (t : List UInt8) (hb : Bs w b t) (ht : t.length ≤ 1073741824) : Calls Try.prog 13 #[b] w (TakeR (pTake t) t w) := by
  cases t with
  | nil => exact refTake_nil w b hb
  | cons c t =>
    rw [List.length_cons] at ht
    by_cases h1 : c.toNat = 1
    · by_cases h8 : t.length < 8
      · exact refTake_num1_no w b c t hb h1 h8
      · exact refTake_num1_yes w b c t hb h1 (by omega)
    by_cases h6 : c.toNat = 6
    · by_cases h8 : t.length < 8
      · exact refTake_num6_no w b c t hb h6 h8
      · exact refTake_num6_yes w b c t hb h6 (by omega)
    by_cases h7 : c.toNat = 7
    · by_cases h8 : t.length < 8
      · exact refTake_num7_no w b c t hb h7 h8
      · exact refTake_num7_yes w b c t hb h7 (by omega)
    by_cases h3 : c.toNat = 3
    · cases t with
      | nil => exact refTake_bool_no w b c [] hb h3 rfl
      | cons d t0 => exact refTake_bool_yes w b c (d :: t0) hb d t0 h3 rfl
    by_cases h2 : c.toNat = 2
    · exact refTake_str w b c t hb h2 (by omega)
    exact refTake_else w b c t hb h1 h2 h3 h6 h7
end Go.Proofs.Ytekfbijkalamkaa
