/-
  What Sum of package value, and the document's Sum, do.
-/
import Derived.Test.YtbicodlclmdgaaaGreatDoorSumC
import Derived.Test.YtbicodlclmdgaaaGreatDoorOrder
namespace Go.Proofs.YtbicodlclmdgaaaGreatDoor
open Go.RowKit
open sums (tot nv ne)

/-- The sum of values. -/
def sumR (l : List V) : V × Int :=
  if l.all (fun x => decide (x.k = 1)) then (if sums.fits (tot (l.map V.n)) then (.mk 1 (tot (l.map V.n)) ⟨#[]⟩ [], 0) else (.mk 0 0 ⟨#[]⟩ [], 7)) else (.mk 0 0 ⟨#[]⟩ [], 21)
theorem info2' : (Tryz.prog.info? 2).map (fun i => (i.zero, i.size, i.bytes)) = some (some (.int .i64 0), 1, 8) := by kernel_rfl
theorem make57 (n : Nat) (h : n * 56 ≤ 140737488351232) : ∃ cur : Array Value, cur.size = n ∧ ∀ W : World,
    (Instr.makeSlice 57 (.int .i64 (n : Int)) (.int .i64 (n : Int))).run Tryz.prog W = .ok (.slice (some ⟨W.heap.size, 0, none⟩) n n) (W.alloc (.cells cur 2)) := by
  obtain ⟨i0, hi, hz0, hz1, hz2⟩ := info_parts info2'
  refine ⟨madeCells (Value.int .i64 0).cells (n * 1), by rw [size_madeCells]; omega, fun W => ?_⟩
  have hr := run_make (P := Tryz.prog) W 57 2 i0 (.int .i64 0) Tryz.underlying57 hi hz0 .i64 .i64 n n (by omega) (Int.le_refl _) (by rw [hz2]; omega) (by omega)
  simp only [Int.toNat_natCast, hz1] at hr
  exact hr
/-- What Sum hands back. -/
def Summed (R : V × Int) (w : World) (e : Ending) (w' : World) : Prop := e = .returned (.tuple #[.agg #[.int .i64 R.1.k, .int .i64 R.1.n, .string R.1.s, .slice none 0 0], .int .i64 R.2]) ∧ Below w.heap.size w w'
theorem fits_i64 {n : Int} (h : I64 n) : sums.fits n = true := (sums.fits_iff n).2 h
theorem n_i64 {w : World} {lo b o : Nat} : ∀ {l : List V}, Ls w lo l b o → ∀ x ∈ l.map V.n, sums.fits x = true := by
  intro l h x hx
  obtain ⟨v, hv, rfl⟩ := List.mem_map.1 hx
  obtain ⟨i, hi, rfl⟩ := List.mem_iff_getElem.1 hv
  obtain ⟨sl, -, -, -, -, hin⟩ := h.at i hi
  exact fits_i64 ((V.in_iff _ _ _ _).1 hin).2.1
theorem all_false {l : List V} {j : Nat} (hj : j < l.length) (h : l[j].k ≠ 1) : l.all (fun x => decide (x.k = 1)) = false := by
  rw [List.all_eq_false]
  exact ⟨l[j], List.getElem_mem hj, by simpa using h⟩
theorem n_at {l : List V} {i : Nat} (hi : i < l.length) : (l.map V.n).getD i 0 = l[i].n := by simp [List.getD, hi]

set_option maxRecDepth 20000 in
set_option maxHeartbeats 4000000 in
theorem sum32 (l : List V) (sl : Value) (w : World) (hS : Sl w 0 l sl) : Calls Tryz.prog 32 #[sl] w fun e w' => Summed (sumR l) w e w' := by
  obtain ⟨R, hR⟩ : ∃ R, sumR l = R := ⟨_, rfl⟩
  rw [hR]
  obtain ⟨p, cap, rfl, hc, hcm, h56, hx⟩ := hS
  unfold maxLen at hcm
  unfold Summed
  obtain ⟨cur0, hcur0, hmk⟩ := make57 l.length h56
  obtain ⟨W, hW⟩ : ∃ W, W = (w.alloc (.cells #[.int .i64 0, .int .i64 0, .string ⟨#[]⟩, .slice none 0 0] 24)).alloc (.cells cur0 2) := ⟨_, rfl⟩
  have hA0 : W.heap[w.heap.size]? = some (.cells #[.int .i64 0, .int .i64 0, .string ⟨#[]⟩, .slice none 0 0] 24) := by rw [hW]; exact blk_old (blk_new w _)
  have hB0 : W.heap[w.heap.size + 1]? = some (.cells cur0 2) := by
    have := blk_new (w.alloc (.cells #[.int .i64 0, .int .i64 0, .string ⟨#[]⟩, .slice none 0 0] 24)) (.cells cur0 2)
    rw [World.size_alloc] at this
    rw [hW]; exact this
  have hbW : Below w.heap.size w W := by rw [hW]; exact bel2 w _ _
  have hszW : W.heap.size = w.heap.size + 1 + 1 := by rw [hW]; simp
  go_enter Tryz.func32, Tryz.ntmps32
  go_wp2
  rw [← hW]
  clear hW hmk
  go_loopg [14] l.length (fun c i wr => ∃ (j : Nat) (cur : Array Value), c + j = l.length ∧ i = .int .i64 j ∧ Hid (wr.heap[w.heap.size + 1]? = some (.cells cur 2) ∧ cur.size = l.length ∧ ∀ i, i < j → cur[i]? = some (.int .i64 ((l.map V.n).getD i 0))) ∧ Hid ((l.take j).all (fun x => decide (x.k = 1)) = true) ∧ Hid (Below w.heap.size w wr) ∧ Hid (wr.heap[w.heap.size]? = some (.cells #[.int .i64 0, .int .i64 0, .string ⟨#[]⟩, .slice none 0 0] 24)) ∧ w.heap.size + 1 + 1 ≤ wr.heap.size)
  case atStart => exact ⟨0, cur0, rfl, rfl, ⟨hB0, hcur0, fun i hi => absurd hi (Nat.not_lt_zero _)⟩, rfl, hbW, hA0, by omega⟩
  case round =>
    obtain ⟨j, cur, hj, rfl, hcur, hall, hB, hA, hsz⟩ := hrel
    obtain ⟨hc1, hc2, hc3⟩ := hcur.out
    obtain ⟨y0, y1, y2, y3, yf⟩ := four_of hA.out
    by_cases hlt : j < l.length
    · obtain ⟨bx, ox, rfl, -, hx1⟩ := hx.resolve_left (by rintro rfl; simp at hlt)
      obtain ⟨s1, a0, a1, a2, a3, ha⟩ := hx1.at j hlt
      have e0 := some_on hB.out a0
      have e1 := some_on hB.out a1
      have e2 := some_on hB.out a2
      have e3 := some_on hB.out a3
      have i2 : (j : Int) < (l.length : Int) := by omega
      have hnat : Hid ((l.map V.n).getD j 0 = l[j].n) := n_at hlt
      have htk : Hid (l.take (j + 1) = l.take j ++ [l[j]]) := by show _ = _; rw [List.take_succ_eq_append_getElem hlt]
      obtain ⟨z, hz⟩ : ∃ z, cur[j]? = some z := ⟨_, Array.getElem?_eq_getElem (show j < cur.size by omega)⟩
      have hcell : wr.cell? ⟨w.heap.size + 1, j, none⟩ = some z := by simp [World.cell?, hc1, hz]
      clear hz
      have hfz : wr.frozen? ⟨w.heap.size + 1, j, none⟩ = false := by simp [World.frozen?, hc1]
      by_cases hk : l[j].k = 1
      · generalize l[j] = x at *
        obtain ⟨p1, n1, q1, rfl⟩ := ha.header
        have hcur' : ∀ W' : World, W'.heap[w.heap.size + 1]? = some (.cells cur 2) → (W'.setCell ⟨w.heap.size + 1, j, none⟩ (.int .i64 x.n)).heap[w.heap.size + 1]? = some (.cells (cur.setIfInBounds j (.int .i64 x.n)) 2) := fun W' h => by
          simp [World.setCell, Array.getElem?_modify, h]
        have hB1 := blk_old (o' := .cells #[.int .i64 x.k, .int .i64 x.n, .string x.s, .slice p1 n1 q1] 24) hc1
        have hA1 := blk_old (o' := .cells #[.int .i64 x.k, .int .i64 x.n, .string x.s, .slice p1 n1 q1] 24) hA.out
        have hnew : Hid ((cur.setIfInBounds j (.int .i64 x.n)).size = l.length ∧ ∀ i, i < j + 1 → (cur.setIfInBounds j (.int .i64 x.n))[i]? = some (.int .i64 ((l.map V.n).getD i 0))) := by
          refine ⟨by simpa using hc2, fun i hi => ?_⟩
          by_cases e : j = i
          · subst e
            rw [Array.getElem?_setIfInBounds_self, hnat.out]
            simp; omega
          · rw [Array.getElem?_setIfInBounds_ne e]; exact hc3 i (by omega)
        have hall' : Hid ((l.take (j + 1)).all (fun x => decide (x.k = 1)) = true) := by
          show _ = _
          rw [htk.out, List.all_append, hall.out]; simp [hk]
        have hl1 : w.heap.size + 1 < wr.heap.size := by omega
        have hl0 : w.heap.size < wr.heap.size := by omega
        have hcw : Hid ((wr.setCell ⟨w.heap.size + 1, j, none⟩ (.int .i64 x.n)).heap[w.heap.size + 1]? = some (.cells (cur.setIfInBounds j (.int .i64 x.n)) 2)) := hcur' wr hc1
        have hAw : Hid ((wr.setCell ⟨w.heap.size + 1, j, none⟩ (.int .i64 x.n)).heap[w.heap.size]? = some (.cells #[.int .i64 0, .int .i64 0, .string ⟨#[]⟩, .slice none 0 0] 24)) := (Below.heap_setCell _ _ _ _ (by show w.heap.size ≠ w.heap.size + 1; omega)).trans hA.out
        have hBw := hB.out.setCell (p := ⟨w.heap.size + 1, j, none⟩) (by show w.heap.size ≤ w.heap.size + 1; omega) (.int .i64 x.n)
        have hsw : (wr.setCell ⟨w.heap.size + 1, j, none⟩ (.int .i64 x.n)).heap.size = wr.heap.size := by simp [World.setCell]
        clear hc1 hc2 hc3 hall hnat htk hcur' hB1 hA1
        go_wp2
        go_roundg (gk - 1)
        case rel => exact ⟨j + 1, _, by omega, by go_num, ⟨blk_old hcw.out, hnew.out.1, hnew.out.2⟩, hall', hBw.alloc hBw.size _, blk_old hAw.out, by rw [World.size_alloc, hsw]; omega⟩
        case measure => omega
      · have hR' : Hid (R = (.mk 0 0 ⟨#[]⟩ [], 21)) := by
          show _ = _
          rw [← hR]; unfold sumR; rw [if_neg (by rw [all_false hlt hk]; simp)]
        have hk' : (l[j].k != 1) = true := by simpa using hk
        generalize l[j] = x at *
        obtain ⟨p1, n1, q1, rfl⟩ := ha.header
        obtain ⟨R1, R2⟩ := R
        have r1 : R1 = .mk 0 0 ⟨#[]⟩ [] := congrArg Prod.fst hR'.out
        have r2 : R2 = 21 := congrArg Prod.snd hR'.out
        subst r1 r2
        have hl0 : w.heap.size < wr.heap.size := by omega
        have hfin : ∀ o, Below w.heap.size w ((put4 wr w.heap.size 0 (.int .i64 0) (.int .i64 0) (.string ⟨#[]⟩) (.slice none 0 0)).alloc o) := fun o => (hB.out.trans (below_put4 (Nat.le_refl _) _ _ _ _)).alloc (by simp [put4, World.setCell]; omega) o
        unfold put4 at hfin
        clear hc1 hc2 hc3 hall hnat htk hR hR' hcell hfz
        go_wp2
        simp [bodyPost, results, Tryz.results32, go_sem, y0, y1, y2, y3, V.k, V.n, V.s, hl0]
        exact hfin _
    · obtain rfl : j = l.length := by omega
      have i2 : ¬ (l.length : Int) < (l.length : Int) := by omega
      have hta : l.all (fun x => decide (x.k = 1)) = true := by have := hall.out; rwa [List.take_length] at this
      have c53 : Calls Tryz.prog 53 #[.slice (some ⟨w.heap.size + 1, 0, none⟩) l.length l.length] wr fun e w' => e = .returned (.tuple #[.int .i64 (nv (tot (l.map V.n))), .int .i64 (ne (tot (l.map V.n)))]) ∧ Below wr.heap.size wr w' := by
        by_cases h0 : l = []
        · subst h0
          exact sums.numSum_none _ _ wr
        · obtain ⟨bx, ox, -, -, hx1⟩ := hx.resolve_left h0
          have h := sums.numSum_any (w.heap.size + 1) 0 l.length l.length (l.map V.n) wr (by omega) (by simp) (by omega) (fun i hi => by
            have := hc3 i (by simpa using hi)
            simp [World.cell?, hc1, this]) (n_i64 hx1)
          rwa [List.take_of_length_le (by simp)] at h
      have hR' : sumR l = if sums.fits (tot (l.map V.n)) then (.mk 1 (tot (l.map V.n)) ⟨#[]⟩ [], 0) else (.mk 0 0 ⟨#[]⟩ [], 7) := by unfold sumR; rw [if_pos hta]
      rw [hR] at hR'
      generalize tot (l.map V.n) = S at *
      clear hc1 hc2 hc3 hall hcur hta hx hR
      obtain ⟨R1, R2⟩ := R
      cases hf : sums.fits S
      · rw [hf] at hR'
        simp only [Bool.false_eq_true, if_false, Prod.mk.injEq] at hR'
        obtain ⟨rfl, rfl⟩ := hR'
        rw [show nv S = 0 by unfold nv; rw [hf]; rfl, show ne S = 7 by unfold ne; rw [hf]; rfl] at c53
        go_wp2_with (go_at_call 53; refine c53.mono ?_; rintro e w5 ⟨rfl, hb5⟩; obtain ⟨y0, y1, y2, y3, yf⟩ := four_of (blk_on hb5 hA.out))
        have hfin : Below w.heap.size w (put4 w5 w.heap.size 0 (.int .i64 0) (.int .i64 0) (.string ⟨#[]⟩) (.slice none 0 0)) := (hB.out.trans (hb5.mono hB.out.size)).trans (below_put4 (Nat.le_refl _) _ _ _ _)
        unfold put4 at hfin
        simp [bodyPost, results, Tryz.results32, go_sem, y0, y1, y2, y3, V.k, V.n, V.s]
        exact hfin
      · rw [hf] at hR'
        simp only [if_true, Prod.mk.injEq] at hR'
        obtain ⟨rfl, rfl⟩ := hR'
        rw [show nv S = S by unfold nv; rw [hf]; rfl, show ne S = 0 by unfold ne; rw [hf]; rfl] at c53
        go_wp2_with (first
          | (go_at_call 53; refine c53.mono ?_; rintro e w5 ⟨rfl, hb5⟩)
          | (go_at_call 16; refine (int16 S _).mono ?_; rintro e w6 ⟨rfl, hb6⟩; obtain ⟨y0, y1, y2, y3, yf⟩ := four_of (blk_on hb6 (blk_on hb5 hA.out))))
        have hfin : Below w.heap.size w (put4 w6 w.heap.size 0 (.int .i64 1) (.int .i64 S) (.string ⟨#[]⟩) (.slice none 0 0)) := ((hB.out.trans (hb5.mono hB.out.size)).trans (hb6.mono (Nat.le_trans hB.out.size hb5.size))).trans (below_put4 (Nat.le_refl _) _ _ _ _)
        unfold put4 at hfin
        simp [bodyPost, results, Tryz.results32, go_sem, y0, y1, y2, y3, V.k, V.n, V.s]
        exact hfin

theorem refInt17 (n : Int) (w : World) : Calls Tryz.prog 17 #[.int .i64 n] w fun e w' => e = .returned (.agg #[.int .i64 1, .int .i64 n, .string ⟨#[]⟩, .slice none 0 0]) ∧ Below w.heap.size w w' := by
  go_enter Tryz.func17, Tryz.ntmps17
  go_wp2
  simp [bodyPost, results, Tryz.results17, go_sem]
  exact bel1 w _

set_option maxRecDepth 20000 in
set_option maxHeartbeats 4000000 in
theorem sum33 (l : List V) (sl : Value) (w : World) (hS : Sl w 0 l sl) : Calls Tryz.prog 33 #[sl] w fun e w' => Summed (sumR l) w e w' := by
  obtain ⟨R, hR⟩ : ∃ R, sumR l = R := ⟨_, rfl⟩
  rw [hR]
  obtain ⟨p, cap, rfl, hc, hcm, h56, hx⟩ := hS
  unfold maxLen at hcm
  unfold Summed
  obtain ⟨i0, hi, hz0, hz1, hz2⟩ := info_parts info2'
  obtain ⟨W, hW⟩ : ∃ W, W = w.alloc (.cells #[.int .i64 0, .int .i64 0, .string ⟨#[]⟩, .slice none 0 0] 24) := ⟨_, rfl⟩
  have hA0 : W.heap[w.heap.size]? = some (.cells #[.int .i64 0, .int .i64 0, .string ⟨#[]⟩, .slice none 0 0] 24) := by rw [hW]; exact blk_new w _
  have hbW : Below w.heap.size w W := by rw [hW]; exact bel1 w _
  have hszW : W.heap.size = w.heap.size + 1 := by rw [hW]; simp
  go_enter Tryz.func33, Tryz.ntmps33
  go_wp2
  rw [← hW]
  clear hW
  go_loopg [4, 5] l.length (fun c v i wr => ∃ j : Nat, c + j = l.length ∧ i = .int .i64 j ∧ Hid (wr.ownsRow (w.heap.size + 1) 2 1 v j (((l.map V.n).take j).map (Value.int .i64))) ∧ Hid ((l.take j).all (fun x => decide (x.k = 1)) = true) ∧ Hid (Below w.heap.size w wr) ∧ Hid (wr.heap[w.heap.size]? = some (.cells #[.int .i64 0, .int .i64 0, .string ⟨#[]⟩, .slice none 0 0] 24)) ∧ w.heap.size + 1 ≤ wr.heap.size)
  case atStart => exact ⟨0, rfl, rfl, World.ownsRow_nil _ _ _ _, rfl, hbW, hA0, by omega⟩
  case round =>
    obtain ⟨j, hj, rfl, hrow, hall, hB, hA, hsz⟩ := hrel
    obtain ⟨y0, y1, y2, y3, yf⟩ := four_of hA.out
    by_cases hlt : j < l.length
    · obtain ⟨bx, ox, rfl, -, hx1⟩ := hx.resolve_left (by rintro rfl; simp at hlt)
      obtain ⟨s1, a0, a1, a2, a3, ha⟩ := hx1.at j hlt
      have e0 := some_on hB.out a0
      have e1 := some_on hB.out a1
      have i2 : (j : Int) < (l.length : Int) := by omega
      have hnat : Hid ((((l.map V.n).take (j + 1)).map (Value.int .i64)) = (((l.map V.n).take j).map (Value.int .i64)) ++ [.int .i64 l[j].n]) := by
        show _ = _
        rw [List.take_succ_eq_append_getElem (by simpa using hlt), List.map_append]; simp
      have htk : Hid (l.take (j + 1) = l.take j ++ [l[j]]) := by show _ = _; rw [List.take_succ_eq_append_getElem hlt]
      by_cases hk : l[j].k = 1
      · generalize l[j] = x at *
        have hall' : Hid ((l.take (j + 1)).all (fun x => decide (x.k = 1)) = true) := by
          show _ = _
          rw [htk.out, List.all_append, hall.out]; simp [hk]
        clear hall htk
        go_wp2_with (at_builtin; refine wpList_append_own _ rfl _ _ 57 rfl (w.heap.size + 1) 2 i0 (.int .i64 0) 1 8 Tryz.underlying57 hi hz0 hz1 hz2 rfl (by decide) _ _ _ rfl (hrow.out.alloc _) ⟨wr.heap.size, 0, none⟩ 1 1 [.int .i64 x.n] rfl rfl (cells_new _ _ _) (by simp [Value.oneCell']) (by unfold maxLen; omega) (by omega) (by simp; omega) ?_; intro v' w4 hown hg4 _)
        have hb4 : Below (w.heap.size + 1) wr w4 := ((Below.refl _ wr).alloc hsz _).grown hg4 (by simp; omega) (fun k e => (hrow.out.lt k e).1)
        have hown' : Hid (w4.ownsRow (w.heap.size + 1) 2 1 v' (j + 1) (((l.map V.n).take j).map (Value.int .i64) ++ [.int .i64 x.n])) := hown
        clear hown hg4
        go_roundg (gk - 1)
        case rel => exact ⟨j + 1, by omega, by go_num, (by show World.ownsRow _ _ _ _ _ _ _; rw [hnat.out]; exact hown'.out), hall', hB.out.trans (hb4.mono (by omega)), (hb4.block w.heap.size (by omega)).trans hA.out, by have := hb4.size; omega⟩
        case measure => omega
      · have hR' : Hid (R = (.mk 0 0 ⟨#[]⟩ [], 21)) := by
          show _ = _
          rw [← hR]; unfold sumR; rw [if_neg (by rw [all_false hlt hk]; simp)]
        have hk' : (l[j].k != 1) = true := by simpa using hk
        generalize l[j] = x at *
        obtain ⟨R1, R2⟩ := R
        have r1 : R1 = .mk 0 0 ⟨#[]⟩ [] := congrArg Prod.fst hR'.out
        have r2 : R2 = 21 := congrArg Prod.snd hR'.out
        subst r1 r2
        have hfin : Below w.heap.size w (put4 wr w.heap.size 0 (.int .i64 0) (.int .i64 0) (.string ⟨#[]⟩) (.slice none 0 0)) := hB.out.trans (below_put4 (Nat.le_refl _) _ _ _ _)
        unfold put4 at hfin
        clear hall hnat htk hR hR' hrow
        go_wp2
        simp [bodyPost, results, Tryz.results33, go_sem, y0, y1, y2, y3, V.k, V.n, V.s]
        exact hfin
    · obtain rfl : j = l.length := by omega
      have i2 : ¬ (l.length : Int) < (l.length : Int) := by omega
      have hta : l.all (fun x => decide (x.k = 1)) = true := by have := hall.out; rwa [List.take_length] at this
      have c54 : Calls Tryz.prog 54 #[u4] wr fun e w' => e = .returned (.tuple #[.int .i64 (nv (tot (l.map V.n))), .int .i64 (ne (tot (l.map V.n)))]) ∧ Below wr.heap.size wr w' := by
        have hrow' := hrow.out
        rw [List.take_of_length_le (by simp)] at hrow'
        by_cases h0 : l = []
        · subst h0
          rcases hrow'.2 with ⟨rfl, -⟩ | ⟨g, cap', cur, rfl, -⟩
          · exact (sums.refSum_none none 0 wr).mono fun e w' ⟨h1, h2⟩ => ⟨h1, by rw [h2]; exact Below.refl _ _⟩
          · exact (sums.refSum_none _ cap' wr).mono fun e w' ⟨h1, h2⟩ => ⟨h1, by rw [h2]; exact Below.refl _ _⟩
        · obtain ⟨bx, ox, -, -, hx1⟩ := hx.resolve_left h0
          have hl0 : 0 < l.length := List.length_pos_iff.2 h0
          obtain ⟨g, cap', cur, rfl, hg, hgc, -⟩ := hrow'.2.resolve_left (by rintro ⟨_, h⟩; omega)
          have h := sums.refSum_any g 0 l.length cap' (l.map V.n) wr (by omega) (by simp) (Array.getElem?_eq_some_iff.1 hgc).1 (fun i hi => by
            have hi' : i < l.length := by simpa using hi
            have := hrow'.cells (g := g) rfl i (.int .i64 ((l.map V.n).getD i 0)) (by simp [List.getD, hi'])
            have hadd : (⟨g, 0, none⟩ : Addr).add i = ⟨g, i, none⟩ := by unfold Addr.add; split <;> simp_all
            rw [Nat.zero_add, ← hadd]; exact this) (n_i64 hx1)
          rwa [List.take_of_length_le (by simp)] at h
      have hR' : sumR l = if sums.fits (tot (l.map V.n)) then (.mk 1 (tot (l.map V.n)) ⟨#[]⟩ [], 0) else (.mk 0 0 ⟨#[]⟩ [], 7) := by unfold sumR; rw [if_pos hta]
      rw [hR] at hR'
      generalize tot (l.map V.n) = S at *
      clear hall hrow hta hx hR
      obtain ⟨R1, R2⟩ := R
      cases hf : sums.fits S
      · rw [hf] at hR'
        simp only [Bool.false_eq_true, if_false, Prod.mk.injEq] at hR'
        obtain ⟨rfl, rfl⟩ := hR'
        rw [show nv S = 0 by unfold nv; rw [hf]; rfl, show ne S = 7 by unfold ne; rw [hf]; rfl] at c54
        go_wp2_with (go_at_call 54; refine c54.mono ?_; rintro e w5 ⟨rfl, hb5⟩; obtain ⟨y0, y1, y2, y3, yf⟩ := four_of (blk_on hb5 hA.out))
        have hfin : Below w.heap.size w (put4 w5 w.heap.size 0 (.int .i64 0) (.int .i64 0) (.string ⟨#[]⟩) (.slice none 0 0)) := (hB.out.trans (hb5.mono hB.out.size)).trans (below_put4 (Nat.le_refl _) _ _ _ _)
        unfold put4 at hfin
        simp [bodyPost, results, Tryz.results33, go_sem, y0, y1, y2, y3, V.k, V.n, V.s]
        exact hfin
      · rw [hf] at hR'
        simp only [if_true, Prod.mk.injEq] at hR'
        obtain ⟨rfl, rfl⟩ := hR'
        rw [show nv S = S by unfold nv; rw [hf]; rfl, show ne S = 0 by unfold ne; rw [hf]; rfl] at c54
        go_wp2_with (first
          | (go_at_call 54; refine c54.mono ?_; rintro e w5 ⟨rfl, hb5⟩)
          | (go_at_call 17; refine (refInt17 S _).mono ?_; rintro e w6 ⟨rfl, hb6⟩; obtain ⟨y0, y1, y2, y3, yf⟩ := four_of (blk_on hb6 (blk_on hb5 hA.out))))
        have hfin : Below w.heap.size w (put4 w6 w.heap.size 0 (.int .i64 1) (.int .i64 S) (.string ⟨#[]⟩) (.slice none 0 0)) := ((hB.out.trans (hb5.mono hB.out.size)).trans (hb6.mono (Nat.le_trans hB.out.size hb5.size))).trans (below_put4 (Nat.le_refl _) _ _ _ _)
        unfold put4 at hfin
        simp [bodyPost, results, Tryz.results33, go_sem, y0, y1, y2, y3, V.k, V.n, V.s]
        exact hfin
end Go.Proofs.YtbicodlclmdgaaaGreatDoor
