/-
  What pairsByKey of package value does.
-/
import Derived.Test.YtbicodlclmdgaaaGreatDoorChunk
import Derived.Test.YtbicodlclmdgaaaGreatDoorSort
import Derived.RangeFuncBox
import Derived.Maps.AppendAt
import Derived.Deep.AppendLies
import Derived.Deep.RegionLaw
namespace Go.Proofs.YtbicodlclmdgaaaGreatDoor
open Go.RowKit Go.Shelf
open Go.Sort (HoldsK flatK get_flatK)
attribute [local go_sem] Oper.semAt_some

def zPair : Value := .agg #[.int .i64 0, .int .i64 0, .string ⟨#[]⟩, .slice none 0 0, .int .i64 0, .int .i64 0, .string ⟨#[]⟩, .slice none 0 0]
theorem info51 : (Tryz.prog.info? 51).map (fun i => (i.zero, i.size, i.bytes)) = some (some zPair, 8, 112) := by kernel_rfl

/-- The cell at i of a row of cells. -/
def cel (w : World) (b o i : Nat) : Value := (w.cell? ⟨b, o + i, none⟩).getD default
/-- The eight cells of the pair x. -/
def eight (C : Nat → Value) (x : Nat) : List Value := [C (2 * x * 4), C (2 * x * 4 + 1), C (2 * x * 4 + 2), C (2 * x * 4 + 3), C (2 * x * 4 + 4), C (2 * x * 4 + 5), C (2 * x * 4 + 6), C (2 * x * 4 + 7)]

/-- What pairsByKey hands back: the pairs, put in the order of their keys, in memory of its own. -/
def Sorted44 (w : World) (m : Nat) (pr : Fin m → Pr w) (e : Ending) (w' : World) : Prop :=
  ∃ (g cap : Nat) (d : Array (Pr w)), e = .returned (.slice (some ⟨g, 0, none⟩) m cap) ∧ w.heap.size ≤ g ∧ g < w'.heap.size ∧ m ≤ cap ∧ cap ≤ maxLen ∧ d.size = m ∧
    HoldsK encP 8 w' g 0 d ∧ Sort.PermIn 0 m (Array.ofFn pr) d ∧ Sort.SortedIn (ltOf keyCmp) 0 m d ∧ Below w.heap.size w w'

theorem flat_at {α : Type} (f : α → List Value) (h : ∀ x, (f x).length = 8) : ∀ (L : List α) (t : Nat), (L.flatMap f)[t]? = (L[t / 8]?).bind fun x => (f x)[t % 8]?
  | [], t => by simp
  | a :: L, t => by
    rw [List.flatMap_cons]
    by_cases ht : t < 8
    · rw [List.getElem?_append_left (by rw [h]; exact ht), Nat.div_eq_of_lt ht, Nat.mod_eq_of_lt ht]; rfl
    · obtain ⟨u, rfl⟩ : ∃ u, t = u + 8 := ⟨t - 8, by omega⟩
      rw [List.getElem?_append_right (by rw [h]; omega), h, show u + 8 - 8 = u by omega, flat_at f h L u, show (u + 8) / 8 = u / 8 + 1 by omega, show (u + 8) % 8 = u % 8 by omega, List.getElem?_cons_succ]

theorem holds_row {w W : World} {m g cap base : Nat} (pr : Fin m → Pr w) (h : W.ownsRow base 51 8 (.slice (some ⟨g, 0, none⟩) m cap) m ((List.finRange m).flatMap fun x => encP (pr x))) :
    HoldsK encP 8 W g 0 (Array.ofFn pr) := by
  intro j hj
  have hj' : j < m * 8 := by simpa using hj
  refine ⟨?_, by rw [Nat.zero_add]; exact h.frozenAt j⟩
  rw [Nat.zero_add, h.cellAt j hj', flat_at (fun x => encP (pr x)) (fun _ => rfl)]
  have hx : j / 8 < m := by omega
  rw [get_flatK _ _ _ _ (by simpa using hj')]
  simp only [id]
  rw [List.getElem?_eq_getElem (by simpa using hx)]
  simp only [Option.bind_some, List.getElem_finRange]
  have e1 : (Array.ofFn pr)[j / 8]! = pr ⟨j / 8, hx⟩ := by rw [getElem!_pos _ _ (by simpa using hx)]; simp
  rw [e1]
  have h8 : j % 8 < (encP (pr ⟨j / 8, hx⟩)).length := by show j % 8 < 8; omega
  change (encP (pr ⟨j / 8, hx⟩))[j % 8]? = _
  rw [getElem!_pos (encP (pr ⟨j / 8, hx⟩)) (j % 8) h8, List.getElem?_eq_getElem h8]

theorem size_putObj (w : World) (l : Nat) (o : Obj) : (w.putObj l o).heap.size = w.heap.size := by simp [World.putObj]
theorem heap_sortK {α : Type} [Inhabited α] (enc : α → List Value) (k : Nat) (w : World) (blk off m : Nat) (dk : Array α) (os : Array Obj) (j : Nat) (hj : j ≠ blk) (hs : j < w.heap.size) :
    (sortWorldK enc k w blk off m dk os).heap[j]? = w.heap[j]? := by
  show (w.heap.modify blk _ ++ os)[j]? = _
  rw [Array.getElem?_append_left (by simp; omega), Array.getElem?_modify, if_neg (by omega)]

theorem cells_eight (W : World) (C : Nat → Value) (x : Nat) : ∀ (j : Nat) (u : Value), (eight C x)[j]? = some u → ((W.alloc (.cells #[C (2 * x * 4), C (2 * x * 4 + 1), C (2 * x * 4 + 2), C (2 * x * 4 + 3), C (2 * x * 4 + 4), C (2 * x * 4 + 5), C (2 * x * 4 + 6), C (2 * x * 4 + 7)] 51)).drew).cell? ((⟨W.heap.size, 0, none⟩ : Addr).add j) = some u := by
  intro j u h
  have e : ((W.alloc (.cells #[C (2 * x * 4), C (2 * x * 4 + 1), C (2 * x * 4 + 2), C (2 * x * 4 + 3), C (2 * x * 4 + 4), C (2 * x * 4 + 5), C (2 * x * 4 + 6), C (2 * x * 4 + 7)] 51)).drew).heap[W.heap.size]? = some (.cells (eight C x).toArray 51) := World.alloc_heap_new W _
  unfold World.cell?
  have hb : ((⟨W.heap.size, 0, none⟩ : Addr).add j).block = W.heap.size := by unfold Addr.add; split <;> rfl
  have ho : ((⟨W.heap.size, 0, none⟩ : Addr).add j).off = j := by unfold Addr.add; split <;> simp_all
  have hs : ((⟨W.heap.size, 0, none⟩ : Addr).add j).spot = none := by unfold Addr.add; split <;> rfl
  rw [hb, e]
  simp only [hs, ho]
  simpa using h

set_option maxRecDepth 100000 in
set_option maxHeartbeats 4000000 in
theorem pairs44 (m b o cap : Nat) (h1m : 1 ≤ m) (hm : 2 * m ≤ cap) (hcap : cap ≤ 9223372036854775807) (hreach : m * 112 ≤ 140737488351232) (C : Nat → Value) (w : World)
    (hC : ∀ i, i < 2 * m * 4 → w.cell? ⟨b, o + i, none⟩ = some (C i)) (h1 : ∀ i, i < 2 * m * 4 → (C i).oneCell' = true)
    (pr : Fin m → Pr w) (hE : ∀ x : Fin m, eight C x.1 = encP (pr x)) :
    CallsIn Fence.wide 3 Tryz.prog 44 #[.slice (some ⟨b, o, none⟩) (2 * m) cap] w fun e w' => Sorted44 w m pr e w' := by
  obtain ⟨i0, hi, hz0, hz1, hz2⟩ := info_parts info51
  obtain ⟨wm, hmk, hrow0, hg0⟩ := run_make_own (P := Tryz.prog) (w := w) w.heap.size 48 51 i0 zPair 8 Tryz.underlying48 hi hz0 hz1 .i64 .i64 m (by rw [hz2]; omega) (by unfold maxLen; omega) (Nat.le_refl _)
  refine callsIn_of_wp_marks Tryz.func44 rfl trivial ?_ rfl
  simp only [Tryz.ntmps44, List.size_toArray, List.length_cons, List.length_nil, Nat.reduceAdd, Nat.reduceSub, Array.replicate_succ, Array.replicate_zero, List.push_toArray, List.append_toArray, List.nil_append, List.cons_append]
  gi_wp2_with (refine ⟨trivial, ?_⟩; gi_at_call 63; refine (callsIn_wide.2 (chunk63 _ _ _ _ rfl _)).mono ?_; rintro e w' ⟨rfl, rfl⟩)
  obtain ⟨B, hB⟩ : ∃ B, wm.heap.size = B := ⟨_, rfl⟩
  have hsz0 : w.heap.size < B := by
    rw [← hB]
    rcases hrow0.lt _ rfl with ⟨_, h⟩
    exact h
  obtain ⟨W0, hW0⟩ : ∃ W0, ((wm.alloc (.cells #[.slice (some ⟨w.heap.size, 0, none⟩) 0 m] 48)).alloc (.cells #[.slice (some ⟨b, o, none⟩) (2 * m) cap] 22)).alloc (.cells #[.int .i64 2] 3) = W0 := ⟨_, rfl⟩
  have hs1 : (wm.alloc (.cells #[.slice (some ⟨w.heap.size, 0, none⟩) 0 m] 48)).heap.size = B + 1 := by rw [World.size_alloc, hB]
  have bO := Boxed.new wm 48 (.slice (some ⟨w.heap.size, 0, none⟩) 0 m)
  have bS := Boxed.new (wm.alloc (.cells #[.slice (some ⟨w.heap.size, 0, none⟩) 0 m] 48)) 22 (.slice (some ⟨b, o, none⟩) (2 * m) cap)
  have bN := Boxed.new ((wm.alloc (.cells #[.slice (some ⟨w.heap.size, 0, none⟩) 0 m] 48)).alloc (.cells #[.slice (some ⟨b, o, none⟩) (2 * m) cap] 22)) 3 (.int .i64 2)
  have hB0 : Below w.heap.size w W0 := by
    rw [← hW0]
    exact ((((Below.refl _ w).grown hg0 (Nat.le_refl _) (fun k e => by cases e)).alloc (by omega) _).alloc (by rw [World.size_alloc]; omega) _).alloc (by rw [World.size_alloc, World.size_alloc]; omega) _
  have bO' := (bO.alloc (.cells #[.slice (some ⟨b, o, none⟩) (2 * m) cap] 22)).alloc (.cells #[.int .i64 2] 3)
  have bS' := bS.alloc (.cells #[.int .i64 2] 3)
  have hrow1 := ((hrow0.alloc (.cells #[.slice (some ⟨w.heap.size, 0, none⟩) 0 m] 48)).alloc (.cells #[.slice (some ⟨b, o, none⟩) (2 * m) cap] 22)).alloc (.cells #[.int .i64 2] 3)
  have hsz : W0.heap.size = B + 3 := by rw [← hW0]; simp [hB]
  rw [World.size_alloc, hs1] at bN
  rw [hs1] at bS' 
  rw [hB] at bO'
  rw [hW0] at bO' bS' bN hrow1
  simp only [hW0, hB]
  clear bO bS hrow0
  refine wpIn_rangeFunc_ownG rfl (by omega) (gf := 90) (lb := #[.pointer (some ⟨B + 1, 0, none⟩), .pointer (some ⟨B + 1 + 1, 0, none⟩)]) rfl trivial (enters_of Tryz.func90 (by kernel_rfl) rfl)
    (chunk_stops 2 (by omega) (B + 1) b o m cap hm hcap W0 (by omega) bS'.cell bN.cell) (fun h k => ⟨k.1.trans h.1, k.2.trans h.2⟩) ?hKb (Below.refl _ _) (fun _ => rfl)
    (fun pre W => (∃ v, Boxed W B 48 v ∧ W.ownsRow w.heap.size 51 8 v pre.length (pre.flatMap fun x => eight C x.1) ∧ True) ∧ Boxed W (B + 1) 22 (.slice (some ⟨b, o, none⟩) (2 * m) cap) ∧ Boxed W (B + 1 + 1) 3 (.int .i64 2) ∧ Below w.heap.size w W)
    (fun _ _ _ => False)
    ?hI
    (fun _ _ _ _ _ hs _ _ => hs)
    ⟨⟨_, bO', hrow1, trivial⟩, bS', bN, hB0⟩
    (fun x => { tmps := #[.slice (some ⟨b, o, none⟩) (2 * m) cap, undef, .slice none 0 0, .pointer (some ⟨B, 0, none⟩), .slice (some ⟨b, o + 2 * x.1 * 4, none⟩) 2 2, .slice (some ⟨b, o, none⟩) (2 * m) cap, .int .i64 (2 * m), .int .i64 m, .slice (some ⟨w.heap.size, 0, none⟩) 0 m, .slice (some ⟨b, o, none⟩) (2 * m) cap, .func (.func 90) #[] #[.pointer (some ⟨B + 1, 0, none⟩), .pointer (some ⟨B + 1 + 1, 0, none⟩)], .slice (some ⟨b, o + 2 * x.1 * 4, none⟩) 2 2, undef, undef, undef, undef, undef, undef, undef, undef, undef], defers := [] }) ?assign ?body ?done ?stop
  case hKb =>
    intro W l o o' hl _ _ _
    exact ⟨World.cell?_of_block (World.putObj_heap_other (by show B + 1 ≠ l; omega)), World.cell?_of_block (World.putObj_heap_other (by show B + 1 + 1 ≠ l; omega))⟩
  case hI =>
    exact OwnFrom.and (Own.from (holdsRow_own w.heap.size B 48 51 8 (fun pre : List (Fin m) => pre.length) (fun pre => pre.flatMap fun x => eight C x.1) (fun _ _ => True)) _)
      (OwnFrom.and (Own.from (boxed_own _ _ _) _) (OwnFrom.and (Own.from (boxed_own _ _ _) _) (ownFrom_below (Nat.le_refl _) (by omega))))
  case assign =>
    intro l x W K hK
    gi_wp2
    exact hK
  case body =>
    rintro l pre x W ⟨⟨v, hv, hrow, -⟩, hvS, hvN, hBW⟩ hlt
    have hc := hv.cell
    have hx := x.2
    have c0 := (hBW.cell (cell_lt (hC (2 * x.1 * 4) (by omega)))).trans (hC (2 * x.1 * 4) (by omega))
    have c1 := (hBW.cell (cell_lt (hC (2 * x.1 * 4 + 1) (by omega)))).trans (hC (2 * x.1 * 4 + 1) (by omega))
    have c2 := (hBW.cell (cell_lt (hC (2 * x.1 * 4 + 2) (by omega)))).trans (hC (2 * x.1 * 4 + 2) (by omega))
    have c3 := (hBW.cell (cell_lt (hC (2 * x.1 * 4 + 3) (by omega)))).trans (hC (2 * x.1 * 4 + 3) (by omega))
    have c4 := (hBW.cell (cell_lt (hC (2 * x.1 * 4 + 4) (by omega)))).trans (hC (2 * x.1 * 4 + 4) (by omega))
    have c5 := (hBW.cell (cell_lt (hC (2 * x.1 * 4 + 5) (by omega)))).trans (hC (2 * x.1 * 4 + 5) (by omega))
    have c6 := (hBW.cell (cell_lt (hC (2 * x.1 * 4 + 6) (by omega)))).trans (hC (2 * x.1 * 4 + 6) (by omega))
    have c7 := (hBW.cell (cell_lt (hC (2 * x.1 * 4 + 7) (by omega)))).trans (hC (2 * x.1 * 4 + 7) (by omega))
    simp only [← Nat.add_assoc] at c0 c1 c2 c3 c4 c5 c6 c7
    have hsap : ∀ W' : World, (Instr.arrayAt 51 (.slice (some ⟨b, o + 2 * x.1 * 4, none⟩) 2 2)).run Tryz.prog W' = .ok (.pointer (some ⟨b, o + 2 * x.1 * 4, none⟩)) W' := fun _ => by
      simp [Instr.arrayAt, go_sem]
    have mixed : Tryz.prog.follows .mixedOrders = true := by kernel_rfl
    obtain ⟨v', w1, hrun, hown', hgrow0, -⟩ := run_append_own (P := Tryz.prog) ((W.alloc (.cells #[C (2 * x.1 * 4), C (2 * x.1 * 4 + 1), C (2 * x.1 * 4 + 2), C (2 * x.1 * 4 + 3), C (2 * x.1 * 4 + 4), C (2 * x.1 * 4 + 5), C (2 * x.1 * 4 + 6), C (2 * x.1 * 4 + 7)] 51)).drew) w.heap.size 48 48 51 i0 zPair 8 112 Tryz.underlying48 hi hz0 hz1 hz2 rfl (by decide) v pre.length _ (hrow.alloc _) ⟨W.heap.size, 0, none⟩ 1 1 (eight C x.1) rfl (cells_eight W C x.1) (by
        intro u hu
        simp only [eight, List.mem_cons, List.not_mem_nil, or_false] at hu
        rcases hu with rfl | rfl | rfl | rfl | rfl | rfl | rfl | rfl <;> exact h1 _ (by omega)) (by unfold maxLen; omega) (by omega) (by have := hBW.size; show w.heap.size ≤ (W.heap.push _).size; simp; omega)
    have hgrow : (W.alloc (.cells #[C (2 * x.1 * 4), C (2 * x.1 * 4 + 1), C (2 * x.1 * 4 + 2), C (2 * x.1 * 4 + 3), C (2 * x.1 * 4 + 4), C (2 * x.1 * 4 + 5), C (2 * x.1 * 4 + 6), C (2 * x.1 * 4 + 7)] 51)).grownBy w1 v.ownBlock := ⟨hgrow0.os, hgrow0.tape, hgrow0.output, hgrow0.size, hgrow0.block⟩
    obtain ⟨g', cap', rfl⟩ := ownsRow_succ hown'
    obtain ⟨hv1, hv2, hr2, hk2, hb2⟩ := hv.appended (by decide) hrow hBW.size (by omega) hown' hgrow
    have hcv := hv1.cell
    have hfv := hv1.frozen
    clear hown' hgrow0
    have hcA : (W.alloc (.cells #[C (2 * x.1 * 4), C (2 * x.1 * 4 + 1), C (2 * x.1 * 4 + 2), C (2 * x.1 * 4 + 3), C (2 * x.1 * 4 + 4), C (2 * x.1 * 4 + 5), C (2 * x.1 * 4 + 6), C (2 * x.1 * 4 + 7)] 51)).cell? ⟨B, 0, none⟩ = some v := (hv.alloc _).cell
    simp [go_sem] at hrun
    gi_wp2
    gi_region_with_o (fail)
    all_goals
      clear hrun
      gi_wp2
      have hS1 := ((hvS.alloc (.cells #[C (2 * x.1 * 4), C (2 * x.1 * 4 + 1), C (2 * x.1 * 4 + 2), C (2 * x.1 * 4 + 3), C (2 * x.1 * 4 + 4), C (2 * x.1 * 4 + 5), C (2 * x.1 * 4 + 6), C (2 * x.1 * 4 + 7)] 51)).kept hgrow (hvS.not_row (by decide) hrow)).kept (grownBy_setCell' w1 B (.slice (some ⟨g', 0, none⟩) (pre.length + 1) cap')) (by simp)
      have hN1 := ((hvN.alloc (.cells #[C (2 * x.1 * 4), C (2 * x.1 * 4 + 1), C (2 * x.1 * 4 + 2), C (2 * x.1 * 4 + 3), C (2 * x.1 * 4 + 4), C (2 * x.1 * 4 + 5), C (2 * x.1 * 4 + 6), C (2 * x.1 * 4 + 7)] 51)).kept hgrow (hvN.not_row (by decide) hrow)).kept (grownBy_setCell' w1 B (.slice (some ⟨g', 0, none⟩) (pre.length + 1) cap')) (by simp; omega)
      exact ⟨hk2.from _, ⟨hS1.cell.trans hvS.cell.symm, hN1.cell.trans hvN.cell.symm⟩, ⟨_, hv2, by rw [List.flatMap_append, List.length_append]; simpa using hr2, trivial⟩, hS1, hN1, hBW.trans hb2⟩
  case done =>
    rintro D ys W hD rfl ⟨⟨v, hv, hrow, -⟩, hvS, hvN, hBW⟩ hK
    have hc := hv.cell
    rw [show ((List.finRange m).flatMap fun x => eight C x.1) = (List.finRange m).flatMap fun x => encP (pr x) from by congr 1; funext x; exact hE x, List.length_finRange] at hrow
    obtain ⟨g, cap', rfl⟩ : ∃ g cap', v = .slice (some ⟨g, 0, none⟩) m cap' := by
      obtain ⟨m', rfl⟩ : ∃ m', m = m' + 1 := ⟨m - 1, by omega⟩
      exact ownsRow_succ hrow
    have hH := holds_row pr hrow
    obtain ⟨hgb, hgl⟩ := hrow.lt g rfl
    have hcaps : m ≤ cap' ∧ cap' ≤ maxLen := by
      rcases hrow.2 with ⟨h, _⟩ | ⟨g2, cap2, cur, h, _, _, h3, h4, _⟩
      · cases h
      · cases h; exact ⟨h3, h4⟩
    have hnb : B ≠ g := fun e => hv.not_row (by decide) hrow (by rw [e]; rfl)
    have hDl : D < W.heap.size := (Array.getElem?_eq_some_iff.1 hK).1
    have hDg : D ≠ g := by
      rintro rfl
      rcases hrow.2 with ⟨h, _⟩ | ⟨g2, cap2, cur, h, _, h2, _⟩
      · cases h
      · cases h; rw [hK] at h2; cases h2
    have cs := sort_pairs W hBW g 0 cap' hgb hgl (Array.ofFn pr) hH (by simp; omega)
    rw [Array.size_ofFn] at cs
    clear hE hC h1 hrow
    gi_wp2_with (refine ⟨trivial, ?_⟩; gi_at_call 64; refine (callsIn_wide.2 cs).mono ?_; rintro e w' ⟨rfl, d', nn, os, hp, hs, rfl⟩; have hcB : (sortWorldK encP 8 W g 0 nn d' os).cell? ⟨B, 0, none⟩ = some (.slice (some ⟨g, 0, none⟩) m cap') := (World.cell?_of_block (heap_sortK encP 8 W g 0 nn d' os B hnb hv.lt)).trans hc)
    refine ⟨by simp, .inl ⟨_, _, rfl, run_takeDeferred ((heap_sortK encP 8 W g 0 nn d' os D hDg hDl).trans hK), ?_⟩⟩
    refine ⟨_, results_tmp rfl _ _ _, g, cap', d', rfl, hgb, ?_, hcaps.1, hcaps.2, ?_, ?_, hp, hs, ?_⟩
    · have h := size_sortWorldK_c encP 8 W g 0 nn d' os
      show g < ((sortWorldK encP 8 W g 0 nn d' os).putObj D _).heap.size
      rw [size_putObj]; omega
    · rw [hp.1]; simp
    · have h := holdsK_sortWorldK_c encP 8 W g 0 (Array.ofFn pr) d' nn os hH hgl (by rw [hp.1])
      intro j hj
      obtain ⟨h1, h2⟩ := h j hj
      exact ⟨(World.cell?_of_block (World.putObj_heap_other (by show g ≠ D; omega))).trans h1, (World.frozen?_of_block (World.putObj_heap_other (by show g ≠ D; omega))).trans h2⟩
    · refine (hBW.trans (below_sortK encP 8 W g 0 nn d' os _ hgb hBW.size)).trans (belowK_b (w := w) (Nat.le_refl _) _ D _ _ (by omega) ((heap_sortK encP 8 W g 0 nn d' os D hDg hDl).trans hK) rfl rfl)
  case stop =>
    rintro D c pre W _ _ h _
    exact h.elim
end Go.Proofs.YtbicodlclmdgaaaGreatDoor
