/-
  What Clone of package value does: the same value, in memory of its own.
-/
import Derived.Test.YteknbploiombiaaZCmp
import Derived.Deep.LoopGhost
import Derived.RangeFuncRecord
namespace Go.Proofs.Yteknbploiombiaa
open Go.RowKit

def zVal : Value := .agg #[.int .i64 0, .int .i64 0, .string ⟨#[]⟩, .slice none 0 0]
theorem info24 : (Try.prog.info? 30).map (fun i => (i.zero, i.size, i.bytes)) = some (some zVal, 4, 56) := by kernel_rfl

theorem make22 (n : Nat) (h : n * 56 ≤ 140737488351232) : ∃ cur : Array Value, cur.size = n * 4 ∧ ∀ W : World,
    (Instr.makeSlice 28 (.int .i64 (n : Int)) (.int .i64 (n : Int))).run Try.prog W = .ok (.slice (some ⟨W.heap.size, 0, none⟩) n n) (W.alloc (.cells cur 30)) := by
  obtain ⟨i0, hi, hz0, hz1, hz2⟩ := info_parts info24
  refine ⟨madeCells zVal.cells (n * 4), size_madeCells _ _, fun W => ?_⟩
  have hr := run_make (P := Try.prog) W 28 30 i0 zVal Try.underlying28 hi hz0 .i64 .i64 n n (by omega) (Int.le_refl _) (by rw [hz2]; omega) (by omega)
  simp only [Int.toNat_natCast, hz1] at hr
  exact hr

/-- From block lo on all may be written. -/
def NF (lo : Nat) (w : World) : Prop := ∀ (a : Addr), lo ≤ a.block → w.frozen? a = false
theorem nf_new (w : World) : NF w.heap.size w := fun a h => by
  unfold World.frozen?
  rw [Array.getElem?_eq_none (by omega)]
theorem NF.alloc {lo : Nat} {w : World} (h : NF lo w) (cs : Array Value) (t : TypeId) : NF lo (w.alloc (.cells cs t)) := fun a ha => by
  by_cases e : a.block = w.heap.size
  · unfold World.frozen?
    rw [e, World.alloc_heap_new]
    simp
  · rw [World.frozen?_alloc_old w _ a e]; exact h a ha
theorem NF.set {lo : Nat} {w : World} (h : NF lo w) (g i : Nat) (u : Value) : NF lo (w.setCell ⟨g, i, none⟩ u) := fun a ha => by
  rw [World.frozen?_setCell]; exact h a ha
theorem NF.call {lo : Nat} {w w' : World} (h : NF lo w) (hb : Below w.heap.size w w') (h' : NF w.heap.size w') : NF lo w' := fun a ha => by
  by_cases e : a.block < w.heap.size
  · rw [hb.frozen e]; exact h a ha
  · exact h' a (by omega)

/-- What Clone hands back. -/
def Cl (v : V) (w : World) (e : Ending) (w' : World) : Prop := ∃ sl, e = .returned (v.agg sl) ∧ v.In w' w.heap.size sl ∧ Below w.heap.size w w' ∧ NF w.heap.size w'

/-- A row of n values' cells. -/
def Row (w : World) (g n : Nat) : Prop := ∃ cur, w.heap[g]? = some (.cells cur 30 (0, 0)) ∧ cur.size = n * 4
theorem Row.lt {w : World} {g n : Nat} (h : Row w g n) : g < w.heap.size := by
  obtain ⟨cur, h, _⟩ := h; exact (Array.getElem?_eq_some_iff.1 h).1
theorem Row.on {w w' : World} {g n : Nat} (h : Row w g n) (hb : Below w.heap.size w w') : Row w' g n := by
  have hl := h.lt
  obtain ⟨cur, h, hs⟩ := h; exact ⟨cur, (hb.block g hl).trans h, hs⟩
theorem Row.cell {w : World} {g n : Nat} (h : Row w g n) (i : Nat) (hi : i < n * 4) : ∃ v, w.cell? ⟨g, i, none⟩ = some v := by
  obtain ⟨cur, h, hs⟩ := h
  exact ⟨cur[i]'(by omega), by simp [World.cell?, h, Array.getElem?_eq_getElem (show i < cur.size by omega)]⟩
theorem Row.frozen {w : World} {g n : Nat} (h : Row w g n) (i : Nat) : w.frozen? ⟨g, i, none⟩ = false := by
  obtain ⟨cur, h, _⟩ := h; simp [World.frozen?, h]
theorem Row.set {w : World} {g n : Nat} (h : Row w g n) (i : Nat) (u : Value) : Row (w.setCell ⟨g, i, none⟩ u) g n := by
  obtain ⟨cur, h, hs⟩ := h
  refine ⟨cur.setIfInBounds i u, ?_, by simpa using hs⟩
  simp [World.setCell, Array.getElem?_modify, h]
theorem Row.get {w : World} {g n : Nat} (h : Row w g n) (i : Nat) (hi : i < n * 4) (u : Value) : (w.setCell ⟨g, i, none⟩ u).cell? ⟨g, i, none⟩ = some u := by
  obtain ⟨v, hv⟩ := h.cell i hi
  exact World.cell?_setCell_same' _ _ _ (by rw [hv]; rfl)
theorem set_other {w : World} {a : Addr} {g i : Nat} {v u : Value} (h : w.cell? a = some v) (hne : a.block ≠ g ∨ a.off ≠ i) : (w.setCell ⟨g, i, none⟩ u).cell? a = some v := by
  have hne' : (⟨g, i, none⟩ : Addr) ≠ a := by rintro rfl; simp at hne
  exact (World.cell?_setCell_other w _ _ u hne').trans h
/-- Four stores. -/
def put4 (w : World) (g i : Nat) (a b c d : Value) : World := (((w.setCell ⟨g, i, none⟩ a).setCell ⟨g, i + 1, none⟩ b).setCell ⟨g, i + 2, none⟩ c).setCell ⟨g, i + 3, none⟩ d

theorem V.In.low {w : World} {lo lo' : Nat} {v : V} {sl : Value} (h : v.In w lo sl) (hl : lo' ≤ lo) : v.In w lo' sl := V.In.keep (fun _ _ _ h => h) hl v sl h
theorem Ls.low {w : World} {lo lo' b : Nat} (hl : lo' ≤ lo) : ∀ {l : List V} {o : Nat}, Ls w lo l b o → Ls w lo' l b o
  | [], _, _ => by simp only [Ls]
  | v :: l, o, h => by
    simp only [Ls] at h ⊢
    obtain ⟨sl, c0, c1, c2, c3, hv, hr⟩ := h
    exact ⟨sl, c0, c1, c2, c3, hv.low hl, Ls.low hl hr⟩
theorem row_step {w : World} {g n j : Nat} {l : List V} {x : V} {sl : Value} (hr : Row w g n) (hj : j < n) (hlen : l.length = j) (hl : Ls w (g + 1) l g 0) (hx : x.In w (g + 1) sl) :
    Ls (put4 w g (j * 4) (.int .i64 x.k) (.int .i64 x.n) (.string x.s) sl) (g + 1) (l ++ [x]) g 0 := by
  unfold put4
  have hk : Keep (g + 1) w ((((w.setCell ⟨g, j * 4, none⟩ (.int .i64 x.k)).setCell ⟨g, j * 4 + 1, none⟩ (.int .i64 x.n)).setCell ⟨g, j * 4 + 2, none⟩ (.string x.s)).setCell ⟨g, j * 4 + 3, none⟩ sl) := fun a v ha hc =>
    set_other (set_other (set_other (set_other hc (.inl (by omega))) (.inl (by omega))) (.inl (by omega))) (.inl (by omega))
  have r1 := hr.set (j * 4) (.int .i64 x.k)
  have r2 := r1.set (j * 4 + 1) (.int .i64 x.n)
  have r3 := r2.set (j * 4 + 2) (.string x.s)
  have c0 := set_other (u := sl) (g := g) (i := j * 4 + 3) (set_other (u := .string x.s) (g := g) (i := j * 4 + 2) (set_other (u := .int .i64 x.n) (g := g) (i := j * 4 + 1) (hr.get (j * 4) (by omega) (.int .i64 x.k)) (.inr (by show j * 4 ≠ _; omega))) (.inr (by show j * 4 ≠ _; omega))) (.inr (by show j * 4 ≠ _; omega))
  have c1 := set_other (u := sl) (g := g) (i := j * 4 + 3) (set_other (u := .string x.s) (g := g) (i := j * 4 + 2) (r1.get (j * 4 + 1) (by omega) (.int .i64 x.n)) (.inr (by show j * 4 + 1 ≠ _; omega))) (.inr (by show j * 4 + 1 ≠ _; omega))
  have c2 := set_other (u := sl) (g := g) (i := j * 4 + 3) (r2.get (j * 4 + 2) (by omega) (.string x.s)) (.inr (by show j * 4 + 2 ≠ _; omega))
  have c3 := r3.get (j * 4 + 3) (by omega) sl
  refine Ls.snoc (sl := sl) (Ls.row hk (fun i v hi hc => ?_) hl) ?_ ?_ ?_ ?_ (V.In.keep hk (Nat.le_refl _) x sl hx)
  · exact set_other (set_other (set_other (set_other hc (.inr (by show 0 + i ≠ _; omega))) (.inr (by show 0 + i ≠ _; omega))) (.inr (by show 0 + i ≠ _; omega))) (.inr (by show 0 + i ≠ _; omega))
  all_goals rw [hlen, Nat.zero_add]
  · exact c0
  · exact c1
  · exact c2
  · exact c3
theorem below_put4 {w : World} {g i B : Nat} (h : B ≤ g) (a b c d : Value) : Below B w (put4 w g i a b c d) :=
  ((((Below.refl B w).setCell (p := ⟨g, i, none⟩) h _).setCell (p := ⟨g, i + 1, none⟩) h _).setCell (p := ⟨g, i + 2, none⟩) h _).setCell (p := ⟨g, i + 3, none⟩) h _
theorem Row.put4 {w : World} {g n i : Nat} (h : Row w g n) (a b c d : Value) : Row (put4 w g i a b c d) g n := (((h.set i a).set (i + 1) b).set (i + 2) c).set (i + 3) d

set_option maxHeartbeats 2000000 in
theorem clone_of (k n : Int) (s : ByteArray) (l : List V) (sl : Value) (w : World) (hin : (V.mk k n s l).In w 0 sl)
    (ih : ∀ x ∈ l, ∀ (sx : Value) (w' : World), x.In w' 0 sx → Calls Try.prog 38 #[x.agg sx] w' fun e w'' => Cl x w' e w'') :
    Calls Try.prog 38 #[.agg #[.int .i64 k, .int .i64 n, .string s, sl]] w fun e w' => Cl (V.mk k n s l) w e w' := by
  have hin0 := hin
  obtain ⟨b1, b2, b3, p, cap, rfl, hc, hcm, h56, hx⟩ := (V.in_iff _ _ _ _).1 hin
  simp only [V.l, V.k, V.n, V.s] at *
  unfold maxLen at hcm
  by_cases hl : l = []
  · subst hl
    go_enter Try.func38, Try.ntmps38
    go_wp2
    simp [bodyPost, results, Try.results38, go_sem]
    exact ⟨.slice none 0 0, rfl, by rw [V.in_iff]; exact ⟨b1, b2, b3, none, 0, rfl, Nat.le_refl _, by unfold maxLen; omega, by simp [V.l], Or.inl rfl⟩, bel2 w _ _, ((nf_new w).alloc _ _).alloc _ _⟩
  · obtain ⟨b, o, rfl, -, hx1⟩ := hx.resolve_left hl
    have hl0 : 0 < l.length := List.length_pos_iff.2 hl
    obtain ⟨cur, hcur, hmk⟩ := make22 l.length h56
    have hne : ((l.length : Int) == 0) = false := by simp; omega
    have hne' : ¬ (l.length : Int) = 0 := by omega
    clear hx hin hin0
    go_enter Try.func38, Try.ntmps38
    go_wp2
    clear hmk
    have hrow0 : Row (((w.alloc (.cells #[.int .i64 k, .int .i64 n, .string s, .slice (some ⟨b, o, none⟩) l.length cap] 30)).alloc (.cells #[.int .i64 0, .int .i64 0, .string ⟨#[]⟩, .slice none 0 0] 30)).alloc (.cells cur 30)) (w.heap.size + 1 + 1) l.length := ⟨cur, by
      have := World.alloc_heap_new ((w.alloc (.cells #[.int .i64 k, .int .i64 n, .string s, .slice (some ⟨b, o, none⟩) l.length cap] 30)).alloc (.cells #[.int .i64 0, .int .i64 0, .string ⟨#[]⟩, .slice none 0 0] 30)) (.cells cur 30)
      rwa [World.size_alloc, World.size_alloc] at this, hcur⟩
    have hbW : Below w.heap.size w (((w.alloc (.cells #[.int .i64 k, .int .i64 n, .string s, .slice (some ⟨b, o, none⟩) l.length cap] 30)).alloc (.cells #[.int .i64 0, .int .i64 0, .string ⟨#[]⟩, .slice none 0 0] 30)).alloc (.cells cur 30)) := (bel2 w _ _).alloc (by simp; omega) _
    have q1 : (((w.alloc (.cells #[.int .i64 k, .int .i64 n, .string s, .slice (some ⟨b, o, none⟩) l.length cap] 30)).alloc (.cells #[.int .i64 0, .int .i64 0, .string ⟨#[]⟩, .slice none 0 0] 30)).alloc (.cells cur 30)).cell? ⟨w.heap.size, 3, none⟩ = some (.slice (some ⟨b, o, none⟩) l.length cap) := by simp [go_sem, World.cell?_alloc_past]
    have q2 : (((w.alloc (.cells #[.int .i64 k, .int .i64 n, .string s, .slice (some ⟨b, o, none⟩) l.length cap] 30)).alloc (.cells #[.int .i64 0, .int .i64 0, .string ⟨#[]⟩, .slice none 0 0] 30)).alloc (.cells cur 30)).heap[w.heap.size]? = some (.cells #[.int .i64 k, .int .i64 n, .string s, .slice (some ⟨b, o, none⟩) l.length cap] 30) := by
      rw [Below.heap_alloc _ _ _ (by simp; omega), Below.heap_alloc _ _ _ (by simp)]; exact World.alloc_heap_new w _
    have q3 : (((w.alloc (.cells #[.int .i64 k, .int .i64 n, .string s, .slice (some ⟨b, o, none⟩) l.length cap] 30)).alloc (.cells #[.int .i64 0, .int .i64 0, .string ⟨#[]⟩, .slice none 0 0] 30)).alloc (.cells cur 30)).heap[w.heap.size + 1]? = some (.cells #[.int .i64 0, .int .i64 0, .string ⟨#[]⟩, .slice none 0 0] 30) := by
      rw [Below.heap_alloc _ _ _ (by simp)]
      have := World.alloc_heap_new (w.alloc (.cells #[.int .i64 k, .int .i64 n, .string s, .slice (some ⟨b, o, none⟩) l.length cap] 30)) (.cells #[.int .i64 0, .int .i64 0, .string ⟨#[]⟩, .slice none 0 0] 30)
      rwa [World.size_alloc] at this
    have hnf : NF w.heap.size (((w.alloc (.cells #[.int .i64 k, .int .i64 n, .string s, .slice (some ⟨b, o, none⟩) l.length cap] 30)).alloc (.cells #[.int .i64 0, .int .i64 0, .string ⟨#[]⟩, .slice none 0 0] 30)).alloc (.cells cur 30)) := (((nf_new w).alloc _ _).alloc _ _).alloc _ _
    have hsz : (((w.alloc (.cells #[.int .i64 k, .int .i64 n, .string s, .slice (some ⟨b, o, none⟩) l.length cap] 30)).alloc (.cells #[.int .i64 0, .int .i64 0, .string ⟨#[]⟩, .slice none 0 0] 30)).alloc (.cells cur 30)).heap.size = w.heap.size + 1 + 1 + 1 := by simp
    generalize (((w.alloc (.cells #[.int .i64 k, .int .i64 n, .string s, .slice (some ⟨b, o, none⟩) l.length cap] 30)).alloc (.cells #[.int .i64 0, .int .i64 0, .string ⟨#[]⟩, .slice none 0 0] 30)).alloc (.cells cur 30)) = W1 at *
    go_loopg [17] l.length (fun c i wr => ∃ j : Nat, c + j = l.length ∧ i = .int .i64 j ∧ Hid (Ls wr (w.heap.size + 1 + 1 + 1) (l.take j) (w.heap.size + 1 + 1) 0) ∧ Hid (Row wr (w.heap.size + 1 + 1) l.length) ∧ Below (w.heap.size + 1 + 1) W1 wr ∧ Hid (NF w.heap.size wr))
    case atStart => exact ⟨0, rfl, rfl, by show Ls _ _ [] _ _; simp only [Ls], hrow0, Below.refl _ _, hnf⟩
    case round =>
      obtain ⟨j, hgj, rfl, hls, hrow, hB, hNF⟩ := hrel
      have r1 := (hB.cell (p := ⟨w.heap.size, 3, none⟩) (by show w.heap.size < _; omega)).trans q1
      have hBW : Below w.heap.size w wr := hbW.trans (hB.mono (by omega))
      by_cases hj : j < l.length
      · obtain ⟨s1, a0, a1, a2, a3, hv1⟩ := (hx1.on' hBW).at j hj
        have ih' := ih l[j] (List.getElem_mem hj) s1 wr hv1
        have htake : Hid (l.take (j + 1) = l.take j ++ [l[j]]) := by show _ = _; rw [List.take_succ_eq_append_getElem hj]
        have hlen : Hid ((l.take j).length = j) := by show _ = _; simp; omega
        clear ih
        unfold Cl V.agg at ih'
        generalize l[j] = x at *
        obtain ⟨p1, n1, c1, rfl⟩ := hv1.header
        obtain ⟨z0, e0⟩ := hrow.out.cell (j * 4) (by omega)
        go_wp2_with (go_at_call 38; refine ih'.mono ?_; rintro e w2 ⟨sl2, rfl, hin2, hb2, hnf2⟩; obtain ⟨p2, n2, c2, rfl⟩ := hin2.header; have hnf2 : Hid _ := hnf2; have hr2 := hrow.out.on hb2; obtain ⟨z0, e0⟩ := hr2.cell (j * 4) (by omega); obtain ⟨z1, e1⟩ := hr2.cell (j * 4 + 1) (by omega); obtain ⟨z2, e2⟩ := hr2.cell (j * 4 + 2) (by omega); obtain ⟨z3, e3⟩ := hr2.cell (j * 4 + 3) (by omega); have f0 := hr2.frozen (j * 4); have f1 := hr2.frozen (j * 4 + 1); have f2 := hr2.frozen (j * 4 + 2); have f3 := hr2.frozen (j * 4 + 3); have hr2 : Hid _ := hr2)
        have hrl := hrow.out.lt
        have hr3 : Row w2 (w.heap.size + 1 + 1) l.length := hr2
        have hls2 : Ls w2 (w.heap.size + 1 + 1 + 1) (l.take j) (w.heap.size + 1 + 1) 0 := Ls.row (keep_below hb2) (fun i v _ hc => some_on hb2 hc) hls.out
        go_roundg (gk - 1)
        case rel =>
          refine ⟨j + 1, by omega, by go_num, ?_, ?_, ?_, ?_⟩
          · show Ls _ _ _ _ _
            rw [htake.out]
            exact row_step hr3 hj hlen.out hls2 (hin2.low (by omega))
          · exact hr3.put4 (i := j * 4) _ _ _ _
          · exact (hB.trans (hb2.mono (by omega))).trans (below_put4 (i := j * 4) (Nat.le_refl _) _ _ _ _)
          · exact ((((hNF.out.call hb2 hnf2).set _ (j * 4) _).set _ (j * 4 + 1) _).set _ (j * 4 + 2) _).set _ (j * 4 + 3) _
        case measure => omega
      · obtain rfl : j = l.length := by omega
        have hls' : Hid (Ls wr (w.heap.size + 1 + 1 + 1) l (w.heap.size + 1 + 1) 0) := by
          have := hls.out; rwa [List.take_length] at this
        clear ih hls
        have hrl := hrow.out.lt
        have t0 := (hB.block w.heap.size (by omega)).trans q2
        have t1 := (hB.block (w.heap.size + 1) (by omega)).trans q3
        have x0 : wr.cell? ⟨w.heap.size, 0, none⟩ = some (.int .i64 k) := by simp [World.cell?, t0]
        have x1 : wr.cell? ⟨w.heap.size, 1, none⟩ = some (.int .i64 n) := by simp [World.cell?, t0]
        have x2 : wr.cell? ⟨w.heap.size, 2, none⟩ = some (.string s) := by simp [World.cell?, t0]
        have y0 : wr.cell? ⟨w.heap.size + 1, 0, none⟩ = some (.int .i64 0) := by simp [World.cell?, t1]
        have y1 : wr.cell? ⟨w.heap.size + 1, 1, none⟩ = some (.int .i64 0) := by simp [World.cell?, t1]
        have y2 : wr.cell? ⟨w.heap.size + 1, 2, none⟩ = some (.string ⟨#[]⟩) := by simp [World.cell?, t1]
        have y3 : wr.cell? ⟨w.heap.size + 1, 3, none⟩ = some (.slice none 0 0) := by simp [World.cell?, t1]
        have fz0 : ∀ i, wr.frozen? ⟨w.heap.size, i, none⟩ = false := fun i => by simp [World.frozen?, t0]
        have fz1 : ∀ i, wr.frozen? ⟨w.heap.size + 1, i, none⟩ = false := fun i => by simp [World.frozen?, t1]
        clear t0 t1 q2 q3
        go_wp2
        have hfar : ∀ (a : Addr) v, w.heap.size + 1 + 1 ≤ a.block → wr.cell? a = some v → (put4 (wr.setCell ⟨w.heap.size, 3, none⟩ (.slice (some ⟨w.heap.size + 1 + 1, 0, none⟩) l.length l.length)) (w.heap.size + 1) 0 (.int .i64 k) (.int .i64 n) (.string s) (.slice (some ⟨w.heap.size + 1 + 1, 0, none⟩) l.length l.length)).cell? a = some v := fun a v ha hc =>
          set_other (set_other (set_other (set_other (set_other hc (.inl (by omega))) (.inl (by omega))) (.inl (by omega))) (.inl (by omega))) (.inl (by omega))
        have hfin : Below w.heap.size w (put4 (wr.setCell ⟨w.heap.size, 3, none⟩ (.slice (some ⟨w.heap.size + 1 + 1, 0, none⟩) l.length l.length)) (w.heap.size + 1) 0 (.int .i64 k) (.int .i64 n) (.string s) (.slice (some ⟨w.heap.size + 1 + 1, 0, none⟩) l.length l.length)) :=
          (hBW.setCell (p := ⟨w.heap.size, 3, none⟩) (Nat.le_refl _) _).trans (below_put4 (by omega) _ _ _ _)
        have hin9 : (V.mk k n s l).In (put4 (wr.setCell ⟨w.heap.size, 3, none⟩ (.slice (some ⟨w.heap.size + 1 + 1, 0, none⟩) l.length l.length)) (w.heap.size + 1) 0 (.int .i64 k) (.int .i64 n) (.string s) (.slice (some ⟨w.heap.size + 1 + 1, 0, none⟩) l.length l.length)) w.heap.size (.slice (some ⟨w.heap.size + 1 + 1, 0, none⟩) l.length l.length) := by
          rw [V.in_iff]
          refine ⟨b1, b2, b3, _, _, rfl, Nat.le_refl _, by unfold maxLen; omega, h56, Or.inr ⟨w.heap.size + 1 + 1, 0, rfl, by omega, ?_⟩⟩
          exact (Ls.row (fun a v ha hc => hfar a v (by omega) hc) (fun i v _ hc => hfar _ v (Nat.le_refl _) hc) hls'.out).low (by omega)
        have hnf9 : NF w.heap.size (put4 (wr.setCell ⟨w.heap.size, 3, none⟩ (.slice (some ⟨w.heap.size + 1 + 1, 0, none⟩) l.length l.length)) (w.heap.size + 1) 0 (.int .i64 k) (.int .i64 n) (.string s) (.slice (some ⟨w.heap.size + 1 + 1, 0, none⟩) l.length l.length)) :=
          ((((hNF.out.set _ _ _).set _ _ _).set _ _ _).set _ _ _).set _ _ _
        unfold put4 at hfin hin9 hnf9
        clear hfar hls'
        simp [bodyPost, results, Try.results38, go_sem, y0, y1, y2, y3]
        exact ⟨_, rfl, hin9, hfin, hnf9⟩

/-- Clone. -/
theorem clone31 : ∀ (N : Nat) (x : V), SizeOf.sizeOf x < N → ∀ (sx : Value) (w : World), x.In w 0 sx → Calls Try.prog 38 #[x.agg sx] w fun e w' => Cl x w e w'
  | 0, _, h => absurd h (Nat.not_lt_zero _)
  | N + 1, .mk k n s l, h => fun sx w hx => clone_of k n s l sx w hx fun x hx sx w' hix => clone31 N x (by
      have := List.sizeOf_lt_of_mem hx
      simp at h
      omega) sx w' hix
theorem clone_any (x : V) (sx : Value) (w : World) (hx : x.In w 0 sx) : Calls Try.prog 38 #[x.agg sx] w fun e w' => Cl x w e w' :=
  clone31 (SizeOf.sizeOf x + 1) x (Nat.lt_succ_self _) sx w hx
end Go.Proofs.Yteknbploiombiaa
