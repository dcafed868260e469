/-
  Writing elements into rows of one's own: no walk; and what make makes at the graph's types.
-/
import Derived.Test.YteknbploiombiaaZClone
import Derived.Test.YteknbploiombiaaZValRwGm
import Derived.Lib.Hide
namespace Go.Proofs.Yteknbploiombiaa
open Go.RowKit
set_option linter.unusedVariables false

/-- Cells written one behind the other. -/
def putL (w : World) (g : Nat) : Nat → List Value → World
  | _, [] => w
  | i, v :: l => putL (w.setCell ⟨g, i, none⟩ v) g (i + 1) l
theorem putL_other {g : Nat} : ∀ {l : List Value} {w : World} {i : Nat} {a : Addr} {v : Value}, w.cell? a = some v → (a.block ≠ g ∨ a.off < i ∨ i + l.length ≤ a.off) → (putL w g i l).cell? a = some v
  | [], _, _, _, _, h, _ => h
  | u :: l, w, i, a, v, h, hn => by
    refine putL_other (l := l) (set_other h ?_) ?_
    · rcases hn with hn | hn | hn
      · exact .inl hn
      · exact .inr (by omega)
      · exact .inr (by rw [List.length_cons] at hn; omega)
    · rcases hn with hn | hn | hn
      · exact .inl hn
      · exact .inr (.inl (by omega))
      · exact .inr (.inr (by rw [List.length_cons] at hn; omega))
theorem putL_below {g B : Nat} (hg : B ≤ g) : ∀ {l : List Value} {w : World} {i : Nat}, Below B w (putL w g i l)
  | [], w, _ => Below.refl B w
  | u :: l, w, i => ((Below.refl B w).setCell (p := ⟨g, i, none⟩) hg u).trans (putL_below hg (l := l))
theorem putL_nf {g lo : Nat} : ∀ {l : List Value} {w : World} {i : Nat}, NF lo w → NF lo (putL w g i l)
  | [], _, _, h => h
  | _ :: l, _, _, h => putL_nf (l := l) (h.set _ _ _)
/-- A block of N cells. -/
def Rowt (w : World) (g : Nat) (t : TypeId) (N : Nat) : Prop := ∃ cur, w.heap[g]? = some (.cells cur t (0, 0)) ∧ cur.size = N
theorem Rowt.lt {w : World} {g N : Nat} {t : TypeId} (h : Rowt w g t N) : g < w.heap.size := by
  obtain ⟨cur, h, _⟩ := h; exact (Array.getElem?_eq_some_iff.1 h).1
theorem Rowt.on {w w' : World} {g N : Nat} {t : TypeId} (h : Rowt w g t N) (hb : Below w.heap.size w w') : Rowt w' g t N := by
  have hl := h.lt
  obtain ⟨cur, h, hs⟩ := h; exact ⟨cur, (hb.block g hl).trans h, hs⟩
theorem Rowt.cell {w : World} {g N : Nat} {t : TypeId} (h : Rowt w g t N) (i : Nat) (hi : i < N) : ∃ v, w.cell? ⟨g, i, none⟩ = some v := by
  obtain ⟨cur, h, hs⟩ := h
  exact ⟨cur[i]'(by omega), by simp [World.cell?, h, Array.getElem?_eq_getElem (show i < cur.size by omega)]⟩
theorem Rowt.frozen {w : World} {g N : Nat} {t : TypeId} (h : Rowt w g t N) (i : Nat) : w.frozen? ⟨g, i, none⟩ = false := by
  obtain ⟨cur, h, _⟩ := h; simp [World.frozen?, h]
theorem Rowt.set {w : World} {g N : Nat} {t : TypeId} (h : Rowt w g t N) (i : Nat) (u : Value) : Rowt (w.setCell ⟨g, i, none⟩ u) g t N := by
  obtain ⟨cur, h, hs⟩ := h
  refine ⟨cur.setIfInBounds i u, ?_, by simpa using hs⟩
  simp [World.setCell, Array.getElem?_modify, h]
theorem Rowt.get {w : World} {g N : Nat} {t : TypeId} (h : Rowt w g t N) (i : Nat) (hi : i < N) (u : Value) : (w.setCell ⟨g, i, none⟩ u).cell? ⟨g, i, none⟩ = some u := by
  obtain ⟨v, hv⟩ := h.cell i hi
  exact World.cell?_setCell_same' _ _ _ (by rw [hv]; rfl)
theorem Rowt.putL {g N : Nat} {t : TypeId} : ∀ {l : List Value} {w : World} {i : Nat}, Rowt w g t N → Rowt (putL w g i l) g t N
  | [], _, _, h => h
  | _ :: l, _, _, h => Rowt.putL (l := l) (h.set _ _)
theorem Rowt.new (w : World) (cur : Array Value) (t : TypeId) : Rowt (w.alloc (.cells cur t)) w.heap.size t cur.size := ⟨cur, World.alloc_heap_new w _, rfl⟩
theorem putL_ats {g N : Nat} {t : TypeId} : ∀ {l : List Value} {w : World} {i : Nat}, Rowt w g t N → i + l.length ≤ N → Ats (putL w g i l) g i l
  | [], _, _, _, _ => fun j u h => by simp at h
  | v :: l, w, i, hr, hl => by
    intro j u hj
    rw [List.length_cons] at hl
    cases j with
    | zero =>
      simp at hj; subst hj
      exact putL_other (l := l) (hr.get i (by omega) v) (.inr (.inl (by show i + 0 < i + 1; omega)))
    | succ j =>
      have := putL_ats (l := l) (i := i + 1) (hr.set i v) (by omega) j u (by simpa using hj)
      rwa [show i + 1 + j = i + (j + 1) by omega] at this
variable {α : Type}
/-- One element more in a row of one's own, its memory behind the row. -/
theorem rq_step {R : El α} (hcs : ∀ x sl, (R.cs x sl).length = R.n) {w : World} {g N j : Nat} {t : TypeId} {l : List α} {x : α} {sl : Value} (hr : Rowt w g t N) (hj : j * R.n + R.n ≤ N) (hlen : l.length = j) (hl : Lq R w (g + 1) l g 0) (hx : R.In w (g + 1) x sl) :
    Lq R (putL w g (j * R.n) (R.cs x sl)) (g + 1) (l ++ [x]) g 0 := by
  have hk : Keep (g + 1) w (putL w g (j * R.n) (R.cs x sl)) := fun a v ha hc => putL_other hc (.inl (by omega))
  refine Lq.snoc (sl := sl) (Lq.row hcs hk (fun i v hi hc => ?_) hl) ?_ (R.keep hk (Nat.le_refl _) x sl hx)
  · rw [hlen] at hi
    exact putL_other hc (.inr (.inl (by show 0 + i < _; omega)))
  · rw [hlen, Nat.zero_add]
    exact putL_ats hr (by rw [hcs]; exact hj)

/-- Blocks from lo on lie as they lay. -/
def KeepB (lo : Nat) (w w' : World) : Prop := ∀ (g : Nat) (o : Obj), lo ≤ g → w.heap[g]? = some o → w'.heap[g]? = some o
theorem KeepB.keep {lo : Nat} {w w' : World} (h : KeepB lo w w') : Keep lo w w' := fun a v hl hc => by
  have hb := cell_lt hc
  have e := h a.block _ hl (Array.getElem?_eq_getElem hb)
  rw [← hc]
  exact World.cell?_of_block (e.trans (Array.getElem?_eq_getElem hb).symm)
theorem keepB_below {lo : Nat} {w w' : World} (h : Below w.heap.size w w') : KeepB lo w w' := fun g o _ e => (h.block g (Array.getElem?_eq_some_iff.1 e).1).trans e
theorem KeepB.trans {lo : Nat} {a b c : World} (h : KeepB lo a b) (k : KeepB lo b c) : KeepB lo a c := fun g o hl e => k g o hl (h g o hl e)
theorem KeepB.mono {lo lo' : Nat} {a b : World} (h : KeepB lo a b) (hl : lo ≤ lo') : KeepB lo' a b := fun g o hg e => h g o (by omega) e
theorem putL_block {B : Nat} : ∀ {l : List Value} {w : World} {i : Nat} {g : Nat}, g ≠ B → (putL w B i l).heap[g]? = w.heap[g]?
  | [], _, _, _, _ => rfl
  | u :: l, w, i, g, hg => (putL_block (l := l) hg).trans (Below.heap_setCell _ _ _ _ (fun e => hg (by rw [e])))
theorem putL_keepB {B lo : Nat} (hl : B < lo) {l : List Value} {w : World} {i : Nat} : KeepB lo w (putL w B i l) := fun g o hg e => (putL_block (by omega)).trans e
theorem Rowt.keepB {w w' : World} {g N lo : Nat} {t : TypeId} (h : Rowt w g t N) (hk : KeepB lo w w') (hl : lo ≤ g) : Rowt w' g t N := by
  obtain ⟨cur, h, hs⟩ := h; exact ⟨cur, hk g _ hl h, hs⟩
/-- A row of one's own: a block that is just the row, the elements' memory behind it. -/
def OwR (R : El α) (t : TypeId) (w : World) (lo : Nat) (l : List α) (sl : Value) : Prop := (l = [] ∧ sl = .slice none 0 0) ∨
  ∃ g, lo ≤ g ∧ sl = .slice (some ⟨g, 0, none⟩) l.length l.length ∧ 0 < l.length ∧ l.length * R.bytes ≤ 140737488351232 ∧ l.length ≤ maxLen ∧ Rowt w g t (l.length * R.n) ∧ Lq R w (g + 1) l g 0
theorem OwR.sq {R : El α} {t : TypeId} {w : World} {lo : Nat} {l : List α} {sl : Value} (h : OwR R t w lo l sl) : Sq R w lo l sl := by
  rcases h with ⟨rfl, rfl⟩ | ⟨g, hg, rfl, h0, hb, hm, hr, hl⟩
  · exact Sq.nil _ _
  · exact ⟨_, _, rfl, Nat.le_refl _, hm, hb, .inr ⟨g, 0, rfl, hg, hl.low (by omega)⟩⟩
theorem OwR.keep {R : El α} {t : TypeId} {w w' : World} {lo lo' : Nat} {l : List α} {sl : Value} (h : OwR R t w lo l sl) (hk : KeepB lo w w') (hl' : lo' ≤ lo) : OwR R t w' lo' l sl := by
  rcases h with ⟨rfl, rfl⟩ | ⟨g, hg, rfl, h0, hb, hm, hr, hl⟩
  · exact .inl ⟨rfl, rfl⟩
  · refine .inr ⟨g, by omega, rfl, h0, hb, hm, hr.keepB hk hg, ?_⟩
    refine Lq.of_at fun i hi => ?_
    obtain ⟨sl, ha, hv⟩ := hl.at i hi
    exact ⟨sl, ha.keep hk.keep hg, R.keep (hk.mono (show lo ≤ g + 1 by omega)).keep (Nat.le_refl _) _ _ hv⟩
theorem OwR.on {R : El α} {t : TypeId} {w w' : World} {lo : Nat} {l : List α} {sl : Value} (h : OwR R t w lo l sl) (hb : Below w.heap.size w w') : OwR R t w' lo l sl := h.keep (keepB_below hb) (Nat.le_refl _)
theorem OwR.low {R : El α} {t : TypeId} {w : World} {lo lo' : Nat} {l : List α} {sl : Value} (h : OwR R t w lo l sl) (hl : lo' ≤ lo) : OwR R t w lo' l sl := h.keep (fun _ _ _ e => e) hl
/-- What a clone of an element hands back. -/
def ClE (R : El α) (ag : α → Value → Value) (x : α) (w : World) (e : Ending) (w' : World) : Prop := ∃ sl, e = .returned (ag x sl) ∧ R.In w' w.heap.size x sl ∧ Below w.heap.size w w' ∧ NF w.heap.size w'
/-- What a clone of a row hands back. -/
def ClS (R : El α) (t : TypeId) (l : List α) (w : World) (e : Ending) (w' : World) : Prop := ∃ sl, e = .returned sl ∧ OwR R t w' w.heap.size l sl ∧ Below w.heap.size w w' ∧ NF w.heap.size w'

def zPr : Value := .agg #[.string ⟨#[]⟩, .int .i64 0, .int .i64 0, .string ⟨#[]⟩, .slice none 0 0]
def zVx : Value := .agg #[.int .i64 0, .string ⟨#[]⟩, .slice none 0 0]
def zLk : Value := .agg #[.int .i64 0, .string ⟨#[]⟩, .int .i64 0, .int .i64 0, .slice none 0 0]
theorem info99 : (Try.prog.info? 84).map (fun i => (i.zero, i.size, i.bytes)) = some (some zPr, 5, 72) := by kernel_rfl
theorem info41 : (Try.prog.info? 40).map (fun i => (i.zero, i.size, i.bytes)) = some (some zVx, 3, 48) := by kernel_rfl
theorem info46 : (Try.prog.info? 46).map (fun i => (i.zero, i.size, i.bytes)) = some (some zLk, 5, 64) := by kernel_rfl
theorem make39 (n : Nat) (h : n * 72 ≤ 140737488351232) : ∃ cur : Array Value, cur.size = n * 5 ∧ ∀ W : World,
    (Instr.makeSlice 38 (.int .i64 (n : Int)) (.int .i64 (n : Int))).run Try.prog W = .ok (.slice (some ⟨W.heap.size, 0, none⟩) n n) (W.alloc (.cells cur 84)) := by
  obtain ⟨i0, hi, hz0, hz1, hz2⟩ := info_parts info99
  refine ⟨madeCells zPr.cells (n * 5), size_madeCells _ _, fun W => ?_⟩
  have hr := run_make (P := Try.prog) W 38 84 i0 zPr Try.underlying38 hi hz0 .i64 .i64 n n (by omega) (Int.le_refl _) (by rw [hz2]; omega) (by omega)
  simp only [Int.toNat_natCast, hz1] at hr
  exact hr
theorem make22v (n : Nat) (h : n * 48 ≤ 140737488351232) : ∃ cur : Array Value, cur.size = n * 3 ∧ ∀ W : World,
    (Instr.makeSlice 24 (.int .i64 (n : Int)) (.int .i64 (n : Int))).run Try.prog W = .ok (.slice (some ⟨W.heap.size, 0, none⟩) n n) (W.alloc (.cells cur 40)) := by
  obtain ⟨i0, hi, hz0, hz1, hz2⟩ := info_parts info41
  refine ⟨madeCells zVx.cells (n * 3), size_madeCells _ _, fun W => ?_⟩
  have hr := run_make (P := Try.prog) W 24 40 i0 zVx Try.underlying24 hi hz0 .i64 .i64 n n (by omega) (Int.le_refl _) (by rw [hz2]; omega) (by omega)
  simp only [Int.toNat_natCast, hz1] at hr
  exact hr
theorem make23 (n : Nat) (h : n * 64 ≤ 140737488351232) : ∃ cur : Array Value, cur.size = n * 5 ∧ ∀ W : World,
    (Instr.makeSlice 25 (.int .i64 (n : Int)) (.int .i64 (n : Int))).run Try.prog W = .ok (.slice (some ⟨W.heap.size, 0, none⟩) n n) (W.alloc (.cells cur 46)) := by
  obtain ⟨i0, hi, hz0, hz1, hz2⟩ := info_parts info46
  refine ⟨madeCells zLk.cells (n * 5), size_madeCells _ _, fun W => ?_⟩
  have hr := run_make (P := Try.prog) W 25 46 i0 zLk Try.underlying25 hi hz0 .i64 .i64 n n (by omega) (Int.le_refl _) (by rw [hz2]; omega) (by omega)
  simp only [Int.toNat_natCast, hz1] at hr
  exact hr
end Go.Proofs.Yteknbploiombiaa
