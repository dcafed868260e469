/-
  How values are made: the document's Int, Str, Bool, Vertex, Edge, made, List; List of package value.
-/
import Derived.Test.YtbicodlclmdgaaaGreatDoorRefCheck
import Derived.Test.YtbicodlclmdgaaaGreatDoorIns
import Derived.Test.YtbicodlclmdgaaaGreatDoorRdrB
import Derived.Laws.AppendOwnNone
import Derived.Deep.AppendLies
namespace Go.Proofs.YtbicodlclmdgaaaGreatDoor
open Go.RowKit

theorem refInt17 (n : Int) (w : World) : Calls Tryz.prog 17 #[.int .i64 n] w fun e w' => e = .returned (.agg #[.int .i64 1, .int .i64 n, .string ⟨#[]⟩, .slice none 0 0]) ∧ Below w.heap.size w w' := by
  go_enter Tryz.func17, Tryz.ntmps17
  go_wp2
  simp [bodyPost, results, Tryz.results17, go_sem]
  exact bel1 w _
theorem refStr19 (s : ByteArray) (w : World) : Calls Tryz.prog 19 #[.string s] w fun e w' => e = .returned (.agg #[.int .i64 2, .int .i64 0, .string s, .slice none 0 0]) ∧ Below w.heap.size w w' := by
  go_enter Tryz.func19, Tryz.ntmps19
  go_wp2
  simp [bodyPost, results, Tryz.results19, go_sem]
  exact bel1 w _
theorem vertex20 (n : Int) (w : World) : Calls Tryz.prog 20 #[.int .i64 n] w fun e w' => e = .returned (.agg #[.int .i64 6, .int .i64 n, .string ⟨#[]⟩, .slice none 0 0]) ∧ Below w.heap.size w w' := by
  go_enter Tryz.func20, Tryz.ntmps20
  go_wp2
  simp [bodyPost, results, Tryz.results20, go_sem]
  exact bel1 w _
theorem refVertex21 (n : Int) (w : World) : Calls Tryz.prog 21 #[.int .i64 n] w fun e w' => e = .returned (.agg #[.int .i64 6, .int .i64 n, .string ⟨#[]⟩, .slice none 0 0]) ∧ Below w.heap.size w w' := by
  go_enter Tryz.func21, Tryz.ntmps21
  go_wp2
  simp [bodyPost, results, Tryz.results21, go_sem]
  exact bel1 w _
theorem edge22 (n : Int) (w : World) : Calls Tryz.prog 22 #[.int .i64 n] w fun e w' => e = .returned (.agg #[.int .i64 7, .int .i64 n, .string ⟨#[]⟩, .slice none 0 0]) ∧ Below w.heap.size w w' := by
  go_enter Tryz.func22, Tryz.ntmps22
  go_wp2
  simp [bodyPost, results, Tryz.results22, go_sem]
  exact bel1 w _
theorem refEdge23 (n : Int) (w : World) : Calls Tryz.prog 23 #[.int .i64 n] w fun e w' => e = .returned (.agg #[.int .i64 7, .int .i64 n, .string ⟨#[]⟩, .slice none 0 0]) ∧ Below w.heap.size w w' := by
  go_enter Tryz.func23, Tryz.ntmps23
  go_wp2
  simp [bodyPost, results, Tryz.results23, go_sem]
  exact bel1 w _
theorem refBool25 (b : Bool) (w : World) : Calls Tryz.prog 25 #[.bool b] w fun e w' => e = .returned (.agg #[.int .i64 3, .int .i64 (if b then 1 else 0), .string ⟨#[]⟩, .slice none 0 0]) ∧ Below w.heap.size w w' := by
  cases b
  · go_enter Tryz.func25, Tryz.ntmps25
    go_wp2
    simp [bodyPost, results, Tryz.results25, go_sem]
    exact bel1 w _
  · go_enter Tryz.func25, Tryz.ntmps25
    go_wp2
    simp [bodyPost, results, Tryz.results25, go_sem]
    exact bel1 w _

/-- What a value that is made comes to: itself, if it may be; all that it leads to lies from block lo on. -/
def MadeIn (lo : Nat) (x : V) (w : World) (e : Ending) (w' : World) : Prop :=
  Below w.heap.size w w' ∧ (x.may 1 = true → ∃ sl, e = .returned (.tuple #[x.agg sl, .int .i64 0]) ∧ x.In w' lo sl) ∧
    (x.may 1 = false → e = .returned (.tuple #[zeroAgg, .int .i64 20]))

/-- What the document's made hands back: the value itself, if it may be. -/
def MadeR (x : V) (sx : Value) (w : World) (e : Ending) (w' : World) : Prop :=
  Below w.heap.size w w' ∧ (x.may 1 = true → e = .returned (.tuple #[x.agg sx, .int .i64 0])) ∧ (x.may 1 = false → e = .returned (.tuple #[zeroAgg, .int .i64 20]))

set_option maxHeartbeats 2000000 in
theorem made43 (x : V) (sx : Value) (w : World) (hx : x.In w 0 sx) : Calls Tryz.prog 43 #[x.agg sx] w fun e w' => MadeR x sx w e w' := by
  have c14 := fun w => refCheck14 x sx w
  obtain ⟨m, hm⟩ : ∃ m, V.may x 1 = m := ⟨_, rfl⟩
  unfold V.err at c14
  unfold MadeR
  rw [hm] at c14 ⊢
  clear hm
  unfold V.agg at c14 ⊢
  obtain ⟨p1, n1, q1, rfl⟩ := hx.header
  have hq1 := blk_old (o' := .cells #[.int .i64 0, .int .i64 0, .string ⟨#[]⟩, .slice none 0 0] 24) (blk_new w (.cells #[.int .i64 x.k, .int .i64 x.n, .string x.s, .slice p1 n1 q1] 24))
  have hq2 := blk_new (w.alloc (.cells #[.int .i64 x.k, .int .i64 x.n, .string x.s, .slice p1 n1 q1] 24)) (.cells #[.int .i64 0, .int .i64 0, .string ⟨#[]⟩, .slice none 0 0] 24)
  rw [World.size_alloc] at hq2
  cases m
  · simp only [Bool.false_eq_true, if_false] at c14
    go_enter Tryz.func43, Tryz.ntmps43
    go_wp2_with (go_at_call 14; refine (c14 _ (hx.on (bel2 w _ _))).mono ?_; rintro e w1 ⟨rfl, hb1⟩; have h2 := blk_on hb1 hq2; obtain ⟨y0, y1, y2, y3, yf⟩ := four_of h2; clear h2)
    have hsz : w.heap.size + 1 + 1 ≤ w1.heap.size := by have := hb1.size; simpa using this
    have hfin : Below w.heap.size w (put4 w1 (w.heap.size + 1) 0 (.int .i64 0) (.int .i64 0) (.string ⟨#[]⟩) (.slice none 0 0)) := (bel_then (bel2 w _ _) hb1).trans (below_put4 (by omega) _ _ _ _)
    unfold put4 at hfin
    simp [bodyPost, results, Tryz.results43, go_sem, y0, y1, y2, y3]
    exact ⟨hfin, rfl⟩
  · simp only [if_true] at c14
    go_enter Tryz.func43, Tryz.ntmps43
    go_wp2_with (go_at_call 14; refine (c14 _ (hx.on (bel2 w _ _))).mono ?_; rintro e w1 ⟨rfl, hb1⟩; have h1 := blk_on hb1 hq1; obtain ⟨x0, x1, x2, x3, -⟩ := four_of h1; have h2 := blk_on hb1 hq2; obtain ⟨y0, y1, y2, y3, yf⟩ := four_of h2; clear h1 h2)
    have hsz : w.heap.size + 1 + 1 ≤ w1.heap.size := by have := hb1.size; simpa using this
    have hfin : Below w.heap.size w (put4 w1 (w.heap.size + 1) 0 (.int .i64 x.k) (.int .i64 x.n) (.string x.s) (.slice p1 n1 q1)) := (bel_then (bel2 w _ _) hb1).trans (below_put4 (by omega) _ _ _ _)
    unfold put4 at hfin
    simp [bodyPost, results, Tryz.results43, go_sem, y0, y1, y2, y3]
    exact hfin

/-- The list of these. -/
def listV (l : List V) : V := .mk 4 0 ⟨#[]⟩ l
theorem list_in {l : List V} {sl : Value} {w : World} (hS : Sl w 0 l sl) : (listV l).In w 0 sl := by
  rw [V.in_iff]
  exact ⟨by unfold I64; simp [listV, V.k], by unfold I64; simp [listV, V.n], (by show (0 : Nat) ≤ _; omega), hS⟩
theorem mapV_in {l : List V} {sl : Value} {w : World} (hS : Sl w 0 l sl) : (V.mk 5 0 ⟨#[]⟩ l).In w 0 sl := by
  rw [V.in_iff]
  exact ⟨by unfold I64; simp [V.k], by unfold I64; simp [V.n], (by show (0 : Nat) ≤ _; omega), hS⟩

set_option maxHeartbeats 2000000 in
theorem list8 (l : List V) (sl : Value) (w : World) (hS : Sl w 0 l sl) : Calls Tryz.prog 8 #[sl] w fun e w' => MadeIn w.heap.size (listV l) w e w' := by
  have c42 := fun w h => checked42 (listV l) sl w h
  have hin := list_in hS
  obtain ⟨p, cap, rfl, -⟩ := hS
  obtain ⟨m, hm⟩ : ∃ m, V.may (listV l) 1 = m := ⟨_, rfl⟩
  unfold Made V.agg at c42
  unfold MadeIn V.agg
  rw [hm] at c42 ⊢
  have ek : (listV l).k = 4 := rfl
  have en : (listV l).n = 0 := rfl
  have es : (listV l).s = ⟨#[]⟩ := rfl
  simp only [ek, en, es] at c42 ⊢
  clear hm ek en es
  generalize listV l = X at *
  have hq := blk_new w (.cells #[.int .i64 0, .int .i64 0, .string ⟨#[]⟩, .slice none 0 0] 24)
  have hb0 := bel1 w (.cells #[.int .i64 0, .int .i64 0, .string ⟨#[]⟩, .slice none 0 0] 24)
  have hsz := World.size_alloc w (.cells #[.int .i64 0, .int .i64 0, .string ⟨#[]⟩, .slice none 0 0] 24)
  have hin1 := hin.on hb0
  cases m
  · go_enter Tryz.func8, Tryz.ntmps8
    go_wp2_with (go_at_call 42; refine (c42 _ hin1).mono ?_; rintro e w5 ⟨hb5, -, hF5⟩; obtain rfl := hF5 rfl; obtain ⟨y0, y1, y2, y3, yf⟩ := four_of (blk_on hb5 hq); unfold zeroAgg)
    have hfin : Below w.heap.size w (put4 w5 w.heap.size 0 (.int .i64 0) (.int .i64 0) (.string ⟨#[]⟩) (.slice none 0 0)) := (bel_then hb0 hb5).trans (below_put4 (Nat.le_refl _) _ _ _ _)
    unfold put4 at hfin
    simp [bodyPost, results, Tryz.results8, go_sem, y0, y1, y2, y3]
    exact ⟨hfin, rfl⟩
  · go_enter Tryz.func8, Tryz.ntmps8
    go_wp2_with (go_at_call 42; refine (c42 _ hin1).mono ?_; rintro e w5 ⟨hb5, hT5, -⟩; obtain ⟨sl5, rfl, hin5⟩ := hT5 rfl; obtain ⟨p5, n5, c5, rfl⟩ := hin5.header; obtain ⟨y0, y1, y2, y3, yf⟩ := four_of (blk_on hb5 hq))
    have hfin : Below w.heap.size w (put4 w5 w.heap.size 0 (.int .i64 4) (.int .i64 0) (.string ⟨#[]⟩) (.slice p5 n5 c5)) := (bel_then hb0 hb5).trans (below_put4 (Nat.le_refl _) _ _ _ _)
    have hin9 : X.In (put4 w5 w.heap.size 0 (.int .i64 4) (.int .i64 0) (.string ⟨#[]⟩) (.slice p5 n5 c5)) w.heap.size (.slice p5 n5 c5) :=
      V.In.keep (lo := w.heap.size + 1) (fun a v ha hc => set_other (set_other (set_other (set_other hc (.inl (by omega))) (.inl (by omega))) (.inl (by omega))) (.inl (by omega))) (by omega) X _ (by rw [← hsz]; exact hin5)
    unfold put4 at hfin hin9
    simp [bodyPost, results, Tryz.results8, go_sem, y0, y1, y2, y3]
    exact ⟨hfin, hin9⟩

/-! ### Nothing appended -/
theorem run_append_zero {P : Program} (w : World) (t ty e : TypeId) (i : TypeInfo) (ht : P.underlying t = some (.slice e)) (hi : P.info? e = some i) (b q : Option Addr) (n c c2 : Nat) (hn : n ≤ c) :
    (Builtin.append_ #[t, t] ty #[.slice b n c, .slice q 0 c2]).run P w = .ok (.slice b n c) w := by
  cases b <;> cases q <;> simp [Builtin.append_, run_underlying ht, sizeOf, typeInfo, hi, Builtin.lenOf, Builtin.firstCells, hn, storeCells, loadCells, loadCellsFrom]
theorem wpList_append_zero {P : Program} {w : World} {ops : Array Oper} {rest : List Oper} {o : Oper} {a : Act} {Q : Exit → Act → World → Prop} (hgd : o.guard = none) (s x : Operand) (t : TypeId)
    (ho : o.op = .call { callee := .builtin .append, args := #[s, x], argTypes := #[t, t] })
    (e : TypeId) (i : TypeInfo) (ht : P.underlying t = some (.slice e)) (hi : P.info? e = some i) (b q : Option Addr) (n c c2 : Nat) (hn : n ≤ c)
    (hs : a.eval s = .slice b n c) (hx : a.eval x = .slice q 0 c2)
    (h : wpList P ops Q rest (a.put o.dst (.slice b n c)) w) : wpList P ops Q (o :: rest) a w := by
  refine wpList_plain hgd fun K hK => ?_
  have hrun := run_append_zero (P := P) w t o.type e i ht hi b q n c c2 hn
  unfold Oper.wp
  simp [execOp, ho, resolve, invoke, builtin, hs, hx, hrun, Result.andThen]
  exact hK _ _ h
theorem step_append_zero {P : Program} {w : World} {ops : Array Oper} {o : Oper} {a : Act} {K : Act → World → Prop} {Q : Exit → Act → World → Prop} {E : Prop} (hgd : o.guard = none) (s x : Operand) (t : TypeId)
    (ho : o.op = .call { callee := .builtin .append, args := #[s, x], argTypes := #[t, t] })
    (e : TypeId) (i : TypeInfo) (ht : P.underlying t = some (.slice e)) (hi : P.info? e = some i) (b q : Option Addr) (n c c2 : Nat) (hn : n ≤ c)
    (hs : a.eval s = .slice b n c) (hx : a.eval x = .slice q 0 c2)
    (h : K (a.put o.dst (.slice b n c)) w) : if Region.wanted o (yielded ops a.tmps) = true then Oper.wp P o a w K Q else E := by
  have hw : Region.wanted o (yielded ops a.tmps) = true := by simp [Region.wanted, hgd]
  rw [if_pos hw]
  have hrun := run_append_zero (P := P) w t o.type e i ht hi b q n c c2 hn
  unfold Oper.wp
  simp [execOp, ho, resolve, invoke, builtin, hs, hx, hrun, Result.andThen]
  exact h

/-- A row of one's own in a world that grows, and behind stores into a block below. -/
theorem row_on {w w' : World} {base e size n : Nat} {v : Value} {xs : List Value} (h : w.ownsRow base e size v n xs) (hb : Below w.heap.size w w') : w'.ownsRow base e size v n xs := by
  obtain ⟨h1, h2⟩ := h
  refine ⟨h1, ?_⟩
  rcases h2 with h2 | ⟨g, cap, cur, a1, a2, a3, a4⟩
  · exact .inl h2
  · exact .inr ⟨g, cap, cur, a1, a2, blk_on hb a3, a4⟩
theorem row_set {w : World} {e size n g : Nat} {v : Value} {xs : List Value} (h : w.ownsRow (g + 1) e size v n xs) (i : Nat) (u : Value) : (w.setCell ⟨g, i, none⟩ u).ownsRow (g + 1) e size v n xs := by
  obtain ⟨h1, h2⟩ := h
  refine ⟨h1, ?_⟩
  rcases h2 with h2 | ⟨g2, cap, cur, a1, a2, a3, a4⟩
  · exact .inl h2
  · exact .inr ⟨g2, cap, cur, a1, a2, by rw [Below.heap_setCell _ _ _ _ (by show g2 ≠ g; omega)]; exact a3, a4⟩
theorem row_put4 {w : World} {e size n g : Nat} {v : Value} {xs : List Value} (h : w.ownsRow (g + 1) e size v n xs) (i : Nat) (a b c d : Value) : (put4 w g i a b c d).ownsRow (g + 1) e size v n xs :=
  row_set (row_set (row_set (row_set h _ _) _ _) _ _) _ _

set_option maxRecDepth 20000 in
set_option maxHeartbeats 2000000 in
theorem list9 (l : List V) (sl : Value) (w : World) (hS : Sl w 0 l sl) : Calls Tryz.prog 9 #[sl] w fun e w' => MadeIn 0 (listV l) w e w' := by
  have c43 := fun sl w h => made43 (listV l) sl w (list_in (l := l) (sl := sl) (w := w) h)
  obtain ⟨p, cap, rfl, hc, hcm, h56, hx⟩ := hS
  have key : ∀ (e : Ending) (w' : World) (m : Bool), m = V.may (listV l) 1 → Below w.heap.size w w' → (m = true → ∃ sl, e = .returned (.tuple #[.agg #[.int .i64 4, .int .i64 0, .string ⟨#[]⟩, sl], .int .i64 0]) ∧ Sl w' 0 l sl) → (m = false → e = .returned (.tuple #[.agg #[.int .i64 0, .int .i64 0, .string ⟨#[]⟩, .slice none 0 0], .int .i64 20])) → MadeIn 0 (listV l) w e w' := fun e w' m hm h1 h2 h3 => by
    subst hm
    exact ⟨h1, fun h => let ⟨sl, h4, h5⟩ := h2 h; ⟨sl, h4, list_in h5⟩, h3⟩
  obtain ⟨m, hm'⟩ : ∃ m, V.may (listV l) 1 = m := ⟨_, rfl⟩
  have hm : Hid (m = V.may (listV l) 1) := hm'.symm
  unfold MadeR V.agg zeroAgg at c43
  rw [hm'] at c43
  have ek : (listV l).k = 4 := rfl
  have en : (listV l).n = 0 := rfl
  have es : (listV l).s = ⟨#[]⟩ := rfl
  simp only [ek, en, es] at c43
  clear hm' ek en es
  obtain ⟨i0, hi, hz0, hz1, hz2⟩ := info_parts info24
  have hq := blk_new w (.cells #[.int .i64 0, .int .i64 0, .string ⟨#[]⟩, .slice none 0 0] 24)
  have hb0 := bel1 w (.cells #[.int .i64 0, .int .i64 0, .string ⟨#[]⟩, .slice none 0 0] 24)
  by_cases h0 : l = []
  · subst h0
    have hS0 : ∀ W : World, Sl W 0 [] (.slice none 0 0) := fun W => ⟨none, 0, rfl, Nat.le_refl _, Nat.zero_le _, by simp, .inl rfl⟩
    clear hx hc h56
    rw [List.length_nil]
    generalize listV [] = X at *
    cases m
    · go_enter Tryz.func9, Tryz.ntmps9
      go_wp2_with (first
        | (at_builtin; refine wpList_append_zero rfl _ _ 22 rfl 24 i0 Tryz.underlying22 hi none p 0 0 cap (Nat.le_refl _) rfl rfl ?_)
        | (go_at_call 43; refine (c43 _ _ (hS0 _)).mono ?_; rintro e w5 ⟨hb5, -, hF5⟩; obtain rfl := hF5 rfl; obtain ⟨y0, y1, y2, y3, yf⟩ := four_of (blk_on hb5 hq)))
      have hfin : Below w.heap.size w (put4 w5 w.heap.size 0 (.int .i64 0) (.int .i64 0) (.string ⟨#[]⟩) (.slice none 0 0)) := (bel_then hb0 hb5).trans (below_put4 (Nat.le_refl _) _ _ _ _)
      unfold put4 at hfin
      simp [bodyPost, results, Tryz.results9, go_sem, y0, y1, y2, y3]
      exact key _ _ _ hm.out hfin (fun h => by cases h) (fun _ => rfl)
    · go_enter Tryz.func9, Tryz.ntmps9
      go_wp2_with (first
        | (at_builtin; refine wpList_append_zero rfl _ _ 22 rfl 24 i0 Tryz.underlying22 hi none p 0 0 cap (Nat.le_refl _) rfl rfl ?_)
        | (go_at_call 43; refine (c43 _ _ (hS0 _)).mono ?_; rintro e w5 ⟨hb5, hT5, -⟩; obtain rfl := hT5 rfl; obtain ⟨y0, y1, y2, y3, yf⟩ := four_of (blk_on hb5 hq)))
      have hfin : Below w.heap.size w (put4 w5 w.heap.size 0 (.int .i64 4) (.int .i64 0) (.string ⟨#[]⟩) (.slice none 0 0)) := (bel_then hb0 hb5).trans (below_put4 (Nat.le_refl _) _ _ _ _)
      unfold put4 at hfin
      simp [bodyPost, results, Tryz.results9, go_sem, y0, y1, y2, y3]
      exact key _ _ _ hm.out hfin (fun _ => ⟨_, rfl, hS0 _⟩) (fun h => by cases h)
  · obtain ⟨b, o, rfl, -, hx1⟩ := hx.resolve_left h0
    obtain ⟨X, hX, hIn, hAt⟩ := ls_entries l o hx1
    have hXl : X.length = l.length := by rw [← hX]; simp
    have hpos : 0 < l.length := List.length_pos_iff.2 h0
    have hlen : (encL X).length = l.length * 4 := by rw [encL_len, hXl]
    have hrowS : ∀ (W : World) (g cap : Nat), Below w.heap.size w W → W.ownsRow (w.heap.size + 1) 24 4 (.slice (some ⟨g, 0, none⟩) l.length cap) l.length (encL X) → Sl W 0 l (.slice (some ⟨g, 0, none⟩) l.length cap) := fun W g cap hb hr => by
      have := row_sl hr hXl (hIn.on hb) h56
      rw [hX] at this; exact this
    have hnews := (hAt.on hb0).news
    have hone := hIn.one
    generalize encL X = F at *
    clear hX hIn hAt hXl hx hx1 h0
    cases m
    · go_enter Tryz.func9, Tryz.ntmps9
      go_wp2_with (first
        | (at_builtin; refine wpList_append_lies _ rfl _ _ 22 rfl (w.heap.size + 1) 24 i0 zVal 4 56 Tryz.underlying22 hi hz0 hz1 hz2 rfl (by decide) _ _ _ rfl (World.ownsRow_nil _ _ _ _) ⟨b, o, none⟩ l.length cap F rfl hlen hnews hone hpos (by omega) (by omega) (by simp) _ rfl ?_; intro g2 cap2 w4 hown hgrow hg2 hlt; rw [Nat.zero_add, List.nil_append] at hown; have hb4 : Below (w.alloc (.cells #[.int .i64 0, .int .i64 0, .string ⟨#[]⟩, .slice none 0 0] 24)).heap.size (w.alloc (.cells #[.int .i64 0, .int .i64 0, .string ⟨#[]⟩, .slice none 0 0] 24)) w4 := (Below.refl _ _).grown hgrow (Nat.le_refl _) (fun k e => by cases e))
        | (go_at_call 43; refine (c43 _ _ (hrowS _ _ _ (bel_then hb0 hb4) hown)).mono ?_; rintro e w5 ⟨hb5, -, hF5⟩; obtain rfl := hF5 rfl; obtain ⟨y0, y1, y2, y3, yf⟩ := four_of (blk_on hb5 (blk_on hb4 hq))))
      have hfin : Below w.heap.size w (put4 w5 w.heap.size 0 (.int .i64 0) (.int .i64 0) (.string ⟨#[]⟩) (.slice none 0 0)) := (bel_then (bel_then hb0 hb4) hb5).trans (below_put4 (Nat.le_refl _) _ _ _ _)
      unfold put4 at hfin
      simp [bodyPost, results, Tryz.results9, go_sem, y0, y1, y2, y3]
      exact key _ _ _ hm.out hfin (fun h => by cases h) (fun _ => rfl)
    · go_enter Tryz.func9, Tryz.ntmps9
      go_wp2_with (first
        | (at_builtin; refine wpList_append_lies _ rfl _ _ 22 rfl (w.heap.size + 1) 24 i0 zVal 4 56 Tryz.underlying22 hi hz0 hz1 hz2 rfl (by decide) _ _ _ rfl (World.ownsRow_nil _ _ _ _) ⟨b, o, none⟩ l.length cap F rfl hlen hnews hone hpos (by omega) (by omega) (by simp) _ rfl ?_; intro g2 cap2 w4 hown hgrow hg2 hlt; rw [Nat.zero_add, List.nil_append] at hown; have hb4 : Below (w.alloc (.cells #[.int .i64 0, .int .i64 0, .string ⟨#[]⟩, .slice none 0 0] 24)).heap.size (w.alloc (.cells #[.int .i64 0, .int .i64 0, .string ⟨#[]⟩, .slice none 0 0] 24)) w4 := (Below.refl _ _).grown hgrow (Nat.le_refl _) (fun k e => by cases e))
        | (go_at_call 43; refine (c43 _ _ (hrowS _ _ _ (bel_then hb0 hb4) hown)).mono ?_; rintro e w5 ⟨hb5, hT5, -⟩; obtain rfl := hT5 rfl; obtain ⟨y0, y1, y2, y3, yf⟩ := four_of (blk_on hb5 (blk_on hb4 hq))))
      have hfin : Below w.heap.size w (put4 w5 w.heap.size 0 (.int .i64 4) (.int .i64 0) (.string ⟨#[]⟩) (.slice (some ⟨g2, 0, none⟩) l.length cap2)) := (bel_then (bel_then hb0 hb4) hb5).trans (below_put4 (Nat.le_refl _) _ _ _ _)
      have hrow9 := hrowS _ _ _ hfin (row_put4 (row_on hown hb5) 0 _ _ _ _)
      unfold put4 at hfin hrow9
      simp [bodyPost, results, Tryz.results9, go_sem, y0, y1, y2, y3]
      exact key _ _ _ hm.out hfin (fun _ => ⟨_, rfl, hrow9⟩) (fun h => by cases h)
end Go.Proofs.YtbicodlclmdgaaaGreatDoor
