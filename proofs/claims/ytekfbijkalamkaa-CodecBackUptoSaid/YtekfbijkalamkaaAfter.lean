/-
  What lies behind all that begins with some bytes: as mathematics, and what After of package codec does.
-/
import Derived.Test.YtekfbijkalamkaaKey
import Derived.Deep.LoopGhost
namespace Go.Proofs.Ytekfbijkalamkaa
open Go.RowKit
set_option linter.unusedVariables false      -- a walk need not use every condition

/-- The least bytes above all that begin with these. -/
def aft : List UInt8 → Option (List UInt8)
  | [] => none
  | c :: r => match aft r with | some s => some (c :: s) | none => if c = 255 then none else some [c + 1]
theorem aft_none : ∀ {t : List UInt8}, (∀ c ∈ t, c = 255) → aft t = none
  | [], _ => rfl
  | c :: t, h => by
    simp only [aft]
    rw [aft_none (t := t) fun d hd => h d (by simp [hd])]
    simp only
    rw [if_pos (h c (by simp))]
theorem aft_some : ∀ (p : List UInt8) {c : UInt8} {q : List UInt8}, (∀ d ∈ q, d = 255) → c ≠ 255 → aft (p ++ c :: q) = some (p ++ [c + 1])
  | [], c, q, h, hc => by
    simp only [List.nil_append, aft]
    rw [aft_none h]
    simp only
    rw [if_neg hc]
  | d :: p, c, q, h, hc => by
    simp only [List.cons_append, aft]
    rw [aft_some p h hc]
theorem aft_all : ∀ {t : List UInt8}, aft t = none → ∀ c ∈ t, c = 255
  | [], _, c, hc => by cases hc
  | d :: t, h, c, hc => by
    simp only [aft] at h
    cases ht : aft t with
    | some s => rw [ht] at h; cases h
    | none =>
      rw [ht] at h
      simp only at h
      by_cases hd : d = 255
      · rcases List.mem_cons.1 hc with rfl | hc
        · exact hd
        · exact aft_all ht c hc
      · rw [if_neg hd] at h; cases h
theorem begins_nil (x : List UInt8) : begins x [] = true := by simp [begins]
theorem begins_cons (d c : UInt8) (x r : List UInt8) : begins (d :: x) (c :: r) = (decide (d = c) && begins x r) := by
  simp only [begins, List.length_cons, List.take_succ_cons]
  by_cases h : d = c
  · subst h; simp
  · have : ((d :: List.take r.length x) == (c :: r)) = false := by simp [h]
    rw [this, decide_eq_false h]; simp
theorem begins_none (c : UInt8) (r : List UInt8) : begins [] (c :: r) = false := by simp [begins]
theorem succ_toNat {c : UInt8} (h : c ≠ 255) : (c + 1).toNat = c.toNat + 1 := by
  have h1 : c.toNat ≠ 255 := fun e => h (UInt8.toNat_inj.1 e)
  have h2 := c.toNat_lt
  rw [UInt8.toNat_add]
  show (c.toNat + 1) % 256 = _
  omega
/-- Below what is told. -/
def below (x : List UInt8) : Option (List UInt8) → Bool
  | none => true
  | some a => decide (Lib.compareBytes x a < 0)
theorem between : ∀ b x : List UInt8, (decide (0 ≤ Lib.compareBytes x b) && below x (aft b)) = begins x b
  | [], x => by
    rw [begins_nil]
    cases x <;> simp [Lib.compareBytes, below, aft]
  | c :: r, [] => by
    rw [begins_none]
    simp [Lib.compareBytes]
  | c :: r, d :: y => by
    rw [begins_cons]
    rcases Nat.lt_trichotomy d.toNat c.toNat with h | h | h
    · have hne : d ≠ c := fun e => by rw [e] at h; omega
      rw [cmp_less h, decide_eq_false hne]; rfl
    · have e : d = c := UInt8.toNat_inj.1 h
      subst e
      rw [cmp_same, decide_eq_true rfl, Bool.true_and, ← between r y]
      simp only [aft]
      cases ha : aft r with
      | some s =>
        simp only [below]
        rw [cmp_same]
      | none =>
        simp only
        by_cases h255 : d = 255
        · rw [if_pos h255]; rfl
        · rw [if_neg h255]
          simp only [below]
          rw [cmp_less (by rw [succ_toNat h255]; omega)]; rfl
    · have hne : d ≠ c := fun e => by rw [e] at h; omega
      have h255 : c ≠ 255 := fun e => by have := d.toNat_lt; rw [e] at h; have e2 : (255 : UInt8).toNat = 255 := rfl; omega
      rw [cmp_more h, decide_eq_false hne, Bool.false_and]
      simp only [aft]
      cases ha : aft r with
      | some s =>
        simp only [below]
        rw [cmp_more h]; rfl
      | none =>
        simp only
        rw [if_neg h255]
        simp only [below]
        have hs := succ_toNat h255
        rcases Nat.lt_or_ge (c + 1).toNat d.toNat with h2 | h2
        · rw [cmp_more h2]; rfl
        · have e : d = c + 1 := UInt8.toNat_inj.1 (by omega)
          subst e
          rw [cmp_same]
          cases y <;> rfl
theorem aft_not : ∀ {b a : List UInt8}, aft b = some a → begins a b = false
  | [], a, h => by cases h
  | c :: r, a, h => by
    simp only [aft] at h
    cases ha : aft r with
    | some s =>
      rw [ha] at h
      injection h with h
      subst h
      rw [begins_cons, aft_not ha]; simp
    | none =>
      rw [ha] at h
      simp only at h
      by_cases h255 : c = 255
      · rw [if_pos h255] at h; cases h
      · rw [if_neg h255] at h
        injection h with h
        subst h
        have hne : c + 1 ≠ c := fun e => by have := succ_toNat h255; rw [e] at this; omega
        rw [begins_cons, decide_eq_false hne]; rfl

/-! ### After -/

/-- What After comes to. -/
def AfterR (t : List UInt8) (w : World) (e : Ending) (w' : World) : Prop :=
  (aft t = none ∧ e = .returned (.tuple #[.slice none 0 0, .bool false]) ∧ Below w.heap.size w w') ∨ (∃ a v, aft t = some a ∧ e = .returned (.tuple #[v, .bool true]) ∧ Bts w' w.heap.size v a ∧ Below w.heap.size w w')
theorem all_take {t : List UInt8} {n : Nat} {c : UInt8} (hn : n < t.length) (hc : t[n] = c) (hall : ∀ d ∈ t.drop (n + 1), d = 255) (h : c = 255) : ∀ d ∈ t.drop n, d = 255 := by
  intro d hd
  rw [List.drop_eq_getElem_cons hn, hc] at hd
  rcases List.mem_cons.1 hd with rfl | hd
  · exact h
  · exact hall d hd
/-- The last byte of a row of one's own. -/
theorem row_last {w : World} {base n : Nat} {v : Value} {T : List UInt8} {c : UInt8} (h : Bts w base v (T ++ [c])) (hl : T.length = n - 1) (hn : n ≠ 0) :
    ∃ g cap, v = .slice (some ⟨g, 0, none⟩) n cap ∧ base ≤ g ∧ w.cell? ⟨g, n - 1, none⟩ = some (.int .u8 c.toNat) ∧ w.frozen? ⟨g, n - 1, none⟩ = false ∧
      ∀ d : UInt8, Bts (w.setCell ⟨g, n - 1, none⟩ (.int .u8 d.toNat)) base (.slice (some ⟨g, 0, none⟩) n cap) (T ++ [d]) := by
  have hlen : (T ++ [c]).length = n := by simp; omega
  unfold Bts at *
  rw [hlen] at h
  have h0 := h
  rcases h.2 with ⟨rfl, h1⟩ | ⟨g, cap, cur, rfl, hbg, hg, hnc, hcm, hcs, htake⟩
  · omega
  · refine ⟨g, cap, rfl, hbg, ?_, h0.frozenAt _, fun d => ?_⟩
    · rw [h0.cellAt _ (by omega), List.map_append, List.getElem?_append_right (by simp; omega)]
      simp [hl]
    · have := (h0.stored (n - 1) (.int .u8 d.toNat)).1
      rw [show (T ++ [d]).length = n by simp; omega]
      rw [List.map_append, List.set_append_right _ _ (by simp; omega)] at this
      simpa [hl] using this
set_option maxHeartbeats 1000000 in
set_option maxRecDepth 20000 in
theorem after17 (w : World) (b : Value) (t : List UInt8) (h : Bs w b t) (ht : t.length ≤ 140737488355328) :
    Calls Try.prog 17 #[b] w (AfterR t w) := by
  have hb0 := h
  obtain ⟨p, cap, rfl, h1, h2, h3, h4⟩ := h
  unfold maxLen at h2
  go_enter Try.func17, Try.ntmps17
  go_wp2
  go_loopg [4] t.length (fun g i wr => ∃ n : Nat, g = n ∧ n ≤ t.length ∧ i = .int .i64 n ∧ Hid (∀ d ∈ t.drop n, d = 255) ∧ wr = w)
  case atStart => exact ⟨t.length, rfl, Nat.le_refl _, rfl, (fun d hd => by rw [List.drop_length] at hd; cases hd), rfl⟩
  case round =>
    obtain ⟨n, hgn, hn, rfl, hall, hwr⟩ := hrel
    subst hwr
    by_cases hn0 : n = 0
    · subst hn0
      have ha : Hid (aft t = none) := aft_none hall.out
      clear hall h4
      go_wp2
      go_ret2
      exact .inl ⟨ha.out, rfl, Below.refl _ _⟩
    · have hml : n - 1 < t.length := by omega
      obtain ⟨g, o, hp, hc⟩ := h4.resolve_left (by intro e; rw [e] at hml; simp at hml)
      have hcell := hc (n - 1) hml
      obtain ⟨c, hcc⟩ : ∃ c, Hid (t[n - 1] = c) := ⟨t[n - 1], (rfl : _ = _)⟩
      rw [hcc.out] at hcell
      have i0 : (0 : Int) < (n : Int) := by omega
      have i1 : (n : Int) - 1 < (t.length : Int) := by omega
      subst hp
      by_cases hc255 : c = 255
      · have hall' : Hid (∀ d ∈ t.drop (n - 1), d = 255) := all_take hml hcc.out (by rw [show n - 1 + 1 = n by omega]; exact hall.out) hc255
        have b1 : ((c.toNat : Int) == 255) = true := by rw [hc255]; rfl
        clear hall hc255 hc h4
        go_wp2
        go_roundg (n - 1)
        case rel => exact ⟨n - 1, rfl, by omega, congrArg (Value.int .i64) (by omega), hall', rfl⟩
        case measure => omega
      · have b1 : ((c.toNat : Int) == 255) = false := by
          have h1 : c.toNat ≠ 255 := fun e => hc255 (UInt8.toNat_inj.1 e)
          simp; omega
        have b2 : ((n : Int) == 0) = false := by simp; omega
        have hsplit : t = t.take (n - 1) ++ c :: t.drop n := by
          have e := List.take_append_drop (n - 1) t
          rw [List.drop_eq_getElem_cons hml, hcc.out, show n - 1 + 1 = n by omega] at e
          exact e.symm
        have ha : Hid (aft t = some (t.take (n - 1) ++ [c + 1])) := by
          show _ = _
          rw [hsplit]
          rw [aft_some _ hall.out hc255]
          rw [← hsplit]
        have htk : t.take n = t.take (n - 1) ++ [c] := by
          have e := List.take_succ_eq_append_getElem hml
          rw [show n - 1 + 1 = n by omega, hcc.out] at e
          exact e
        have hs := succ_toNat hc255
        have c20 := clone20 wr _ _ (hb0.take hn) (by simp; omega)
        rw [htk] at c20
        have hlt : (t.take (n - 1)).length = n - 1 := by simp; omega
        generalize t.take (n - 1) = T at *
        clear hall hc255 hc h4 hsplit htk hb0 hcc
        have hsum : Hid ((((c + 1).toNat : Nat) : Int) = (c.toNat : Int) + 1) := by show _ = _; rw [hs]; simp
        have hsum2 : ((c.toNat : Int) + 1) % 256 = (c.toNat : Int) + 1 := by have := (c + 1).toNat_lt; omega
        go_wp2_with (go_at_call 20; refine c20.mono ?_; rintro e w1 ⟨b1', rfl, hb1, hB1⟩; obtain ⟨g1, cap1, rfl, hbg, hce, hfr, hst⟩ := row_last hb1 hlt hn0)
        have hst1 := hst (c + 1)
        rw [hsum.out] at hst1
        have hst' := Lib.hid hst1
        go_ret2
        refine .inr ⟨T ++ [c + 1], _, ha.out, rfl, hst'.out, hB1.setCell (p := ⟨g1, n - 1, none⟩) hbg _⟩
end Go.Proofs.Ytekfbijkalamkaa
