/-
  Bytes in memory, wherever they lie; what bytes.Equal, bytes.Compare, bytes.HasPrefix and slices.Clone do with them.
-/
import Derived.Test.YtbgikgeknnmelaaGreatMem
import Derived.Lib.SliceRun
import Derived.Lib.Hide
import Derived.Laws.AppendOwnNone
namespace Go.Proofs.YtbgikgeknnmelaaGreat
open Go.RowKit
set_option linter.unusedVariables false      -- a walk need not use every condition

/-- Bytes that lie somewhere: none of them, whatever the address, or from an address on. -/
def Bs (w : World) (v : Value) (t : List UInt8) : Prop := ∃ p cap, v = .slice p t.length cap ∧ t.length ≤ cap ∧ cap ≤ maxLen ∧ (p = none → cap = 0) ∧
  (t = [] ∨ ∃ g o, p = some ⟨g, o, none⟩ ∧ ∀ i (h : i < t.length), w.cell? ⟨g, o + i, none⟩ = some (.int .u8 t[i].toNat))
theorem bs_nil (w : World) : Bs w (.slice none 0 0) [] := ⟨none, 0, rfl, Nat.le_refl _, by unfold maxLen; omega, fun _ => rfl, .inl rfl⟩
theorem Bs.on {w w' : World} {v : Value} {t : List UInt8} (h : Bs w v t) (hb : Below w.heap.size w w') : Bs w' v t := by
  obtain ⟨p, cap, rfl, h1, h2, h3, h4⟩ := h
  refine ⟨p, cap, rfl, h1, h2, h3, ?_⟩
  rcases h4 with h4 | ⟨g, o, rfl, hc⟩
  · exact .inl h4
  · exact .inr ⟨g, o, rfl, fun i hi => some_on hb (hc i hi)⟩
/-- Bytes of one's own. -/
theorem Bts.bs {w : World} {base : Nat} {v : Value} {t : List UInt8} (h : Bts w base v t) : Bs w v t := by
  unfold Bts at h
  rcases h.2 with ⟨rfl, h0⟩ | ⟨g, cap, cur, rfl, hbg, hg, hnc, hcm, hcs, htake⟩
  · have : t = [] := List.eq_nil_of_length_eq_zero h0
    subst this
    exact bs_nil w
  · refine ⟨_, cap, rfl, hnc, hcm, fun e => (by cases e), .inr ⟨g, 0, rfl, fun i hi => ?_⟩⟩
    rw [Nat.zero_add, h.cellAt i (by omega)]
    simp [hi]
theorem Bs.len {w : World} {v : Value} {t : List UInt8} (h : Bs w v t) : t.length ≤ maxLen := by
  obtain ⟨p, cap, rfl, h1, h2, -⟩ := h
  omega
/-- The first n of them. -/
theorem Bs.take {w : World} {p : Option Addr} {t : List UInt8} {cap n : Nat} (h : Bs w (.slice p t.length cap) t) (hn : n ≤ t.length) : Bs w (.slice p n cap) (t.take n) := by
  obtain ⟨p', cap', e, h1, h2, h3, h4⟩ := h
  injection e with e1 e2 e3
  subst e1 e3
  have hl : (t.take n).length = n := by simp; omega
  refine ⟨p, cap, by rw [hl], by omega, h2, h3, ?_⟩
  rcases h4 with rfl | ⟨g, o, rfl, hc⟩
  · exact .inl (by simp)
  · exact .inr ⟨g, o, rfl, fun i hi => by rw [hl] at hi; rw [List.getElem_take]; exact hc i (by omega)⟩
/-- All but the first n. -/
theorem Bs.drop {w : World} {p : Option Addr} {t : List UInt8} {cap n : Nat} (h : Bs w (.slice p t.length cap) t) (hn : n ≤ t.length) : Bs w (.slice (if cap = n then p else p.map (·.add n)) (t.length - n) (cap - n)) (t.drop n) := by
  obtain ⟨p', cap', e, h1, h2, h3, h4⟩ := h
  injection e with e1 e2 e3
  subst e1 e3
  refine ⟨_, cap - n, by rw [List.length_drop], by rw [List.length_drop]; omega, by omega, fun e => ?_, ?_⟩
  · by_cases hcn : cap = n
    · omega
    · rw [if_neg hcn] at e
      have : p = none := by simpa using e
      have := h3 this
      omega
  · by_cases hd : t.length = n
    · exact .inl (List.drop_eq_nil_of_le (by omega))
    · rcases h4 with rfl | ⟨g, o, rfl, hc⟩
      · exact .inl (by simp)
      · refine .inr ⟨g, o + n, by rw [if_neg (by omega)]; simp [go_sem], fun i hi => ?_⟩
        rw [List.length_drop] at hi
        rw [List.getElem_drop, Nat.add_assoc]
        exact hc (n + i) (by omega)

/-- As a string. -/
theorem Bs.str {w : World} {v : Value} {t : List UInt8} (h : Bs w v t) : (convert 36 9 v).run Tryz.prog w = .ok (.string ⟨t.toArray⟩) w := by
  obtain ⟨p, cap, rfl, h1, h2, h3, h4⟩ := h
  rcases h4 with rfl | ⟨g, o, rfl, hc⟩
  · cases p with
    | none => exact run_convert_bytes_nil w 36 5 Tryz.underlying36 Tryz.underlying5 0 cap 9 Tryz.underlying9
    | some a => exact run_convert_bytes_back w 36 9 5 a cap [] Tryz.underlying36 Tryz.underlying5 Tryz.underlying9 fun j hj => absurd hj (Nat.not_lt_zero _)
  · refine run_convert_bytes_back w 36 9 5 ⟨g, o, none⟩ cap t Tryz.underlying36 Tryz.underlying5 Tryz.underlying9 fun j hj => ?_
    rw [Go.WideShapes.add_plain]; exact hc j hj

theorem arr_beq (t u : List UInt8) : ((⟨t.toArray⟩ : ByteArray).toList == (⟨u.toArray⟩ : ByteArray).toList) = (t == u) := by
  rw [Go.Lib.toList_data, Go.Lib.toList_data]
set_option maxHeartbeats 1000000 in
theorem equal14 (w : World) (a b : Value) (t u : List UInt8) (ha : Bs w a t) (hb : Bs w b u) :
    Calls Tryz.prog 14 #[a, b] w fun e w' => e = .returned (.bool (t == u)) ∧ w' = w := by
  have c1 := ha.str
  have c2 := hb.str
  rw [← arr_beq]
  generalize (⟨t.toArray⟩ : ByteArray) = s1 at *
  generalize (⟨u.toArray⟩ : ByteArray) = s2 at *
  obtain ⟨p, cap, rfl, -⟩ := ha
  obtain ⟨q, cap', rfl, -⟩ := hb
  go_enter Tryz.func14, Tryz.ntmps14
  go_wp2
  go_ret
  exact ⟨rfl, rfl⟩

theorem run_loadB {P : Program} (w : World) : ∀ (l : List UInt8) (a : Addr) (acc : ByteArray), (∀ j (h : j < l.length), w.cell? (a.add j) = some (.int .u8 l[j].toNat)) →
    (Extern.Bytes.loadBytes a l.length acc).run P w = .ok ⟨acc.data ++ l.toArray⟩ w
  | [], a, acc, _ => by simp [Extern.Bytes.loadBytes]
  | x :: l, a, acc, h => by
    have h0 : w.cell? a = some (.int .u8 x.toNat) := by
      have := h 0 (by simp)
      simpa [Addr.add] using this
    have ih := run_loadB (P := P) w l (a.add 1) (acc.push x) (fun j hj => by
      have := h (j + 1) (by simpa using hj)
      have e : (a.add 1).add j = a.add (j + 1) := by
        unfold Addr.add
        by_cases hj : j = 0
        · subst hj; simp
        · simp [hj]; omega
      rw [e]; simpa using this)
    have hx : ((x.toNat : Int).toNat).toUInt8 = x := by simp
    simp only [List.length_cons, Extern.Bytes.loadBytes, Sem.run_bind, run_load, h0, Result.andThen, hx]
    rw [ih]
    congr 2
    simp [ByteArray.push]
theorem Bs.bytesOf {P : Program} {w : World} {v : Value} {t : List UInt8} (h : Bs w v t) : (Extern.Bytes.bytesOf v).run P w = .ok ⟨t.toArray⟩ w := by
  obtain ⟨p, cap, rfl, h1, h2, h3, h4⟩ := h
  rcases h4 with rfl | ⟨g, o, rfl, hc⟩
  · cases p with
    | none => rfl
    | some a => rfl
  · have := run_loadB (P := P) w t ⟨g, o, none⟩ .empty fun j hj => by rw [Go.WideShapes.add_plain]; exact hc j hj
    show (Extern.Bytes.loadBytes ⟨g, o, none⟩ t.length .empty).run P w = _
    rw [this]
    congr 2
    simp
theorem run_compareBytes {P : Program} {w : World} {a b : Value} {t u : List UInt8} (ha : Bs w a t) (hb : Bs w b u) :
    (Extern.BytealgCompare.compare #[a, b]).run P w = .ok (.int .i64 (Lib.compareBytes t u)) w := by
  change Sem.run P (do pure (goInt (Extern.BytealgCompare.cmp (← Extern.Bytes.bytesOf a) (← Extern.Bytes.bytesOf b)))) w = _
  simp only [Sem.run_bind, ha.bytesOf, hb.bytesOf, Sem.run_pure, Result.andThen]
  rw [Lib.cmp_eq]
  rfl
/-- b begins with a. -/
def begins (b a : List UInt8) : Bool := decide (a.length ≤ b.length) && (b.take a.length == a)
set_option maxHeartbeats 1000000 in
theorem hasPrefix37 (w : World) (a b : Value) (t u : List UInt8) (ha : Bs w a t) (hb : Bs w b u) :
    Calls Tryz.prog 37 #[a, b] w fun e w' => e = .returned (.bool (begins t u)) ∧ w' = w := by
  have l1 := ha.len
  have l2 := hb.len
  unfold maxLen at l1 l2
  have ha0 := ha
  have hb0 := hb
  obtain ⟨p, cap, rfl, h1, -, -, -⟩ := ha
  obtain ⟨q, cap', rfl, h2, -, -, -⟩ := hb
  by_cases hle : u.length ≤ t.length
  · have c11 := equal14 w _ _ _ _ (ha0.take hle) hb0
    have hB : begins t u = (t.take u.length == u) := by unfold begins; rw [decide_eq_true hle, Bool.true_and]
    rw [hB]
    generalize (t.take u.length == u) = bb at *
    clear ha0 hb0
    go_enter Tryz.func37, Tryz.ntmps37
    go_wp2_with (go_at_call 14; refine c11.mono ?_; rintro e w' ⟨rfl, rfl⟩)
    go_ret
    exact ⟨rfl, rfl⟩
  · have hB : begins t u = false := by unfold begins; rw [decide_eq_false hle, Bool.false_and]
    rw [hB]
    clear ha0 hb0
    go_enter Tryz.func37, Tryz.ntmps37
    go_wp2
    go_ret
    exact ⟨rfl, rfl⟩
end Go.Proofs.YtbgikgeknnmelaaGreat
