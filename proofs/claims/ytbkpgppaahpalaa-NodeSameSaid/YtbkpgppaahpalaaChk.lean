/-
  Which nodes may be: Check of package node.
-/
import Derived.Test.YtbkpgppaahpalaaNod
import Derived.Lib.Bytealg
namespace Go.Proofs.Ytbkpgppaahpalaa
open Go.RowKit
set_option linter.unusedVariables false      -- a walk need not use every condition

theorem run_loadB {P : Program} (w : World) : ∀ (l : List UInt8) (a : Addr) (acc : ByteArray), (∀ j (h : j < l.length), w.cell? (a.add j) = some (.int .u8 l[j].toNat)) →
    (Extern.Bytes.loadBytes a l.length acc).run P w = .ok ⟨acc.data ++ l.toArray⟩ w
  | [], a, acc, _ => by simp [Extern.Bytes.loadBytes]
  | x :: l, a, acc, h => by
    have h0 : w.cell? a = some (.int .u8 x.toNat) := by
      have := h 0 (by simp)
      simpa [Addr.add] using this
    have ih := run_loadB (P := P) w l (a.add 1) (acc.push x) (fun j hj => by
      have := h (j + 1) (by simpa using hj)
      have e : (a.add 1).add j = a.add (j + 1) := by
        unfold Addr.add
        by_cases hj : j = 0
        · subst hj; simp
        · simp [hj]; omega
      rw [e]; simpa using this)
    have hx : ((x.toNat : Int).toNat).toUInt8 = x := by simp
    simp only [List.length_cons, Extern.Bytes.loadBytes, Sem.run_bind, run_load, h0, Result.andThen, hx]
    rw [ih]
    congr 2
    simp [ByteArray.push]
theorem Bs.bytesOf {P : Program} {w : World} {v : Value} {t : List UInt8} (h : Bs w v t) : (Extern.Bytes.bytesOf v).run P w = .ok ⟨t.toArray⟩ w := by
  obtain ⟨p, cap, rfl, h1, h2, h3, h4⟩ := h
  rcases h4 with rfl | ⟨g, o, rfl, hc⟩
  · cases p with
    | none => rfl
    | some a => rfl
  · have := run_loadB (P := P) w t ⟨g, o, none⟩ .empty fun j hj => by rw [Go.WideShapes.add_plain]; exact hc j _ (enc_get hj)
    show (Extern.Bytes.loadBytes ⟨g, o, none⟩ t.length .empty).run P w = _
    rw [this]
    congr 2
    simp
theorem run_compareBytes {P : Program} {w : World} {a b : Value} {t u : List UInt8} (ha : Bs w a t) (hb : Bs w b u) :
    (Extern.BytealgCompare.compare #[a, b]).run P w = .ok (.int .i64 (Lib.compareBytes t u)) w := by
  change Sem.run P (do pure (goInt (Extern.BytealgCompare.cmp (← Extern.Bytes.bytesOf a) (← Extern.Bytes.bytesOf b)))) w = _
  simp only [Sem.run_bind, ha.bytesOf, hb.bytesOf, Sem.run_pure, Result.andThen]
  rw [Lib.cmp_eq]
  rfl
set_option maxRecDepth 100000 in
theorem compare71 (w : World) (a b : Value) (t u : List UInt8) (ha : Bs w a t) (hb : Bs w b u) :
    Calls Try.prog 71 #[a, b] w fun e w' => e = .returned (.int .i64 (Lib.compareBytes t u)) ∧ w' = w := by
  have c := run_compareBytes (P := Try.prog) ha hb
  obtain ⟨p, cap, rfl, -⟩ := ha
  obtain ⟨q, cap', rfl, -⟩ := hb
  go_enter Try.func71, Try.ntmps71
  go_wp2
  rw [run_callFunc_extern Try.func92 (by kernel_rfl) (by kernel_rfl) (by kernel_rfl) (e := Extern.BytealgCompare.compare) (by kernel_rfl), c]
  simp only [Result.andThen]
  rw [Oper.upon_value]
  go_wp2
  go_ret
  exact ⟨rfl, rfl⟩

/-- key may be, and behind last. -/
def fol (last key : List UInt8) : Bool := decide (1 ≤ key.length) && decide (key.length ≤ 96) && decide (Lib.compareBytes last key < 0)
def pageOk (x : Int) : Bool := decide (1 ≤ x) && decide (x < 2048)
def valOk (c : C) : Bool := if c.over = 0 then decide (c.val.length ≤ 64) && decide (c.len = 0) else pageOk c.over && decide (c.val.length = 0) && decide (64 < c.len) && decide (c.len ≤ 1099511627776)
def mayC : List UInt8 → List C → Bool
  | _, [] => true
  | l, c :: r => fol l c.key && valOk c && mayC c.key r
def mayK : List UInt8 → List (List UInt8) → Bool
  | _, [] => true
  | l, c :: r => fol l c && mayK c r
def leafOk (n : Nd) : Bool := n.keys.isEmpty && n.kids.isEmpty && mayC [] n.cells
def innerOk (n : Nd) : Bool := n.cells.isEmpty && decide (n.kids.length = n.keys.length + 1) && mayK [] n.keys && n.kids.all pageOk
def may (n : Nd) : Bool := if n.leaf then leafOk n else innerOk n

set_option maxHeartbeats 1000000 in
theorem follows78 (w : World) (a b : Value) (t u : List UInt8) (ha : Bs w a t) (hb : Bs w b u) :
    Calls Try.prog 78 #[a, b] w fun e w' => e = .returned (.bool (fol t u)) ∧ w' = w := by
  have c := compare71 w a b t u ha hb
  obtain ⟨p, cap, rfl, -⟩ := ha
  obtain ⟨q, cap', rfl, -⟩ := hb
  unfold fol
  generalize Lib.compareBytes t u = k at *
  by_cases h1 : 1 ≤ u.length
  · by_cases h2 : u.length ≤ 96
    · have e1 : (1 : Int) ≤ (u.length : Int) := by omega
      have e2 : (u.length : Int) ≤ 96 := by omega
      rw [decide_eq_true h1, decide_eq_true h2, Bool.true_and, Bool.true_and]
      go_enter Try.func78, Try.ntmps78
      go_wp2_with (go_at_call 71; refine c.mono ?_; rintro e w' ⟨rfl, rfl⟩)
      go_ret
      exact ⟨rfl, rfl⟩
    · have e1 : (1 : Int) ≤ (u.length : Int) := by omega
      have e2 : ¬ (u.length : Int) ≤ 96 := by omega
      rw [decide_eq_true h1, decide_eq_false h2, Bool.true_and, Bool.false_and]
      go_enter Try.func78, Try.ntmps78
      go_wp2
      go_ret
      exact ⟨rfl, rfl⟩
  · have e1 : ¬ (1 : Int) ≤ (u.length : Int) := by omega
    rw [decide_eq_false h1, Bool.false_and, Bool.false_and]
    go_enter Try.func78, Try.ntmps78
    go_wp2
    go_ret
    exact ⟨rfl, rfl⟩
theorem pageMay82 (w : World) (x : Int) : Calls Try.prog 82 #[.int .i64 x] w fun e w' => e = .returned (.bool (pageOk x)) ∧ w' = w := by
  unfold pageOk
  by_cases h1 : 1 ≤ x
  · rw [decide_eq_true h1, Bool.true_and]
    go_enter Try.func82, Try.ntmps82
    go_wp2
    go_ret
    exact ⟨rfl, rfl⟩
  · rw [decide_eq_false h1, Bool.false_and]
    go_enter Try.func82, Try.ntmps82
    go_wp2
    go_ret
    exact ⟨rfl, rfl⟩
end Go.Proofs.Ytbkpgppaahpalaa
