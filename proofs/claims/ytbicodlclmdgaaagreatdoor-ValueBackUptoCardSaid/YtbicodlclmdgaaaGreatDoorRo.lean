/-
  The reader of package value, open or not, and whatever is wrong: its small methods.
-/
import Derived.Test.YtbicodlclmdgaaaGreatDoorRdr
import Derived.Test.YtbicodlclmdgaaaGreatDoorBackM
namespace Go.Proofs.YtbicodlclmdgaaaGreatDoor
open Go.RowKit
set_option linter.unusedVariables false      -- a walk need not use every condition

theorem gl5 : Tryz.prog.globalNamed "strconv.ErrRange" = some 5 := by kernel_rfl
/-- The variable strconv.ErrRange holds an error, and is not the reader's. -/
def Er (w : World) (r : Nat) : Prop := 5 < r ∧ ∃ tp p, w.var? Tryz.prog "strconv.ErrRange" = some #[.iface tp p]
theorem Er.lt {w : World} {r : Nat} (h : Er w r) : 5 < w.heap.size := by
  obtain ⟨-, tp, p, h⟩ := h
  unfold World.var? at h
  rw [gl5] at h
  by_cases hb : 5 < w.heap.size
  · exact hb
  · simp only [Option.bind_some] at h
    rw [Array.getElem?_eq_none (by omega)] at h
    cases h
theorem Er.on {w w' : World} {r : Nat} (h : Er w r) (hb : w'.heap[5]? = w.heap[5]?) : Er w' r := by
  obtain ⟨h5, tp, p, h⟩ := h
  refine ⟨h5, tp, p, ?_⟩
  unfold World.var? at h ⊢
  rw [gl5] at h ⊢
  simp only [Option.bind_some] at h ⊢
  rw [hb]; exact h
/-- The reader's block r: its text, where it is, whether it is open, the keys that are being read. -/
def Ro (w : World) (r : Nat) (T : ByteArray) (p : Nat) (o : Bool) (k : Nat) : Prop := w.heap[r]? = some (.cells #[.string T, .int .i64 p, .bool o, .int .i64 k] 89) ∧ Er w r
theorem Ro.cells {w : World} {r : Nat} {T : ByteArray} {p : Nat} {o : Bool} {k : Nat} (h : Ro w r T p o k) : w.cell? ⟨r, 0, none⟩ = some (.string T) ∧ w.cell? ⟨r, 1, none⟩ = some (.int .i64 p) ∧ w.cell? ⟨r, 2, none⟩ = some (.bool o) ∧ w.cell? ⟨r, 3, none⟩ = some (.int .i64 k) ∧ ∀ i, w.frozen? ⟨r, i, none⟩ = false := by
  have h := h.1
  refine ⟨?_, ?_, ?_, ?_, fun i => ?_⟩ <;> simp [World.cell?, World.frozen?, h]
theorem Ro.lt {w : World} {r : Nat} {T : ByteArray} {p : Nat} {o : Bool} {k : Nat} (h : Ro w r T p o k) : r < w.heap.size := (Array.getElem?_eq_some_iff.1 h.1).1
theorem Ro.setAt {w : World} {r : Nat} {T : ByteArray} {p : Nat} {o : Bool} {k : Nat} (h : Ro w r T p o k) (q : Nat) : Ro (w.setCell ⟨r, 1, none⟩ (.int .i64 q)) r T q o k := by
  refine ⟨?_, h.2.on ((gr_set w r 1 _).block 5 h.2.lt (fun e => by injection e with e; have := h.2.1; omega))⟩
  have h := h.1
  simp [World.setCell, Array.getElem?_modify, h]
theorem Ro.setKeys {w : World} {r : Nat} {T : ByteArray} {p : Nat} {o : Bool} {k : Nat} (h : Ro w r T p o k) (q : Nat) : Ro (w.setCell ⟨r, 3, none⟩ (.int .i64 q)) r T p o q := by
  refine ⟨?_, h.2.on ((gr_set w r 3 _).block 5 h.2.lt (fun e => by injection e with e; have := h.2.1; omega))⟩
  have h := h.1
  simp [World.setCell, Array.getElem?_modify, h]
theorem Ro.alloc {w : World} {r : Nat} {T : ByteArray} {p : Nat} {o : Bool} {k : Nat} (h : Ro w r T p o k) (ob : Obj) : Ro (w.alloc ob) r T p o k := ⟨(Below.heap_alloc w ob r h.lt).trans h.1, h.2.on (Below.heap_alloc w ob 5 h.2.lt)⟩
theorem Ro.grown {w w' : World} {r : Nat} {T : ByteArray} {p : Nat} {o : Bool} {k : Nat} (h : Ro w r T p o k) {row : Option Nat} (hg : w.grownBy w' row) (hr : some r ≠ row) (h5 : some 5 ≠ row) : Ro w' r T p o k := ⟨(hg.block r h.lt hr).trans h.1, h.2.on (hg.block 5 h.2.lt h5)⟩
/-- Nothing but the reader has turned, and it stands there. -/
def Rq (r : Nat) (T : ByteArray) (p : Nat) (o : Bool) (k : Nat) (w w' : World) : Prop := w.grownBy w' (some r) ∧ Ro w' r T p o k
theorem Rq.refl {w : World} {r : Nat} {T : ByteArray} {p : Nat} {o : Bool} {k : Nat} (h : Ro w r T p o k) : Rq r T p o k w w := ⟨World.grownBy.refl w _, h⟩
theorem Rq.drew {w : World} {r : Nat} {T : ByteArray} {p : Nat} {o : Bool} {k : Nat} (h : Ro w r T p o k) : Rq r T p o k w w.drew := ⟨⟨rfl, rfl, rfl, Nat.le_refl _, fun _ _ _ => rfl⟩, h⟩
theorem Rq.trans {a b c : World} {r : Nat} {T : ByteArray} {p : Nat} {o : Bool} {k p' k' : Nat} (h : Rq r T p o k a b) (h' : Rq r T p' o k' b c) : Rq r T p' o k' a c := ⟨h.1.trans h'.1, h'.2⟩
theorem Rq.keep {w w' : World} {r : Nat} {T : ByteArray} {p : Nat} {o : Bool} {k : Nat} (h : Rq r T p o k w w') : Keep (r + 1) w w' := fun a v ha hc => h.1.cell hc (by intro e; injection e with e; omega)
theorem Rq.step {w w1 : World} {r : Nat} {T : ByteArray} {q : Nat} {o : Bool} {k : Nat} (h : Rq r T q o k w w1) : Rq r T (q + 1) o k w (w1.setCell ⟨r, 1, none⟩ (.int .i64 ((q : Int) + 1))) := h.trans ⟨gr_set w1 r 1 _, h.2.setAt (q + 1)⟩
theorem Rq.dr {w w1 : World} {r : Nat} {T : ByteArray} {q : Nat} {o : Bool} {k : Nat} (h : Rq r T q o k w w1) : Rq r T q o k w w1.drew := h.trans (Rq.drew h.2)
theorem Rq.keys {w w1 : World} {r : Nat} {T : ByteArray} {q : Nat} {o : Bool} {k : Nat} (h : Rq r T q o k w w1) (k' : Nat) : Rq r T q o k' w (w1.setCell ⟨r, 3, none⟩ (.int .i64 k')) := h.trans ⟨gr_set w1 r 3 _, h.2.setKeys k'⟩
theorem Rq.low {w w' : World} {r : Nat} {T : ByteArray} {p : Nat} {o : Bool} {k : Nat} {ob : Obj} (h : Rq r T p o k (w.alloc ob) w') : Rq r T p o k w w' := ⟨(World.grownBy_alloc w ob (some r)).trans h.1, h.2⟩
theorem Rq.far {w w' w'' : World} {r : Nat} {T : ByteArray} {p : Nat} {o : Bool} {k : Nat} (h : Rq r T p o k w w') {row : Option Nat} (hg : w'.grownBy w'' row) (hr : r < w.heap.size) (hrow : ∀ j, row = some j → w.heap.size ≤ j) : Rq r T p o k w w'' :=
  ⟨h.1.andThen hg fun j hj => .inl (hrow j hj), h.2.grown hg (fun e => by have := hrow r e.symm; omega) (fun e => by have := hrow 5 e.symm; have := h.2.2.1; omega)⟩
theorem Rq.bel {w w' w'' : World} {r : Nat} {T : ByteArray} {p : Nat} {o : Bool} {k : Nat} (h : Rq r T p o k w w') (hb : Below w'.heap.size w' w'') : Rq r T p o k w w'' :=
  ⟨h.1.trans (gr_bel hb (some r)), (hb.block r h.2.lt).trans h.2.1, h.2.2.on (hb.block 5 h.2.2.lt)⟩

/-- It was given up, at a place of the text, and nothing but the reader has turned. -/
def Fails (r : Nat) (T : ByteArray) (w : World) (e : Ending) (w' : World) : Prop := ∃ q, q ≤ T.size ∧ e = .panicked [{ v := .iface 85 (.int .i64 q), recovered := false }] ∧ w.grownBy w' (some r)
theorem Fails.after {r : Nat} {T : ByteArray} {p : Nat} {o : Bool} {k : Nat} {w w1 w' : World} {e : Ending} (h : Rq r T p o k w w1) (hf : Fails r T w1 e w') : Fails r T w e w' := by
  obtain ⟨q, h1, h2, h3⟩ := hf
  exact ⟨q, h1, h2, h.1.trans h3⟩

/-- What stands from p on. -/
def rest (T : ByteArray) (p : Nat) : List UInt8 := T.data.toList.drop p
theorem rest_cons {T : ByteArray} {p : Nat} (h : p < T.size) : rest T p = T[p] :: rest T (p + 1) := by
  unfold rest
  rw [List.drop_eq_getElem_cons (by simpa using h)]; rfl
theorem rest_nil {T : ByteArray} {p : Nat} (h : p = T.size) : rest T p = [] := by
  unfold rest
  rw [List.drop_eq_nil_iff]; simp; omega

set_option maxHeartbeats 1000000 in
theorem giveUp81 (w : World) (r : Nat) (T : ByteArray) (p : Nat) (o : Bool) (k : Nat) (h : Ro w r T p o k) (hp : p ≤ T.size) :
    Calls Tryz.prog 81 #[.pointer (some ⟨r, 0, none⟩)] w fun e w' => Fails r T w e w' := by
  have hr := Rq.refl h
  obtain ⟨c0, c1, c2, c3, cf⟩ := h.cells
  go_enter Tryz.func81, Tryz.ntmps81
  go_wp2
  exact ⟨rfl, p, hp, rfl, hr.1⟩
set_option maxHeartbeats 1000000 in
theorem ended80_no (w : World) (r : Nat) (T : ByteArray) (p : Nat) (o : Bool) (k : Nat) (h : Ro w r T p o k) (hp : p < T.size) :
    Calls Tryz.prog 80 #[.pointer (some ⟨r, 0, none⟩)] w fun e w' => e = .returned (.bool false) ∧ Rq r T p o k w w' := by
  have hr := Rq.drew h
  obtain ⟨c0, c1, c2, c3, cf⟩ := h.cells
  have hn : ((p : Int) == (T.size : Int)) = false := by simp; omega
  go_enter Tryz.func80, Tryz.ntmps80
  go_wp2
  go_region
  go_wp2
  go_ret
  exact ⟨rfl, hr⟩
set_option maxHeartbeats 1000000 in
theorem ended80_yes (w : World) (r : Nat) (T : ByteArray) (p : Nat) (o : Bool) (k : Nat) (h : Ro w r T p o k) (hp : p = T.size) :
    Calls Tryz.prog 80 #[.pointer (some ⟨r, 0, none⟩)] w fun e w' => e = .returned (.bool true) ∧ Rq r T p o k w w' := by
  have hr := Rq.drew h
  obtain ⟨c0, c1, c2, c3, cf⟩ := h.cells
  have hn : ((p : Int) == (T.size : Int)) = true := by simp; omega
  go_enter Tryz.func80, Tryz.ntmps80
  go_wp2
  go_region
  go_wp2
  go_ret
  exact ⟨rfl, hr⟩
set_option maxHeartbeats 1000000 in
theorem cut96_no (w : World) (r : Nat) (T : ByteArray) (p : Nat) (o : Bool) (k : Nat) (h : Ro w r T p o k) (hp : p < T.size) :
    Calls Tryz.prog 96 #[.pointer (some ⟨r, 0, none⟩)] w fun e w' => e = .returned (.bool false) ∧ Rq r T p o k w w' := by
  go_enter Tryz.func96, Tryz.ntmps96
  go_wp2_with (first
    | (go_at_call 80; refine (ended80_no _ r T p o k h hp).mono ?_; rintro e w1 ⟨rfl, h1⟩)
    | (go_at_call 80; refine (ended80_no _ r T p o k h1.2 hp).mono ?_; rintro e w2 ⟨rfl, h2⟩))
  go_ret
  exact ⟨rfl, h1.trans h2⟩
set_option maxHeartbeats 1000000 in
theorem cut96_open (w : World) (r : Nat) (T : ByteArray) (p : Nat) (k : Nat) (h : Ro w r T p true k) (hp : p = T.size) :
    Calls Tryz.prog 96 #[.pointer (some ⟨r, 0, none⟩)] w fun e w' => e = .returned (.bool true) ∧ Rq r T p true k w w' := by
  go_enter Tryz.func96, Tryz.ntmps96
  go_wp2_with (first
    | (go_at_call 80; refine (ended80_yes _ r T p true k h hp).mono ?_; rintro e w1 ⟨rfl, h1⟩; obtain ⟨c0, c1, c2, c3, cf⟩ := h1.2.cells)
    | (go_at_call 80; refine (ended80_yes _ r T p true k h1.2 hp).mono ?_; rintro e w2 ⟨rfl, h2⟩))
  go_ret
  exact ⟨rfl, h1.trans h2⟩
set_option maxHeartbeats 1000000 in
theorem cut96_shut (w : World) (r : Nat) (T : ByteArray) (p : Nat) (k : Nat) (h : Ro w r T p false k) (hp : p = T.size) :
    Calls Tryz.prog 96 #[.pointer (some ⟨r, 0, none⟩)] w fun e w' => Fails r T w e w' := by
  go_enter Tryz.func96, Tryz.ntmps96
  go_wp2_with (first
    | (go_at_call 80; refine (ended80_yes _ r T p false k h hp).mono ?_; rintro e w1 ⟨rfl, h1⟩; obtain ⟨c0, c1, c2, c3, cf⟩ := h1.2.cells)
    | (go_at_call 81; refine (giveUp81 _ r T p false k h1.2 (by omega)).mono ?_; rintro e w2 ⟨q, hq, rfl, hg⟩))
  exact ⟨rfl, q, hq, rfl, h1.1.trans hg⟩
/-- cut, at the text's end: an open one goes on, another is given up. -/
theorem cut96_end (w : World) (r : Nat) (T : ByteArray) (p : Nat) (o : Bool) (k : Nat) (h : Ro w r T p o k) (hp : p = T.size) :
    Calls Tryz.prog 96 #[.pointer (some ⟨r, 0, none⟩)] w fun e w' => (o = true ∧ e = .returned (.bool true) ∧ Rq r T p o k w w') ∨ (o = false ∧ Fails r T w e w') := by
  cases o with
  | true => exact (cut96_open w r T p k h hp).mono fun e w' h => .inl ⟨rfl, h⟩
  | false => exact (cut96_shut w r T p k h hp).mono fun e w' h => .inr ⟨rfl, h⟩
end Go.Proofs.YtbicodlclmdgaaaGreatDoor
