/-
  The document's at: where an element's place is.
  The document's Label and Props: what they tell of an element.
-/
import Derived.Test.YteknbploiombiaaZWoWoa
import Derived.Test.YteknbploiombiaaZSepClsCgs
import Derived.Test.YteknbploiombiaaZRvxRch
namespace Go.Proofs.Yteknbploiombiaa
open Go.RowKit
set_option linter.unusedVariables false      -- a walk need not use every condition

/-- What at tells of vertices and of edges. -/
def AtV (vs : List Vx) (id : Int) (e : Ending) : Prop := (∃ (i : Nat) (hi : i < vs.length), vs[i].id = id ∧ (∀ t (ht : t < vs.length), t < i → vs[t].id ≠ id) ∧ e = .returned (.tuple #[.int .i64 (i : Int), .int .i64 (-1)])) ∨ ((∀ t (ht : t < vs.length), vs[t].id ≠ id) ∧ e = .returned (.tuple #[.int .i64 (-1), .int .i64 (-1)]))
def AtE (es : List Lk) (id : Int) (e : Ending) : Prop := (∃ (i : Nat) (hi : i < es.length), es[i].id = id ∧ (∀ t (ht : t < es.length), t < i → es[t].id ≠ id) ∧ e = .returned (.tuple #[.int .i64 (-1), .int .i64 (i : Int)])) ∨ ((∀ t (ht : t < es.length), es[t].id ≠ id) ∧ e = .returned (.tuple #[.int .i64 (-1), .int .i64 (-1)]))
set_option maxRecDepth 100000 in
set_option maxHeartbeats 4000000 in
theorem at86v (g : Gg) (sv se : Value) (id : Int) (s : ByteArray) (q : Option Addr) (m d : Nat) (w : World) (hg : Gg.In w 0 g sv se) :
    Calls Try.prog 86 #[g.agg sv se, .agg #[.int .i64 6, .int .i64 id, .string s, .slice q m d]] w fun e w' => Below w.heap.size w w' ∧
      AtV g.vs id e := by
  obtain ⟨-, hV, hE⟩ := hg
  obtain ⟨pv, cv, rfl, hvc, hvm, -, hx⟩ := hV
  obtain ⟨pe, ce, rfl, hec, hem, -, hy⟩ := hE
  unfold maxLen at hvm hem
  have hx := Lib.hid hx
  have hy := Lib.hid hy
  unfold Gg.agg
  obtain ⟨top, htop⟩ : ∃ t, g.last = t := ⟨_, rfl⟩
  rw [htop]
  obtain ⟨vs, hvs⟩ : ∃ vs, g.vs = vs := ⟨_, rfl⟩
  obtain ⟨es, hes⟩ : ∃ es, g.es = es := ⟨_, rfl⟩
  rw [hvs] at hx hvc ⊢
  rw [hes] at hy hec ⊢
  obtain ⟨N, hN⟩ : ∃ n, vs.length = n := ⟨_, rfl⟩
  obtain ⟨M, hM⟩ : ∃ n, es.length = n := ⟨_, rfl⟩
  rw [hN] at hvc ⊢
  rw [hM] at hec ⊢
  have hlen := Lib.hid hN
  have hlem := Lib.hid hM
  clear hN hM htop hvs hes
  have mixed : Try.prog.follows .mixedOrders = true := by kernel_rfl
  have hBa := Lib.hid (bel2 w (Obj.cells #[.slice pv N cv, .slice pe M ce, .int .i64 top] 27) (Obj.cells #[.int .i64 6, .int .i64 id, .string s, .slice q m d] 30))
  have hg0 := Lib.hid (blk_on (bel1 (w.alloc (Obj.cells #[.slice pv N cv, .slice pe M ce, .int .i64 top] 27)) (Obj.cells #[.int .i64 6, .int .i64 id, .string s, .slice q m d] 30)) (World.alloc_heap_new w (Obj.cells #[.slice pv N cv, .slice pe M ce, .int .i64 top] 27)))
  have ha0 := World.alloc_heap_new (w.alloc (Obj.cells #[.slice pv N cv, .slice pe M ce, .int .i64 top] 27)) (Obj.cells #[.int .i64 6, .int .i64 id, .string s, .slice q m d] 30)
  rw [show (w.alloc (Obj.cells #[.slice pv N cv, .slice pe M ce, .int .i64 top] 27)).heap.size = w.heap.size + 1 by simp] at ha0
  have ha0 := Lib.hid ha0
  go_enter Try.func86, Try.ntmps86
  go_wp2
  generalize ((w.alloc (Obj.cells #[.slice pv N cv, .slice pe M ce, .int .i64 top] 27)).alloc (Obj.cells #[.int .i64 6, .int .i64 id, .string s, .slice q m d] 30)) = W at *
  go_loopg [6] N (fun c s6 wr => ∃ (i : Nat), i + c = N ∧ s6 = .int .i64 i ∧ Hid (Below W.heap.size W wr) ∧ Hid (∀ t (ht : t < vs.length), t < i → vs[t].id ≠ id))
  case atStart => exact ⟨0, by omega, rfl, Below.refl _ _, fun t _ h => absurd h (Nat.not_lt_zero _)⟩
  case round =>
    obtain ⟨i, hig, rfl, hB, hall⟩ := hrel
    have hg1 := Lib.hid (blk_on hB.out hg0.out)
    have ha1 := Lib.hid (blk_on hB.out ha0.out)
    obtain ⟨q0, q1, q2, qf⟩ := three_of hg1.out
    obtain ⟨r0, r1, r2, r3⟩ := four_cells ha1.out
    have hBB := Lib.hid (bel_then hBa.out hB.out)
    cases gk with
    | succ c =>
      have hi : i < vs.length := by have := hlen.out; omega
      have hiz : (i : Int) < (N : Int) := by omega
      have hi0 : (0 : Int) ≤ (i : Int) := by omega
      obtain ⟨b, o, rfl, -, hxx⟩ := hx.out.resolve_left (by intro e; rw [e] at hi; simp at hi)
      obtain ⟨s1, hat, -⟩ := (hxx.on' hBB.out).at i hi
      obtain ⟨a0, a1, a2⟩ := ats3 hat
      simp only [show RV.n = 3 from rfl] at a0 a1 a2
      have hF : Hid (vs[i].id ≠ id → ∀ t (ht : t < vs.length), t < i + 1 → vs[t].id ≠ id) := fun h t ht hti => by
        by_cases e : t = i
        · subst e; exact h
        · exact hall.out t ht (by omega)
      have hY : Hid (vs[i].id = id → ∃ (i' : Nat) (hi : i' < vs.length), vs[i'].id = id ∧ (∀ t (ht : t < vs.length), t < i' → vs[t].id ≠ id) ∧ i' = i) := fun he => ⟨i, hi, he, hall.out, rfl⟩
      clear hat hxx
      generalize vs[i] = x at a0 hF hY
      by_cases he : x.id = id
      · have heb : (x.id == id) = true := by simpa using he
        have hY := Lib.hid (hY.out he)
        clear hF
        go_wp2
        go_region
        all_goals go_wp2
        all_goals go_ret2
        all_goals refine ⟨bel_then hBB.out ((Below.refl _ _).drew), .inl ?_⟩
        all_goals (obtain ⟨i', h1, h2, h3, rfl⟩ := hY.out; exact ⟨i', h1, h2, h3, rfl⟩)
      · have heb : (x.id == id) = false := by simpa using he
        have hr := Lib.hid (hF.out he)
        clear hY
        go_wp2
        go_region
        all_goals go_wp2
        all_goals (go_roundg c)
        case measure => omega
        case rel => exact ⟨i + 1, by omega, by first | rfl | simp, bel_then hB.out ((Below.refl _ _).drew), hr.out⟩
    | zero =>
      obtain rfl : i = N := by omega
      have hA : Hid (∀ t (ht : t < vs.length), vs[t].id ≠ id) := fun t ht => hall.out t ht (by have := hlen.out; omega)
      clear hall
      go_wp2
      go_loopg [7] 0 (fun c s7 wx => s7 = .int .i64 0 ∧ wx = wr)
      case atStart => exact ⟨rfl, rfl⟩
      case round =>
        obtain ⟨rfl, rfl⟩ := hrel
        go_wp2
        go_ret2
        exact ⟨hBB.out, .inr ⟨hA.out, rfl⟩⟩
set_option maxRecDepth 100000 in
set_option maxHeartbeats 4000000 in
theorem at86e (g : Gg) (sv se : Value) (id : Int) (s : ByteArray) (q : Option Addr) (m d : Nat) (w : World) (hg : Gg.In w 0 g sv se) :
    Calls Try.prog 86 #[g.agg sv se, .agg #[.int .i64 7, .int .i64 id, .string s, .slice q m d]] w fun e w' => Below w.heap.size w w' ∧
      AtE g.es id e := by
  obtain ⟨-, hV, hE⟩ := hg
  obtain ⟨pv, cv, rfl, hvc, hvm, -, hx⟩ := hV
  obtain ⟨pe, ce, rfl, hec, hem, -, hy⟩ := hE
  unfold maxLen at hvm hem
  have hx := Lib.hid hx
  have hy := Lib.hid hy
  unfold Gg.agg
  obtain ⟨top, htop⟩ : ∃ t, g.last = t := ⟨_, rfl⟩
  rw [htop]
  obtain ⟨vs, hvs⟩ : ∃ vs, g.vs = vs := ⟨_, rfl⟩
  obtain ⟨es, hes⟩ : ∃ es, g.es = es := ⟨_, rfl⟩
  rw [hvs] at hx hvc ⊢
  rw [hes] at hy hec ⊢
  obtain ⟨N, hN⟩ : ∃ n, vs.length = n := ⟨_, rfl⟩
  obtain ⟨M, hM⟩ : ∃ n, es.length = n := ⟨_, rfl⟩
  rw [hN] at hvc ⊢
  rw [hM] at hec ⊢
  have hlen := Lib.hid hN
  have hlem := Lib.hid hM
  clear hN hM htop hvs hes
  have mixed : Try.prog.follows .mixedOrders = true := by kernel_rfl
  have hBa := Lib.hid (bel2 w (Obj.cells #[.slice pv N cv, .slice pe M ce, .int .i64 top] 27) (Obj.cells #[.int .i64 7, .int .i64 id, .string s, .slice q m d] 30))
  have hg0 := Lib.hid (blk_on (bel1 (w.alloc (Obj.cells #[.slice pv N cv, .slice pe M ce, .int .i64 top] 27)) (Obj.cells #[.int .i64 7, .int .i64 id, .string s, .slice q m d] 30)) (World.alloc_heap_new w (Obj.cells #[.slice pv N cv, .slice pe M ce, .int .i64 top] 27)))
  have ha0 := World.alloc_heap_new (w.alloc (Obj.cells #[.slice pv N cv, .slice pe M ce, .int .i64 top] 27)) (Obj.cells #[.int .i64 7, .int .i64 id, .string s, .slice q m d] 30)
  rw [show (w.alloc (Obj.cells #[.slice pv N cv, .slice pe M ce, .int .i64 top] 27)).heap.size = w.heap.size + 1 by simp] at ha0
  have ha0 := Lib.hid ha0
  go_enter Try.func86, Try.ntmps86
  go_wp2
  generalize ((w.alloc (Obj.cells #[.slice pv N cv, .slice pe M ce, .int .i64 top] 27)).alloc (Obj.cells #[.int .i64 7, .int .i64 id, .string s, .slice q m d] 30)) = W at *
  go_loopg [6] 0 (fun c s6 wr => s6 = .int .i64 0 ∧ wr = W)
  case atStart => exact ⟨rfl, rfl⟩
  case round =>
    obtain ⟨rfl, ew⟩ := hrel
    subst ew
    rename World => wz
    obtain ⟨q0, q1, q2, qf⟩ := three_of hg0.out
    obtain ⟨r0, r1, r2, r3⟩ := four_cells ha0.out
    go_wp2
    go_loopg [7] M (fun c s7 wr => ∃ (i : Nat), i + c = M ∧ s7 = .int .i64 i ∧ Hid (Below wz.heap.size wz wr) ∧ Hid (∀ t (ht : t < es.length), t < i → es[t].id ≠ id))
    case atStart => exact ⟨0, by omega, rfl, Below.refl _ _, fun t _ h => absurd h (Nat.not_lt_zero _)⟩
    case round =>
      obtain ⟨i, hig, rfl, hB, hall⟩ := hrel
      have hg1 := Lib.hid (blk_on hB.out hg0.out)
      have ha1 := Lib.hid (blk_on hB.out ha0.out)
      obtain ⟨q0, q1, q2, qf⟩ := three_of hg1.out
      obtain ⟨r0, r1, r2, r3⟩ := four_cells ha1.out
      have hBB := Lib.hid (bel_then hBa.out hB.out)
      cases gk with
      | succ c =>
        have hi : i < es.length := by have := hlem.out; omega
        have hiz : (i : Int) < (M : Int) := by omega
        have hi0 : (0 : Int) ≤ (i : Int) := by omega
        obtain ⟨b, o, rfl, -, hxx⟩ := hy.out.resolve_left (by intro e; rw [e] at hi; simp at hi)
        obtain ⟨s1, hat, -⟩ := (hxx.on' hBB.out).at i hi
        obtain ⟨a0, a1, a2, a3, a4⟩ := ats5 hat
        simp only [show RL.n = 5 from rfl] at a0 a1 a2 a3 a4
        have hF : Hid (es[i].id ≠ id → ∀ t (ht : t < es.length), t < i + 1 → es[t].id ≠ id) := fun h t ht hti => by
          by_cases e : t = i
          · subst e; exact h
          · exact hall.out t ht (by omega)
        have hY : Hid (es[i].id = id → ∃ (i' : Nat) (hi : i' < es.length), es[i'].id = id ∧ (∀ t (ht : t < es.length), t < i' → es[t].id ≠ id) ∧ i' = i) := fun he => ⟨i, hi, he, hall.out, rfl⟩
        clear hat hxx
        generalize es[i] = x at a0 hF hY
        by_cases he : x.id = id
        · have heb : (x.id == id) = true := by simpa using he
          have hY := Lib.hid (hY.out he)
          clear hF
          go_wp2
          go_region
          all_goals go_wp2
          all_goals go_ret2
          all_goals refine ⟨bel_then hBB.out ((Below.refl _ _).drew), .inl ?_⟩
          all_goals (obtain ⟨i', h1, h2, h3, rfl⟩ := hY.out; exact ⟨i', h1, h2, h3, rfl⟩)
        · have heb : (x.id == id) = false := by simpa using he
          have hr := Lib.hid (hF.out he)
          clear hY
          go_wp2
          go_region
          all_goals go_wp2
          all_goals (go_roundg c)
          case measure => omega
          case rel => exact ⟨i + 1, by omega, by first | rfl | simp, bel_then hB.out ((Below.refl _ _).drew), hr.out⟩
      | zero =>
        obtain rfl : i = M := by omega
        have hA : Hid (∀ t (ht : t < es.length), es[t].id ≠ id) := fun t ht => hall.out t ht (by have := hlem.out; omega)
        clear hall
        go_wp2
        go_ret2
        exact ⟨hBB.out, .inr ⟨hA.out, rfl⟩⟩
set_option maxRecDepth 100000 in
set_option maxHeartbeats 4000000 in
theorem at86o (g : Gg) (sv se : Value) (k id : Int) (s : ByteArray) (q : Option Addr) (m d : Nat) (w : World) (hg : Gg.In w 0 g sv se) (hk6 : k ≠ 6) (hk7 : k ≠ 7) :
    Calls Try.prog 86 #[g.agg sv se, .agg #[.int .i64 k, .int .i64 id, .string s, .slice q m d]] w fun e w' => Below w.heap.size w w' ∧
      e = .returned (.tuple #[.int .i64 (-1), .int .i64 (-1)]) := by
  obtain ⟨-, hV, hE⟩ := hg
  obtain ⟨pv, cv, rfl, hvc, hvm, -, hx⟩ := hV
  obtain ⟨pe, ce, rfl, hec, hem, -, hy⟩ := hE
  unfold maxLen at hvm hem
  have hx := Lib.hid hx
  have hy := Lib.hid hy
  unfold Gg.agg
  obtain ⟨top, htop⟩ : ∃ t, g.last = t := ⟨_, rfl⟩
  rw [htop]
  obtain ⟨vs, hvs⟩ : ∃ vs, g.vs = vs := ⟨_, rfl⟩
  obtain ⟨es, hes⟩ : ∃ es, g.es = es := ⟨_, rfl⟩
  rw [hvs] at hx hvc ⊢
  rw [hes] at hy hec ⊢
  obtain ⟨N, hN⟩ : ∃ n, vs.length = n := ⟨_, rfl⟩
  obtain ⟨M, hM⟩ : ∃ n, es.length = n := ⟨_, rfl⟩
  rw [hN] at hvc ⊢
  rw [hM] at hec ⊢
  have hlen := Lib.hid hN
  have hlem := Lib.hid hM
  clear hN hM htop hvs hes
  have k6 : (k == 6) = false := by simpa using hk6
  have k7 : (k == 7) = false := by simpa using hk7
  have mixed : Try.prog.follows .mixedOrders = true := by kernel_rfl
  have hBa := Lib.hid (bel2 w (Obj.cells #[.slice pv N cv, .slice pe M ce, .int .i64 top] 27) (Obj.cells #[.int .i64 k, .int .i64 id, .string s, .slice q m d] 30))
  have hg0 := Lib.hid (blk_on (bel1 (w.alloc (Obj.cells #[.slice pv N cv, .slice pe M ce, .int .i64 top] 27)) (Obj.cells #[.int .i64 k, .int .i64 id, .string s, .slice q m d] 30)) (World.alloc_heap_new w (Obj.cells #[.slice pv N cv, .slice pe M ce, .int .i64 top] 27)))
  have ha0 := World.alloc_heap_new (w.alloc (Obj.cells #[.slice pv N cv, .slice pe M ce, .int .i64 top] 27)) (Obj.cells #[.int .i64 k, .int .i64 id, .string s, .slice q m d] 30)
  rw [show (w.alloc (Obj.cells #[.slice pv N cv, .slice pe M ce, .int .i64 top] 27)).heap.size = w.heap.size + 1 by simp] at ha0
  have ha0 := Lib.hid ha0
  go_enter Try.func86, Try.ntmps86
  go_wp2
  generalize ((w.alloc (Obj.cells #[.slice pv N cv, .slice pe M ce, .int .i64 top] 27)).alloc (Obj.cells #[.int .i64 k, .int .i64 id, .string s, .slice q m d] 30)) = W at *
  go_loopg [6] 0 (fun c s6 wr => s6 = .int .i64 0 ∧ wr = W)
  case atStart => exact ⟨rfl, rfl⟩
  case round =>
    obtain ⟨rfl, ew⟩ := hrel
    subst ew
    rename World => wz
    obtain ⟨q0, q1, q2, qf⟩ := three_of hg0.out
    obtain ⟨r0, r1, r2, r3⟩ := four_cells ha0.out
    go_wp2
    go_loopg [7] 0 (fun c s7 wx => s7 = .int .i64 0 ∧ wx = wz)
    case atStart => exact ⟨rfl, rfl⟩
    case round =>
      obtain ⟨rfl, rfl⟩ := hrel
      go_wp2
      go_ret2
      exact ⟨hBa.out, rfl⟩
end Go.Proofs.Yteknbploiombiaa
namespace Go.Proofs.Yteknbploiombiaa
open Go.RowKit
set_option linter.unusedVariables false      -- a walk need not use every condition

def eAt (es : List Lk) (id : Int) : Option Lk := es.find? fun x => decide (x.id = id)
/-- An element's label, if there is such an element. -/
def elLb (g : Gg) (k id : Int) : Option ByteArray := if k = 6 then (vAt g.vs id).map Vx.lb else if k = 7 then (eAt g.es id).map Lk.lb else none
theorem eAt_yes {es : List Lk} {id : Int} {i : Nat} (hi : i < es.length) (h : es[i].id = id) (hf : ∀ t (ht : t < es.length), t < i → es[t].id ≠ id) : eAt es id = some es[i] := by
  unfold eAt
  rw [List.find?_eq_some_iff_getElem]
  exact ⟨by simpa using h, i, hi, rfl, fun j hj => by simpa using hf j (by omega) hj⟩
theorem eAt_no {es : List Lk} {id : Int} (h : ∀ t (ht : t < es.length), es[t].id ≠ id) : eAt es id = none := by
  unfold eAt
  rw [List.find?_eq_none]
  intro x hx
  obtain ⟨t, ht, rfl⟩ := List.getElem_of_mem hx
  simpa using h t ht
theorem el_there (g : Gg) (k id : Int) : (elLb g k id).isSome = (elPs g k id).isSome := by
  unfold elLb elPs vPs ePs vAt eAt
  split
  · simp
  · split <;> simp
/-- What Props and Label hand back. -/
def Pp (g : Gg) (k id : Int) (w : World) (e : Ending) (w' : World) : Prop := ∃ (hdr : Value) (ps : List Pr), e = .returned hdr ∧ Sq RP w' 0 ps hdr ∧ (elPs g k id = some ps ∨ elPs g k id = none ∧ ps = []) ∧ Below w.heap.size w w'
def Lb (g : Gg) (k id : Int) (w : World) (e : Ending) (w' : World) : Prop := e = .returned (.tuple #[.string ((elLb g k id).getD ⟨#[]⟩), .bool (elLb g k id).isSome]) ∧ Below w.heap.size w w'
set_option maxHeartbeats 4000000 in
theorem r62v (g : Gg) (sv se : Value) (id : Int) (s : ByteArray) (q : Option Addr) (m d : Nat) (w : World) (hg : Gg.In w 0 g sv se) :
    Calls Try.prog 62 #[g.agg sv se, .agg #[.int .i64 6, .int .i64 id, .string s, .slice q m d]] w fun e w' => Pp g 6 id w e w' := by
  have c60 := fun W hW => at86v g _ _ id s q m d W (hg.on (w' := W) hW)
  obtain ⟨-, hV, hE⟩ := hg
  obtain ⟨pv, cv, rfl, hvc, hvm, -, hx⟩ := hV
  obtain ⟨pe, ce, rfl, hec, hem, -, hy⟩ := hE
  unfold maxLen at hvm hem
  replace hx := Lib.hid hx
  replace hy := Lib.hid hy
  unfold Gg.agg at c60 ⊢
  obtain ⟨top, htop⟩ : ∃ t, g.last = t := ⟨_, rfl⟩
  rw [htop] at c60 ⊢
  clear htop
  obtain ⟨N, hN⟩ : ∃ n, g.vs.length = n := ⟨_, rfl⟩
  obtain ⟨M, hM⟩ : ∃ n, g.es.length = n := ⟨_, rfl⟩
  rw [hN] at c60 hvc ⊢
  rw [hM] at c60 hec ⊢
  replace hN := Lib.hid hN
  replace hM := Lib.hid hM
  have hb0 := Lib.hid (bel2 w (Obj.cells #[.slice pv N cv, .slice pe M ce, .int .i64 top] 27) (Obj.cells #[.int .i64 6, .int .i64 id, .string s, .slice q m d] 30))
  have hblk := Lib.hid (blk_on (bel1 _ (Obj.cells #[.int .i64 6, .int .i64 id, .string s, .slice q m d] 30)) (World.alloc_heap_new w (Obj.cells #[.slice pv N cv, .slice pe M ce, .int .i64 top] 27)))
  go_enter Try.func62, Try.ntmps62
  go_wp2_with (fail)
  refine (c60 _ hb0.out).mono ?_
  rintro e w1 ⟨hb1, ⟨i, hi, h1, h2, rfl⟩ | ⟨h1, rfl⟩⟩
  · have hS := Lib.hid (by unfold elPs; rw [if_pos rfl]; exact find_at_v hi h1 h2 : elPs g 6 id = some g.vs[i].ps)
    have hL := Lib.hid (show elLb g 6 id = some g.vs[i].lb by unfold elLb; rw [if_pos rfl, vAt_yes hi h1 h2]; rfl)
    have HB1 := Lib.hid (bel_then hb0.out hb1)
    obtain ⟨b, o, rfl, -, hxx⟩ := hx.out.resolve_left (by intro e; rw [e] at hi; simp at hi)
    obtain ⟨s1, hat, hv⟩ := (hxx.on' HB1.out).at i hi
    obtain ⟨p1, n1, c1, rfl⟩ := hdV hv
    obtain ⟨a0, a1, a2⟩ := ats3 hat
    simp only [show RV.n = 3 from rfl] at a0 a1 a2
    obtain ⟨g0, g1, g2, gf⟩ := three_of (blk_on hb1 hblk.out)
    have hiN : (i : Int) < (N : Int) := by have := hN.out; omega
    have hi0 : (0 : Int) ≤ (i : Int) := by omega
    have hq := Lib.hid hv.2.2
    clear c60 hb1 h1 h2 hxx hat hx hy hv
    generalize g.vs[i] = x at *
    go_wp2
    go_ret
    exact ⟨_, x.ps, rfl, hq.out, .inl hS.out, HB1.out⟩
  · replace h1 := Lib.hid h1
    have HB1 := Lib.hid (bel_then hb0.out hb1)
    obtain ⟨g0, g1, g2, gf⟩ := three_of (blk_on hb1 hblk.out)
    clear c60 hb1 hx hy
    go_wp2
    go_ret
    exact ⟨_, [], rfl, Sq.nil _ _, .inr ⟨by unfold elPs; rw [if_pos rfl]; exact find_no_v h1.out, rfl⟩, HB1.out⟩
set_option maxHeartbeats 4000000 in
theorem r62e (g : Gg) (sv se : Value) (id : Int) (s : ByteArray) (q : Option Addr) (m d : Nat) (w : World) (hg : Gg.In w 0 g sv se) :
    Calls Try.prog 62 #[g.agg sv se, .agg #[.int .i64 7, .int .i64 id, .string s, .slice q m d]] w fun e w' => Pp g 7 id w e w' := by
  have c60 := fun W hW => at86e g _ _ id s q m d W (hg.on (w' := W) hW)
  obtain ⟨-, hV, hE⟩ := hg
  obtain ⟨pv, cv, rfl, hvc, hvm, -, hx⟩ := hV
  obtain ⟨pe, ce, rfl, hec, hem, -, hy⟩ := hE
  unfold maxLen at hvm hem
  replace hx := Lib.hid hx
  replace hy := Lib.hid hy
  unfold Gg.agg at c60 ⊢
  obtain ⟨top, htop⟩ : ∃ t, g.last = t := ⟨_, rfl⟩
  rw [htop] at c60 ⊢
  clear htop
  obtain ⟨N, hN⟩ : ∃ n, g.vs.length = n := ⟨_, rfl⟩
  obtain ⟨M, hM⟩ : ∃ n, g.es.length = n := ⟨_, rfl⟩
  rw [hN] at c60 hvc ⊢
  rw [hM] at c60 hec ⊢
  replace hN := Lib.hid hN
  replace hM := Lib.hid hM
  have hb0 := Lib.hid (bel2 w (Obj.cells #[.slice pv N cv, .slice pe M ce, .int .i64 top] 27) (Obj.cells #[.int .i64 7, .int .i64 id, .string s, .slice q m d] 30))
  have hblk := Lib.hid (blk_on (bel1 _ (Obj.cells #[.int .i64 7, .int .i64 id, .string s, .slice q m d] 30)) (World.alloc_heap_new w (Obj.cells #[.slice pv N cv, .slice pe M ce, .int .i64 top] 27)))
  go_enter Try.func62, Try.ntmps62
  go_wp2_with (fail)
  refine (c60 _ hb0.out).mono ?_
  rintro e w1 ⟨hb1, ⟨i, hi, h1, h2, rfl⟩ | ⟨h1, rfl⟩⟩
  · have hS := Lib.hid (by unfold elPs; rw [if_neg (by decide), if_pos rfl]; exact find_at_e hi h1 h2 : elPs g 7 id = some g.es[i].ps)
    have hL := Lib.hid (show elLb g 7 id = some g.es[i].lb by unfold elLb; rw [if_neg (by decide), if_pos rfl, eAt_yes hi h1 h2]; rfl)
    have HB1 := Lib.hid (bel_then hb0.out hb1)
    obtain ⟨b, o, rfl, -, hxx⟩ := hy.out.resolve_left (by intro e; rw [e] at hi; simp at hi)
    obtain ⟨s1, hat, hv⟩ := (hxx.on' HB1.out).at i hi
    obtain ⟨p1, n1, c1, rfl⟩ := hdL hv
    obtain ⟨a0, a1, a2, a3, a4⟩ := ats5 hat
    simp only [show RL.n = 5 from rfl] at a0 a1 a2 a3 a4
    obtain ⟨g0, g1, g2, gf⟩ := three_of (blk_on hb1 hblk.out)
    have hiN : (i : Int) < (M : Int) := by have := hM.out; omega
    have hi0 : (0 : Int) ≤ (i : Int) := by omega
    have hq := Lib.hid hv.2.2.2.2
    clear c60 hb1 h1 h2 hxx hat hx hy hv
    generalize g.es[i] = x at *
    go_wp2
    go_ret
    exact ⟨_, x.ps, rfl, hq.out, .inl hS.out, HB1.out⟩
  · replace h1 := Lib.hid h1
    have HB1 := Lib.hid (bel_then hb0.out hb1)
    obtain ⟨g0, g1, g2, gf⟩ := three_of (blk_on hb1 hblk.out)
    clear c60 hb1 hx hy
    go_wp2
    go_ret
    exact ⟨_, [], rfl, Sq.nil _ _, .inr ⟨by unfold elPs; rw [if_neg (by decide), if_pos rfl]; exact find_no_e h1.out, rfl⟩, HB1.out⟩
set_option maxHeartbeats 4000000 in
theorem r62o (g : Gg) (sv se : Value) (k id : Int) (s : ByteArray) (q : Option Addr) (m d : Nat) (w : World) (hg : Gg.In w 0 g sv se) (hk6 : k ≠ 6) (hk7 : k ≠ 7) :
    Calls Try.prog 62 #[g.agg sv se, .agg #[.int .i64 k, .int .i64 id, .string s, .slice q m d]] w fun e w' => Pp g k id w e w' := by
  have c60 := fun W hW => at86o g _ _ k id s q m d W (hg.on (w' := W) hW) hk6 hk7
  obtain ⟨-, hV, hE⟩ := hg
  obtain ⟨pv, cv, rfl, hvc, hvm, -, hx⟩ := hV
  obtain ⟨pe, ce, rfl, hec, hem, -, hy⟩ := hE
  unfold maxLen at hvm hem
  replace hx := Lib.hid hx
  replace hy := Lib.hid hy
  unfold Gg.agg at c60 ⊢
  obtain ⟨top, htop⟩ : ∃ t, g.last = t := ⟨_, rfl⟩
  rw [htop] at c60 ⊢
  clear htop
  obtain ⟨N, hN⟩ : ∃ n, g.vs.length = n := ⟨_, rfl⟩
  obtain ⟨M, hM⟩ : ∃ n, g.es.length = n := ⟨_, rfl⟩
  rw [hN] at c60 hvc ⊢
  rw [hM] at c60 hec ⊢
  replace hN := Lib.hid hN
  replace hM := Lib.hid hM
  have hb0 := Lib.hid (bel2 w (Obj.cells #[.slice pv N cv, .slice pe M ce, .int .i64 top] 27) (Obj.cells #[.int .i64 k, .int .i64 id, .string s, .slice q m d] 30))
  have hblk := Lib.hid (blk_on (bel1 _ (Obj.cells #[.int .i64 k, .int .i64 id, .string s, .slice q m d] 30)) (World.alloc_heap_new w (Obj.cells #[.slice pv N cv, .slice pe M ce, .int .i64 top] 27)))
  go_enter Try.func62, Try.ntmps62
  go_wp2_with (fail)
  refine (c60 _ hb0.out).mono ?_
  rintro e w1 ⟨hb1, rfl⟩
  have HB1 := Lib.hid (bel_then hb0.out hb1)
  obtain ⟨g0, g1, g2, gf⟩ := three_of (blk_on hb1 hblk.out)
  clear c60 hb1 hx hy
  go_wp2
  go_ret
  exact ⟨_, [], rfl, Sq.nil _ _, .inr ⟨by unfold elPs; rw [if_neg hk6, if_neg hk7], rfl⟩, HB1.out⟩
theorem rprops62 (g : Gg) (sv se : Value) (k id : Int) (s : ByteArray) (q : Option Addr) (m d : Nat) (w : World) (hg : Gg.In w 0 g sv se) :
    Calls Try.prog 62 #[g.agg sv se, .agg #[.int .i64 k, .int .i64 id, .string s, .slice q m d]] w fun e w' => Pp g k id w e w' := by
  by_cases h6 : k = 6
  · subst h6; exact r62v g sv se id s q m d w hg
  · by_cases h7 : k = 7
    · subst h7; exact r62e g sv se id s q m d w hg
    · exact r62o g sv se k id s q m d w hg h6 h7
set_option maxHeartbeats 4000000 in
theorem r60v (g : Gg) (sv se : Value) (id : Int) (s : ByteArray) (q : Option Addr) (m d : Nat) (w : World) (hg : Gg.In w 0 g sv se) :
    Calls Try.prog 60 #[g.agg sv se, .agg #[.int .i64 6, .int .i64 id, .string s, .slice q m d]] w fun e w' => Lb g 6 id w e w' := by
  have c60 := fun W hW => at86v g _ _ id s q m d W (hg.on (w' := W) hW)
  obtain ⟨-, hV, hE⟩ := hg
  obtain ⟨pv, cv, rfl, hvc, hvm, -, hx⟩ := hV
  obtain ⟨pe, ce, rfl, hec, hem, -, hy⟩ := hE
  unfold maxLen at hvm hem
  replace hx := Lib.hid hx
  replace hy := Lib.hid hy
  unfold Gg.agg at c60 ⊢
  obtain ⟨top, htop⟩ : ∃ t, g.last = t := ⟨_, rfl⟩
  rw [htop] at c60 ⊢
  clear htop
  obtain ⟨N, hN⟩ : ∃ n, g.vs.length = n := ⟨_, rfl⟩
  obtain ⟨M, hM⟩ : ∃ n, g.es.length = n := ⟨_, rfl⟩
  rw [hN] at c60 hvc ⊢
  rw [hM] at c60 hec ⊢
  replace hN := Lib.hid hN
  replace hM := Lib.hid hM
  have hb0 := Lib.hid (bel2 w (Obj.cells #[.slice pv N cv, .slice pe M ce, .int .i64 top] 27) (Obj.cells #[.int .i64 6, .int .i64 id, .string s, .slice q m d] 30))
  have hblk := Lib.hid (blk_on (bel1 _ (Obj.cells #[.int .i64 6, .int .i64 id, .string s, .slice q m d] 30)) (World.alloc_heap_new w (Obj.cells #[.slice pv N cv, .slice pe M ce, .int .i64 top] 27)))
  go_enter Try.func60, Try.ntmps60
  go_wp2_with (fail)
  refine (c60 _ hb0.out).mono ?_
  rintro e w1 ⟨hb1, ⟨i, hi, h1, h2, rfl⟩ | ⟨h1, rfl⟩⟩
  · have hS := Lib.hid (by unfold elPs; rw [if_pos rfl]; exact find_at_v hi h1 h2 : elPs g 6 id = some g.vs[i].ps)
    have hL := Lib.hid (show elLb g 6 id = some g.vs[i].lb by unfold elLb; rw [if_pos rfl, vAt_yes hi h1 h2]; rfl)
    have HB1 := Lib.hid (bel_then hb0.out hb1)
    obtain ⟨b, o, rfl, -, hxx⟩ := hx.out.resolve_left (by intro e; rw [e] at hi; simp at hi)
    obtain ⟨s1, hat, hv⟩ := (hxx.on' HB1.out).at i hi
    obtain ⟨p1, n1, c1, rfl⟩ := hdV hv
    obtain ⟨a0, a1, a2⟩ := ats3 hat
    simp only [show RV.n = 3 from rfl] at a0 a1 a2
    obtain ⟨g0, g1, g2, gf⟩ := three_of (blk_on hb1 hblk.out)
    have hiN : (i : Int) < (N : Int) := by have := hN.out; omega
    have hi0 : (0 : Int) ≤ (i : Int) := by omega
    have hq := Lib.hid hv.2.2
    clear c60 hb1 h1 h2 hxx hat hx hy hv
    generalize g.vs[i] = x at *
    go_wp2
    go_ret2
    exact ⟨by rw [hL.out]; rfl, HB1.out⟩
  · replace h1 := Lib.hid h1
    have HB1 := Lib.hid (bel_then hb0.out hb1)
    obtain ⟨g0, g1, g2, gf⟩ := three_of (blk_on hb1 hblk.out)
    clear c60 hb1 hx hy
    go_wp2
    go_ret2
    exact ⟨by rw [show elLb g 6 id = none by unfold elLb; rw [if_pos rfl, vAt_no h1.out]; rfl]; rfl, HB1.out⟩
set_option maxHeartbeats 4000000 in
theorem r60e (g : Gg) (sv se : Value) (id : Int) (s : ByteArray) (q : Option Addr) (m d : Nat) (w : World) (hg : Gg.In w 0 g sv se) :
    Calls Try.prog 60 #[g.agg sv se, .agg #[.int .i64 7, .int .i64 id, .string s, .slice q m d]] w fun e w' => Lb g 7 id w e w' := by
  have c60 := fun W hW => at86e g _ _ id s q m d W (hg.on (w' := W) hW)
  obtain ⟨-, hV, hE⟩ := hg
  obtain ⟨pv, cv, rfl, hvc, hvm, -, hx⟩ := hV
  obtain ⟨pe, ce, rfl, hec, hem, -, hy⟩ := hE
  unfold maxLen at hvm hem
  replace hx := Lib.hid hx
  replace hy := Lib.hid hy
  unfold Gg.agg at c60 ⊢
  obtain ⟨top, htop⟩ : ∃ t, g.last = t := ⟨_, rfl⟩
  rw [htop] at c60 ⊢
  clear htop
  obtain ⟨N, hN⟩ : ∃ n, g.vs.length = n := ⟨_, rfl⟩
  obtain ⟨M, hM⟩ : ∃ n, g.es.length = n := ⟨_, rfl⟩
  rw [hN] at c60 hvc ⊢
  rw [hM] at c60 hec ⊢
  replace hN := Lib.hid hN
  replace hM := Lib.hid hM
  have hb0 := Lib.hid (bel2 w (Obj.cells #[.slice pv N cv, .slice pe M ce, .int .i64 top] 27) (Obj.cells #[.int .i64 7, .int .i64 id, .string s, .slice q m d] 30))
  have hblk := Lib.hid (blk_on (bel1 _ (Obj.cells #[.int .i64 7, .int .i64 id, .string s, .slice q m d] 30)) (World.alloc_heap_new w (Obj.cells #[.slice pv N cv, .slice pe M ce, .int .i64 top] 27)))
  go_enter Try.func60, Try.ntmps60
  go_wp2_with (fail)
  refine (c60 _ hb0.out).mono ?_
  rintro e w1 ⟨hb1, ⟨i, hi, h1, h2, rfl⟩ | ⟨h1, rfl⟩⟩
  · have hS := Lib.hid (by unfold elPs; rw [if_neg (by decide), if_pos rfl]; exact find_at_e hi h1 h2 : elPs g 7 id = some g.es[i].ps)
    have hL := Lib.hid (show elLb g 7 id = some g.es[i].lb by unfold elLb; rw [if_neg (by decide), if_pos rfl, eAt_yes hi h1 h2]; rfl)
    have HB1 := Lib.hid (bel_then hb0.out hb1)
    obtain ⟨b, o, rfl, -, hxx⟩ := hy.out.resolve_left (by intro e; rw [e] at hi; simp at hi)
    obtain ⟨s1, hat, hv⟩ := (hxx.on' HB1.out).at i hi
    obtain ⟨p1, n1, c1, rfl⟩ := hdL hv
    obtain ⟨a0, a1, a2, a3, a4⟩ := ats5 hat
    simp only [show RL.n = 5 from rfl] at a0 a1 a2 a3 a4
    obtain ⟨g0, g1, g2, gf⟩ := three_of (blk_on hb1 hblk.out)
    have hiN : (i : Int) < (M : Int) := by have := hM.out; omega
    have hi0 : (0 : Int) ≤ (i : Int) := by omega
    have hq := Lib.hid hv.2.2.2.2
    clear c60 hb1 h1 h2 hxx hat hx hy hv
    generalize g.es[i] = x at *
    go_wp2
    go_ret2
    exact ⟨by rw [hL.out]; rfl, HB1.out⟩
  · replace h1 := Lib.hid h1
    have HB1 := Lib.hid (bel_then hb0.out hb1)
    obtain ⟨g0, g1, g2, gf⟩ := three_of (blk_on hb1 hblk.out)
    clear c60 hb1 hx hy
    go_wp2
    go_ret2
    exact ⟨by rw [show elLb g 7 id = none by unfold elLb; rw [if_neg (by decide), if_pos rfl, eAt_no h1.out]; rfl]; rfl, HB1.out⟩
set_option maxHeartbeats 4000000 in
theorem r60o (g : Gg) (sv se : Value) (k id : Int) (s : ByteArray) (q : Option Addr) (m d : Nat) (w : World) (hg : Gg.In w 0 g sv se) (hk6 : k ≠ 6) (hk7 : k ≠ 7) :
    Calls Try.prog 60 #[g.agg sv se, .agg #[.int .i64 k, .int .i64 id, .string s, .slice q m d]] w fun e w' => Lb g k id w e w' := by
  have c60 := fun W hW => at86o g _ _ k id s q m d W (hg.on (w' := W) hW) hk6 hk7
  obtain ⟨-, hV, hE⟩ := hg
  obtain ⟨pv, cv, rfl, hvc, hvm, -, hx⟩ := hV
  obtain ⟨pe, ce, rfl, hec, hem, -, hy⟩ := hE
  unfold maxLen at hvm hem
  replace hx := Lib.hid hx
  replace hy := Lib.hid hy
  unfold Gg.agg at c60 ⊢
  obtain ⟨top, htop⟩ : ∃ t, g.last = t := ⟨_, rfl⟩
  rw [htop] at c60 ⊢
  clear htop
  obtain ⟨N, hN⟩ : ∃ n, g.vs.length = n := ⟨_, rfl⟩
  obtain ⟨M, hM⟩ : ∃ n, g.es.length = n := ⟨_, rfl⟩
  rw [hN] at c60 hvc ⊢
  rw [hM] at c60 hec ⊢
  replace hN := Lib.hid hN
  replace hM := Lib.hid hM
  have hb0 := Lib.hid (bel2 w (Obj.cells #[.slice pv N cv, .slice pe M ce, .int .i64 top] 27) (Obj.cells #[.int .i64 k, .int .i64 id, .string s, .slice q m d] 30))
  have hblk := Lib.hid (blk_on (bel1 _ (Obj.cells #[.int .i64 k, .int .i64 id, .string s, .slice q m d] 30)) (World.alloc_heap_new w (Obj.cells #[.slice pv N cv, .slice pe M ce, .int .i64 top] 27)))
  go_enter Try.func60, Try.ntmps60
  go_wp2_with (fail)
  refine (c60 _ hb0.out).mono ?_
  rintro e w1 ⟨hb1, rfl⟩
  have HB1 := Lib.hid (bel_then hb0.out hb1)
  obtain ⟨g0, g1, g2, gf⟩ := three_of (blk_on hb1 hblk.out)
  clear c60 hb1 hx hy
  go_wp2
  go_ret2
  exact ⟨by rw [show elLb g k id = none by unfold elLb; rw [if_neg hk6, if_neg hk7]]; rfl, HB1.out⟩
theorem rlabel60 (g : Gg) (sv se : Value) (k id : Int) (s : ByteArray) (q : Option Addr) (m d : Nat) (w : World) (hg : Gg.In w 0 g sv se) :
    Calls Try.prog 60 #[g.agg sv se, .agg #[.int .i64 k, .int .i64 id, .string s, .slice q m d]] w fun e w' => Lb g k id w e w' := by
  by_cases h6 : k = 6
  · subst h6; exact r60v g sv se id s q m d w hg
  · by_cases h7 : k = 7
    · subst h7; exact r60e g sv se id s q m d w hg
    · exact r60o g sv se k id s q m d w hg h6 h7
end Go.Proofs.Yteknbploiombiaa
