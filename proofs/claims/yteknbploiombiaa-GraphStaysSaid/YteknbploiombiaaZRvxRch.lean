/-
  The document's V: the vertex of an id, if there is one.
  Which graphs may be: the document's Check.
-/
import Derived.Test.YteknbploiombiaaZGup
import Derived.Test.YteknbploiombiaaZHv
import Derived.Test.YteknbploiombiaaZSepClsCgs
import Derived.Test.YteknbploiombiaaZFnd
import Derived.Test.YteknbploiombiaaZRpm
import Derived.Test.YteknbploiombiaaZChg
namespace Go.Proofs.Yteknbploiombiaa
open Go.RowKit
set_option linter.unusedVariables false      -- a walk need not use every condition

def zeroVx : Vx := ⟨0, "".toUTF8, []⟩
/-- The vertex of that id. -/
def vAt (vs : List Vx) (id : Int) : Option Vx := vs.find? fun x => decide (x.id = id)
theorem vAt_yes {vs : List Vx} {id : Int} {i : Nat} (hi : i < vs.length) (h : vs[i].id = id) (hf : ∀ t (ht : t < vs.length), t < i → vs[t].id ≠ id) : vAt vs id = some vs[i] := by
  unfold vAt
  rw [List.find?_eq_some_iff_getElem]
  exact ⟨by simpa using h, i, hi, rfl, fun j hj => by simpa using hf j (by omega) hj⟩
theorem vAt_no {vs : List Vx} {id : Int} (h : ∀ t (ht : t < vs.length), vs[t].id ≠ id) : vAt vs id = none := by
  unfold vAt
  rw [List.find?_eq_none]
  intro x hx
  obtain ⟨t, ht, rfl⟩ := List.getElem_of_mem hx
  simpa using h t ht
theorem hasV_at (vs : List Vx) (id : Int) : hasV vs id = (vAt vs id).isSome := by
  by_cases h : hasV vs id = true
  · rw [h]
    unfold hasV at h
    obtain ⟨x, hx, e⟩ := List.mem_map.1 (of_decide_eq_true h)
    unfold vAt
    symm
    rw [List.find?_isSome]
    exact ⟨x, hx, by simpa using e⟩
  · have h' : hasV vs id = false := by simpa using h
    rw [h']
    cases hv : vAt vs id with
    | none => rfl
    | some x =>
      exfalso
      apply h
      unfold hasV
      unfold vAt at hv
      exact decide_eq_true (List.mem_map.2 ⟨x, List.mem_of_find?_eq_some hv, by simpa using List.find?_some hv⟩)
/-- What V answers. -/
def vTell (vs : List Vx) (id : Int) : Vx := (vAt vs id).getD zeroVx
set_option maxHeartbeats 4000000 in
theorem v59 (g : Gg) (sv se : Value) (id : Int) (w : World) (hg : Gg.In w 0 g sv se) :
    Calls Try.prog 59 #[g.agg sv se, .int .i64 id] w fun e w' => Below w.heap.size w w' ∧
      ∃ p n c, e = .returned (.tuple #[(vTell g.vs id).agg (.slice p n c), .bool (hasV g.vs id)]) ∧ RV.In w' 0 (vTell g.vs id) (.slice p n c) := by
  obtain ⟨-, hV, hE⟩ := hg
  obtain ⟨pv, cv, rfl, hvc, hvm, -, hx⟩ := hV
  obtain ⟨pe, ce, rfl⟩ := hE.header
  unfold maxLen at hvm
  have hx := Lib.hid hx
  unfold Gg.agg
  obtain ⟨top, htop⟩ : ∃ t, g.last = t := ⟨_, rfl⟩
  rw [htop]
  obtain ⟨vs, hvs⟩ : ∃ vs, g.vs = vs := ⟨_, rfl⟩
  rw [hvs] at hx hvc ⊢
  obtain ⟨ne, hne⟩ : ∃ n, g.es.length = n := ⟨_, rfl⟩
  rw [hne]
  obtain ⟨N, hN⟩ : ∃ n, vs.length = n := ⟨_, rfl⟩
  rw [hN] at hvc ⊢
  have hlen := Lib.hid hN
  have hbb := hasV_at vs id
  clear hN hne htop hvs hE
  have hb0 := Lib.hid (bel1 w (Obj.cells #[.slice pv N cv, .slice pe ne ce, .int .i64 top] 27))
  have hblk := Lib.hid (World.alloc_heap_new w (Obj.cells #[.slice pv N cv, .slice pe ne ce, .int .i64 top] 27))
  obtain ⟨Tl, hTl⟩ : ∃ t, vTell vs id = t := ⟨_, rfl⟩
  have hY : Hid (∀ i (hi : i < vs.length), vs[i].id = id → (∀ t (ht : t < vs.length), t < i → vs[t].id ≠ id) → hasV vs id = true ∧ Tl = vs[i]) := fun i hi h hf => by
    rw [← hTl]
    unfold vTell
    rw [hbb, vAt_yes hi h hf]
    exact ⟨rfl, rfl⟩
  have hNo : Hid ((∀ t (ht : t < vs.length), vs[t].id ≠ id) → hasV vs id = false ∧ Tl = zeroVx) := fun h => by
    rw [← hTl]
    unfold vTell
    rw [hbb, vAt_no h]
    exact ⟨rfl, rfl⟩
  rw [hTl]
  clear hTl hbb
  generalize hasV vs id = Bv at *
  go_enter Try.func59, Try.ntmps59
  go_wp2
  have hBa := Lib.hid (bel_then hb0.out (bel1 (w.alloc (Obj.cells #[.slice pv N cv, .slice pe ne ce, .int .i64 top] 27)) (Obj.cells #[.int .i64 0, .string ⟨#[]⟩, .slice none 0 0] 40)))
  have hba := World.alloc_heap_new (w.alloc (Obj.cells #[.slice pv N cv, .slice pe ne ce, .int .i64 top] 27)) (Obj.cells #[.int .i64 0, .string ⟨#[]⟩, .slice none 0 0] 40)
  have hg0 := Lib.hid (blk_on (bel1 (w.alloc (Obj.cells #[.slice pv N cv, .slice pe ne ce, .int .i64 top] 27)) (Obj.cells #[.int .i64 0, .string ⟨#[]⟩, .slice none 0 0] 40)) hblk.out)
  rw [show (w.alloc (Obj.cells #[.slice pv N cv, .slice pe ne ce, .int .i64 top] 27)).heap.size = w.heap.size + 1 by simp] at hba
  have hba := Lib.hid hba
  generalize ((w.alloc (Obj.cells #[.slice pv N cv, .slice pe ne ce, .int .i64 top] 27)).alloc (Obj.cells #[.int .i64 0, .string ⟨#[]⟩, .slice none 0 0] 40)) = W at *
  clear hb0 hblk
  go_loopg [6] N (fun k s6 wr => ∃ i : Nat, i + k = N ∧ s6 = .int .i64 i ∧ Hid (Below W.heap.size W wr) ∧ Hid (∀ t (ht : t < vs.length), t < i → vs[t].id ≠ id))
  case atStart => exact ⟨0, by omega, rfl, Below.refl _ _, fun t _ h => absurd h (Nat.not_lt_zero _)⟩
  case round =>
    obtain ⟨i, hig, rfl, hB, hall⟩ := hrel
    have hg1 := Lib.hid (blk_on hB.out hg0.out)
    have hr1 := Lib.hid (blk_on hB.out hba.out)
    obtain ⟨q0, q1, q2, qf⟩ := three_of hg1.out
    obtain ⟨r0, r1, r2, rf⟩ := three_of hr1.out
    have hBB := Lib.hid (bel_then hBa.out hB.out)
    cases gk with
    | succ k =>
      have hi : i < vs.length := by have := hlen.out; omega
      have hiz : (i : Int) < (N : Int) := by omega
      have hi0 : (0 : Int) ≤ (i : Int) := by omega
      obtain ⟨b, o, rfl, -, hx1⟩ := hx.out.resolve_left (by intro e; rw [e] at hi; simp at hi)
      obtain ⟨s1, hat0, hv1⟩ := hx1.at i hi
      have hat := hat0.keep (keep_below hBB.out) (Nat.zero_le _)
      obtain ⟨p1, n1, c1, rfl⟩ := hdV hv1
      obtain ⟨a0, a1, a2⟩ := ats3 hat
      simp only [show RV.n = 3 from rfl] at a0 a1 a2
      have hF : Hid (vs[i].id ≠ id → ∀ t (ht : t < vs.length), t < i + 1 → vs[t].id ≠ id) := fun h t ht hti => by
        by_cases e : t = i
        · subst e; exact h
        · exact hall.out t ht (by omega)
      have hYi := Lib.hid (fun h => hY.out i hi h hall.out)
      have hv1 := Lib.hid hv1
      clear hat hat0 hx1 hx hY
      generalize vs[i] = x at *
      by_cases he : x.id = id
      · have heb : (x.id == id) = true := by simpa using he
        obtain ⟨rfl, rfl⟩ := hYi.out he
        have hb3 := Lib.hid (((hBB.out.setCell (p := ⟨w.heap.size + 1, 0, none⟩) (by show w.heap.size ≤ w.heap.size + 1; omega) (.int .i64 Tl.id)).setCell (p := ⟨w.heap.size + 1, 1, none⟩) (by show w.heap.size ≤ w.heap.size + 1; omega) (.string Tl.lb)).setCell (p := ⟨w.heap.size + 1, 2, none⟩) (by show w.heap.size ≤ w.heap.size + 1; omega) (.slice p1 n1 c1))
        have hblk3 := set3_blk (a' := .int .i64 Tl.id) (b' := .string Tl.lb) (c' := .slice p1 n1 c1) hr1.out
        obtain ⟨t0, t1, t2, tf⟩ := three_of hblk3
        have hI3 := Lib.hid (RV.on hb3.out hv1.out)
        clear hF hNo he hblk3
        go_wp2
        simp [bodyPost, results, Try.results59, go_sem, t0, t1, t2]
        exact ⟨hb3.out, p1, n1, c1, rfl, hI3.out⟩
      · have heb : (x.id == id) = false := by simpa using he
        have hr := Lib.hid (hF.out he)
        clear hYi
        go_wp2
        go_roundg k
        case measure => omega
        case rel => exact ⟨i + 1, by omega, by first | rfl | simp, hB.out, hr.out⟩
    | zero =>
      obtain rfl : i = N := by omega
      obtain ⟨rfl, rfl⟩ := hNo.out fun t ht => hall.out t ht (by have := hlen.out; omega)
      have hb3 := Lib.hid (((hBB.out.setCell (p := ⟨w.heap.size + 1, 0, none⟩) (by show w.heap.size ≤ w.heap.size + 1; omega) (.int .i64 0)).setCell (p := ⟨w.heap.size + 1, 1, none⟩) (by show w.heap.size ≤ w.heap.size + 1; omega) (.string ⟨#[]⟩)).setCell (p := ⟨w.heap.size + 1, 2, none⟩) (by show w.heap.size ≤ w.heap.size + 1; omega) (.slice none 0 0))
      have hblk3 := set3_blk (a' := .int .i64 0) (b' := .string ⟨#[]⟩) (c' := .slice none 0 0) hr1.out
      obtain ⟨t0, t1, t2, tf⟩ := three_of hblk3
      clear hx hY hall hblk3
      go_wp2
      simp [bodyPost, results, Try.results59, go_sem, t0, t1, t2]
      exact ⟨hb3.out, none, 0, 0, rfl, ⟨by show I64 0; unfold I64; decide, by show S64 "".toUTF8; unfold S64; decide, Sq.nil _ _⟩⟩
end Go.Proofs.Yteknbploiombiaa
namespace Go.Proofs.Yteknbploiombiaa
open Go.RowKit Go.Sort
set_option linter.unusedVariables false      -- a walk need not use every condition

/-- The id ahead of the place i. -/
def pid {α : Type} (f : α → Ee) (l : List α) : Nat → Int
  | 0 => 0
  | i + 1 => ((l[i]?).map fun x => (f x).1).getD 0
theorem els_step {α : Type} (f : α → Ee) (top : Int) {l : List α} {i : Nat} (h : i < l.length) : elsFrom top (pid f l i) ((l.drop i).map f) = (elOk top (pid f l i) (f l[i]) && elsFrom top (pid f l (i + 1)) ((l.drop (i + 1)).map f)) := by
  rw [List.drop_eq_getElem_cons h, List.map_cons]
  have e : pid f l (i + 1) = (f l[i]).1 := by unfold pid; simp [h]
  rw [e]
  rfl
theorem pid_succ {α : Type} (f : α → Ee) {l : List α} {i : Nat} (h : i < l.length) : pid f l (i + 1) = (f l[i]).1 := by unfold pid; simp [h]
set_option maxRecDepth 100000 in
set_option maxHeartbeats 16000000 in
theorem check57 (g : Gg) (sv se : Value) (w : World) (hg : Gg.In w 0 g sv se) :
    Calls Try.prog 57 #[g.agg sv se] w fun e w' => e = .returned (.int .i64 g.err) ∧ Below w.heap.size w w' := by
  have c13 := fun id W hW => v59 g sv se id W (hg.on hW)
  have hm : gMay g = (decide (0 ≤ g.last) && decide (g.last ≤ 281474976710656) && decide (g.vs.length ≤ 2048) && decide (g.es.length ≤ 2048) && elsFrom g.last 0 (g.vs.map Vx.ee) && elsFrom g.last 0 (g.es.map Lk.ee) && lksMay g.vs g.es) := rfl
  have hno : Hid (gMay g = false → g.err = 103) := err_no
  have hyes : Hid (gMay g = true → g.err = 0) := err_yes
  replace hm := Lib.hid hm
  obtain ⟨hl64, hV, hE⟩ := hg
  obtain ⟨pv, cv, rfl, hvc, hvm, -, hx⟩ := hV
  obtain ⟨pe, ce, rfl, hec, hem, -, hy⟩ := hE
  unfold maxLen at hvm hem
  unfold I64 at hl64
  replace hx := Lib.hid hx
  replace hy := Lib.hid hy
  unfold Gg.agg Vx.agg at c13
  unfold Gg.agg
  generalize g.err = E at *
  generalize gMay g = GM at *
  obtain ⟨top, htop⟩ : ∃ t, g.last = t := ⟨_, rfl⟩
  rw [htop] at c13 hm hl64 ⊢
  obtain ⟨vs, hvs⟩ : ∃ vs, g.vs = vs := ⟨_, rfl⟩
  obtain ⟨es, hes⟩ : ∃ es, g.es = es := ⟨_, rfl⟩
  rw [hvs] at hx hvc c13 hm ⊢
  rw [hes] at hy hec c13 hm ⊢
  clear htop hvs hes
  obtain ⟨N, hN⟩ : ∃ n, vs.length = n := ⟨_, rfl⟩
  obtain ⟨M, hM⟩ : ∃ n, es.length = n := ⟨_, rfl⟩
  rw [hN] at hvc c13 hm ⊢
  rw [hM] at hec c13 hm ⊢
  have hlen := Lib.hid hN
  have hlem := Lib.hid hM
  clear hN hM
  have hb0 := Lib.hid (bel1 w (Obj.cells #[.slice pv N cv, .slice pe M ce, .int .i64 top] 27))
  have hblk := Lib.hid (World.alloc_heap_new w (Obj.cells #[.slice pv N cv, .slice pe M ce, .int .i64 top] 27))
  by_cases k1 : top < 0
  · have hr := Lib.hid (hno.out (by rw [hm.out, decide_eq_false (show ¬ 0 ≤ top by omega)]; simp))
    clear hm hx hy
    go_enter Try.func57, Try.ntmps57
    go_wp2
    go_ret
    exact ⟨by rw [hr.out]; rfl, hb0.out⟩
  by_cases k2 : 281474976710656 < top
  · have hr := Lib.hid (hno.out (by rw [hm.out, decide_eq_false (show ¬ top ≤ 281474976710656 by omega)]; simp))
    have k1' : decide (top < 0) = false := decide_eq_false k1
    clear hm hx hy
    go_enter Try.func57, Try.ntmps57
    go_wp2
    go_ret
    exact ⟨by rw [hr.out]; rfl, hb0.out⟩
  by_cases k3 : 2048 < N
  · have hr := Lib.hid (hno.out (by rw [hm.out, decide_eq_false (show ¬ N ≤ 2048 by omega)]; simp))
    have k1' : decide (top < 0) = false := decide_eq_false k1
    have k2' : decide (281474976710656 < top) = false := decide_eq_false k2
    have k3' : (2048 : Int) < (N : Int) := by omega
    clear hm hx hy
    go_enter Try.func57, Try.ntmps57
    go_wp2
    go_ret
    exact ⟨by rw [hr.out]; rfl, hb0.out⟩
  by_cases k4 : 2048 < M
  · have hr := Lib.hid (hno.out (by rw [hm.out, decide_eq_false (show ¬ M ≤ 2048 by omega)]; simp))
    have k1' : decide (top < 0) = false := decide_eq_false k1
    have k2' : decide (281474976710656 < top) = false := decide_eq_false k2
    have k3' : ¬ (2048 : Int) < (N : Int) := by omega
    have k4' : (2048 : Int) < (M : Int) := by omega
    clear hm hx hy
    go_enter Try.func57, Try.ntmps57
    go_wp2
    go_ret
    exact ⟨by rw [hr.out]; rfl, hb0.out⟩
  have hm' : Hid (GM = (elsFrom top 0 (vs.map Vx.ee) && elsFrom top 0 (es.map Lk.ee) && lksMay vs es)) := by
    show _ = _
    rw [hm.out, decide_eq_true (show 0 ≤ top by omega), decide_eq_true (show top ≤ 281474976710656 by omega), decide_eq_true (show N ≤ 2048 by omega), decide_eq_true (show M ≤ 2048 by omega)]
    rfl
  have k1' : decide (top < 0) = false := decide_eq_false k1
  have k2' : decide (281474976710656 < top) = false := decide_eq_false k2
  have k3' : ¬ (2048 : Int) < (N : Int) := by omega
  have k4' : ¬ (2048 : Int) < (M : Int) := by omega
  clear hm
  obtain ⟨A, hA⟩ : ∃ a, elsFrom top 0 (vs.map Vx.ee) = a := ⟨_, rfl⟩
  obtain ⟨Bq, hBq⟩ : ∃ a, elsFrom top 0 (es.map Lk.ee) = a := ⟨_, rfl⟩
  obtain ⟨C, hC⟩ : ∃ a, lksMay vs es = a := ⟨_, rfl⟩
  rw [hA, hBq, hC] at hm'
  have f1 : Hid (A = false → E = 103) := fun h => hno.out (by rw [hm'.out, h]; rfl)
  have f2 : Hid (Bq = false → E = 103) := fun h => hno.out (by rw [hm'.out, h]; simp)
  have f3 : Hid (C = false → E = 103) := fun h => hno.out (by rw [hm'.out, h]; simp)
  have f4 : Hid (A = true → Bq = true → C = true → E = 0) := fun h h2 h3 => hyes.out (by rw [hm'.out, h, h2, h3]; rfl)
  replace hA := Lib.hid hA
  replace hBq := Lib.hid hBq
  replace hC := Lib.hid hC
  clear hm' hno hyes
  have l1 := hl64.1
  have l2 := hl64.2
  clear hl64
  go_enter Try.func57, Try.ntmps57
  go_wp2
  generalize w.alloc (Obj.cells #[.slice pv N cv, .slice pe M ce, .int .i64 top] 27) = W0 at *
  go_loopg [3] N (fun k s3 wr => ∃ i : Nat, i + k = N ∧ s3 = .int .i64 i ∧ Hid (Below w.heap.size w wr) ∧ Hid (wr.heap[w.heap.size]? = some (Obj.cells #[.slice pv N cv, .slice pe M ce, .int .i64 top] 27)) ∧ Hid (elsFrom top (pid Vx.ee vs i) ((vs.drop i).map Vx.ee) = A) ∧ Hid (0 ≤ pid Vx.ee vs i))
  case atStart => exact ⟨0, by omega, rfl, hb0.out, hblk.out, hA.out, Int.le_refl _⟩
  case round =>
    obtain ⟨i, hig, rfl, hB, hbl, hm, hp0⟩ := hrel
    cases gk with
    | succ k =>
      have hi : i < vs.length := by have := hlen.out; omega
      have hiz : (i : Int) < (N : Int) := by omega
      have hi0 : (0 : Int) ≤ (i : Int) := by omega
      obtain ⟨b, o, rfl, -, hx1⟩ := hx.out.resolve_left (by intro e; rw [e] at hi; simp at hi)
      obtain ⟨s1, hat, hv1⟩ := (hx1.on' hB.out).at i hi
      obtain ⟨p1, n1, c1, rfl⟩ := hdV hv1
      obtain ⟨a0, a1, a2⟩ := ats3 hat
      simp only [show RV.n = 3 from rfl] at a0 a1 a2
      have hm' := hm.out
      rw [els_step Vx.ee top hi] at hm'
      have hps := pid_succ Vx.ee hi
      have HM' := Lib.hid hm'
      have hS := Lib.hid hv1
      have hprev : ∀ j, i = j + 1 → wr.cell? ⟨b, o + j * 3, none⟩ = some (.int .i64 (pid Vx.ee vs i)) := fun j e => by
        have hj : j < vs.length := by omega
        obtain ⟨s2, hat2, -⟩ := (hx1.on' hB.out).at j hj
        have := (ats3 hat2).1
        simp only [show RV.n = 3 from rfl] at this
        rw [e, pid_succ Vx.ee hj]
        exact this
      replace hprev := Lib.hid hprev
      clear hm hm' hat hx1 hv1 hx
      rw [show ((Vx.ee) vs[i]).1 = vs[i].id from rfl] at hps
      replace hps := Lib.hid hps
      generalize vs[i] = x at *
      have hok : elOk top (pid Vx.ee vs i) (Vx.ee x) = (decide (pid Vx.ee vs i < x.id) && decide (x.id ≤ top) && nmB x.lb && psMay x.ps) := rfl
      rw [hok] at HM'
      clear hok
      have hpn : Hid (pid Vx.ee vs (i + 1) = x.id) := hps.out
      clear hps
      have hlast : Hid (elsFrom top (pid Vx.ee vs (i + 1)) ((vs.drop (i + 1)).map Vx.ee) = elsFrom top (pid Vx.ee vs (i + 1)) ((vs.drop (i + 1)).map Vx.ee)) := rfl
      obtain ⟨q, hq⟩ : ∃ q, pid Vx.ee vs i = q := ⟨_, rfl⟩
      rw [hq] at HM' hp0 hprev
      have hqz : Hid (i = 0 → q = 0) := fun h => by rw [← hq, h]; rfl
      clear hq
      have hp0' := hp0.out
      have hbl2 := blk_on (bel1 wr (Obj.cells #[.int .i64 x.id, .string x.lb, .slice p1 n1 c1] 40)) hbl.out
      have hW0 := World.alloc_heap_new wr (Obj.cells #[.int .i64 x.id, .string x.lb, .slice p1 n1 c1] 40)
      have hWb := Lib.hid (bel1 wr (Obj.cells #[.int .i64 x.id, .string x.lb, .slice p1 n1 c1] 40))
      obtain ⟨g0', g1', g2', gf'⟩ := three_of hbl.out
      have hS := Lib.hid (RV.on hWb.out hS.out)
      obtain ⟨W, hW⟩ : ∃ W, wr.alloc (Obj.cells #[.int .i64 x.id, .string x.lb, .slice p1 n1 c1] 40) = W := ⟨_, rfl⟩
      rw [hW] at hW0 hWb hbl2 hS
      obtain ⟨g0, g1, g2, gf⟩ := three_of hbl2
      obtain ⟨x0, x1, x2, xf⟩ := three_of hW0
      have hBW := Lib.hid (bel_then hB.out hWb.out)
      have hsq := hS.out.2.2
      have q50 : ∀ d os, Calls Try.prog 58 #[.string x.lb] (grow (redrawn W d) os) fun e w'' => e = .returned (.bool (nmB x.lb)) ∧ ∃ p : Regrown, w'' = grow (redrawn W p.d) p.os := fun d os => Calls.regrown_of (name_d _ _)
      have q51 : ∀ d os, Calls Try.prog 84 #[.slice p1 n1 c1] (grow (redrawn W d) os) fun e w'' => e = .returned (.bool (psMay x.ps)) ∧ ∃ p : Regrown, w'' = grow (redrawn W p.d) p.os := fun d os => Calls.regrown_of (props84 x.ps _ _ (hsq.on (below_regrown W d os)))
      have y0 := cell_regrown g0
      have y1 := cell_regrown g1
      have y2 := cell_regrown g2
      have z0 := cell_regrown x0
      have z1 := cell_regrown x1
      have z2 := cell_regrown x2
      replace hbl2 := Lib.hid hbl2
      replace hW0 := Lib.hid hW0
      clear hsq hS
      have hXo := Lib.hid (show x.lb = x.lb from rfl)
      generalize nmB x.lb = B1 at *
      generalize psMay x.ps = B2 at *
      obtain ⟨Rst, hRst⟩ : ∃ r, elsFrom top (pid Vx.ee vs (i + 1)) ((vs.drop (i + 1)).map Vx.ee) = r := ⟨_, rfl⟩
      rw [hRst] at HM'
      replace hRst := Lib.hid hRst
      clear hlast
      by_cases d1 : x.id < 1
      · have hr := Lib.hid (f1.out (by rw [← HM'.out, decide_eq_false (show ¬ q < x.id by omega)]; rfl))
        have d1' : decide (x.id < 1) = true := decide_eq_true d1
        clear HM' hprev
        go_wp2
        refine wp_region_quiet_below mixed (by kernel_rfl) ?_
        repeat (go_big_quiet_step (first | exact q50 _ _ | exact q51 _ _))
        refine wpQuiet_nil ?_
        intro _ hw'
        obtain ⟨⟨dq, osq⟩, hw''⟩ := hw'
        subst hw''
        have B7 := Lib.hid (below_regrown W dq osq)
        generalize grow (redrawn W dq) osq = w7 at B7 ⊢
        go_wp2
        go_ret
        exact ⟨by rw [hr.out]; rfl, bel_then hBW.out B7.out⟩
      have d1' : decide (x.id < 1) = false := decide_eq_false d1
      by_cases d2 : top < x.id
      · have hr := Lib.hid (f1.out (by rw [← HM'.out, decide_eq_false (show ¬ x.id ≤ top by omega)]; simp))
        have d2' : decide (top < x.id) = true := decide_eq_true d2
        clear HM' hprev
        go_wp2
        refine wp_region_quiet_below mixed (by kernel_rfl) ?_
        repeat (go_big_quiet_step (first | exact q50 _ _ | exact q51 _ _))
        refine wpQuiet_nil ?_
        intro _ hw'
        obtain ⟨⟨dq, osq⟩, hw''⟩ := hw'
        subst hw''
        have B7 := Lib.hid (below_regrown W dq osq)
        generalize grow (redrawn W dq) osq = w7 at B7 ⊢
        go_wp2
        go_ret
        exact ⟨by rw [hr.out]; rfl, bel_then hBW.out B7.out⟩
      have d2' : decide (top < x.id) = false := decide_eq_false d2
      have HM' : Hid ((decide (q < x.id) && B1 && B2 && Rst) = A) := by
        show _ = _
        rw [← HM'.out, decide_eq_true (show x.id ≤ top by omega), Bool.and_true]
      by_cases hi1 : i = 0
      · have hnz : (decide (0 < i)) = false := decide_eq_false (by omega)
        have hnz' : (decide ((0 : Int) < (i : Int))) = false := decide_eq_false (by omega)
        have hq0 : q = 0 := hqz.out hi1
        clear hprev hi1 hqz
        have HM' : Hid ((B1 && B2 && Rst) = A) := by
          show _ = _
          rw [← HM'.out, decide_eq_true (show q < x.id by omega), Bool.true_and]
        cases B1 with
        | false =>
          have hr := Lib.hid (f1.out (by rw [← HM'.out]; rfl))
          clear HM'
          go_wp2
          refine wp_region_quiet_below mixed (by kernel_rfl) ?_
          repeat (go_big_quiet_step (first | exact q50 _ _ | exact q51 _ _))
          refine wpQuiet_nil ?_
          intro _ hw'
          obtain ⟨⟨dq, osq⟩, hw''⟩ := hw'
          subst hw''
          have B7 := Lib.hid (below_regrown W dq osq)
          generalize grow (redrawn W dq) osq = w7 at B7 ⊢
          go_wp2
          go_ret
          exact ⟨by rw [hr.out]; rfl, bel_then hBW.out B7.out⟩
        | true =>
          cases B2 with
          | false =>
            have hr := Lib.hid (f1.out (by rw [← HM'.out]; rfl))
            clear HM'
            go_wp2
            refine wp_region_quiet_below mixed (by kernel_rfl) ?_
            repeat (go_big_quiet_step (first | exact q50 _ _ | exact q51 _ _))
            refine wpQuiet_nil ?_
            intro _ hw'
            obtain ⟨⟨dq, osq⟩, hw''⟩ := hw'
            subst hw''
            have B7 := Lib.hid (below_regrown W dq osq)
            generalize grow (redrawn W dq) osq = w7 at B7 ⊢
            go_wp2
            go_ret
            exact ⟨by rw [hr.out]; rfl, bel_then hBW.out B7.out⟩
          | true =>
            have HM' : Hid (Rst = A) := HM'.out
            go_wp2
            refine wp_region_quiet_below mixed (by kernel_rfl) ?_
            repeat (go_big_quiet_step (first | exact q50 _ _ | exact q51 _ _))
            refine wpQuiet_nil ?_
            intro _ hw'
            obtain ⟨⟨dq, osq⟩, hw''⟩ := hw'
            subst hw''
            have B7 := Lib.hid (below_regrown W dq osq)
            generalize grow (redrawn W dq) osq = w7 at B7 ⊢
            have hbl7 := Lib.hid (blk_on B7.out hbl2.out)
            go_wp2
            go_roundg k
            case measure => omega
            case rel => exact ⟨i + 1, by omega, by first | rfl | simp, bel_then hBW.out B7.out, hbl7.out, by show _ = _; exact hRst.out.trans HM'.out, by show _ ≤ _; rw [hpn.out]; omega⟩
      · obtain ⟨j, rfl⟩ : ∃ j, i = j + 1 := ⟨i - 1, by omega⟩
        have hcj := some_on hWb.out (hprev.out j rfl)
        have hcjW := cell_regrown hcj
        have hnz : (decide (0 < j + 1)) = true := decide_eq_true (by omega)
        have hnz' : (decide ((0 : Int) < ((j + 1 : Nat) : Int))) = true := decide_eq_true (by omega)
        have hnz'' : (decide ((0 : Int) < (j : Int) + 1)) = true := decide_eq_true (by omega)
        clear hprev hi1 hqz
        by_cases d3 : x.id ≤ q
        · have hr := Lib.hid (f1.out (by rw [← HM'.out, decide_eq_false (show ¬ q < x.id by omega)]; rfl))
          have d3' : decide (x.id ≤ q) = true := decide_eq_true d3
          clear HM'
          go_wp2
          refine wp_region_quiet_below mixed (by kernel_rfl) ?_
          repeat (go_big_quiet_step (first | exact q50 _ _ | exact q51 _ _))
          refine wpQuiet_nil ?_
          intro _ hw'
          obtain ⟨⟨dq, osq⟩, hw''⟩ := hw'
          subst hw''
          have B7 := Lib.hid (below_regrown W dq osq)
          generalize grow (redrawn W dq) osq = w7 at B7 ⊢
          go_wp2
          go_ret
          exact ⟨by rw [hr.out]; rfl, bel_then hBW.out B7.out⟩
        have d3' : decide (x.id ≤ q) = false := decide_eq_false d3
        have HM' : Hid ((B1 && B2 && Rst) = A) := by
          show _ = _
          rw [← HM'.out, decide_eq_true (show q < x.id by omega), Bool.true_and]
        cases B1 with
        | false =>
          have hr := Lib.hid (f1.out (by rw [← HM'.out]; rfl))
          clear HM'
          go_wp2
          refine wp_region_quiet_below mixed (by kernel_rfl) ?_
          repeat (go_big_quiet_step (first | exact q50 _ _ | exact q51 _ _))
          refine wpQuiet_nil ?_
          intro _ hw'
          obtain ⟨⟨dq, osq⟩, hw''⟩ := hw'
          subst hw''
          have B7 := Lib.hid (below_regrown W dq osq)
          generalize grow (redrawn W dq) osq = w7 at B7 ⊢
          go_wp2
          go_ret
          exact ⟨by rw [hr.out]; rfl, bel_then hBW.out B7.out⟩
        | true =>
          cases B2 with
          | false =>
            have hr := Lib.hid (f1.out (by rw [← HM'.out]; rfl))
            clear HM'
            go_wp2
            refine wp_region_quiet_below mixed (by kernel_rfl) ?_
            repeat (go_big_quiet_step (first | exact q50 _ _ | exact q51 _ _))
            refine wpQuiet_nil ?_
            intro _ hw'
            obtain ⟨⟨dq, osq⟩, hw''⟩ := hw'
            subst hw''
            have B7 := Lib.hid (below_regrown W dq osq)
            generalize grow (redrawn W dq) osq = w7 at B7 ⊢
            go_wp2
            go_ret
            exact ⟨by rw [hr.out]; rfl, bel_then hBW.out B7.out⟩
          | true =>
            have HM' : Hid (Rst = A) := HM'.out
            go_wp2
            refine wp_region_quiet_below mixed (by kernel_rfl) ?_
            repeat (go_big_quiet_step (first | exact q50 _ _ | exact q51 _ _))
            refine wpQuiet_nil ?_
            intro _ hw'
            obtain ⟨⟨dq, osq⟩, hw''⟩ := hw'
            subst hw''
            have B7 := Lib.hid (below_regrown W dq osq)
            generalize grow (redrawn W dq) osq = w7 at B7 ⊢
            have hbl7 := Lib.hid (blk_on B7.out hbl2.out)
            go_wp2
            go_roundg k
            case measure => omega
            case rel => exact ⟨j + 1 + 1, by omega, by first | rfl | simp, bel_then hBW.out B7.out, hbl7.out, by show _ = _; exact hRst.out.trans HM'.out, by show _ ≤ _; rw [hpn.out]; omega⟩
    | zero =>
      have hiN : N = i := by omega
      subst hiN
      have hAt : Hid (A = true) := by
        show _ = _
        rw [← hm.out, List.drop_eq_nil_of_le (by have := hlen.out; omega)]; rfl
      clear hm hx
      obtain ⟨g0, g1, g2, gf⟩ := three_of hbl.out
      go_wp2
      go_loopg [5] M (fun k s5 wr => ∃ i : Nat, i + k = M ∧ s5 = .int .i64 i ∧ Hid (Below w.heap.size w wr) ∧ Hid (wr.heap[w.heap.size]? = some (Obj.cells #[.slice pv N cv, .slice pe M ce, .int .i64 top] 27)) ∧ Hid (elsFrom top (pid Lk.ee es i) ((es.drop i).map Lk.ee) = Bq) ∧ Hid (0 ≤ pid Lk.ee es i) ∧ Hid (∀ t (ht : t < es.length), t < i → lkOk vs es[t] = true))
      case atStart => exact ⟨0, by omega, rfl, hB.out, hbl.out, hBq.out, Int.le_refl _, fun t _ h => absurd h (Nat.not_lt_zero _)⟩
      case round =>
        obtain ⟨i, hig, rfl, hB, hbl, hm, hp0, hall⟩ := hrel
        cases gk with
        | succ k =>
          have hi : i < es.length := by have := hlem.out; omega
          have hiz : (i : Int) < (M : Int) := by omega
          have hi0 : (0 : Int) ≤ (i : Int) := by omega
          obtain ⟨b, o, rfl, -, hx1⟩ := hy.out.resolve_left (by intro e; rw [e] at hi; simp at hi)
          obtain ⟨s1, hat, hv1⟩ := (hx1.on' hB.out).at i hi
          obtain ⟨p1, n1, c1, rfl⟩ := hdL hv1
          obtain ⟨a0, a1, a2, a3, a4⟩ := ats5 hat
          simp only [show RL.n = 5 from rfl] at a0 a1 a2 a3 a4
          have hm' := hm.out
          rw [els_step Lk.ee top hi] at hm'
          have hps := pid_succ Lk.ee hi
          have HM' := Lib.hid hm'
          have hS := Lib.hid hv1
          have hprev : ∀ j, i = j + 1 → wr.cell? ⟨b, o + j * 5, none⟩ = some (.int .i64 (pid Lk.ee es i)) := fun j e => by
            have hj : j < es.length := by omega
            obtain ⟨s2, hat2, -⟩ := (hx1.on' hB.out).at j hj
            have := (ats5 hat2).1
            simp only [show RL.n = 5 from rfl] at this
            rw [e, pid_succ Lk.ee hj]
            exact this
          replace hprev := Lib.hid hprev
          have hF : Hid (lkOk vs es[i] = false → C = false) := fun h => by rw [← hC.out]; exact lks_no hi h
          have hT : Hid (lkOk vs es[i] = true → ∀ t (ht : t < es.length), t < i + 1 → lkOk vs es[t] = true) := fun h t ht hti => by
            by_cases e : t = i
            · subst e; exact h
            · exact hall.out t ht (by omega)
          clear hm hm' hat hx1 hv1 hy
          rw [show ((Lk.ee) es[i]).1 = es[i].id from rfl] at hps
          replace hps := Lib.hid hps
          generalize es[i] = x at *
          have hok : elOk top (pid Lk.ee es i) (Lk.ee x) = (decide (pid Lk.ee es i < x.id) && decide (x.id ≤ top) && nmB x.lb && psMay x.ps) := rfl
          rw [hok] at HM'
          clear hok
          have hpn : Hid (pid Lk.ee es (i + 1) = x.id) := hps.out
          clear hps
          have hlast : Hid (elsFrom top (pid Lk.ee es (i + 1)) ((es.drop (i + 1)).map Lk.ee) = elsFrom top (pid Lk.ee es (i + 1)) ((es.drop (i + 1)).map Lk.ee)) := rfl
          obtain ⟨q, hq⟩ : ∃ q, pid Lk.ee es i = q := ⟨_, rfl⟩
          rw [hq] at HM' hp0 hprev
          have hqz : Hid (i = 0 → q = 0) := fun h => by rw [← hq, h]; rfl
          clear hq
          have hp0' := hp0.out
          have hbl2 := blk_on (bel1 wr (Obj.cells #[.int .i64 x.id, .string x.lb, .int .i64 x.out, .int .i64 x.inn, .slice p1 n1 c1] 46)) hbl.out
          have hW0 := World.alloc_heap_new wr (Obj.cells #[.int .i64 x.id, .string x.lb, .int .i64 x.out, .int .i64 x.inn, .slice p1 n1 c1] 46)
          have hWb := Lib.hid (bel1 wr (Obj.cells #[.int .i64 x.id, .string x.lb, .int .i64 x.out, .int .i64 x.inn, .slice p1 n1 c1] 46))
          obtain ⟨g0', g1', g2', gf'⟩ := three_of hbl.out
          have hS := Lib.hid (RL.on hWb.out hS.out)
          obtain ⟨W, hW⟩ : ∃ W, wr.alloc (Obj.cells #[.int .i64 x.id, .string x.lb, .int .i64 x.out, .int .i64 x.inn, .slice p1 n1 c1] 46) = W := ⟨_, rfl⟩
          rw [hW] at hW0 hWb hbl2 hS
          obtain ⟨g0, g1, g2, gf⟩ := three_of hbl2
          obtain ⟨x0, x1, x2, x3, x4, xf⟩ := five_of hW0
          have hBW := Lib.hid (bel_then hB.out hWb.out)
          have hsq := hS.out.2.2.2.2
          have q50 : ∀ d os, Calls Try.prog 58 #[.string x.lb] (grow (redrawn W d) os) fun e w'' => e = .returned (.bool (nmB x.lb)) ∧ ∃ p : Regrown, w'' = grow (redrawn W p.d) p.os := fun d os => Calls.regrown_of (name_d _ _)
          have q51 : ∀ d os, Calls Try.prog 84 #[.slice p1 n1 c1] (grow (redrawn W d) os) fun e w'' => e = .returned (.bool (psMay x.ps)) ∧ ∃ p : Regrown, w'' = grow (redrawn W p.d) p.os := fun d os => Calls.regrown_of (props84 x.ps _ _ (hsq.on (below_regrown W d os)))
          have y0 := cell_regrown g0
          have y1 := cell_regrown g1
          have y2 := cell_regrown g2
          have z0 := cell_regrown x0
          have z1 := cell_regrown x1
          have z2 := cell_regrown x2
          have z3 := cell_regrown x3
          have z4 := cell_regrown x4
          replace hbl2 := Lib.hid hbl2
          replace hW0 := Lib.hid hW0
          clear hsq hS
          have hXo := Lib.hid (show x.lb = x.lb from rfl)
          generalize nmB x.lb = B1 at *
          generalize psMay x.ps = B2 at *
          obtain ⟨Rst, hRst⟩ : ∃ r, elsFrom top (pid Lk.ee es (i + 1)) ((es.drop (i + 1)).map Lk.ee) = r := ⟨_, rfl⟩
          rw [hRst] at HM'
          replace hRst := Lib.hid hRst
          clear hlast
          by_cases d1 : x.id < 1
          · have hr := Lib.hid (f2.out (by rw [← HM'.out, decide_eq_false (show ¬ q < x.id by omega)]; rfl))
            have d1' : decide (x.id < 1) = true := decide_eq_true d1
            clear HM' hprev
            go_wp2
            refine wp_region_quiet_below mixed (by kernel_rfl) ?_
            repeat (go_big_quiet_step (first | exact q50 _ _ | exact q51 _ _))
            refine wpQuiet_nil ?_
            intro _ hw'
            obtain ⟨⟨dq, osq⟩, hw''⟩ := hw'
            subst hw''
            have B7 := Lib.hid (below_regrown W dq osq)
            generalize grow (redrawn W dq) osq = w7 at B7 ⊢
            go_wp2
            go_ret
            exact ⟨by rw [hr.out]; rfl, bel_then hBW.out B7.out⟩
          have d1' : decide (x.id < 1) = false := decide_eq_false d1
          by_cases d2 : top < x.id
          · have hr := Lib.hid (f2.out (by rw [← HM'.out, decide_eq_false (show ¬ x.id ≤ top by omega)]; simp))
            have d2' : decide (top < x.id) = true := decide_eq_true d2
            clear HM' hprev
            go_wp2
            refine wp_region_quiet_below mixed (by kernel_rfl) ?_
            repeat (go_big_quiet_step (first | exact q50 _ _ | exact q51 _ _))
            refine wpQuiet_nil ?_
            intro _ hw'
            obtain ⟨⟨dq, osq⟩, hw''⟩ := hw'
            subst hw''
            have B7 := Lib.hid (below_regrown W dq osq)
            generalize grow (redrawn W dq) osq = w7 at B7 ⊢
            go_wp2
            go_ret
            exact ⟨by rw [hr.out]; rfl, bel_then hBW.out B7.out⟩
          have d2' : decide (top < x.id) = false := decide_eq_false d2
          have HM' : Hid ((decide (q < x.id) && B1 && B2 && Rst) = Bq) := by
            show _ = _
            rw [← HM'.out, decide_eq_true (show x.id ≤ top by omega), Bool.and_true]
          by_cases hi1 : i = 0
          · have hnz : (decide (0 < i)) = false := decide_eq_false (by omega)
            have hnz' : (decide ((0 : Int) < (i : Int))) = false := decide_eq_false (by omega)
            have hq0 : q = 0 := hqz.out hi1
            clear hprev hi1 hqz
            have HM' : Hid ((B1 && B2 && Rst) = Bq) := by
              show _ = _
              rw [← HM'.out, decide_eq_true (show q < x.id by omega), Bool.true_and]
            cases B1 with
            | false =>
              have hr := Lib.hid (f2.out (by rw [← HM'.out]; rfl))
              clear HM'
              go_wp2
              refine wp_region_quiet_below mixed (by kernel_rfl) ?_
              repeat (go_big_quiet_step (first | exact q50 _ _ | exact q51 _ _))
              refine wpQuiet_nil ?_
              intro _ hw'
              obtain ⟨⟨dq, osq⟩, hw''⟩ := hw'
              subst hw''
              have B7 := Lib.hid (below_regrown W dq osq)
              generalize grow (redrawn W dq) osq = w7 at B7 ⊢
              go_wp2
              go_ret
              exact ⟨by rw [hr.out]; rfl, bel_then hBW.out B7.out⟩
            | true =>
              cases B2 with
              | false =>
                have hr := Lib.hid (f2.out (by rw [← HM'.out]; rfl))
                clear HM'
                go_wp2
                refine wp_region_quiet_below mixed (by kernel_rfl) ?_
                repeat (go_big_quiet_step (first | exact q50 _ _ | exact q51 _ _))
                refine wpQuiet_nil ?_
                intro _ hw'
                obtain ⟨⟨dq, osq⟩, hw''⟩ := hw'
                subst hw''
                have B7 := Lib.hid (below_regrown W dq osq)
                generalize grow (redrawn W dq) osq = w7 at B7 ⊢
                go_wp2
                go_ret
                exact ⟨by rw [hr.out]; rfl, bel_then hBW.out B7.out⟩
              | true =>
                have HM' : Hid (Rst = Bq) := HM'.out
                go_wp2
                refine wp_region_quiet_below mixed (by kernel_rfl) ?_
                repeat (go_big_quiet_step (first | exact q50 _ _ | exact q51 _ _))
                refine wpQuiet_nil ?_
                intro _ hw'
                obtain ⟨⟨dq, osq⟩, hw''⟩ := hw'
                subst hw''
                have B7 := Lib.hid (below_regrown W dq osq)
                generalize grow (redrawn W dq) osq = w7 at B7 ⊢
                have hbl7 := Lib.hid (blk_on B7.out hbl2.out)
                have hW7 := Lib.hid (blk_on B7.out hW0.out)
                have hB7 := Lib.hid (bel_then hBW.out B7.out)
                obtain ⟨u0, u1, u2, uf⟩ := three_of hbl7.out
                obtain ⟨v0, v1, v2, v3, v4, vf⟩ := five_of hW7.out
                clear q50 q51
                rw [show lkOk vs x = (!hasV vs x.id && hasV vs x.out && hasV vs x.inn) from rfl] at hF hT
                go_wp2_with (fail)
                refine (c13 x.id _ hB7.out).mono ?_
                rintro e v8 ⟨hb8, p8, n8, c8, rfl, -⟩
                have HB8 := Lib.hid (bel_then (bel_then hB7.out hb8) (bel1 v8 (Obj.cells #[.int .i64 (vTell vs x.id).id, .string (vTell vs x.id).lb, .slice p8 n8 c8] 40)))
                have hG8 := Lib.hid (blk_on (bel1 v8 (Obj.cells #[.int .i64 (vTell vs x.id).id, .string (vTell vs x.id).lb, .slice p8 n8 c8] 40)) (blk_on hb8 hbl7.out))
                have hX8 := Lib.hid (blk_on (bel1 v8 (Obj.cells #[.int .i64 (vTell vs x.id).id, .string (vTell vs x.id).lb, .slice p8 n8 c8] 40)) (blk_on hb8 hW7.out))
                obtain ⟨ga8, gb8, gc8, gf8⟩ := three_of hG8.out
                obtain ⟨xa8, xb8, xc8, xd8, xe8, xf8⟩ := five_of hX8.out
                go_wp2_with (fail)
                generalize (v8.alloc (Obj.cells #[.int .i64 (vTell vs x.id).id, .string (vTell vs x.id).lb, .slice p8 n8 c8] 40)) = w9 at *
                refine (c13 x.out _ HB8.out).mono ?_
                rintro e v10 ⟨hb10, p10, n10, c10, rfl, -⟩
                have HB10 := Lib.hid (bel_then (bel_then HB8.out hb10) (bel1 v10 (Obj.cells #[.int .i64 (vTell vs x.out).id, .string (vTell vs x.out).lb, .slice p10 n10 c10] 40)))
                have hG10 := Lib.hid (blk_on (bel1 v10 (Obj.cells #[.int .i64 (vTell vs x.out).id, .string (vTell vs x.out).lb, .slice p10 n10 c10] 40)) (blk_on hb10 hG8.out))
                have hX10 := Lib.hid (blk_on (bel1 v10 (Obj.cells #[.int .i64 (vTell vs x.out).id, .string (vTell vs x.out).lb, .slice p10 n10 c10] 40)) (blk_on hb10 hX8.out))
                obtain ⟨ga10, gb10, gc10, gf10⟩ := three_of hG10.out
                obtain ⟨xa10, xb10, xc10, xd10, xe10, xf10⟩ := five_of hX10.out
                go_wp2_with (fail)
                generalize (v10.alloc (Obj.cells #[.int .i64 (vTell vs x.out).id, .string (vTell vs x.out).lb, .slice p10 n10 c10] 40)) = w11 at *
                refine (c13 x.inn _ HB10.out).mono ?_
                rintro e v12 ⟨hb12, p12, n12, c12, rfl, -⟩
                have HB12 := Lib.hid (bel_then (bel_then HB10.out hb12) (bel1 v12 (Obj.cells #[.int .i64 (vTell vs x.inn).id, .string (vTell vs x.inn).lb, .slice p12 n12 c12] 40)))
                have hG12 := Lib.hid (blk_on (bel1 v12 (Obj.cells #[.int .i64 (vTell vs x.inn).id, .string (vTell vs x.inn).lb, .slice p12 n12 c12] 40)) (blk_on hb12 hG10.out))
                have hX12 := Lib.hid (blk_on (bel1 v12 (Obj.cells #[.int .i64 (vTell vs x.inn).id, .string (vTell vs x.inn).lb, .slice p12 n12 c12] 40)) (blk_on hb12 hX10.out))
                obtain ⟨ga12, gb12, gc12, gf12⟩ := three_of hG12.out
                obtain ⟨xa12, xb12, xc12, xd12, xe12, xf12⟩ := five_of hX12.out
                generalize hasV vs x.id = A1 at *
                generalize hasV vs x.out = A2 at *
                generalize hasV vs x.inn = A3 at *
                clear c13
                cases A1 with
                | true =>
                  have hr := Lib.hid (f3.out (hF.out rfl))
                  go_wp2
                  go_ret
                  exact ⟨by rw [hr.out]; rfl, HB12.out⟩
                | false =>
                  cases A2 with
                  | false =>
                    have hr := Lib.hid (f3.out (hF.out rfl))
                    go_wp2
                    go_ret
                    exact ⟨by rw [hr.out]; rfl, HB12.out⟩
                  | true =>
                    cases A3 with
                    | false =>
                      have hr := Lib.hid (f3.out (hF.out rfl))
                      go_wp2
                      go_ret
                      exact ⟨by rw [hr.out]; rfl, HB12.out⟩
                    | true =>
                      have hr := Lib.hid (hT.out rfl)
                      go_wp2
                      go_roundg k
                      case measure => omega
                      case rel => exact ⟨i + 1, by omega, by first | rfl | simp, HB12.out, hG12.out, by show _ = _; exact hRst.out.trans HM'.out, by show _ ≤ _; rw [hpn.out]; omega, hr.out⟩
          · obtain ⟨j, rfl⟩ : ∃ j, i = j + 1 := ⟨i - 1, by omega⟩
            have hcj := some_on hWb.out (hprev.out j rfl)
            have hcjW := cell_regrown hcj
            have hnz : (decide (0 < j + 1)) = true := decide_eq_true (by omega)
            have hnz' : (decide ((0 : Int) < ((j + 1 : Nat) : Int))) = true := decide_eq_true (by omega)
            have hnz'' : (decide ((0 : Int) < (j : Int) + 1)) = true := decide_eq_true (by omega)
            clear hprev hi1 hqz
            by_cases d3 : x.id ≤ q
            · have hr := Lib.hid (f2.out (by rw [← HM'.out, decide_eq_false (show ¬ q < x.id by omega)]; rfl))
              have d3' : decide (x.id ≤ q) = true := decide_eq_true d3
              clear HM'
              go_wp2
              refine wp_region_quiet_below mixed (by kernel_rfl) ?_
              repeat (go_big_quiet_step (first | exact q50 _ _ | exact q51 _ _))
              refine wpQuiet_nil ?_
              intro _ hw'
              obtain ⟨⟨dq, osq⟩, hw''⟩ := hw'
              subst hw''
              have B7 := Lib.hid (below_regrown W dq osq)
              generalize grow (redrawn W dq) osq = w7 at B7 ⊢
              go_wp2
              go_ret
              exact ⟨by rw [hr.out]; rfl, bel_then hBW.out B7.out⟩
            have d3' : decide (x.id ≤ q) = false := decide_eq_false d3
            have HM' : Hid ((B1 && B2 && Rst) = Bq) := by
              show _ = _
              rw [← HM'.out, decide_eq_true (show q < x.id by omega), Bool.true_and]
            cases B1 with
            | false =>
              have hr := Lib.hid (f2.out (by rw [← HM'.out]; rfl))
              clear HM'
              go_wp2
              refine wp_region_quiet_below mixed (by kernel_rfl) ?_
              repeat (go_big_quiet_step (first | exact q50 _ _ | exact q51 _ _))
              refine wpQuiet_nil ?_
              intro _ hw'
              obtain ⟨⟨dq, osq⟩, hw''⟩ := hw'
              subst hw''
              have B7 := Lib.hid (below_regrown W dq osq)
              generalize grow (redrawn W dq) osq = w7 at B7 ⊢
              go_wp2
              go_ret
              exact ⟨by rw [hr.out]; rfl, bel_then hBW.out B7.out⟩
            | true =>
              cases B2 with
              | false =>
                have hr := Lib.hid (f2.out (by rw [← HM'.out]; rfl))
                clear HM'
                go_wp2
                refine wp_region_quiet_below mixed (by kernel_rfl) ?_
                repeat (go_big_quiet_step (first | exact q50 _ _ | exact q51 _ _))
                refine wpQuiet_nil ?_
                intro _ hw'
                obtain ⟨⟨dq, osq⟩, hw''⟩ := hw'
                subst hw''
                have B7 := Lib.hid (below_regrown W dq osq)
                generalize grow (redrawn W dq) osq = w7 at B7 ⊢
                go_wp2
                go_ret
                exact ⟨by rw [hr.out]; rfl, bel_then hBW.out B7.out⟩
              | true =>
                have HM' : Hid (Rst = Bq) := HM'.out
                go_wp2
                refine wp_region_quiet_below mixed (by kernel_rfl) ?_
                repeat (go_big_quiet_step (first | exact q50 _ _ | exact q51 _ _))
                refine wpQuiet_nil ?_
                intro _ hw'
                obtain ⟨⟨dq, osq⟩, hw''⟩ := hw'
                subst hw''
                have B7 := Lib.hid (below_regrown W dq osq)
                generalize grow (redrawn W dq) osq = w7 at B7 ⊢
                have hbl7 := Lib.hid (blk_on B7.out hbl2.out)
                have hW7 := Lib.hid (blk_on B7.out hW0.out)
                have hB7 := Lib.hid (bel_then hBW.out B7.out)
                obtain ⟨u0, u1, u2, uf⟩ := three_of hbl7.out
                obtain ⟨v0, v1, v2, v3, v4, vf⟩ := five_of hW7.out
                clear q50 q51
                rw [show lkOk vs x = (!hasV vs x.id && hasV vs x.out && hasV vs x.inn) from rfl] at hF hT
                go_wp2_with (fail)
                refine (c13 x.id _ hB7.out).mono ?_
                rintro e v8 ⟨hb8, p8, n8, c8, rfl, -⟩
                have HB8 := Lib.hid (bel_then (bel_then hB7.out hb8) (bel1 v8 (Obj.cells #[.int .i64 (vTell vs x.id).id, .string (vTell vs x.id).lb, .slice p8 n8 c8] 40)))
                have hG8 := Lib.hid (blk_on (bel1 v8 (Obj.cells #[.int .i64 (vTell vs x.id).id, .string (vTell vs x.id).lb, .slice p8 n8 c8] 40)) (blk_on hb8 hbl7.out))
                have hX8 := Lib.hid (blk_on (bel1 v8 (Obj.cells #[.int .i64 (vTell vs x.id).id, .string (vTell vs x.id).lb, .slice p8 n8 c8] 40)) (blk_on hb8 hW7.out))
                obtain ⟨ga8, gb8, gc8, gf8⟩ := three_of hG8.out
                obtain ⟨xa8, xb8, xc8, xd8, xe8, xf8⟩ := five_of hX8.out
                go_wp2_with (fail)
                generalize (v8.alloc (Obj.cells #[.int .i64 (vTell vs x.id).id, .string (vTell vs x.id).lb, .slice p8 n8 c8] 40)) = w9 at *
                refine (c13 x.out _ HB8.out).mono ?_
                rintro e v10 ⟨hb10, p10, n10, c10, rfl, -⟩
                have HB10 := Lib.hid (bel_then (bel_then HB8.out hb10) (bel1 v10 (Obj.cells #[.int .i64 (vTell vs x.out).id, .string (vTell vs x.out).lb, .slice p10 n10 c10] 40)))
                have hG10 := Lib.hid (blk_on (bel1 v10 (Obj.cells #[.int .i64 (vTell vs x.out).id, .string (vTell vs x.out).lb, .slice p10 n10 c10] 40)) (blk_on hb10 hG8.out))
                have hX10 := Lib.hid (blk_on (bel1 v10 (Obj.cells #[.int .i64 (vTell vs x.out).id, .string (vTell vs x.out).lb, .slice p10 n10 c10] 40)) (blk_on hb10 hX8.out))
                obtain ⟨ga10, gb10, gc10, gf10⟩ := three_of hG10.out
                obtain ⟨xa10, xb10, xc10, xd10, xe10, xf10⟩ := five_of hX10.out
                go_wp2_with (fail)
                generalize (v10.alloc (Obj.cells #[.int .i64 (vTell vs x.out).id, .string (vTell vs x.out).lb, .slice p10 n10 c10] 40)) = w11 at *
                refine (c13 x.inn _ HB10.out).mono ?_
                rintro e v12 ⟨hb12, p12, n12, c12, rfl, -⟩
                have HB12 := Lib.hid (bel_then (bel_then HB10.out hb12) (bel1 v12 (Obj.cells #[.int .i64 (vTell vs x.inn).id, .string (vTell vs x.inn).lb, .slice p12 n12 c12] 40)))
                have hG12 := Lib.hid (blk_on (bel1 v12 (Obj.cells #[.int .i64 (vTell vs x.inn).id, .string (vTell vs x.inn).lb, .slice p12 n12 c12] 40)) (blk_on hb12 hG10.out))
                have hX12 := Lib.hid (blk_on (bel1 v12 (Obj.cells #[.int .i64 (vTell vs x.inn).id, .string (vTell vs x.inn).lb, .slice p12 n12 c12] 40)) (blk_on hb12 hX10.out))
                obtain ⟨ga12, gb12, gc12, gf12⟩ := three_of hG12.out
                obtain ⟨xa12, xb12, xc12, xd12, xe12, xf12⟩ := five_of hX12.out
                generalize hasV vs x.id = A1 at *
                generalize hasV vs x.out = A2 at *
                generalize hasV vs x.inn = A3 at *
                clear c13
                cases A1 with
                | true =>
                  have hr := Lib.hid (f3.out (hF.out rfl))
                  go_wp2
                  go_ret
                  exact ⟨by rw [hr.out]; rfl, HB12.out⟩
                | false =>
                  cases A2 with
                  | false =>
                    have hr := Lib.hid (f3.out (hF.out rfl))
                    go_wp2
                    go_ret
                    exact ⟨by rw [hr.out]; rfl, HB12.out⟩
                  | true =>
                    cases A3 with
                    | false =>
                      have hr := Lib.hid (f3.out (hF.out rfl))
                      go_wp2
                      go_ret
                      exact ⟨by rw [hr.out]; rfl, HB12.out⟩
                    | true =>
                      have hr := Lib.hid (hT.out rfl)
                      go_wp2
                      go_roundg k
                      case measure => omega
                      case rel => exact ⟨j + 1 + 1, by omega, by first | rfl | simp, HB12.out, hG12.out, by show _ = _; exact hRst.out.trans HM'.out, by show _ ≤ _; rw [hpn.out]; omega, hr.out⟩
        | zero =>
          have hiN : M = i := by omega
          subst hiN
          have hAu : Hid (Bq = true) := by
            show _ = _
            rw [← hm.out, List.drop_eq_nil_of_le (by have := hlem.out; omega)]; rfl
          clear hm hy
          obtain ⟨g0, g1, g2, gf⟩ := three_of hbl.out
          have hCt : Hid (C = true) := by
            show _ = _
            rw [← hC.out]
            unfold lksMay
            rw [List.all_eq_true]
            intro e he
            obtain ⟨t, ht, rfl⟩ := List.getElem_of_mem he
            exact hall.out t ht (by have := hlem.out; omega)
          have hr := Lib.hid (f4.out hAt.out hAu.out hCt.out)
          clear c13 hall
          go_wp2
          go_ret
          exact ⟨by rw [hr.out]; rfl, hB.out⟩
end Go.Proofs.Yteknbploiombiaa
