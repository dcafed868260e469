/-
  Which graphs may be: no walk.
  Which rows of properties may be: the document's props.
  The document's V: the vertex of an id, if there is one.
-/
import Derived.Test.YtbgikgeknnmelaaGreatZVtx
import Derived.Test.YtbgikgeknnmelaaGreatPpt
import Derived.Test.YtbgikgeknnmelaaGreatName
import Derived.Lib.QuietBelow
import Derived.BigQuiet
import Derived.Laws.Cover1
import Derived.Laws.Cover2
import Derived.Test.YtbgikgeknnmelaaGreatRefCheck
namespace Go.Proofs.YtbgikgeknnmelaaGreat
open Go.RowKit Go.Sort
set_option linter.unusedVariables false

/-- A name stands below another one. -/
def bl (a b : ByteArray) : Bool := Op.bytesLess a.toList b.toList
def nmB (s : ByteArray) : Bool := nm s.data.toList
/-- The properties from here on may be, behind one of that name. -/
def psFrom : Option ByteArray → List Pr → Bool
  | _, [] => true
  | q, p :: r => nmB p.nm && (match q with | none => true | some a => bl a p.nm) && p.v.may 1 && psFrom (some p.nm) r
def psMay (l : List Pr) : Bool := decide (l.length ≤ 16) && psFrom none l
/-- The name ahead of the place i. -/
def ahd (l : List Pr) : Nat → Option ByteArray
  | 0 => none
  | i + 1 => (l[i]?).map Pr.nm
theorem ps_step {l : List Pr} {i : Nat} (h : i < l.length) : psFrom (ahd l i) (l.drop i) = (nmB l[i].nm && (match ahd l i with | none => true | some a => bl a l[i].nm) && l[i].v.may 1 && psFrom (ahd l (i + 1)) (l.drop (i + 1))) := by
  rw [List.drop_eq_getElem_cons h]
  have e : ahd l (i + 1) = some l[i].nm := by unfold ahd; simp [h]
  rw [e]
  rfl
theorem set3_blk {W : World} {B : Nat} {t : TypeId} {a b c a' b' c' : Value} (h : W.heap[B]? = some (.cells #[a, b, c] t)) : (((W.setCell ⟨B, 0, none⟩ a').setCell ⟨B, 1, none⟩ b').setCell ⟨B, 2, none⟩ c').heap[B]? = some (.cells #[a', b', c'] t) := by
  simp [World.setCell, Array.getElem?_modify, h]
theorem oth_blk {W : World} {B B' i : Nat} {o : Obj} {c : Value} (h : W.heap[B]? = some o) (hne : B ≠ B') : (W.setCell ⟨B', i, none⟩ c).heap[B]? = some o := (Below.heap_setCell _ _ _ _ (by show B ≠ B'; exact hne)).trans h
theorem oth_blk3 {W : World} {B B' : Nat} {o : Obj} {a b c : Value} (h : W.heap[B]? = some o) (hne : B ≠ B') : (((W.setCell ⟨B', 0, none⟩ a).setCell ⟨B', 1, none⟩ b).setCell ⟨B', 2, none⟩ c).heap[B]? = some o := oth_blk (oth_blk (oth_blk h hne) hne) hne
theorem bel_set4 {W : World} {B b1 b2 : Nat} (h1 : B ≤ b1) (h2 : B ≤ b2) (a b c d : Value) : Below B W ((((W.setCell ⟨b1, 0, none⟩ a).setCell ⟨b1, 1, none⟩ b).setCell ⟨b1, 2, none⟩ c).setCell ⟨b2, 0, none⟩ d) :=
  ((((Below.refl B W).setCell (p := ⟨b1, 0, none⟩) h1 _).setCell (p := ⟨b1, 1, none⟩) h1 _).setCell (p := ⟨b1, 2, none⟩) h1 _).setCell (p := ⟨b2, 0, none⟩) h2 _
theorem hdP {w : World} {lo : Nat} {x : Pr} {sl : Value} (h : RP.In w lo x sl) : ∃ p n c, sl = .slice p n c := h.2.header
theorem hdV {w : World} {lo : Nat} {x : Vx} {sl : Value} (h : RV.In w lo x sl) : ∃ p n c, sl = .slice p n c := by
  obtain ⟨p, c, e⟩ := h.2.2.header; exact ⟨p, _, c, e⟩
theorem hdL {w : World} {lo : Nat} {x : Lk} {sl : Value} (h : RL.In w lo x sl) : ∃ p n c, sl = .slice p n c := by
  obtain ⟨p, c, e⟩ := h.2.2.2.2.header; exact ⟨p, _, c, e⟩
theorem mixed : Tryz.prog.follows .mixedOrders = true := by kernel_rfl
theorem err_ne (v : V) : (v.err != 0) = !(v.may 1) := by unfold V.err; cases v.may 1 <;> rfl
/-- What vertices and edges have in common. -/
abbrev Ee := Int × ByteArray × List Pr
def Vx.ee (x : Vx) : Ee := (x.id, x.lb, x.ps)
def Lk.ee (x : Lk) : Ee := (x.id, x.lb, x.ps)
def elOk (top last : Int) (x : Ee) : Bool := decide (last < x.1) && decide (x.1 ≤ top) && nmB x.2.1 && psMay x.2.2
def elsFrom (top : Int) : Int → List Ee → Bool
  | _, [] => true
  | a, x :: r => elOk top a x && elsFrom top x.1 r
/-- Is there a vertex of that id? -/
def hasV (vs : List Vx) (id : Int) : Bool := decide (id ∈ vs.map Vx.id)
theorem hasV_no {vs : List Vx} {id : Int} (h : ∀ t (ht : t < vs.length), vs[t].id ≠ id) : hasV vs id = false := by
  unfold hasV
  refine decide_eq_false fun hm => ?_
  obtain ⟨v, hv, e⟩ := List.mem_map.1 hm
  obtain ⟨t, ht, rfl⟩ := List.getElem_of_mem hv
  exact h t ht e
theorem hasV_yes {vs : List Vx} {id : Int} {t : Nat} (ht : t < vs.length) (h : vs[t].id = id) : hasV vs id = true := by
  unfold hasV
  exact decide_eq_true (List.mem_map.2 ⟨_, List.getElem_mem ht, h⟩)
def lkOk (vs : List Vx) (e : Lk) : Bool := !hasV vs e.id && hasV vs e.out && hasV vs e.inn
def lksMay (vs : List Vx) (es : List Lk) : Bool := es.all (lkOk vs)
theorem lks_no {vs : List Vx} {es : List Lk} {i : Nat} (h : i < es.length) (hf : lkOk vs es[i] = false) : lksMay vs es = false := by
  unfold lksMay
  rw [List.all_eq_false]
  exact ⟨_, List.getElem_mem h, by simp [hf]⟩
/-- A graph may be. -/
def gMay (g : Gg) : Bool := decide (0 ≤ g.last) && decide (g.last ≤ 281474976710656) && decide (g.vs.length ≤ 2048) && decide (g.es.length ≤ 2048) && elsFrom g.last 0 (g.vs.map Vx.ee) && elsFrom g.last 0 (g.es.map Lk.ee) && lksMay g.vs g.es
def Gg.err (g : Gg) : Int := if gMay g = true then 0 else 103
theorem err_no {g : Gg} (h : gMay g = false) : g.err = 103 := by unfold Gg.err; rw [h]; rfl
theorem err_yes {g : Gg} (h : gMay g = true) : g.err = 0 := by unfold Gg.err; rw [h]; rfl
end Go.Proofs.YtbgikgeknnmelaaGreat
namespace Go.Proofs.YtbgikgeknnmelaaGreat
open Go.RowKit Go.Sort
set_option linter.unusedVariables false      -- a walk need not use every condition

theorem name_d (s : ByteArray) (w : World) : Calls Tryz.prog 84 #[.string s] w fun e w' => e = .returned (.bool (nmB s)) ∧ Below w.heap.size w w' :=
  (name39 s w).mono fun e w' ⟨h1, h2⟩ => ⟨h1, by rw [h2]; exact Below.refl _ _⟩
theorem leq_less : ∀ x y : List UInt8, (Op.bytesLess x y || x == y) = !Op.bytesLess y x
  | [], [] => by simp [Op.bytesLess]
  | _ :: _, [] => by simp [Op.bytesLess]
  | [], _ :: _ => by simp [Op.bytesLess]
  | a :: x, b :: y => by
    have ih := leq_less x y
    rw [Op.bytesLess, Op.bytesLess]
    have e1 : (a == b) = decide (a.toNat = b.toNat) := by rw [Bool.eq_iff_iff]; simp [UInt8.toNat_inj]
    have e2 : (b == a) = decide (b.toNat = a.toNat) := by rw [Bool.eq_iff_iff]; simp [UInt8.toNat_inj]
    rw [List.cons_beq_cons, e1, e2]
    simp only [UInt8.lt_iff_toNat_lt]
    rcases Nat.lt_trichotomy a.toNat b.toNat with h | h | h
    · have h1 : ¬ b.toNat < a.toNat := by omega
      have h2 : ¬ b.toNat = a.toNat := by omega
      simp [h, h1, h2]
    · simpa [h] using ih
    · have h1 : ¬ a.toNat < b.toNat := by omega
      have h2 : ¬ a.toNat = b.toNat := by omega
      simp [h, h1, h2]
set_option maxHeartbeats 8000000 in
set_option maxRecDepth 100000 in
theorem props85 (l : List Pr) (sl : Value) (w : World) (hs : Sq RP w 0 l sl) :
    Calls Tryz.prog 85 #[sl] w fun e w' => e = .returned (.bool (psMay l)) ∧ Below w.heap.size w w' := by
  obtain ⟨p, cap, rfl, hc, hcm, h72, hx⟩ := hs
  unfold maxLen at hcm
  have hx := Lib.hid hx
  by_cases h16 : l.length ≤ 16
  · have hRes : Hid (psMay l = psFrom none l) := by show _ = _; unfold psMay; rw [decide_eq_true h16, Bool.true_and]
    rw [hRes.out]
    clear hRes
    obtain ⟨N, hN⟩ : ∃ N, l.length = N := ⟨_, rfl⟩
    rw [hN] at hc h72 h16 ⊢
    have hlen : Hid (l.length = N) := hN
    clear hN
    have hz : ¬ (16 : Int) < (N : Int) := by omega
    obtain ⟨Res, hRes⟩ : ∃ R, psFrom none l = R := ⟨_, rfl⟩
    rw [hRes]
    have HR := Lib.hid hRes
    clear hRes h72
    go_enter Tryz.func85, Tryz.ntmps85
    go_wp2
    go_loopg [3] N (fun g s3 wr => ∃ (i : Nat), i + g = N ∧ s3 = .int .i64 i ∧ Hid (Below w.heap.size w wr) ∧ Hid (psFrom (ahd l i) (l.drop i) = Res))
    case atStart => exact ⟨0, by omega, rfl, Below.refl _ _, HR.out⟩
    case round =>
      obtain ⟨i, hig, rfl, hb, hm⟩ := hrel
      cases gk with
      | succ g =>
        have hi : i < l.length := by have := hlen.out; omega
        have hiz : (i : Int) < (N : Int) := by omega
        have hi0 : (0 : Int) ≤ (i : Int) := by omega
        obtain ⟨b, o, rfl, -, hx1⟩ := hx.out.resolve_left (by rintro rfl; simp at hi)
        obtain ⟨s1, hat, hv1⟩ := (hx1.on' hb.out).at i hi
        obtain ⟨p1, n1, c1, rfl⟩ := hdP hv1
        obtain ⟨a0, a1, a2, a3, a4⟩ := ats5 hat
        simp only [show RP.n = 5 from rfl] at a0 a1 a2 a3 a4
        have hm' := hm.out
        rw [ps_step hi] at hm'
        have HM' := Lib.hid hm'
        clear hm hm' hat hx
        have hv := Lib.hid hv1.2
        clear hv1
        have hprev : ∀ j, i = j + 1 → ∃ nj, ahd l i = some nj ∧ wr.cell? ⟨b, o + j * 5, none⟩ = some (.string nj) := fun j e => by
          have hj : j < l.length := by omega
          obtain ⟨s2, hat2, -⟩ := (hx1.on' hb.out).at j hj
          have := (ats5 hat2).1
          simp only [show RP.n = 5 from rfl] at this
          exact ⟨l[j].nm, by rw [e]; unfold ahd; simp [hj], this⟩
        have hprev := Lib.hid hprev
        generalize l[i] = x at *
        clear hx1
        have q50 : ∀ d os, Calls Tryz.prog 84 #[.string x.nm] (grow (redrawn wr d) os) fun e w'' => e = .returned (.bool (nmB x.nm)) ∧ ∃ p : Regrown, w'' = grow (redrawn wr p.d) p.os := fun d os => Calls.regrown_of (name_d _ _)
        have q94 : ∀ d os, Calls Tryz.prog 58 #[.agg #[.int .i64 x.v.k, .int .i64 x.v.n, .string x.v.s, .slice p1 n1 c1]] (grow (redrawn wr d) os) fun e w'' => e = .returned (.int .i64 x.v.err) ∧ ∃ p : Regrown, w'' = grow (redrawn wr p.d) p.os := fun d os => Calls.regrown_of (refCheck14 x.v _ _ (hv.out.on (below_regrown wr d os)))
        have he := err_ne x.v
        have y0 := cell_regrown a0
        have y1 := cell_regrown a1
        have y2 := cell_regrown a2
        have y3 := cell_regrown a3
        have y4 := cell_regrown a4
        generalize x.v.err = E at *
        generalize x.v.may 1 = B3 at *
        generalize x.v.k = X1 at *
        generalize x.v.n = X2 at *
        generalize x.v.s = X3 at *
        generalize hB1 : nmB x.nm = B1 at *
        cases B1 with
        | false =>
          have hr : Hid (false = Res) := by show _ = _; have := HM'.out; simpa using this
          clear HM' hprev he
          go_wp2
          refine wp_region_quiet_below mixed (by kernel_rfl) ?_
          repeat (go_big_quiet_step (first | exact q50 _ _ | exact q94 _ _))
          refine wpQuiet_nil ?_
          intro _ hw'
          obtain ⟨⟨dq, osq⟩, hw''⟩ := hw'
          subst hw''
          have B7 := Lib.hid (below_regrown wr dq osq)
          generalize grow (redrawn wr dq) osq = w7 at B7 ⊢
          go_wp2
          go_ret
          exact ⟨by rw [← hr.out]; rfl, bel_then hb.out B7.out⟩
        | true =>
          by_cases hi1 : i = 0
          · have hpk : ahd l i = none := by rw [hi1]; rfl
            rw [hpk] at HM'
            have hnz : (decide (0 < i)) = false := decide_eq_false (by omega)
            have hnz' : (decide ((0 : Int) < (i : Int))) = false := decide_eq_false (by omega)
            clear hprev hpk hi1
            cases B3 with
            | false =>
              have hr : Hid (false = Res) := by show _ = _; have := HM'.out; simpa using this
              have he' : (E != 0) = true := by simpa using he
              clear HM' he
              go_wp2
              refine wp_region_quiet_below mixed (by kernel_rfl) ?_
              repeat (go_big_quiet_step (first | exact q50 _ _ | exact q94 _ _))
              refine wpQuiet_nil ?_
              intro _ hw'
              obtain ⟨⟨dq, osq⟩, hw''⟩ := hw'
              subst hw''
              have B7 := Lib.hid (below_regrown wr dq osq)
              generalize grow (redrawn wr dq) osq = w7 at B7 ⊢
              go_wp2
              go_ret
              exact ⟨by rw [← hr.out]; rfl, bel_then hb.out B7.out⟩
            | true =>
              have HM2 : Hid (psFrom (ahd l (i + 1)) (l.drop (i + 1)) = Res) := by show _ = _; have := HM'.out; simpa using this
              have he' : (E != 0) = false := by simpa using he
              clear HM' he
              go_wp2
              refine wp_region_quiet_below mixed (by kernel_rfl) ?_
              repeat (go_big_quiet_step (first | exact q50 _ _ | exact q94 _ _))
              refine wpQuiet_nil ?_
              intro _ hw'
              obtain ⟨⟨dq, osq⟩, hw''⟩ := hw'
              subst hw''
              have B7 := Lib.hid (below_regrown wr dq osq)
              generalize grow (redrawn wr dq) osq = w7 at B7 ⊢
              go_wp2
              go_roundg g
              case measure => omega
              case rel => exact ⟨i + 1, by omega, by first | rfl | simp, bel_then hb.out B7.out, HM2⟩
          · obtain ⟨j, rfl⟩ : ∃ j, i = j + 1 := ⟨i - 1, by omega⟩
            obtain ⟨nj, hpk, hcj⟩ := hprev.out j rfl
            rw [hpk] at HM'
            have hcjW := cell_regrown hcj
            have hnz : (decide (0 < j + 1)) = true := decide_eq_true (by omega)
            have hnz' : (decide ((0 : Int) < ((j + 1 : Nat) : Int))) = true := decide_eq_true (by omega)
            have hnz'' : (decide ((0 : Int) < (j : Int) + 1)) = true := decide_eq_true (by omega)
            clear hprev hpk hi1
            generalize hB2 : bl nj x.nm = B2 at *
            have hbl : Op.bytesLess nj.toList x.nm.toList = B2 := hB2
            have hle : (Op.bytesLess x.nm.toList nj.toList || x.nm.toList == nj.toList) = !B2 := by rw [leq_less, hbl]
            clear hB2
            cases B2 with
            | false =>
              have hr : Hid (false = Res) := by show _ = _; have := HM'.out; simpa [bl, hbl] using this
              clear HM' he
              go_wp2
              refine wp_region_quiet_below mixed (by kernel_rfl) ?_
              repeat (go_big_quiet_step (first | exact q50 _ _ | exact q94 _ _))
              refine wpQuiet_nil ?_
              intro _ hw'
              obtain ⟨⟨dq, osq⟩, hw''⟩ := hw'
              subst hw''
              have B7 := Lib.hid (below_regrown wr dq osq)
              generalize grow (redrawn wr dq) osq = w7 at B7 ⊢
              go_wp2
              go_ret
              exact ⟨by rw [← hr.out]; rfl, bel_then hb.out B7.out⟩
            | true =>
              cases B3 with
              | false =>
                have hr : Hid (false = Res) := by show _ = _; have := HM'.out; simpa [bl, hbl] using this
                have he' : (E != 0) = true := by simpa using he
                clear HM' he
                go_wp2
                refine wp_region_quiet_below mixed (by kernel_rfl) ?_
                repeat (go_big_quiet_step (first | exact q50 _ _ | exact q94 _ _))
                refine wpQuiet_nil ?_
                intro _ hw'
                obtain ⟨⟨dq, osq⟩, hw''⟩ := hw'
                subst hw''
                have B7 := Lib.hid (below_regrown wr dq osq)
                generalize grow (redrawn wr dq) osq = w7 at B7 ⊢
                go_wp2
                go_ret
                exact ⟨by rw [← hr.out]; rfl, bel_then hb.out B7.out⟩
              | true =>
                have HM2 : Hid (psFrom (ahd l (j + 1 + 1)) (l.drop (j + 1 + 1)) = Res) := by show _ = _; have := HM'.out; simpa [bl, hbl] using this
                have he' : (E != 0) = false := by simpa using he
                clear HM' he
                go_wp2
                refine wp_region_quiet_below mixed (by kernel_rfl) ?_
                repeat (go_big_quiet_step (first | exact q50 _ _ | exact q94 _ _))
                refine wpQuiet_nil ?_
                intro _ hw'
                obtain ⟨⟨dq, osq⟩, hw''⟩ := hw'
                subst hw''
                have B7 := Lib.hid (below_regrown wr dq osq)
                generalize grow (redrawn wr dq) osq = w7 at B7 ⊢
                go_wp2
                go_roundg g
                case measure => omega
                case rel => exact ⟨j + 1 + 1, by omega, by first | rfl | simp, bel_then hb.out B7.out, HM2⟩
      | zero =>
        have hA : Hid (true = Res) := by
          show _ = _
          rw [← hm.out, List.drop_eq_nil_of_le (by have := hlen.out; omega)]; unfold psFrom; rfl
        obtain rfl : i = N := by omega
        clear hm hx
        go_wp2
        go_ret
        exact ⟨by rw [← hA.out]; rfl, hb.out⟩
  · have hRes : Hid (psMay l = false) := by show _ = _; unfold psMay; rw [decide_eq_false h16, Bool.false_and]
    rw [hRes.out]
    clear hRes hx h72
    have hz : (16 : Int) < (l.length : Int) := by omega
    go_enter Tryz.func85, Tryz.ntmps85
    go_wp2
    go_ret
    exact ⟨rfl, Below.refl _ _⟩
end Go.Proofs.YtbgikgeknnmelaaGreat
namespace Go.Proofs.YtbgikgeknnmelaaGreat
open Go.RowKit
set_option linter.unusedVariables false      -- a walk need not use every condition

def zeroVx : Vx := ⟨0, "".toUTF8, []⟩
/-- The vertex of that id. -/
def vAt (vs : List Vx) (id : Int) : Option Vx := vs.find? fun x => decide (x.id = id)
theorem vAt_yes {vs : List Vx} {id : Int} {i : Nat} (hi : i < vs.length) (h : vs[i].id = id) (hf : ∀ t (ht : t < vs.length), t < i → vs[t].id ≠ id) : vAt vs id = some vs[i] := by
  unfold vAt
  rw [List.find?_eq_some_iff_getElem]
  exact ⟨by simpa using h, i, hi, rfl, fun j hj => by simpa using hf j (by omega) hj⟩
theorem vAt_no {vs : List Vx} {id : Int} (h : ∀ t (ht : t < vs.length), vs[t].id ≠ id) : vAt vs id = none := by
  unfold vAt
  rw [List.find?_eq_none]
  intro x hx
  obtain ⟨t, ht, rfl⟩ := List.getElem_of_mem hx
  simpa using h t ht
theorem hasV_at (vs : List Vx) (id : Int) : hasV vs id = (vAt vs id).isSome := by
  by_cases h : hasV vs id = true
  · rw [h]
    unfold hasV at h
    obtain ⟨x, hx, e⟩ := List.mem_map.1 (of_decide_eq_true h)
    unfold vAt
    symm
    rw [List.find?_isSome]
    exact ⟨x, hx, by simpa using e⟩
  · have h' : hasV vs id = false := by simpa using h
    rw [h']
    cases hv : vAt vs id with
    | none => rfl
    | some x =>
      exfalso
      apply h
      unfold hasV
      unfold vAt at hv
      exact decide_eq_true (List.mem_map.2 ⟨x, List.mem_of_find?_eq_some hv, by simpa using List.find?_some hv⟩)
/-- What V answers. -/
def vTell (vs : List Vx) (id : Int) : Vx := (vAt vs id).getD zeroVx
set_option maxHeartbeats 4000000 in
theorem v86 (g : Gg) (sv se : Value) (id : Int) (w : World) (hg : Gg.In w 0 g sv se) :
    Calls Tryz.prog 86 #[g.agg sv se, .int .i64 id] w fun e w' => Below w.heap.size w w' ∧
      ∃ p n c, e = .returned (.tuple #[(vTell g.vs id).agg (.slice p n c), .bool (hasV g.vs id)]) ∧ RV.In w' 0 (vTell g.vs id) (.slice p n c) := by
  obtain ⟨-, hV, hE⟩ := hg
  obtain ⟨pv, cv, rfl, hvc, hvm, -, hx⟩ := hV
  obtain ⟨pe, ce, rfl⟩ := hE.header
  unfold maxLen at hvm
  have hx := Lib.hid hx
  unfold Gg.agg
  obtain ⟨top, htop⟩ : ∃ t, g.last = t := ⟨_, rfl⟩
  rw [htop]
  obtain ⟨vs, hvs⟩ : ∃ vs, g.vs = vs := ⟨_, rfl⟩
  rw [hvs] at hx hvc ⊢
  obtain ⟨ne, hne⟩ : ∃ n, g.es.length = n := ⟨_, rfl⟩
  rw [hne]
  obtain ⟨N, hN⟩ : ∃ n, vs.length = n := ⟨_, rfl⟩
  rw [hN] at hvc ⊢
  have hlen := Lib.hid hN
  have hbb := hasV_at vs id
  clear hN hne htop hvs hE
  have hb0 := Lib.hid (bel1 w (Obj.cells #[.slice pv N cv, .slice pe ne ce, .int .i64 top] 86))
  have hblk := Lib.hid (World.alloc_heap_new w (Obj.cells #[.slice pv N cv, .slice pe ne ce, .int .i64 top] 86))
  obtain ⟨Tl, hTl⟩ : ∃ t, vTell vs id = t := ⟨_, rfl⟩
  have hY : Hid (∀ i (hi : i < vs.length), vs[i].id = id → (∀ t (ht : t < vs.length), t < i → vs[t].id ≠ id) → hasV vs id = true ∧ Tl = vs[i]) := fun i hi h hf => by
    rw [← hTl]
    unfold vTell
    rw [hbb, vAt_yes hi h hf]
    exact ⟨rfl, rfl⟩
  have hNo : Hid ((∀ t (ht : t < vs.length), vs[t].id ≠ id) → hasV vs id = false ∧ Tl = zeroVx) := fun h => by
    rw [← hTl]
    unfold vTell
    rw [hbb, vAt_no h]
    exact ⟨rfl, rfl⟩
  rw [hTl]
  clear hTl hbb
  generalize hasV vs id = Bv at *
  go_enter Tryz.func86, Tryz.ntmps86
  go_wp2
  have hBa := Lib.hid (bel_then hb0.out (bel1 (w.alloc (Obj.cells #[.slice pv N cv, .slice pe ne ce, .int .i64 top] 86)) (Obj.cells #[.int .i64 0, .string ⟨#[]⟩, .slice none 0 0] 24)))
  have hba := World.alloc_heap_new (w.alloc (Obj.cells #[.slice pv N cv, .slice pe ne ce, .int .i64 top] 86)) (Obj.cells #[.int .i64 0, .string ⟨#[]⟩, .slice none 0 0] 24)
  have hg0 := Lib.hid (blk_on (bel1 (w.alloc (Obj.cells #[.slice pv N cv, .slice pe ne ce, .int .i64 top] 86)) (Obj.cells #[.int .i64 0, .string ⟨#[]⟩, .slice none 0 0] 24)) hblk.out)
  rw [show (w.alloc (Obj.cells #[.slice pv N cv, .slice pe ne ce, .int .i64 top] 86)).heap.size = w.heap.size + 1 by simp] at hba
  have hba := Lib.hid hba
  generalize ((w.alloc (Obj.cells #[.slice pv N cv, .slice pe ne ce, .int .i64 top] 86)).alloc (Obj.cells #[.int .i64 0, .string ⟨#[]⟩, .slice none 0 0] 24)) = W at *
  clear hb0 hblk
  go_loopg [6] N (fun k s6 wr => ∃ i : Nat, i + k = N ∧ s6 = .int .i64 i ∧ Hid (Below W.heap.size W wr) ∧ Hid (∀ t (ht : t < vs.length), t < i → vs[t].id ≠ id))
  case atStart => exact ⟨0, by omega, rfl, Below.refl _ _, fun t _ h => absurd h (Nat.not_lt_zero _)⟩
  case round =>
    obtain ⟨i, hig, rfl, hB, hall⟩ := hrel
    have hg1 := Lib.hid (blk_on hB.out hg0.out)
    have hr1 := Lib.hid (blk_on hB.out hba.out)
    obtain ⟨q0, q1, q2, qf⟩ := three_of hg1.out
    obtain ⟨r0, r1, r2, rf⟩ := three_of hr1.out
    have hBB := Lib.hid (bel_then hBa.out hB.out)
    cases gk with
    | succ k =>
      have hi : i < vs.length := by have := hlen.out; omega
      have hiz : (i : Int) < (N : Int) := by omega
      have hi0 : (0 : Int) ≤ (i : Int) := by omega
      obtain ⟨b, o, rfl, -, hx1⟩ := hx.out.resolve_left (by intro e; rw [e] at hi; simp at hi)
      obtain ⟨s1, hat0, hv1⟩ := hx1.at i hi
      have hat := hat0.keep (keep_below hBB.out) (Nat.zero_le _)
      obtain ⟨p1, n1, c1, rfl⟩ := hdV hv1
      obtain ⟨a0, a1, a2⟩ := ats3 hat
      simp only [show RV.n = 3 from rfl] at a0 a1 a2
      have hF : Hid (vs[i].id ≠ id → ∀ t (ht : t < vs.length), t < i + 1 → vs[t].id ≠ id) := fun h t ht hti => by
        by_cases e : t = i
        · subst e; exact h
        · exact hall.out t ht (by omega)
      have hYi := Lib.hid (fun h => hY.out i hi h hall.out)
      have hv1 := Lib.hid hv1
      clear hat hat0 hx1 hx hY
      generalize vs[i] = x at *
      by_cases he : x.id = id
      · have heb : (x.id == id) = true := by simpa using he
        obtain ⟨rfl, rfl⟩ := hYi.out he
        have hb3 := Lib.hid (((hBB.out.setCell (p := ⟨w.heap.size + 1, 0, none⟩) (by show w.heap.size ≤ w.heap.size + 1; omega) (.int .i64 Tl.id)).setCell (p := ⟨w.heap.size + 1, 1, none⟩) (by show w.heap.size ≤ w.heap.size + 1; omega) (.string Tl.lb)).setCell (p := ⟨w.heap.size + 1, 2, none⟩) (by show w.heap.size ≤ w.heap.size + 1; omega) (.slice p1 n1 c1))
        have hblk3 := set3_blk (a' := .int .i64 Tl.id) (b' := .string Tl.lb) (c' := .slice p1 n1 c1) hr1.out
        obtain ⟨t0, t1, t2, tf⟩ := three_of hblk3
        have hI3 := Lib.hid (RV.on hb3.out hv1.out)
        clear hF hNo he hblk3
        go_wp2
        simp [bodyPost, results, Tryz.results86, go_sem, t0, t1, t2]
        exact ⟨hb3.out, p1, n1, c1, rfl, hI3.out⟩
      · have heb : (x.id == id) = false := by simpa using he
        have hr := Lib.hid (hF.out he)
        clear hYi
        go_wp2
        go_roundg k
        case measure => omega
        case rel => exact ⟨i + 1, by omega, by first | rfl | simp, hB.out, hr.out⟩
    | zero =>
      obtain rfl : i = N := by omega
      obtain ⟨rfl, rfl⟩ := hNo.out fun t ht => hall.out t ht (by have := hlen.out; omega)
      have hb3 := Lib.hid (((hBB.out.setCell (p := ⟨w.heap.size + 1, 0, none⟩) (by show w.heap.size ≤ w.heap.size + 1; omega) (.int .i64 0)).setCell (p := ⟨w.heap.size + 1, 1, none⟩) (by show w.heap.size ≤ w.heap.size + 1; omega) (.string ⟨#[]⟩)).setCell (p := ⟨w.heap.size + 1, 2, none⟩) (by show w.heap.size ≤ w.heap.size + 1; omega) (.slice none 0 0))
      have hblk3 := set3_blk (a' := .int .i64 0) (b' := .string ⟨#[]⟩) (c' := .slice none 0 0) hr1.out
      obtain ⟨t0, t1, t2, tf⟩ := three_of hblk3
      clear hx hY hall hblk3
      go_wp2
      simp [bodyPost, results, Tryz.results86, go_sem, t0, t1, t2]
      exact ⟨hb3.out, none, 0, 0, rfl, ⟨by show I64 0; unfold I64; decide, by show S64 "".toUTF8; unfold S64; decide, Sq.nil _ _⟩⟩
end Go.Proofs.YtbgikgeknnmelaaGreat
