/-
  What readPage of a layout does.
-/
import Derived.Test.YtfakgfmgofblgaaGreatDoorZGet
import Derived.Test.YtfakgfmgofblgaaGreatDoorZWpRfRh
import Derived.Test.YtfakgfmgofblgaaGreatDoorZNhElRpRcRcs
namespace Go.Proofs.YtfakgfmgofblgaaGreatDoor
open Go.RowKit Go.Maps
set_option linter.unusedVariables false      -- a walk need not use every condition
attribute [local go_sem ↓] Go.wp_at_zero Go.wp_at_succ

def dmg (e : Int) : Int := if e = 9 then 9 else 70
/-- The first pieces of a page, as they stand in its sectors, or what is wrong. -/
def Dsk.rpo (s : Dsk) (a n : Nat) : Nat → Int × List (List UInt8)
  | 0 => (0, [])
  | i + 1 => if (s.rpo a n i).1 ≠ 0 then s.rpo a n i
      else if (s.get ((a + i : Nat) : Int) 4 ((n + i : Nat) : Int)).2 ≠ 0 then (dmg (s.get ((a + i : Nat) : Int) 4 ((n + i : Nat) : Int)).2, (s.rpo a n i).2)
      else if (s.get ((a + i : Nat) : Int) 4 ((n + i : Nat) : Int)).1 ≠ [] ∧ 0 < i ∧ ((s.rpo a n i).2.getD (i - 1) []).length < 112 then (70, (s.rpo a n i).2)
      else (0, (s.rpo a n i).2 ++ [(s.get ((a + i : Nat) : Int) 4 ((n + i : Nat) : Int)).1])
def Dsk.rpg (s : Dsk) (slots page : Nat) : List UInt8 × Int := if (s.rpo (2 + slots + 4 * page) (4 * page) 4).1 ≠ 0 then ([], (s.rpo (2 + slots + 4 * page) (4 * page) 4).1) else ((s.rpo (2 + slots + 4 * page) (4 * page) 4).2.flatten, 0)
theorem rpo_stop (s : Dsk) (a n : Nat) {x : Nat} (h : (s.rpo a n x).1 ≠ 0) : ∀ y, s.rpo a n (x + y) = s.rpo a n x
  | 0 => rfl
  | y + 1 => by
    have ih := rpo_stop s a n h y
    show s.rpo a n ((x + y) + 1) = _
    rw [Dsk.rpo, ih, if_pos h]
theorem rpo_len (s : Dsk) (a n : Nat) : ∀ x, (s.rpo a n x).1 = 0 → (s.rpo a n x).2.length = x
  | 0, _ => rfl
  | x + 1, h => by
    rw [Dsk.rpo] at h ⊢
    by_cases h0 : (s.rpo a n x).1 ≠ 0
    · rw [if_pos h0] at h; exact absurd h h0
    · rw [if_neg h0] at h ⊢
      have ih := rpo_len s a n x (by simpa using h0)
      by_cases h1 : (s.get ((a + x : Nat) : Int) 4 ((n + x : Nat) : Int)).2 ≠ 0
      · rw [if_pos h1] at h
        unfold dmg at h
        simp only at h
        split at h <;> cases h
      · rw [if_neg h1] at h ⊢
        split at h
        · cases h
        · rename_i h2
          rw [if_neg h2]
          simp [ih]
theorem get_le (s : Dsk) {w : World} {d pb mb : Nat} (h : At w d pb mb s) (a k n : Int) : (s.get a k n).1.length ≤ 112 := by
  unfold Dsk.get getB
  split
  · simp
  · split
    · simp
    · split
      · simp
      · split
        · simp
        · rename_i h1 h2 h3 h4
          exact oP_le _
theorem set_vs (vs : List Value) (x : Nat) (hx : vs.length = x) (h4 : x < 4) (z v : Value) : (vs ++ List.replicate (4 - x) z).toArray.setIfInBounds x v = ((vs ++ [v]) ++ List.replicate (4 - (x + 1)) z).toArray := by
  apply Array.ext'
  rw [Array.toList_setIfInBounds]
  simp only [List.append_assoc, List.cons_append, List.nil_append]
  rw [List.set_append_right _ _ (by omega), hx, Nat.sub_self, show 4 - x = (4 - (x + 1)) + 1 by omega, List.replicate_succ, List.set_cons_zero]
/-- Pieces lie in an array of four. -/
def PcI (B : Nat) (wr : World) (L : List (List UInt8)) : Prop := ∃ vs : List Value, vs.length = L.length ∧ wr.heap[B]? = some (.cells (vs ++ List.replicate (4 - L.length) (Value.slice none 0 0)).toArray 184) ∧ ∀ i (h : i < L.length), ∃ p c, vs[i]? = some (.slice p L[i].length c) ∧ Bs wr (.slice p L[i].length c) L[i] ∧ Fresh (B + 1) (.slice p L[i].length c)
theorem pcI_on {B : Nat} {w w' : World} {L : List (List UInt8)} (h : PcI B w L) (hb : Below w.heap.size w w') : PcI B w' L := by
  obtain ⟨vs, h1, h2, h3⟩ := h
  refine ⟨vs, h1, blk_on hb h2, fun i hi => ?_⟩
  obtain ⟨p, c, e1, e2, e3⟩ := h3 i hi
  exact ⟨p, c, e1, e2.on hb, e3⟩
theorem pcI_put {B : Nat} {w : World} {L : List (List UInt8)} {p : Option Addr} {c : Nat} {t : List UInt8} (h : PcI B w L) (h4 : L.length < 4) (hb : Bs w (.slice p t.length c) t) (hf : Fresh (B + 1) (.slice p t.length c)) : PcI B (w.setCell ⟨B, L.length, none⟩ (.slice p t.length c)) (L ++ [t]) := by
  obtain ⟨vs, h1, h2, h3⟩ := h
  have hg := gr_set w B L.length (.slice p t.length c)
  refine ⟨vs ++ [.slice p t.length c], by simp [h1], ?_, fun i hi => ?_⟩
  · rw [blk_set h2, set_vs vs L.length h1 h4, List.length_append]
    rfl
  · rw [List.length_append, List.length_singleton] at hi
    by_cases hl : i < L.length
    · obtain ⟨q, k, e1, e2, e3⟩ := h3 i hl
      have e : (L ++ [t])[i] = L[i] := List.getElem_append_left hl
      rw [e]
      exact ⟨q, k, by rw [List.getElem?_append_left (by omega)]; exact e1, e2.grownB hg (fun g o n c' ee => by have := e3 g o n c' ee; omega), e3⟩
    · obtain rfl : i = L.length := by omega
      have e : (L ++ [t])[L.length] = t := by simp
      rw [e]
      exact ⟨p, c, by rw [List.getElem?_append_right (by omega), h1, Nat.sub_self]; rfl, hb.grownB hg (fun g o n c' ee => by have := hf g o n c' ee; omega), hf⟩
theorem pcI_cell {B : Nat} {w : World} {L : List (List UInt8)} (h : PcI B w L) {i : Nat} (hi : i < 4) : (∃ v, w.cell? ⟨B, i, none⟩ = some v) ∧ w.frozen? ⟨B, i, none⟩ = false := by
  obtain ⟨vs, h1, h2, -⟩ := h
  refine ⟨?_, by unfold World.frozen?; simp only [h2]; simp⟩
  unfold World.cell?
  simp only [h2]
  have hl : i < (vs ++ List.replicate (4 - L.length) (Value.slice none 0 0)).length := by simp; omega
  exact ⟨(vs ++ List.replicate (4 - L.length) (Value.slice none 0 0))[i], by simp [List.getElem?_eq_getElem hl]⟩
theorem pcI_bss {B : Nat} {w : World} {L : List (List UInt8)} (h : PcI B w L) (h4 : L.length = 4) : Bss w (.slice (some ⟨B, 0, none⟩) 4 4) L := by
  obtain ⟨vs, h1, h2, h3⟩ := h
  refine ⟨_, 4, by rw [h4], .inr ⟨B, 0, rfl, fun i hi => ?_⟩⟩
  obtain ⟨p, c, e1, e2, e3⟩ := h3 i hi
  refine ⟨_, ?_, e2⟩
  unfold World.cell?
  simp only [h2, Nat.zero_add]
  rw [List.getElem?_toArray, List.getElem?_append_left (by omega)]
  simp [e1]
set_option maxHeartbeats 4000000 in
set_option maxRecDepth 100000 in
theorem readPage105 (w : World) (d pb mb : Nat) (s : Dsk) (h : At w d pb mb s) (hT : TabOk w) (slots page : Nat) (pages : Int) (hs : slots ≤ 4096) (hp : page ≤ 2048) :
    Calls Tryz.prog 105 #[.agg #[.int .i64 slots, .int .i64 pages], .pointer (some ⟨d, 0, none⟩), .int .i64 page] w fun e w' => ∃ v, e = .returned (.tuple #[v, .int .i64 (s.rpg slots page).2]) ∧ Bs w' v (s.rpg slots page).1 ∧ Fresh w.heap.size v ∧ Below w.heap.size w w' := by
  have HA := Lib.hid h
  have HT := Lib.hid hT
  obtain ⟨a, ha⟩ : ∃ a, 2 + slots + 4 * page = a := ⟨_, rfl⟩
  have c137 := fun W => sectorOf137 W pages slots page hs hp
  rw [ha] at c137
  have ha2 : a ≤ 2 + 4096 + 4 * 2048 := by omega
  obtain ⟨FR, hFR⟩ : ∃ FR, s.rpg slots page = FR := ⟨_, rfl⟩
  have HFR : Hid ((if (s.rpo a (4 * page) 4).1 ≠ 0 then ([], (s.rpo a (4 * page) 4).1) else ((s.rpo a (4 * page) 4).2.flatten, 0)) = FR) := by show _ = _; rw [← hFR]; unfold Dsk.rpg; rw [ha]
  rw [hFR]
  have e1 : IntKind.i64.wrap ((4 : Int) * (page : Int)) = 4 * (page : Int) := by rw [IntKind.wrap_i64]; omega
  have HGL : Hid (∀ x k n, (s.get x k n).1.length ≤ 112) := fun x k n => get_le s h x k n
  obtain ⟨W0, hW0⟩ : ∃ W0, (w.alloc (.cells #[.int .i64 (slots : Int), .int .i64 pages] 60)).alloc (.cells #[.slice none 0 0, .slice none 0 0, .slice none 0 0, .slice none 0 0] 184) = W0 := ⟨_, rfl⟩
  have B0 := Lib.hid (show Below w.heap.size w W0 by rw [← hW0]; exact bel_then (bel1 w _) (bel1 _ _))
  have K0 := Lib.hid (show W0.heap[w.heap.size]? = some (.cells #[.int .i64 (slots : Int), .int .i64 pages] 60) by rw [← hW0]; exact blk_on (bel1 _ _) (heap_alloc_last w _))
  have I0 := Lib.hid (show PcI (w.heap.size + 1) W0 [] by
    refine ⟨[], rfl, ?_, fun i hi => (by cases hi)⟩
    rw [← hW0]
    have := heap_alloc_last (w.alloc (.cells #[.int .i64 (slots : Int), .int .i64 pages] 60)) (.cells #[.slice none 0 0, .slice none 0 0, .slice none 0 0, .slice none 0 0] 184)
    rw [World.size_alloc] at this
    exact this)
  have Z0 := Lib.hid (show W0.heap.size = w.heap.size + 2 by rw [← hW0]; simp)
  clear h hT ha hFR
  go_enter Tryz.func105, Tryz.ntmps105
  go_wp2
  go_loopg [12] 4 (fun gk s12 wr => ∃ x : Nat, x + gk = 4 ∧ s12 = .int .i64 x ∧ Hid ((s.rpo a (4 * page) x).1 = 0) ∧ Hid (PcI (w.heap.size + 1) wr (s.rpo a (4 * page) x).2) ∧ Hid (Below (w.heap.size + 1) W0 wr))
  case atStart => exact ⟨0, rfl, rfl, (rfl : _ = _), I0.out, Below.refl _ _⟩
  case round =>
    obtain ⟨x, hxg, rfl, hz, hI, hB⟩ := hrel
    have hbl : Below w.heap.size w wr := B0.out.trans (hB.out.mono (by omega))
    have HBl := Lib.hid hbl
    have HLn := Lib.hid (rpo_len s a (4 * page) x hz.out)
    have hzs : Hid (w.heap.size + 2 ≤ wr.heap.size) := by show _ ≤ _; have := hB.out.size; have := Z0.out; omega
    have kx := Lib.hid ((hB.out.block _ (by omega)).trans K0.out)
    cases gk with
    | zero =>
      obtain rfl : x = 4 := by omega
      have hF : FR = ((s.rpo a (4 * page) 4).2.flatten, 0) := by rw [← HFR.out, if_neg (fun e => e hz.out)]
      have hbss := pcI_bss hI.out HLn.out
      obtain ⟨L, hL⟩ : ∃ L, (s.rpo a (4 * page) 4).2 = L := ⟨_, rfl⟩
      rw [hL] at hF hbss
      have hfl : L.flatten.length ≤ 448 := by
        have h4 := HLn.out
        rw [hL] at h4
        obtain ⟨vs, -, -, -⟩ := hI.out
        have key : ∀ l : List (List UInt8), (∀ t ∈ l, t.length ≤ 112) → l.flatten.length ≤ 112 * l.length := fun l => by
          induction l with
          | nil => intro _; simp
          | cons t r ih =>
            intro h
            have h1 := h t (List.mem_cons_self)
            have h2 := ih (fun u hu => h u (List.mem_cons_of_mem _ hu))
            simp only [List.flatten_cons, List.length_append, List.length_cons]
            omega
        have hall : ∀ y, (s.rpo a (4 * page) y).1 = 0 → ∀ t ∈ (s.rpo a (4 * page) y).2, t.length ≤ 112 := fun y => by
          induction y with
          | zero => intro _ t ht; cases ht
          | succ y ih =>
            intro hy t ht
            rw [Dsk.rpo] at hy ht
            by_cases c0 : (s.rpo a (4 * page) y).1 ≠ 0
            · rw [if_pos c0] at hy; exact absurd hy c0
            · rw [if_neg c0] at hy ht
              have ih' := ih (by simpa using c0)
              by_cases c1 : (s.get ((a + y : Nat) : Int) 4 ((4 * page + y : Nat) : Int)).2 ≠ 0
              · rw [if_pos c1] at ht; exact ih' t ht
              · rw [if_neg c1] at ht
                split at ht
                · exact ih' t ht
                · rcases List.mem_append.1 ht with ht | ht
                  · exact ih' t ht
                  · simp at ht; subst ht; exact HGL.out _ _ _
        have := key L (by rw [← hL]; exact hall 4 hz.out)
        omega
      have hll : L.length = 4 := by rw [← hL]; exact HLn.out
      have c150 := join150 wr _ L hbss (by omega) (by omega)
      generalize L.flatten = FL at *
      subst hF
      clear hL hbss hI hz
      go_wp2_with (first | (go_at_call 150; refine c150.mono ?_; rintro e w9 ⟨v9, rfl, hv9, hb9⟩; have HV9 := Lib.hid hv9; obtain ⟨vp, vc, rfl, -⟩ := hv9.bs; clear hv9))
      go_ret2
      exact ⟨_, rfl, HV9.out.bs, HV9.out.fresh.mono HBl.out.size, bel_then HBl.out hb9⟩
    | succ g =>
      have hx4 : x < 4 := by omega
      have hxz : (x : Int) < 4 := by omega
      have hx0 : (0 : Int) ≤ (x : Int) := by omega
      have e2 : IntKind.i64.wrap (4 * (page : Int) + (x : Int)) = ((4 * page + x : Nat) : Int) := by rw [IntKind.wrap_i64]; omega
      have e3 : IntKind.i64.wrap ((a : Int) + (x : Int)) = ((a + x : Nat) : Int) := by rw [IntKind.wrap_i64]; omega
      obtain ⟨l0, l1, -⟩ := pair_of kx.out
      obtain ⟨AA, hAA⟩ : ∃ AA, a + x = AA := ⟨_, rfl⟩
      obtain ⟨NN, hNN⟩ : ∃ NN, 4 * page + x = NN := ⟨_, rfl⟩
      rw [hAA] at e3
      rw [hNN] at e2
      have c148 := fun (W : World) (hb : Below w.heap.size w W) => get148 W d pb mb s (HA.out.on hb) (AA : Int) 4 (NN : Int) (tab_on HT.out hb)
      have hgl := HGL.out (AA : Int) 4 (NN : Int)
      have HST : Hid (s.rpo a (4 * page) (x + 1) = if (s.get (AA : Int) 4 (NN : Int)).2 ≠ 0 then (dmg (s.get (AA : Int) 4 (NN : Int)).2, (s.rpo a (4 * page) x).2)
          else if (s.get (AA : Int) 4 (NN : Int)).1 ≠ [] ∧ 0 < x ∧ ((s.rpo a (4 * page) x).2.getD (x - 1) []).length < 112 then (70, (s.rpo a (4 * page) x).2)
          else (0, (s.rpo a (4 * page) x).2 ++ [(s.get (AA : Int) 4 (NN : Int)).1])) := by
        show _ = _
        rw [Dsk.rpo, if_neg (fun e => e hz.out), hAA, hNN]
      have HSP : Hid ((s.rpo a (4 * page) (x + 1)).1 ≠ 0 → FR = ([], (s.rpo a (4 * page) (x + 1)).1)) := fun hne => by
        have := rpo_stop s a (4 * page) hne (4 - (x + 1))
        rw [show x + 1 + (4 - (x + 1)) = 4 by omega] at this
        rw [← HFR.out, this, if_pos hne]
      generalize s.get (AA : Int) 4 (NN : Int) = G at *
      obtain ⟨gb, ge⟩ := G
      simp only at c148 HST hgl
      obtain ⟨L, hL⟩ : ∃ L, (s.rpo a (4 * page) x).2 = L := ⟨_, rfl⟩
      rw [hL] at hI HST HLn
      clear hAA hNN hL hz
      by_cases hge : ge = 0
      · subst hge
        rw [if_neg (fun e => e rfl)] at HST
        by_cases hcond : gb ≠ [] ∧ 0 < x ∧ (L.getD (x - 1) []).length < 112
        · rw [if_pos hcond] at HST
          have hF : FR = ([], 70) := by
            have h1 := HST.out
            rw [HSP.out (by rw [h1]; show (70 : Int) ≠ 0; decide), h1]
          subst hF
          obtain ⟨vs, q1, q2, q3⟩ := hI.out
          have hxl : x - 1 < L.length := by rw [HLn.out]; omega
          obtain ⟨pp, pc', p1, p2, p3⟩ := q3 (x - 1) hxl
          have HCE : Hid (∀ W, Below wr.heap.size wr W → W.cell? ⟨w.heap.size + 1, x - 1, none⟩ = some (.slice pp (L.getD (x - 1) []).length pc')) := fun W hW => by
            have := blk_on hW q2
            unfold World.cell?
            simp only [this]
            rw [List.getElem?_toArray, List.getElem?_append_left (by rw [q1]; exact hxl), p1, List.getD_eq_getElem?_getD, List.getElem?_eq_getElem hxl]
            simp
          have hgb : (0 : Int) < (gb.length : Int) := by
            have : gb.length ≠ 0 := fun e => hcond.1 (List.eq_nil_of_length_eq_zero e)
            omega
          have hxp : (0 : Int) < (x : Int) := by omega
          have hlt112 : ((L.getD (x - 1) []).length : Int) < 112 := by omega
          have e4 : IntKind.i64.wrap ((x : Int) - 1) = ((x - 1 : Nat) : Int) := by rw [IntKind.wrap_i64]; omega
          have hy4 : ((x - 1 : Nat) : Int) < 4 := by omega
          have hy0 : (0 : Int) ≤ ((x - 1 : Nat) : Int) := by omega
          obtain ⟨y, hy⟩ : ∃ y, x - 1 = y := ⟨_, rfl⟩
          rw [hy] at HCE e4 hlt112 hy4 hy0
          generalize (L.getD y []).length = pl at *
          have HCC := hcond
          clear hcond q1 q2 q3 p1 p2 p3 hI hxl hy HCC
          go_wp2_with (first
            | (go_at_call 137; refine (c137 _).mono ?_; rintro r w6 ⟨rfl, hb6⟩; have HB6 := Lib.hid hb6; clear hb6)
            | (go_at_call 148; refine (c148 _ (bel_then HBl.out HB6.out)).mono ?_; rintro r w7 ⟨pv, rfl, hv7, hf7, hb7⟩
               obtain ⟨vp, vc, rfl, -⟩ := hv7
               have HB7 := Lib.hid (bel_then HB6.out hb7)
               have hcc := HCE.out w7 HB7.out
               clear hf7 hb7))
          go_ret2
          exact ⟨_, rfl, bs_nil _, fun _ _ _ _ e => (by cases e), bel_then HBl.out HB7.out⟩
        · rw [if_neg hcond] at HST
          have hcw : ∀ W, Below wr.heap.size wr W → (0 < gb.length → 0 < x → ∃ pp pl pc', W.cell? ⟨w.heap.size + 1, x - 1, none⟩ = some (.slice pp pl pc') ∧ ¬ ((pl : Int) < 112)) := fun W hW hg0 hx0' => by
            obtain ⟨vs, q1, q2, q3⟩ := hI.out
            have hxl : x - 1 < L.length := by rw [HLn.out]; omega
            obtain ⟨pp, pc', p1, p2, p3⟩ := q3 (x - 1) hxl
            refine ⟨pp, (L.getD (x - 1) []).length, pc', ?_, ?_⟩
            · have := blk_on hW q2
              unfold World.cell?
              simp only [this]
              rw [List.getElem?_toArray, List.getElem?_append_left (by rw [q1]; exact hxl), p1, List.getD_eq_getElem?_getD, List.getElem?_eq_getElem hxl]
              simp
            · intro hlt
              exact hcond ⟨(fun e => by rw [e] at hg0; cases hg0), hx0', by omega⟩
          have HCW := Lib.hid hcw
          have hxL := HLn.out
          clear hcw hcond
          by_cases hg0 : 0 < gb.length
          · have hgz : (0 : Int) < (gb.length : Int) := by omega
            by_cases hxp : 0 < x
            · have hxpz : (0 : Int) < (x : Int) := by omega
              have e4 : IntKind.i64.wrap ((x : Int) - 1) = ((x - 1 : Nat) : Int) := by rw [IntKind.wrap_i64]; omega
              have hy4 : ((x - 1 : Nat) : Int) < 4 := by omega
              have hy0 : (0 : Int) ≤ ((x - 1 : Nat) : Int) := by omega
              obtain ⟨y, hy⟩ : ∃ y, x - 1 = y := ⟨_, rfl⟩
              rw [hy] at HCW e4 hy4 hy0
              clear hy
              go_wp2_with (first
                | (go_at_call 137; refine (c137 _).mono ?_; rintro r w6 ⟨rfl, hb6⟩; have HB6 := Lib.hid hb6; clear hb6)
                | (go_at_call 148; refine (c148 _ (bel_then HBl.out HB6.out)).mono ?_; rintro r w7 ⟨pv, rfl, hv7, hf7, hb7⟩
                   have HV7 := Lib.hid hv7
                   have HF7 := Lib.hid hf7
                   obtain ⟨vp, vc, rfl, -⟩ := hv7
                   have HB7 := Lib.hid (bel_then HB6.out hb7)
                   obtain ⟨qp, ql, qc, hcc, hnl⟩ := HCW.out w7 HB7.out hg0 hxp
                   have hI7 := pcI_on hI.out HB7.out
                   obtain ⟨⟨cv, hcv⟩, hfv⟩ := pcI_cell hI7 hx4
                   have HI7 := Lib.hid hI7
                   have HZ7 : Hid (w.heap.size + 2 ≤ w6.heap.size) := by show _ ≤ _; have := HB6.out.size; have := hzs.out; omega
                   clear hf7 hb7 hI7))
              go_roundg g
              case measure => omega
              case rel =>
                refine ⟨x + 1, by omega, by first | rfl | simp, by show _ = _; rw [HST.out], ?_, ?_⟩
                · rw [HST.out]
                  have := pcI_put HI7.out (by omega) HV7.out (HF7.out.mono (by have := HZ7.out; omega))
                  rw [HLn.out] at this
                  exact this
                · exact ((hB.out.trans (HB7.out.mono (by have := hzs.out; omega))).grown (gr_set _ _ _ _) (by have := HB7.out.size; have := hzs.out; omega) (fun k e => by injection e with e; omega))
            · have hxn : ¬ ((0 : Int) < (x : Int)) := by omega
              go_wp2_with (first
                | (go_at_call 137; refine (c137 _).mono ?_; rintro r w6 ⟨rfl, hb6⟩; have HB6 := Lib.hid hb6; clear hb6)
                | (go_at_call 148; refine (c148 _ (bel_then HBl.out HB6.out)).mono ?_; rintro r w7 ⟨pv, rfl, hv7, hf7, hb7⟩
                   have HV7 := Lib.hid hv7
                   have HF7 := Lib.hid hf7
                   obtain ⟨vp, vc, rfl, -⟩ := hv7
                   have HB7 := Lib.hid (bel_then HB6.out hb7)
                   have hI7 := pcI_on hI.out HB7.out
                   obtain ⟨⟨cv, hcv⟩, hfv⟩ := pcI_cell hI7 hx4
                   have HI7 := Lib.hid hI7
                   have HZ7 : Hid (w.heap.size + 2 ≤ w6.heap.size) := by show _ ≤ _; have := HB6.out.size; have := hzs.out; omega
                   clear hf7 hb7 hI7))
              go_roundg g
              case measure => omega
              case rel =>
                refine ⟨x + 1, by omega, by first | rfl | simp, by show _ = _; rw [HST.out], ?_, ?_⟩
                · rw [HST.out]
                  have := pcI_put HI7.out (by omega) HV7.out (HF7.out.mono (by have := HZ7.out; omega))
                  rw [HLn.out] at this
                  exact this
                · exact ((hB.out.trans (HB7.out.mono (by have := hzs.out; omega))).grown (gr_set _ _ _ _) (by have := HB7.out.size; have := hzs.out; omega) (fun k e => by injection e with e; omega))
          · have hgz : ¬ ((0 : Int) < (gb.length : Int)) := by omega
            go_wp2_with (first
              | (go_at_call 137; refine (c137 _).mono ?_; rintro r w6 ⟨rfl, hb6⟩; have HB6 := Lib.hid hb6; clear hb6)
              | (go_at_call 148; refine (c148 _ (bel_then HBl.out HB6.out)).mono ?_; rintro r w7 ⟨pv, rfl, hv7, hf7, hb7⟩
                 have HV7 := Lib.hid hv7
                 have HF7 := Lib.hid hf7
                 obtain ⟨vp, vc, rfl, -⟩ := hv7
                 have HB7 := Lib.hid (bel_then HB6.out hb7)
                 have hI7 := pcI_on hI.out HB7.out
                 obtain ⟨⟨cv, hcv⟩, hfv⟩ := pcI_cell hI7 hx4
                 have HI7 := Lib.hid hI7
                 have HZ7 : Hid (w.heap.size + 2 ≤ w6.heap.size) := by show _ ≤ _; have := HB6.out.size; have := hzs.out; omega
                 clear hf7 hb7 hI7))
            go_roundg g
            case measure => omega
            case rel =>
              refine ⟨x + 1, by omega, by first | rfl | simp, by show _ = _; rw [HST.out], ?_, ?_⟩
              · rw [HST.out]
                have := pcI_put HI7.out (by omega) HV7.out (HF7.out.mono (by have := HZ7.out; omega))
                rw [HLn.out] at this
                exact this
              · exact ((hB.out.trans (HB7.out.mono (by have := hzs.out; omega))).grown (gr_set _ _ _ _) (by have := HB7.out.size; have := hzs.out; omega) (fun k e => by injection e with e; omega))
      · rw [if_pos hge] at HST
        have hdn : dmg ge ≠ 0 := by unfold dmg; split <;> decide
        have hF : FR = ([], dmg ge) := by
          have h1 := HST.out
          rw [HSP.out (by rw [h1]; exact hdn), h1]
        have hgn : (ge != 0) = true := by simpa using hge
        have c149 := fun W => damageOr149 W ge
        have HD : Hid (dmg ge = if ge = 9 then 9 else 70) := rfl
        rw [← HD.out] at c149
        obtain ⟨DG, hDG⟩ : ∃ DG, dmg ge = DG := ⟨_, rfl⟩
        rw [hDG] at hF c149
        subst hF
        clear hDG HD hdn HST
        go_wp2_with (first
          | (go_at_call 137; refine (c137 _).mono ?_; rintro r w6 ⟨rfl, hb6⟩; have HB6 := Lib.hid hb6; clear hb6)
          | (go_at_call 148; refine (c148 _ (bel_then HBl.out HB6.out)).mono ?_; rintro r w7 ⟨pv, rfl, hv7, hf7, hb7⟩
             obtain ⟨vp, vc, rfl, -⟩ := hv7
             have HB7 := Lib.hid (bel_then HB6.out hb7)
             clear hf7 hb7)
          | (go_at_call 149; refine (c149 _).mono ?_; rintro r w8 ⟨rfl, ew⟩; rw [ew]; clear ew w8))
        go_ret2
        exact ⟨_, rfl, bs_nil _, fun _ _ _ _ e => (by cases e), bel_then HBl.out HB7.out⟩
end Go.Proofs.YtfakgfmgofblgaaGreatDoor
