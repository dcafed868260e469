/-
  The document's with: a graph's clone with one element's properties written anew.
-/
import Derived.Test.YteknbploiombiaaZRup
import Derived.Test.YteknbploiombiaaZRatRlp
import Derived.Test.YteknbploiombiaaZGup
import Derived.Test.YteknbploiombiaaZFnd
namespace Go.Proofs.Yteknbploiombiaa
open Go.RowKit
set_option linter.unusedVariables false      -- a walk need not use every condition

theorem frz_on {w w' : World} (h : Below w.heap.size w w') {a : Addr} (hb : a.block < w.heap.size) (hf : w.frozen? a = false) : w'.frozen? a = false := by
  have e := h.block a.block hb
  unfold World.frozen? at hf ⊢
  rw [e]; exact hf
/-- What with hands back. -/
def Wt (g : Gg) (w : World) (e : Ending) (w' : World) : Prop := ∃ s1 s2, e = .returned (g.agg s1 s2) ∧ Gg.In w' w.heap.size g s1 s2 ∧ Below w.heap.size w w'
theorem wit_fin {g : Gg} {w W : World} {B lo : Nat} {s1 s2 a b c : Value} (h : Gg.In W lo g s1 s2) (hb : Below w.heap.size w W) (hB : w.heap.size ≤ B) (hlo : B < lo) :
    Gg.In (((W.setCell ⟨B, 0, none⟩ a).setCell ⟨B, 1, none⟩ b).setCell ⟨B, 2, none⟩ c) w.heap.size g s1 s2 ∧ Below w.heap.size w (((W.setCell ⟨B, 0, none⟩ a).setCell ⟨B, 1, none⟩ b).setCell ⟨B, 2, none⟩ c) :=
  ⟨h.keep (((keepB_set hlo).trans (keepB_set hlo)).trans (keepB_set hlo)).keep (by omega), ((hb.setCell (p := ⟨B, 0, none⟩) hB _).setCell (p := ⟨B, 1, none⟩) hB _).setCell (p := ⟨B, 2, none⟩) hB _⟩
set_option maxRecDepth 100000 in
set_option maxHeartbeats 8000000 in
theorem with63v (g : Gg) (sv se : Value) (id : Int) (s : ByteArray) (q : Option Addr) (m d : Nat) (ps ps0 : List Pr) (pp : Option Addr) (nn cc : Nat) (w : World) (hg : Gg.In w 0 g sv se) (hm : gMay g = true) (hel : elPs g 6 id = some ps0) (hps : Sq RP w 0 ps (.slice pp nn cc)) :
    Calls Try.prog 63 #[g.agg sv se, .agg #[.int .i64 6, .int .i64 id, .string s, .slice q m d], .slice pp nn cc] w fun e w' => Wt (gUp g 6 id fun _ => ps) w e w' := by
  have c95 := fun W hW => rcg56g g sv se W (hg.on (w' := W) hW)
  have c60 := fun s1 s2 W hW => at86v g s1 s2 id s q m d W hW
  have hbv := hg.2.1
  have hbe := hg.2.2
  obtain ⟨pv, cv, rfl, hvc0, hvm0, hbv', -⟩ := hbv
  obtain ⟨pe, ce, rfl, hec0, hem0, hbe', -⟩ := hbe
  have hbv := Lib.hid (show g.vs.length * 48 ≤ 140737488351232 from hbv')
  have hbe := Lib.hid (show g.es.length * 64 ≤ 140737488351232 from hbe')
  have h64 := Lib.hid hg.1
  have hvm : g.vs.length ≤ 9223372036854775807 := by unfold maxLen at hvm0; omega
  have hem : g.es.length ≤ 9223372036854775807 := by unfold maxLen at hem0; omega
  have hnoel : Hid ((∀ t (ht : t < g.vs.length), g.vs[t].id ≠ id) → False) := fun h => by
    unfold elPs at hel; rw [if_pos rfl] at hel
    rw [find_no_v h] at hel
    cases hel
  have hup : Hid (∀ i (hi : i < g.vs.length), g.vs[i].id = id → { g with vs := g.vs.set i { g.vs[i] with ps := ps } } = gUp g 6 id fun _ => ps) := fun i hi e => up_v hm hi e fun _ => ps
  obtain ⟨G', hG'⟩ : ∃ G', (gUp g 6 id fun _ => ps) = G' := ⟨_, rfl⟩
  rw [hG'] at hup ⊢
  have hlast : Hid (G'.last = g.last ∧ G'.vs.length = g.vs.length ∧ G'.es.length = g.es.length) := by
    rw [← hG']
    unfold gUp
    rw [if_pos rfl]
    exact ⟨rfl, by simp, by simp⟩
  unfold Gg.agg at c95 c60 ⊢
  obtain ⟨top, htop⟩ : ∃ t, g.last = t := ⟨_, rfl⟩
  obtain ⟨nv, hnv⟩ : ∃ n, g.vs.length = n := ⟨_, rfl⟩
  obtain ⟨ne, hne⟩ : ∃ n, g.es.length = n := ⟨_, rfl⟩
  rw [htop] at c95 c60
  rw [hnv] at c95 hvm ⊢
  rw [hne] at c95 hem ⊢
  rw [htop]
  rw [htop, hnv, hne] at hlast
  replace hnv := Lib.hid hnv
  replace hne := Lib.hid hne
  clear hG' hel hm hg htop hvc0 hvm0 hec0 hem0 hbv' hbe'
  have hb0 := Lib.hid (bel_then (bel2 w (Obj.cells #[.slice pv nv cv, .slice pe ne ce, .int .i64 top] 27) (Obj.cells #[.int .i64 6, .int .i64 id, .string s, .slice q m d] 30)) (bel1 _ (Obj.cells #[.slice none 0 0, .slice none 0 0, .int .i64 0] 27)))
  have n0 := World.alloc_heap_new w (Obj.cells #[.slice pv nv cv, .slice pe ne ce, .int .i64 top] 27)
  have n1 := World.alloc_heap_new (w.alloc (Obj.cells #[.slice pv nv cv, .slice pe ne ce, .int .i64 top] 27)) (Obj.cells #[.int .i64 6, .int .i64 id, .string s, .slice q m d] 30)
  have n2 := World.alloc_heap_new ((w.alloc (Obj.cells #[.slice pv nv cv, .slice pe ne ce, .int .i64 top] 27)).alloc (Obj.cells #[.int .i64 6, .int .i64 id, .string s, .slice q m d] 30)) (Obj.cells #[.slice none 0 0, .slice none 0 0, .int .i64 0] 27)
  replace n0 := blk_on (bel2 _ (Obj.cells #[.int .i64 6, .int .i64 id, .string s, .slice q m d] 30) (Obj.cells #[.slice none 0 0, .slice none 0 0, .int .i64 0] 27)) n0
  replace n1 := blk_on (bel1 _ (Obj.cells #[.slice none 0 0, .slice none 0 0, .int .i64 0] 27)) n1
  have hsz : Hid ((((w.alloc (Obj.cells #[.slice pv nv cv, .slice pe ne ce, .int .i64 top] 27)).alloc (Obj.cells #[.int .i64 6, .int .i64 id, .string s, .slice q m d] 30)).alloc (Obj.cells #[.slice none 0 0, .slice none 0 0, .int .i64 0] 27)).heap.size = w.heap.size + 3) := by show _ = _; simp
  simp only [World.size_alloc] at n1 n2
  replace n0 := Lib.hid n0
  replace n1 := Lib.hid n1
  replace n2 := Lib.hid n2
  go_enter Try.func63, Try.ntmps63
  go_wp2_with (fail)
  generalize (((w.alloc (Obj.cells #[.slice pv nv cv, .slice pe ne ce, .int .i64 top] 27)).alloc (Obj.cells #[.int .i64 6, .int .i64 id, .string s, .slice q m d] 30)).alloc (Obj.cells #[.slice none 0 0, .slice none 0 0, .int .i64 0] 27)) = W0 at *
  refine (c95 _ hb0.out).mono ?_
  rintro e w1 ⟨s1, s2, rfl, hg1, hb1, hgw⟩
  have hgw := Lib.hid hgw
  obtain ⟨p1, c1, rfl⟩ : ∃ p c, s1 = .slice p nv c := by
    obtain ⟨p, c, e⟩ := hg1.2.1.header
    exact ⟨p, c, by rw [e, hnv.out]⟩
  obtain ⟨p2, c2, rfl⟩ : ∃ p c, s2 = .slice p ne c := by
    obtain ⟨p, c, e⟩ := hg1.2.2.header
    exact ⟨p, c, by rw [e, hne.out]⟩
  rw [hsz.out] at hg1
  have m0 := blk_on hb1 n0.out
  have m1 := blk_on hb1 n1.out
  have m2 := blk_on hb1 n2.out
  obtain ⟨a0, a1, a2, fa⟩ := three_of m0
  have hk2 : KeepB (w.heap.size + 3) w1 (((w1.setCell ⟨w.heap.size, 0, none⟩ (.slice p1 nv c1)).setCell ⟨w.heap.size, 1, none⟩ (.slice p2 ne c2)).setCell ⟨w.heap.size, 2, none⟩ (.int .i64 top)) := ((keepB_set (by omega)).trans (keepB_set (by omega))).trans (keepB_set (by omega))
  have hg2 := Lib.hid ((hg1.keep hk2.keep (lo' := 0) (Nat.zero_le _) : Gg.In _ 0 _ _ _))
  have hB2 := ((((bel_then hb0.out hb1)).setCell (p := ⟨w.heap.size, 0, none⟩) (Nat.le_refl _) (.slice p1 nv c1)).setCell (p := ⟨w.heap.size, 1, none⟩) (Nat.le_refl _) (.slice p2 ne c2)).setCell (p := ⟨w.heap.size, 2, none⟩) (Nat.le_refl _) (.int .i64 top)
  have k0 := set3_blk (a' := .slice p1 nv c1) (b' := .slice p2 ne c2) (c' := .int .i64 top) m0
  have k1 := blk_oth (i := 2) (c := .int .i64 top) (B' := w.heap.size) (blk_oth (i := 1) (c := .slice p2 ne c2) (B' := w.heap.size) (blk_oth (i := 0) (c := .slice p1 nv c1) (B' := w.heap.size) m1 (by omega)) (by omega)) (by omega)
  have k2 := blk_oth (i := 2) (c := .int .i64 top) (B' := w.heap.size) (blk_oth (i := 1) (c := .slice p2 ne c2) (B' := w.heap.size) (blk_oth (i := 0) (c := .slice p1 nv c1) (B' := w.heap.size) m2 (by omega)) (by omega)) (by omega)
  obtain ⟨u0, u1, u2, fu⟩ := three_of k0
  obtain ⟨v0, v1, v2, v3⟩ := four_cells k1
  have hkw := Lib.hid hk2
  replace k0 := Lib.hid k0
  replace k1 := Lib.hid k1
  replace k2 := Lib.hid k2
  replace hB2 := Lib.hid hB2
  have hsz2 : Hid (w1.heap.size = (((w1.setCell ⟨w.heap.size, 0, none⟩ (.slice p1 nv c1)).setCell ⟨w.heap.size, 1, none⟩ (.slice p2 ne c2)).setCell ⟨w.heap.size, 2, none⟩ (.int .i64 top)).heap.size) := by show _ = _; simp [World.setCell]
  have hsz1 : Hid (w.heap.size + 3 ≤ w1.heap.size) := by show _ ≤ _; have := hsz.out; have := hb1.size; omega
  clear hk2 hg1 hb1 m0 m1 m2 n0 n1 n2 c95 hb0
  go_wp2_with (fail)
  generalize (((w1.setCell ⟨w.heap.size, 0, none⟩ (.slice p1 nv c1)).setCell ⟨w.heap.size, 1, none⟩ (.slice p2 ne c2)).setCell ⟨w.heap.size, 2, none⟩ (.int .i64 top)) = W2 at *
  refine (c60 _ _ _ hg2.out).mono ?_
  rintro e w3 ⟨hb3, ⟨i, hi, hid, hf, rfl⟩ | ⟨hno, rfl⟩⟩
  · have h0 := blk_on hb3 k0.out
    have h1 := blk_on hb3 k1.out
    have h2 := blk_on hb3 k2.out
    obtain ⟨x0, x1, x2, fx⟩ := three_of h0
    obtain ⟨y0, y1, y2, fy⟩ := three_of h2
    rw [hsz.out] at hgw
    obtain ⟨b, cap, hdr, e1, hlb, hbl, hcl, hcm, hcell, hfz, hwr⟩ := gw_v hgw.out h64.out hbv.out hbe.out i hi
    have hwr' := Lib.hid (hwr)
    have hkw3 : KeepB (w.heap.size + 3) w1 w3 := hkw.out.trans (keepB_below hb3)
    have hcell3 := hkw3.keep _ _ (by show w.heap.size + 3 ≤ b; omega) hcell
    obtain ⟨ob, hob⟩ : ∃ o, w1.heap[b]? = some o := ⟨_, Array.getElem?_eq_getElem hbl⟩
    have hob3 := hkw3 b ob (by omega) hob
    have hfz3 : w3.frozen? ⟨b, i * 3 + 2, none⟩ = false := by
      simp only [World.frozen?, hob] at hfz
      simp only [World.frozen?, hob3]
      exact hfz
    injection e1 with e1 e2 e3
    clear e2
    subst e1 e3
    rw [hnv.out] at hi hcl
    have hiN : (i : Int) < (nv : Int) := by omega
    have hi0 : (0 : Int) ≤ (i : Int) := by omega
    have hi2 : Hid (∃ hi' : i < g.vs.length, { g with vs := g.vs.set i { g.vs[i] with ps := ps } } = G') := ⟨by rw [hnv.out]; exact hi, hup.out i _ hid⟩
    have hwG : ∀ (W5 : World) h', KeepB (w.heap.size + 3 + 3) w1 W5 → Sq RP W5 w1.heap.size ps h' → Gg.In (W5.setCell ⟨b, i * 3 + 2, none⟩ h') (w.heap.size + 3 + 3) G' (.slice (some ⟨b, 0, none⟩) nv c1) (.slice p2 ne c2) := fun W5 h' hk hq => by
      have := hwr W5 h' ps hk hq
      obtain ⟨hi', e'⟩ := hi2.out
      rwa [e'] at this
    have hwG := Lib.hid hwG
    have hkw3 := Lib.hid hkw3
    have hB3 := Lib.hid (bel_then hB2.out hb3)
    have hps3 := Lib.hid (hps.on hB3.out)
    have hsz3 : Hid (w1.heap.size ≤ w3.heap.size) := by
      show _ ≤ _
      have h1 := hb3.size
      have h2 := hsz2.out
      omega
    have c117 : ∀ W, Below w3.heap.size w3 W → Calls Try.prog 83 #[.slice pp nn cc] W fun e w' => ∃ p n c, e = .returned (.slice p n c) ∧ Sq RP w' W.heap.size ps (.slice p n c) ∧ Below W.heap.size W w' := fun W hW => rcp83 ps _ W (hps3.out.on hW)
    have Q0 : Below w3.heap.size w3 w3.drew := (Below.refl _ w3).drew
    replace h0 := Lib.hid h0
    replace h2 := Lib.hid h2
    have hlb' := Lib.hid hlb
    have hblb : ¬ w.heap.size = b := by omega
    clear hwr hwr' hup hnoel hf hid h1 hi2 hps c60 hg2 hgw hcell hfz hob hob3 hb3 u0 u1 u2 fu v0 v1 v2 v3
    go_wp2
    go_region_with (go_at_call 83; (with_reducible refine (c117 _ (by with_reducible assumption)).mono ?_); rintro e w4 ⟨p4, n4, c4, rfl, hS4, hb4⟩; have Q4 : Below w3.heap.size w3 w4 := bel_then Q0 hb4; have hcell4 := some_on Q4 hcell3; have hS4' : Sq RP w4 w3.heap.size ps (.slice p4 n4 c4) := hS4; have hf4 := frz_on Q4 (a := ⟨b, i * 3 + 2, none⟩) (Nat.lt_of_lt_of_le hbl hsz3.out) hfz3; obtain ⟨x0', x1', x2', fx'⟩ := three_of (blk_on Q4 h0.out); replace hS4' := Lib.hid hS4'; clear hS4 hb4 c117)
    all_goals have hk4 := hkw3.out.trans (keepB_below Q4)
    all_goals have hin5 := hwG.out w4 (.slice p4 n4 c4) (hk4.mono (by omega)) (hS4'.out.low hsz3.out)
    all_goals have g0 := blk_oth (i := i * 3 + 2) (c := .slice p4 n4 c4) (B' := b) (blk_on Q4 h0.out) hblb
    all_goals have g2 := blk_oth (i := i * 3 + 2) (c := .slice p4 n4 c4) (B' := b) (blk_on Q4 h2.out) (show w.heap.size + 1 + 1 ≠ b by have := hlb'.out; omega)
    all_goals have b5 := (bel_then hB3.out Q4).setCell (p := ⟨b, i * 3 + 2, none⟩) (by show w.heap.size ≤ b; have := hlb'.out; omega) (.slice p4 n4 c4)
    all_goals generalize w4.setCell ⟨b, i * 3 + 2, none⟩ (.slice p4 n4 c4) = W5 at *
    all_goals have fin := wit_fin (a := .slice (some ⟨b, 0, none⟩) nv c1) (b := .slice p2 ne c2) (c := .int .i64 top) hin5 b5 (show w.heap.size ≤ w.heap.size + 1 + 1 by omega) (by omega)
    all_goals have g3 := set3_blk (a' := .slice (some ⟨b, 0, none⟩) nv c1) (b' := .slice p2 ne c2) (c' := .int .i64 top) g2
    all_goals obtain ⟨t0, t1, t2, ft⟩ := three_of g0
    all_goals obtain ⟨r0, r1, r2, fr⟩ := three_of g2
    all_goals obtain ⟨z0, z1, z2, fz⟩ := three_of g3
    all_goals replace fin := Lib.hid fin
    all_goals clear hin5 b5 hk4 g0 g2 g3 hcell4 hf4 hcell3 hfz3 x0 x1 x2 fx y0 y1 y2 fy x0' x1' x2' fx' Q4 Q0
    all_goals go_wp2
    all_goals simp [bodyPost, results, Try.results63, go_sem, z0, z1, z2]
    all_goals exact ⟨_, _, by unfold Gg.agg; rw [hlast.out.1], fin.out⟩
  · exact (hnoel.out hno).elim
set_option maxRecDepth 100000 in
set_option maxHeartbeats 8000000 in
theorem with63e (g : Gg) (sv se : Value) (id : Int) (s : ByteArray) (q : Option Addr) (m d : Nat) (ps ps0 : List Pr) (pp : Option Addr) (nn cc : Nat) (w : World) (hg : Gg.In w 0 g sv se) (hm : gMay g = true) (hel : elPs g 7 id = some ps0) (hps : Sq RP w 0 ps (.slice pp nn cc)) :
    Calls Try.prog 63 #[g.agg sv se, .agg #[.int .i64 7, .int .i64 id, .string s, .slice q m d], .slice pp nn cc] w fun e w' => Wt (gUp g 7 id fun _ => ps) w e w' := by
  have c95 := fun W hW => rcg56g g sv se W (hg.on (w' := W) hW)
  have c60 := fun s1 s2 W hW => at86e g s1 s2 id s q m d W hW
  have hbv := hg.2.1
  have hbe := hg.2.2
  obtain ⟨pv, cv, rfl, hvc0, hvm0, hbv', -⟩ := hbv
  obtain ⟨pe, ce, rfl, hec0, hem0, hbe', -⟩ := hbe
  have hbv := Lib.hid (show g.vs.length * 48 ≤ 140737488351232 from hbv')
  have hbe := Lib.hid (show g.es.length * 64 ≤ 140737488351232 from hbe')
  have h64 := Lib.hid hg.1
  have hvm : g.vs.length ≤ 9223372036854775807 := by unfold maxLen at hvm0; omega
  have hem : g.es.length ≤ 9223372036854775807 := by unfold maxLen at hem0; omega
  have hnoel : Hid ((∀ t (ht : t < g.es.length), g.es[t].id ≠ id) → False) := fun h => by
    unfold elPs at hel; rw [if_neg (by decide), if_pos rfl] at hel
    rw [find_no_e h] at hel
    cases hel
  have hup : Hid (∀ i (hi : i < g.es.length), g.es[i].id = id → { g with es := g.es.set i { g.es[i] with ps := ps } } = gUp g 7 id fun _ => ps) := fun i hi e => up_e hm hi e fun _ => ps
  obtain ⟨G', hG'⟩ : ∃ G', (gUp g 7 id fun _ => ps) = G' := ⟨_, rfl⟩
  rw [hG'] at hup ⊢
  have hlast : Hid (G'.last = g.last ∧ G'.vs.length = g.vs.length ∧ G'.es.length = g.es.length) := by
    rw [← hG']
    unfold gUp
    rw [if_neg (by decide), if_pos rfl]
    exact ⟨rfl, by simp, by simp⟩
  unfold Gg.agg at c95 c60 ⊢
  obtain ⟨top, htop⟩ : ∃ t, g.last = t := ⟨_, rfl⟩
  obtain ⟨nv, hnv⟩ : ∃ n, g.vs.length = n := ⟨_, rfl⟩
  obtain ⟨ne, hne⟩ : ∃ n, g.es.length = n := ⟨_, rfl⟩
  rw [htop] at c95 c60
  rw [hnv] at c95 hvm ⊢
  rw [hne] at c95 hem ⊢
  rw [htop]
  rw [htop, hnv, hne] at hlast
  replace hnv := Lib.hid hnv
  replace hne := Lib.hid hne
  clear hG' hel hm hg htop hvc0 hvm0 hec0 hem0 hbv' hbe'
  have hb0 := Lib.hid (bel_then (bel2 w (Obj.cells #[.slice pv nv cv, .slice pe ne ce, .int .i64 top] 27) (Obj.cells #[.int .i64 7, .int .i64 id, .string s, .slice q m d] 30)) (bel1 _ (Obj.cells #[.slice none 0 0, .slice none 0 0, .int .i64 0] 27)))
  have n0 := World.alloc_heap_new w (Obj.cells #[.slice pv nv cv, .slice pe ne ce, .int .i64 top] 27)
  have n1 := World.alloc_heap_new (w.alloc (Obj.cells #[.slice pv nv cv, .slice pe ne ce, .int .i64 top] 27)) (Obj.cells #[.int .i64 7, .int .i64 id, .string s, .slice q m d] 30)
  have n2 := World.alloc_heap_new ((w.alloc (Obj.cells #[.slice pv nv cv, .slice pe ne ce, .int .i64 top] 27)).alloc (Obj.cells #[.int .i64 7, .int .i64 id, .string s, .slice q m d] 30)) (Obj.cells #[.slice none 0 0, .slice none 0 0, .int .i64 0] 27)
  replace n0 := blk_on (bel2 _ (Obj.cells #[.int .i64 7, .int .i64 id, .string s, .slice q m d] 30) (Obj.cells #[.slice none 0 0, .slice none 0 0, .int .i64 0] 27)) n0
  replace n1 := blk_on (bel1 _ (Obj.cells #[.slice none 0 0, .slice none 0 0, .int .i64 0] 27)) n1
  have hsz : Hid ((((w.alloc (Obj.cells #[.slice pv nv cv, .slice pe ne ce, .int .i64 top] 27)).alloc (Obj.cells #[.int .i64 7, .int .i64 id, .string s, .slice q m d] 30)).alloc (Obj.cells #[.slice none 0 0, .slice none 0 0, .int .i64 0] 27)).heap.size = w.heap.size + 3) := by show _ = _; simp
  simp only [World.size_alloc] at n1 n2
  replace n0 := Lib.hid n0
  replace n1 := Lib.hid n1
  replace n2 := Lib.hid n2
  go_enter Try.func63, Try.ntmps63
  go_wp2_with (fail)
  generalize (((w.alloc (Obj.cells #[.slice pv nv cv, .slice pe ne ce, .int .i64 top] 27)).alloc (Obj.cells #[.int .i64 7, .int .i64 id, .string s, .slice q m d] 30)).alloc (Obj.cells #[.slice none 0 0, .slice none 0 0, .int .i64 0] 27)) = W0 at *
  refine (c95 _ hb0.out).mono ?_
  rintro e w1 ⟨s1, s2, rfl, hg1, hb1, hgw⟩
  have hgw := Lib.hid hgw
  obtain ⟨p1, c1, rfl⟩ : ∃ p c, s1 = .slice p nv c := by
    obtain ⟨p, c, e⟩ := hg1.2.1.header
    exact ⟨p, c, by rw [e, hnv.out]⟩
  obtain ⟨p2, c2, rfl⟩ : ∃ p c, s2 = .slice p ne c := by
    obtain ⟨p, c, e⟩ := hg1.2.2.header
    exact ⟨p, c, by rw [e, hne.out]⟩
  rw [hsz.out] at hg1
  have m0 := blk_on hb1 n0.out
  have m1 := blk_on hb1 n1.out
  have m2 := blk_on hb1 n2.out
  obtain ⟨a0, a1, a2, fa⟩ := three_of m0
  have hk2 : KeepB (w.heap.size + 3) w1 (((w1.setCell ⟨w.heap.size, 0, none⟩ (.slice p1 nv c1)).setCell ⟨w.heap.size, 1, none⟩ (.slice p2 ne c2)).setCell ⟨w.heap.size, 2, none⟩ (.int .i64 top)) := ((keepB_set (by omega)).trans (keepB_set (by omega))).trans (keepB_set (by omega))
  have hg2 := Lib.hid ((hg1.keep hk2.keep (lo' := 0) (Nat.zero_le _) : Gg.In _ 0 _ _ _))
  have hB2 := ((((bel_then hb0.out hb1)).setCell (p := ⟨w.heap.size, 0, none⟩) (Nat.le_refl _) (.slice p1 nv c1)).setCell (p := ⟨w.heap.size, 1, none⟩) (Nat.le_refl _) (.slice p2 ne c2)).setCell (p := ⟨w.heap.size, 2, none⟩) (Nat.le_refl _) (.int .i64 top)
  have k0 := set3_blk (a' := .slice p1 nv c1) (b' := .slice p2 ne c2) (c' := .int .i64 top) m0
  have k1 := blk_oth (i := 2) (c := .int .i64 top) (B' := w.heap.size) (blk_oth (i := 1) (c := .slice p2 ne c2) (B' := w.heap.size) (blk_oth (i := 0) (c := .slice p1 nv c1) (B' := w.heap.size) m1 (by omega)) (by omega)) (by omega)
  have k2 := blk_oth (i := 2) (c := .int .i64 top) (B' := w.heap.size) (blk_oth (i := 1) (c := .slice p2 ne c2) (B' := w.heap.size) (blk_oth (i := 0) (c := .slice p1 nv c1) (B' := w.heap.size) m2 (by omega)) (by omega)) (by omega)
  obtain ⟨u0, u1, u2, fu⟩ := three_of k0
  obtain ⟨v0, v1, v2, v3⟩ := four_cells k1
  have hkw := Lib.hid hk2
  replace k0 := Lib.hid k0
  replace k1 := Lib.hid k1
  replace k2 := Lib.hid k2
  replace hB2 := Lib.hid hB2
  have hsz2 : Hid (w1.heap.size = (((w1.setCell ⟨w.heap.size, 0, none⟩ (.slice p1 nv c1)).setCell ⟨w.heap.size, 1, none⟩ (.slice p2 ne c2)).setCell ⟨w.heap.size, 2, none⟩ (.int .i64 top)).heap.size) := by show _ = _; simp [World.setCell]
  have hsz1 : Hid (w.heap.size + 3 ≤ w1.heap.size) := by show _ ≤ _; have := hsz.out; have := hb1.size; omega
  clear hk2 hg1 hb1 m0 m1 m2 n0 n1 n2 c95 hb0
  go_wp2_with (fail)
  generalize (((w1.setCell ⟨w.heap.size, 0, none⟩ (.slice p1 nv c1)).setCell ⟨w.heap.size, 1, none⟩ (.slice p2 ne c2)).setCell ⟨w.heap.size, 2, none⟩ (.int .i64 top)) = W2 at *
  refine (c60 _ _ _ hg2.out).mono ?_
  rintro e w3 ⟨hb3, ⟨i, hi, hid, hf, rfl⟩ | ⟨hno, rfl⟩⟩
  · have h0 := blk_on hb3 k0.out
    have h1 := blk_on hb3 k1.out
    have h2 := blk_on hb3 k2.out
    obtain ⟨x0, x1, x2, fx⟩ := three_of h0
    obtain ⟨y0, y1, y2, fy⟩ := three_of h2
    rw [hsz.out] at hgw
    obtain ⟨b, cap, hdr, e1, hlb, hbl, hcl, hcm, hcell, hfz, hwr⟩ := gw_e hgw.out h64.out hbv.out hbe.out i hi
    have hwr' := Lib.hid (hwr)
    have hkw3 : KeepB (w.heap.size + 3) w1 w3 := hkw.out.trans (keepB_below hb3)
    have hcell3 := hkw3.keep _ _ (by show w.heap.size + 3 ≤ b; omega) hcell
    obtain ⟨ob, hob⟩ : ∃ o, w1.heap[b]? = some o := ⟨_, Array.getElem?_eq_getElem hbl⟩
    have hob3 := hkw3 b ob (by omega) hob
    have hfz3 : w3.frozen? ⟨b, i * 5 + 4, none⟩ = false := by
      simp only [World.frozen?, hob] at hfz
      simp only [World.frozen?, hob3]
      exact hfz
    injection e1 with e1 e2 e3
    clear e2
    subst e1 e3
    rw [hne.out] at hi hcl
    have hiN : (i : Int) < (ne : Int) := by omega
    have hi0 : (0 : Int) ≤ (i : Int) := by omega
    have hi2 : Hid (∃ hi' : i < g.es.length, { g with es := g.es.set i { g.es[i] with ps := ps } } = G') := ⟨by rw [hne.out]; exact hi, hup.out i _ hid⟩
    have hwG : ∀ (W5 : World) h', KeepB (w.heap.size + 3 + 3) w1 W5 → Sq RP W5 w1.heap.size ps h' → Gg.In (W5.setCell ⟨b, i * 5 + 4, none⟩ h') (w.heap.size + 3 + 3) G' (.slice p1 nv c1) (.slice (some ⟨b, 0, none⟩) ne c2) := fun W5 h' hk hq => by
      have := hwr W5 h' ps hk hq
      obtain ⟨hi', e'⟩ := hi2.out
      rwa [e'] at this
    have hwG := Lib.hid hwG
    have hkw3 := Lib.hid hkw3
    have hB3 := Lib.hid (bel_then hB2.out hb3)
    have hps3 := Lib.hid (hps.on hB3.out)
    have hsz3 : Hid (w1.heap.size ≤ w3.heap.size) := by
      show _ ≤ _
      have h1 := hb3.size
      have h2 := hsz2.out
      omega
    have c117 : ∀ W, Below w3.heap.size w3 W → Calls Try.prog 83 #[.slice pp nn cc] W fun e w' => ∃ p n c, e = .returned (.slice p n c) ∧ Sq RP w' W.heap.size ps (.slice p n c) ∧ Below W.heap.size W w' := fun W hW => rcp83 ps _ W (hps3.out.on hW)
    have Q0 : Below w3.heap.size w3 w3.drew := (Below.refl _ w3).drew
    replace h0 := Lib.hid h0
    replace h2 := Lib.hid h2
    have hlb' := Lib.hid hlb
    have hblb : ¬ w.heap.size = b := by omega
    clear hwr hwr' hup hnoel hf hid h1 hi2 hps c60 hg2 hgw hcell hfz hob hob3 hb3 u0 u1 u2 fu v0 v1 v2 v3
    go_wp2
    go_region_with (go_at_call 83; (with_reducible refine (c117 _ (by with_reducible assumption)).mono ?_); rintro e w4 ⟨p4, n4, c4, rfl, hS4, hb4⟩; have Q4 : Below w3.heap.size w3 w4 := bel_then Q0 hb4; have hcell4 := some_on Q4 hcell3; have hS4' : Sq RP w4 w3.heap.size ps (.slice p4 n4 c4) := hS4; have hf4 := frz_on Q4 (a := ⟨b, i * 5 + 4, none⟩) (Nat.lt_of_lt_of_le hbl hsz3.out) hfz3; obtain ⟨x0', x1', x2', fx'⟩ := three_of (blk_on Q4 h0.out); replace hS4' := Lib.hid hS4'; clear hS4 hb4 c117)
    all_goals have hk4 := hkw3.out.trans (keepB_below Q4)
    all_goals have hin5 := hwG.out w4 (.slice p4 n4 c4) (hk4.mono (by omega)) (hS4'.out.low hsz3.out)
    all_goals have g0 := blk_oth (i := i * 5 + 4) (c := .slice p4 n4 c4) (B' := b) (blk_on Q4 h0.out) hblb
    all_goals have g2 := blk_oth (i := i * 5 + 4) (c := .slice p4 n4 c4) (B' := b) (blk_on Q4 h2.out) (show w.heap.size + 1 + 1 ≠ b by have := hlb'.out; omega)
    all_goals have b5 := (bel_then hB3.out Q4).setCell (p := ⟨b, i * 5 + 4, none⟩) (by show w.heap.size ≤ b; have := hlb'.out; omega) (.slice p4 n4 c4)
    all_goals generalize w4.setCell ⟨b, i * 5 + 4, none⟩ (.slice p4 n4 c4) = W5 at *
    all_goals have fin := wit_fin (a := .slice p1 nv c1) (b := .slice (some ⟨b, 0, none⟩) ne c2) (c := .int .i64 top) hin5 b5 (show w.heap.size ≤ w.heap.size + 1 + 1 by omega) (by omega)
    all_goals have g3 := set3_blk (a' := .slice p1 nv c1) (b' := .slice (some ⟨b, 0, none⟩) ne c2) (c' := .int .i64 top) g2
    all_goals obtain ⟨t0, t1, t2, ft⟩ := three_of g0
    all_goals obtain ⟨r0, r1, r2, fr⟩ := three_of g2
    all_goals obtain ⟨z0, z1, z2, fz⟩ := three_of g3
    all_goals replace fin := Lib.hid fin
    all_goals clear hin5 b5 hk4 g0 g2 g3 hcell4 hf4 hcell3 hfz3 x0 x1 x2 fx y0 y1 y2 fy x0' x1' x2' fx' Q4 Q0
    all_goals go_wp2
    all_goals simp [bodyPost, results, Try.results63, go_sem, z0, z1, z2]
    all_goals exact ⟨_, _, by unfold Gg.agg; rw [hlast.out.1], fin.out⟩
  · exact (hnoel.out hno).elim
end Go.Proofs.Yteknbploiombiaa
