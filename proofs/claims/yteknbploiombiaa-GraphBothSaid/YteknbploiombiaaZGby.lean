/-
  GraphBoth: its walk where the loops run.
-/
import Derived.Test.YteknbploiombiaaZGbo
namespace Go.Proofs.Yteknbploiombiaa
open Go.RowKit Go.Shelf
set_option linter.unusedVariables false      -- a walk need not use every condition

theorem es_s64 {g : Gg} {w : World} {sv se : Value} (h : Gg.In w 0 g sv se) {e : Lk} (he : e ∈ g.es) : S64 e.lb := by
  obtain ⟨_, _, _, _, _, _, hx⟩ := h.2.2
  obtain ⟨i, hi, rfl⟩ := List.getElem_of_mem he
  obtain ⟨b, o, _, _, hx1⟩ := hx.resolve_left (by intro e; rw [e] at hi; simp at hi)
  obtain ⟨s1, -, hv⟩ := hx1.at i hi
  exact hv.2.1
set_option maxRecDepth 100000 in
set_option maxHeartbeats 16000000 in
theorem both_yes (g : Gg) (sv se : Value) (w : World) (hg : Gg.In w 0 g sv se) (hm : gMay g = true) (h60 : g.vs.length ≤ 60) (h60' : g.es.length ≤ 60) :
    Calls Try.prog 4 #[g.agg sv se] w fun e w' => e = .returned (.bool true) ∧ Below w.heap.size w w' := by
  obtain ⟨pv, cv, rfl⟩ := hg.2.1.header
  obtain ⟨pe, ce, rfl⟩ := hg.2.2.header
  have HG := Lib.hid hg
  have hcap : cv ≤ 9223372036854775807 := by
    obtain ⟨_, _, e, _, h, _⟩ := hg.2.1
    injection e with _ _ e3
    unfold maxLen at h
    omega
  have c9 : ∀ W, Below w.heap.size w W → Calls Try.prog 8 #[g.agg (.slice pv g.vs.length cv) (.slice pe g.es.length ce)] W fun e w' => e = .returned (.int .i64 0) ∧ Below W.heap.size W w' := fun W hW => by
    have := check8 g _ _ W (hg.on hW)
    rw [err_yes hm] at this
    exact this
  have cO := fun W hW id ls sl hs => outs g _ _ id W (hg.on hW) ls sl hs
  have cI := fun W hW id ls sl hs => ins g _ _ id W (hg.on hW) ls sl hs
  have hall := Lib.hid (cnt_all hm)
  obtain ⟨nv, hnv⟩ : ∃ n, g.vs.length = n := ⟨_, rfl⟩
  obtain ⟨ne, hne⟩ : ∃ n, g.es.length = n := ⟨_, rfl⟩
  rw [hnv] at h60
  rw [hne] at h60'
  unfold Gg.agg at c9 cO cI ⊢
  rw [hnv, hne] at c9 ⊢
  simp only [hnv, hne] at cO cI
  have hlenv := Lib.hid hnv
  have hlene := Lib.hid hne
  clear hnv hne hm hg
  have c8 := begun6
  have h1' : ¬ (60 : Int) < (nv : Int) := by omega
  have h2' : ¬ (60 : Int) < (ne : Int) := by omega
  have hb0 := Lib.hid (bel1 w (Obj.cells #[.slice pv nv cv, .slice pe ne ce, .int .i64 g.last] 27))
  have n0 := Lib.hid (World.alloc_heap_new w (Obj.cells #[.slice pv nv cv, .slice pe ne ce, .int .i64 g.last] 27))
  go_enter Try.func4, Try.ntmps4
  go_wp2_with (fail)
  refine (c8 _).mono ?_
  rintro e w1 ⟨rfl, hb1⟩
  have n1 := Lib.hid (blk_on hb1 n0.out)
  have hB1 := Lib.hid (bel_then hb0.out hb1)
  obtain ⟨x0, x1, x2, fx⟩ := three_of n1.out
  clear hb1
  go_wp2_with (fail)
  refine (c9 _ hB1.out).mono ?_
  rintro e w2 ⟨rfl, hb2⟩
  have n2 := Lib.hid (blk_on hb2 n1.out)
  have hB2 := Lib.hid (bel_then hB1.out hb2)
  clear x0 x1 x2 fx hb2
  obtain ⟨x0, x1, x2, fx⟩ := three_of n2.out
  clear c8 c9 n1 hB1 n0 hb0
  go_wp2
  clear x0 x1 x2 fx
  go_loopg [33, 3, 5, 7, 9] nv (fun c s33 s3 s5 s7 s9 wr => ∃ (i k : Nat), i + c = nv ∧ s33 = .int .i64 i ∧ s3 = .int .i64 k ∧ k ≤ 7200 ∧ Hid (k = cnt g i) ∧ Hid (Below w.heap.size w wr) ∧ Hid (wr.heap[w.heap.size]? = some (Obj.cells #[.slice pv nv cv, .slice pe ne ce, .int .i64 g.last] 27)))
  case atStart => exact ⟨0, 0, by omega, rfl, rfl, by omega, rfl, hB2.out, n2.out⟩
  case round =>
    obtain ⟨i, k, hig, rfl, rfl, hk, hkc, hB, hn⟩ := hrel
    cases gk with
    | zero =>
      obtain rfl : i = nv := by omega
      have hfin : Hid ((k : Int) = 2 * (ne : Int)) := by
        show _ = _
        have h1 := hall.out
        rw [hlenv.out, hlene.out] at h1
        have := hkc.out
        omega
      obtain ⟨x0, x1, x2, fx⟩ := three_of hn.out
      have hfb : ((k : Int) == 2 * (ne : Int)) = true := by rw [hfin.out]; simp
      clear hfin hkc
      go_wp2
      go_ret
      exact ⟨by first | rfl | simp [hfb], hB.out⟩
    | succ c =>
      have hi : i < g.vs.length := by have := hlenv.out; omega
      have hiz : (i : Int) < (nv : Int) := by omega
      have hi0 : (0 : Int) ≤ (i : Int) := by omega
      have hV := (HG.out.on hB.out).2.1
      obtain ⟨_, _, ev, -, -, -, hx⟩ := hV
      injection ev with ev1 ev2 ev3
      obtain ⟨b, o, hpv, -, hx1⟩ := hx.resolve_left (by intro e; rw [e] at hi; simp at hi)
      rw [hpv] at ev1
      subst ev1
      clear hx ev2 ev3 hpv
      obtain ⟨s1, hat, hv1⟩ := hx1.at i hi
      obtain ⟨p1, n1, c1, rfl⟩ := hdV hv1
      obtain ⟨a0, a1, a2⟩ := ats3 hat
      simp only [show RV.n = 3 from rfl] at a0 a1 a2
      have hcs := Lib.hid (cnt_succ hi)
      have hOm := Lib.hid (fun (e : Lk) (h : e ∈ outL g g.vs[i].id []) => out_mem h)
      have hIm := Lib.hid (fun (e : Lk) (h : e ∈ inL g g.vs[i].id []) => in_mem h)
      have hcl : Hid (cnt g (i + 1) ≤ 7200) := by
        show _ ≤ _
        have h1 := cnt_le (g := g) (i := i + 1) (by omega)
        have h2 : (i + 1) * (2 * g.es.length) ≤ 60 * 120 := Nat.mul_le_mul (by omega) (by have := hlene.out; omega)
        omega
      clear hat hv1 hx1
      generalize g.vs[i] = x at *
      obtain ⟨wo, rfl⟩ : ∃ v, v = wr := ⟨_, rfl⟩
      have nb := Lib.hid (blk_on (bel1 wo (Obj.cells #[.int .i64 x.id, .string x.lb, .slice p1 n1 c1] 40)) hn.out)
      have nx := Lib.hid (World.alloc_heap_new wo (Obj.cells #[.int .i64 x.id, .string x.lb, .slice p1 n1 c1] 40))
      have hBx := Lib.hid (bel_then hB.out (bel1 wo (Obj.cells #[.int .i64 x.id, .string x.lb, .slice p1 n1 c1] 40)))
      obtain ⟨x0, x1, x2, fx⟩ := three_of nb.out
      go_wp2_with (fail)
      clear x0 x1 x2 fx a0 a1 a2
      refine (cO _ hBx.out x.id [] (.slice none 0 0) (Sq.nil _ _)).mono ?_
      rintro e w3 ⟨P, rfl, hb3, c27⟩
      have nb3 := Lib.hid (blk_on hb3 nb.out)
      have nx3 := Lib.hid (blk_on hb3 nx.out)
      have hB3 := Lib.hid (bel_then hBx.out hb3)
      clear hb3
      go_wp2_with (fail)
      refine c27.mono ?_
      rintro e w4 ⟨p4, c4, rfl, hS4, hb4⟩
      have nb4 := Lib.hid (blk_on hb4 nb3.out)
      have nx4 := Lib.hid (blk_on hb4 nx3.out)
      have hB4 := Lib.hid (bel_then hB3.out hb4)
      have hS4 := Lib.hid hS4
      clear hb4 c27 nb nx hBx nb3 nx3 hB3
      obtain ⟨LO, hLO⟩ : ∃ l, outL g x.id [] = l := ⟨_, rfl⟩
      obtain ⟨LI, hLI⟩ : ∃ l, inL g x.id [] = l := ⟨_, rfl⟩
      rw [hLO] at hS4 hcs hOm ⊢
      rw [hLI] at hcs hIm
      have hcap4 : Hid (c4 ≤ 9223372036854775807) := by
        obtain ⟨_, _, e, _, h, _⟩ := hS4.out
        injection e with _ _ e3
        unfold maxLen at h
        show _ ≤ _
        omega
      obtain ⟨n4, hn4⟩ : ∃ n, LO.length = n := ⟨_, rfl⟩
      have hb4' : k + n4 ≤ 7200 := by have h1 := hcl.out; have h2 := hcs.out; have h3 := hkc.out; omega
      rw [hn4] at hS4 ⊢
      have hn4 := Lib.hid hn4
      have hLI := Lib.hid hLI
      clear hLO
      have hc4 := hcap4.out
      go_wp2
      go_loopg [43, 3, 7] n4 (fun c s43 s3 s7 wr => ∃ (j m : Nat), j + c = n4 ∧ s43 = .int .i64 j ∧ s3 = .int .i64 m ∧ m ≤ 7200 ∧ Hid (m = k + j) ∧ Hid (Below w4.heap.size w4 wr))
      case atStart => exact ⟨0, k, by omega, rfl, rfl, by omega, rfl, Below.refl _ _⟩
      case round =>
        obtain ⟨j, m, hjg, rfl, rfl, hm7, hmj, hBj⟩ := hrel
        cases gk with
        | succ c' =>
          have hj : j < LO.length := by have := hn4.out; omega
          have hjz : (j : Int) < (n4 : Int) := by omega
          have hj0 : (0 : Int) ≤ (j : Int) := by omega
          obtain ⟨_, _, ev, -, -, -, hx⟩ := hS4.out.on hBj.out
          injection ev with ev1 ev2 ev3
          obtain ⟨b', o', hpv, -, hx1⟩ := hx.resolve_left (by intro e; rw [e] at hj; simp at hj)
          rw [hpv] at ev1
          subst ev1
          clear hx ev2 ev3 hpv
          obtain ⟨s1, hat, hv1⟩ := hx1.at j hj
          obtain ⟨p5, n5, c5, rfl⟩ := hdS hv1
          obtain ⟨a0, a1, a2, a3, a4⟩ := ats5 hat
          simp only [show RS.n = 5 from rfl] at a0 a1 a2 a3 a4
          have hee := hOm.out _ (List.getElem_mem hj)
          have hin := Lib.hid (mem_inL hee.2)
          have hSz : Hid (S64 LO[j].lb) := es_s64 HG.out hee.2
          have hout := Lib.hid hee.1
          rw [hee.1] at a2
          clear hat hv1 hx1 hee
          generalize LO[j] = y at *
          have nbj := Lib.hid (blk_on (bel_then hBj.out (bel1 wr (Obj.cells #[.int .i64 y.id, .string y.lb, .int .i64 x.id, .int .i64 y.inn, .slice p5 n5 c5] 46))) nb4.out)
          have nxj := Lib.hid (blk_on (bel_then hBj.out (bel1 wr (Obj.cells #[.int .i64 y.id, .string y.lb, .int .i64 x.id, .int .i64 y.inn, .slice p5 n5 c5] 46))) nx4.out)
          have ny := Lib.hid (World.alloc_heap_new wr (Obj.cells #[.int .i64 y.id, .string y.lb, .int .i64 x.id, .int .i64 y.inn, .slice p5 n5 c5] 46))
          have hBy := Lib.hid (bel_then hB4.out (bel_then hBj.out (bel1 wr (Obj.cells #[.int .i64 y.id, .string y.lb, .int .i64 x.id, .int .i64 y.inn, .slice p5 n5 c5] 46))))
          have hbyj := Lib.hid (bel_then hBj.out (bel1 wr (Obj.cells #[.int .i64 y.id, .string y.lb, .int .i64 x.id, .int .i64 y.inn, .slice p5 n5 c5] 46)))
          obtain ⟨x0, x1, x2, fx⟩ := three_of nbj.out
          obtain ⟨z0, z1, z2, fz⟩ := three_of nxj.out
          have hmw : m + 1 ≤ 7200 := by have := hmj.out; omega
          go_wp2_with (fail)
          clear x0 x1 x2 fx z0 z1 z2 fz a0 a1 a2 a3 a4
          have hbT := bel1 (wr.alloc (Obj.cells #[.int .i64 y.id, .string y.lb, .int .i64 x.id, .int .i64 y.inn, .slice p5 n5 c5] 46)) (Obj.cells #[.string y.lb] 9)
          have hT := World.alloc_heap_new (wr.alloc (Obj.cells #[.int .i64 y.id, .string y.lb, .int .i64 x.id, .int .i64 y.inn, .slice p5 n5 c5] 46)) (Obj.cells #[.string y.lb] 9)
          rw [World.size_alloc] at hT
          refine (cI _ (bel_then hBy.out hbT) y.inn [y.lb] _ (lab_sq _ _ y.lb hSz.out hT)).mono ?_
          rintro e w5 ⟨P5, rfl, hb5, c27⟩
          have ny5 := Lib.hid (blk_on (bel_then hbT hb5) ny.out)
          have hB5 := Lib.hid (bel_then hbyj.out (bel_then hbT hb5))
          clear hbT hT hb5
          go_wp2_with (fail)
          refine c27.mono ?_
          rintro e w6 ⟨p6, c6, rfl, hS6, hb6⟩
          have ny6 := Lib.hid (blk_on hb6 ny5.out)
          have hB6 := Lib.hid (bel_then hB5.out hb6)
          have hS6 := Lib.hid hS6
          clear hb6 c27
          go_wp2_with (fail)
          refine (contains38_39 _ _ y.id wr.heap.size w6 hS6.out (five_of ny6.out).1 ⟨y, hin.out, rfl⟩).mono ?_
          rintro e w7 ⟨rfl, hb7⟩
          have hB7 := Lib.hid (bel_then hB6.out hb7)
          clear hb7
          go_wp2
          go_roundg c'
          case measure => omega
          case rel => exact ⟨j + 1, m + 1, by omega, by first | rfl | simp, by first | rfl | simp, by omega, by show _ = _; have := hmj.out; omega, hB7.out⟩
        | zero =>
          obtain rfl : j = n4 := by omega
          have nb5 := Lib.hid (blk_on hBj.out nb4.out)
          have nx5 := Lib.hid (blk_on hBj.out nx4.out)
          have hB5 := Lib.hid (bel_then hB4.out hBj.out)
          obtain ⟨wi, rfl⟩ : ∃ v, v = wr := ⟨_, rfl⟩
          clear nb4 nx4 hB4 hS4 hBj
          obtain ⟨x0, x1, x2, fx⟩ := three_of nb5.out
          obtain ⟨z0, z1, z2, fz⟩ := three_of nx5.out
          go_wp2_with (fail)
          clear x0 x1 x2 fx z0 z1 z2 fz
          refine (cI _ hB5.out x.id [] (.slice none 0 0) (Sq.nil _ _)).mono ?_
          rintro e w7 ⟨P7, rfl, hb7, c27⟩
          have nb7 := Lib.hid (blk_on hb7 nb5.out)
          have nx7 := Lib.hid (blk_on hb7 nx5.out)
          have hB7 := Lib.hid (bel_then hB5.out hb7)
          clear hb7
          go_wp2_with (fail)
          refine c27.mono ?_
          rintro e w8 ⟨p8, c8, rfl, hS8, hb8⟩
          have nb8 := Lib.hid (blk_on hb8 nb7.out)
          have nx8 := Lib.hid (blk_on hb8 nx7.out)
          have hB8 := Lib.hid (bel_then hB7.out hb8)
          have hS8 := Lib.hid hS8
          clear hb8 c27 nb7 nx7 hB7 nb5 nx5 hB5
          rw [hLI.out] at hS8 ⊢
          have hcap8 : Hid (c8 ≤ 9223372036854775807) := by
            obtain ⟨_, _, e, _, h, _⟩ := hS8.out
            injection e with _ _ e3
            unfold maxLen at h
            show _ ≤ _
            omega
          obtain ⟨n8, hn8⟩ : ∃ n, LI.length = n := ⟨_, rfl⟩
          have hb8' : m + n8 ≤ 7200 := by have h1 := hcl.out; have h2 := hcs.out; have h3 := hkc.out; have h4 := hn4.out; have h5 := hn8; have h6 := hmj.out; omega
          rw [hn8] at hS8 ⊢
          have hn8 := Lib.hid hn8
          have hc8 := hcap8.out
          obtain ⟨mo, hmo⟩ : ∃ x, m = x := ⟨_, rfl⟩
          have hmo2 : Hid (mo = k + j) := by show _ = _; have := hmj.out; omega
          rw [hmo] at hb8' ⊢
          clear hmo hmj hm7 hjg
          go_wp2
          go_loopg [74, 3, 9] n8 (fun c s74 s3 s9 wr => ∃ (j m : Nat), j + c = n8 ∧ s74 = .int .i64 j ∧ s3 = .int .i64 m ∧ m ≤ 7200 ∧ Hid (m = mo + j) ∧ Hid (Below w8.heap.size w8 wr))
          case atStart => exact ⟨0, mo, by omega, rfl, rfl, by omega, rfl, Below.refl _ _⟩
          case round =>
            obtain ⟨jo, hjo⟩ : ∃ x, x = j := ⟨_, rfl⟩
            have hmo3 : Hid (mo = k + jo) := by show _ = _; rw [hjo]; exact hmo2.out
            have hjn4 : Hid (LO.length = jo) := by show _ = _; rw [hjo]; exact hn4.out
            clear hjo hmo2
            obtain ⟨j, m, hjg, rfl, rfl, hm7, hmj, hBj⟩ := hrel
            cases gk with
            | succ c' =>
              have hj : j < LI.length := by have := hn8.out; omega
              have hjz : (j : Int) < (n8 : Int) := by omega
              have hj0 : (0 : Int) ≤ (j : Int) := by omega
              obtain ⟨_, _, ev, -, -, -, hx⟩ := hS8.out.on hBj.out
              injection ev with ev1 ev2 ev3
              obtain ⟨b', o', hpv, -, hx1⟩ := hx.resolve_left (by intro e; rw [e] at hj; simp at hj)
              rw [hpv] at ev1
              subst ev1
              clear hx ev2 ev3 hpv
              obtain ⟨s1, hat, hv1⟩ := hx1.at j hj
              obtain ⟨p5, n5, c5, rfl⟩ := hdS hv1
              obtain ⟨a0, a1, a2, a3, a4⟩ := ats5 hat
              simp only [show RS.n = 5 from rfl] at a0 a1 a2 a3 a4
              have hee := hIm.out _ (List.getElem_mem hj)
              have hin := Lib.hid (mem_outL hee.2)
              have hSz : Hid (S64 LI[j].lb) := es_s64 HG.out hee.2
              have hout := Lib.hid hee.1
              rw [hee.1] at a3
              clear hat hv1 hx1 hee
              generalize LI[j] = y at *
              have nbj := Lib.hid (blk_on (bel_then hBj.out (bel1 wr (Obj.cells #[.int .i64 y.id, .string y.lb, .int .i64 y.out, .int .i64 x.id, .slice p5 n5 c5] 46))) nb8.out)
              have nxj := Lib.hid (blk_on (bel_then hBj.out (bel1 wr (Obj.cells #[.int .i64 y.id, .string y.lb, .int .i64 y.out, .int .i64 x.id, .slice p5 n5 c5] 46))) nx8.out)
              have ny := Lib.hid (World.alloc_heap_new wr (Obj.cells #[.int .i64 y.id, .string y.lb, .int .i64 y.out, .int .i64 x.id, .slice p5 n5 c5] 46))
              have hBy := Lib.hid (bel_then hB8.out (bel_then hBj.out (bel1 wr (Obj.cells #[.int .i64 y.id, .string y.lb, .int .i64 y.out, .int .i64 x.id, .slice p5 n5 c5] 46))))
              have hbyj := Lib.hid (bel_then hBj.out (bel1 wr (Obj.cells #[.int .i64 y.id, .string y.lb, .int .i64 y.out, .int .i64 x.id, .slice p5 n5 c5] 46)))
              obtain ⟨x0, x1, x2, fx⟩ := three_of nbj.out
              obtain ⟨z0, z1, z2, fz⟩ := three_of nxj.out
              have hmw : m + 1 ≤ 7200 := by have := hmj.out; omega
              go_wp2_with (fail)
              clear x0 x1 x2 fx z0 z1 z2 fz a0 a1 a2 a3 a4
              have hbT := bel1 (wr.alloc (Obj.cells #[.int .i64 y.id, .string y.lb, .int .i64 y.out, .int .i64 x.id, .slice p5 n5 c5] 46)) (Obj.cells #[.string y.lb] 9)
              have hT := World.alloc_heap_new (wr.alloc (Obj.cells #[.int .i64 y.id, .string y.lb, .int .i64 y.out, .int .i64 x.id, .slice p5 n5 c5] 46)) (Obj.cells #[.string y.lb] 9)
              rw [World.size_alloc] at hT
              refine (cO _ (bel_then hBy.out hbT) y.out [y.lb] _ (lab_sq _ _ y.lb hSz.out hT)).mono ?_
              rintro e w5 ⟨P5, rfl, hb5, c27⟩
              have ny5 := Lib.hid (blk_on (bel_then hbT hb5) ny.out)
              have hB5 := Lib.hid (bel_then hbyj.out (bel_then hbT hb5))
              clear hbT hT hb5
              go_wp2_with (fail)
              refine c27.mono ?_
              rintro e w6 ⟨p6, c6, rfl, hS6, hb6⟩
              have ny6 := Lib.hid (blk_on hb6 ny5.out)
              have hB6 := Lib.hid (bel_then hB5.out hb6)
              have hS6 := Lib.hid hS6
              clear hb6 c27
              go_wp2_with (fail)
              refine (contains38_40 _ _ y.id wr.heap.size w6 hS6.out (five_of ny6.out).1 ⟨y, hin.out, rfl⟩).mono ?_
              rintro e w7 ⟨rfl, hb7⟩
              have hB7 := Lib.hid (bel_then hB6.out hb7)
              clear hb7
              go_wp2
              go_roundg c'
              case measure => omega
              case rel => exact ⟨j + 1, m + 1, by omega, by first | rfl | simp, by first | rfl | simp, by omega, by show _ = _; have := hmj.out; omega, hB7.out⟩
            | zero =>
              obtain rfl : j = n8 := by omega
              have hfin : Hid (m = cnt g (i + 1)) := by
                show _ = _
                have h1 := hcs.out; have h2 := hkc.out; have h3 := hmj.out; have h4 := hmo3.out; have h5 := hjn4.out; have h6 := hn8.out
                omega
              have hBf := Lib.hid (bel_then hB8.out hBj.out)
              have nbf := Lib.hid (blk_on hBj.out nb8.out)
              go_wp2
              go_roundg c
              case measure => omega
              case rel => exact ⟨i + 1, m, by omega, by first | rfl | simp, rfl, by omega, hfin.out, hBf.out, nbf.out⟩
end Go.Proofs.Yteknbploiombiaa
