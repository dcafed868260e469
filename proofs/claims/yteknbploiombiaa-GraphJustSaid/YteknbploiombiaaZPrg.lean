/-
  What Prop of package graph tells of any graph.
-/
import Derived.Test.YteknbploiombiaaZFndFneFno
import Derived.Test.YteknbploiombiaaZPrp
import Derived.Test.YteknbploiombiaaZGup
import Derived.Test.YteknbploiombiaaZEk
namespace Go.Proofs.Yteknbploiombiaa
open Go.RowKit
set_option linter.unusedVariables false      -- a walk need not use every condition

/-- What find hands back. -/
def Fnd (g : Gg) (k id : Int) (w : World) (e : Ending) (w' : World) : Prop := ∃ (i0 : Int) (lb : ByteArray) (hdr : Value) (is : Bool) (ps : List Pr),
  e = .returned (.tuple #[.agg #[.int .i64 i0, .string lb, hdr], .bool is]) ∧ Sq RP w' 0 ps hdr ∧ (elPs g k id = some ps ∧ is = true ∨ elPs g k id = none ∧ ps = [] ∧ is = false) ∧ Below w.heap.size w w'
theorem find36 (g : Gg) (sv se : Value) (k id : Int) (s : ByteArray) (lx : List V) (q : Option Addr) (m d : Nat) (w : World) (hG : Gg.In w 0 g sv se) (hem : (V.mk k id s lx).In w 0 (.slice q m d)) :
    Calls Try.prog 36 #[g.agg sv se, .agg #[.int .i64 k, .int .i64 id, .string s, .slice q m d]] w fun e w' => Fnd g (ek k s lx) id w e w' := by
  by_cases h6 : k = 6
  · subst h6
    refine (find36v g sv se id s lx q m d w hG hem).mono ?_
    rintro e w' ⟨hb, ⟨i, hi, hdr, hpl, h1, h2, rfl, h3⟩ | ⟨h1, rfl⟩⟩
    · exact ⟨_, _, hdr, true, g.vs[i].ps, rfl, h3, .inl ⟨elv_yes hpl (find_at_v hi h1 h2), rfl⟩, hb⟩
    · exact ⟨_, _, _, false, [], rfl, Sq.nil _ _, .inr ⟨elv_no (fun hp => find_no_v fun t ht => h1 t ht hp), rfl, rfl⟩, hb⟩
  · by_cases h7 : k = 7
    · subst h7
      refine (find36e g sv se id s lx q m d w hG hem).mono ?_
      rintro e w' ⟨hb, ⟨i, hi, hdr, hpl, h1, h2, rfl, h3⟩ | ⟨h1, rfl⟩⟩
      · exact ⟨_, _, hdr, true, g.es[i].ps, rfl, h3, .inl ⟨ele_yes hpl (find_at_e hi h1 h2), rfl⟩, hb⟩
      · exact ⟨_, _, _, false, [], rfl, Sq.nil _ _, .inr ⟨ele_no (fun hp => find_no_e fun t ht => h1 t ht hp), rfl, rfl⟩, hb⟩
    · refine (find36o g sv se k id h6 h7 s q m d w hG).mono ?_
      rintro e w' ⟨hb, rfl⟩
      exact ⟨_, _, _, false, [], rfl, Sq.nil _ _, .inr ⟨elo_no h6 h7, rfl, rfl⟩, hb⟩
set_option maxHeartbeats 4000000 in
theorem prop15 (g : Gg) (sv se : Value) (k id : Int) (s : ByteArray) (lx : List V) (q : Option Addr) (m d : Nat) (nm : ByteArray) (w : World) (hG : Gg.In w 0 g sv se) (hem : (V.mk k id s lx).In w 0 (.slice q m d)) :
    Calls Try.prog 15 #[g.agg sv se, .agg #[.int .i64 k, .int .i64 id, .string s, .slice q m d], .string nm] w fun e w' => ∃ hv, e = .returned (.tuple #[(gPrp g (ek k s lx) id nm).1.agg hv, .bool (gPrp g (ek k s lx) id nm).2]) ∧ (gPrp g (ek k s lx) id nm).1.In w' w.heap.size hv ∧ Below w.heap.size w w' := by
  replace hem := Lib.hid hem
  have c59 := fun W hW => find36 g sv se k id s lx q m d W (hG.on hW) (hem.out.on hW)
  obtain ⟨pv, cv, rfl⟩ := hG.2.1.header
  obtain ⟨pe, ce, rfl⟩ := hG.2.2.header
  obtain ⟨RG, hRG⟩ : ∃ r, (gPrp g (ek k s lx) id nm).1 = r := ⟨_, rfl⟩
  obtain ⟨RB, hRB⟩ : ∃ r, (gPrp g (ek k s lx) id nm).2 = r := ⟨_, rfl⟩
  rw [hRG, hRB]
  have hRR := Lib.hid (And.intro hRG hRB)
  unfold Gg.agg at c59 ⊢
  clear hG hRG hRB
  generalize g.vs.length = nv at *
  generalize g.es.length = ne at *
  have hb0 := Lib.hid (bel_then (bel2 w (Obj.cells #[.slice pv nv cv, .slice pe ne ce, .int .i64 g.last] 27) (Obj.cells #[.int .i64 k, .int .i64 id, .string s, .slice q m d] 30)) (bel1 _ (Obj.cells #[.int .i64 0, .int .i64 0, .string ⟨#[]⟩, .slice none 0 0] 30)))
  have n2 := World.alloc_heap_new ((w.alloc (Obj.cells #[.slice pv nv cv, .slice pe ne ce, .int .i64 g.last] 27)).alloc (Obj.cells #[.int .i64 k, .int .i64 id, .string s, .slice q m d] 30)) (Obj.cells #[.int .i64 0, .int .i64 0, .string ⟨#[]⟩, .slice none 0 0] 30)
  rw [World.size_alloc, World.size_alloc] at n2
  have n2 := Lib.hid n2
  go_enter Try.func15, Try.ntmps15
  go_wp2_with (fail)
  refine (c59 _ hb0.out).mono ?_
  rintro e w1 ⟨i0, lb, hdr, is, ps, rfl, hS, hel, hb1⟩
  have hR : Hid (gPrp g (ek k s lx) id nm = (psGet nm ps, psHas nm ps)) := by
    show _ = _
    unfold gPrp
    rcases hel with ⟨h1, -⟩ | ⟨h1, rfl, -⟩
    · rw [h1]
    · rw [h1]; rfl
  have n21 := Lib.hid (blk_on hb1 n2.out)
  have HB1 := Lib.hid (bel_then hb0.out hb1)
  obtain ⟨p1, c1, rfl⟩ := hS.header
  clear c59 hb1 hel n2 hb0
  go_wp2_with (fail)
  have c62 := prop37 ps _ i0 lb nm (w1.alloc (Obj.cells #[.int .i64 i0, .string lb, .slice p1 ps.length c1] 70)) (hS.on (bel1 _ _))
  refine c62.mono ?_
  rintro e w2 ⟨hv, rfl, hin, hb2⟩
  have n22 := Lib.hid (blk_on (bel_then (bel1 _ _) hb2) n21.out)
  have HB2 := Lib.hid (bel_then HB1.out (bel_then (bel1 _ _) hb2))
  obtain ⟨r1, r2⟩ := hRR.out
  rw [hR.out] at r1 r2
  simp only at r1 r2
  rw [r1] at hin
  rw [r1, r2]
  clear hR hRR r1 r2
  obtain ⟨p3, n3, c3, rfl⟩ := hin.header
  unfold V.agg
  clear c62 hb2 hS n21 HB1
  go_wp2_with (fail)
  have c63 := clone_any RG (.slice p3 n3 c3) (w2.alloc (Obj.cells #[.int .i64 RG.k, .int .i64 RG.n, .string RG.s, .slice p3 n3 c3] 30)) (hin.on (bel1 _ _))
  refine c63.mono ?_
  rintro e w3 ⟨sl3, rfl, hin3, hb3, -⟩
  obtain ⟨p4, n4, c4, rfl⟩ := hin3.header
  unfold V.agg
  have n3b := blk_on (bel_then (bel1 _ _) hb3) n22.out
  have HB3 := bel_then HB2.out (bel_then (bel1 _ _) hb3)
  obtain ⟨z0, z1, z2, z3⟩ := four_cells n3b
  have f0 := frz n3b 0
  have f1 := frz n3b 1
  have f2 := frz n3b 2
  have f3 := frz n3b 3
  have hbf : Below w.heap.size w (putL w3 (w.heap.size + 1 + 1) 0 [.int .i64 RG.k, .int .i64 RG.n, .string RG.s, .slice p4 n4 c4]) := HB3.trans (putL_below (by omega))
  have hif : RG.In (putL w3 (w.heap.size + 1 + 1) 0 [.int .i64 RG.k, .int .i64 RG.n, .string RG.s, .slice p4 n4 c4]) w.heap.size (.slice p4 n4 c4) := by
    have h22 := (Array.getElem?_eq_some_iff.1 n22.out).1
    refine V.In.keep (lo := w.heap.size + 1 + 1 + 1) (fun a v ha hc => putL_other hc (.inl (by omega))) (by omega) _ _ (hin3.low ?_)
    rw [World.size_alloc]; omega
  have hbf := Lib.hid hbf
  have hif := Lib.hid hif
  clear n22 HB2 HB3 hin3 hb3 c63 hin
  go_wp2
  have hbf' := hbf.out
  have hif' := hif.out
  unfold putL putL putL putL putL at hbf' hif'
  simp [bodyPost, results, Try.results15, go_sem, z0, z1, z2, z3]
  exact ⟨.slice p4 n4 c4, rfl, hif', hbf'⟩
end Go.Proofs.Yteknbploiombiaa
