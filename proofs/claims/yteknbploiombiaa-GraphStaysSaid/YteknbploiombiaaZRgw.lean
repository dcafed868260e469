/-
  What the document's clone of a graph lies in, kept over writes elsewhere: no walk.
-/
import Derived.Test.YteknbploiombiaaZRup
import Derived.Test.YteknbploiombiaaZAdv
namespace Go.Proofs.Yteknbploiombiaa
open Go.RowKit
set_option linter.unusedVariables false
variable {α : Type}

theorem bel_al {w W : World} (h : Below w.heap.size w W) (o : Obj) : Below w.heap.size w (W.alloc o) := bel_then h (bel1 W o)
theorem GrR.keepLo {R : El α} {t : TypeId} {w w' : World} {lo base : Nat} {l : List α} {v : Value} (h : GrR R t w lo base l v) (hlo : lo ≤ base) (hk : KeepB lo w w') : GrR R t w' lo base l v := by
  obtain ⟨xs, ho, he⟩ := h
  refine ⟨xs, ownsRow_keepB ho hk hlo, fun j hj => ?_⟩
  obtain ⟨sl, u, hcs, hin, hu⟩ := he j hj
  refine ⟨sl, cutW u lo, hcs, R.keep (cutW_keep u lo) (Nat.le_refl _) _ _ hin, fun a c' hc => ?_⟩
  obtain ⟨h1, h2⟩ := cutW_cell hc
  exact ⟨hk.keep a c' h1 (hu a c' h2).1, (hu a c' h2).2⟩
theorem GwGr.keep {g : Gg} {w w' : World} {lo : Nat} {s1 s2 : Value} (h : GwGr g w lo s1 s2) (hk : KeepB lo w w') (hs : w.heap.size ≤ w'.heap.size) : GwGr g w' lo s1 s2 := by
  obtain ⟨wv, h1, h2, h3, h4, h5⟩ := h
  exact ⟨wv, h1, h2.trans hk, by omega, h4, h5.keepLo (Nat.le_refl _) (hk.mono h1)⟩
theorem GwGr.put {g : Gg} {w : World} {lo B i : Nat} {c : Value} {s1 s2 : Value} (h : GwGr g w lo s1 s2) (hB : B < lo) : GwGr g (w.setCell ⟨B, i, none⟩ c) lo s1 s2 := h.keep (keepB_set hB) (by simp)
theorem GwGr.on {g : Gg} {w w' : World} {lo : Nat} {s1 s2 : Value} (h : GwGr g w lo s1 s2) (hb : Below w.heap.size w w') : GwGr g w' lo s1 s2 := h.keep ((keepB_below hb).mono (Nat.zero_le _)) hb.size
theorem GwGr.v {g : Gg} {w : World} {lo : Nat} {s1 s2 : Value} (h : GwGr g w lo s1 s2) : GrR RV 40 w lo lo g.vs s1 := by
  obtain ⟨wv, h1, h2, h3, h4, h5⟩ := h
  exact h4.keepLo (Nat.le_refl _) h2
theorem GwGr.is {g : Gg} {w : World} {lo : Nat} {s1 s2 : Value} (h : GwGr g w lo s1 s2) (h64 : I64 g.last) (hbv : g.vs.length * 48 ≤ 140737488351232) (hbe : g.es.length * 64 ≤ 140737488351232) : Gg.In w 0 g s1 s2 := by
  have hv := h.v
  obtain ⟨wv, h1, h2, h3, h4, h5⟩ := h
  exact ⟨h64, (hv.sq (Nat.le_refl _) hbv).low (Nat.zero_le _), (h5.sq (Nat.le_refl _) hbe).low (Nat.zero_le _)⟩
theorem GwGr.isl {g : Gg} {w : World} {lo : Nat} {s1 s2 : Value} (h : GwGr g w lo s1 s2) (h64 : I64 g.last) (hbv : g.vs.length * 48 ≤ 140737488351232) (hbe : g.es.length * 64 ≤ 140737488351232) : Gg.In w lo g s1 s2 := by
  have hv := h.v
  obtain ⟨wv, h1, h2, h3, h4, h5⟩ := h
  exact ⟨h64, hv.sq (Nat.le_refl _) hbv, (h5.sq (Nat.le_refl _) hbe).low h1⟩
/-- One vertex more: the row of vertices that grew beside the edges. -/
theorem gw_addv {g : Gg} {w w' : World} {lo : Nat} {s1 s2 s1' : Value} {y : Vx} (h : GwGr g w lo s1 s2) (hg : w.grownBy w' s1.ownBlock) (hG : GrR RV 40 w' lo lo (g.vs ++ [y]) s1') : ∃ lo2, lo ≤ lo2 ∧ GrR RL 46 w' lo2 lo2 g.es s2 := by
  obtain ⟨wv, h1, h2, h3, h4, h5⟩ := h
  refine ⟨wv.heap.size, h1, h5.keepLo (Nat.le_refl _) fun q o hq e => ?_⟩
  exact (hg.block q (Array.getElem?_eq_some_iff.1 e).1 (fun e' => by have := (h4.lt e'.symm).2; omega)).trans e
/-- One edge more. -/
theorem gw_adde {g : Gg} {w w' : World} {lo : Nat} {s1 s2 : Value} (h : GwGr g w lo s1 s2) (hg : w.grownBy w' s2.ownBlock) : GrR RV 40 w' lo lo g.vs s1 := by
  obtain ⟨wv, h1, h2, h3, h4, h5⟩ := h
  refine h4.keepLo (Nat.le_refl _) fun q o hq e => ?_
  have e2 := h2 q o hq e
  have hq2 := (Array.getElem?_eq_some_iff.1 e).1
  exact (hg.block q (Array.getElem?_eq_some_iff.1 e2).1 (fun e' => by have := (h5.lt e'.symm).1; omega)).trans e2
end Go.Proofs.Yteknbploiombiaa
