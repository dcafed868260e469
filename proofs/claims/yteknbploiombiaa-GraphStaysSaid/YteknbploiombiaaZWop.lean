/-
  What without of package graph does with properties.
-/
import Derived.Test.YteknbploiombiaaZPsm
import Derived.Test.YteknbploiombiaaZWoWoa
namespace Go.Proofs.Yteknbploiombiaa
open Go.RowKit
set_option linter.unusedVariables false      -- a walk need not use every condition

theorem nmEq (a b : ByteArray) : (a.toList == b.toList) = decide (a = b) := by
  rw [Lib.toList_data, Lib.toList_data, Bool.eq_iff_iff]
  simp only [beq_iff_eq, decide_eq_true_eq]
  obtain ⟨⟨la⟩⟩ := a
  obtain ⟨⟨lb⟩⟩ := b
  simp
theorem goes49 (x : Pr) (p : Option Addr) (n c : Nat) (nm : ByteArray) (B1 : Nat) (w : World) (h1 : w.cell? ⟨B1, 0, none⟩ = some (.string nm)) :
    Calls Try.prog 49 #[.agg #[.string x.nm, .int .i64 x.v.k, .int .i64 x.v.n, .string x.v.s, .slice p n c], .pointer (some ⟨B1, 0, none⟩)] w fun e w' => e = .returned (.bool (isN nm x)) ∧ Below w.heap.size w w' := by
  have k1 := some_on (bel1 w (Obj.cells #[.string x.nm, .int .i64 x.v.k, .int .i64 x.v.n, .string x.v.s, .slice p n c] 84)) h1
  have hb := Lib.hid (bel1 w (Obj.cells #[.string x.nm, .int .i64 x.v.k, .int .i64 x.v.n, .string x.v.s, .slice p n c] 84))
  have hd : (x.nm.toList == nm.toList) = isN nm x := nmEq _ _
  have hd' : isN nm x = decide (x.nm = nm) := rfl
  generalize isN nm x = A at *
  go_enter Try.func49, Try.ntmps49
  go_wp2
  go_ret
  exact ⟨by (rw [hd']; rfl), hb.out⟩

set_option maxRecDepth 100000 in
set_option maxHeartbeats 8000000 in
theorem without83_84 (l : List Pr) (sl : Value) (nm : ByteArray) (B1 lo : Nat) (w : World) (hs : Sq RP w lo l sl) (h1 : w.cell? ⟨B1, 0, none⟩ = some (.string nm)) (hlo : lo ≤ w.heap.size) :
    Calls Try.prog 48 #[sl, .func (.func 49) #[] #[.pointer (some ⟨B1, 0, none⟩)]] w fun e w' => ∃ v, e = .returned v ∧ GrR RP 84 w' lo w.heap.size (psDel nm l) v ∧ Below w.heap.size w w' := by
  obtain ⟨p, cap, rfl, hc, hcm, hby, hx⟩ := hs
  unfold maxLen at hcm
  have hx := Lib.hid hx
  have cg := fun (W : World) (hW : Below w.heap.size w W) (x : Pr) p n c => goes49 x p n c nm B1 W (some_on hW h1)
  obtain ⟨f, hf⟩ : ∃ f : Pr → Bool, f = fun x => isN nm x := ⟨_, rfl⟩
  have hff : (fun x : Pr => !(isN nm x)) = fun x => !f x := by rw [hf]
  unfold psDel
  rw [hff]
  have cg : ∀ (W : World) (hW : Below w.heap.size w W) (x : Pr) p n c, Calls Try.prog 49 #[.agg #[.string x.nm, .int .i64 x.v.k, .int .i64 x.v.n, .string x.v.s, .slice p n c], .pointer (some ⟨B1, 0, none⟩)] W fun e w' => e = .returned (.bool (f x)) ∧ Below W.heap.size W w' := by rw [hf]; exact cg
  clear hff hf h1
  obtain ⟨N, hN⟩ : ∃ n, l.length = n := ⟨_, rfl⟩
  rw [hN] at hc hby ⊢
  have hby : N * 72 ≤ 140737488351232 := hby
  have hlen := Lib.hid hN
  clear hN
  obtain ⟨i0, hi, hz0, hz1, hz2⟩ := info_parts info99
  have hlo := Lib.hid hlo
  go_enter Try.func48, Try.ntmps48
  go_wp2
  go_loopg [10, 7, 5] N (fun c s10 s7 s5 wr => ∃ (i : Nat) (q : Option Addr) (m d : Nat), i + c = N ∧ s10 = .int .i64 i ∧ s5 = .slice q m d ∧ Hid (Below w.heap.size w wr) ∧ Hid (GrR RP 84 wr lo w.heap.size ((l.take i).filter (fun x => !f x)) (.slice q m d)))
  case atStart => exact ⟨0, none, 0, 0, by omega, rfl, rfl, Below.refl _ _, grR_nil _ _ _ _ _⟩
  case round =>
    obtain ⟨i, q, m, d, hig, rfl, rfl, hB, hgr⟩ := hrel
    cases gk with
    | succ c =>
      have hil : i < l.length := by have := hlen.out; omega
      have hiz : (i : Int) < (N : Int) := by omega
      have hiz0 : (0 : Int) ≤ (i : Int) := by omega
      obtain ⟨b, o, rfl, hlb, hx1⟩ := hx.out.resolve_left (by rintro rfl; simp at hil)
      obtain ⟨s1, hat, hv1⟩ := hx1.at i hil
      obtain ⟨p1, n1, c1, rfl⟩ := hdP hv1
      obtain ⟨a0, a1, a2, a3, a4⟩ := ats5 (hat.keep (keep_below hB.out) hlb)
      simp only [show RP.n = 5 from rfl] at a0 a1 a2 a3 a4
      have htf := Lib.hid (take_fltr hil (fun x => !f x))
      have hfl : Hid (((l.take i).filter (fun x => !f x)).length ≤ i) := by
        show _ ≤ _
        exact Nat.le_trans (List.length_filter_le _ _) (by simp; omega)
      have hm : Hid (m = ((l.take i).filter (fun x => !f x)).length) := by
        show _ = _
        obtain ⟨_, _, e, _⟩ := hgr.out.form
        injection e
      have hv1 := Lib.hid hv1
      clear hat hx1 hx
      generalize l[i] = x at *
      generalize (l.take i).filter (fun x => !f x) = L at *
      have hBW := Lib.hid (bel_then hB.out (bel1 wr (Obj.cells #[.string x.nm, .int .i64 x.v.k, .int .i64 x.v.n, .string x.v.s, .slice p1 n1 c1] 84)))
      have hbl := Lib.hid (World.alloc_heap_new wr (Obj.cells #[.string x.nm, .int .i64 x.v.k, .int .i64 x.v.n, .string x.v.s, .slice p1 n1 c1] 84))
      have hb1 := Lib.hid (bel1 wr (Obj.cells #[.string x.nm, .int .i64 x.v.k, .int .i64 x.v.n, .string x.v.s, .slice p1 n1 c1] 84))
      have c66 := cg _ hBW.out x p1 n1 c1
      generalize hfx : f x = fx at *
      cases fx with
      | true =>
        go_wp2_with (go_at_call 49; refine c66.mono ?_; rintro e w2 ⟨rfl, hb2⟩; have HB2 := Lib.hid (bel_then hb1.out hb2); clear hb2 c66)
        go_roundg c
        case measure => omega
        case rel => exact ⟨i + 1, q, m, d, by omega, by first | rfl | simp, rfl, bel_then hB.out HB2.out, by show GrR _ _ _ _ _ _ _; rw [htf.out]; simpa using hgr.out.on HB2.out⟩
      | false =>
        have hu := Lib.hid (fun (W : World) (hW : Below wr.heap.size wr W) => (show ∀ a c', w.cell? a = some c' → W.cell? a = some c' ∧ some a.block ≠ (Value.slice q m d).ownBlock from fun a c' hc' => ⟨some_on hW (some_on hB.out hc'), fun e => by have := (hgr.out.lt e.symm).1; have := cell_lt hc'; omega⟩))
        go_wp2_with (first
          | (go_at_call 49; refine c66.mono ?_; rintro e w2 ⟨rfl, hb2⟩; have HB2 := Lib.hid (bel_then hb1.out hb2); obtain ⟨u0, u1, u2, u3, u4, uf⟩ := five_of (blk_on hb2 hbl.out); clear hb2 c66)
          | (at_builtin; refine wpList_gro len_RP (by decide) 38 84 i0 zPr Try.underlying38 hi hz0 hz1 hz2 rfl _ rfl _ _ rfl lo w.heap.size _ L _ x (.slice p1 n1 c1) w rfl (by exact (hgr.out.on HB2.out).alloc _) rfl hv1.out (by exact hu.out _ (bel_then HB2.out (bel1 _ _))) (by exact new_ats' _ (RP.cs x (.slice p1 n1 c1)) 84 (by simp)) (by intro c hc; simp only [RP, List.mem_cons, List.not_mem_nil, or_false] at hc; rcases hc with rfl | rfl | rfl | rfl | rfl <;> rfl) (by have := hfl.out; unfold maxLen; omega) (by have := hfl.out; show (L.length + 1) * 72 ≤ _; omega) (by have := (bel_then hB.out HB2.out).size; simp; omega) ?_; intro g5 cap5 w5 hG5 hgr5 hg5; have HG := Lib.hid (And.intro hG5 (gro_below ((hgr.out.on HB2.out).alloc _) hgr5 (Nat.le_refl _) (by have := (bel_then hB.out HB2.out).size; simp; omega))); clear hG5 hgr5 hg5))
        go_roundg c
        case measure => omega
        case rel => exact ⟨i + 1, _, _, _, by omega, by first | rfl | simp, rfl, (bel_then hB.out (bel_then HB2.out (bel1 _ _))).trans HG.out.2, by show GrR _ _ _ _ _ _ _; rw [htf.out]; simpa using HG.out.1⟩
    | zero =>
      obtain rfl : i = N := by omega
      have hfin : Hid (GrR RP 84 wr lo w.heap.size (l.filter (fun x => !f x)) (.slice q m d)) := by
        have := hgr.out
        rwa [← hlen.out, List.take_length] at this
      clear hgr hx cg
      go_wp2
      go_ret
      exact ⟨_, rfl, hfin.out, hB.out⟩
end Go.Proofs.Yteknbploiombiaa
