/-
  The value of an element's first property of a name.
-/
import Derived.Test.YteknbploiombiaaZWop
namespace Go.Proofs.Yteknbploiombiaa
open Go.RowKit
set_option linter.unusedVariables false      -- a walk need not use every condition

theorem get_at {nm : ByteArray} : ∀ {l : List Pr} {i : Nat} (hi : i < l.length), (∀ t (ht : t < l.length), t < i → isN nm l[t] = false) → isN nm l[i] = true → psGet nm l = l[i].v ∧ psHas nm l = true
  | [], i, hi, _, _ => absurd hi (Nat.not_lt_zero _)
  | p :: r, 0, _, _, h => by
    have h : isN nm p = true := h
    rw [get_cons, has_cons, h]; exact ⟨rfl, rfl⟩
  | p :: r, i + 1, hi, hf, h => by
    have h0 : isN nm p = false := hf 0 (by simp) (by omega)
    rw [get_cons, has_cons, h0]
    exact get_at (l := r) (i := i) (by simpa using hi) (fun t ht hti => hf (t + 1) (by simpa using ht) (by omega)) h
theorem get_no {nm : ByteArray} : ∀ {l : List Pr}, (∀ t (ht : t < l.length), isN nm l[t] = false) → psGet nm l = zeroV ∧ psHas nm l = false
  | [], _ => ⟨rfl, rfl⟩
  | p :: r, hf => by
    have h0 : isN nm p = false := hf 0 (by simp)
    rw [get_cons, has_cons, h0]
    exact get_no (l := r) (fun t ht => hf (t + 1) (by simpa using ht))
theorem zero_in (w : World) (lo : Nat) : zeroV.In w lo (.slice none 0 0) := by
  unfold zeroV
  simp only [V.In]
  refine ⟨by unfold I64; decide, by unfold I64; decide, by decide, none, 0, rfl, Nat.le_refl _, by unfold maxLen; omega, by decide, .inl trivial⟩
theorem frz {w : World} {g : Nat} {cs : Array Value} {t : TypeId} (e : w.heap[g]? = some (.cells cs t)) (i : Nat) : w.frozen? ⟨g, i, none⟩ = false := by simp [World.frozen?, e]
set_option maxRecDepth 100000 in
set_option maxHeartbeats 4000000 in
theorem prop37 (ps : List Pr) (hdr : Value) (i0 : Int) (lb nm : ByteArray) (w : World) (hs : Sq RP w 0 ps hdr) :
    Calls Try.prog 37 #[.agg #[.int .i64 i0, .string lb, hdr], .string nm] w fun e w' => ∃ hv, e = .returned (.tuple #[(psGet nm ps).agg hv, .bool (psHas nm ps)]) ∧ (psGet nm ps).In w' 0 hv ∧ Below w.heap.size w w' := by
  obtain ⟨p, cap, rfl, hc, hcm, -, hx⟩ := hs
  unfold maxLen at hcm
  have hx := Lib.hid hx
  obtain ⟨N, hN⟩ : ∃ n, ps.length = n := ⟨_, rfl⟩
  rw [hN] at hc ⊢
  have hlen := Lib.hid hN
  clear hN
  have hb0 := Lib.hid (bel2 w (Obj.cells #[.int .i64 i0, .string lb, .slice p N cap] 70) (Obj.cells #[.int .i64 0, .int .i64 0, .string ⟨#[]⟩, .slice none 0 0] 30))
  have hres : Hid (((w.alloc (Obj.cells #[.int .i64 i0, .string lb, .slice p N cap] 70)).alloc (Obj.cells #[.int .i64 0, .int .i64 0, .string ⟨#[]⟩, .slice none 0 0] 30)).heap[w.heap.size + 1]? = some (Obj.cells #[.int .i64 0, .int .i64 0, .string ⟨#[]⟩, .slice none 0 0] 30)) := by
    have := World.alloc_heap_new (w.alloc (Obj.cells #[.int .i64 i0, .string lb, .slice p N cap] 70)) (Obj.cells #[.int .i64 0, .int .i64 0, .string ⟨#[]⟩, .slice none 0 0] 30)
    rwa [World.size_alloc] at this
  obtain ⟨G, hG⟩ : ∃ v, psGet nm ps = v := ⟨_, rfl⟩
  obtain ⟨Hs, hH⟩ : ∃ v, psHas nm ps = v := ⟨_, rfl⟩
  rw [hG, hH]
  have hG := Lib.hid hG
  have hH := Lib.hid hH
  unfold V.agg
  go_enter Try.func37, Try.ntmps37
  go_wp2
  generalize (w.alloc (Obj.cells #[.int .i64 i0, .string lb, .slice p N cap] 70)).alloc (Obj.cells #[.int .i64 0, .int .i64 0, .string ⟨#[]⟩, .slice none 0 0] 30) = W at *
  go_loopg [11, 7] N (fun c s11 s7 wr => ∃ i : Nat, i + c = N ∧ s11 = .int .i64 i ∧ Hid (Below W.heap.size W wr) ∧ Hid (∀ t (ht : t < ps.length), t < i → isN nm ps[t] = false))
  case atStart => exact ⟨0, by omega, rfl, Below.refl _ _, fun t _ h => absurd h (Nat.not_lt_zero _)⟩
  case round =>
    obtain ⟨i, hig, rfl, hB, hall⟩ := hrel
    have hres' := Lib.hid (blk_on hB.out hres.out)
    cases gk with
    | succ c =>
      have hi : i < ps.length := by have := hlen.out; omega
      have hiz : (i : Int) < (N : Int) := by omega
      have hi0 : (0 : Int) ≤ (i : Int) := by omega
      obtain ⟨b, o, rfl, -, hxx⟩ := hx.out.resolve_left (by rintro rfl; simp at hi)
      obtain ⟨s1, hat, hv1⟩ := hxx.at i hi
      replace hat := hat.keep (keep_below (bel_then hb0.out hB.out)) (Nat.zero_le _)
      obtain ⟨p1, n1, c1, rfl⟩ := hdP hv1
      obtain ⟨a0, a1, a2, a3, a4⟩ := ats5 hat
      simp only [show RP.n = 5 from rfl] at a0 a1 a2 a3 a4
      have hF : Hid (isN nm ps[i] = false → ∀ t (ht : t < ps.length), t < i + 1 → isN nm ps[t] = false) := fun h t ht hti => by
        by_cases e : t = i
        · subst e; exact h
        · exact hall.out t ht (by omega)
      have hY : Hid (isN nm ps[i] = true → G = ps[i].v ∧ Hs = true) := fun h => by
        obtain ⟨e1, e2⟩ := get_at hi hall.out h
        rw [← hG.out, ← hH.out]; exact ⟨e1, e2⟩
      have hv1 := Lib.hid hv1.2
      clear hat hxx hx
      generalize ps[i] = x at *
      have hd : (x.nm.toList == nm.toList) = isN nm x := nmEq _ _
      have hd' : decide (x.nm = nm) = isN nm x := rfl
      have nx := Lib.hid (World.alloc_heap_new wr (Obj.cells #[.string x.nm, .int .i64 x.v.k, .int .i64 x.v.n, .string x.v.s, .slice p1 n1 c1] 84))
      have hbx := Lib.hid (bel1 wr (Obj.cells #[.string x.nm, .int .i64 x.v.k, .int .i64 x.v.n, .string x.v.s, .slice p1 n1 c1] 84))
      obtain ⟨z0, z1, z2, z3⟩ := four_cells (blk_on hbx.out hres'.out)
      generalize hA : isN nm x = A at *
      cases A with
      | true =>
        obtain ⟨e1, e2⟩ := hY.out rfl
        subst e2
        have e1 := Lib.hid e1
        clear hF hY
        have hf0 := frz (blk_on hbx.out hres'.out) 0
        have hf1 := frz (blk_on hbx.out hres'.out) 1
        have hf2 := frz (blk_on hbx.out hres'.out) 2
        have hf3 := frz (blk_on hbx.out hres'.out) 3
        go_wp2
        have q4 := blk_on hbx.out hres'.out
        have hbf : Below w.heap.size w (putL (wr.alloc (Obj.cells #[.string x.nm, .int .i64 x.v.k, .int .i64 x.v.n, .string x.v.s, .slice p1 n1 c1] 84)) (w.heap.size + 1) 0 [.int .i64 x.v.k, .int .i64 x.v.n, .string x.v.s, .slice p1 n1 c1]) :=
          (bel_then hb0.out (bel_then hB.out hbx.out)).trans (putL_below (by omega))
        have hin : x.v.In (putL (wr.alloc (Obj.cells #[.string x.nm, .int .i64 x.v.k, .int .i64 x.v.n, .string x.v.s, .slice p1 n1 c1] 84)) (w.heap.size + 1) 0 [.int .i64 x.v.k, .int .i64 x.v.n, .string x.v.s, .slice p1 n1 c1]) 0 (.slice p1 n1 c1) := by
          exact hv1.out.on hbf
        unfold putL putL putL putL putL at hbf hin
        simp [bodyPost, results, Try.results37, go_sem, z0, z1, z2, z3]
        exact ⟨.slice p1 n1 c1, by rw [e1.out]; exact ⟨rfl, rfl, rfl, rfl⟩, by rw [e1.out]; exact hin, hbf⟩
      | false =>
        have hr := Lib.hid (hF.out rfl)
        clear hF hY
        go_wp2
        go_roundg c
        case measure => omega
        case rel => exact ⟨i + 1, by omega, by first | rfl | simp, bel_then hB.out hbx.out, hr.out⟩
    | zero =>
      obtain rfl : i = N := by omega
      obtain ⟨e1, e2⟩ := get_no (nm := nm) (l := ps) (fun t ht => hall.out t ht (by have := hlen.out; omega))
      rw [hG.out] at e1
      rw [hH.out] at e2
      subst e2
      have e1 := Lib.hid e1
      obtain ⟨z0, z1, z2, z3⟩ := four_cells hres'.out
      clear hall hx
      have hf0 := frz hres'.out 0
      have hf1 := frz hres'.out 1
      have hf2 := frz hres'.out 2
      have hf3 := frz hres'.out 3
      have hbf : Below w.heap.size w (putL wr (w.heap.size + 1) 0 [.int .i64 0, .int .i64 0, .string ⟨#[]⟩, .slice none 0 0]) := (bel_then hb0.out hB.out).trans (putL_below (by omega))
      unfold putL putL putL putL putL at hbf
      go_wp2
      simp [bodyPost, results, Try.results37, go_sem, z0, z1, z2, z3]
      exact ⟨.slice none 0 0, by rw [e1.out]; exact ⟨rfl, rfl, rfl, rfl⟩, by rw [e1.out]; exact zero_in _ _, hbf⟩
end Go.Proofs.Yteknbploiombiaa
