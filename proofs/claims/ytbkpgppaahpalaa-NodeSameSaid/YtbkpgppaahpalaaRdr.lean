/-
  The reader of package node: fail, number, bytes.
-/
import Derived.Test.YtbkpgppaahpalaaRdm
import Derived.Test.YtbkpgppaahpalaaOwn
namespace Go.Proofs.Ytbkpgppaahpalaa
open Go.RowKit
set_option linter.unusedVariables false      -- a walk need not use every condition

/-- A reader at block r, with what is left of bytes that lay in w0. -/
def Rd (w0 w : World) (r : Nat) (s : RS) : Prop := ∃ v, w.heap[r]? = some (.cells #[v, .bool s.2] 65) ∧ Bs w0 v s.1 ∧ Below w0.heap.size w0 w ∧ w0.heap.size ≤ r
theorem two_of {w : World} {g : Nat} {a b : Value} {t : TypeId} (e : w.heap[g]? = some (.cells #[a, b] t)) : w.cell? ⟨g, 0, none⟩ = some a ∧ w.cell? ⟨g, 1, none⟩ = some b := by
  refine ⟨?_, ?_⟩ <;> simp [World.cell?, e]
/-- What a call leaves: the reader alone has turned. -/
def Rq (w0 : World) (r : Nat) (s : RS) (w w' : World) : Prop := Rd w0 w' r s ∧ w.grownBy w' (some r)
theorem Rd.set {w0 w : World} {r : Nat} {s s' : RS} {v : Value} (h : Rd w0 w r s) (hv : Bs w0 v s'.1) (w' : World) (hg : w.grownBy w' (some r)) (hw : w'.heap[r]? = some (.cells #[v, .bool s'.2] 65)) : Rq w0 r s' w w' := by
  obtain ⟨u, h1, h2, h3, h4⟩ := h
  exact ⟨⟨v, hw, hv, bel_put' h3 hg h4, h4⟩, hg⟩
where bel_put' {w0 w w' : World} {g : Nat} (h : Below w0.heap.size w0 w) (hg : w.grownBy w' (some g)) (hb : w0.heap.size ≤ g) : Below w0.heap.size w0 w' := h.grown hg h.size (fun k e => by injection e with e; omega)
theorem Rq.refl {w0 w : World} {r : Nat} {s : RS} (h : Rd w0 w r s) : Rq w0 r s w w := ⟨h, ⟨rfl, rfl, rfl, Nat.le_refl _, fun _ _ _ => rfl⟩⟩
theorem Rq.trans {w0 a b c : World} {r : Nat} {s s' : RS} (h : Rq w0 r s a b) (k : Rq w0 r s' b c) : Rq w0 r s' a c := ⟨k.1, h.2.trans k.2⟩
theorem Rd.on {w0 w w' : World} {r : Nat} {s : RS} (h : Rd w0 w r s) (hb : Below w.heap.size w w') : Rd w0 w' r s := by
  obtain ⟨u, h1, h2, h3, h4⟩ := h
  exact ⟨u, blk_on hb h1, h2, bel_then h3 hb, h4⟩
theorem gr_two (w : World) (g : Nat) (a b : Value) : w.grownBy ((w.setCell ⟨g, 0, none⟩ a).setCell ⟨g, 1, none⟩ b) (some g) := (gr_set w g 0 a).trans (gr_set _ g 1 b)
theorem blk_two {w : World} {g : Nat} {t : TypeId} {x y : Value} (h : w.heap[g]? = some (.cells #[x, y] t)) (a b : Value) : ((w.setCell ⟨g, 0, none⟩ a).setCell ⟨g, 1, none⟩ b).heap[g]? = some (.cells #[a, b] t) := by
  simp [World.setCell, Array.getElem?_modify, h]
theorem blk_first {w : World} {g : Nat} {t : TypeId} {x y : Value} (h : w.heap[g]? = some (.cells #[x, y] t)) (a : Value) : (w.setCell ⟨g, 0, none⟩ a).heap[g]? = some (.cells #[a, y] t) := by
  simp [World.setCell, Array.getElem?_modify, h]
set_option maxHeartbeats 1000000 in
theorem fail87 (w0 w : World) (r : Nat) (s : RS) (h : Rd w0 w r s) : Calls Try.prog 87 #[.pointer (some ⟨r, 0, none⟩)] w fun e w' => e = .returned (.tuple #[]) ∧ Rq w0 r bad w w' := by
  have hq : Rq w0 r bad w ((w.setCell ⟨r, 0, none⟩ (.slice none 0 0)).setCell ⟨r, 1, none⟩ (.bool true)) := by
    obtain ⟨v, h1, h2, h3, h4⟩ := id h
    exact h.set (bs_nil w0) _ (gr_two _ _ _ _) (blk_two h1 _ _)
  obtain ⟨v, h1, h2, h3, h4⟩ := h
  obtain ⟨q0, q1⟩ := two_of h1
  have f0 := four_fr h1 0
  have f1 := four_fr h1 1
  clear h1 h2 h3
  go_enter Try.func87, Try.ntmps87
  go_wp2
  simp [bodyPost, results, Try.results87, go_sem]
  exact hq
theorem take_tk {t : List UInt8} {u k : Nat} (h : tk t = some (u, k)) : ∃ i, fb t = some i ∧ inF (i + 1) (t.getD i 0) = true ∧ u = gv (t.take (i + 1)) ∧ k = i + 1 := by
  unfold tk at h
  cases hf : fb t with
  | none => rw [hf] at h; cases h
  | some i =>
    rw [hf] at h
    simp only at h
    cases hF : inF (i + 1) (t.getD i 0) with
    | false => rw [hF] at h; cases h
    | true =>
      rw [hF] at h
      simp only [if_true, Option.some.injEq, Prod.mk.injEq] at h
      exact ⟨i, rfl, hF, h.1.symm, h.2.symm⟩
theorem take_yes (w : World) (b : Value) (t : List UInt8) (hb : Bs w b t) (u k : Nat) (h : tk t = some (u, k)) : Calls Try.prog 96 #[b] w fun e w' => e = .returned (.tuple #[.int .u64 u, .int .i64 (k : Int), .int .i64 0]) ∧ w' = w := by
  obtain ⟨i, h1, h2, h3, h4⟩ := take_tk h
  have hu := (tk_back h).2.1
  have := take_ok w b t hb i h1 h2 (by rw [← h3]; exact hu)
  rw [← h3, ← h4] at this
  exact this
theorem take_no (w : World) (b : Value) (t : List UInt8) (hb : Bs w b t) (h : tk t = none) : ∃ n : Int, n ≠ 0 ∧ Calls Try.prog 96 #[b] w fun e w' => e = .returned (.tuple #[.int .u64 0, .int .i64 0, .int .i64 n]) ∧ w' = w := by
  unfold tk at h
  cases hf : fb t with
  | none => exact ⟨11, by decide, take_none w b t hb hf⟩
  | some i =>
    rw [hf] at h
    simp only at h
    cases hF : inF (i + 1) (t.getD i 0) with
    | false => exact ⟨12, by decide, take_bad w b t hb i hf hF⟩
    | true => rw [hF] at h; cases h
set_option maxHeartbeats 2000000 in
theorem number84 (w0 w : World) (r : Nat) (s : RS) (h : Rd w0 w r s) : Calls Try.prog 84 #[.pointer (some ⟨r, 0, none⟩)] w fun e w' => e = .returned (.int .i64 ((rNum s).1 : Nat)) ∧ Rq w0 r (rNum s).2 w w' := by
  have H := Lib.hid h
  have c87 := fail87 w0 w r s h
  obtain ⟨v, h1, h2, h3, h4⟩ := h
  have hB := h2.on h3
  obtain ⟨q0, q1⟩ := two_of h1
  have f0 := four_fr h1 0
  have HB1 := Lib.hid h1
  have HB2 := Lib.hid h2
  obtain ⟨p, cap, rfl, hlc, -, -, -⟩ := id h2
  unfold rNum
  cases hk : tk s.1 with
  | none =>
    obtain ⟨m, hm, c96⟩ := take_no w _ s.1 hB hk
    have hm1 : (m == 0) = false := by simp; exact hm
    have hm2 : (m != 0) = true := by simp; exact hm
    clear h1 h2 h3 hB hk
    go_enter Try.func84, Try.ntmps84
    go_wp2_with (first
      | (go_at_call 96; refine c96.mono ?_; rintro e w' ⟨rfl, ew⟩; rw [ew]; clear ew w')
      | (go_at_call 87; refine c87.mono ?_; rintro e w2 ⟨rfl, hq⟩))
    go_ret
    exact ⟨rfl, hq⟩
  | some x =>
    obtain ⟨u, N⟩ := x
    simp only
    have c96 := take_yes w _ s.1 hB u N hk
    obtain ⟨-, hu, hN1, hNl, -⟩ := tk_back hk
    by_cases hle : u ≤ 1099511627776
    · rw [if_pos hle]
      have hz : ¬ (1099511627776 : Int) < (u : Int) := by omega
      have hw : IntKind.i64.wrap (u : Int) = (u : Int) := by rw [IntKind.wrap_i64]; omega
      have hdr := HB2.out.drop (n := N) hNl
      have hl9 := HB2.out.slice
      obtain ⟨-, -, -, -, hl9⟩ := hl9
      clear h1 h2 h3 hB hk c87
      by_cases hcn : cap = N
      · subst hcn
        rw [if_pos rfl, Nat.sub_self, show s.1.length - cap = 0 by omega] at hdr
        have hq := Lib.hid (H.out.set (s' := (s.1.drop cap, s.2)) hdr _ (gr_set w r 0 _) (blk_first HB1.out _))
        generalize s.1.length = T at *
        clear hdr
        go_enter Try.func84, Try.ntmps84
        go_wp2_with (go_at_call 96; refine c96.mono ?_; rintro e w' ⟨rfl, ew⟩; rw [ew]; clear ew w')
        go_ret
        exact ⟨by first | rfl | simp, hq.out⟩
      · rw [if_neg hcn] at hdr
        have hq := Lib.hid (H.out.set (s' := (s.1.drop N, s.2)) hdr _ (gr_set w r 0 _) (blk_first HB1.out _))
        generalize s.1.length = T at *
        clear hdr
        go_enter Try.func84, Try.ntmps84
        go_wp2_with (go_at_call 96; refine c96.mono ?_; rintro e w' ⟨rfl, ew⟩; rw [ew]; clear ew w')
        go_ret
        exact ⟨by first | rfl | simp, hq.out⟩
    · rw [if_neg hle]
      have hz : (1099511627776 : Int) < (u : Int) := by omega
      clear h1 h2 h3 hB hk
      go_enter Try.func84, Try.ntmps84
      go_wp2_with (first
        | (go_at_call 96; refine c96.mono ?_; rintro e w' ⟨rfl, ew⟩; rw [ew]; clear ew w')
        | (go_at_call 87; refine c87.mono ?_; rintro e w2 ⟨rfl, hq⟩))
      go_ret
      exact ⟨rfl, hq⟩
end Go.Proofs.Ytbkpgppaahpalaa
