/-
  The reader of package value, open or not, and whatever is wrong: what comes next in a list or a map.
-/
import Derived.Test.YtbicodlclmdgaaaGreatDoorRoG
import Derived.Test.YtbicodlclmdgaaaGreatDoorRow
namespace Go.Proofs.YtbicodlclmdgaaaGreatDoor
open Go.RowKit
set_option linter.unusedVariables false      -- a walk need not use every condition

theorem edge22 (n : Int) (w : World) : Calls Tryz.prog 22 #[.int .i64 n] w fun e w' => e = .returned (.agg #[.int .i64 7, .int .i64 n, .string ⟨#[]⟩, .slice none 0 0]) ∧ Below w.heap.size w w' := by
  go_enter Tryz.func22, Tryz.ntmps22
  go_wp2
  simp [bodyPost, results, Tryz.results22, go_sem]
  exact bel1 w _
theorem vertex20 (n : Int) (w : World) : Calls Tryz.prog 20 #[.int .i64 n] w fun e w' => e = .returned (.agg #[.int .i64 6, .int .i64 n, .string ⟨#[]⟩, .slice none 0 0]) ∧ Below w.heap.size w w' := by
  go_enter Tryz.func20, Tryz.ntmps20
  go_wp2
  simp [bodyPost, results, Tryz.results20, go_sem]
  exact bel1 w _
set_option maxHeartbeats 1000000 in
theorem greatest97 (w : World) : Calls Tryz.prog 97 #[] w fun e w' => e = .returned (.agg #[.int .i64 7, .int .i64 281474976710656, .string ⟨#[]⟩, .slice none 0 0]) ∧ Below w.heap.size w w' := by
  have k0 := blk_new w (.cells #[.int .i64 0, .int .i64 0, .string ⟨#[]⟩, .slice none 0 0] 24)
  have hbw := bel1 w (.cells #[.int .i64 0, .int .i64 0, .string ⟨#[]⟩, .slice none 0 0] 24)
  have hsz : (w.alloc (.cells #[.int .i64 0, .int .i64 0, .string ⟨#[]⟩, .slice none 0 0] 24)).heap.size = w.heap.size + 1 := by simp
  go_enter Tryz.func97, Tryz.ntmps97
  go_wp2_with (go_at_call 22; refine (edge22 _ _).mono ?_; rintro e w2 ⟨rfl, hb2⟩; rw [hsz] at hb2; have k2 := (hb2.block w.heap.size (by omega)).trans k0; obtain ⟨y0, y1, y2, y3, yf⟩ := four_of k2)
  have hfin : Below w.heap.size w (put4 w2 w.heap.size 0 (.int .i64 7) (.int .i64 281474976710656) (.string ⟨#[]⟩) (.slice none 0 0)) := (hbw.trans (hb2.mono (by omega))).trans (below_put4 (Nat.le_refl _) _ _ _ _)
  unfold put4 at hfin
  simp [bodyPost, results, Tryz.results97, go_sem, y0, y1, y2, y3]
  exact hfin

/-- What next comes to. -/
def Nx (r : Nat) (T : ByteArray) (p : Nat) (o : Bool) (k : Nat) (w : World) (cl : UInt8) (more : Bool) (e : Ending) (w' : World) : Prop :=
  (∃ how p' : Nat, p ≤ p' ∧ p' ≤ T.size ∧ e = .returned (.int .i64 how) ∧ Rq r T p' o k w w' ∧ Hid ((how = 0 ∨ how = 1 ∨ how = 2) ∧ (how = 2 → o = true) ∧ (p = T.size → how = 2) ∧ (o = false → pNext cl more (rest T p) = some (decide (how = 1), rest T p')))) ∨
    (Fails r T w e w' ∧ Hid (o = false → pNext cl more (rest T p) = none))
set_option maxHeartbeats 1000000 in
set_option maxRecDepth 20000 in
theorem next117o (w : World) (r : Nat) (T : ByteArray) (p : Nat) (o : Bool) (k : Nat) (h : Ro w r T p o k) (hp : p ≤ T.size) (cl : UInt8) (more : Bool) (hT : T.size ≤ 140737488000000) :
    Calls Tryz.prog 117 #[.pointer (some ⟨r, 0, none⟩), .int .u8 cl.toNat, .bool more] w (Nx r T p o k w cl more) := by
  have hTm : T.size ≤ maxLen := by unfold maxLen; omega
  by_cases hlt : p < T.size
  · have c96 := cut96_no w r T p o k h hlt
    by_cases hc : T[p] = cl
    · have heq : ((T[p].toNat : Int) == (cl.toNat : Int)) = true := by rw [hc]; simp
      have hw : IntKind.i64.wrap ((p : Int) + 1) = (p : Int) + 1 := by rw [IntKind.wrap_i64]; omega
      have hsp : Hid (pNext cl more (rest T p) = some (true, rest T (p + 1))) := by show _ = _; rw [rest_cons hlt]; simp only [pNext]; rw [if_pos hc]
      clear hc
      go_enter Tryz.func117, Tryz.ntmps117
      go_wp2_with (go_at_call 96; refine c96.mono ?_; rintro e w1 ⟨rfl, h1⟩; obtain ⟨c0, c1, c2, c3, cf⟩ := h1.2.cells)
      go_region
      go_wp2
      go_ret
      exact .inl ⟨1, p + 1, by omega, by omega, rfl, h1.dr.step, ⟨.inr (.inl rfl), fun h => (by cases h), fun h => (by omega), fun _ => hsp.out⟩⟩
    · have heq : ((T[p].toNat : Int) == (cl.toNat : Int)) = false := by
        simp; intro e; exact hc (UInt8.toNat_inj.1 (by omega))
      cases more with
      | false =>
        have hsp : Hid (pNext cl false (rest T p) = some (false, rest T p)) := by
          show _ = _
          rw [rest_cons hlt]; simp only [pNext]; rw [if_neg hc]; rfl
        clear hc
        go_enter Tryz.func117, Tryz.ntmps117
        go_wp2_with (go_at_call 96; refine c96.mono ?_; rintro e w1 ⟨rfl, h1⟩; obtain ⟨c0, c1, c2, c3, cf⟩ := h1.2.cells)
        go_region
        go_wp2
        go_ret
        exact .inl ⟨0, p, by omega, by omega, rfl, h1.dr, ⟨.inl rfl, fun h => (by cases h), fun h => (by omega), fun _ => hsp.out⟩⟩
      | true =>
        have hsp : Hid (pNext cl true (rest T p) = (strip [44, 32] (rest T p)).map fun s => (false, s)) := by
          show _ = _
          rw [rest_cons hlt]; simp only [pNext]; rw [if_neg hc]
          cases hx : strip (sep (!true)) (T[p] :: rest T (p + 1)) with
          | none => rw [show strip [44, 32] (T[p] :: rest T (p + 1)) = none from hx]; rfl
          | some y => rw [show strip [44, 32] (T[p] :: rest T (p + 1)) = some y from hx]; rfl
        have c99 := fun w h => word99o w r T ⟨#[44, 32]⟩ p o k h hp hTm
        clear hc
        go_enter Tryz.func117, Tryz.ntmps117
        go_wp2_with (go_at_call 96; refine c96.mono ?_; rintro e w1 ⟨rfl, h1⟩; obtain ⟨c0, c1, c2, c3, cf⟩ := h1.2.cells)
        go_region
        go_wp2_with (go_at_call 99; refine (c99 _ h1.dr.2).mono ?_; rintro e w5 (⟨u5, p5, hp5, ⟨rfl, hle5, hlt5, h5⟩, hs5⟩ | ⟨⟨q2, hq2, rfl, hg⟩, hs5⟩))
        · go_ret
          exact .inl ⟨0, p5, hle5, hp5, rfl, h1.dr.trans h5, ⟨.inl rfl, fun h => (by cases h), fun h => (by omega), fun ho => by rw [hsp.out, map_some (hs5.out ho)]; rfl⟩⟩
        · exact ⟨rfl, .inr ⟨⟨q2, hq2, rfl, h1.dr.1.trans hg⟩, fun ho => by rw [hsp.out, map_none (hs5.out ho)]; rfl⟩⟩
  · have hpe : p = T.size := by omega
    have c96 := cut96_end w r T p o k h hpe
    have hsp : Hid (pNext cl more (rest T p) = none) := by show _ = _; rw [rest_nil hpe]; rfl
    clear hpe
    go_enter Tryz.func117, Tryz.ntmps117
    go_wp2_with (go_at_call 96; refine c96.mono ?_; rintro e w1 (⟨ho, rfl, h1⟩ | ⟨ho, q2, hq2, rfl, hg⟩))
    · go_ret
      exact .inl ⟨2, p, by omega, by omega, rfl, h1, ⟨.inr (.inr rfl), fun _ => ho, fun _ => rfl, fun h => by rw [ho] at h; cases h⟩⟩
    · exact ⟨rfl, .inr ⟨⟨q2, hq2, rfl, hg⟩, fun _ => hsp.out⟩⟩
end Go.Proofs.YtbicodlclmdgaaaGreatDoor
