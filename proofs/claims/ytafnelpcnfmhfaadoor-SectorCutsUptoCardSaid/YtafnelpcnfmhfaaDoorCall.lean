/-
  A call that is counted, and the fuse.
-/
import Derived.Test.YtafnelpcnfmhfaaDoorSmall
namespace Go.Proofs.YtafnelpcnfmhfaaDoor
open Go.RowKit Go.Maps
set_option linter.unusedVariables false      -- a walk need not use every condition

theorem wrap_i64 {x : Int} : -9223372036854775808 ≤ wrap64 x ∧ wrap64 x ≤ 9223372036854775807 := by
  unfold wrap64
  omega
set_option maxHeartbeats 800000 in
theorem call40 (w : World) (d pb mb : Nat) (s : Dsk) (h : At w d pb mb s) (hd : s.down = false) :
    Calls Tryd.prog 40 #[.pointer (some ⟨d, 0, none⟩)] w fun e w' => e = .returned (.int .i64 s.call.1) ∧ At w' d pb mb s.call.2 ∧ Kept d pb mb w w' := by
  obtain ⟨c0, c1, c2, c3, c4, fr⟩ := five_of h.blk
  have f2 := fr 2
  have f3 := fr 3
  have f4 := fr 4
  have hfu := h.fu
  have hb := h.blk
  rw [hd] at c2 hb
  have H : Hid (At w d pb mb s) := h
  have HB : Hid (w.heap[d]? = some (.cells #[.slice (some ⟨pb, 0, none⟩) s.N s.N, .map (some mb), .bool false, .int .i64 s.fuse, .int .i64 s.calls] 76)) := hb
  clear h fr hb c0 c1
  unfold Dsk.call
  by_cases h1 : s.fuse = 1
  · rw [if_pos h1]
    rw [h1] at c3
    clear hfu
    go_enter Tryd.func40, Tryd.ntmps40
    go_wp2
    go_ret
    refine ⟨rfl, ?_, ?_⟩
    · refine H.out.turn ?_ ((gr_set w d 3 _).trans (gr_set _ d 2 _)) rfl rfl rfl rfl ⟨by simp, by simp⟩ H.out.cl
      rw [blk_set (blk_set HB.out _) _]
      rfl
    · exact Kept.grown ((gr_set w d 3 _).trans (gr_set _ d 2 _)) (fun k e => by injection e with e; exact .inl e.symm)
  · rw [if_neg h1]
    by_cases h2 : 0 < s.fuse
    · rw [if_pos h2]
      have h3 : IntKind.i64.wrap (s.fuse - 1) = s.fuse - 1 := by
        have := hfu.2
        simp [IntKind.wrap, IntKind.signed, IntKind.bits]
        omega
      have h4 : ¬ (s.fuse - 1 = 0) := by omega
      have HF : Hid (0 < s.fuse ∧ s.fuse ≤ 9223372036854775807) := ⟨h2, hfu.2⟩
      generalize hx : s.fuse = x at *
      go_enter Tryd.func40, Tryd.ntmps40
      go_wp2
      go_ret
      refine ⟨rfl, ?_, ?_⟩
      · refine H.out.turn ?_ (((gr_set w d 3 _).trans (gr_set _ d 2 _)).trans (gr_set _ d 4 _)) rfl rfl rfl rfl ⟨by have := HF.out; simp; omega, by have := HF.out; simp; omega⟩ wrap_i64
        rw [blk_set (blk_set (blk_set HB.out _) _) _]
        simp [hd]
      · exact Kept.grown (((gr_set w d 3 _).trans (gr_set _ d 2 _)).trans (gr_set _ d 4 _)) (fun k e => by injection e with e; exact .inl e.symm)
    · rw [if_neg h2]
      have h0 : s.fuse = 0 := by omega
      rw [h0] at c3
      clear hfu h1 h2
      go_enter Tryd.func40, Tryd.ntmps40
      go_wp2
      go_ret
      refine ⟨rfl, ?_, ?_⟩
      · refine H.out.turn ?_ (gr_set w d 4 _) rfl rfl rfl rfl H.out.fu wrap_i64
        rw [blk_set HB.out _]
        simp [hd]
      · exact Kept.grown (gr_set w d 4 _) (fun k e => by injection e with e; exact .inl e.symm)
end Go.Proofs.YtafnelpcnfmhfaaDoor
