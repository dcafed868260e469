/-
  What write of a head does.
-/
import Derived.Test.YtnclhjjhobbbjaaDoorZOpmPut
import Derived.Test.YtnclhjjhobbbjaaDoorZSlcRec
namespace Go.Proofs.YtnclhjjhobbbjaaDoor
open Go.RowKit Go.Maps
set_option linter.unusedVariables false      -- a walk need not use every condition
attribute [local go_sem ↓] Go.wp_at_zero Go.wp_at_succ

def hpay (slots : Nat) (note : List UInt8) : List UInt8 := vnt slots ++ note
/-- A head is written, and flushed. -/
def Dsk.hwr (s : Dsk) (e : Int) (slots : Nat) (note : List UInt8) : Int × Dsk :=
  if (s.put (e % 2) 1 e (hpay slots note)).1 ≠ 0 then s.put (e % 2) 1 e (hpay slots note) else (s.put (e % 2) 1 e (hpay slots note)).2.flush
theorem three_of {w : World} {g : Nat} {a b c : Value} {t : TypeId} (hb : w.heap[g]? = some (.cells #[a, b, c] t)) :
    w.cell? ⟨g, 0, none⟩ = some a ∧ w.cell? ⟨g, 1, none⟩ = some b ∧ w.cell? ⟨g, 2, none⟩ = some c ∧ ∀ i, w.frozen? ⟨g, i, none⟩ = false := by
  refine ⟨?_, ?_, ?_, fun i => ?_⟩ <;> simp [World.cell?, World.frozen?, hb]
theorem bel_drew {w w' : World} (h : Below w.heap.size w.drew w') : Below w.heap.size w w' := ⟨h.os, h.tape, h.output, h.size, h.block⟩
set_option maxHeartbeats 4000000 in
set_option maxRecDepth 100000 in
theorem hwrite28 (w : World) (d pb mb : Nat) (s : Dsk) (h : At w d pb mb s) (e : Int) (he : 0 < e) (he2 : e ≤ 1099511627776) (slots : Nat) (hs : slots ≤ 4096) (nv : Value) (note : List UInt8) (hn : Bs w nv note)
    (hl : (hpay slots note).length ≤ 112) (hT : TabOk w) :
    Calls Tryd.prog 28 #[.agg #[.int .i64 e, .int .i64 slots, nv], .pointer (some ⟨d, 0, none⟩)] w fun r w' => r = .returned (.int .i64 (s.hwr e slots note).1) ∧ At w' d pb mb (s.hwr e slots note).2 ∧ Kept d pb mb w w' := by
  have HN := Lib.hid hn
  have HT := Lib.hid hT
  have HA := Lib.hid h
  obtain ⟨np, nc, rfl, -⟩ := hn
  have hw : IntKind.u64.wrap (slots : Int) = (slots : Int) := by rw [IntKind.wrap_u64]; omega
  obtain ⟨W0, hW0⟩ : ∃ W0, w.alloc (.cells #[.int .i64 e, .int .i64 slots, .slice np note.length nc] 52) = W0 := ⟨_, rfl⟩
  have B0 : Below w.heap.size w W0 := by rw [← hW0]; exact bel1 w _
  have blk0 : W0.heap[w.heap.size]? = some (.cells #[.int .i64 e, .int .i64 slots, .slice np note.length nc] 52) := by rw [← hW0]; exact heap_alloc_last w _
  obtain ⟨c0, c1, c2, -⟩ := three_of blk0
  obtain ⟨d0, d1, d2, -⟩ := three_of (w := W0.drew) blk0
  have HN0 := Lib.hid (HN.out.on B0)
  have cP := put45 slots (by omega) W0.drew
  have hok : okF 1 e (hpay slots note) = true := by unfold okF; simp; omega
  have HP : Hid (hpay slots note = vnt slots ++ note) := rfl
  have cPut := fun W hW v hv hT' => put46 W d pb mb s hW (e % 2) 1 e v (hpay slots note) hv hT' (by omega) hok
  have hlen : Hid ((vnt slots).length + note.length ≤ 112) := by show _ ≤ _; have := hl; unfold hpay at this; rwa [List.length_append] at this
  unfold Dsk.hwr
  generalize hq : s.put (e % 2) 1 e (hpay slots note) = q at *
  obtain ⟨qe, qs⟩ := q
  simp only at cPut ⊢
  obtain ⟨FR, hFR⟩ : ∃ FR, (if qe ≠ 0 then (qe, qs) else qs.flush) = FR := ⟨_, rfl⟩
  rw [hFR]
  have HFR := Lib.hid hFR
  clear hFR
  generalize hpay slots note = PY at *
  generalize vnt slots = VS at *
  have hem : Hid (0 ≤ e) := by show _ ≤ _; omega
  clear hq hT h hok hl he2 HN
  go_enter Tryd.func28, Tryd.ntmps28
  go_wp2
  go_region_with (first
    | (go_at_call 45; refine cP.mono ?_
       rintro r w2 ⟨y, rfl, hbt, hb2⟩
       have hb2' : Below W0.heap.size W0 w2 := ⟨hb2.os, hb2.tape, hb2.output, hb2.size, hb2.block⟩
       obtain ⟨x0, x1, x2, -⟩ := three_of (blk_on hb2' blk0)
       obtain ⟨v3, w3, hap, hR3, hg3⟩ := app_run w2 W0.heap.size y _ VS note hbt (HN0.out.on hb2') (by have := hlen.out; omega) hb2.size 43
       have stp := Lib.hid (And.intro hR3 (hb2'.trans (hbt.below hg3 hb2'.size)))
       obtain ⟨yp, yc, rfl, -⟩ := hbt.bs
       simp [go_sem] at hap
       clear hR3 hg3 hbt hb2 hb2'))
  all_goals
    clear hap hW0
    obtain ⟨vp, vc, rfl, -⟩ := stp.out.1.bs
    have hV : Hid (Bs w3 (.slice vp (VS ++ note).length vc) PY) := by have := stp.out.1.bs; rw [← HP.out] at this ⊢; exact this
    have B3 := Lib.hid (bel_then B0 stp.out.2)
    have blk3 := blk_on stp.out.2 blk0
    clear stp
    generalize (VS ++ note).length = NL at *
    obtain ⟨z0, z1, z2, -⟩ := three_of blk3
    obtain ⟨W4, hW4⟩ : ∃ W4, w3.alloc (.cells #[.int .i64 1, .int .i64 e, .slice vp NL vc] 79) = W4 := ⟨_, rfl⟩
    have blk4 := blk_on (bel1 w3 (.cells #[.int .i64 1, .int .i64 e, .slice vp NL vc] 79)) blk3
    have fr4 := heap_alloc_last w3 (.cells #[.int .i64 1, .int .i64 e, .slice vp NL vc] 79)
    have B4 := Lib.hid (bel_then B3.out (bel1 w3 (.cells #[.int .i64 1, .int .i64 e, .slice vp NL vc] 79)))
    have V4 := Lib.hid (hV.out.on (bel1 w3 (.cells #[.int .i64 1, .int .i64 e, .slice vp NL vc] 79)))
    rw [hW4] at blk4 fr4 B4 V4
    obtain ⟨y0, y1, y2, -⟩ := three_of blk4
    obtain ⟨f0, f1, f2, -⟩ := three_of fr4
    obtain ⟨yd0, yd1, yd2, -⟩ := three_of (w := W4.drew) blk4
    obtain ⟨fd0, fd1, fd2, -⟩ := three_of (w := W4.drew) fr4
    have c47 := at47 W4.drew e hem.out (.int .i64 slots) (.slice np note.length nc) rfl rfl
    have HF4 := Lib.hid fr4
    have cPt := fun W (hb : Below W4.heap.size W4 W) => cPut W (HA.out.on (bel_then B4.out hb)) (.slice vp NL vc) (V4.out.on hb) (tab_on HT.out (bel_then B4.out hb))
    unfold frm at cPt
    clear x0 x1 x2 c0 c1 c2 d0 d1 d2 blk0 blk3 blk4 fr4 cPut cP
    go_wp2
    go_region_with (first
      | (go_at_call 47; refine c47.mono ?_
         rintro r w5 ⟨rfl, hw5⟩
         have HB47 : Hid (Below W4.heap.size W4 w5) := by show Below _ _ _; rw [hw5]; exact (Below.refl _ W4).drew.alloc (Nat.le_refl _) _
         obtain ⟨fe0, fe1, fe2, -⟩ := three_of (blk_on HB47.out HF4.out)
         clear hw5)
      | (go_at_call 46; refine (cPt _ HB47.out).mono ?_; rintro r w6 ⟨rfl, hA6, hK6⟩))
  all_goals
    have HA6 := Lib.hid hA6
    have HK6 := Lib.hid ((Kept.bel (bel_then B4.out HB47.out)).trans hK6)
    have cF := flush48 w6 d pb mb qs hA6
    clear hA6 hK6
    by_cases hqe : qe = 0
    · subst hqe
      have hF : FR = qs.flush := by rw [← HFR.out, if_neg (fun e => e rfl)]
      subst hF
      go_wp2_with (first | (go_at_call 48; refine cF.mono ?_; rintro r w7 ⟨rfl, hA7, hK7⟩))
      go_ret
      exact ⟨rfl, hA7, HK6.out.trans hK7⟩
    · have hF : FR = (qe, qs) := by rw [← HFR.out, if_pos hqe]
      subst hF
      have hq2 : (qe != 0) = true := by simp; exact hqe
      go_wp2
      go_ret
      exact ⟨rfl, HA6.out, HK6.out⟩
end Go.Proofs.YtnclhjjhobbbjaaDoor
