/-
  What Write of package disk does.
-/
import Derived.Test.YtafnelpcnfmhfaaDoorCall
import Derived.Test.YtafnelpcnfmhfaaDoorFill
import Derived.Test.YtafnelpcnfmhfaaDoorDirty
import Derived.Deep.RegionHeld3
import Derived.Deep.DrawnRows
namespace Go.Proofs.YtafnelpcnfmhfaaDoor
open Go.RowKit Go.Maps Go.ChangeMaps Go.MapKept Go.WideShapes
set_option linter.unusedVariables false      -- a walk need not use every condition
attribute [local go_sem ↓] Go.wp_at_zero Go.wp_at_succ

def upd {α : Type} (f : Nat → α) (k : Nat) (x : α) : Nat → α := fun j => if j = k then x else f j
theorem upd_same {α : Type} (f : Nat → α) (k : Nat) (x : α) : upd f k x k = x := by simp [upd]
theorem upd_other {α : Type} (f : Nat → α) {k j : Nat} (x : α) (h : j ≠ k) : upd f k x j = f j := by simp [upd, h]
theorem isKey (x : Int) : WideAt.IsKeyLit (.int .i64 x) := trivial
theorem lit_ne {a b : Nat} (h : a ≠ b) : (Lit.int .i64 a) ≠ (Lit.int .i64 b) := fun e => by injection e with _ e; omega
theorem Tied.put {N : Nat} {D : DataW (Array Value)} {ca : Nat → Option (List UInt8)} (h : Tied N D ca) (hD : IsMap D) {k : Nat} (hk : k < N) {bs : List UInt8} (hl : bs.length = 128) : Tied N (D.put (.int .i64 k) (.held (encA bs))) (upd ca k (some bs)) := by
  refine ⟨fun x hx => ?_, fun j cs hj => ?_, fun j cs hj => ?_, fun j cs hj => ?_, fun j cs hj => ?_⟩
  · by_cases e : x = k
    · subst e; exact ⟨k, rfl, by rw [upd_same]; rfl⟩
    · rw [has_put_other (fun e' => e (by injection e'))] at hx
      obtain ⟨j, rfl, hj⟩ := h.back x hx
      exact ⟨j, rfl, by rw [upd_other _ _ (fun e' => e (by rw [e']))]; exact hj⟩
  all_goals by_cases e : j = k
  · subst e; exact has_put_same hD (isKey _) _
  · rw [upd_other _ _ e] at hj; rw [has_put_other (lit_ne e)]; exact h.has j cs hj
  · subst e; rw [upd_same] at hj; injection hj with hj; subst hj; exact fun z => atKey_put_same hD (isKey _) _ z
  · rw [upd_other _ _ e] at hj; exact fun z => (atKey_put_other (lit_ne e) _ z).trans (h.at_ j cs hj z)
  · subst e; exact hk
  · rw [upd_other _ _ e] at hj; exact h.lt j cs hj
  · subst e; rw [upd_same] at hj; injection hj with hj; subst hj; exact hl
  · rw [upd_other _ _ e] at hj; exact h.len j cs hj
/-- The cache has turned, and nothing else. -/
theorem At.cache {w w' : World} {d pb mb n : Nat} {s : Dsk} {D : DataW (Array Value)} (h : At w d pb mb s) (hg : w.grownBy w' (some mb)) (ho : w'.ownsMap Tryd.prog 3 secR mb n D) {ca : Nat → Option (List UInt8)} (ht : Tied s.N D ca) : At w' d pb mb { s with ca := ca } := by
  have l := h.lts
  have hd : w'.heap[d]? = w.heap[d]? := hg.block _ l.1 (fun e => l.2.2.2.1 (by injection e with e; exact e.symm))
  have hp : w'.heap[pb]? = w.heap[pb]? := hg.block _ l.2.1 (fun e => l.2.2.2.2 (by injection e with e; exact e.symm))
  exact ⟨hd.trans h.blk, h.ne, h.pos, h.top, fun i hi => rangeAt_same (h.pl i hi) hp, h.sl, there_same h.th hp, ⟨n, D, ho, ht⟩, h.fu, h.cl⟩
theorem gr_drew {w w' : World} {r : Option Nat} (g : w.drew.grownBy w' r) : w.grownBy w' r := ⟨g.os, g.tape, g.output, g.size, g.block⟩
theorem own_size {w : World} {mb n : Nat} {D : DataW (Array Value)} (h : w.ownsMap Tryd.prog 3 secR mb n D) : w.ownsMap Tryd.prog 3 secR mb (Maps.size D) D := by
  obtain ⟨es, ck, hb, F, hs, rfl⟩ := h
  exact ⟨es, ck, hb, F, by simp [Maps.size, length_sorted], rfl⟩

/-- What a write does, where the sector is there and the power too, behind the call. -/
def Dsk.write (s : Dsk) (n : Int) (bs : List UInt8) : Int × Dsk :=
  if s.reach n ≠ 0 then (s.reach n, s) else if s.call.1 ≠ 0 then s.call else (0, { s.call.2 with ca := upd s.call.2.ca n.toNat (some bs) })
set_option maxHeartbeats 1600000 in
set_option maxRecDepth 100000 in
theorem write_ok (w : World) (d pb mb : Nat) (s : Dsk) (h : At w d pb mb s) (k : Nat) (hk : k < s.N) (hd : s.down = false) (hc : s.call.1 = 0) (bs : List UInt8) (hl : bs.length = 128) :
    Calls Tryd.prog 32 #[.pointer (some ⟨d, 0, none⟩), .int .i64 k, .agg (encA bs)] w fun e w' => e = .returned (.int .i64 0) ∧ At w' d pb mb { s.call.2 with ca := upd s.call.2.ca k (some bs) } ∧ Kept d pb mb w w' := by
  have cR := reach48 (w.alloc (.cells (encA bs) 26)) d pb mb s (h.alloc _) k
  have cC := call40 (w.alloc (.cells (encA bs) 26)) d pb mb s (h.alloc _) hd
  have e0 : s.reach k = 0 := by simp [Dsk.reach, hd, Dsk.hasB, hk]
  rw [e0] at cR
  rw [hc] at cC
  have hN : s.call.2.N = s.N := by unfold Dsk.call; split; rfl; split <;> rfl
  have hr : (w.alloc (.cells (encA bs) 26)).rangeAt w.heap.size 0 (enc bs) := range_new w (enc bs) 26
  have hlt := h.lts
  have HK : Hid (k < s.call.2.N) := by rw [hN]; exact hk
  have HW : Hid (d < w.heap.size ∧ pb < w.heap.size ∧ mb < w.heap.size) := ⟨hlt.1, hlt.2.1, hlt.2.2.1⟩
  have hk63 : (Lit.int .i64 (k : Int)).wf = true := by
    have := h.top
    simp [Lit.wf, IntKind.min, IntKind.max, IntKind.signed, IntKind.bits]; omega
  generalize s.call.2 = s' at *
  clear hN hlt h
  go_enter Tryd.func32, Tryd.ntmps32
  go_wp2_with (first
    | (go_at_call 48; refine cR.mono ?_; rintro e w' ⟨rfl, rfl⟩)
    | (go_at_call 40; refine cC.mono ?_; rintro e w1 ⟨rfl, h1, k1⟩))
  obtain ⟨-, cm, -, -, -, -⟩ := five_of h1.blk
  have hw0 := HW.out
  have hr1 : w1.rangeAt w.heap.size 0 (enc bs) := rangeAt_same hr (k1.block _ (by simp) (by omega) (by omega) (by omega))
  obtain ⟨n, D, ho, ht⟩ := h1.own
  have hsz : Maps.size D < maxLen := by
    rw [size_dirty ho ht]
    have := dirty_len s'; have := h1.top
    unfold maxLen; omega
  obtain ⟨w2, hrun, ho2, htn⟩ := (own_size ho).drew.store keyed3 Tryd.underlying74 hsz (keyOf_int_mk Tryd.underlying3 hk63) (show secR (.agg (enc bs).toArray) = some (.held (encA bs), []) from rfl)
  have hu := Tryd.underlying26
  have hi : (Tryd.prog.info? 26).map (·.size) = some (enc bs).length := by rw [size26, len_enc, hl]
  have hD := ho.isMap
  have H1 : Hid (At w1 d pb mb s') := h1
  have HT : Hid (Tied s'.N D s'.ca) := ht
  have HG : Hid (w1.drew.mapTurned w2 mb) := htn
  have HO : Hid (w2.ownsMap Tryd.prog 3 secR mb (Maps.size D + 1) (D.put (.int .i64 k) (.held (encA bs)))) := ho2
  clear h1 ht htn ho2 ho cR cC hr hw0
  have hg2 : w1.grownBy w2 (some mb) := gr_drew HG.out.grown
  have l1 := H1.out.lts
  have cm2 : w2.cell? ⟨d, 1, none⟩ = some (.map (some mb)) := (World.cell?_of_block (w := w1) (a := ⟨d, 1, none⟩) (hg2.block _ l1.1 (fun e => l1.2.2.2.1 (by injection e with e; exact e.symm)))).trans cm
  have hr2 : w2.rangeAt w.heap.size 0 (enc bs) := rangeAt_same hr1 (hg2.block _ (by have := k1.size; simp at this; omega) (fun e => by have := HW.out.2.2; injection e with e; omega))
  have H2 : Hid (w1.grownBy w2 (some mb)) := hg2
  clear hg2 l1
  go_region_held3 (fun w' => w'.cell? ⟨d, 1, none⟩ = some (.map (some mb)) ∧ w'.rangeAt w.heap.size 0 (enc bs)) (first | exact ⟨cm2, hr2⟩ | go_keep | go_keep_ranges) (fail)
  go_wp2
  go_ret
  refine ⟨rfl, H1.out.cache H2.out HO.out (HT.out.put hD HK.out hl), ?_⟩
  exact ((Kept.bel (bel1 w _)).trans k1).trans (Kept.grown H2.out (fun k e => by injection e with e; exact .inr (.inr e.symm)))
set_option maxHeartbeats 800000 in
theorem write_refused (w : World) (d pb mb : Nat) (s : Dsk) (h : At w d pb mb s) (n : Int) (bs : List UInt8) (hr : s.reach n ≠ 0) :
    Calls Tryd.prog 32 #[.pointer (some ⟨d, 0, none⟩), .int .i64 n, .agg (encA bs)] w fun e w' => e = .returned (.int .i64 (s.reach n)) ∧ At w' d pb mb s ∧ Kept d pb mb w w' := by
  have cR := reach48 (w.alloc (.cells (encA bs) 26)) d pb mb s (h.alloc _) n
  have H : Hid (At (w.alloc (.cells (encA bs) 26)) d pb mb s) := h.alloc _
  clear h
  generalize s.reach n = r at *
  go_enter Tryd.func32, Tryd.ntmps32
  go_wp2_with (first
    | (go_at_call 48; refine cR.mono ?_; rintro e w' ⟨rfl, rfl⟩))
  go_ret
  exact ⟨rfl, H.out, Kept.bel (bel1 w _)⟩
set_option maxHeartbeats 800000 in
theorem write_down (w : World) (d pb mb : Nat) (s : Dsk) (h : At w d pb mb s) (n : Int) (bs : List UInt8) (hr : s.reach n = 0) (hc : s.call.1 ≠ 0) :
    Calls Tryd.prog 32 #[.pointer (some ⟨d, 0, none⟩), .int .i64 n, .agg (encA bs)] w fun e w' => e = .returned (.int .i64 s.call.1) ∧ At w' d pb mb s.call.2 ∧ Kept d pb mb w w' := by
  have hd : s.down = false := by
    unfold Dsk.reach at hr
    cases hx : s.down
    · rfl
    · rw [hx] at hr; simp at hr
  have cR := reach48 (w.alloc (.cells (encA bs) 26)) d pb mb s (h.alloc _) n
  have cC := call40 (w.alloc (.cells (encA bs) 26)) d pb mb s (h.alloc _) hd
  rw [hr] at cR
  clear h
  generalize s.call.1 = r at *
  generalize s.call.2 = s' at *
  go_enter Tryd.func32, Tryd.ntmps32
  go_wp2_with (first
    | (go_at_call 48; refine cR.mono ?_; rintro e w' ⟨rfl, rfl⟩)
    | (go_at_call 40; refine cC.mono ?_; rintro e w1 ⟨rfl, h1, k1⟩))
  go_ret
  exact ⟨rfl, h1, (Kept.bel (bel1 w _)).trans k1⟩
theorem reach_zero {s : Dsk} {n : Int} (hr : s.reach n = 0) : s.down = false ∧ ∃ k : Nat, n = k ∧ k < s.N := by
  unfold Dsk.reach Dsk.hasB at hr
  cases hx : s.down
  · rw [hx] at hr
    refine ⟨rfl, n.toNat, ?_⟩
    by_cases h0 : 0 ≤ n <;> by_cases h1 : n < s.N <;> simp [h0, h1] at hr
    omega
  · rw [hx] at hr; simp at hr
theorem write32 (w : World) (d pb mb : Nat) (s : Dsk) (h : At w d pb mb s) (n : Int) (bs : List UInt8) (hl : bs.length = 128) :
    Calls Tryd.prog 32 #[.pointer (some ⟨d, 0, none⟩), .int .i64 n, .agg (encA bs)] w fun e w' => e = .returned (.int .i64 (s.write n bs).1) ∧ At w' d pb mb (s.write n bs).2 ∧ Kept d pb mb w w' := by
  unfold Dsk.write
  by_cases hr : s.reach n = 0
  · rw [if_neg (fun e => e hr)]
    by_cases hc : s.call.1 = 0
    · rw [if_neg (fun e => e hc)]
      obtain ⟨hd, k, rfl, hk⟩ := reach_zero hr
      exact write_ok w d pb mb s h k hk hd hc bs hl
    · rw [if_pos hc]
      exact write_down w d pb mb s h n bs hr hc
  · rw [if_pos hr]
    exact write_refused w d pb mb s h n bs hr
end Go.Proofs.YtafnelpcnfmhfaaDoor
