/-
  What Flush of the document's disk does.
-/
import Derived.Test.YtafnelpcnfmhfaaDoorRstay
import Derived.Test.YtafnelpcnfmhfaaDoorRrd
import Derived.Test.YtafnelpcnfmhfaaDoorFlushW
namespace Go.Proofs.YtafnelpcnfmhfaaDoor
open Go.RowKit Go.Maps
set_option linter.unusedVariables false      -- a walk need not use every condition

/-- The disk when i of the dirty ones stay. -/
def Dsk.stays (s : Dsk) (i : Nat) : Dsk :=
  { s with st := fun j => if j ∈ s.dirty.take i then (s.ca j).getD (s.st j) else s.st j, tn := fun j => if j ∈ s.dirty.take i then false else s.tn j }
theorem stays_zero (s : Dsk) : s.stays 0 = s := by simp [Dsk.stays]
theorem stays_dirty (s : Dsk) (i : Nat) : (s.stays i).dirty = s.dirty := rfl
theorem take_mem {L : List Nat} {i k : Nat} (hi : i < L.length) : k ∈ L.take (i + 1) ↔ k ∈ L.take i ∨ k = L[i] := by
  rw [List.take_succ_eq_append_getElem hi, List.mem_append, List.mem_singleton]
theorem stays_succ (s : Dsk) {i : Nat} (hi : i < s.dirty.length) {bs : List UInt8} (hb : s.ca s.dirty[i] = some bs) :
    s.stays (i + 1) = { s.stays i with st := upd (s.stays i).st s.dirty[i] bs, tn := upd (s.stays i).tn s.dirty[i] false } := by
  have e1 : (s.stays (i + 1)).st = upd (s.stays i).st s.dirty[i] bs := by
    funext j
    unfold upd
    simp only [Dsk.stays, take_mem hi]
    by_cases h : j = s.dirty[i]
    · simp [h, hb]
    · by_cases h2 : j ∈ s.dirty.take i <;> simp [h, h2]
  have e2 : (s.stays (i + 1)).tn = upd (s.stays i).tn s.dirty[i] false := by
    funext j
    unfold upd
    simp only [Dsk.stays, take_mem hi]
    by_cases h : j = s.dirty[i]
    · simp [h]
    · by_cases h2 : j ∈ s.dirty.take i <;> simp [h, h2]
  rw [← e1, ← e2]
  rfl
theorem stays_all (s : Dsk) (hle : ∀ k bs, s.ca k = some bs → bs.length = 128 ∧ k < s.N) : { s.stays s.dirty.length with ca := fun _ => none } = s.flushed := by
  unfold Dsk.stays Dsk.flushed
  simp only [List.take_length]
  have e1 : (fun j => if j ∈ s.dirty then (s.ca j).getD (s.st j) else s.st j) = fun i => match s.ca i with | some bs => bs | none => s.st i := by
    funext j
    cases hc : s.ca j with
    | none => simp
    | some bs => rw [if_pos (mem_dirty.2 ⟨(hle j bs hc).2, by rw [hc]; rfl⟩)]; rfl
  have e2 : (fun j => if j ∈ s.dirty then false else s.tn j) = fun i => match s.ca i with | some _ => false | none => s.tn i := by
    funext j
    cases hc : s.ca j with
    | none => rw [if_neg (fun h => by have := (mem_dirty.1 h).2; rw [hc] at this; cases this)]
    | some bs => rw [if_pos (mem_dirty.2 ⟨(hle j bs hc).2, by rw [hc]; rfl⟩)]
  rw [e1, e2]
  rfl
theorem size86 : (Tryd.prog.info? 86).map (·.size) = some 129 := by kernel_rfl
theorem dirty_nil (s : Dsk) : ({ s with ca := fun _ => none } : Dsk).dirty = [] := by simp [Dsk.dirty]
theorem RAt.emptied {w w' : World} {X : Nat → Prop} {r sb sc tb tc : Nat} {cv : Value} {s : Dsk} (h : RAt w X r sb sc tb tc cv s) (hw : w' = w.setCell ⟨r, 2, none⟩ (.slice none 0 0)) : RAt w' X r sb sc tb tc (.slice none 0 0) { s with ca := fun _ => none } ∧ KeptR r w w' := by
  subst hw
  have l := h.lts
  have hg := gr_set w r 2 (.slice none 0 0)
  refine ⟨⟨?_, h.xr, h.xs, h.xt, h.pos, h.top, h.sc, h.tc, fun i hi => ?_, h.sl, fun i hi => ?_, ⟨none, 0, by rw [dirty_nil]; rfl, .inl (dirty_nil s)⟩, fun k bs hk => (by cases hk), h.fu, h.cl⟩, KeptR.grown hg⟩
  · rw [blk_set h.blk _]; rfl
  · exact rangeAt_same (h.ss i hi) (hg.block _ l.2.1 (fun e => h.xs.2 (by injection e)))
  · exact (World.cell?_of_block (w := w) (hg.block _ l.2.2 (fun e => h.xt.2 (by injection e)))).trans (h.ts i hi)
set_option maxHeartbeats 3000000 in
set_option maxRecDepth 100000 in
theorem rflush_ok (w : World) (X : Nat → Prop) (hX : ∀ k, X k → k < w.heap.size) (r sb sc tb tc : Nat) (cv : Value) (s : Dsk) (h : RAt w X r sb sc tb tc cv s) (hd : s.down = false) (hc : s.call.1 = 0) :
    Calls Tryd.prog 21 #[.pointer (some ⟨r, 0, none⟩)] w fun e w' => e = .returned (.int .i64 0) ∧ (∃ sb' sc' tb' tc' cv', RAt w' X r sb' sc' tb' tc' cv' s.call.2.flushed) ∧ KeptR r w w' := by
  obtain ⟨-, -, -, c3, -, -, -⟩ := six_of h.blk
  rw [hd] at c3
  have cC := call41 w X r sb sc tb tc cv s h hd
  rw [show (decide (s.call.1 = 0)) = true by rw [hc]; rfl] at cC
  clear h hd hc
  generalize s.call.2 = q at *
  have HX : Hid (∀ k, X k → k < w.heap.size) := hX
  clear hX
  go_enter Tryd.func21, Tryd.ntmps21
  go_wp2_with (first | (go_at_call 41; refine cC.mono ?_; rintro e w1 ⟨rfl, hA1, hK1⟩))
  have hK1H := Lib.hid hK1
  have HA1 := Lib.hid hA1
  have hLN : q.dirty.length ≤ 16384 := by have := dirty_len q; have := hA1.top; omega
  clear hA1 hK1 cC
  go_loopg [3] q.dirty.length (fun g s3 wr => ∃ i : Nat, i + g = q.dirty.length ∧ s3 = .int .i64 i ∧ (∃ sb' sc' tb' tc', RAt wr X r sb' sc' tb' tc' cv (q.stays i)) ∧ KeptR r w wr)
  case atStart => exact ⟨0, by omega, rfl, ⟨sb, sc, tb, tc, by rw [stays_zero]; exact HA1.out⟩, hK1H.out⟩
  case round =>
    obtain ⟨i, hig, rfl, ⟨sb', sc', tb', tc', hA⟩, hK⟩ := hrel
    have hA' := hA
    obtain ⟨p, cc, hcv, hca⟩ := hA.ca
    rw [stays_dirty] at hcv
    have HC := Lib.hid hca
    obtain ⟨-, -, b2, -, -, -, br⟩ := six_of hA.blk
    have b2z := br 2
    have HA := Lib.hid hA
    have HK := Lib.hid hK
    subst hcv
    clear hA hA' hca hK br
    cases gk with
    | zero =>
      obtain rfl : i = q.dirty.length := by omega
      go_wp2
      go_ret
      obtain ⟨h1, h2⟩ := HA.out.emptied rfl
      rw [stays_all q HA1.out.le] at h1
      exact ⟨rfl, ⟨_, _, _, _, _, h1⟩, HK.out.trans h2⟩
    | succ g =>
      have hiL : i < q.dirty.length := by omega
      have hiz : (i : Int) < (q.dirty.length : Int) := by omega
      have hiz0 : (0 : Int) ≤ (i : Int) := by omega
      obtain ⟨cb, rfl, -, hcr, hrow⟩ := HC.out.resolve_left (fun e => by rw [stays_dirty] at e; rw [e] at hiL; simp at hiL)
      obtain ⟨bs, hb, hra⟩ := hrow i hiL
      have hble := HA1.out.le _ _ hb
      have hi74 : (Tryd.prog.info? 86).map (·.size) = some (Value.int .i64 (q.dirty[i] : Nat) :: enc bs).length := by rw [size86, List.length_cons, len_enc, hble.1]
      have cS := rstay42 wr X (fun k h => by have := HX.out k h; have := HK.out.size; omega) r sb' sc' tb' tc' _ _ HA.out q.dirty[i] hble.2 bs hble.1
      rw [← stays_succ q hiL hb] at cS
      clear hrow HC
      go_wp2_with (first
        | (go_at_call 42; refine cS.mono ?_; rintro e w2 ⟨⟨v2, rfl⟩, hA2, hK2⟩)
        | (show wpList _ _ _ (Oper.mk _ (Op.load 86 (Operand.tmp 26)) _ _ _ _ :: _) _ _
           refine wpList_load_mid rfl 86 _ rfl _ _ rfl _ _ hra Tryd.underlying86 rfl hi74 ?_))
      go_roundg g
      case measure => omega
      case rel => exact ⟨i + 1, by omega, by first | rfl | simp, hA2, HK.out.trans hK2⟩
theorem call_one (s : Dsk) (h : s.call.1 ≠ 0) : s.call.1 = 9 := by
  unfold Dsk.call at *
  split
  · rfl
  · split
    · simp_all
    · simp_all
set_option maxHeartbeats 800000 in
theorem rflush21 (w : World) (X : Nat → Prop) (hX : ∀ k, X k → k < w.heap.size) (r sb sc tb tc : Nat) (cv : Value) (s : Dsk) (h : RAt w X r sb sc tb tc cv s) :
    Calls Tryd.prog 21 #[.pointer (some ⟨r, 0, none⟩)] w fun e w' => e = .returned (.int .i64 s.flush.1) ∧ (∃ sb' sc' tb' tc' cv', RAt w' X r sb' sc' tb' tc' cv' s.flush.2) ∧ KeptR r w w' := by
  unfold Dsk.flush
  cases hd : s.down with
  | true =>
    simp only [if_true]
    obtain ⟨-, -, -, c3, -, -, -⟩ := six_of h.blk
    rw [hd] at c3
    have H := Lib.hid h
    clear h hX hd
    go_enter Tryd.func21, Tryd.ntmps21
    go_wp2
    go_ret
    exact ⟨rfl, ⟨_, _, _, _, _, H.out⟩, KeptR.refl _ _⟩
  | false =>
    simp only [Bool.false_eq_true, if_false]
    by_cases hc : s.call.1 = 0
    · rw [if_neg (fun e => e hc)]
      exact rflush_ok w X hX r sb sc tb tc cv s h hd hc
    · rw [if_pos hc]
      obtain ⟨-, -, -, c3, -, -, -⟩ := six_of h.blk
      rw [hd] at c3
      have cC := call41 w X r sb sc tb tc cv s h hd
      rw [show (decide (s.call.1 = 0)) = false by simp [hc]] at cC
      rw [call_one s hc]
      generalize s.call.2 = q at *
      clear h hX hd hc
      go_enter Tryd.func21, Tryd.ntmps21
      go_wp2_with (first | (go_at_call 41; refine cC.mono ?_; rintro e w1 ⟨rfl, hA1, hK1⟩))
      go_ret
      exact ⟨rfl, ⟨_, _, _, _, _, hA1⟩, hK1⟩
end Go.Proofs.YtafnelpcnfmhfaaDoor
