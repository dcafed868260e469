/-
  What Flush of package disk does: the walk.
-/
import Derived.Test.YtfakgfmgofblgaaGreatDoorZDirtyWriteReadNewFlush
namespace Go.Proofs.YtfakgfmgofblgaaGreatDoor
open Go.RowKit Go.Maps Go.ChangeMaps Go.MapKept Go.WideShapes
set_option linter.unusedVariables false      -- a walk need not use every condition
attribute [local go_sem ↓] Go.wp_at_zero Go.wp_at_succ

def Dsk.flushed (s : Dsk) : Dsk := { s with st := fun i => match s.ca i with | some bs => bs | none => s.st i, tn := fun i => match s.ca i with | some _ => false | none => s.tn i, ca := fun _ => none }
theorem flushing_none (s : Dsk) {left : Lit → Bool} (h : ∀ kl, left kl = false) : { s.flushing left with ca := fun _ => none } = s.flushed := by
  have e1 : fst s left = fun i => match s.ca i with | some bs => bs | none => s.st i := by funext i; unfold fst; cases s.ca i <;> simp [h]
  have e2 : ftn s left = fun i => match s.ca i with | some _ => false | none => s.tn i := by funext i; unfold ftn; cases s.ca i <;> simp [h]
  unfold Dsk.flushing Dsk.flushed
  rw [e1, e2]
theorem flushing_all (s : Dsk) {D : DataW (Array Value)} (ht : Tied s.N D s.ca) : s.flushing (Maps.has D) = s := by
  unfold Dsk.flushing
  have e1 : fst s (Maps.has D) = s.st := by
    funext i; unfold fst
    cases hc : s.ca i with
    | none => rfl
    | some bs => simp [ht.has i bs hc]
  have e2 : ftn s (Maps.has D) = s.tn := by
    funext i; unfold ftn
    cases hc : s.ca i with
    | none => rfl
    | some bs => simp [ht.has i bs hc]
  rw [e1, e2]
theorem flushing_at (s : Dsk) (left : Lit → Bool) {k : Nat} {bs : List UInt8} (hc : s.ca k = some bs) : (s.flushing (fun z => left z && !z.sameKey (.int .i64 k))).st k = bs ∧ (s.flushing (fun z => left z && !z.sameKey (.int .i64 k))).tn k = false := by
  simp [Dsk.flushing, fst, ftn, hc, Lit.sameKey]
theorem flushing_other (s : Dsk) (left : Lit → Bool) {k i : Nat} (hne : i ≠ k) : (s.flushing (fun z => left z && !z.sameKey (.int .i64 k))).st i = (s.flushing left).st i ∧ (s.flushing (fun z => left z && !z.sameKey (.int .i64 k))).tn i = (s.flushing left).tn i := by
  have e : Lit.sameKey (.int .i64 (i : Int)) (.int .i64 (k : Int)) = false := by simp [Lit.sameKey]; omega
  simp only [Dsk.flushing, fst, ftn, e, Bool.not_false, Bool.and_true, and_self]
theorem Kept.beyond {d pb mb r : Nat} {a b c : World} (h : Kept d pb mb a b) (hg : b.grownBy c (some r)) (hr : a.heap.size ≤ r) : Kept d pb mb a c :=
  ⟨hg.os.trans h.os, hg.tape.trans h.tape, hg.output.trans h.output, Nat.le_trans h.size hg.size, fun i hi h1 h2 h3 =>
    (hg.block i (Nat.lt_of_lt_of_le hi h.size) (fun e => by injection e with e; omega)).trans (h.block i hi h1 h2 h3)⟩
theorem cell_sets {w : World} {b o : Nat} {vs : List Value} {a : Addr} {v : Value} (h : w.cell? a = some v) (hne : a.block ≠ b) : (w.setCells b o vs).cell? a = some v := by
  rw [World.cell?_of_block (w := w) ((gr_sets b vs o w).block _ (World.block_lt_of_cell? w _ h) (fun e => hne (by injection e)))]
  exact h
set_option maxHeartbeats 3000000 in
set_option maxRecDepth 100000 in
theorem flush_ok (w : World) (d pb mb : Nat) (s : Dsk) (h : At w d pb mb s) (hd : s.down = false) (hc : s.call.1 = 0) :
    Calls Tryz.prog 109 #[.pointer (some ⟨d, 0, none⟩)] w fun e w' => e = .returned (.int .i64 0) ∧ At w' d pb mb s.call.2.flushed ∧ Kept d pb mb w w' := by
  have cR := ready40 w d pb mb s h
  have cC := call155 w d pb mb s h hd
  rw [show s.ready = 0 by simp [Dsk.ready, hd]] at cR
  rw [hc] at cC
  clear h hd hc
  generalize s.call.2 = s' at *
  go_enter Tryz.func109, Tryz.ntmps109
  go_wp2_with (first
    | (go_at_call 40; refine cR.mono ?_; rintro e w' ⟨rfl, rfl⟩)
    | (go_at_call 155; refine cC.mono ?_; rintro e w1 ⟨rfl, h1, k1⟩
       obtain ⟨n, D, ho, ht⟩ := h1.own
       obtain ⟨-, c1, -, -, -, -⟩ := five_of h1.blk)
    | (at_range; refine wpList_range_own _ rfl _ 86 rfl 3 118 keyed3 Tryz.underlying86 _ mb n D rfl ho ?_; intro w0 hrg0 hg0 hs0))
  go_frame
  have lts := h1.lts
  have hN := h1.top
  go_loopw [5] (fun _ wr => ∃ (left : Lit → Bool) (cnt : Nat), wr.ranges Tryz.prog 3 secR mb w1.heap.size n D left cnt ∧ At wr d pb mb (s'.flushing left) ∧ Kept d pb mb w1 wr)
    (fun _ wr => wr.rangeLeft mb w1.heap.size)
  case atStart =>
    refine ⟨_, _, hrg0, ?_, Kept.grown hg0 (fun k e => by cases e)⟩
    rw [flushing_all s' ht]
    exact h1.same (hg0.block _ lts.1 (by simp)) (hg0.block _ lts.2.1 (by simp)) (hg0.block _ lts.2.2.1 (by simp))
  case round =>
    obtain ⟨left, cnt, hrg, hA, hK⟩ := hrel
    go_wp2_with (first
      | (at_next; refine wpList_next_ranges _ rfl _ rfl 3 keyed3 secR (Value.int .i64) Value.agg (fun key kl hk => by obtain ⟨x, rfl, _⟩ := Maps.keyOf_int_inv Tryz.underlying3 hk; exact ⟨x, rfl⟩) secR_inv mb w1.heap.size n D left cnt rfl hrg ?_ ?_))
    · intro hc0 hl0
      obtain ⟨-, c1r, -, -, -, -⟩ := five_of hA.blk
      have hor := hrg.owns
      obtain ⟨w9, hcl, ho9, htn9⟩ := own_clear hor 0
      have HA : Hid (At wr d pb mb (s'.flushing left)) := hA
      have HO : Hid (w9.ownsMap Tryz.prog 3 secR mb 0 (.map [])) := ho9
      have HT : Hid (wr.mapTurned w9 mb) := htn9
      clear hA ho9 htn9 hrg hor ho h1 ht cR cC
      go_wp2
      go_ret
      refine ⟨rfl, ?_, ?_⟩
      · have := HA.out.cache HT.out.grown HO.out (tied_none _)
        rw [flushing_none s' hl0] at this
        exact this
      · exact (k1.trans hK).trans (Kept.grown HT.out.grown (fun k e => by injection e with e; exact .inr (.inr e.symm)))
    · intro x c kl yd yp w2 cnt2 hkey hlk hv hat hrg2 hlt hg2 hs2 hen
      obtain ⟨x', ex, rfl, hwx⟩ := Maps.keyOf_int_inv Tryz.underlying3 hkey
      obtain rfl : x = x' := by injection ex
      obtain ⟨k, rfl, hi⟩ := ht.back x (has_true_of_atKey hat)
      obtain ⟨bs, hbs⟩ := Option.isSome_iff_exists.1 hi
      have e1 : yd = .held (encA bs) := (hat (.lit (.bool true))).symm.trans (ht.at_ k bs hbs _)
      obtain rfl : c = encA bs := by
        have := secR_held (ps := yp) (by rw [hv, e1])
        injection this
      have hk := ht.lt k bs hbs
      have hl := ht.len k bs hbs
      have hA2 := hA.grown hg2 (by omega) (by omega) (by omega)
      have K2 : Kept d pb mb w1 w2 := hK.beyond hg2 (Nat.le_refl _)
      have lt2 := hA2.lts
      have ht6 := there4 w2
      have hu := Tryz.underlying118
      have hi48 : (Tryz.prog.info? 118).map (·.size) = some (enc bs).length := by rw [size26, len_enc, hl]
      have hi76 : (Tryz.prog.info? 120).map (·.size) = some (plc bs false).length := by rw [size83, len_plc bs false hl]
      have hle : (enc bs).length = 128 := by rw [len_enc, hl]
      have hfo := fold76 bs hl
      have ho1 := one_plc bs false
      have hkz : (0 : Int) ≤ (k : Int) := by omega
      have hkN : (k : Int) < (s'.N : Int) := by omega
      have HA2 : Hid (At w2 d pb mb (s'.flushing left)) := hA2
      have HR : Hid (wr.ranges Tryz.prog 3 secR mb w1.heap.size n D left cnt) := hrg
      have HR2 : Hid (w2.ranges Tryz.prog 3 secR mb w1.heap.size n D (fun z => left z && !z.sameKey (.int .i64 k)) cnt2) := hrg2
      clear hA hA2 hrg hrg2 ho h1 ht cR cC hat hv hkey e1 c1 hwx hi hrg0 hg0 hg2 hs2 hK
      go_wp2_with (first
        | (show wpList _ _ _ (Oper.mk _ (Op.store 118 (Operand.tmp 6) _) _ _ _ _ :: _) _ _
           (try rw [zc]); refine wpList_store26 rfl _ _ rfl w2.heap.size 0 bs rfl rfl ht6 hl ?_; intro w3 g3 r3 t3 z3))
      have hA3 := (HA2.out.alloc (.cells (encA zer) 118)).grown g3 (by omega) (by omega) (by omega)
      have K3 : Kept d pb mb w1 w3 := (K2.trans (Kept.bel (bel1 w2 _))).beyond g3 K2.size
      have R3 := (HR2.out.alloc (.cells (encA zer) 118)).kept g3 (by simp; omega) (by have := HR2.out.lt; simp; omega)
      have p0 : w3.cell? ⟨d, 0, none⟩ = some (.slice (some ⟨pb, 0, none⟩) s'.N s'.N) := (five_of hA3.blk).1
      have tp := there_place hA3 (k := k) hk
      have p4 : (w3.drew.setCells pb (k * 129) (plc bs false)).cell? ⟨d, 0, none⟩ = some (.slice (some ⟨pb, 0, none⟩) s'.N s'.N) := cell_sets (w := w3.drew) (by simpa using p0) (hA3.ne)
      have r4 : (w3.drew.setCells pb (k * 129) (plc bs false)).rangeAt w2.heap.size 0 (enc bs) := World.rangeAt_setCells_apart (by simpa using r3) _ _ _ (.inl (by omega))
      have t4 : (w3.drew.setCells pb (k * 129) (plc bs false)).there pb (k * 129) 129 := World.there_setCells (by simpa using tp) _ _ _
      have hlp := len_plc bs false hl
      have hst : Sem.run Tryz.prog (storeCells ⟨pb, k * 129, none⟩ (plc bs false)) w3.drew = .ok () (w3.drew.setCells pb (k * 129) (plc bs false)) := store_run (by rw [hlp]; simpa using tp) ho1
      have HA3 : Hid (At w3 d pb mb (s'.flushing left)) := hA3
      have HR3 : Hid (w3.ranges Tryz.prog 3 secR mb w1.heap.size n D (fun z => left z && !z.sameKey (.int .i64 k)) cnt2) := R3
      clear hA3 R3 g3 t3 z3 ht6
      go_region_held3 (fun w' => w'.cell? ⟨d, 0, none⟩ = some (.slice (some ⟨pb, 0, none⟩) s'.N s'.N) ∧ w'.rangeAt w2.heap.size 0 (enc bs) ∧ w'.there pb (k * 129) 129) (first | exact ⟨p4, r4, t4⟩ | go_keep | go_keep_ranges) (fail)
      have hg4 := gr_sets pb (plc bs false) (k * 129) w3.drew
      have R4 : (w3.drew.setCells pb (k * 129) (plc bs false)).ranges Tryz.prog 3 secR mb w1.heap.size n D (fun z => left z && !z.sameKey (.int .i64 k)) cnt2 :=
        (show w3.drew.ranges Tryz.prog 3 secR mb w1.heap.size n D (fun z => left z && !z.sameKey (.int .i64 k)) cnt2 from HR3.out).kept hg4 (by simp; omega) (by simp; omega)
      have HR4 : Hid ((w3.drew.setCells pb (k * 129) (plc bs false)).ranges Tryz.prog 3 secR mb w1.heap.size n D (fun z => left z && !z.sameKey (.int .i64 k)) cnt2) := R4
      clear R4 hg4
      go_wp2
      go_roundw
      case rel =>
        refine ⟨fun z => left z && !z.sameKey (.int .i64 k), cnt2, HR4.out, ?_, ?_⟩
        · exact HA3.out.drew.place (s' := s'.flushing (fun z => left z && !z.sameKey (.int .i64 k))) hk hl rfl rfl rfl rfl rfl rfl (flushing_at s' left hbs) (fun i hi => flushing_other s' left hi)
        · exact (show Kept d pb mb w1 w3.drew from ⟨K3.os, K3.tape, K3.output, K3.size, K3.block⟩).trans (Kept.grown (gr_sets pb (plc bs false) (k * 129) w3.drew) (fun k e => by injection e with e; exact .inr (.inl e.symm)))
      case measure => rw [HR4.out.left_eq, HR.out.left_eq]; omega
def Dsk.flush (s : Dsk) : Int × Dsk := if s.down then (9, s) else if s.call.1 ≠ 0 then s.call else (0, s.call.2.flushed)
set_option maxHeartbeats 800000 in
theorem flush109 (w : World) (d pb mb : Nat) (s : Dsk) (h : At w d pb mb s) :
    Calls Tryz.prog 109 #[.pointer (some ⟨d, 0, none⟩)] w fun e w' => e = .returned (.int .i64 s.flush.1) ∧ At w' d pb mb s.flush.2 ∧ Kept d pb mb w w' := by
  unfold Dsk.flush
  cases hd : s.down with
  | true =>
    simp only [if_true]
    have cR := ready40 w d pb mb s h
    rw [show s.ready = 9 by simp [Dsk.ready, hd]] at cR
    have H : Hid (At w d pb mb s) := h
    clear h hd
    go_enter Tryz.func109, Tryz.ntmps109
    go_wp2_with (first
      | (go_at_call 40; refine cR.mono ?_; rintro e w' ⟨rfl, rfl⟩))
    go_ret
    exact ⟨rfl, H.out, Kept.refl _ _ _ _⟩
  | false =>
    simp only [Bool.false_eq_true, if_false]
    by_cases hc : s.call.1 = 0
    · rw [if_neg (fun e => e hc)]
      exact flush_ok w d pb mb s h hd hc
    · rw [if_pos hc]
      have cR := ready40 w d pb mb s h
      have cC := call155 w d pb mb s h hd
      rw [show s.ready = 0 by simp [Dsk.ready, hd]] at cR
      clear h hd
      generalize s.call.1 = r at *
      generalize s.call.2 = s' at *
      go_enter Tryz.func109, Tryz.ntmps109
      go_wp2_with (first
        | (go_at_call 40; refine cR.mono ?_; rintro e w' ⟨rfl, rfl⟩)
        | (go_at_call 155; refine cC.mono ?_; rintro e w1 ⟨rfl, h1, k1⟩))
      go_ret
      exact ⟨rfl, h1, k1⟩
end Go.Proofs.YtfakgfmgofblgaaGreatDoor
