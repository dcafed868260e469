/-
  What Open answers, whatever the sector; that a frame is read as it was, that zeros are none, that damage is seen. Mathematics, and one case.
  What Put of package sector does.
  What write of a head does.
  What slices.Chunk(b, 112) gives: pieces, one behind the other.
  What sector.Cut does.
-/
import Derived.Test.YtfakgfmgofblgaaGreatDoorZOpen
import Derived.Test.YtfakgfmgofblgaaGreatDoorZComRcomSlcRecLa
import Derived.Test.YtfakgfmgofblgaaGreatDoorZVntWmCtmRctBsx
import Derived.RangeFuncNested
import Derived.RangeFuncBound
import Derived.RangeFuncCalls
import Derived.RangeFuncLeaves
import Derived.Shelf.Abstract
import Derived.Shelf.RegionOpen
import Derived.OwnWalkIn
import Derived.TacticsInMore
import Derived.LoopNIn
import Derived.LoopIn
import Derived.Deep.RegionLaw
namespace Go.Proofs.YtfakgfmgofblgaaGreatDoor
open Go.RowKit

theorem open153 (w : World) (s : List UInt8) (hs : s.length = 128) (hT : TabOk w) :
    Calls Tryz.prog 153 #[.agg (encA s)] w fun e w' => ∃ pv, e = .returned (.tuple #[frm (oK s) (oN s) pv, .int .i64 (oE s)]) ∧ Bs w' pv (oP s) ∧ Fresh w.heap.size pv ∧ Below w.heap.size w w' := by
  by_cases hL : opL s ≤ 112
  · exact open_short w s hs hL hT
  · have hno : opOk s = false := by unfold opOk; rw [decide_eq_false hL, Bool.false_and]
    have h1 : oK s = 0 := by unfold oK; rw [hno, if_neg (by decide)]
    have h2 : oN s = 0 := by unfold oN; rw [hno, if_neg (by decide)]
    have h3 : oP s = [] := by unfold oP; rw [hno, if_neg (by decide)]
    have h4 : oE s = 50 := by unfold oE; rw [hno, if_neg (by decide)]
    rw [h1, h2, h3, h4]
    exact (open_long w s hs hL).mono fun e w' ⟨he, hb⟩ => ⟨_, he, bs_nil _, fun _ _ _ _ e => (by cases e), hb⟩
theorem be_be8 (n : Nat) (h : n < 18446744073709551616) : be (be8 n) = n := by
  simp only [be, be8, List.foldl_cons, List.foldl_nil, UInt8.toNat_ofNat']
  omega
theorem sgn_small {n : Nat} (h : n < 9223372036854775808) : sgn n = n := by
  unfold sgn wrap64
  omega
/-- What a frame's sector says. -/
theorem frame_says {k n : Nat} {pay : List UInt8} (hk : k ≤ 255) (hn : n < 9223372036854775808) (hl : pay.length ≤ 112) :
    opK (frameB k n pay) = k ∧ opL (frameB k n pay) = pay.length ∧ opN (frameB k n pay) = n ∧ opP (frameB k n pay) = pay := by
  have e0 : frameB k n pay = UInt8.ofNat k :: UInt8.ofNat pay.length :: (be8 n ++ (pay ++ (List.replicate (114 - pay.length) 0 ++ le4b (csum (nat8 (headB k n pay)))))) := by
    simp [frameB, headB]
  have h1 : opK (frameB k n pay) = k := by
    rw [e0]
    show ((UInt8.ofNat k).toNat : Int) = k
    rw [UInt8.toNat_ofNat']
    omega
  have h2 : opL (frameB k n pay) = pay.length := by
    rw [e0]
    show (UInt8.ofNat pay.length).toNat = pay.length
    rw [UInt8.toNat_ofNat']
    omega
  refine ⟨h1, h2, ?_, ?_⟩
  · unfold opN
    rw [e0]
    have : ((UInt8.ofNat k :: UInt8.ofNat pay.length :: (be8 n ++ (pay ++ (List.replicate (114 - pay.length) 0 ++ le4b (csum (nat8 (headB k n pay))))))).drop 2).take 8 = be8 n := rfl
    rw [this, be_be8 n (by omega), sgn_small hn]
  · unfold opP
    rw [h2, e0]
    have : (UInt8.ofNat k :: UInt8.ofNat pay.length :: (be8 n ++ (pay ++ (List.replicate (114 - pay.length) 0 ++ le4b (csum (nat8 (headB k n pay))))))).drop 10 = pay ++ (List.replicate (114 - pay.length) 0 ++ le4b (csum (nat8 (headB k n pay)))) := rfl
    rw [this, List.take_append_of_le_length (Nat.le_refl _), List.take_length]
/-- A frame is read as it was. -/
theorem open_seal {k n : Int} {pay : List UInt8} (hn : n ≤ 9223372036854775807) (ho : okF k n pay = true) :
    oK (sealB k n pay) = k ∧ oN (sealB k n pay) = n ∧ oP (sealB k n pay) = pay ∧ oE (sealB k n pay) = 0 := by
  obtain ⟨h1, h2, h3, h4⟩ := okF_yes ho
  obtain ⟨k, rfl⟩ : ∃ j : Nat, k = j := ⟨k.toNat, by omega⟩
  obtain ⟨n, rfl⟩ : ∃ j : Nat, n = j := ⟨n.toNat, by omega⟩
  have hb : sealB (k : Int) (n : Int) pay = frameB k n pay := by unfold sealB; rw [ho, if_pos rfl, Int.toNat_natCast, Int.toNat_natCast]
  obtain ⟨q1, q2, q3, q4⟩ := frame_says (k := k) (n := n) (pay := pay) (by omega) (by omega) h4
  have hok : opOk (frameB k n pay) = true := by
    unfold opOk
    rw [q1, q2, q3, q4, ho, hb]
    simp [h4]
  rw [hb]
  unfold oK oN oP oE
  rw [hok, if_pos rfl, if_pos rfl, if_pos rfl, if_pos rfl]
  exact ⟨q1, q3, q4, rfl⟩
theorem open_zero : oE zer = 50 := by
  have : opOk zer = false := by
    unfold opOk
    have h : okF (opK zer) (opN zer) (opP zer) = false := by
      have : opK zer = 0 := rfl
      unfold okF
      rw [this]
      rfl
    rw [h, Bool.false_and, Bool.and_false]
  unfold oE
  rw [this, if_neg (by decide)]
/-- What is read is the sector of a frame. -/
theorem open_is {s : List UInt8} (h : opOk s = true) : ∃ k n : Nat, ∃ pay : List UInt8, s = frameB k n pay := by
  unfold opOk at h
  simp only [Bool.and_eq_true, decide_eq_true_eq] at h
  obtain ⟨-, h1, h2⟩ := h
  unfold sealB at h2
  rw [h1, if_pos rfl] at h2
  exact ⟨_, _, _, h2.symm⟩
end Go.Proofs.YtfakgfmgofblgaaGreatDoor
namespace Go.Proofs.YtfakgfmgofblgaaGreatDoor
open Go.RowKit Go.Maps
set_option linter.unusedVariables false      -- a walk need not use every condition
attribute [local go_sem ↓] Go.wp_at_zero Go.wp_at_succ

def Dsk.put (s : Dsk) (a k n : Int) (pay : List UInt8) : Int × Dsk := if okF k n pay then s.write a (sealB k n pay) else (1, s)
theorem put165 (w : World) (d pb mb : Nat) (s : Dsk) (h : At w d pb mb s) (a k n : Int) (pv : Value) (pay : List UInt8) (hp : Bs w pv pay) (hT : TabOk w) (hn : n ≤ 9223372036854775807) (ho : okF k n pay = true) :
    Calls Tryz.prog 165 #[.pointer (some ⟨d, 0, none⟩), .int .i64 a, frm k n pv] w fun e w' => e = .returned (.int .i64 (s.put a k n pay).1) ∧ At w' d pb mb (s.put a k n pay).2 ∧ Kept d pb mb w w' := by
  have HP := Lib.hid hp
  have HT := Lib.hid hT
  have HA := Lib.hid h
  obtain ⟨p, cap, rfl, -⟩ := hp
  have cS := seal180 (w.alloc (.cells #[.int .i64 k, .int .i64 n, .slice p pay.length cap] 190)) k n _ pay (HP.out.on (bel1 _ _)) (tab_on HT.out (bel1 _ _)) hn
  have HE : Hid (sealE k n pay = if okF k n pay then 0 else 1) := rfl
  have HLZ := Lib.hid (len_sealB k n pay)
  have hi1 : (Tryz.prog.info? 118).map (·.size) = some (enc (sealB k n pay)).length := by rw [size26, len_enc, HLZ.out]
  have cW := fun W hW => write108 W d pb mb s hW a (sealB k n pay) HLZ.out
  unfold Dsk.put
  rw [ho, if_pos rfl]
  generalize (s.write a (sealB k n pay)).1 = RX at *
  generalize (s.write a (sealB k n pay)).2 = RS at *
  generalize hEE : sealE k n pay = E at *
  generalize sealB k n pay = Z at *
  have hE1 : E = 0 := by rw [HE.out, ho]; rfl
  subst hE1
  unfold frm at cS ⊢
  clear hT h HE ho hEE
  go_enter Tryz.func165, Tryz.ntmps165
  go_wp2_with (first
    | (go_at_call 180; refine cS.mono ?_; rintro e W1 ⟨rfl, hb1⟩)
    | (with_reducible show wpList _ _ _ (Oper.mk (some 7) (Op.alloc 118) _ _ _ _ :: _) _ _
       refine wpList_alloc26 rfl rfl ?_; intro W2 hW2 zW2 sW2)
    | (with_reducible show wpList _ _ _ (Oper.mk _ (Op.store 118 (Operand.tmp 7) _) _ _ _ _ :: _) _ _
       refine wpList_store26 rfl _ _ rfl W1.heap.size 0 Z rfl rfl sW2.th HLZ.out ?_; intro W3 g3 r3 t3 z3
       have HB3 : Hid (Below w.heap.size w W3) := (bel_then (bel_then (bel1 w _) hb1) hW2).grown g3 (by have := hb1.size; simp at this; have := hW2.size; omega) (fun k e => by injection e with e; have := hb1.size; simp at this; omega)
       clear hb1 hW2 sW2 g3 t3)
    | (with_reducible show wpList _ _ _ (Oper.mk _ (Op.load 118 (Operand.tmp 7)) _ _ _ _ :: _) _ _
       refine wpList_load_mid rfl 118 _ rfl _ _ rfl _ _ r3 Tryz.underlying118 rfl hi1 ?_)
    | (go_at_call 108; refine (cW _ (HA.out.on HB3.out)).mono ?_; rintro e W4 ⟨rfl, hA4, hK4⟩))
  go_ret
  exact ⟨rfl, hA4, (Kept.bel HB3.out).trans hK4⟩
end Go.Proofs.YtfakgfmgofblgaaGreatDoor
namespace Go.Proofs.YtfakgfmgofblgaaGreatDoor
open Go.RowKit Go.Maps
set_option linter.unusedVariables false      -- a walk need not use every condition
attribute [local go_sem ↓] Go.wp_at_zero Go.wp_at_succ

def hpay (slots : Nat) (note : List UInt8) : List UInt8 := vnt slots ++ note
/-- A head is written, and flushed. -/
def Dsk.hwr (s : Dsk) (e : Int) (slots : Nat) (note : List UInt8) : Int × Dsk :=
  if (s.put (e % 2) 1 e (hpay slots note)).1 ≠ 0 then s.put (e % 2) 1 e (hpay slots note) else (s.put (e % 2) 1 e (hpay slots note)).2.flush
theorem three_of {w : World} {g : Nat} {a b c : Value} {t : TypeId} (hb : w.heap[g]? = some (.cells #[a, b, c] t)) :
    w.cell? ⟨g, 0, none⟩ = some a ∧ w.cell? ⟨g, 1, none⟩ = some b ∧ w.cell? ⟨g, 2, none⟩ = some c ∧ ∀ i, w.frozen? ⟨g, i, none⟩ = false := by
  refine ⟨?_, ?_, ?_, fun i => ?_⟩ <;> simp [World.cell?, World.frozen?, hb]
theorem bel_drew {w w' : World} (h : Below w.heap.size w.drew w') : Below w.heap.size w w' := ⟨h.os, h.tape, h.output, h.size, h.block⟩
set_option maxHeartbeats 4000000 in
set_option maxRecDepth 100000 in
theorem hwrite140 (w : World) (d pb mb : Nat) (s : Dsk) (h : At w d pb mb s) (e : Int) (he : 0 < e) (he2 : e ≤ 1099511627776) (slots : Nat) (hs : slots ≤ 4096) (nv : Value) (note : List UInt8) (hn : Bs w nv note)
    (hl : (hpay slots note).length ≤ 112) (hT : TabOk w) :
    Calls Tryz.prog 140 #[.agg #[.int .i64 e, .int .i64 slots, nv], .pointer (some ⟨d, 0, none⟩)] w fun r w' => r = .returned (.int .i64 (s.hwr e slots note).1) ∧ At w' d pb mb (s.hwr e slots note).2 ∧ Kept d pb mb w w' := by
  have HN := Lib.hid hn
  have HT := Lib.hid hT
  have HA := Lib.hid h
  obtain ⟨np, nc, rfl, -⟩ := hn
  have hw : IntKind.u64.wrap (slots : Int) = (slots : Int) := by rw [IntKind.wrap_u64]; omega
  obtain ⟨W0, hW0⟩ : ∃ W0, w.alloc (.cells #[.int .i64 e, .int .i64 slots, .slice np note.length nc] 141) = W0 := ⟨_, rfl⟩
  have B0 : Below w.heap.size w W0 := by rw [← hW0]; exact bel1 w _
  have blk0 : W0.heap[w.heap.size]? = some (.cells #[.int .i64 e, .int .i64 slots, .slice np note.length nc] 141) := by rw [← hW0]; exact heap_alloc_last w _
  obtain ⟨c0, c1, c2, -⟩ := three_of blk0
  obtain ⟨d0, d1, d2, -⟩ := three_of (w := W0.drew) blk0
  have HN0 := Lib.hid (HN.out.on B0)
  have cP := put141 slots (by omega) W0.drew
  have hok : okF 1 e (hpay slots note) = true := by unfold okF; simp; omega
  have HP : Hid (hpay slots note = vnt slots ++ note) := rfl
  have cPut := fun W hW v hv hT' => put165 W d pb mb s hW (e % 2) 1 e v (hpay slots note) hv hT' (by omega) hok
  have hlen : Hid ((vnt slots).length + note.length ≤ 112) := by show _ ≤ _; have := hl; unfold hpay at this; rwa [List.length_append] at this
  unfold Dsk.hwr
  generalize hq : s.put (e % 2) 1 e (hpay slots note) = q at *
  obtain ⟨qe, qs⟩ := q
  simp only at cPut ⊢
  obtain ⟨FR, hFR⟩ : ∃ FR, (if qe ≠ 0 then (qe, qs) else qs.flush) = FR := ⟨_, rfl⟩
  rw [hFR]
  have HFR := Lib.hid hFR
  clear hFR
  generalize hpay slots note = PY at *
  generalize vnt slots = VS at *
  have hem : Hid (0 ≤ e) := by show _ ≤ _; omega
  clear hq hT h hok hl he2 HN
  go_enter Tryz.func140, Tryz.ntmps140
  go_wp2
  go_region_with (first
    | (go_at_call 141; refine cP.mono ?_
       rintro r w2 ⟨y, rfl, hbt, hb2⟩
       have hb2' : Below W0.heap.size W0 w2 := ⟨hb2.os, hb2.tape, hb2.output, hb2.size, hb2.block⟩
       obtain ⟨x0, x1, x2, -⟩ := three_of (blk_on hb2' blk0)
       obtain ⟨v3, w3, hap, hR3, hg3⟩ := app_run w2 W0.heap.size y _ VS note hbt (HN0.out.on hb2') (by have := hlen.out; omega) hb2.size 29
       have stp := Lib.hid (And.intro hR3 (hb2'.trans (hbt.below hg3 hb2'.size)))
       obtain ⟨yp, yc, rfl, -⟩ := hbt.bs
       simp [go_sem] at hap
       clear hR3 hg3 hbt hb2 hb2'))
  all_goals
    clear hap hW0
    obtain ⟨vp, vc, rfl, -⟩ := stp.out.1.bs
    have hV : Hid (Bs w3 (.slice vp (VS ++ note).length vc) PY) := by have := stp.out.1.bs; rw [← HP.out] at this ⊢; exact this
    have B3 := Lib.hid (bel_then B0 stp.out.2)
    have blk3 := blk_on stp.out.2 blk0
    clear stp
    generalize (VS ++ note).length = NL at *
    obtain ⟨z0, z1, z2, -⟩ := three_of blk3
    obtain ⟨W4, hW4⟩ : ∃ W4, w3.alloc (.cells #[.int .i64 1, .int .i64 e, .slice vp NL vc] 190) = W4 := ⟨_, rfl⟩
    have blk4 := blk_on (bel1 w3 (.cells #[.int .i64 1, .int .i64 e, .slice vp NL vc] 190)) blk3
    have fr4 := heap_alloc_last w3 (.cells #[.int .i64 1, .int .i64 e, .slice vp NL vc] 190)
    have B4 := Lib.hid (bel_then B3.out (bel1 w3 (.cells #[.int .i64 1, .int .i64 e, .slice vp NL vc] 190)))
    have V4 := Lib.hid (hV.out.on (bel1 w3 (.cells #[.int .i64 1, .int .i64 e, .slice vp NL vc] 190)))
    rw [hW4] at blk4 fr4 B4 V4
    obtain ⟨y0, y1, y2, -⟩ := three_of blk4
    obtain ⟨f0, f1, f2, -⟩ := three_of fr4
    obtain ⟨yd0, yd1, yd2, -⟩ := three_of (w := W4.drew) blk4
    obtain ⟨fd0, fd1, fd2, -⟩ := three_of (w := W4.drew) fr4
    have c47 := at172 W4.drew e hem.out (.int .i64 slots) (.slice np note.length nc) rfl rfl
    have HF4 := Lib.hid fr4
    have cPt := fun W (hb : Below W4.heap.size W4 W) => cPut W (HA.out.on (bel_then B4.out hb)) (.slice vp NL vc) (V4.out.on hb) (tab_on HT.out (bel_then B4.out hb))
    unfold frm at cPt
    clear x0 x1 x2 c0 c1 c2 d0 d1 d2 blk0 blk3 blk4 fr4 cPut cP
    go_wp2
    go_region_with (first
      | (go_at_call 172; refine c47.mono ?_
         rintro r w5 ⟨rfl, hw5⟩
         have HB47 : Hid (Below W4.heap.size W4 w5) := by show Below _ _ _; rw [hw5]; exact (Below.refl _ W4).drew.alloc (Nat.le_refl _) _
         obtain ⟨fe0, fe1, fe2, -⟩ := three_of (blk_on HB47.out HF4.out)
         clear hw5)
      | (go_at_call 165; refine (cPt _ HB47.out).mono ?_; rintro r w6 ⟨rfl, hA6, hK6⟩))
  all_goals
    have HA6 := Lib.hid hA6
    have HK6 := Lib.hid ((Kept.bel (bel_then B4.out HB47.out)).trans hK6)
    have cF := flush109 w6 d pb mb qs hA6
    clear hA6 hK6
    by_cases hqe : qe = 0
    · subst hqe
      have hF : FR = qs.flush := by rw [← HFR.out, if_neg (fun e => e rfl)]
      subst hF
      go_wp2_with (first | (go_at_call 109; refine cF.mono ?_; rintro r w7 ⟨rfl, hA7, hK7⟩))
      go_ret
      exact ⟨rfl, hA7, HK6.out.trans hK7⟩
    · have hF : FR = (qe, qs) := by rw [← HFR.out, if_pos hqe]
      subst hF
      have hq2 : (qe != 0) = true := by simp; exact hqe
      go_wp2
      go_ret
      exact ⟨rfl, HA6.out, HK6.out⟩
end Go.Proofs.YtfakgfmgofblgaaGreatDoor
namespace Go.Proofs.YtfakgfmgofblgaaGreatDoor
open Go.RowKit Go.Shelf
set_option linter.unusedVariables false      -- a walk need not use every condition
attribute [local go_sem] Oper.semAt_some

theorem chunk192 (sl : Value) (p : Option Addr) (n c : Nat) (hs : sl = .slice p n c) (w : World) :
    Calls Tryz.prog 192 #[sl, .int .i64 112] w fun e w' => e = .returned (.func (.func 205) #[] #[.pointer (some ⟨w.heap.size, 0, none⟩), .pointer (some ⟨w.heap.size + 1, 0, none⟩)]) ∧
      w' = (w.alloc (.cells #[sl] 29)).alloc (.cells #[.int .i64 112] 3) := by
  subst hs
  go_enter Tryz.func192, Tryz.ntmps192
  go_wp2
  go_ret
  exact ⟨rfl, rfl⟩
/-- The first k of m. -/
def upto (m k : Nat) : List (Fin m) := (List.finRange m).take k
theorem upto_len (m k : Nat) (h : k ≤ m) : (upto m k).length = k := by simp [upto, h]
theorem upto_succ (m k : Nat) (h : k < m) : upto m (k + 1) = upto m k ++ [⟨k, h⟩] := by
  unfold upto
  rw [List.take_succ_eq_append_getElem (by simpa using h)]
  simp
theorem upto_all (m : Nat) : upto m m = List.finRange m := by simp [upto, List.take_of_length_le]
/-- What the two boxes of Chunk hold stays. -/
def KeepBox (Bs : Nat) (W W' : World) : Prop := W'.cell? ⟨Bs, 0, none⟩ = W.cell? ⟨Bs, 0, none⟩ ∧ W'.cell? ⟨Bs + 1, 0, none⟩ = W.cell? ⟨Bs + 1, 0, none⟩
theorem grown_drew (w : World) : w.grownBy w.drew none := ⟨rfl, rfl, rfl, Nat.le_refl _, fun _ _ _ => rfl⟩
def vn : Value → Nat
  | .int _ x => x.toNat
  | _ => 0
/-- How long the piece x of n bytes is. -/
def pl (n x : Nat) : Nat := min 112 (n - 112 * x)
set_option maxRecDepth 100000 in
set_option maxHeartbeats 2000000 in
theorem chunk205 (n : Nat) (hn : 1 ≤ n) (l Bs b o N cap : Nat) (p : Option Addr) (hp : 0 < N → p = some ⟨b, o, none⟩) (hm : N ≤ cap) (hcap : cap ≤ 9223372036854775807) (hN : N ≤ 4398046511104) (m : Nat) (hmN : m = (N + 111) / 112) (J Jx : List (Fin m) → World → Prop) (W : World) (hJ : AbidesFrom W.heap.size J)
    (hY : ∀ pre x W1, J pre W1 → pre.length < m → YieldAt Fence.wide (n - 1) Tryz.prog l #[.slice (some ⟨b, o + 112 * x.1, none⟩) (pl N x.1) (pl N x.1)] W1 fun e W' =>
      (e = .returned (.bool true) ∧ J (pre ++ [x]) W' ∧ KeepBox Bs W1 W') ∨ (e = .returned (.bool false) ∧ Jx (pre ++ [x]) W'))
    (hBs : W.cell? ⟨Bs, 0, none⟩ = some (.slice p N cap)) (hBn : W.cell? ⟨Bs + 1, 0, none⟩ = some (.int .i64 112)) (h0 : J [] W) :
    CallsIn Fence.wide n Tryz.prog 205 #[.func (.yield l) #[] #[], .pointer (some ⟨Bs, 0, none⟩), .pointer (some ⟨Bs + 1, 0, none⟩)] W fun e W' => (∃ v, e = .returned v) ∧
      ((∃ ys, ys = List.finRange m ∧ J ys W') ∨ (∃ pre, True ∧ Jx pre W')) := by
  have HM := Lib.hid hmN
  refine callsIn_of_wp Tryz.func205 rfl trivial ?_ rfl
  simp only [Tryz.ntmps205, List.size_toArray, List.length_cons, List.length_nil, Nat.reduceAdd, Nat.reduceSub, Array.replicate_succ, Array.replicate_zero, List.push_toArray, List.append_toArray, List.nil_append, List.cons_append]
  clear hmN
  gi_wp2
  gi_loopw [4] (fun i wr => ∃ k : Nat, k ≤ m ∧ i = .int .i64 (112 * k : Nat) ∧ J (upto m k) wr ∧ wr.cell? ⟨Bs, 0, none⟩ = some (.slice p N cap) ∧ wr.cell? ⟨Bs + 1, 0, none⟩ = some (.int .i64 112))
    (fun i _ => 112 * m - vn i)
  case atStart => exact ⟨0, Nat.zero_le _, rfl, h0, hBs, hBn⟩
  case round =>
    obtain ⟨k, hk, rfl, hJs, hcs, hcn⟩ := hrel
    have hM := HM.out
    by_cases hlt : k < m
    · have hJd : J (upto m k) wr.drew := hJ _ _ _ none hJs (grown_drew wr) (fun r e => by cases e)
      obtain ⟨fn, tmps, assign, body, hy, hR⟩ := hY (upto m k) ⟨k, hlt⟩ wr.drew hJd (by rw [upto_len m k hk]; exact hlt)
      dsimp only at hy hR
      obtain ⟨j, hj⟩ : ∃ j, 112 * k = j := ⟨_, rfl⟩
      have hpl : pl N k = min 112 (N - 112 * k) := rfl
      rw [hj] at hy hpl ⊢
      have hkN : j < N := by omega
      have hkz : (j : Int) < (N : Int) := by omega
      have hkz0 : (0 : Int) ≤ (j : Int) := by omega
      have hkc : (j : Int) ≤ (cap : Int) := by omega
      have hjne : ¬ cap = j := by omega
      obtain rfl := hp (by omega)
      have hJ112 : j + 112 < 9223372036854775807 := by omega
      have HJ := Lib.hid hj
      obtain ⟨q, hq⟩ : ∃ q, pl N k = q := ⟨_, rfl⟩
      rw [hq] at hy hpl
      have hqz : (q : Int) = min 112 (((N - j : Nat)) : Int) := by omega
      have hq1 : 1 ≤ q := by omega
      have hjq : j + q ≤ N := by omega
      have hs1 : IntKind.i64.wrap ((j : Int) + (q : Int)) = (j : Int) + (q : Int) := by rw [IntKind.wrap_i64]; omega
      have hs2 : (j : Int) ≤ (j : Int) + (q : Int) := by omega
      have hs3 : (j : Int) + (q : Int) ≤ (cap : Int) := by omega
      have hs5 : ((j : Int) + (q : Int)).toNat - j = q := by omega
      have hs4 : IntKind.i64.wrap ((j : Int) + 112) = (j : Int) + 112 := by rw [IntKind.wrap_i64]; omega
      clear hM hj hpl hq hY
      gi_wp2
      gi_region
      first
        | rw [show (if ((N - j : Nat) : Int) < 112 then ((N - j : Nat) : Int) else 112) = (q : Int) by split <;> omega]
        | rw [← hqz]
      clear hqz
      gi_wp2
      refine hR.mono ?_
      rintro e W3 (⟨rfl, hJ3, hk3⟩ | ⟨rfl, hJx3⟩)
      · have c1 : W3.cell? ⟨Bs, 0, none⟩ = some (.slice (some ⟨b, o, none⟩) N cap) := hk3.1.trans hcs
        have c2 : W3.cell? ⟨Bs + 1, 0, none⟩ = some (.int .i64 112) := hk3.2.trans hcn
        gi_wp2
        go_roundw
        case rel => exact ⟨k + 1, by omega, by rw [show 112 * (k + 1) = j + 112 by have := HJ.out; omega]; rfl, by rw [upto_succ m k hlt]; exact hJ3, c1, c2⟩
        case measure => have := HJ.out; simp [vn]; omega
      · gi_wp2
        refine bodyPost_ret (results_none rfl _ _ _) rfl ?_
        exact ⟨⟨_, rfl⟩, .inr ⟨_, trivial, hJx3⟩⟩
    · obtain rfl : k = m := by omega
      have hge : N ≤ 112 * k := by omega
      gi_wp2
      go_end0
      exact ⟨⟨_, rfl⟩, .inl ⟨_, upto_all k, hJs⟩⟩
theorem chunk_stops (n : Nat) (hn : 1 ≤ n) (Bs b o N cap : Nat) (p : Option Addr) (hp : 0 < N → p = some ⟨b, o, none⟩) (hm : N ≤ cap) (hcap : cap ≤ 9223372036854775807) (hN : N ≤ 4398046511104) (m : Nat) (hmN : m = (N + 111) / 112) (w : World) (hB : Bs + 1 < w.heap.size)
    (hBs : w.cell? ⟨Bs, 0, none⟩ = some (.slice p N cap)) (hBn : w.cell? ⟨Bs + 1, 0, none⟩ = some (.int .i64 112)) :
    SeqStopsK Fence.wide n Tryz.prog 205 #[.pointer (some ⟨Bs, 0, none⟩), .pointer (some ⟨Bs + 1, 0, none⟩)] (fun x : Fin m => #[Value.slice (some ⟨b, o + 112 * x.1, none⟩) (pl N x.1) (pl N x.1)]) (KeepBox Bs)
      (fun ys => ys = List.finRange m) (fun _ => True) m w := fun l J Jx W hW hJ _ hY h0 =>
  chunk205 n hn l Bs b o N cap p hp hm hcap hN m hmN J Jx W hJ hY ((hW.cell (p := ⟨Bs, 0, none⟩) (by show Bs < _; omega)).trans hBs) ((hW.cell (p := ⟨Bs + 1, 0, none⟩) hB).trans hBn) h0
end Go.Proofs.YtfakgfmgofblgaaGreatDoor
namespace Go.Proofs.YtfakgfmgofblgaaGreatDoor
open Go.RowKit Go.Shelf
set_option linter.unusedVariables false      -- a walk need not use every condition
attribute [local go_sem] Oper.semAt_some

theorem fin_map (t : List UInt8) : (List.finRange (pn t)).map (fun x => pc t x.1) = cutL t := by
  unfold cutL
  refine List.ext_getElem (by simp) fun i h1 h2 => ?_
  simp
theorem boxed_own' (B : Nat) (t : TypeId) (v : Value) {α : Type} : Own (fun (_ : α) W => Boxed W B t v) := by
  rintro s X Y row hv hg hrow
  refine hv.kept hg (fun e' => ?_)
  obtain ⟨o, ho, hc⟩ := hrow B e'.symm
  rw [show X.heap[B]? = _ from hv] at ho; cases ho; cases hc
theorem rowB_own {α : Type} (n₀ B : Nat) (f : α → List (List UInt8)) : Own (fun s W => ∃ v, Boxed W B 127 v ∧ RowB W n₀ v (f s)) := by
  rintro s X Y row ⟨v, hv, hr⟩ hg hrow
  exact ⟨v, boxed_own' (α := Unit) B 127 v () X Y row hv hg hrow, hr.nc hg hrow⟩
theorem RowB.ge {w : World} {n₀ j : Nat} {v : Value} {L : List (List UInt8)} (h : RowB w n₀ v L) (hj : j < n₀) : some j ≠ v.ownBlock := by
  obtain ⟨vs, ho, -⟩ := h
  intro e
  have := (World.ownsRow.lt ho j e.symm).1
  omega
theorem RowB.mono {w : World} {b b' : Nat} {v : Value} {L : List (List UInt8)} (h : RowB w b' v L) (hb : b ≤ b') : RowB w b v L := by
  obtain ⟨vs, ho, he⟩ := h
  refine ⟨vs, ⟨ho.1, ?_⟩, fun i hi => ?_⟩
  · rcases ho.2 with h | ⟨g, cap, cur, rfl, hbg, r⟩
    · exact .inl h
    · exact .inr ⟨g, cap, cur, rfl, Nat.le_trans hb hbg, r⟩
  · obtain ⟨x, hx, hB⟩ := he i hi
    exact ⟨x, hx, hB.mono hb⟩
theorem others_bel {W w1 : World} (hb : Below W.heap.size W w1) : KeepsOthers W w1 := ⟨hb.size, fun k o hk _ => blk_on hb hk⟩
theorem row_cells {w : World} {n₀ : Nat} {v : Value} {L : List (List UInt8)} (h : RowB w n₀ v L) : ∀ (j : Nat) (o : Obj), v.ownBlock = some j → w.heap[j]? = some o → o.isCells = true := by
  intro j o ej hj
  obtain ⟨vs, ho, -⟩ := h
  rcases ho.2 with ⟨rfl, _⟩ | ⟨g, cap, cur, rfl, _, hgb, _⟩
  · simp [Value.ownBlock] at ej
  · obtain rfl : g = j := by simpa [Value.ownBlock] using ej
    rw [hgb] at hj; cases hj; rfl
/-- What a round leaves. -/
theorem cut_step {W w1 w2 : World} {B : Nat} {v v2 S I : Value} {L L2 : List (List UInt8)} {o : Obj} (hv : Boxed W B 127 v) (hvS : Boxed W (B + 1) 29 S) (hvN : Boxed W (B + 1 + 1) 3 I) (hz : B + 3 ≤ W.heap.size)
    (hb : Below W.heap.size W w1) (hrow : RowB w1 (B + 3) v L) (hR2 : RowB w2 (B + 3) v2 L2) (hg2 : (w1.alloc o).grownBy w2 v.ownBlock) :
    Boxed w1 B 127 v ∧ Boxed w2 B 127 v ∧ Boxed (w2.setCell ⟨B, 0, none⟩ v2) B 127 v2 ∧ RowB (w2.setCell ⟨B, 0, none⟩ v2) (B + 3) v2 L2 ∧ KeepsOthers W (w2.setCell ⟨B, 0, none⟩ v2) ∧ Below B W (w2.setCell ⟨B, 0, none⟩ v2) ∧
      Boxed (w2.setCell ⟨B, 0, none⟩ v2) (B + 1) 29 S ∧ Boxed (w2.setCell ⟨B, 0, none⟩ v2) (B + 1 + 1) 3 I := by
  have z1 := hb.size
  have a1 : Boxed w1 B 127 v := blk_on hb hv
  have a2 : Boxed w2 B 127 v := (a1.alloc o).kept hg2 (hrow.ge (by omega))
  have s1 : Boxed w1 (B + 1) 29 S := blk_on hb hvS
  have s2 : Boxed w2 (B + 1) 29 S := (s1.alloc o).kept hg2 (hrow.ge (by omega))
  have i1 : Boxed w1 (B + 1 + 1) 3 I := blk_on hb hvN
  have i2 : Boxed w2 (B + 1 + 1) 3 I := (i1.alloc o).kept hg2 (hrow.ge (by omega))
  refine ⟨a1, a2, a2.set v2, hR2.set a2 v2, ?_, ?_, s2.other (by omega) v2, i2.other (by omega) v2⟩
  · exact (others_bel hb).trans (((KeepsOthers.alloc w1 o).trans (KeepsOthers.of_grownBy hg2 (row_cells (hrow.on (bel1 w1 o))))).trans (KeepsOthers.setCell _ _ _))
  · refine (hb.mono (by omega)).trans ?_
    exact ((hrow.bel hg2 (by omega)).mono (by omega)).setCell (p := ⟨B, 0, none⟩) (Nat.le_refl B) v2
theorem piece_bs {w : World} {g o cap x : Nat} {t : List UInt8} (h : Bs w (.slice (some ⟨g, o, none⟩) t.length cap) t) (hx : x < pn t) : Bs w (.slice (some ⟨g, o + 112 * x, none⟩) (pl t.length x) (pl t.length x)) (pc t x) := by
  have hcap : t.length ≤ cap := by obtain ⟨p, c, e, h1, -⟩ := h; injection e with _ _ e3; omega
  unfold pn at hx
  have h1 := bs_drop h (n := 112 * x) (by omega)
  rw [← List.length_drop] at h1
  have hl : (t.drop (112 * x)).length = t.length - 112 * x := by simp
  have h2 := bs_take h1 (n := pl t.length x) (c := pl t.length x) (by unfold pl; omega) (Nat.le_refl _) (by unfold pl; omega)
  have e : (t.drop (112 * x)).take (pl t.length x) = pc t x := by
    unfold pc pl
    by_cases h : 112 ≤ t.length - 112 * x
    · rw [Nat.min_eq_left h]
    · rw [Nat.min_eq_right (by omega), List.take_of_length_le (by omega), List.take_of_length_le (by omega)]
  rwa [e] at h2
set_option maxRecDepth 100000 in
set_option maxHeartbeats 4000000 in
theorem cut164 (w : World) (v : Value) (t : List UInt8) (hv : Bs w v t) (hlen : t.length ≤ 4398046511104) :
    CallsIn Fence.wide 3 Tryz.prog 164 #[v] w fun e w' => ∃ v', e = .returned v' ∧ RowB w' w.heap.size v' (cutL t) ∧ Below w.heap.size w w' := by
  have HV := Lib.hid hv
  obtain ⟨p, cap, rfl, h1, h2, h3, h4⟩ := hv
  obtain ⟨b, o, hp⟩ : ∃ b o, 0 < t.length → p = some ⟨b, o, none⟩ := by
    rcases h4 with rfl | ⟨g, o, rfl, -⟩
    · exact ⟨0, 0, fun h => absurd h (by simp)⟩
    · exact ⟨g, o, fun _ => rfl⟩
  clear h3 h4
  unfold maxLen at h2
  obtain ⟨B, hB⟩ : ∃ B, w.heap.size = B := ⟨_, rfl⟩
  refine callsIn_of_wp_marks Tryz.func164 rfl trivial ?_ rfl
  simp only [Tryz.ntmps164, List.size_toArray, List.length_cons, List.length_nil, Nat.reduceAdd, Nat.reduceSub, Array.replicate_succ, Array.replicate_zero, List.push_toArray, List.append_toArray, List.nil_append, List.cons_append]
  gi_wp2_with (refine ⟨trivial, ?_⟩; gi_at_call 192; refine (callsIn_wide.2 (chunk192 _ _ _ _ rfl _)).mono ?_; rintro e w' ⟨rfl, rfl⟩)
  obtain ⟨W0, hW0⟩ : ∃ W0, ((w.alloc (.cells #[.slice none 0 0] 127)).alloc (.cells #[.slice p t.length cap] 29)).alloc (.cells #[.int .i64 112] 3) = W0 := ⟨_, rfl⟩
  have bO := ((Boxed.new w 127 (.slice none 0 0)).alloc (.cells #[.slice p t.length cap] 29)).alloc (.cells #[.int .i64 112] 3)
  have bS := (Boxed.new (w.alloc (.cells #[.slice none 0 0] 127)) 29 (.slice p t.length cap)).alloc (.cells #[.int .i64 112] 3)
  have bN := Boxed.new ((w.alloc (.cells #[.slice none 0 0] 127)).alloc (.cells #[.slice p t.length cap] 29)) 3 (.int .i64 112)
  have hB0 : Below w.heap.size w W0 := by
    rw [← hW0]
    exact (((Below.refl _ w).alloc (Nat.le_refl _) _).alloc (by simp) _).alloc (by simp; omega) _
  have hsz : W0.heap.size = B + 3 := by rw [← hW0]; simp [hB]
  rw [World.size_alloc, World.size_alloc, hB] at bN
  rw [World.size_alloc, hB] at bS
  rw [hB] at bO hB0
  rw [hW0] at bO bS bN
  simp only [hW0]
  refine wpIn_rangeFunc_ownG rfl (by omega) (gf := 205) (lb := #[.pointer (some ⟨B + 1, 0, none⟩), .pointer (some ⟨B + 1 + 1, 0, none⟩)]) rfl trivial (enters_of Tryz.func205 (by kernel_rfl) rfl)
    (chunk_stops 2 (by omega) (B + 1) b o t.length cap p hp h1 (by omega) hlen (pn t) rfl W0 (by omega) bS.cell bN.cell) (fun h k => ⟨k.1.trans h.1, k.2.trans h.2⟩) ?hKb (Below.refl _ _) (fun _ => rfl)
    (fun pre W => (∃ v, Boxed W B 127 v ∧ RowB W (B + 3) v (pre.map fun x => pc t x.1)) ∧ Boxed W (B + 1) 29 (.slice p t.length cap) ∧ Boxed W (B + 1 + 1) 3 (.int .i64 112) ∧ Below B w W ∧ B + 3 ≤ W.heap.size)
    (fun _ _ _ => False)
    ?hI
    (fun _ _ _ _ _ hs _ _ => hs)
    ⟨⟨_, bO, rowB_nil _ _⟩, bS, bN, hB0, by omega⟩
    (fun x => { tmps := #[.slice p t.length cap, undef, .slice none 0 0, .pointer (some ⟨B, 0, none⟩), .slice (some ⟨b, o + 112 * x.1, none⟩) (pl t.length x.1) (pl t.length x.1), .slice p t.length cap, .func (.func 205) #[] #[.pointer (some ⟨B + 1, 0, none⟩), .pointer (some ⟨B + 1 + 1, 0, none⟩)], .slice (some ⟨b, o + 112 * x.1, none⟩) (pl t.length x.1) (pl t.length x.1), undef, undef, undef, undef, undef, undef], defers := [] }) ?assign ?body ?done ?stop
  case hKb =>
    intro W l o o' hl _ _ _
    exact ⟨World.cell?_of_block (World.putObj_heap_other (by show B + 1 ≠ l; omega)), World.cell?_of_block (World.putObj_heap_other (by show B + 1 + 1 ≠ l; omega))⟩
  case hI =>
    refine OwnFrom.and (Own.from (rowB_own (B + 3) B (fun pre : List (Fin (pn t)) => pre.map fun x => pc t x.1)) _)
      (OwnFrom.and (Own.from (boxed_own _ _ _) _) (OwnFrom.and (Own.from (boxed_own _ _ _) _) (OwnFrom.and ?_ ?_)))
    · rw [← hB] 
      exact ownFrom_below (Nat.le_refl _) (by omega)
    · intro s X Y row hs hg _
      exact Nat.le_trans hs hg.size
  case assign =>
    intro l x W K hK
    gi_wp2
    exact hK
  case body =>
    rintro l pre x W ⟨⟨v, hv, hrow⟩, hvS, hvN, hBW, hzW⟩ hlt
    have hx := x.2
    have hpN : 0 < t.length := by unfold pn at hx; omega
    obtain rfl := hp hpN
    have hBW' : Below w.heap.size w W := by rw [hB]; exact hBW
    have hpb := (piece_bs HV.out hx).on (bel_then hBW' ((Below.refl W.heap.size W).drew))
    have hpl : (pc t x.1).length ≤ 140737488355328 := by rw [pc_len]; omega
    have c37 := clone62 W.drew _ (pc t x.1) hpb hpl
    have hc := hv.cell
    have hcd : W.drew.cell? ⟨B, 0, none⟩ = some v := hc
    have hpre : (pre.map fun x => pc t x.1).length + 1 ≤ 4398046511104 := by rw [List.length_map]; have hq : pn t = (t.length + 111) / 112 := rfl; omega
    have Hrow := Lib.hid hrow
    have Hv := Lib.hid hv
    have HX := Lib.hid (And.intro hvS (And.intro hvN (And.intro hBW hzW)))
    have mixed : Tryz.prog.follows .mixedOrders = true := by kernel_rfl
    clear hpb hrow
    gi_wp2
    gi_region_with_o (first
      | (refine ⟨trivial, ?_⟩; gi_at_call 62; refine (callsIn_wide.2 c37).mono ?_
         rintro e w1 ⟨y, rfl, hbt, hb1⟩
         have hb1' : Below W.heap.size W w1 := ⟨hb1.os, hb1.tape, hb1.output, hb1.size, hb1.block⟩
         have hz1 := hb1'.size
         have hbt' : Bts w1 (B + 3) y (pc t x.1) := hbt.mono hzW
         obtain ⟨v2, w2, hap, hR2, hg2, g2, c2, rfl⟩ := row_app (w1.alloc (.cells #[y] 29)) (B + 3) w1.heap.size v y _ _ ((Hrow.out.on hb1').on (bel1 _ _)) (Bts.on hbt' (bel1 _ _)) (cell_new _ _ _) (by simp; omega) hpre 127
         obtain ⟨yp, yc, rfl, -⟩ := hbt.bs
         have stp := Lib.hid (cut_step Hv.out hvS hvN hzW hb1' (Hrow.out.on hb1') hR2 hg2)
         have k0 : (w1.alloc (.cells #[.slice yp (pc t x.1).length yc] 29)).cell? ⟨B, 0, none⟩ = some v := (stp.out.1.alloc _).cell
         have k1 := stp.out.1.cell
         have k2 := stp.out.2.1.cell
         have k3 := stp.out.2.1.frozen
         simp [go_sem] at hap
         clear hR2 hg2 hbt hb1 hbt' hb1'))
    all_goals
      clear hap
      gi_wp2
      obtain ⟨-, -, t3, t4, t5, t6, t7, t8⟩ := stp.out
      simp only [List.length_map] at t3 t4 t5 t6 t7 t8
      refine ⟨t5.from _, ⟨t7.cell.trans HX.out.1.cell.symm, t8.cell.trans HX.out.2.1.cell.symm⟩, ⟨_, t3, ?_⟩, t7, t8, HX.out.2.2.1.trans t6, Nat.le_trans HX.out.2.2.2 t5.size⟩
      rw [List.map_append]
      exact t4
  case done =>
    rintro D ys W hD rfl ⟨⟨v, hv, hrow⟩, hvS, hvN, hBW, hzW⟩ hK
    have hc := hv.cell
    rw [fin_map] at hrow
    have hDl : D < W.heap.size := (Array.getElem?_eq_some_iff.1 hK).1
    obtain ⟨vp, vc, rfl, -⟩ := hrow.bss
    gi_wp2
    refine ⟨by simp, .inl ⟨_, _, rfl, run_takeDeferred hK, ?_⟩⟩
    refine ⟨_, results_tmp rfl _ _ _, _, rfl, ?_, ?_⟩
    · rw [hB]
      exact (hrow.nc (grownBy_putObj' W D _) (fun r e => by cases e; exact ⟨_, hK, rfl⟩)).mono (by omega)
    · rw [hB]
      refine hBW.trans ?_
      have hg := grownBy_putObj' W D (.deferred none)
      exact ⟨hg.os, hg.tape, hg.output, hg.size, fun k hk => hg.block k (by omega) (fun e => by injection e with e; omega)⟩
  case stop =>
    rintro D c pre W _ _ h _
    exact h.elim
end Go.Proofs.YtfakgfmgofblgaaGreatDoor
