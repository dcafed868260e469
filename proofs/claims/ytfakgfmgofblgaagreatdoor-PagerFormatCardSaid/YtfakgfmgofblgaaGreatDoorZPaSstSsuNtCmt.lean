/-
  What Alloc, Set, SetWord of a pager do.
  settleStaged of package pager: what was staged is what was committed.
  settleStaged of package pager: the walk.
  What noted does; isStaged, where a page was taken or freed.
  Commit of package pager, where a page was taken or freed, there is room in the log, and the log takes it.
-/
import Derived.Test.YtfakgfmgofblgaaGreatDoorZPrPg
import Derived.Test.YtfakgfmgofblgaaGreatDoorZSgd
import Derived.Test.YtfakgfmgofblgaaGreatDoorZFlushW
import Derived.Test.YtfakgfmgofblgaaGreatDoorZNhElRpRcRcs
import Derived.Test.YtfakgfmgofblgaaGreatDoorZOq
import Derived.Test.YtfakgfmgofblgaaGreatDoorZAp
namespace Go.Proofs.YtfakgfmgofblgaaGreatDoor
open Go.RowKit Go.Maps
set_option linter.unusedVariables false      -- a walk need not use every condition
attribute [local go_sem ↓] Go.wp_at_zero Go.wp_at_succ

/-- Of the pager's block the cells from lo to hi may have turned, and of other blocks those of X. -/
theorem BaAt.outG {w w' : World} {g o lo hi : Nat} {b : Ba} {X : Nat → Prop} (h : BaAt w g o b) (hk : Kg g lo hi X w w') (ho : o + 260 ≤ lo ∨ hi ≤ o) : BaAt w' g o b := by
  refine ⟨fun j v hv => ?_, fun j hj => ?_, h.ok⟩
  · have hj : j < 260 := by have := (List.getElem?_eq_some_iff.1 hv).1; rwa [Ba.len h.ok] at this
    exact (hk.out _ (by omega)).1.trans (h.rg j v hv)
  · have := hk.out (o + j) (by omega)
    rw [this.1, this.2]
    exact h.th j hj
/-- What a call on a pager comes to. -/
def PR (w : World) (d l p ms mk ml base : Nat) (tv : Value) (P : Pgr) (w' : World) : Prop :=
  ∃ tv', PAt w' d l p ms mk ml base tv' P ∧ Kp (Xp p ms mk ml tv) w w' ∧ ∀ k, tv'.ownBlock = some k → tv.ownBlock = some k ∨ w.heap.size ≤ k
theorem PR.next {w w1 w2 : World} {d l p ms mk ml base : Nat} {tv tv1 : Value} {P : Pgr} (h : Kp (Xp p ms mk ml tv) w w1) (ht : ∀ k, tv1.ownBlock = some k → tv.ownBlock = some k ∨ w.heap.size ≤ k) (h2 : PR w1 d l p ms mk ml base tv1 P w2) : PR w d l p ms mk ml base tv P w2 := by
  obtain ⟨tv2, hP, hK, hv⟩ := h2
  have hs := h.size
  refine ⟨tv2, hP, h.trans2 hK (fun k hk => ?_), fun k hk => ?_⟩
  · rcases hk with hk | hk | hk | hk | hk
    · exact .inl (.inl hk)
    · exact .inl (.inr (.inl hk))
    · exact .inl (.inr (.inr (.inl hk)))
    · exact .inl (.inr (.inr (.inr (.inl hk))))
    · rcases ht k hk with h1 | h1
      · exact .inl (.inr (.inr (.inr (.inr h1))))
      · exact .inr h1
  · rcases hv k hk with h1 | h1
    · exact ht k h1
    · exact .inr (by omega)
theorem PR.same {w w' : World} {d l p ms mk ml base : Nat} {tv : Value} {P : Pgr} (h : PAt w d l p ms mk ml base tv P) (hb : Below w.heap.size w w') : PR w d l p ms mk ml base tv P w' := ⟨tv, h.on hb, Kp.bel hb, fun _ h => .inl h⟩
theorem kg_xp {p ms mk ml lo hi : Nat} {tv : Value} {w w' : World} (h : Kg p lo hi (Xo ms mk tv) w w') : Kp (Xp p ms mk ml tv) w w' := h.kp.mono fun k hk => by
  rcases hk with hk | hk | hk | hk
  · exact .inl hk
  · exact .inr (.inl hk)
  · exact .inr (.inr (.inl hk))
  · exact .inr (.inr (.inr (.inr hk)))
/-- The pool has turned. -/
theorem PAt.pool {w w' : World} {d l p ms mk ml base : Nat} {tv tv' : Value} {P : Pgr} {Q : Po} (h : PAt w d l p ms mk ml base tv P) (hP : PoAt w' p 526 ms mk base tv' Q) (hK : Kg p 526 (526 + 4) (Xo ms mk tv) w w') : PAt w' d l p ms mk ml base tv' { P with po := Q } := by
  have ho := fun i (hi : i < 526 ∨ 530 ≤ i) => hK.out i hi
  have hml := h.ml
  have hne := h.pne
  have l' := h.po.lt
  refine { h with h0 := (ho _ (by omega)).1.trans h.h0, h1 := (ho _ (by omega)).1.trans h.h1, h2 := (ho _ (by omega)).1.trans h.h2, h3 := (ho _ (by omega)).1.trans h.h3, was := h.was.outG hK (by omega), now := h.now.outG hK (by omega), mv := (ho _ (by omega)).1.trans h.mv, rw := (ho _ (by omega)).1.trans h.rw, po := hP, lc := (ho _ (by omega)).1.trans h.lc, lg := h.lg.blk (hK.kp.block ml (by omega) (fun hx => ?_)), br := (ho _ (by omega)).1.trans h.br, fz := fun i hi => ?_ }
  · rcases hx with e | e | e | e
    · exact hne.2.2.1 e.symm
    · exact hml.2.1 e
    · exact hml.2.2 e
    · have := h.po.tvb e; omega
  · exact (ho i (by omega)).2.trans (h.fz i hi)
/-- The base that is asked has turned. -/
theorem PAt.nowd {w w' : World} {d l p ms mk ml base : Nat} {tv : Value} {P : Pgr} {b : Ba} (h : PAt w d l p ms mk ml base tv P) (hb : BaAt w' p 264 b) (hK : Kg p 264 524 (fun _ => False) w w') : PAt w' d l p ms mk ml base tv { P with now := b } := by
  have ho := fun i (hi : i < 264 ∨ 524 ≤ i) => hK.out i hi
  have hml := h.ml
  have hne := h.pne
  have l' := h.po.lt
  exact { h with h0 := (ho _ (by omega)).1.trans h.h0, h1 := (ho _ (by omega)).1.trans h.h1, h2 := (ho _ (by omega)).1.trans h.h2, h3 := (ho _ (by omega)).1.trans h.h3, was := h.was.outG hK (by omega), now := hb, mv := (ho _ (by omega)).1.trans h.mv, rw := (ho _ (by omega)).1.trans h.rw, po := h.po.kp2 hK.kp (fun i h1 h2 => ho i (by omega)) (fun k hk hx => by
      rcases hx with hx | hx
      · rcases hk with e | e | e
        · exact hne.1 (hx.symm.trans e)
        · exact hne.2.1 (hx.symm.trans e)
        · have := h.po.tvb e; omega
      · exact hx), lc := (ho _ (by omega)).1.trans h.lc, lg := h.lg.blk (hK.kp.block ml (by omega) (fun hx => by
      rcases hx with hx | hx
      · exact hne.2.2.1 hx.symm
      · exact hx)), br := (ho _ (by omega)).1.trans h.br, fz := fun i hi => (ho i (by omega)).2.trans (h.fz i hi) }
/-- One of the three truths has turned. -/
theorem PAt.flag {w w' : World} {d l p ms mk ml base i : Nat} {tv : Value} {P : Pgr} {x : Bool} (h : PAt w d l p ms mk ml base tv P) (hi : i = 524 ∨ i = 525 ∨ i = 531) (hw : w' = w.setCell ⟨p, i, none⟩ (.bool x)) :
    PAt w' d l p ms mk ml base tv { P with mv := if i = 524 then x else P.mv, rw := if i = 525 then x else P.rw, br := if i = 531 then x else P.br } ∧ Kp (Xp p ms mk ml tv) w w' := by
  subst hw
  have hK : Kg p i (i + 1) (fun _ => False) w (w.setCell ⟨p, i, none⟩ (.bool x)) := Kg.set w _ (Nat.le_refl _) (by omega)
  have ho := fun j (hj : j < i ∨ i + 1 ≤ j) => hK.out j hj
  have hml := h.ml
  have hne := h.pne
  have l' := h.po.lt
  have hsame : (w.cell? ⟨p, i, none⟩).isSome = true → (w.setCell ⟨p, i, none⟩ (.bool x)).cell? ⟨p, i, none⟩ = some (.bool x) := fun hs => World.cell?_setCell_same' _ _ _ hs
  refine ⟨{ h with h0 := (ho _ (by omega)).1.trans h.h0, h1 := (ho _ (by omega)).1.trans h.h1, h2 := (ho _ (by omega)).1.trans h.h2, h3 := (ho _ (by omega)).1.trans h.h3, was := h.was.outG hK (by omega), now := h.now.outG hK (by omega), mv := ?_, rw := ?_, po := h.po.kp2 hK.kp (fun j h1 h2 => ho j (by omega)) (fun k hk hx => by
      rcases hx with hx | hx
      · rcases hk with e | e | e
        · exact hne.1 (hx.symm.trans e)
        · exact hne.2.1 (hx.symm.trans e)
        · have := h.po.tvb e; omega
      · exact hx), lc := (ho _ (by omega)).1.trans h.lc, lg := h.lg.blk (hK.kp.block ml (by omega) (fun hx => by
      rcases hx with hx | hx
      · exact hne.2.2.1 hx.symm
      · exact hx)), br := ?_, fz := fun j hj => (World.frozen?_setCell _ _ _ _).trans (h.fz j hj) }, hK.kp.mono fun k hk => ?_⟩
  · by_cases e : i = 524
    · subst e; rw [if_pos rfl]; exact hsame (by rw [h.mv]; rfl)
    · rw [if_neg e]; exact (ho 524 (by omega)).1.trans h.mv
  · by_cases e : i = 525
    · subst e; rw [if_pos rfl]; exact hsame (by rw [h.rw]; rfl)
    · rw [if_neg e]; exact (ho 525 (by omega)).1.trans h.rw
  · by_cases e : i = 531
    · subst e; rw [if_pos rfl]; exact hsame (by rw [h.br]; rfl)
    · rw [if_neg e]; exact (ho 531 (by omega)).1.trans h.br
  · rcases hk with hk | hk
    · exact .inl hk
    · exact hk.elim
/-- May a page be staged? -/
structure StOk (P : Po) (page : Nat) : Prop where
  lv : LeaveC P.tn
  mkr : (P.drop page).held = (P.drop page).room → (P.drop page).tn ≠ [] ∧ LeaveC (P.drop page).tn
def Pgr.alloc (P : Pgr) : (Int × Int) × Pgr :=
  if P.br then ((0, 62), P) else if P.pages ≤ P.now.least then ((0, 6), P) else if (keysM P.po.st).length = P.po.room then ((0, 71), P)
  else (((P.now.least : Nat), 0), { P with now := P.now.put P.now.least, mv := true, po := P.po.stage P.now.least [] })
set_option maxHeartbeats 4000000 in
theorem alloc29 (w : World) (d l p ms mk ml base : Nat) (tv : Value) (P : Pgr) (h : PAt w d l p ms mk ml base tv P) (hst : StOk P.po P.now.least) :
    Calls Tryz.prog 29 #[.pointer (some ⟨p, 0, none⟩)] w fun e w' => e = .returned (.tuple #[.int .i64 P.alloc.1.1, .int .i64 P.alloc.1.2]) ∧ PR w d l p ms mk ml base tv P.alloc.2 w' := by
  have c63 := ready63 w d l p ms mk ml base tv P h
  have HA := Lib.hid h
  have h3 := h.h3
  have hpg := h.pg
  have c76 := leastFree76 w p 264 P.now h.now
  have c77 := isFull77 w p 526 ms mk base tv P.po h.po
  have l' := h.po.lt
  unfold Pgr.ready at c63
  unfold Pgr.alloc
  clear h
  cases hb : P.br with
  | true =>
    rw [hb, if_pos rfl] at c63
    rw [if_pos rfl]
    go_enter Tryz.func29, Tryz.ntmps29
    go_wp2_with (first | (go_at_call 63; refine c63.mono ?_; rintro e w' ⟨rfl, ew⟩; rw [ew]; clear ew w'))
    go_ret2
    exact ⟨rfl, PR.same HA.out (Below.refl _ _)⟩
  | false =>
    rw [hb, if_neg (by decide)] at c63
    rw [if_neg (by decide)]
    obtain ⟨m, hm⟩ : ∃ m, P.now.least = m := ⟨_, rfl⟩
    rw [hm] at c76 hst ⊢
    by_cases hfull : P.pages ≤ m
    · rw [if_pos hfull]
      have hge : (P.pages : Int) ≤ (m : Int) := by omega
      go_enter Tryz.func29, Tryz.ntmps29
      go_wp2_with (first | (go_at_call 63; refine c63.mono ?_; rintro e w' ⟨rfl, ew⟩; rw [ew]; clear ew w') | (go_at_call 76; refine c76.mono ?_; rintro e w' ⟨rfl, ew⟩; rw [ew]; clear ew w'))
      go_ret2
      exact ⟨rfl, PR.same HA.out (Below.refl _ _)⟩
    · rw [if_neg hfull]
      have hge : ¬ ((P.pages : Int) ≤ (m : Int)) := by omega
      by_cases hroom : (keysM P.po.st).length = P.po.room
      · rw [if_pos hroom]
        rw [decide_eq_true hroom] at c77
        go_enter Tryz.func29, Tryz.ntmps29
        go_wp2_with (first | (go_at_call 63; refine c63.mono ?_; rintro e w' ⟨rfl, ew⟩; rw [ew]; clear ew w') | (go_at_call 76; refine c76.mono ?_; rintro e w' ⟨rfl, ew⟩; rw [ew]; clear ew w') | (go_at_call 77; refine c77.mono ?_; rintro e w1 ⟨rfl, hb1⟩))
        go_ret2
        exact ⟨rfl, PR.same HA.out hb1⟩
      · rw [if_neg hroom]
        rw [decide_eq_false hroom] at c77
        have hm2 : m < 2048 := by omega
        have c79 := fun (W : World) (hP : PoAt W p 526 ms mk base tv P.po) => stage79 W p 526 ms mk base tv P.po hP m hm2 (.slice none 0 0) [] (bs_nil _) (fun a n c e => (by cases e)) (by decide) hst.lv hst.mkr
        clear hst hroom
        go_enter Tryz.func29, Tryz.ntmps29
        go_wp2_with (first
          | (go_at_call 63; refine c63.mono ?_; rintro e w' ⟨rfl, ew⟩; rw [ew]; clear ew w')
          | (go_at_call 76; refine c76.mono ?_; rintro e w' ⟨rfl, ew⟩; rw [ew]; clear ew w')
          | (go_at_call 77; refine c77.mono ?_; rintro e w1 ⟨rfl, hb1⟩; have HB1 := Lib.hid hb1; have HP1 := Lib.hid (HA.out.on hb1); clear hb1)
          | (go_at_call 78; refine (put78 w1 p 264 P.now HP1.out.now m hm2).mono ?_; rintro e w2 ⟨rfl, hw2⟩
             obtain ⟨b2, g2, z2⟩ := HP1.out.now.putd hm2 hw2
             have K2 : Kg p 264 524 (fun _ => False) w1 w2 := by
               have k1 : Kg p 264 524 (fun _ => False) w1 (w1.setCell ⟨p, 264 + m / 8, none⟩ (.int .u8 (orb (P.now.tk.getD (m / 8) 0) (m % 8)).toNat)) := Kg.set w1 _ (by omega) (by omega)
               rw [hw2]
               exact ⟨⟨k1.kp.os, k1.kp.tape, k1.kp.output, k1.kp.size, k1.kp.block⟩, k1.out⟩
             have P2 := HP1.out.nowd b2 K2
             have HP2 := Lib.hid P2
             have HK2 := Lib.hid (K2.kp.mono (Y := Xp p ms mk ml tv) fun k hk => by rcases hk with hk | hk; exact .inl hk; exact hk.elim)
             have m2 := P2.mv
             have f2 := P2.fz 524 (.inl rfl)
             obtain ⟨P3, K3⟩ := P2.flag (i := 524) (x := true) (.inl rfl) rfl
             have HP3 := Lib.hid P3
             have HK3 := Lib.hid K3
             clear hw2 b2 g2 z2 K2 P2 P3 K3)
          | (go_at_call 79; refine (c79 _ HP3.out.po).mono ?_; rintro e w4 ⟨rfl, tv4, hP4, hK4, hv4⟩))
        go_ret2
        refine ⟨rfl, PR.next (Kp.bel HB1.out) (fun _ h => .inl h) (PR.next HK2.out (fun _ h => .inl h) (PR.next HK3.out (fun _ h => .inl h) ⟨tv4, ?_, kg_xp hK4, hv4⟩))⟩
        have := HP3.out.pool hP4 hK4
        simpa [hb] using this
def Pgr.set (P : Pgr) (n : Int) (b : List UInt8) : Int × Pgr :=
  if P.reach n ≠ 0 then (P.reach n, P) else if 448 < b.length then (3, P) else if P.po.st n.toNat = none ∧ (keysM P.po.st).length = P.po.room then (71, P)
  else (0, { P with po := P.po.stage n.toNat b })
theorem Pgr.reach_ok {P : Pgr} {n : Int} (h : P.reach n = 0) : P.br = false ∧ ∃ k : Nat, n = k ∧ 1 ≤ k ∧ k < P.pages ∧ P.now.has k = true := by
  unfold Pgr.reach at h
  cases hb : P.br with
  | true => rw [hb] at h; cases h
  | false =>
    rw [hb] at h
    simp only [Bool.false_eq_true, if_false] at h
    split at h
    · rename_i hc
      exact ⟨rfl, n.toNat, by omega, by omega, by omega, hc.2.2⟩
    · cases h
set_option maxHeartbeats 4000000 in
set_option maxRecDepth 100000 in
theorem set32 (w : World) (d l p ms mk ml base : Nat) (tv : Value) (P : Pgr) (h : PAt w d l p ms mk ml base tv P) (n : Int) (v : Value) (b : List UInt8) (hv : Bs w v b) (hvx : ∀ a k c, v = .slice (some a) k c → b ≠ [] → ¬ (a.block = p ∨ Xo ms mk tv a.block)) (hst : P.reach n = 0 → StOk P.po n.toNat) :
    Calls Tryz.prog 32 #[.pointer (some ⟨p, 0, none⟩), .int .i64 n, v] w fun e w' => e = .returned (.int .i64 (P.set n b).1) ∧ PR w d l p ms mk ml base tv (P.set n b).2 w' := by
  have c72 := reach72 w d l p ms mk ml base tv P h n
  have HA := Lib.hid h
  have HV := Lib.hid hv
  have hlb := hv.len
  obtain ⟨vp, vc, rfl, -⟩ := hv
  unfold Pgr.set
  by_cases hr : P.reach n = 0
  · rw [if_neg (fun e => e hr)]
    rw [hr] at c72
    obtain ⟨-, k, rfl, hk1, hk2, -⟩ := Pgr.reach_ok hr
    rw [Int.toNat_natCast] at *
    have hst' := hst hr
    have hpg := h.pg
    have hk2048 : k < 2048 := by omega
    by_cases hl : 448 < b.length
    · rw [if_pos hl]
      have hlz : (448 : Int) < (b.length : Int) := by omega
      clear h
      go_enter Tryz.func32, Tryz.ntmps32
      go_wp2_with (first | (go_at_call 72; refine c72.mono ?_; rintro e w' ⟨rfl, ew⟩; rw [ew]; clear ew w'))
      go_ret
      exact ⟨rfl, PR.same HA.out (Below.refl _ _)⟩
    · rw [if_neg hl]
      have hlz : ¬ ((448 : Int) < (b.length : Int)) := by omega
      have c83 := hasStaged83 w p 526 ms mk base tv P.po h.po k hk2048
      have c77 := fun (W : World) (hP : PoAt W p 526 ms mk base tv P.po) => isFull77 W p 526 ms mk base tv P.po hP
      have c79 := fun (W : World) (hP : PoAt W p 526 ms mk base tv P.po) (hb : Bs W (.slice vp b.length vc) b) => stage79 W p 526 ms mk base tv P.po hP k hk2048 _ b hb hvx (by omega) hst'.lv hst'.mkr
      clear h hst hst' hvx
      cases hs : P.po.st k with
      | none =>
        rw [hs] at c83
        by_cases hf : (keysM P.po.st).length = P.po.room
        · rw [if_pos ⟨rfl, hf⟩]
          rw [decide_eq_true hf] at c77
          go_enter Tryz.func32, Tryz.ntmps32
          go_wp2_with (first
            | (go_at_call 72; refine c72.mono ?_; rintro e w' ⟨rfl, ew⟩; rw [ew]; clear ew w')
            | (go_at_call 83; refine c83.mono ?_; rintro e w1 ⟨rfl, hb1⟩; have HB1 := Lib.hid hb1; have HP1 := Lib.hid (HA.out.on hb1); clear hb1)
            | (go_at_call 77; refine (c77 _ HP1.out.po).mono ?_; rintro e w2 ⟨rfl, hb2⟩))
          go_ret
          exact ⟨rfl, PR.same HA.out (bel_then HB1.out hb2)⟩
        · rw [if_neg (fun e => hf e.2)]
          rw [decide_eq_false hf] at c77
          go_enter Tryz.func32, Tryz.ntmps32
          go_wp2_with (first
            | (go_at_call 72; refine c72.mono ?_; rintro e w' ⟨rfl, ew⟩; rw [ew]; clear ew w')
            | (go_at_call 83; refine c83.mono ?_; rintro e w1 ⟨rfl, hb1⟩; have HB1 := Lib.hid hb1; have HP1 := Lib.hid (HA.out.on hb1); clear hb1)
            | (go_at_call 77; refine (c77 _ HP1.out.po).mono ?_; rintro e w2 ⟨rfl, hb2⟩; have HB2 := Lib.hid (bel_then HB1.out hb2); have HP2 := Lib.hid (HP1.out.on hb2); clear hb2)
            | (go_at_call 79; refine (c79 _ HP2.out.po (HV.out.on HB2.out)).mono ?_; rintro e w4 ⟨rfl, tv4, hP4, hK4, hv4⟩))
          go_ret
          exact ⟨rfl, PR.next (Kp.bel HB2.out) (fun _ h => .inl h) ⟨tv4, HP2.out.pool hP4 hK4, kg_xp hK4, hv4⟩⟩
      | some x =>
        rw [hs] at c83
        rw [if_neg (fun e => by cases e.1)]
        go_enter Tryz.func32, Tryz.ntmps32
        go_wp2_with (first
          | (go_at_call 72; refine c72.mono ?_; rintro e w' ⟨rfl, ew⟩; rw [ew]; clear ew w')
          | (go_at_call 83; refine c83.mono ?_; rintro e w1 ⟨rfl, hb1⟩; have HB1 := Lib.hid hb1; have HP1 := Lib.hid (HA.out.on hb1); clear hb1)
          | (go_at_call 79; refine (c79 _ HP1.out.po (HV.out.on HB1.out)).mono ?_; rintro e w4 ⟨rfl, tv4, hP4, hK4, hv4⟩))
        go_ret
        exact ⟨rfl, PR.next (Kp.bel HB1.out) (fun _ h => .inl h) ⟨tv4, HP1.out.pool hP4 hK4, kg_xp hK4, hv4⟩⟩
  · rw [if_pos hr]
    have hb : (P.reach n != 0) = true := by simpa using hr
    generalize P.reach n = q at *
    clear h
    go_enter Tryz.func32, Tryz.ntmps32
    go_wp2_with (first | (go_at_call 72; refine c72.mono ?_; rintro e w' ⟨rfl, ew⟩; rw [ew]; clear ew w'))
    go_ret
    exact ⟨rfl, PR.same HA.out (Below.refl _ _)⟩
def Pgr.setw (P : Pgr) (i n : Int) : Int × Pgr := if P.reachW i ≠ 0 then (P.reachW i, P) else if P.now.wd i.toNat = n then (0, P) else (0, { P with now := P.now.setW i.toNat n, rw := true })
set_option maxHeartbeats 2000000 in
theorem setWord33 (w : World) (d l p ms mk ml base : Nat) (tv : Value) (P : Pgr) (h : PAt w d l p ms mk ml base tv P) (i n : Int) (hn : I64 n) :
    Calls Tryz.prog 33 #[.pointer (some ⟨p, 0, none⟩), .int .i64 i, .int .i64 n] w fun e w' => e = .returned (.int .i64 (P.setw i n).1) ∧ PR w d l p ms mk ml base tv (P.setw i n).2 w' := by
  have c80 := reachWord80 w d l p ms mk ml base tv P h i
  have HA := Lib.hid h
  unfold Pgr.setw
  by_cases hr : P.reachW i = 0
  · rw [if_neg (fun e => e hr)]
    rw [hr] at c80
    have hi : 0 ≤ i ∧ i < 4 := by
      unfold Pgr.reachW at hr
      split at hr
      · cases hr
      · split at hr
        · assumption
        · cases hr
    obtain ⟨k, rfl⟩ : ∃ k : Nat, i = k := ⟨i.toNat, by omega⟩
    have hw := h.now.word (i := k) (by omega)
    have hk4 := hi.2
    have hk0 := hi.1
    rw [Int.toNat_natCast]
    by_cases he : P.now.wd k = n
    · rw [if_pos he]
      have heb : (P.now.wd k != n) = false := by simp [he]
      generalize P.now.wd k = x at *
      clear h hr hi
      go_enter Tryz.func33, Tryz.ntmps33
      go_wp2_with (first | (go_at_call 80; refine c80.mono ?_; rintro e w' ⟨rfl, ew⟩; rw [ew]; clear ew w'))
      go_ret
      exact ⟨rfl, PR.same HA.out (Below.refl _ _)⟩
    · rw [if_neg he]
      have heb : (P.now.wd k != n) = true := by simpa using he
      have hset := h.now.setWd (i := k) (by omega) hn
      have hfz := (h.now.th (256 + k) (by omega)).2
      rw [← Nat.add_assoc] at hfz
      have K2 : Kg p 264 524 (fun _ => False) w (w.setCell ⟨p, 264 + 256 + k, none⟩ (.int .i64 n)) := Kg.set w _ (by omega) (by omega)
      have P2 := h.nowd hset K2
      have m2 := P2.rw
      have f2 := P2.fz 525 (.inr (.inl rfl))
      obtain ⟨P3, K3⟩ := P2.flag (i := 525) (x := true) (.inr (.inl rfl)) rfl
      have HP3 := Lib.hid P3
      have HK3 := Lib.hid K3
      have HK2 := Lib.hid (K2.kp.mono (Y := Xp p ms mk ml tv) fun k hk => by rcases hk with hk | hk; exact .inl hk; exact hk.elim)
      simp only [Nat.reduceAdd] at hw hfz m2 f2 HP3 HK3 HK2
      generalize P.now.wd k = x at *
      clear h hr hi P2 P3 K2 K3 hset
      go_enter Tryz.func33, Tryz.ntmps33
      go_wp2_with (first | (go_at_call 80; refine c80.mono ?_; rintro e w' ⟨rfl, ew⟩; rw [ew]; clear ew w'))
      go_ret
      refine ⟨rfl, PR.next HK2.out (fun _ h => .inl h) ⟨tv, ?_, HK3.out, fun _ h => .inl h⟩⟩
      have := HP3.out
      exact this
  · rw [if_pos hr]
    have hb : (P.reachW i != 0) = true := by simpa using hr
    generalize P.reachW i = q at *
    clear h
    go_enter Tryz.func33, Tryz.ntmps33
    go_wp2_with (first | (go_at_call 80; refine c80.mono ?_; rintro e w' ⟨rfl, ew⟩; rw [ew]; clear ew w'))
    go_ret
    exact ⟨rfl, PR.same HA.out (Below.refl _ _)⟩
end Go.Proofs.YtfakgfmgofblgaaGreatDoor
namespace Go.Proofs.YtfakgfmgofblgaaGreatDoor
open Go.RowKit Go.Maps Go.ChangeMaps Go.MapKept Go.WideShapes Go.Sort Go.Shelf
set_option linter.unusedVariables false      -- a walk need not use every condition
attribute [local go_sem ↓] Go.wp_at_zero Go.wp_at_succ

/-- The map of what is logged has turned. -/
theorem PAt.lgs {w w' : World} {d l p ms mk ml base : Nat} {tv : Value} {P : Pgr} {m : Nat → Option Spot} (h : PAt w d l p ms mk ml base tv P) (hk : Kp (fun k => k = ml) w w') (hm : MapAt spA w' ml m) : PAt w' d l p ms mk ml base tv { P with lg := m } := by
  have l' := h.po.lt
  have hne := h.pne
  have hml := h.ml
  have hp := hk.block p (by omega) hne.2.2.1
  have hc := fun i => World.cell?_of_block (w := w) (a := ⟨p, i, none⟩) hp
  have hf := fun i => World.frozen?_of_block (w := w) (a := ⟨p, i, none⟩) hp
  exact { h with h0 := (hc _).trans h.h0, h1 := (hc _).trans h.h1, h2 := (hc _).trans h.h2, h3 := (hc _).trans h.h3, was := h.was.blk hp, now := h.now.blk hp, mv := (hc _).trans h.mv, rw := (hc _).trans h.rw, po := h.po.kp2 hk (fun i _ _ => ⟨hc i, hf i⟩) (fun k hk' e => by
      subst e
      rcases hk' with e | e | e
      · exact hml.2.1 e
      · exact hml.2.2 e
      · have := h.po.tvb e; omega), lc := (hc _).trans h.lc, lg := hm, br := (hc _).trans h.br, fz := fun i hi => (hf i).trans (h.fz i hi) }
def zSp : Spot := ⟨0, 0, 0, 0⟩
/-- The first i pages have their spots. -/
def lgI (lg : Nat → Option Spot) (pgs : List Nat) (spl : List Spot) (i : Nat) : Nat → Option Spot := (List.range i).foldl (fun m j => upd m (pgs.getD j 0) (some (spl.getD j zSp))) lg
theorem lgI_succ (lg : Nat → Option Spot) (pgs : List Nat) (spl : List Spot) (i : Nat) : lgI lg pgs spl (i + 1) = upd (lgI lg pgs spl i) (pgs.getD i 0) (some (spl.getD i zSp)) := by
  unfold lgI
  rw [List.range_succ, List.foldl_append]
  rfl
/-- What has gone of a map that is gone over: what is not wanted, and does not come any more. -/
def lgW (b : Ba) (lg : Nat → Option Spot) (left : Lit → Bool) : Nat → Option Spot := fun k => if b.has k || left (.int .i64 k) then lg k else none
def lgK (b : Ba) (lg : Nat → Option Spot) : Nat → Option Spot := fun k => if b.has k then lg k else none
theorem lgW_all {b : Ba} {lg : Nat → Option Spot} {D : DataW (Array Value)} (h : TieM spA D lg) : lgW b lg (Maps.has D) = lg := by
  funext k
  unfold lgW
  cases e : lg k with
  | none => split <;> rfl
  | some x => rw [if_pos (by rw [h.has k x e, Bool.or_true])]
theorem lgW_none {b : Ba} {lg : Nat → Option Spot} {left : Lit → Bool} (h : ∀ kl, left kl = false) : lgW b lg left = lgK b lg := by
  funext k
  unfold lgW lgK
  rw [h, Bool.or_false]
theorem lgW_has {b : Ba} {lg : Nat → Option Spot} {left : Lit → Bool} {k : Nat} (h : b.has k = true) : lgW b lg (fun z => left z && !z.sameKey (.int .i64 k)) = lgW b lg left := by
  funext j
  unfold lgW
  by_cases e : j = k
  · subst e; simp [h]
  · have e2 : Lit.sameKey (.int .i64 (j : Int)) (.int .i64 (k : Int)) = false := by simp [Lit.sameKey]; omega
    simp [e2]
theorem lgW_del {b : Ba} {lg : Nat → Option Spot} {left : Lit → Bool} {k : Nat} (h : b.has k = false) : lgW b lg (fun z => left z && !z.sameKey (.int .i64 k)) = upd (lgW b lg left) k none := by
  funext j
  by_cases e : j = k
  · subst e
    rw [upd_same]
    simp [lgW, h, Lit.sameKey]
  · have e2 : Lit.sameKey (.int .i64 (j : Int)) (.int .i64 (k : Int)) = false := by simp [Lit.sameKey]; omega
    rw [upd_other _ _ e]
    simp [lgW, e2]
def Pgr.setl (P : Pgr) (pgs : List Nat) (spl : List Spot) : Pgr := { P with lg := lgK P.now (lgI P.lg pgs spl pgs.length), was := P.now, mv := false, rw := false, po := P.po.settle }
end Go.Proofs.YtfakgfmgofblgaaGreatDoor
namespace Go.Proofs.YtfakgfmgofblgaaGreatDoor
open Go.RowKit Go.Maps Go.ChangeMaps Go.MapKept Go.WideShapes Go.Sort Go.Shelf
set_option linter.unusedVariables false      -- a walk need not use every condition
attribute [local go_sem ↓] Go.wp_at_zero Go.wp_at_succ

theorem spR_get : ∀ (L : List Spot) (i : Nat) (hi : i < L.length) (j : Nat) (v : Value), (spC L[i])[j]? = some v → (spR L)[i * 4 + j]? = some v
  | [], i, hi, _, _, _ => absurd hi (Nat.not_lt_zero _)
  | x :: r, 0, _, j, v, h => by
    have hj : j < (spC x).length := (List.getElem?_eq_some_iff.1 h).1
    rw [show spR (x :: r) = spC x ++ spR r by simp [spR], List.getElem?_append_left (by omega)]
    simpa using h
  | x :: r, i + 1, hi, j, v, h => by
    have ih := spR_get r i (by simpa using hi) j v (by simpa using h)
    have hl : (spC x).length = 4 := rfl
    rw [show spR (x :: r) = spC x ++ spR r by simp [spR], List.getElem?_append_right (by omega), hl, show (i + 1) * 4 + j - 4 = i * 4 + j by omega, ih]
theorem rowS_at {w : World} {base : Nat} {v : Value} {L : List Spot} (h : w.ownsRow base 112 4 v L.length (spR L)) : ∃ p cap, v = .slice p L.length cap ∧ (L = [] ∨ ∃ g, p = some ⟨g, 0, none⟩ ∧ base ≤ g ∧ g < w.heap.size ∧ ∀ i (hi : i < L.length) j v, (spC L[i])[j]? = some v → w.cell? ⟨g, i * 4 + j, none⟩ = some v) := by
  obtain ⟨-, h⟩ := h
  rcases h with ⟨rfl, h0⟩ | ⟨g, cap, cur, rfl, hb, hg, hn, hm, hs, ht⟩
  · have := List.eq_nil_of_length_eq_zero h0
    subst this
    exact ⟨none, 0, rfl, .inl rfl⟩
  · refine ⟨_, cap, rfl, .inr ⟨g, rfl, hb, (Array.getElem?_eq_some_iff.1 hg).1, fun i hi j v hv => ?_⟩⟩
    have hj : j < 4 := by have := (List.getElem?_eq_some_iff.1 hv).1; simpa [spC] using this
    have h1 := spR_get L i hi j v hv
    rw [← ht, List.getElem?_take_of_lt (by omega)] at h1
    simpa [World.cell?, hg] using h1
/-- A row stays where a map has turned. -/
theorem own_map {α : Type} {f : α → Array Value} {w w' : World} {base mb : Nat} {e : TypeId} {s n : Nat} {v : Value} {xs : List Value} {m : Nat → Option α} (h : w.ownsRow base e s v n xs) (hm : MapAt f w mb m) (hk : Kp (fun k => k = mb) w w') : w'.ownsRow base e s v n xs := by
  refine ⟨h.1, ?_⟩
  rcases h.2 with h2 | ⟨g, cap, cur, e1, hb, hg, r⟩
  · exact .inl h2
  · refine .inr ⟨g, cap, cur, e1, hb, (hk.block g (Array.getElem?_eq_some_iff.1 hg).1 (fun e2 => ?_)).trans hg, r⟩
    subst e2
    obtain ⟨n, D, ⟨es, ck, hmb, -⟩, -⟩ := hm
    rw [hg] at hmb
    cases hmb
theorem Kg.sets {g lo hi : Nat} {X : Nat → Prop} : ∀ (cs : List Value) (o : Nat) (w : World), lo ≤ o → o + cs.length ≤ hi → Kg g lo hi X w (w.setCells g o cs)
  | [], _, w, _, _ => Kg.refl _ _ _ _ _
  | v :: vs, o, w, h1, h2 => by
    have h2' : o + (vs.length + 1) ≤ hi := h2
    exact (Kg.set w (i := o) v h1 (by omega)).trans (Kg.sets vs (o + 1) _ (by omega) (by omega)) (fun k hk => .inl hk)
/-- The base that was has turned. -/
theorem PAt.wasd {w w' : World} {d l p ms mk ml base : Nat} {tv : Value} {P : Pgr} {b : Ba} (h : PAt w d l p ms mk ml base tv P) (hb : BaAt w' p 4 b) (hK : Kg p 4 264 (fun _ => False) w w') : PAt w' d l p ms mk ml base tv { P with was := b } := by
  have ho := fun i (hi : i < 4 ∨ 264 ≤ i) => hK.out i hi
  have hml := h.ml
  have hne := h.pne
  have l' := h.po.lt
  exact { h with h0 := (ho _ (by omega)).1.trans h.h0, h1 := (ho _ (by omega)).1.trans h.h1, h2 := (ho _ (by omega)).1.trans h.h2, h3 := (ho _ (by omega)).1.trans h.h3, was := hb, now := h.now.outG hK (by omega), mv := (ho _ (by omega)).1.trans h.mv, rw := (ho _ (by omega)).1.trans h.rw, po := h.po.kp2 hK.kp (fun i h1 h2 => ho i (by omega)) (fun k hk hx => by
      rcases hx with hx | hx
      · rcases hk with e | e | e
        · exact hne.1 (hx.symm.trans e)
        · exact hne.2.1 (hx.symm.trans e)
        · have := h.po.tvb e; omega
      · exact hx), lc := (ho _ (by omega)).1.trans h.lc, lg := h.lg.blk (hK.kp.block ml (by omega) (fun hx => by
      rcases hx with hx | hx
      · exact hne.2.2.1 hx.symm
      · exact hx)), br := (ho _ (by omega)).1.trans h.br, fz := fun i hi => (ho i (by omega)).2.trans (h.fz i hi) }
set_option maxHeartbeats 8000000 in
set_option maxRecDepth 100000 in
theorem settle89 (w : World) (d l p ms mk ml base b3 b4 : Nat) (tv : Value) (P : Pgr) (h : PAt w d l p ms mk ml base tv P) (pv sv : Value) (pgs : List Nat) (spl : List Spot)
    (hp : w.ownsRow b3 3 1 pv pgs.length (nums pgs)) (hs : w.ownsRow b4 112 4 sv spl.length (spR spl)) (hl : spl.length = pgs.length) (hpl : pgs.length ≤ 4096) (hpg : ∀ x, x ∈ pgs → x < 2048) (htl : P.po.tn.length + (keysM P.po.st).length ≤ 2048) :
    Calls Tryz.prog 89 #[.pointer (some ⟨p, 0, none⟩), pv, sv] w fun e w' => e = .returned (.tuple #[]) ∧ PR w d l p ms mk ml base tv (P.setl pgs spl) w' := by
  have HA := Lib.hid h
  have HR1 := Lib.hid hp
  have HR2 := Lib.hid hs
  have hlt := h.po.lt
  have hml := h.ml
  have HPG := Lib.hid hpg
  have HTL := Lib.hid htl
  have HL := Lib.hid hl
  obtain ⟨pp, pc, rfl, -⟩ := row_at hp
  obtain ⟨sp, sc, rfl, -⟩ := rowS_at hs
  clear h hp hs hpg htl hl
  go_enter Tryz.func89, Tryz.ntmps89
  go_wp2
  go_loopg [11] pgs.length (fun gk s11 wr => ∃ i : Nat, i + gk = pgs.length ∧ s11 = .int .i64 i ∧ Hid (PAt wr d l p ms mk ml base tv { P with lg := lgI P.lg pgs spl i }) ∧ Hid (Kp (fun k => k = ml) w wr) ∧ Hid (wr.ownsRow b3 3 1 (.slice pp pgs.length pc) pgs.length (nums pgs)) ∧ Hid (wr.ownsRow b4 112 4 (.slice sp spl.length sc) spl.length (spR spl)))
  case atStart => exact ⟨0, by omega, rfl, HA.out, Kp.refl _ _, HR1.out, HR2.out⟩
  case round =>
    obtain ⟨i, hgi, rfl, hA, hK, hR1, hR2⟩ := hrel
    cases gk with
    | zero =>
      obtain rfl : i = pgs.length := by omega
      clear hR1 hR2 HR1 HR2 HPG
      obtain ⟨lg1, hlg⟩ : ∃ m, lgI P.lg pgs spl pgs.length = m := ⟨_, rfl⟩
      rw [hlg] at hA
      have HLG := Lib.hid hlg
      obtain ⟨n, D, ho, ht⟩ := hA.out.lg
      have ht' : TieM spA D lg1 := ht
      have c8 : wr.cell? ⟨p, 530, none⟩ = some (.map (some ml)) := hA.out.lc
      have lts := hA.out.po.lt
      have HA0 := Lib.hid hA.out
      have HK0 := Lib.hid hK.out
      clear hA hK ht hlg
      generalize wr = wA at *
      go_wp2_with (first
        | (at_range; refine wpList_range_own _ rfl _ 67 rfl 3 112 keyed3 Tryz.underlying67 _ ml n D rfl ho ?_; intro w0 hrg0 hg0 hs0))
      go_frame
      go_loopw [8] (fun _ wq => ∃ (D' : DataW (Array Value)) (left : Lit → Bool) (cnt : Nat), wq.ranges Tryz.prog 3 secR ml wA.heap.size n D' left cnt ∧ Hid (TieM spA D' (lgW P.now lg1 left)) ∧ Hid (PAt wq d l p ms mk ml base tv { P with lg := lgW P.now lg1 left }) ∧ Hid (Kp (fun k => k = ml) w wq) ∧ Hid (wA.heap.size ≤ wq.heap.size))
        (fun _ wq => wq.rangeLeft ml wA.heap.size)
      case atStart =>
        refine ⟨_, _, _, hrg0, ?_, ?_, ?_, ?_⟩
        · show TieM _ _ _
          rw [lgW_all ht']; exact ht'
        · show PAt _ _ _ _ _ _ _ _ _ _
          rw [lgW_all ht']
          exact HA0.out.on (bel_row hg0)
        · exact HK0.out.trans (Kp.bel (bel_row hg0))
        · exact hg0.size
      case round =>
        obtain ⟨D', left, cnt, hrg, hT, hP, hK, hz⟩ := hrel
        go_wp2_with (first
          | (at_next; refine wpList_next_ranges _ rfl _ rfl 3 keyed3 secR (Value.int .i64) Value.agg (fun key kl hk => by obtain ⟨x, rfl, _⟩ := Maps.keyOf_int_inv Tryz.underlying3 hk; exact ⟨x, rfl⟩) secR_inv ml wA.heap.size n D' left cnt rfl hrg ?_ ?_))
        · intro hc0 hl0
          have hP1 := hP.out
          rw [lgW_none hl0] at hP1
          have HP1 := Lib.hid hP1
          have hok := hP1.now.ok
          have hrN := hP1.now.lie.rg
          have hi := hi63 hok
          have hiA : (Tryz.prog.info? 63).map (·.size) = some P.now.cells.toArray.size := by rw [List.size_toArray]; exact hi
          have h1A : P.now.cells.toArray.all (·.oneCell') = true := by rw [List.all_toArray]; exact List.all_eq_true.2 (Ba.one _)
          have T1 : wr.there p 4 P.now.cells.toArray.size := by
            have h9 := hP1.was.lie.th
            rw [Ba.len hP1.was.ok] at h9
            rw [List.size_toArray, Ba.len hok]
            exact h9
          obtain ⟨w6, hw6⟩ : ∃ u, wr.setCells p 4 P.now.cells = u := ⟨_, rfl⟩
          have K6 : Kg p 4 264 (fun _ => False) wr w6 := by rw [← hw6]; exact Kg.sets _ _ _ (Nat.le_refl _) (by rw [Ba.len hok]; omega)
          have B6 : BaAt w6 p 4 P.now := by
            have ht : wr.there p 4 P.now.cells.length := by rw [← List.size_toArray]; exact T1
            rw [← hw6]
            exact (Lie.mk (World.rangeAt_setCells_same wr p 4 _ ht) (World.there_setCells ht _ _ _)).ba hok
          have P6 := hP1.wasd B6 K6
          have m6 := P6.mv
          have f6 := P6.fz 524 (.inl rfl)
          obtain ⟨P7, K7⟩ := P6.flag (i := 524) (x := false) (.inl rfl) rfl
          have m7 := P7.rw
          have f7 := P7.fz 525 (.inr (.inl rfl))
          obtain ⟨P8, K8⟩ := P7.flag (i := 525) (x := false) (.inr (.inl rfl)) rfl
          have c135 := settle135 _ p 526 ms mk base tv P.po P8.po HTL.out
          have HP8 := Lib.hid P8
          have HK6 : Hid (Kp (Xp p ms mk ml tv) wr w6) := K6.kp.mono fun k hk => by rcases hk with hk | hk; exact .inl hk; exact hk.elim
          have HK7 := Lib.hid K7
          have HK8 := Lib.hid K8
          simp only [Nat.reduceEqDiff, if_false] at m7
          have HOK := Lib.hid hok
          clear hrg hT hP hP1 hl0 hrg0 hg0 hs0 ht' ho K6 B6 P6 P7 P8 K7 K8 hok c8 HA0
          generalize hcs : P.now.cells = CS at *
          clear hcs
          go_wp2_with (first
            | (with_reducible show wpList _ _ _ (Oper.mk _ (Op.load 63 (Operand.tmp 49)) _ _ _ _ :: _) _ _
               refine wpList_load_mid rfl 63 _ rfl _ _ rfl _ _ hrN Tryz.underlying63 rfl hi ?_)
            | (with_reducible show wpList _ _ _ (Oper.mk _ (Op.store 63 (Operand.tmp 52) _) _ _ _ _ :: _) _ _
               refine wpList_store_mid rfl 63 _ _ rfl p 4 CS.toArray rfl rfl T1 hiA h1A ?_
               rw [show CS.toArray.toList = CS from rfl, hw6])
            | (go_at_call 135; refine c135.mono ?_; rintro e w9 ⟨rfl, tv9, hP9, hK9, hv9⟩))
          go_end0
          refine ⟨rfl, PR.next (hK.out.mono fun k hk => .inr (.inr (.inr (.inl hk)))) (fun _ h => .inl h) (PR.next HK6.out (fun _ h => .inl h) (PR.next HK7.out (fun _ h => .inl h) (PR.next HK8.out (fun _ h => .inl h) ⟨tv9, ?_, kg_xp hK9, hv9⟩)))⟩
          have h9 := HP8.out.pool hP9 hK9
          unfold Pgr.setl
          rw [HLG.out]
          exact h9
        · intro x c kl yd yp w2 cnt2 hkey hlk hv hat hrg2 hlt hg2 hs2 hen
          obtain ⟨x', ex, rfl, hwx⟩ := Maps.keyOf_int_inv Tryz.underlying3 hkey
          obtain rfl : x = x' := by injection ex
          obtain ⟨k, rfl, hi⟩ := hT.out.back x (has_true_of_atKey hat)
          obtain ⟨s0, hs0'⟩ := Option.isSome_iff_exists.1 hi
          have hk := hT.out.lt k s0 hs0'
          have hA2 : PAt w2 d l p ms mk ml base tv { P with lg := lgW P.now lg1 left } := hP.out.kp (X := fun j => j = wA.heap.size) ⟨hg2.os, hg2.tape, hg2.output, hg2.size, fun j hj hx => hg2.block j hj (fun e => hx (by cases e; rfl))⟩ (fun j hj e => by
            subst e
            rcases hj with e | e | e | e | e
            · omega
            · omega
            · omega
            · omega
            · have := HA0.out.po.tvb e; omega)
          have K2 : Kp (fun k => k = ml) w w2 := hK.out.trans2 (Y := fun j => j = wA.heap.size) ⟨hg2.os, hg2.tape, hg2.output, hg2.size, fun j hj hx => hg2.block j hj (fun e => hx (by cases e; rfl))⟩ (fun j e => .inr (by have := HK0.out.size; omega))
          have cH := has111 w2 p 264 P.now hA2.now k hk
          have c82 : w2.cell? ⟨p, 530, none⟩ = some (.map (some ml)) := hA2.lc
          have HT := Lib.hid hT.out
          have HA2 := Lib.hid hA2
          have HK2 := Lib.hid K2
          have HZ2 : Hid (wA.heap.size ≤ w2.heap.size) := Nat.le_trans hz.out hg2.size
          clear hA2 K2 hT hP hK hg2 hs2 hat hv hi hs0' ho ht' c8 hrg0 hg0 hs0 HA
          cases hh : P.now.has k with
          | true =>
            rw [hh] at cH
            go_wp2_with (first | (go_at_call 111; refine cH.mono ?_; rintro e w' ⟨rfl, ew⟩; rw [ew]; clear ew w'))
            go_roundw
            case rel =>
              refine ⟨D', _, cnt2, hrg2, ?_, ?_, HK2.out, HZ2.out⟩
              · show TieM _ _ _
                rw [lgW_has hh]; exact HT.out
              · show PAt _ _ _ _ _ _ _ _ _ _
                rw [lgW_has hh]; exact HA2.out
            case measure => rw [hrg2.left_eq, hrg.left_eq]; omega
          | false =>
            rw [hh] at cH
            go_wp2_with (first
              | (go_at_call 111; refine cH.mono ?_; rintro e w' ⟨rfl, ew⟩; rw [ew]; clear ew w')
              | (at_delete; refine wpList_delete_ranges _ rfl _ _ 67 3 rfl 112 keyed3 Tryz.underlying67 _ ml wA.heap.size n _ _ _ rfl hrg2 _ _ rfl hkey ?_; intro w3 cnt3 hrg3 hle hturn
                 rw [strike_twice] at hrg3))
            have hg3 := hturn.grown
            have K3 : Kp (fun k => k = ml) w2 w3 := ⟨hg3.os, hg3.tape, hg3.output, hg3.size, fun k hk hx => hg3.block k hk (fun e => hx (by cases e; rfl))⟩
            have hT3 := HT.out.del k
            have A3 := HA2.out.lgs K3 (m := upd (lgW P.now lg1 left) k none) ⟨n, _, hrg3.owns, hT3⟩
            have HT3 := Lib.hid hT3
            have HA3 := Lib.hid A3
            have HK3 := Lib.hid (HK2.out.trans K3)
            have HZ3 : Hid (wA.heap.size ≤ w3.heap.size) := Nat.le_trans HZ2.out hg3.size
            clear K3 A3 hT3 hturn hg3
            go_frame
            go_roundw
            case rel =>
              refine ⟨_, _, cnt3, hrg3, ?_, ?_, HK3.out, HZ3.out⟩
              · show TieM _ _ _
                rw [lgW_del hh]; exact HT3.out
              · show PAt _ _ _ _ _ _ _ _ _ _
                rw [lgW_del hh]; exact HA3.out
            case measure => rw [hrg3.left_eq, hrg.left_eq]; omega
    | succ k =>
      have hi : i < pgs.length := by omega
      have hi2 : i < spl.length := by have := HL.out; omega
      have hiz : (i : Int) < (pgs.length : Int) := by omega
      have hiz2 : (i : Int) < (spl.length : Int) := by omega
      have hi0 : (0 : Int) ≤ (i : Int) := by omega
      obtain ⟨lq', lcap', elq, hLc⟩ := row_at hR1.out
      injection elq with e1 e2 e3
      subst e1 e3
      obtain ⟨rb, rfl, hrb1, hrb2, hrc⟩ := hLc.resolve_left (fun e => by rw [e] at hi; cases hi)
      obtain ⟨lq2, lcap2, elq2, hLc2⟩ := rowS_at hR2.out
      injection elq2 with f1 f2 f3
      subst f1 f3
      obtain ⟨rs, rfl, hrs1, hrs2, hrc2⟩ := hLc2.resolve_left (fun e => by rw [e] at hi2; cases hi2)
      obtain ⟨pg, hpg⟩ : ∃ pg, pgs[i] = pg := ⟨_, rfl⟩
      obtain ⟨x, hx⟩ : ∃ x, spl[i] = x := ⟨_, rfl⟩
      have hpk : pg < 2048 := HPG.out _ (by rw [← hpg]; exact List.getElem_mem hi)
      have hcel : wr.cell? ⟨rb, i, none⟩ = some (.int .i64 (pg : Int)) := by have h1 := hrc i hi; rwa [hpg] at h1

      have d0 : wr.drew.cell? ⟨rs, i * 4, none⟩ = some (.int .i64 x.slot) := hrc2 i hi2 0 _ (by rw [hx]; rfl)
      have d1 : wr.drew.cell? ⟨rs, i * 4 + 1, none⟩ = some (.int .i64 x.frames) := hrc2 i hi2 1 _ (by rw [hx]; rfl)
      have d2 : wr.drew.cell? ⟨rs, i * 4 + 2, none⟩ = some (.int .i64 x.at_) := hrc2 i hi2 2 _ (by rw [hx]; rfl)
      have d3 : wr.drew.cell? ⟨rs, i * 4 + 3, none⟩ = some (.int .i64 x.len) := hrc2 i hi2 3 _ (by rw [hx]; rfl)
      have dl : wr.drew.cell? ⟨p, 530, none⟩ = some (.map (some ml)) := hA.out.lc
      have Ad := hA.out.on ((Below.refl wr.heap.size wr).drew)
      obtain ⟨w4, hst, hm4, hg4, hz4⟩ := Ad.lg.store Tryz.underlying67 hpk x
      have hst' : (Instr.mapUpdate 67 (.map (some ml)) (.int .i64 (pg : Int)) (.agg #[.int .i64 x.slot, .int .i64 x.frames, .int .i64 x.at_, .int .i64 x.len])).run Tryz.prog wr.drew = .ok () w4 := hst
      have K4 : Kp (fun k => k = ml) wr.drew w4 := ⟨hg4.os, hg4.tape, hg4.output, hg4.size, fun k hk hx => hg4.block k hk (fun e => by injection e with e; exact hx e)⟩
      have hsu := lgI_succ P.lg pgs spl i
      rw [show pgs.getD i 0 = pg by simp [List.getD, List.getElem?_eq_getElem hi, hpg], show spl.getD i zSp = x by simp [List.getD, List.getElem?_eq_getElem hi2, hx]] at hsu
      have A4 := Ad.lgs K4 hm4
      have HA4 : Hid (PAt w4 d l p ms mk ml base tv { P with lg := lgI P.lg pgs spl (i + 1) }) := by show PAt _ _ _ _ _ _ _ _ _ _; rw [hsu]; exact A4
      have K0 : Kp (fun k => k = ml) wr w4 := (Kp.bel ((Below.refl wr.heap.size wr).drew)).trans K4
      have HK4 : Hid (Kp (fun k => k = ml) w w4) := hK.out.trans K0
      have HR14 : Hid (w4.ownsRow b3 3 1 (.slice (some ⟨rb, 0, none⟩) pgs.length pc) pgs.length (nums pgs)) := own_map hR1.out hA.out.lg K0
      have HR24 : Hid (w4.ownsRow b4 112 4 (.slice (some ⟨rs, 0, none⟩) spl.length sc) spl.length (spR spl)) := own_map hR2.out hA.out.lg K0
      clear Ad A4 K0 K4 hm4 hg4 hz4 hA hK hR1 hR2 HR1 HR2 hsu e2 f2 hLc hLc2 hrc hrc2 hrb1 hrs1
      go_wp2
      go_region
      all_goals go_wp2
      all_goals go_roundg k
      case measure => omega
      case rel => exact ⟨i + 1, by omega, by first | rfl | simp, HA4, HK4, HR14, HR24⟩
end Go.Proofs.YtfakgfmgofblgaaGreatDoor
namespace Go.Proofs.YtfakgfmgofblgaaGreatDoor
open Go.RowKit Go.Maps
set_option linter.unusedVariables false      -- a walk need not use every condition
attribute [local go_sem ↓] Go.wp_at_zero Go.wp_at_succ

def Pgr.noted (P : Pgr) (e : Int) : Pgr := if e = 9 then { P with br := true } else P
theorem noted69 (w : World) (d l p ms mk ml base : Nat) (tv : Value) (P : Pgr) (h : PAt w d l p ms mk ml base tv P) (e : Int) :
    Calls Tryz.prog 69 #[.pointer (some ⟨p, 0, none⟩), .int .i64 e] w fun r w' => r = .returned (.int .i64 e) ∧ PR w d l p ms mk ml base tv (P.noted e) w' := by
  unfold Pgr.noted
  by_cases h9 : e = 9
  · subst h9
    rw [if_pos rfl]
    have m := h.br
    have f := h.fz 531 (.inr (.inr rfl))
    obtain ⟨P3, K3⟩ := h.flag (i := 531) (x := true) (.inr (.inr rfl)) rfl
    have HP3 := Lib.hid P3
    have HK3 := Lib.hid K3
    clear h P3 K3
    go_enter Tryz.func69, Tryz.ntmps69
    go_wp2
    go_ret
    exact ⟨rfl, tv, HP3.out, HK3.out, fun _ h => .inl h⟩
  · rw [if_neg h9]
    have hb : (e == 9) = false := by simpa using h9
    have HP := Lib.hid h
    clear h
    go_enter Tryz.func69, Tryz.ntmps69
    go_wp2
    go_ret
    exact ⟨rfl, PR.same HP.out (Below.refl _ _)⟩
set_option maxHeartbeats 1000000 in
theorem isStagedM84 (w : World) (d l p ms mk ml base : Nat) (tv : Value) (P : Pgr) (h : PAt w d l p ms mk ml base tv P) (hm : P.mv = true) :
    Calls Tryz.prog 84 #[.pointer (some ⟨p, 0, none⟩)] w fun r w' => r = .returned (.bool true) ∧ Below w.heap.size w w' := by
  have m := h.mv
  rw [hm] at m
  have md : w.drew.cell? ⟨p, 524, none⟩ = some (.bool true) := m
  clear h hm
  go_enter Tryz.func84, Tryz.ntmps84
  go_wp2
  go_quiet (fail)
  go_wp2
  go_ret
  exact ⟨rfl, bel_dn _ _⟩
end Go.Proofs.YtfakgfmgofblgaaGreatDoor
namespace Go.Proofs.YtfakgfmgofblgaaGreatDoor
open Go.RowKit Go.Maps Go.Sort Go.Shelf
set_option linter.unusedVariables false      -- a walk need not use every condition
attribute [local go_sem ↓] Go.wp_at_zero Go.wp_at_succ

/-- The pages of a commit, each with what it has. -/
def Pgr.stZ (P : Pgr) : List (Nat × List UInt8) := (if P.mv || P.rw then [(0, P.now.bytes P.pages)] else []) ++ (keysM P.po.st).map fun k => (k, (P.po.st k).getD [])
theorem Pgr.stPg_eq (P : Pgr) : P.stPg = P.stZ.map (·.1) := by
  obtain ⟨K, hK⟩ : ∃ K, keysM P.po.st = K := ⟨_, rfl⟩
  unfold Pgr.stPg Pgr.stZ Pgr.hPg
  rw [hK]
  cases (P.mv || P.rw) <;> simp [Function.comp_def]
theorem Pgr.stRs_eq (P : Pgr) : P.stRs = P.stZ.map fun z => recB z.1 z.2 := by
  obtain ⟨K, hK⟩ : ∃ K, keysM P.po.st = K := ⟨_, rfl⟩
  unfold Pgr.stRs Pgr.stZ Pgr.hRs
  rw [hK]
  cases (P.mv || P.rw) <;> simp [Function.comp_def, Pgr.sRec]
theorem Pgr.st_len (P : Pgr) : P.stRs.length = P.stPg.length := by rw [P.stPg_eq, P.stRs_eq]; simp
theorem Pgr.st_le (P : Pgr) : P.stPg.length ≤ 2049 := by
  have := keysM_len P.po.st
  unfold Pgr.stPg Pgr.hPg
  rw [List.length_append]
  split <;> simp <;> omega
theorem Pgr.st_lt (P : Pgr) : ∀ x, x ∈ P.stPg → x < 2048 := by
  intro x hx
  unfold Pgr.stPg Pgr.hPg at hx
  rcases List.mem_append.1 hx with h | h
  · split at h
    · simp at h; omega
    · cases h
  · exact (mem_keysM.1 h).1
theorem Pgr.st_rec (P : Pgr) (i : Nat) (hi : i < P.stRs.length) : (vnt (P.stPg.getD i 0)).length ≤ (P.stRs.getD i []).length := by
  have hz : i < P.stZ.length := by rw [P.stRs_eq] at hi; simpa using hi
  rw [P.stPg_eq, P.stRs_eq]
  simp only [List.getD, List.getElem?_map, List.getElem?_eq_getElem hz, Option.map_some, Option.getD_some]
  unfold recB
  rw [List.length_append]
  omega
theorem LAt.kpx {X : Nat → Prop} {w w' : World} {d pb mb l : Nat} {L : Lg} (h : LAt w d pb mb l L) (hk : Kp X w w') (hl : ¬ X l) (hn : ∀ nv, w.cell? ⟨l, 3, none⟩ = some nv → L.note ≠ [] → ∀ a n c, nv = .slice (some a) n c → ¬ X a.block) : LAt w' d pb mb l L := by
  obtain ⟨nv, h1, h2, h3⟩ := h.blk
  have hc : w.cell? ⟨l, 3, none⟩ = some nv := by simp [World.cell?, h1]
  have h4 : BsX X w nv L.note := ⟨h2, hn nv hc⟩
  exact { h with blk := ⟨nv, (hk.block _ h.lt hl).trans h1, (h4.kp hk).1, h3⟩ }
/-- What Commit comes to: X, what the log's Append comes to. -/
def CmtR (w : World) (d l p ms mk ml base pb mb : Nat) (tv : Value) (P : Pgr) (X : Int × Lg × Dsk) (L : Lg) (e : Ending) (w' : World) : Prop :=
  e = .returned (.int .i64 0) ∧ At w' d pb mb X.2.2 ∧ ((∀ nv, w.cell? ⟨l, 3, none⟩ = some nv → L.note ≠ [] → ∀ a n c, nv = .slice (some a) n c → ¬ Xp p ms mk ml tv a.block) → X.2.1.note = L.note → LAt w' d pb mb l X.2.1) ∧ TabOk w' ∧ (∃ tv', PAt w' d l p ms mk ml base tv' (P.setl P.stPg (spLs L.used (pn (cby P.stRs)) P.stRs P.stPg)) ∧ ∀ k, tv'.ownBlock = some k → tv.ownBlock = some k ∨ w.heap.size ≤ k) ∧ Kp (fun k => Xp p ms mk ml tv k ∨ X4 d pb mb l k) w w'
set_option maxHeartbeats 8000000 in
set_option maxRecDepth 100000 in
theorem commit34 (w : World) (d l p ms mk ml base pb mb : Nat) (tv : Value) (P : Pgr) (s : Dsk) (L : Lg) (h : At w d pb mb s) (hL : LAt w d pb mb l L) (hT : TabOk w) (hP : PAt w d l p ms mk ml base tv P)
    (hsep : ∀ k, Xp p ms mk ml tv k → ¬ X4 d pb mb l k ∧ k ≠ 0 ∧ k < w.heap.size)
    (hm : P.mv = true) (hbr : P.br = false) (hbn : (P.now.bytes P.pages).length ≤ 448) (hroom : L.used + pn (cby P.stRs) ≤ L.slots) (hlen : (cby P.stRs).length ≤ 4398046511104) (htl : P.po.tn.length + (keysM P.po.st).length ≤ 2048) (hok : (apd s L P.stRs).1 = 0) :
    Calls Tryz.prog 34 #[.pointer (some ⟨p, 0, none⟩)] w (CmtR w d l p ms mk ml base pb mb tv P (apd s L P.stRs) L) := by
  have c63 := ready63 w d l p ms mk ml base tv P hP
  unfold Pgr.ready at c63
  rw [hbr, if_neg (by decide)] at c63
  have c84 := isStagedM84 w d l p ms mk ml base tv P hP hm
  have HA := Lib.hid h
  have HL := Lib.hid hL
  have HT := Lib.hid hT
  have HP := Lib.hid hP
  have HS := Lib.hid hsep
  have HTL := Lib.hid htl
  have hus := hL.us
  have hsl := hL.sl
  have lts := h.lts
  have llt := hL.lt
  have c85 := fun (W : World) (hb : Below w.heap.size w W) => staged85 W d l p ms mk ml base tv P (HP.out.on hb) hbn
  have c46 := fun (W : World) (hb : Below w.heap.size w W) => slots46 W d pb mb l L (HL.out.on hb)
  have c87 := fun (W : World) (hb : Below w.heap.size w W) => used87 W d pb mb l L (HL.out.on hb)
  have c86 := fun (W : World) (v : Value) (hv : Bss W v P.stRs) => frames86 W v P.stRs hv hlen
  have c88 := fun (W : World) (hb : Below w.heap.size w W) (v : Value) (hv : Bss W v P.stRs) => append12n W d pb mb l s L (HA.out.on hb) (HL.out.on hb) (tab_on HT.out hb) v P.stRs hv hlen
  have c90 := fun (W : World) (b : Nat) (pv rv : Value) (hp : W.ownsRow b 3 1 pv P.stPg.length (nums P.stPg)) (hr : Bss W rv P.stRs) => spots90 W L.used pv rv P.stPg P.stRs b hp hr P.st_len P.st_lt P.st_rec hlen (by have := P.st_le; have := P.st_len; omega)
  have c89 := fun (W : World) (b3 b4 : Nat) (hW : PAt W d l p ms mk ml base tv P) (pv sv : Value) (spl : List Spot) (hp : W.ownsRow b3 3 1 pv P.stPg.length (nums P.stPg)) (hs : W.ownsRow b4 112 4 sv spl.length (spR spl)) (hl : spl.length = P.stPg.length) => settle89 W d l p ms mk ml base b3 b4 tv P hW pv sv P.stPg spl hp hs hl (by have := P.st_le; omega) P.st_lt htl
  have HSL : Hid (∀ F, (spLs L.used F P.stRs P.stPg).length = P.stRs.length) := fun F => by simp [spLs]
  have HLE := Lib.hid P.st_len
  unfold LogR at c88
  unfold CmtR
  obtain ⟨X, hX⟩ : ∃ X, apd s L P.stRs = X := ⟨_, rfl⟩
  rw [hX] at c88 hok ⊢
  rw [hok] at c88
  obtain ⟨Z, hZ⟩ : ∃ Z : Pgr → Nat → List Spot → Pgr, ∀ Q F sp, Z Q F sp = Q.setl Q.stPg sp := ⟨fun Q F sp => Q.setl Q.stPg sp, fun _ _ _ => rfl⟩
  obtain ⟨F, hF⟩ : ∃ F, pn (cby P.stRs) = F := ⟨_, rfl⟩
  rw [hF] at c86 c90 hroom ⊢
  have h1 : ¬ ((L.slots : Int) < (F : Int)) := by omega
  have e1 : IntKind.i64.wrap ((L.slots : Int) - (L.used : Int)) = (L.slots : Int) - (L.used : Int) := by rw [IntKind.wrap_i64]; omega
  have h2 : ¬ ((L.slots : Int) - (L.used : Int) < (F : Int)) := by omega
  have g1 := hP.h1
  clear h hL hT hP hsep hbn hlen htl hX hF hok hZ Z hroom hm hbr
  go_enter Tryz.func34, Tryz.ntmps34
  go_wp2_with (first
    | (go_at_call 63; refine c63.mono ?_; rintro e w' ⟨rfl, ew⟩; rw [ew]; clear ew w')
    | (go_at_call 84; refine c84.mono ?_; rintro e w1 ⟨rfl, hb1⟩; have HB1 := Lib.hid hb1; clear hb1)
    | (go_at_call 85; refine (c85 _ HB1.out).mono ?_; rintro e w2 ⟨pv, rv, rfl, hpv, hrv, hb2⟩
       have HB2 := Lib.hid (bel_then HB1.out hb2)
       have HPV := Lib.hid hpv
       have HRV := Lib.hid hrv
       obtain ⟨pp, pc, rfl, -⟩ := row_at hpv
       obtain ⟨rp, rc, rfl⟩ := hrv.hdr
       clear hb2 hpv hrv)
    | (go_at_call 86; refine (c86 _ _ (rowG_bss HRV.out)).mono ?_; rintro e w3 ⟨rfl, hb3⟩
       have HB3 := Lib.hid (bel_then HB2.out hb3)
       have HB23 := Lib.hid hb3
       have g3 : w3.cell? ⟨p, 1, none⟩ = some (.pointer (some ⟨l, 0, none⟩)) := (HP.out.on HB3.out).h1
       clear hb3)
    | (go_at_call 46; refine (c46 _ HB3.out).mono ?_; rintro e w4 ⟨rfl, hb4⟩
       have HB4 := Lib.hid (bel_then HB3.out hb4)
       have HB24 := Lib.hid (bel_then HB23.out hb4)
       have g4 : w4.drew.cell? ⟨p, 1, none⟩ = some (.pointer (some ⟨l, 0, none⟩)) := (HP.out.on HB4.out).h1
       clear hb4))
  have HBd : Hid (Below w.heap.size w w4.drew) := HB4.out.drew
  go_region_with (first
    | (go_at_call 46; refine (c46 _ (by first | exact HBd.out | exact HB6.out)).mono ?_; rintro e w5 ⟨rfl, hb5⟩
       have HB5 : Hid (Below w.heap.size w w5) := by first | exact bel_then HBd.out hb5 | exact bel_then HB6.out hb5
       have HB25 : Hid (Below w2.heap.size w2 w5) := by first | exact bel_then HB24.out.drew hb5 | exact bel_then HB26.out hb5
       have g5 : w5.cell? ⟨p, 1, none⟩ = some (.pointer (some ⟨l, 0, none⟩)) := (HP.out.on HB5.out).h1
       clear hb5)
    | (go_at_call 87; refine (c87 _ (by first | exact HBd.out | exact HB5.out)).mono ?_; rintro e w6 ⟨rfl, hb6⟩
       have HB6 : Hid (Below w.heap.size w w6) := by first | exact bel_then HBd.out hb6 | exact bel_then HB5.out hb6
       have HB26 : Hid (Below w2.heap.size w2 w6) := by first | exact bel_then HB24.out.drew hb6 | exact bel_then HB25.out hb6
       have g6 : w6.cell? ⟨p, 1, none⟩ = some (.pointer (some ⟨l, 0, none⟩)) := (HP.out.on HB6.out).h1
       clear hb6))
  all_goals
    go_wp2_with (first
      | (go_at_call 87; refine (c87 _ (by first | exact HB5.out | exact HB6.out)).mono ?_; rintro e w8 ⟨rfl, hb8⟩
         have HB8 : Hid (Below w.heap.size w w8) := by first | exact bel_then HB5.out hb8 | exact bel_then HB6.out hb8
         have HB28 : Hid (Below w2.heap.size w2 w8) := by first | exact bel_then HB25.out hb8 | exact bel_then HB26.out hb8
         have g8 : w8.cell? ⟨p, 1, none⟩ = some (.pointer (some ⟨l, 0, none⟩)) := (HP.out.on HB8.out).h1
         clear hb8)
      | (go_at_call 88; refine (c88 _ HB8.out _ (rowG_bss (HRV.out.on HB28.out))).mono ?_; rintro e w9 ⟨⟨rfl, hA9, hL9, hK9, hT9⟩, hc9⟩
         have hz1 := HB1.out.size
         have hx4 : ∀ k, X4 d pb mb l k → k < w1.heap.size := fun k hk => by rcases hk with e | e | e | e <;> omega
         have HR9 := Lib.hid (RowG.kpZ (HRV.out.on HB28.out) (hK9.mono hx4) (fun k hk => hk))
         have HV9 := Lib.hid (own_same (own_bel HPV.out HB28.out) (fun g h1 h2 => hK9.block g h2 (fun hx => by have := hx4 g hx; omega)))
         have HP9 := Lib.hid ((HP.out.on HB8.out).kp hK9 (fun k hk => (HS.out k hk).1))
         have HA9 := Lib.hid hA9
         have HL9 := Lib.hid hL9
         have HK9 : Hid (Kp (X4 d pb mb l) w w9) := (Kp.bel HB8.out).trans hK9
         have HT9 := Lib.hid hT9
         have HC9 : Hid (w9.cell? ⟨l, 3, none⟩ = w.cell? ⟨l, 3, none⟩) := hc9.trans (cell3_bel HL.out HB8.out)
         clear hA9 hL9 hK9 hT9 hc9 hz1 hx4)
      | (go_at_call 90; refine (c90 _ _ _ _ HV9.out (rowG_bss HR9.out)).mono ?_; rintro e w10 ⟨sv, rfl, hsv, hb10⟩
         have HB10 := Lib.hid hb10
         have HSV : Hid (w10.ownsRow w9.heap.size 112 4 sv (spLs L.used F P.stRs P.stPg).length (spR (spLs L.used F P.stRs P.stPg))) := by
           show World.ownsRow _ _ _ _ _ _ _
           rw [HSL.out]; exact hsv
         clear hsv hb10)
      | (go_at_call 89; refine (c89 _ _ _ (HP9.out.on HB10.out) _ _ _ (own_bel HV9.out HB10.out) HSV.out (by rw [HSL.out]; exact HLE.out)).mono ?_; rintro e w11 ⟨rfl, tv', hP11, hK11, ht11⟩))
    go_ret
    have hz9 := HK9.out.size
    have hz10 := HB10.out.size
    have hnx : ∀ k, X4 d pb mb l k → ¬ Xp p ms mk ml tv k := fun k hk hx => (HS.out k hx).1 hk
    have hA10 := HA9.out.on HB10.out
    have lt10 := hA10.lts
    have hL10 := HL9.out.on HB10.out
    refine ⟨rfl, hA10.same (hK11.block _ lt10.1 (hnx _ (.inl rfl))) (hK11.block _ lt10.2.1 (hnx _ (.inr (.inl rfl)))) (hK11.block _ lt10.2.2.1 (hnx _ (.inr (.inr (.inl rfl))))), fun hnt hnote => hL10.kpx hK11 (hnx _ (.inr (.inr (.inr rfl)))) (fun nv hc hne => ?_), ?_, ⟨tv', hP11, fun k hk => ?_⟩, ?_⟩
    · rw [hnote] at hne
      exact hnt nv (by rw [← HC9.out, ← cell3_bel HL9.out HB10.out]; exact hc) hne
    · have hT10 := tab_on HT9.out HB10.out
      exact tab_blk hT10 (hK11.block 0 (World.block_lt_of_cell? w10 _ (tab_zero hT10)) (fun hx => (HS.out 0 hx).2.1 rfl))
    · rcases ht11 k hk with h | h
      · exact .inl h
      · exact .inr (by omega)
    · exact ((HK9.out.mono (fun k hk => .inr hk)).trans (Kp.bel HB10.out)).trans (hK11.mono (fun k hk => .inl hk))
end Go.Proofs.YtfakgfmgofblgaaGreatDoor
