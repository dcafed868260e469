/-
  What Get does of a page that is neither staged, kept nor logged.
  The calls of begun of the laws of layer 7.
  begun of the laws of layer 7.
  The methods of a pager that was not made: nil, or zero.
  Open and Format where there is no disk; a pager that was not made, as built.
-/
import Derived.Test.YtfakgfmgofblgaaGreatDoorZCm
import Derived.Test.YtfakgfmgofblgaaGreatDoorZPaSstSsuNtCmt
import Derived.Test.YtfakgfmgofblgaaGreatDoorZOpfMadCrashDcrBga
import Derived.Test.YtfakgfmgofblgaaGreatDoorZBgb
import Derived.Test.YtfakgfmgofblgaaGreatDoorZVntWmCtmRctBsx
import Derived.Test.YtfakgfmgofblgaaGreatDoorZPrPg
namespace Go.Proofs.YtfakgfmgofblgaaGreatDoor
open Go.RowKit Go.Maps
set_option linter.unusedVariables false      -- a walk need not use every condition
attribute [local go_sem ↓] Go.wp_at_zero Go.wp_at_succ

def Po.keep (P : Po) (page : Nat) (b : List UInt8) : Po := { P.mkr with kp := upd P.mkr.kp page (some b), tn := P.mkr.tn ++ [page] }
set_option maxHeartbeats 4000000 in
set_option maxRecDepth 100000 in
theorem getR26 (w : World) (d pb mb l p ms mk ml base : Nat) (tv : Value) (s : Dsk) (P : Pgr) (h : At w d pb mb s) (hT : TabOk w) (hP : PAt w d l p ms mk ml base tv P) (page : Nat) (hr : P.reach page = 0) (hs : P.po.st page = none) (hk : P.po.kp page = none) (hl : P.lg page = none)
    (b : List UInt8) (hb : s.rpg P.slots page = (b, 0)) (hbl : b.length ≤ 448) (hnf : (keysM P.po.st).length ≠ P.po.room) (hf : P.po.held = P.po.room → P.po.tn ≠ [] ∧ LeaveC P.po.tn) (hlen : P.po.mkr.tn.length < 2048) :
    Calls Tryz.prog 26 #[.pointer (some ⟨p, 0, none⟩), .int .i64 page] w fun e w' => ∃ v, e = .returned (.tuple #[v, .int .i64 0]) ∧ Bs w' v b ∧ Fresh w.heap.size v ∧ PR w d l p ms mk ml base tv { P with po := P.po.keep page b } w' := by
  have c72 := reach72 w d l p ms mk ml base tv P hP page
  rw [hr] at c72
  obtain ⟨-, k, hk0, hk1, hk2, -⟩ := Pgr.reach_ok hr
  obtain rfl : page = k := by omega
  have hpg := hP.pg
  have hp2 : page < 2048 := by omega
  have c73 := findNo73 w p 526 ms mk base tv P.po hP.po page hp2 hs hk
  have c68 := fun (W : World) (hb' : Below w.heap.size w W) => committedR68 W d pb mb l p ms mk ml base tv s P (h.on hb') (tab_on hT hb') (hP.on hb') page hk1 hp2 hk hl
  rw [hb] at c68
  simp only at c68
  have hlt := hP.po.lt
  have HX : Hid (∀ k, (k = p ∨ Xo ms mk tv k) → k < w.heap.size) := fun k hk => by
    rcases hk with e | e | e | e
    · omega
    · omega
    · omega
    · exact (hP.po.tvb e).2
  have c74 := fun (W : World) (hb' : Below w.heap.size w W) (v : Value) (hv : Bs W v b) (hvf : Fresh w.heap.size v) => keep74 W p 526 ms mk base tv P.po (hP.on hb').po page hp2 v b hv (fun a n c e hne hx => by
    obtain ⟨g, o, cap, e2, -⟩ := hv.cells hne
    rw [e2] at e
    injection e with e3 e4 e5
    injection e3 with e3
    subst e3
    have h1 := hvf g o _ _ e2
    have h2 := HX.out g hx
    omega) hbl hnf hf hlen
  have HP := Lib.hid hP
  clear h hT hP hb hr hs hk hl hk0 hnf hf hlen
  go_enter Tryz.func26, Tryz.ntmps26
  go_wp2_with (first
    | (go_at_call 72; refine c72.mono ?_; rintro e w' ⟨rfl, ew⟩; rw [ew]; clear ew w')
    | (go_at_call 73; refine c73.mono ?_; rintro e w1 ⟨rfl, hb1⟩; have HB1 := Lib.hid hb1; clear hb1)
    | (go_at_call 68; refine (c68 _ HB1.out).mono ?_; rintro e w2 ⟨v2, rfl, hv2, hf2, hb2⟩
       have HV2 := Lib.hid hv2
       have HF2 := Lib.hid (hf2.mono HB1.out.size)
       have HB2 := Lib.hid (bel_then HB1.out hb2)
       clear hv2 hf2 hb2)
    | (go_at_call 74; refine (c74 _ HB2.out _ HV2.out HF2.out).mono ?_; rintro e w3 ⟨rfl, tv3, hP3, hK3, hv3⟩))
  go_ret2
  have hB := bsY_fresh (X := fun k => k = p ∨ Xo ms mk tv k) HV2.out HF2.out HX.out
  exact ⟨_, rfl, (hB.kp hK3.kp).1, HF2.out, PR.next (Kp.bel HB2.out) (fun _ h => .inl h) ⟨tv3, (HP.out.on HB2.out).pool hP3 hK3, kg_xp hK3, hv3⟩⟩
end Go.Proofs.YtfakgfmgofblgaaGreatDoor
namespace Go.Proofs.YtfakgfmgofblgaaGreatDoor
open Go.RowKit Go.Maps
set_option linter.unusedVariables false      -- a walk need not use every condition

theorem bs_97 (w : World) : Bs (w.alloc (.cells #[.int .u8 97] 5 (1, 2))) (.slice (some ⟨w.heap.size, 0, none⟩) 1 1) [97] := by
  refine ⟨_, 1, rfl, by simp, by unfold maxLen; omega, fun e => (by cases e), .inr ⟨_, _, rfl, fun j v hv => ?_⟩⟩
  cases j with
  | zero =>
    simp [enc] at hv
    subst hv
    exact Go.Joins.cell_alloc_mark_at w #[.int .u8 97] 5 (1, 2) w.heap.size 0 rfl
  | succ j => simp [enc] at hv
theorem kp_below {X : Nat → Prop} {a b : World} {B : Nat} (h : Kp X a b) (hx : ∀ k, X k → B ≤ k) (hB : B ≤ a.heap.size) : Below B a b :=
  ⟨h.os, h.tape, h.output, h.size, fun k hk => h.block k (Nat.lt_of_lt_of_le hk hB) (fun e => by have := hx k e; omega)⟩
def LB : Lg := ⟨2, 20, vnt 16, 0, false, false⟩
/-- A pager of begun that stands over B. -/
structure Sb (w : World) (d pb mb l p ms mk ml base : Nat) (tv : Value) (s : Dsk) (P : Pgr) (B : Nat) : Prop where
  std : Std w d pb mb l p ms mk ml base tv s LB P []
  N : s.N = 86
  xp : ∀ k, Xp p ms mk ml tv k → B ≤ k
  x4 : ∀ k, X4 d pb mb l k → B ≤ k
  B : B ≤ w.heap.size
theorem Sb.step {w w' : World} {d pb mb l p ms mk ml base : Nat} {tv : Value} {s : Dsk} {P P' : Pgr} {B : Nat} (h : Sb w d pb mb l p ms mk ml base tv s P B) (h' : PR w d l p ms mk ml base tv P' w') : (∃ tv', Sb w' d pb mb l p ms mk ml base tv' s P' B) ∧ Below B w w' := by
  obtain ⟨tv', hS, hK, hv⟩ := h.std.step h'
  have hz := hK.size
  have hB := h.B
  refine ⟨⟨tv', hS, h.N, fun k hk => ?_, h.x4, by omega⟩, kp_below hK h.xp h.B⟩
  rcases hk with e | e | e | e | e
  · exact h.xp k (.inl e)
  · exact h.xp k (.inr (.inl e))
  · exact h.xp k (.inr (.inr (.inl e)))
  · exact h.xp k (.inr (.inr (.inr (.inl e))))
  · rcases hv k e with h1 | h1
    · exact h.xp k (.inr (.inr (.inr (.inr h1))))
    · omega
theorem Sb.on {w w' : World} {d pb mb l p ms mk ml base : Nat} {tv : Value} {s : Dsk} {P : Pgr} {B : Nat} (h : Sb w d pb mb l p ms mk ml base tv s P B) (hb : Below w.heap.size w w') : Sb w' d pb mb l p ms mk ml base tv s P B := ⟨h.std.on hb, h.N, h.xp, h.x4, Nat.le_trans h.B hb.size⟩
theorem alloc_b {w : World} {d pb mb l p ms mk ml base : Nat} {tv : Value} {s : Dsk} {B : Nat} (h : Sb w d pb mb l p ms mk ml base tv s P0 B) :
    Calls Tryz.prog 29 #[.pointer (some ⟨p, 0, none⟩)] w fun e w' => e = .returned (.tuple #[.int .i64 1, .int .i64 0]) ∧ (∃ tv', Sb w' d pb mb l p ms mk ml base tv' s P1 B) ∧ Below B w w' := by
  have c := alloc29 w d l p ms mk ml base tv P0 h.std.pg (by rw [show P0.now.least = 1 from empty_least, P0_po]; exact Qo_stOk none)
  rw [P0_alloc] at c
  exact c.mono fun e w' ⟨he, hP⟩ => ⟨he, h.step hP⟩
theorem set_b {w : World} {d pb mb l p ms mk ml base : Nat} {tv : Value} {s : Dsk} {B : Nat} (h : Sb w d pb mb l p ms mk ml base tv s P1 B) (v : Value) (hv : Bs w v [97]) (hvx : ∀ a k c, v = .slice (some a) k c → ¬ (a.block = p ∨ Xo ms mk tv a.block)) :
    Calls Tryz.prog 32 #[.pointer (some ⟨p, 0, none⟩), .int .i64 1, v] w fun e w' => e = .returned (.int .i64 0) ∧ (∃ tv', Sb w' d pb mb l p ms mk ml base tv' s P2 B) ∧ Below B w w' := by
  have c := set32 w d l p ms mk ml base tv P1 h.std.pg 1 v [97] hv (fun a k c e _ => hvx a k c e) (fun _ => Qo_stOk _)
  rw [P1_set] at c
  exact c.mono fun e w' ⟨he, hP⟩ => ⟨he, h.step hP⟩
theorem setw_b {w : World} {d pb mb l p ms mk ml base : Nat} {tv : Value} {s : Dsk} {B : Nat} (h : Sb w d pb mb l p ms mk ml base tv s P2 B) :
    Calls Tryz.prog 33 #[.pointer (some ⟨p, 0, none⟩), .int .i64 2, .int .i64 (-5)] w fun e w' => e = .returned (.int .i64 0) ∧ (∃ tv', Sb w' d pb mb l p ms mk ml base tv' s P3 B) ∧ Below B w w' := by
  have c := setWord33 w d l p ms mk ml base tv P2 h.std.pg 2 (-5) (by unfold I64; omega)
  rw [P2_setw] at c
  exact c.mono fun e w' ⟨he, hP⟩ => ⟨he, h.step hP⟩
theorem commit_b {w : World} {d pb mb l p ms mk ml base : Nat} {tv : Value} {s : Dsk} {B : Nat} (h : Sb w d pb mb l p ms mk ml base tv s P3 B) :
    Calls Tryz.prog 34 #[.pointer (some ⟨p, 0, none⟩)] w fun e w' => e = .returned (.int .i64 0) ∧ (∃ s', At w' d pb mb s' ∧ Wl s' ⟨2, 20, vnt 16, 1, false, false⟩ [P3.stRs] ∧ s'.fuse = 0 ∧ s'.N = 86) ∧ TabOk w' ∧ Below B w w' := by
  obtain ⟨a1, a2, a3, a4, a5⟩ := apd_yes h.std.wl rfl h.std.fuse P3.stRs P3_ok (by rw [P3_pn]; decide)
  have hu : (LB.used + pn (cby P3.stRs)) = 1 := by rw [P3_pn]; rfl
  rw [a2, hu] at a5
  have c := commit34 w d l p ms mk ml base pb mb tv P3 s LB h.std.at_ h.std.lg h.std.tab h.std.pg h.std.sep rfl rfl (by show (bx3.bytes 16).length ≤ 448; rw [bx3_len]; decide) (by rw [P3_pn]; decide) (by rw [P3_len]; decide) (by
    have h1 : keysM P3.po.st = [1] := keys1 [97]
    rw [h1]
    decide) a1
  refine c.mono fun e w' hc => ?_
  obtain ⟨he, hA, -, hT, -, hK⟩ := hc
  exact ⟨he, ⟨_, hA, a5, a4, by rw [a3, h.N]⟩, hT, kp_below hK (fun k hk => by
    rcases hk with hk | hk
    · exact h.xp k hk
    · exact h.x4 k hk) h.B⟩
end Go.Proofs.YtfakgfmgofblgaaGreatDoor
namespace Go.Proofs.YtfakgfmgofblgaaGreatDoor
open Go.RowKit Go.Maps
set_option linter.unusedVariables false      -- a walk need not use every condition
attribute [local go_sem ↓] Go.wp_at_zero Go.wp_at_succ

def P8 : Pgr := Pgr.new 20 16 bx3 8
theorem P8_reach : P8.reach 1 = 0 := by
  unfold Pgr.reach
  have a : P8.br = false := rfl
  have b : P8.now.has (1 : Int).toNat = true := by show bx3.has 1 = true; rw [bx3_has 1 (by decide)]; rfl
  have c : P8.pages = 16 := rfl
  rw [a, if_neg (by decide), b, c, if_pos (by decide)]
theorem P8_st : (keysM P8.po.st).length = 0 := by
  show (keysM (fun _ => (none : Option (List UInt8)))).length = 0
  rw [keysM_none]; rfl
theorem P8_held : P8.po.held = 0 := po0_held
theorem get_b (w : World) (d pb mb l p ms mk ml base : Nat) (tv : Value) (s : Dsk) (h : At w d pb mb s) (hT : TabOk w) (hP : PAt w d l p ms mk ml base tv P8) (hr : s.rpg 20 1 = ([97], 0)) :
    Calls Tryz.prog 26 #[.pointer (some ⟨p, 0, none⟩), .int .i64 1] w fun e w' => ∃ v, e = .returned (.tuple #[v, .int .i64 0]) ∧ Bs w' v [97] ∧ PR w d l p ms mk ml base tv { P8 with po := P8.po.keep 1 [97] } w' := by
  have c := getR26 w d pb mb l p ms mk ml base tv s P8 h hT hP 1 P8_reach rfl rfl rfl [97] hr (by decide) (by rw [P8_st]; decide) (fun e => by rw [P8_held] at e; cases e) (by
    have e : P8.po.mkr = P8.po := by unfold Po.mkr; rw [P8_held, if_neg (by decide)]
    rw [e]
    decide)
  exact c.mono fun e w' ⟨v, he, hv, _, hp⟩ => ⟨v, he, hv, hp⟩
set_option maxHeartbeats 8000000 in
set_option maxRecDepth 100000 in
theorem begun8 (w : World) (hT : TabOk w) : Calls Tryz.prog 8 #[] w fun e w' => e = .returned (.bool true) ∧ Below w.heap.size w w' := by
  have c7 : Calls Tryz.prog 7 #[.int .i64 20, .int .i64 16, .int .i64 8] w (MadR w 20 16 8) := made7 w hT 20 16 8 (by decide) (by decide) (by decide) (by decide) (by decide) (by decide)
  have HT := Lib.hid hT
  clear hT
  go_enter Tryz.func8, Tryz.ntmps8
  go_wp2_with (first
    | (go_at_call 7; refine c7.mono ?_; rintro e w1 ⟨d, pb, mb, l, p, ms, mk, ml, base, s1, rv, rfl, hd, hpb, hmb, hl, hx, hS, hN, hb1⟩
       have HS1 : Hid (Sb w1 d pb mb l p ms mk ml base (.slice none 0 0) s1 P0 w.heap.size) := ⟨hS, hN, hx, fun k hk => by rcases hk with e | e | e | e <;> omega, hb1.size⟩
       have HB1 := Lib.hid hb1
       clear hS hN hx hb1 c7)
    | (go_at_call 29; refine (alloc_b HS1.out).mono ?_; rintro e w2 ⟨rfl, ⟨tv2, hS2⟩, hb2⟩
       have HS2 := Lib.hid hS2
       have HB2 := Lib.hid (HB1.out.trans hb2)
       have hcv := Go.Joins.run_convert_bytes_const_at (P := Tryz.prog) w2 29 5 #[.int .u8 97] 1 1 w2.heap.size rfl Tryz.underlying29 Tryz.underlying5
       simp at hcv
       clear hS2 hb2)
    | (go_at_call 32; refine (set_b (HS2.out.on (bel1 w2 (.cells #[.int .u8 97] 5 (1, 2)))) _ (bs_97 w2) (fun a k c e hx => ?_)).mono ?_
       · injection e with e
         injection e with e
         subst e
         have h9 : w2.heap.size < w2.heap.size := (HS2.out.std.sep w2.heap.size (by
           rcases hx with e | e | e | e
           · exact .inl e
           · exact .inr (.inl e)
           · exact .inr (.inr (.inl e))
           · exact .inr (.inr (.inr (.inr e))))).2.2
         omega
       rintro e w3 ⟨rfl, ⟨tv3, hS3⟩, hb3⟩
       have HS3 := Lib.hid hS3
       have HB3 := Lib.hid ((HB2.out.trans ((bel1 w2 (.cells #[.int .u8 97] 5 (1, 2))).mono HB2.out.size)).trans hb3)
       clear hS3 hb3 hcv)
    | (go_at_call 33; refine (setw_b HS3.out).mono ?_; rintro e w4 ⟨rfl, ⟨tv4, hS4⟩, hb4⟩
       have HS4 := Lib.hid hS4
       have HB4 := Lib.hid (HB3.out.trans hb4)
       clear hS4 hb4)
    | (go_at_call 34; refine (commit_b HS4.out).mono ?_; rintro e w5 ⟨rfl, ⟨s5, hA5, hW5, hf5, hN5⟩, hT5, hb5⟩
       have HA5 := Lib.hid hA5
       have HW5 := Lib.hid hW5
       have HF5 := Lib.hid (And.intro hf5 hN5)
       have HT5 := Lib.hid hT5
       have HB5 := Lib.hid (HB4.out.trans hb5)
       clear hA5 hW5 hf5 hN5 hT5 hb5)
    | (go_at_call 9
       have c9 := crash9 w5 d pb mb s5 HA5.out 0 _ [] (bools_none w5 d pb mb)
       rw [crash_cl HW5.out.cl] at c9
       refine c9.mono ?_; rintro e w6 ⟨rfl, hA6, hK6⟩
       have HT6 := Lib.hid (tab_kept HT5.out HA5.out hK6)
       have HA6 := Lib.hid hA6
       have HB6 := Lib.hid (HB5.out.trans (hK6.below hd hpb hmb HB5.out.size))
       clear hA6 hK6 c9)
    | (go_at_call 10
       have c10 := start10 w6 d pb mb _ HA6.out 0 _ [] (bools_none w6 d pb mb)
       rw [start_cl HW5.out.cl] at c10
       refine c10.mono ?_; rintro e w7 ⟨rfl, hA7, hK7⟩
       have HT7 := Lib.hid (tab_kept HT6.out HA6.out hK7)
       have HA7 := Lib.hid hA7
       have HB7 := Lib.hid (HB6.out.trans (hK7.below hd hpb hmb HB6.out.size))
       clear hA7 hK7 c10)
    | (go_at_call 11; refine (openB11 w7 d pb mb s5 HA7.out HT7.out HW5.out HF5.out.1 HF5.out.2).mono ?_
       rintro e w8 ⟨l8, p8, ms8, mk8, ml8, base8, s8, rfl, hx8, hA8, hP8, hT8, hr8, hK8⟩
       have HX8 := Lib.hid hx8
       have HA8 := Lib.hid hA8
       have HP8 : Hid (PAt w8 d l8 p8 ms8 mk8 ml8 base8 (.slice none 0 0) P8) := hP8
       have HT8 := Lib.hid hT8
       have HR8 := Lib.hid hr8
       have HB8 := Lib.hid (HB7.out.trans (hK8.below hd hpb hmb HB7.out.size))
       clear hx8 hA8 hP8 hT8 hr8 hK8)
    | (go_at_call 26; refine (get_b w8 d pb mb l8 p8 ms8 mk8 ml8 base8 _ s8 HA8.out HT8.out HP8.out HR8.out).mono ?_
       rintro e w9 ⟨v9, rfl, hv9, tv9, hP9, hK9, -⟩
       have c30 := word30 w9 d l8 p8 ms8 mk8 ml8 base8 tv9 _ hP9 2
       rw [show ({ P8 with po := P8.po.keep 1 [97] } : Pgr).word 2 = (-5, 0) from rfl] at c30
       have c15 := left15 w9 d l8 p8 ms8 mk8 ml8 base8 tv9 _ hP9
       rw [show ((({ P8 with po := P8.po.keep 1 [97] } : Pgr).pages : Int) - (({ P8 with po := P8.po.keep 1 [97] } : Pgr).now.count : Int)) = 14 by show ((16 : Nat) : Int) - ((bx3.count : Nat) : Int) = 14; rw [bx3_count]; rfl] at c15
       have hs9 := hv9.str
       have HB9 := Lib.hid (HB8.out.trans (kp_below hK9 (fun k hk => Nat.le_trans HB7.out.size (HX8.out k hk)) HB8.out.size))
       clear hv9 hP9 hK9)
    | (go_at_call 30; refine c30.mono ?_; rintro e w' ⟨rfl, ew⟩; rw [ew]; clear ew w')
    | (go_at_call 15; refine c15.mono ?_; rintro e w10 ⟨rfl, hb10⟩; have HB10 := Lib.hid hb10; clear hb10))
  go_ret
  exact ⟨rfl, HB9.out.trans (HB10.out.mono HB9.out.size)⟩
end Go.Proofs.YtfakgfmgofblgaaGreatDoor
namespace Go.Proofs.YtfakgfmgofblgaaGreatDoor
open Go.RowKit Go.Maps
set_option linter.unusedVariables false      -- a walk need not use every condition
attribute [local go_sem ↓] Go.wp_at_zero Go.wp_at_succ

/-- No pager, or one without pages. -/
def NoP (w : World) (a : Option Addr) : Prop := a = none ∨ ∃ p, a = some ⟨p, 0, none⟩ ∧ w.cell? ⟨p, 3, none⟩ = some (.int .i64 0)
theorem madeNo59 (w : World) (a : Option Addr) (h : NoP w a) : Calls Tryz.prog 59 #[.pointer a] w fun e w' => e = .returned (.bool false) ∧ w' = w := by
  rcases h with rfl | ⟨p, rfl, h3⟩
  · go_enter Tryz.func59, Tryz.ntmps59
    go_wp2
    go_ret
    exact ⟨rfl, rfl⟩
  · go_enter Tryz.func59, Tryz.ntmps59
    go_wp2
    go_ret
    exact ⟨rfl, rfl⟩
theorem readyNo63 (w : World) (a : Option Addr) (h : NoP w a) : Calls Tryz.prog 63 #[.pointer a] w fun e w' => e = .returned (.int .i64 2) ∧ w' = w := by
  have c := madeNo59 w a h
  clear h
  go_enter Tryz.func63, Tryz.ntmps63
  go_wp2_with (first | (go_at_call 59; refine c.mono ?_; rintro e w' ⟨rfl, ew⟩; rw [ew]; clear ew w'))
  go_ret
  exact ⟨rfl, rfl⟩
theorem reachNo72 (w : World) (a : Option Addr) (h : NoP w a) (n : Int) : Calls Tryz.prog 72 #[.pointer a, .int .i64 n] w fun e w' => e = .returned (.int .i64 2) ∧ w' = w := by
  have c := readyNo63 w a h
  clear h
  go_enter Tryz.func72, Tryz.ntmps72
  go_wp2_with (first | (go_at_call 63; refine c.mono ?_; rintro e w' ⟨rfl, ew⟩; rw [ew]; clear ew w'))
  go_ret
  exact ⟨rfl, rfl⟩
theorem reachWordNo80 (w : World) (a : Option Addr) (h : NoP w a) (n : Int) : Calls Tryz.prog 80 #[.pointer a, .int .i64 n] w fun e w' => e = .returned (.int .i64 2) ∧ w' = w := by
  have c := readyNo63 w a h
  clear h
  go_enter Tryz.func80, Tryz.ntmps80
  go_wp2_with (first | (go_at_call 63; refine c.mono ?_; rintro e w' ⟨rfl, ew⟩; rw [ew]; clear ew w'))
  go_ret
  exact ⟨rfl, rfl⟩
theorem allocNo29 (w : World) (a : Option Addr) (h : NoP w a) : Calls Tryz.prog 29 #[.pointer a] w fun e w' => e = .returned (.tuple #[.int .i64 0, .int .i64 2]) ∧ w' = w := by
  have c := readyNo63 w a h
  clear h
  go_enter Tryz.func29, Tryz.ntmps29
  go_wp2_with (first | (go_at_call 63; refine c.mono ?_; rintro e w' ⟨rfl, ew⟩; rw [ew]; clear ew w'))
  go_ret2
  exact ⟨rfl, rfl⟩
theorem getNo26 (w : World) (a : Option Addr) (h : NoP w a) (n : Int) : Calls Tryz.prog 26 #[.pointer a, .int .i64 n] w fun e w' => e = .returned (.tuple #[.slice none 0 0, .int .i64 2]) ∧ w' = w := by
  have c := reachNo72 w a h n
  clear h
  go_enter Tryz.func26, Tryz.ntmps26
  go_wp2_with (first | (go_at_call 72; refine c.mono ?_; rintro e w' ⟨rfl, ew⟩; rw [ew]; clear ew w'))
  go_ret2
  exact ⟨rfl, rfl⟩
theorem wordNo30 (w : World) (a : Option Addr) (h : NoP w a) (n : Int) : Calls Tryz.prog 30 #[.pointer a, .int .i64 n] w fun e w' => e = .returned (.tuple #[.int .i64 0, .int .i64 2]) ∧ w' = w := by
  have c := reachWordNo80 w a h n
  clear h
  go_enter Tryz.func30, Tryz.ntmps30
  go_wp2_with (first | (go_at_call 80; refine c.mono ?_; rintro e w' ⟨rfl, ew⟩; rw [ew]; clear ew w'))
  go_ret2
  exact ⟨rfl, rfl⟩
theorem freeNo31 (w : World) (a : Option Addr) (h : NoP w a) (n : Int) : Calls Tryz.prog 31 #[.pointer a, .int .i64 n] w fun e w' => e = .returned (.int .i64 2) ∧ w' = w := by
  have c := reachNo72 w a h n
  clear h
  go_enter Tryz.func31, Tryz.ntmps31
  go_wp2_with (first | (go_at_call 72; refine c.mono ?_; rintro e w' ⟨rfl, ew⟩; rw [ew]; clear ew w'))
  go_ret
  exact ⟨rfl, rfl⟩
theorem setNo32 (w : World) (a : Option Addr) (h : NoP w a) (n : Int) (v : Value) : Calls Tryz.prog 32 #[.pointer a, .int .i64 n, v] w fun e w' => e = .returned (.int .i64 2) ∧ w' = w := by
  have c := reachNo72 w a h n
  clear h
  go_enter Tryz.func32, Tryz.ntmps32
  go_wp2_with (first | (go_at_call 72; refine c.mono ?_; rintro e w' ⟨rfl, ew⟩; rw [ew]; clear ew w'))
  go_ret
  exact ⟨rfl, rfl⟩
theorem setWordNo33 (w : World) (a : Option Addr) (h : NoP w a) (n m : Int) : Calls Tryz.prog 33 #[.pointer a, .int .i64 n, .int .i64 m] w fun e w' => e = .returned (.int .i64 2) ∧ w' = w := by
  have c := reachWordNo80 w a h n
  clear h
  go_enter Tryz.func33, Tryz.ntmps33
  go_wp2_with (first | (go_at_call 80; refine c.mono ?_; rintro e w' ⟨rfl, ew⟩; rw [ew]; clear ew w'))
  go_ret
  exact ⟨rfl, rfl⟩
theorem commitNo34 (w : World) (a : Option Addr) (h : NoP w a) : Calls Tryz.prog 34 #[.pointer a] w fun e w' => e = .returned (.int .i64 2) ∧ w' = w := by
  have c := readyNo63 w a h
  clear h
  go_enter Tryz.func34, Tryz.ntmps34
  go_wp2_with (first | (go_at_call 63; refine c.mono ?_; rintro e w' ⟨rfl, ew⟩; rw [ew]; clear ew w'))
  go_ret
  exact ⟨rfl, rfl⟩
theorem abortNo23 (w : World) (a : Option Addr) (h : NoP w a) : Calls Tryz.prog 23 #[.pointer a] w fun e w' => e = .returned (.int .i64 2) ∧ w' = w := by
  have c := readyNo63 w a h
  clear h
  go_enter Tryz.func23, Tryz.ntmps23
  go_wp2_with (first | (go_at_call 63; refine c.mono ?_; rintro e w' ⟨rfl, ew⟩; rw [ew]; clear ew w'))
  go_ret
  exact ⟨rfl, rfl⟩
theorem checkpointNo24 (w : World) (a : Option Addr) (h : NoP w a) : Calls Tryz.prog 24 #[.pointer a] w fun e w' => e = .returned (.int .i64 2) ∧ w' = w := by
  have c := readyNo63 w a h
  clear h
  go_enter Tryz.func24, Tryz.ntmps24
  go_wp2_with (first | (go_at_call 63; refine c.mono ?_; rintro e w' ⟨rfl, ew⟩; rw [ew]; clear ew w'))
  go_ret
  exact ⟨rfl, rfl⟩
theorem pagesNo14 (w : World) (a : Option Addr) (h : NoP w a) : Calls Tryz.prog 14 #[.pointer a] w fun e w' => e = .returned (.int .i64 0) ∧ w' = w := by
  have c := madeNo59 w a h
  clear h
  go_enter Tryz.func14, Tryz.ntmps14
  go_wp2_with (first | (go_at_call 59; refine c.mono ?_; rintro e w' ⟨rfl, ew⟩; rw [ew]; clear ew w'))
  go_ret
  exact ⟨rfl, rfl⟩
theorem leftNo15 (w : World) (a : Option Addr) (h : NoP w a) : Calls Tryz.prog 15 #[.pointer a] w fun e w' => e = .returned (.int .i64 0) ∧ w' = w := by
  have c := madeNo59 w a h
  clear h
  go_enter Tryz.func15, Tryz.ntmps15
  go_wp2_with (first | (go_at_call 59; refine c.mono ?_; rintro e w' ⟨rfl, ew⟩; rw [ew]; clear ew w'))
  go_ret
  exact ⟨rfl, rfl⟩
theorem stagedNo17 (w : World) (a : Option Addr) (h : NoP w a) : Calls Tryz.prog 17 #[.pointer a] w fun e w' => e = .returned (.int .i64 0) ∧ w' = w := by
  have c := madeNo59 w a h
  clear h
  go_enter Tryz.func17, Tryz.ntmps17
  go_wp2_with (first | (go_at_call 59; refine c.mono ?_; rintro e w' ⟨rfl, ew⟩; rw [ew]; clear ew w'))
  go_ret
  exact ⟨rfl, rfl⟩
theorem poolNo18 (w : World) (a : Option Addr) (h : NoP w a) : Calls Tryz.prog 18 #[.pointer a] w fun e w' => e = .returned (.int .i64 0) ∧ w' = w := by
  have c := madeNo59 w a h
  clear h
  go_enter Tryz.func18, Tryz.ntmps18
  go_wp2_with (first | (go_at_call 59; refine c.mono ?_; rintro e w' ⟨rfl, ew⟩; rw [ew]; clear ew w'))
  go_ret
  exact ⟨rfl, rfl⟩
theorem heldNo19 (w : World) (a : Option Addr) (h : NoP w a) : Calls Tryz.prog 19 #[.pointer a] w fun e w' => e = .returned (.int .i64 0) ∧ w' = w := by
  have c := madeNo59 w a h
  clear h
  go_enter Tryz.func19, Tryz.ntmps19
  go_wp2_with (first | (go_at_call 59; refine c.mono ?_; rintro e w' ⟨rfl, ew⟩; rw [ew]; clear ew w'))
  go_ret
  exact ⟨rfl, rfl⟩
theorem brokenNo20 (w : World) (a : Option Addr) (h : NoP w a) : Calls Tryz.prog 20 #[.pointer a] w fun e w' => e = .returned (.bool false) ∧ w' = w := by
  have c := madeNo59 w a h
  clear h
  go_enter Tryz.func20, Tryz.ntmps20
  go_wp2_with (first | (go_at_call 59; refine c.mono ?_; rintro e w' ⟨rfl, ew⟩; rw [ew]; clear ew w'))
  go_ret
  exact ⟨rfl, rfl⟩
end Go.Proofs.YtfakgfmgofblgaaGreatDoor
namespace Go.Proofs.YtfakgfmgofblgaaGreatDoor
open Go.RowKit Go.Maps
set_option linter.unusedVariables false      -- a walk need not use every condition
attribute [local go_sem ↓] Go.wp_at_zero Go.wp_at_succ

theorem sectorsNil97 (w : World) : Calls Tryz.prog 97 #[.pointer none] w fun e w' => e = .returned (.int .i64 0) ∧ w' = w := by
  go_enter Tryz.func97, Tryz.ntmps97
  go_wp2
  go_ret
  exact ⟨rfl, rfl⟩
theorem madeDiskNil43 (w : World) : Calls Tryz.prog 43 #[.pointer none] w fun e w' => e = .returned (.bool false) ∧ w' = w := by
  have c := sectorsNil97 w
  go_enter Tryz.func43, Tryz.ntmps43
  go_wp2_with (first | (go_at_call 97; refine c.mono ?_; rintro e w' ⟨rfl, ew⟩; rw [ew]; clear ew w'))
  go_ret
  exact ⟨rfl, rfl⟩
theorem openNil11 (w : World) : Calls Tryz.prog 11 #[.pointer none, .int .i64 8] w fun e w' => e = .returned (.tuple #[.pointer none, .int .i64 2]) ∧ w' = w := by
  have c := madeDiskNil43 w
  go_enter Tryz.func11, Tryz.ntmps11
  go_wp2_with (first | (go_at_call 43; refine c.mono ?_; rintro e w' ⟨rfl, ew⟩; rw [ew]; clear ew w'))
  go_ret2
  exact ⟨rfl, rfl⟩
theorem formatNil35 (w : World) : Calls Tryz.prog 35 #[.pointer none, .int .i64 1, .int .i64 2] w fun e w' => e = .returned (.int .i64 2) ∧ w' = w := by
  have c := madeDiskNil43 w
  go_enter Tryz.func35, Tryz.ntmps35
  go_wp2_with (first | (go_at_call 43; refine c.mono ?_; rintro e w' ⟨rfl, ew⟩; rw [ew]; clear ew w'))
  go_ret
  exact ⟨rfl, rfl⟩
set_option maxRecDepth 100000 in
theorem built69z : ∃ Z : List Value, Tryz.prog.built 69 [] = some Z.toArray ∧ Z[3]? = some (.int .i64 0) := by
  obtain ⟨it, hi, hz⟩ := Option.bind_eq_some_iff.1 zero69
  have h := pl69
  rw [Tryz.underlying69] at h
  simp only at h
  unfold Program.built
  rw [hi, Tryz.underlying69]
  simp only
  rw [hz, h]
  simp only [Value.cells]
  generalize Ba.none.cells = N at *
  exact ⟨_, rfl, rfl⟩
end Go.Proofs.YtfakgfmgofblgaaGreatDoor
