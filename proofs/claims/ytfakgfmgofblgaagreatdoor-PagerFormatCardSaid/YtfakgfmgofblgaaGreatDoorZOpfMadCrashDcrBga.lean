/-
  Open of a disk that was formatted: a pager with nothing in it. And made of the laws of layer 7.
  made of the laws of layer 7: a disk, its pager, and the document's pager.
  What Crash and Start of package disk do.
  A clean disk that loses its power and gets it again; what replay leaves on a disk. Mathematics alone.
  The numbers of begun of the laws of layer 7. Mathematics alone.
-/
import Derived.Test.YtfakgfmgofblgaaGreatDoorZRyPbPgnOxRb
import Derived.Test.YtfakgfmgofblgaaGreatDoorZOq
import Derived.Test.YtfakgfmgofblgaaGreatDoorZOeSpt
import Derived.Test.YtfakgfmgofblgaaGreatDoorZPaSstSsuNtCmt
import Derived.Test.YtfakgfmgofblgaaGreatDoorZDirtyWriteReadNewFlush
import Derived.Test.YtfakgfmgofblgaaGreatDoorZDecW
namespace Go.Proofs.YtfakgfmgofblgaaGreatDoor
open Go.RowKit Go.Maps
set_option linter.unusedVariables false      -- a walk need not use every condition
attribute [local go_sem ↓] Go.wp_at_zero Go.wp_at_succ

/-- A log that is not at its last epoch is begun anew, where there is no fuse. -/
theorem rst_yes {s : Dsk} {L : Lg} {had : Cs} (h : Wl s L had) (hf : s.fuse = 0) (he : L.e < 1099511627776) :
    (rst s L).1 = 0 ∧ (rst s L).2.1 = { L with e := L.e + 1, used := 0, stale := false } ∧ (rst s L).2.2.N = s.N ∧ (rst s L).2.2.fuse = 0 ∧ Wl (rst s L).2.2 (rst s L).2.1 [] := by
  rcases rst_is h with h1 | ⟨h1, h2, h3, h4, h5⟩ | ⟨-, h2, -⟩
  · exfalso
    have hb := h.br
    unfold rst at h1
    rw [hb, if_neg (by decide), if_neg (by omega)] at h1
    split at h1
    · have h2 := congrArg (fun q : Int × Lg × Dsk => q.2.1.broken) h1
      simp [hb] at h2
    · have h2 := congrArg (fun q : Int × Lg × Dsk => q.1) h1
      simp at h2
  · exact ⟨h1, h2, h3, h4 hf, h5⟩
  · exact absurd hf h2
/-- A pager stands, with its disk and its log. -/
structure Std (w : World) (d pb mb l p ms mk ml base : Nat) (tv : Value) (s : Dsk) (L : Lg) (P : Pgr) (had : Cs) : Prop where
  at_ : At w d pb mb s
  lg : LAt w d pb mb l L
  pg : PAt w d l p ms mk ml base tv P
  tab : TabOk w
  wl : Wl s L had
  fuse : s.fuse = 0
  sep : ∀ k, Xp p ms mk ml tv k → ¬ X4 d pb mb l k ∧ k ≠ 0 ∧ k < w.heap.size
  nt : ∀ nv, w.cell? ⟨l, 3, none⟩ = some nv → ∀ a n c, nv = .slice (some a) n c → ¬ Xp p ms mk ml tv a.block
  nn : L.note ≠ []
theorem Std.step {w w' : World} {d pb mb l p ms mk ml base : Nat} {tv : Value} {s : Dsk} {L : Lg} {P P' : Pgr} {had : Cs} (h : Std w d pb mb l p ms mk ml base tv s L P had) (h' : PR w d l p ms mk ml base tv P' w') :
    ∃ tv', Std w' d pb mb l p ms mk ml base tv' s L P' had ∧ Kp (Xp p ms mk ml tv) w w' ∧ ∀ k, tv'.ownBlock = some k → tv.ownBlock = some k ∨ w.heap.size ≤ k := by
  obtain ⟨tv', hP, hK, hv⟩ := h'
  have lts := h.at_.lts
  have llt := h.lg.lt
  have h0 : 0 < w.heap.size := World.block_lt_of_cell? w _ (tab_zero h.tab)
  have hz := hK.size
  have hx4 : ∀ k, X4 d pb mb l k → k < w.heap.size := fun k hk => by rcases hk with e | e | e | e <;> omega
  have hnx : ∀ k, X4 d pb mb l k → ¬ Xp p ms mk ml tv k := fun k hk hx => (h.sep k hx).1 hk
  have hL3 : w'.cell? ⟨l, 3, none⟩ = w.cell? ⟨l, 3, none⟩ := World.cell?_of_block (w := w) (a := ⟨l, 3, none⟩) (hK.block l llt (hnx l (.inr (.inr (.inr rfl)))))
  have hold : ∀ k, Xp p ms mk ml tv' k → Xp p ms mk ml tv k ∨ w.heap.size ≤ k ∧ k < w'.heap.size := fun k hk => by
    rcases hk with e | e | e | e | e
    · exact .inl (.inl e)
    · exact .inl (.inr (.inl e))
    · exact .inl (.inr (.inr (.inl e)))
    · exact .inl (.inr (.inr (.inr (.inl e))))
    · have h9 := (hP.po.tvb e).2
      rcases hv k e with h1 | h1
      · exact .inl (.inr (.inr (.inr (.inr h1))))
      · exact .inr ⟨h1, h9⟩
  refine ⟨tv', ⟨h.at_.same (hK.block _ lts.1 (hnx _ (.inl rfl))) (hK.block _ lts.2.1 (hnx _ (.inr (.inl rfl)))) (hK.block _ lts.2.2.1 (hnx _ (.inr (.inr (.inl rfl))))), h.lg.kpx hK (hnx _ (.inr (.inr (.inr rfl)))) (fun nv hc _ => h.nt nv hc), hP, tab_blk h.tab (hK.block 0 h0 (fun hx => (h.sep 0 hx).2.1 rfl)), h.wl, h.fuse, fun k hk => ?_, fun nv hc a n c e hx => ?_, h.nn⟩, hK, hv⟩
  · rcases hold k hk with h1 | ⟨h1, h2⟩
    · exact ⟨(h.sep k h1).1, (h.sep k h1).2.1, Nat.lt_of_lt_of_le (h.sep k h1).2.2 hz⟩
    · exact ⟨fun hx => by have := hx4 k hx; omega, by omega, h2⟩
  · rw [hL3] at hc
    rcases hold _ hx with h1 | ⟨h1, -⟩
    · exact h.nt nv hc a n c e h1
    · obtain ⟨nv1, hb1, hn1, -⟩ := h.lg.blk
      have h2 : w.cell? ⟨l, 3, none⟩ = some nv1 := by simp [World.cell?, hb1]
      rw [h2] at hc
      injection hc with hc
      subst hc
      have h3 := hn1.blk_lt h.nn e
      omega
/-- What Open hands back of a disk that was formatted. -/
def OpF (w : World) (d pb mb N slots pages room : Nat) (e : Ending) (w' : World) : Prop :=
  ∃ l p ms mk ml base s', e = .returned (.tuple #[.pointer (some ⟨p, 0, none⟩), .int .i64 0]) ∧ w.heap.size ≤ l ∧ (∀ k, Xp p ms mk ml (.slice none 0 0) k → w.heap.size ≤ k) ∧ Std w' d pb mb l p ms mk ml base (.slice none 0 0) s' ⟨2, slots, vnt pages, 0, false, false⟩ (Pgr.new slots pages Ba.empty room) [] ∧ s'.N = N ∧ Kept d pb mb w w'
theorem opF_of {w : World} {d pb mb : Nat} {s : Dsk} (h : At w d pb mb s) (hT : TabOk w) {room N slots pages : Nat} (hF : Fmtd s N slots pages) {q : Lg × Dsk} (r5 : Wl q.2 ⟨2, slots, vnt pages, 0, false, false⟩ []) (r2 : q.1 = ⟨2, slots, vnt pages, 0, false, false⟩) (r3 : q.2.N = s.N) (r4 : q.2.fuse = 0)
    (R : Int × Lg × Dsk) (hR : R = (0, q)) {e : Ending} {w' : World} (ho : Opd w d pb mb R (Pgr.new slots pages Ba.empty room) e w') : OpF w d pb mb N slots pages room e w' := by
  subst hR
  obtain ⟨l, p, ms, mk, ml, base, he, hl, hx, hP, hA, hL, hK, hT', hnt⟩ := ho
  have lts := h.lts
  have hpo := hP.po.lt
  have hml := hP.ml
  have h0 : 0 < w.heap.size := World.block_lt_of_cell? w _ (tab_zero hT)
  have hL' : LAt w' d pb mb l q.1 := hL
  rw [r2] at hL'
  refine ⟨l, p, ms, mk, ml, base, q.2, he, hl, fun k hk => (hx k hk).1, ⟨hA, hL', hP, hT', r5, r4, fun k hk => ⟨?_, ?_, ?_⟩, hnt, vnt_nn pages⟩, by rw [r3, hF.N], hK⟩
  · have h1 := hx k hk
    rintro (e | e | e | e)
    · omega
    · omega
    · omega
    · exact h1.2 e
  · have h1 := (hx k hk).1
    omega
  · rcases hk with e | e | e | e | e
    · omega
    · omega
    · omega
    · omega
    · cases e
theorem openF11 (w : World) (d pb mb : Nat) (s : Dsk) (h : At w d pb mb s) (hT : TabOk w) (room : Nat) (hr1 : 8 ≤ room) (hr2 : room ≤ 256) {N slots pages : Nat} (hF : Fmtd s N slots pages) (hs1 : 1 ≤ slots) (hs2 : slots ≤ 4096) (hp1 : 2 ≤ pages) (hp2 : pages ≤ 2048) (hN : 2 + slots + 4 * pages ≤ N) :
    Calls Tryz.prog 11 #[.pointer (some ⟨d, 0, none⟩), .int .i64 room] w (OpF w d pb mb N slots pages room) := by
  have hw1 : Wl s ⟨1, slots, vnt pages, 0, true, false⟩ [] := ⟨hF.wl.cl, hF.wl.gd, rfl⟩
  obtain ⟨r1, r2, r3, r4, r5⟩ := rst_yes hw1 hF.fuse (by show (1 : Int) < 1099511627776; decide)
  have hrp : s.rpg slots 0 = (Ba.empty.bytes pages, 0) := by
    have := hF.on (page := 0) (by omega)
    rw [if_pos rfl] at this
    exact rpg_on hF.wl.cl.down (by rw [hF.N]; omega) (by omega) (Ba.bytes_le Ba.empty_ok hp2) this
  have hre : repR (repl s ⟨1, slots, vnt pages, 0, true, false⟩ (Pgr.new slots pages Ba.empty room) (lastM [])) = (0, (rst s ⟨1, slots, vnt pages, 0, true, false⟩).2) := by
    rw [repl_nil]
    unfold repR
    rw [r1, if_neg (by decide)]
  have hm : s.lmay slots pages = true := by
    unfold Dsk.lmay
    rw [hF.N]
    simp
    omega
  have c := open11 w d pb mb s h hT room hr1 hr2 ⟨1, slots, vnt pages, 0, false, false⟩ [] hF.wl pages rfl hm (fun q hq => by cases hq) ⟨by simp, fun q hq => by cases hq⟩ Ba.empty (Ba.empty_fit (by omega)) (.inr ⟨rfl, hrp⟩) (by
    show (repR (repl s ⟨1, slots, vnt pages, 0, true, false⟩ (Pgr.new slots pages Ba.empty room) (lastM []))).1 = 0
    rw [hre])
  have hre' : repR (repl s ⟨1, slots, vnt pages, 0, true, false⟩ (Pgr.new slots pages Ba.empty room) (lastM ([] : List (List (Nat × List UInt8))).flatten)) = (0, (rst s ⟨1, slots, vnt pages, 0, true, false⟩).2) := hre
  exact c.mono fun e w' ho => opF_of h hT hF (by rw [r2] at r5; exact r5) r2 r3 r4 _ hre' ho
end Go.Proofs.YtfakgfmgofblgaaGreatDoor
namespace Go.Proofs.YtfakgfmgofblgaaGreatDoor
open Go.RowKit Go.Maps
set_option linter.unusedVariables false      -- a walk need not use every condition
attribute [local go_sem ↓] Go.wp_at_zero Go.wp_at_succ

theorem new39 (w : World) (a b c : Int) : Calls Tryz.prog 39 #[.int .i64 a, .int .i64 b, .int .i64 c] w fun e w' => (∃ g, w.heap.size ≤ g ∧ e = .returned (.pointer (some ⟨g, 0, none⟩))) ∧ Below w.heap.size w w' := by
  go_enter Tryz.func39, Tryz.ntmps39
  go_wp2
  go_ret
  exact ⟨⟨_, Nat.le_refl _, rfl⟩, bel1 w _⟩
theorem Std.on {w w' : World} {d pb mb l p ms mk ml base : Nat} {tv : Value} {s : Dsk} {L : Lg} {P : Pgr} {had : Cs} (h : Std w d pb mb l p ms mk ml base tv s L P had) (hb : Below w.heap.size w w') : Std w' d pb mb l p ms mk ml base tv s L P had :=
  ⟨h.at_.on hb, h.lg.on hb, h.pg.on hb, tab_on h.tab hb, h.wl, h.fuse, fun k hk => ⟨(h.sep k hk).1, (h.sep k hk).2.1, Nat.lt_of_lt_of_le (h.sep k hk).2.2 hb.size⟩, fun nv hc => h.nt nv (by rw [← cell3_bel h.lg hb]; exact hc), h.nn⟩
theorem made_rdy (N : Nat) : Rdy (made N) N (fun _ => some zer) := ⟨made_cl N, rfl, rfl, fun i => made_con N i⟩
/-- What made hands back. -/
def MadR (w : World) (slots pages room : Nat) (e : Ending) (w' : World) : Prop :=
  ∃ d pb mb l p ms mk ml base s' rv, e = .returned (.tuple #[.pointer (some ⟨d, 0, none⟩), .pointer (some ⟨p, 0, none⟩), .pointer (some ⟨rv, 0, none⟩)]) ∧ w.heap.size ≤ d ∧ w.heap.size ≤ pb ∧ w.heap.size ≤ mb ∧ w.heap.size ≤ l ∧ (∀ k, Xp p ms mk ml (.slice none 0 0) k → w.heap.size ≤ k) ∧ Std w' d pb mb l p ms mk ml base (.slice none 0 0) s' ⟨2, slots, vnt pages, 0, false, false⟩ (Pgr.new slots pages Ba.empty room) [] ∧ s'.N = 2 + slots + 4 * pages ∧ Below w.heap.size w w'
set_option maxHeartbeats 4000000 in
set_option maxRecDepth 100000 in
theorem made7 (w : World) (hT : TabOk w) (slots pages room : Nat) (hs1 : 1 ≤ slots) (hs2 : slots ≤ 200) (hp1 : 2 ≤ pages) (hp2 : pages ≤ 300) (hr1 : 8 ≤ room) (hr2 : room ≤ 256) :
    Calls Tryz.prog 7 #[.int .i64 slots, .int .i64 pages, .int .i64 room] w (MadR w slots pages room) := by
  have c36 := new36 (2 + slots + 4 * pages) (by omega) (by omega) w
  have HT := Lib.hid hT
  have c35 := fun (W : World) (d pb mb : Nat) (hA : At W d pb mb (made (2 + slots + 4 * pages))) (hTW : TabOk W) => format35 W d pb mb _ (2 + slots + 4 * pages) _ hA hTW (made_rdy _) frO_zer frO_zer slots pages hs1 (by omega) hp1 (by omega) (Nat.le_refl _)
  have c11 := fun (W : World) (d pb mb : Nat) (s : Dsk) (hA : At W d pb mb s) (hTW : TabOk W) (hF : Fmtd s (2 + slots + 4 * pages) slots pages) => openF11 W d pb mb s hA hTW room hr1 hr2 hF hs1 (by omega) hp1 (by omega) (Nat.le_refl _)
  have c39 := fun (W : World) => new39 W slots pages room
  have t1 : ¬ ((slots : Int) < 1) := by omega
  have t2 : ¬ ((200 : Int) < (slots : Int)) := by omega
  have t3 : ¬ ((pages : Int) < 2) := by omega
  have t4 : ¬ ((300 : Int) < (pages : Int)) := by omega
  have t5 : ¬ ((room : Int) < 8) := by omega
  have t6 : ¬ ((256 : Int) < (room : Int)) := by omega
  have e1 : IntKind.i64.wrap (2 + (slots : Int)) = 2 + (slots : Int) := by rw [IntKind.wrap_i64]; omega
  have e2 : IntKind.i64.wrap (4 * (pages : Int)) = 4 * (pages : Int) := by rw [IntKind.wrap_i64]; omega
  have e3 : IntKind.i64.wrap (2 + (slots : Int) + 4 * (pages : Int)) = ((2 + slots + 4 * pages : Nat) : Int) := by rw [IntKind.wrap_i64]; omega
  unfold MadR
  obtain ⟨N, hN⟩ : ∃ N, 2 + slots + 4 * pages = N := ⟨_, rfl⟩
  rw [hN] at c36 c35 c11 e3 ⊢
  clear hT hs1 hs2 hp1 hp2 hr1 hr2 hN
  go_enter Tryz.func7, Tryz.ntmps7
  go_wp2_with (first
    | (go_at_call 36; refine c36.mono ?_; rintro e w1 ⟨rfl, hA1, hb1⟩
       have HA1 := Lib.hid hA1
       have HB1 := Lib.hid hb1
       clear hA1 hb1)
    | (go_at_call 35; refine (c35 _ _ _ _ HA1.out (tab_on HT.out HB1.out)).mono ?_; rintro e w2 ⟨s2, rfl, hA2, hF2, hK2, hT2⟩
       have HA2 := Lib.hid hA2
       have HF2 := Lib.hid hF2
       have HT2 := Lib.hid hT2
       have HB2 : Hid (Below w.heap.size w1 w2) := hK2.below (by omega) (Nat.le_refl _) (by omega) HB1.out.size
       clear hA2 hF2 hK2 hT2)
    | (go_at_call 11; refine (c11 _ _ _ _ _ HA2.out HT2.out HF2.out).mono ?_; rintro e w3 ⟨l, p, ms, mk, ml, base, s3, rfl, hl3, hx3, hS3, hN3, hK3⟩
       have HX3 := Lib.hid hx3
       have HS3 := Lib.hid hS3
       have HN3 := Lib.hid hN3
       have HB3 : Hid (Below w.heap.size w2 w3) := hK3.below (by omega) (Nat.le_refl _) (by omega) (Nat.le_trans HB1.out.size HB2.out.size)
       clear hx3 hS3 hN3 hK3)
    | (go_at_call 39; refine (c39 _).mono ?_; rintro e w4 ⟨⟨g, hg, rfl⟩, hb4⟩
       have HB4 := Lib.hid hb4
       clear hb4))
  go_ret3
  have z1 := HB1.out.size
  have z2 := HB2.out.size
  have z3 := HB3.out.size
  exact ⟨_, _, _, l, p, ms, mk, ml, base, s3, g, rfl, by omega, Nat.le_refl _, by omega, by omega, fun k hk => by have := HX3.out k hk; omega, HS3.out.on HB4.out, HN3.out, ((HB1.out.trans HB2.out).trans HB3.out).trans (HB4.out.mono (by omega))⟩
end Go.Proofs.YtfakgfmgofblgaaGreatDoor
namespace Go.Proofs.YtfakgfmgofblgaaGreatDoor
open Go.RowKit Go.Maps Go.ChangeMaps Go.MapKept Go.WideShapes
set_option linter.unusedVariables false      -- a walk need not use every condition

def Dsk.crash (s : Dsk) (kb : List Bool) (torn : Int) : Int × Dsk := if s.down then (9, s) else (0, { s.decide kb torn with down := true })
def Dsk.start (s : Dsk) (kb : List Bool) (torn : Int) : Int × Dsk := if s.down then (0, { s.decide kb torn with down := false }) else (1, s)
set_option maxHeartbeats 800000 in
theorem crash9 (w : World) (d pb mb : Nat) (s : Dsk) (h : At w d pb mb s) (torn : Int) (kv : Value) (kb : List Bool) (hb : Bools w d pb mb kv kb) :
    Calls Tryz.prog 9 #[.pointer (some ⟨d, 0, none⟩), .int .i64 torn, kv] w fun e w' => e = .returned (.int .i64 (s.crash kb torn).1) ∧ At w' d pb mb (s.crash kb torn).2 ∧ Kept d pb mb w w' := by
  have cR := ready40 w d pb mb s h
  have cD := decide41 w d pb mb s h torn kv kb hb
  have H : Hid (At w d pb mb s) := h
  clear h hb
  unfold Dsk.crash
  cases hd : s.down with
  | true =>
    simp only [if_true]
    rw [show s.ready = 9 by simp [Dsk.ready, hd]] at cR
    clear cD hd
    go_enter Tryz.func9, Tryz.ntmps9
    go_wp2_with (first
      | (go_at_call 40; refine cR.mono ?_; rintro e w' ⟨rfl, rfl⟩))
    go_ret
    exact ⟨rfl, H.out, Kept.refl _ _ _ _⟩
  | false =>
    simp only [Bool.false_eq_true, if_false]
    rw [show s.ready = 0 by simp [Dsk.ready, hd]] at cR
    clear hd
    generalize s.decide kb torn = sd at *
    go_enter Tryz.func9, Tryz.ntmps9
    go_wp2_with (first
      | (go_at_call 40; refine cR.mono ?_; rintro e w' ⟨rfl, rfl⟩)
      | (go_at_call 41; refine cD.mono ?_; rintro e w1 ⟨⟨v, rfl⟩, h1, k1⟩
         have f2 := (five_of h1.blk).2.2.2.2.2 2
         have c2 := (five_of h1.blk).2.2.1
         have H1 : Hid (At w1 d pb mb sd) := h1
         clear h1))
    go_ret
    refine ⟨rfl, ?_, k1.trans (Kept.grown (gr_set w1 d 2 _) (fun k e => by injection e with e; exact .inl e.symm))⟩
    refine H1.out.turn ?_ (gr_set w1 d 2 _) rfl rfl rfl rfl H1.out.fu H1.out.cl
    rw [blk_set H1.out.blk _]
    rfl
set_option maxHeartbeats 800000 in
theorem start10 (w : World) (d pb mb : Nat) (s : Dsk) (h : At w d pb mb s) (torn : Int) (kv : Value) (kb : List Bool) (hb : Bools w d pb mb kv kb) :
    Calls Tryz.prog 10 #[.pointer (some ⟨d, 0, none⟩), .int .i64 torn, kv] w fun e w' => e = .returned (.int .i64 (s.start kb torn).1) ∧ At w' d pb mb (s.start kb torn).2 ∧ Kept d pb mb w w' := by
  have cR := made42 w d pb mb s h
  have cD := decide41 w d pb mb s h torn kv kb hb
  have c2w := (five_of h.blk).2.2.1
  have H : Hid (At w d pb mb s) := h
  clear h hb
  unfold Dsk.start
  cases hd : s.down with
  | false =>
    simp only [Bool.false_eq_true, if_false]
    rw [hd] at c2w
    clear cD hd
    go_enter Tryz.func10, Tryz.ntmps10
    go_wp2_with (first
      | (go_at_call 42; refine cR.mono ?_; rintro e w' ⟨rfl, rfl⟩))
    go_ret
    exact ⟨rfl, H.out, Kept.refl _ _ _ _⟩
  | true =>
    simp only [if_true]
    rw [hd] at c2w
    clear hd
    generalize s.decide kb torn = sd at *
    go_enter Tryz.func10, Tryz.ntmps10
    go_wp2_with (first
      | (go_at_call 42; refine cR.mono ?_; rintro e w' ⟨rfl, rfl⟩)
      | (go_at_call 41; refine cD.mono ?_; rintro e w1 ⟨⟨v, rfl⟩, h1, k1⟩
         have f2 := (five_of h1.blk).2.2.2.2.2 2
         have c2 := (five_of h1.blk).2.2.1
         have H1 : Hid (At w1 d pb mb sd) := h1
         clear h1))
    go_ret
    refine ⟨rfl, ?_, k1.trans (Kept.grown (gr_set w1 d 2 _) (fun k e => by injection e with e; exact .inl e.symm))⟩
    refine H1.out.turn ?_ (gr_set w1 d 2 _) rfl rfl rfl rfl H1.out.fu H1.out.cl
    rw [blk_set H1.out.blk _]
    rfl
theorem bools_none (w : World) (d pb mb : Nat) : Bools w d pb mb (.slice none 0 0) [] := ⟨⟨none, 0, rfl, .inl rfl⟩, by simp⟩
end Go.Proofs.YtfakgfmgofblgaaGreatDoor
namespace Go.Proofs.YtfakgfmgofblgaaGreatDoor
open Go.RowKit Go.Maps
set_option linter.unusedVariables false

theorem decide_cl {s : Dsk} (h : ∀ i, s.ca i = none) : s.decide [] 0 = s := by
  have hd : s.dirty = [] := by
    unfold Dsk.dirty
    rw [List.filter_eq_nil_iff]
    intro a _ hx
    rw [h a] at hx
    cases hx
  unfold Dsk.decide
  rw [hd]
  show (s.dec [] 0).tear (keptTo [] [] 0) 0 = s
  rw [dec_zero]
  unfold Dsk.tear
  rw [if_neg]
  rintro ⟨-, h2⟩
  simp [keptTo] at h2
theorem crash_cl {s : Dsk} (h : Cl s) : s.crash [] 0 = (0, { s with down := true }) := by
  unfold Dsk.crash
  rw [h.down, if_neg (by decide), decide_cl h.ca]
theorem start_cl {s : Dsk} (h : Cl s) : ({ s with down := true } : Dsk).start [] 0 = (0, s) := by
  unfold Dsk.start
  rw [if_pos rfl, decide_cl (s := { s with down := true }) h.ca]
  have := h.down
  cases s
  simp at this
  subst this
  rfl
/-- Pages are written. -/
theorem stN_is {s : Dsk} (h : Qu s) {slots : Nat} {f : Nat → Nat × List UInt8} : ∀ n, (∀ i, i < n → 2 + slots + 4 * (f i).1 + 4 ≤ s.N) →
    (s.stN slots f n).1 = 0 ∧ Qu (s.stN slots f n).2 ∧ Sm s (s.stN slots f n).2 ∧ (∀ i, i < n → (∀ j, i < j → j < n → (f j).1 ≠ (f i).1) → ∀ x, x < 4 → (s.stN slots f n).2.ca (2 + slots + 4 * (f i).1 + x) = some (sealB 4 ((4 * (f i).1 + x : Nat) : Int) (pc (f i).2 x)))
  | 0, _ => ⟨rfl, h, Sm.refl s, fun i hi => absurd hi (Nat.not_lt_zero _)⟩
  | n + 1, hN => by
    obtain ⟨h1, h2, h3, h4⟩ := stN_is h (slots := slots) (f := f) n (fun i hi => hN i (by omega))
    have hn := hN n (by omega)
    obtain ⟨p1, p2, p3, p4⟩ := wpg_is h2 (slots := slots) (page := (f n).1) (b := (f n).2) (by rw [h3.N]; exact hn)
    have e : s.stN slots f (n + 1) = (s.stN slots f n).2.wpg slots (f n).1 (f n).2 := by rw [Dsk.stN, if_neg (fun e => e h1)]
    rw [e]
    refine ⟨p1, p2, h3.trans p3, fun i hi hl x hx => ?_⟩
    rw [p4]
    unfold caP
    by_cases hin : i = n
    · subst hin
      rw [if_pos (by omega), show 2 + slots + 4 * (f i).1 + x - (2 + slots + 4 * (f i).1) = x by omega]
    · have hne := hl n (by omega) (by omega)
      rw [if_neg (by omega)]
      exact h4 i (by omega) (fun j h5 h6 => hl j h5 (by omega)) x hx
/-- A log is begun anew on a clean disk: of its pages nothing turns. -/
theorem rst_con {s : Dsk} {L : Lg} (h : Cl s) (hf : s.fuse = 0) (hb : L.broken = false) (he0 : 0 ≤ L.e) (he : L.e < 1099511627776) (hpl : (hpay L.slots L.note).length ≤ 112) (hN : 2 ≤ s.N) :
    (rst s L).1 = 0 ∧ (rst s L).2.2.down = false ∧ (rst s L).2.2.fuse = 0 ∧ (rst s L).2.2.N = s.N ∧ ∀ i, 2 ≤ i → (rst s L).2.2.con i = s.con i := by
  unfold rst
  rw [hb, if_neg (by decide), if_neg (by omega)]
  rcases hwr_is h (by omega : 0 ≤ L.e + 1) hpl hN with ⟨p1, p2, p3, p4, p5⟩ | ⟨p1, p2, p3, p4, p5⟩
  · rw [if_neg (fun e => e p1)]
    refine ⟨rfl, p2.down, p5 hf, p3, fun i hi => ?_⟩
    have := p4 i
    rw [if_neg (by omega)] at this
    exact this
  · exact absurd hf p5
theorem setl_is {s : Dsk} {L : Lg} (h : Cl s) (hf : s.fuse = 0) (hb : L.broken = false) (he0 : 0 ≤ L.e) (he : L.e < 1099511627776) (hpl : (hpay L.slots L.note).length ≤ 112) {slots : Nat} {f : Nat → Nat × List UInt8} {n : Nat} (hN2 : 2 ≤ s.N) (hN : ∀ i, i < n → 2 + slots + 4 * (f i).1 + 4 ≤ s.N) :
    (setl s L slots f n).1 = 0 ∧ (setl s L slots f n).2.2.down = false ∧ (setl s L slots f n).2.2.fuse = 0 ∧ (setl s L slots f n).2.2.N = s.N ∧ ∀ i, i < n → (∀ j, i < j → j < n → (f j).1 ≠ (f i).1) → PgOn (setl s L slots f n).2.2 slots (f i).1 (f i).2 := by
  obtain ⟨h1, h2, h3, h4⟩ := stN_is (h.qu hf) (slots := slots) (f := f) n hN
  unfold setl
  rw [if_neg (fun e => e h1)]
  by_cases hn : n = 0
  · rw [if_pos hn]
    obtain ⟨r1, r2, r3, r4, r5⟩ := rst_con h hf hb he0 he hpl hN2
    exact ⟨r1, r2, r3, r4, fun i hi => by omega⟩
  · rw [if_neg hn]
    obtain ⟨f1, f2, f3, f4, f5⟩ := fl_is h2
    rw [if_neg (fun e => e f1)]
    obtain ⟨r1, r2, r3, r4, r5⟩ := rst_con f2 f3.fuse hb he0 he hpl (by rw [f4, h3.N]; exact hN2)
    refine ⟨r1, r2, r3, by rw [r4, f4, h3.N], fun i hi hl x hx => ?_⟩
    rw [r5 _ (by omega), f5]
    exact con_ca (h4 i hi hl x hx)
end Go.Proofs.YtfakgfmgofblgaaGreatDoor
namespace Go.Proofs.YtfakgfmgofblgaaGreatDoor
open Go.RowKit Go.Maps
set_option linter.unusedVariables false

theorem apd_yes {s : Dsk} {L : Lg} {had : Cs} (h : Wl s L had) (hst : L.stale = false) (hf : s.fuse = 0) (rs : Rs) (ho : okC rs) (hroom : L.used + pn (cby rs) ≤ L.slots) :
    (apd s L rs).1 = 0 ∧ (apd s L rs).2.1 = { L with used := L.used + pn (cby rs) } ∧ (apd s L rs).2.2.N = s.N ∧ (apd s L rs).2.2.fuse = 0 ∧ Wl (apd s L rs).2.2 (apd s L rs).2.1 (had ++ [rs]) := by
  rcases apd_is h hst rs ho with h1 | ⟨h1, h2, h3, h4, h5⟩ | ⟨-, h2, -⟩
  · exfalso
    have hb := h.br
    unfold apd at h1
    rw [hb, if_neg (by decide), hst, if_neg (by decide), if_neg (by omega)] at h1
    split at h1
    · have h2 := congrArg (fun q : Int × Lg × Dsk => q.2.1.broken) h1
      simp [hb] at h2
    · have h2 := congrArg (fun q : Int × Lg × Dsk => q.1) h1
      simp at h2
  · exact ⟨h1, h2, h3, h4 hf, h5⟩
  · exact absurd hf h2
def bx1 : Ba := Ba.empty.put 1
def bx3 : Ba := bx1.setW 2 (-5)
theorem bx1_ok : bx1.Ok := Ba.put_ok Ba.empty_ok 1
theorem bx3_ok : bx3.Ok := Ba.setW_ok bx1_ok 2 (by unfold I64; omega)
theorem empty_least : Ba.empty.least = 1 := by decide +kernel
theorem empty_has (p : Nat) (hp : p < 2048) : Ba.empty.has p = decide (p = 0) := by
  unfold Ba.empty
  rw [Ba.has_put Ba.none_ok (by decide), Ba.none_has p hp, Bool.or_false]
theorem bx3_has (p : Nat) (hp : p < 2048) : bx3.has p = (decide (p = 1) || decide (p = 0)) := by
  unfold bx3 bx1
  rw [Ba.has_setW, Ba.has_put Ba.empty_ok (by decide), empty_has p hp]
theorem bx1_has1 : bx1.has 1 = true := by
  unfold bx1
  rw [Ba.has_put Ba.empty_ok (by decide)]
  rfl
theorem bx3_fit : bx3.Fit 16 := ⟨bx3_ok, fun p h1 h2 => by rw [bx3_has p h2]; simp; omega, by rw [bx3_has 0 (by decide)]; rfl⟩
theorem bx3_count : bx3.count = 2 := by decide +kernel
theorem bx1_wd : bx1.wd 2 = 0 := rfl
theorem bx3_wd : bx3.wd 2 = -5 := rfl
theorem bx3_len : (bx3.bytes 16).length = 34 := Ba.bytes_len bx3_ok (by decide)
/-- A pool that has one page staged. -/
def Qo (m : Option (List UInt8)) : Po := ⟨8, upd (fun _ => none) 1 m, fun _ => none, []⟩
theorem upd_nn (k : Nat) : upd (fun _ => (none : Option (List UInt8))) k none = fun _ => none := by
  funext i
  unfold upd
  split <;> rfl
theorem upd2 {α : Type} (m : Nat → Option α) (k : Nat) (a b : Option α) : upd (upd m k a) k b = upd m k b := by
  funext i
  unfold upd
  split <;> rfl
theorem Qo_drop (m : Option (List UInt8)) : (Qo m).drop 1 = ⟨8, fun _ => none, fun _ => none, []⟩ := by
  unfold Po.drop Qo
  simp only [upd2, upd_nn, List.filter_nil]
theorem po0_held : (⟨8, fun _ => none, fun _ => none, []⟩ : Po).held = 0 := by
  unfold Po.held
  simp only [keysM_none]
  rfl
theorem Qo_none : Qo none = ⟨8, fun _ => none, fun _ => none, []⟩ := by unfold Qo; rw [upd_nn]
theorem Qo_stage (m : Option (List UInt8)) (b : List UInt8) : (Qo m).stage 1 b = Qo (some b) := by
  unfold Po.stage
  rw [Qo_drop]
  unfold Po.mkr
  rw [po0_held, if_neg (by decide)]
  rfl
theorem Qo_stOk (m : Option (List UInt8)) : StOk (Qo m) 1 := ⟨leaveNil, fun h => by rw [Qo_drop, po0_held] at h; cases h⟩
theorem keys1 (b : List UInt8) : keysM (upd (fun _ => none) 1 (some b)) = [1] := by
  have e : (fun k => (upd (fun _ => none) 1 (some b) k).isSome) = fun k : Nat => decide (k = 1) := by
    funext k
    unfold upd
    by_cases h : k = 1 <;> simp [h]
  unfold keysM
  rw [e]
  decide +kernel
def P0 : Pgr := Pgr.new 20 16 Ba.empty 8
def P1 : Pgr := ⟨20, 16, Ba.empty, bx1, true, false, Qo (some []), fun _ => none, false⟩
def P2 : Pgr := ⟨20, 16, Ba.empty, bx1, true, false, Qo (some [97]), fun _ => none, false⟩
def P3 : Pgr := ⟨20, 16, Ba.empty, bx3, true, true, Qo (some [97]), fun _ => none, false⟩
theorem P0_po : P0.po = Qo none := Qo_none.symm
theorem P0_alloc : P0.alloc = ((1, 0), P1) := by
  unfold Pgr.alloc
  have h1 : P0.br = false := rfl
  have h2 : P0.now.least = 1 := empty_least
  have h3 : (keysM P0.po.st).length = 0 := by
    show (keysM (fun _ => (none : Option (List UInt8)))).length = 0
    rw [keysM_none]; rfl
  have h4 : P0.po.room = 8 := rfl
  have h5 : P0.pages = 16 := rfl
  rw [h1, if_neg (by decide), h2, h5, if_neg (by decide), h3, h4, if_neg (by decide), P0_po, Qo_stage]
  rfl
theorem P1_set : P1.set 1 [97] = (0, P2) := by
  unfold Pgr.set
  have h1 : P1.reach 1 = 0 := by
    unfold Pgr.reach
    have a : P1.br = false := rfl
    have b : P1.now.has (1 : Int).toNat = true := bx1_has1
    have c : P1.pages = 16 := rfl
    rw [a, if_neg (by decide), b, c, if_pos (by decide)]
  have h2 : P1.po.st (1 : Int).toNat = some [] := rfl
  have h3 : P1.po.stage (1 : Int).toNat [97] = Qo (some [97]) := Qo_stage _ _
  rw [h1, if_neg (fun e => e rfl), if_neg (by decide), if_neg (fun e => by rw [h2] at e; cases e.1), h3]
  rfl
theorem P2_setw : P2.setw 2 (-5) = (0, P3) := by
  unfold Pgr.setw
  have h1 : P2.reachW 2 = 0 := rfl
  rw [h1, if_neg (fun e => e rfl), if_neg (by show ¬ ((0 : Int) = -5); decide)]
  rfl
theorem P3_pg : P3.stPg = [0, 1] := by
  unfold Pgr.stPg Pgr.hPg
  have h1 : keysM P3.po.st = [1] := keys1 [97]
  rw [h1]
  rfl
theorem P3_rs : P3.stRs = [recB 0 (bx3.bytes 16), recB 1 [97]] := by
  unfold Pgr.stRs Pgr.hRs
  have h1 : keysM P3.po.st = [1] := keys1 [97]
  rw [h1]
  rfl
theorem P3_len : (cby P3.stRs).length = 40 := by
  rw [P3_rs, cby_len]
  have hb := bx3_len
  generalize bx3.bytes 16 = B at *
  have h0 : (recB 0 B).length = 35 := by
    unfold recB
    rw [List.length_append, hb]
    rfl
  have h1 : (recB 1 [97]).length = 2 := rfl
  rw [rsb_cons, rsb_cons, rsb_nil, h0, h1]
  simp only [List.length_append, h0, h1, List.length_nil]
  rfl
theorem P3_pn : pn (cby P3.stRs) = 1 := by unfold pn; rw [P3_len]
theorem P3_ok : okC P3.stRs := by
  rw [P3_rs]
  refine ⟨by decide, fun r hr => ?_⟩
  have hb := bx3_len
  generalize bx3.bytes 16 = B at *
  rcases List.mem_cons.1 hr with rfl | hr
  · unfold recB
    rw [List.length_append, hb]
    decide
  · rcases List.mem_cons.1 hr with rfl | hr
    · decide
    · cases hr
end Go.Proofs.YtfakgfmgofblgaaGreatDoor
