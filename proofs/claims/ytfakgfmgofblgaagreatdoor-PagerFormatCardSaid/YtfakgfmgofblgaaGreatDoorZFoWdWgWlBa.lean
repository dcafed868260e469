/-
  What Format and Open of package wal do, where they succeed.
  What a log writes to a disk, as mathematics: frames in the cache, flushed, or cut off by the power. No walk.
  What a log's sectors say, as mathematics: behind each commit, each new epoch, and whenever the power went. No walk.
  What Format, Append, Reset come to, as mathematics: a log over a disk that stands well. No walk.
  What the page 0 has, as plain data: which pages are not free, and the words; its bytes. No walk.
-/
import Derived.Test.YtfakgfmgofblgaaGreatDoorZAp
import Derived.Test.YtfakgfmgofblgaaGreatDoorZWpRfRh
import Derived.Test.YtfakgfmgofblgaaGreatDoorZNhElRpRcRcs
import Derived.Test.YtfakgfmgofblgaaGreatDoorZBitsSumShlSmallCall
import Derived.Test.YtfakgfmgofblgaaGreatDoorZDskFillBsCrcCrcB
namespace Go.Proofs.YtfakgfmgofblgaaGreatDoor
open Go.RowKit Go.Maps
set_option linter.unusedVariables false      -- a walk need not use every condition
attribute [local go_sem ↓] Go.wp_at_zero Go.wp_at_succ

theorem bsX_own {X : Nat → Prop} {w : World} {base : Nat} {v : Value} {t : List UInt8} (h : Bts w base v t) (hX : ∀ k, X k → k < base ∨ w.heap.size ≤ k) : BsX X w v t := bts_bsY h hX
theorem bsX_fresh {X : Nat → Prop} {w : World} {B : Nat} {v : Value} {t : List UInt8} (h : Bs w v t) (hf : Fresh B v) (hX : ∀ k, X k → k < B ∨ w.heap.size ≤ k) : BsX X w v t := by
  refine ⟨h, fun ht a n c e hx => ?_⟩
  have h1 := h.blk_lt ht e
  obtain ⟨p, cap, rfl, _, _, _, h4⟩ := h
  obtain ⟨g, o, rfl, hc⟩ := h4.resolve_left ht
  injection e with e1 e2 e3
  injection e1 with e1
  subst e1
  have h5 := hf g o _ _ rfl
  have h6 := hX _ hx
  simp at h1 h6
  omega
set_option maxHeartbeats 4000000 in
set_option maxRecDepth 100000 in
theorem format94 (w : World) (d pb mb : Nat) (s : Dsk) (h : At w d pb mb s) (hT : TabOk w) (slots : Nat) (hs1 : 1 ≤ slots) (hs2 : slots ≤ 4096) (hsN : 2 + slots ≤ s.N) (nv : Value) (note : List UInt8) (hn : Bs w nv note) (hnl : note.length ≤ 64) (hpl : (hpay slots note).length ≤ 112)
    (hw1 : (s.write 0 zer).1 = 0) (hw2 : ((s.write 0 zer).2.hwr 1 slots note).1 = 0) (hnb : BsX (fun k => k = d ∨ k = pb ∨ k = mb) w nv note) :
    Calls Tryz.prog 94 #[.pointer (some ⟨d, 0, none⟩), .int .i64 slots, nv] w fun e w' => ∃ l, e = .returned (.tuple #[.pointer (some ⟨l, 0, none⟩), .int .i64 0]) ∧ w.heap.size ≤ l ∧ At w' d pb mb ((s.write 0 zer).2.hwr 1 slots note).2 ∧ LAt w' d pb mb l ⟨1, slots, note, 0, false, false⟩ ∧ Kept d pb mb w w' ∧ TabOk w' := by
  have c24 := madeDisk98 w d pb mb s h
  have c25 := maySlots139 w d pb mb s h slots
  have hmay : s.may slots = true := by unfold Dsk.may; simp; omega
  rw [hmay] at c25
  have c26 := write108 w d pb mb s h 0 zer len_zer
  rw [hw1] at c26
  have HA := Lib.hid h
  have HT := Lib.hid hT
  have HNB := Lib.hid hnb
  have lts := Lib.hid h.lts
  obtain ⟨np, nc, rfl, -⟩ := hn
  have hnz : ¬ ((64 : Int) < (note.length : Int)) := by omega
  obtain ⟨s1, hs1'⟩ : ∃ s1, (s.write 0 zer).2 = s1 := ⟨_, rfl⟩
  rw [hs1'] at c26 hw2 ⊢
  have c27 := fun (W : World) (hb : Bs W (.slice np note.length nc) note) => clone62 W _ note hb (by omega)
  have c28 := fun (W : World) (hA : At W d pb mb s1) (v : Value) (hv : Bs W v note) (hTT : TabOk W) => hwrite140 W d pb mb s1 hA 1 (by decide) (by decide) slots hs2 v note hv hpl hTT
  rw [hw2] at c28
  generalize (s1.hwr 1 slots note).2 = s2 at *
  clear h hT hnb hmay hw1 hw2 hs1'
  go_enter Tryz.func94, Tryz.ntmps94
  go_wp2_with (first
    | (go_at_call 98; refine c24.mono ?_; rintro e w1 ⟨rfl, hw⟩; subst hw)
    | (go_at_call 139; refine c25.mono ?_; rintro e w1 ⟨rfl, hw⟩; subst hw)
    | (go_at_call 108; rw [zc]; refine c26.mono ?_; rintro e w2 ⟨rfl, hA2, hK2⟩
       have HA2 := Lib.hid hA2
       have HK2 := Lib.hid hK2
       have HT2 := Lib.hid (tab_kept HT.out HA.out hK2)
       have HN2 := Lib.hid (HNB.out.kp (Kp.kept hK2 (.inl rfl) (.inr (.inl rfl)) (.inr (.inr rfl))))
       clear hA2 hK2)
    | (go_at_call 62; refine (c27 _ HN2.out.1).mono ?_; rintro e w3 ⟨v3, rfl, hbt, hb3⟩
       have HB3 := Lib.hid hb3
       have HV3 := Lib.hid hbt
       obtain ⟨p3, q3, rfl, -⟩ := hbt.bs
       clear hbt hb3)
    | (go_at_call 140; refine (c28 _ ((HA2.out.on HB3.out).on (bel1 _ _)) _ (HV3.out.bs.on (bel1 _ _)) (tab_on (tab_on HT2.out HB3.out) (bel1 _ _))).mono ?_; rintro e w4 ⟨rfl, hA4, hK4⟩
       have HA4 := Lib.hid hA4
       have HK4 := Lib.hid ((Kept.bel (d := d) (pb := pb) (mb := mb) (bel_then HB3.out (bel1 w3 (.cells #[.int .i64 1, .int .i64 slots, .slice p3 note.length q3] 141)))).trans hK4)
       have HK4' := Lib.hid hK4
       have k4 := (hK4.block w3.heap.size (by simp) (by have := lts.out; have := HK2.out.size; have := HB3.out.size; omega) (by have := lts.out; have := HK2.out.size; have := HB3.out.size; omega) (by have := lts.out; have := HK2.out.size; have := HB3.out.size; omega)).trans (heap_alloc_last w3 (.cells #[.int .i64 1, .int .i64 slots, .slice p3 note.length q3] 141))
       obtain ⟨y0, y1, y2, -⟩ := three_of k4
       clear hA4 hK4 k4))
  go_ret2
  have z2 := HK2.out.size
  have z3 := HB3.out.size
  have z4 := HK4.out.size
  have z5 := HK4'.out.size
  rw [World.size_alloc] at z5
  have lt := lts.out
  have hx4 : BsX (X4 d pb mb w4.heap.size) w3 (.slice p3 note.length q3) note := bsX_own HV3.out (fun k hk => by
    rcases hk with hk | hk | hk | hk <;> omega)
  have hKw : Kp (X4 d pb mb w4.heap.size) w3 w4 := Kp.kept ((Kept.bel (bel1 w3 (.cells #[.int .i64 1, .int .i64 slots, .slice p3 note.length q3] 141))).trans HK4'.out) (.inl rfl) (.inr (.inl rfl)) (.inr (.inr (.inl rfl)))
  have hKall : Kept d pb mb w1 w4 := HK2.out.trans HK4.out
  refine ⟨w4.heap.size, rfl, by omega, HA4.out.on (bel1 _ _), ?_, hKall.trans (Kept.bel (bel1 _ _)), tab_on (tab_kept HT.out HA.out hKall) (bel1 _ _)⟩
  exact { blk := ⟨_, heap_alloc_last w4 _, (hx4.kp hKw).on (bel1 _ _)⟩, ne := ⟨by omega, by omega, by omega⟩, pos := by show (0 : Int) < 1; decide, top := by show (1 : Int) ≤ 1099511627776; decide, sl := ⟨hs1, hs2⟩, us := Nat.zero_le _, nt := by show note.length ≤ 112; omega }
theorem results_tmp4 {fn : Func} {a b c d : Tmp} (h : fn.results = #[.tmp a, .tmp b, .tmp c, .tmp d]) (tmps : Array Value) (w : World) :
    (results fn tmps).run Tryz.prog w = .ok (.tuple #[tmps.getD a undef, tmps.getD b undef, tmps.getD c undef, tmps.getD d undef]) w := by
  simp only [results, h]
  simp
/-- What Open answers. -/
def OpR (e : Int) (slots : Nat) (note : List UInt8) (x : Cs × Nat) (d pb mb : Nat) (s : Dsk) (w : World) (r : Ending) (w' : World) : Prop :=
  ∃ l np nc p c, r = .returned (.tuple #[.pointer (some ⟨l, 0, none⟩), .slice np note.length nc, .slice p x.1.length c, .int .i64 0]) ∧ w.heap.size ≤ l ∧ Bs w' (.slice np note.length nc) note ∧ (sl (sl bytesE)).E (fun _ => False) w' (.slice p x.1.length c) x.1 ∧
    At w' d pb mb s ∧ LAt w' d pb mb l ⟨e, slots, note, x.2, true, false⟩ ∧ Below w.heap.size w w' ∧ TabOk w'
set_option maxHeartbeats 4000000 in
set_option maxRecDepth 100000 in
theorem open44 (w : World) (d pb mb : Nat) (s : Dsk) (h : At w d pb mb s) (hT : TabOk w) (hd : s.down = false) (e : Int) (slots : Nat) (note : List UInt8) (hh : s.head = (e, slots, note)) (he : 0 < e) (he2 : e ≤ 1099511627776) (hs1 : 1 ≤ slots) (hs2 : slots ≤ 4096) (hsN : 2 + slots ≤ s.N) (hnl : note.length ≤ 112) :
    Calls Tryz.prog 44 #[.pointer (some ⟨d, 0, none⟩)] w (OpR e slots note (rds s.fr e slots (slots + 1) 0) d pb mb s w) := by
  have c24 := madeDisk98 w d pb mb s h
  have c10 := down38 w d pb mb s h
  rw [hd] at c10
  have c36 := newest99 w d pb mb s h hT hd (by omega)
  rw [hh] at c36
  unfold HdR at c36
  simp only at c36
  have HA := Lib.hid h
  have HT := Lib.hid hT
  have lts := Lib.hid h.lts
  have c38 := fun (W : World) (l : Nat) (hA : At W d pb mb s) (hL : LAt W d pb mb l ⟨e, slots, note, 0, true, false⟩) (hTT : TabOk W) => readCommits101 W d pb mb l s _ hA hL hTT hd hsN
  simp only [Nat.sub_zero] at c38
  obtain ⟨X, hX⟩ : ∃ X, rds s.fr e slots (slots + 1) 0 = X := ⟨_, rfl⟩
  rw [hX]
  rw [hX] at c38
  unfold RcsR at c38
  obtain ⟨cs, us⟩ := X
  simp only at c38
  have cIs := fun (W : World) (q : Value) (hq : q.oneCell' = true) => isRight100 W e (.int .i64 slots) q rfl hq
  rw [decide_eq_true he] at cIs
  clear h hT hh hX
  go_enter Tryz.func44, Tryz.ntmps44
  go_wp2_with (first
    | (go_at_call 98; refine c24.mono ?_; rintro r w1 ⟨rfl, hw⟩; subst hw)
    | (go_at_call 38; refine c10.mono ?_; rintro r w1 ⟨rfl, hw⟩; subst hw)
    | (go_at_call 99; refine c36.mono ?_; rintro r w2 ⟨p2, q2, rfl, hbs, hfr, hb2⟩
       have HB2 := Lib.hid hb2
       have HBS := Lib.hid hbs
       have HFR := Lib.hid hfr
       have HF3 := Lib.hid (heap_alloc_last w2 (.cells #[.int .i64 e, .int .i64 slots, .slice p2 note.length q2] 141))
       clear hbs hfr hb2)
    | (go_at_call 100; refine (cIs _ _ rfl).mono ?_; rintro r w4 ⟨rfl, hw4⟩
       have HB4 : Hid (Below (w2.alloc (.cells #[.int .i64 e, .int .i64 slots, .slice p2 note.length q2] 141)).heap.size (w2.alloc (.cells #[.int .i64 e, .int .i64 slots, .slice p2 note.length q2] 141)) w4) := by show Below _ _ _; rw [hw4]; exact bel1 _ _
       have k4 := blk_on HB4.out HF3.out
       obtain ⟨y0, y1, y2, -⟩ := three_of k4
       have HK4 := Lib.hid k4
       have hB24 : Below w2.heap.size w2 w4 := bel_then (bel1 w2 _) HB4.out
       have HB14 := Lib.hid (bel_then HB2.out hB24)
       have hz := hB24.size
       have hx4 : BsX (X4 d pb mb w4.heap.size) w2 (.slice p2 note.length q2) note := bsX_fresh HBS.out HFR.out (fun k hk => by
         have := lts.out
         rcases hk with hk | hk | hk | hk <;> omega)
       have HX5 := Lib.hid ((hx4.on hB24).on (bel1 w4 (.cells #[.pointer (some ⟨d, 0, none⟩), .int .i64 e, .int .i64 slots, .slice p2 note.length q2, .int .i64 0, .bool true, .bool false] 144)))
       have HL5 : Hid (LAt (w4.alloc (.cells #[.pointer (some ⟨d, 0, none⟩), .int .i64 e, .int .i64 slots, .slice p2 note.length q2, .int .i64 0, .bool true, .bool false] 144)) d pb mb w4.heap.size ⟨e, slots, note, 0, true, false⟩) := by
         have := lts.out
         have := HB14.out.size
         exact { blk := ⟨_, heap_alloc_last w4 _, HX5.out⟩, ne := ⟨by omega, by omega, by omega⟩, pos := he, top := he2, sl := ⟨hs1, hs2⟩, us := Nat.zero_le _, nt := hnl }
       have HB15 := Lib.hid (bel_then HB14.out (bel1 w4 (.cells #[.pointer (some ⟨d, 0, none⟩), .int .i64 e, .int .i64 slots, .slice p2 note.length q2, .int .i64 0, .bool true, .bool false] 144)))
       clear hw4 k4 hB24 hx4 hz)
    | (go_at_call 101; refine (c38 _ _ (HA.out.on HB15.out) HL5.out (tab_on HT.out HB15.out)).mono ?_; rintro r w6 ⟨p6, q6, rfl, hE6, hA6, hL6, hK6⟩
       have HE6 := Lib.hid hE6
       have HA6 := Lib.hid hA6
       have HL6 := Lib.hid hL6
       have HK6 := Lib.hid hK6
       have k6 := (hK6.block w2.heap.size (Nat.lt_of_lt_of_le (Array.getElem?_eq_some_iff.1 HK4.out).1 (bel1 w4 _).size) (by have := (Array.getElem?_eq_some_iff.1 HK4.out).1; omega)).trans (blk_on (bel1 w4 _) HK4.out)
       obtain ⟨-, -, x2, -⟩ := three_of k6
       have HX6 := Lib.hid (HX5.out.kp (hK6.mono fun k hk => .inr (.inr (.inr hk))))
       clear hE6 hA6 hL6 hK6 k6)
    | (go_at_call 62; refine (clone62 _ _ note HX6.out.1 (by omega)).mono ?_; rintro r w7 ⟨v7, rfl, hbt, hb7⟩
       have HBT := Lib.hid hbt.bs
       have HB7 := Lib.hid hb7
       obtain ⟨p7, q7, rfl, -⟩ := hbt.bs
       clear hbt hb7))
  refine bodyPost_ret (v := .tuple #[.pointer (some ⟨w4.heap.size, 0, none⟩), .slice p7 note.length q7, .slice p6 cs.length q6, .int .i64 0]) ?_ rfl ?_
  · exact results_tmp4 Tryz.results44 _ _
  · have hsz := HB14.out.size
    have hKb : Below w1.heap.size (w4.alloc (.cells #[.pointer (some ⟨d, 0, none⟩), .int .i64 e, .int .i64 slots, .slice p2 note.length q2, .int .i64 0, .bool true, .bool false] 144)) w6 := HK6.out.below (fun k hk => by subst hk; exact hsz) HB15.out.size
    have hB6 := (HB15.out.trans hKb).trans (HB7.out.mono (Nat.le_trans HB15.out.size HK6.out.size))
    exact ⟨w4.heap.size, p7, q7, p6, q6, rfl, hsz, HBT.out, (sl (sl bytesE)).on HE6.out HB7.out, HA6.out.on HB7.out, HL6.out.on HB7.out, hB6, tab_on HT.out hB6⟩
end Go.Proofs.YtfakgfmgofblgaaGreatDoor
namespace Go.Proofs.YtfakgfmgofblgaaGreatDoor

/-- What stays in a sector. -/
def Dsk.bas (s : Dsk) (i : Nat) : Option (List UInt8) := if s.tn i then none else some (s.st i)
theorem con_bas {s : Dsk} {i : Nat} (h : s.ca i = none) : s.con i = s.bas i := by unfold Dsk.con Dsk.bas; rw [h]
theorem con_ca {s : Dsk} {i : Nat} {b : List UInt8} (h : s.ca i = some b) : s.con i = some b := by unfold Dsk.con; rw [h]
/-- The power is there, and nothing is in the cache. -/
structure Cl (s : Dsk) : Prop where
  down : s.down = false
  ca : ∀ i, s.ca i = none
  fu : 0 ≤ s.fuse
/-- s' is s with other bytes in the cache. -/
structure Sm (s s' : Dsk) : Prop where
  N : s'.N = s.N
  st : s'.st = s.st
  tn : s'.tn = s.tn
theorem Sm.refl (s : Dsk) : Sm s s := ⟨rfl, rfl, rfl⟩
theorem Sm.trans {a b c : Dsk} (h : Sm a b) (k : Sm b c) : Sm a c := ⟨k.N.trans h.N, k.st.trans h.st, k.tn.trans h.tn⟩
theorem Sm.bas {s s' : Dsk} (h : Sm s s') (i : Nat) : s'.bas i = s.bas i := by unfold Dsk.bas; rw [h.tn, h.st]
theorem call_is {s : Dsk} (h : 0 ≤ s.fuse) (hd : s.down = false) : (s.fuse = 1 ∧ s.call.1 = 9 ∧ Sm s s.call.2 ∧ s.call.2.ca = s.ca ∧ s.call.2.down = true) ∨
    (s.fuse ≠ 1 ∧ s.call.1 = 0 ∧ Sm s s.call.2 ∧ s.call.2.ca = s.ca ∧ s.call.2.down = false ∧ 0 ≤ s.call.2.fuse ∧ (s.fuse = 0 → s.call.2.fuse = 0)) := by
  unfold Dsk.call
  by_cases h1 : s.fuse = 1
  · rw [if_pos h1]
    exact .inl ⟨h1, rfl, ⟨rfl, rfl, rfl⟩, rfl, rfl⟩
  · rw [if_neg h1]
    by_cases h2 : 0 < s.fuse
    · rw [if_pos h2]
      exact .inr ⟨h1, rfl, ⟨rfl, rfl, rfl⟩, rfl, hd, by show 0 ≤ s.fuse - 1; omega, fun e => by omega⟩
    · rw [if_neg h2]
      exact .inr ⟨h1, rfl, ⟨rfl, rfl, rfl⟩, rfl, hd, h, fun e => e⟩
theorem put_is {s : Dsk} (h : 0 ≤ s.fuse) (hd : s.down = false) {a : Nat} (ha : a < s.N) {k n : Int} {pay : List UInt8} (ho : okF k n pay = true) :
    ((s.put a k n pay).1 = 9 ∧ s.fuse = 1 ∧ Sm s (s.put a k n pay).2 ∧ (s.put a k n pay).2.ca = s.ca ∧ (s.put a k n pay).2.down = true) ∨
    ((s.put a k n pay).1 = 0 ∧ Sm s (s.put a k n pay).2 ∧ (s.put a k n pay).2.ca = upd s.ca a (some (sealB k n pay)) ∧ (s.put a k n pay).2.down = false ∧ 0 ≤ (s.put a k n pay).2.fuse ∧ (s.fuse = 0 → (s.put a k n pay).2.fuse = 0)) := by
  have hr : s.reach (a : Int) = 0 := by
    unfold Dsk.reach Dsk.hasB
    rw [hd]
    simp
    omega
  unfold Dsk.put
  rw [ho, if_pos rfl]
  unfold Dsk.write
  rw [hr, if_neg (fun e => e rfl), Int.toNat_natCast]
  rcases call_is h hd with ⟨h1, h2, h3, h4, h5⟩ | ⟨h1, h2, h3, h4, h5, h6, h7⟩
  · rw [if_pos (by rw [h2]; decide)]
    exact .inl ⟨h2, h1, h3, h4, h5⟩
  · rw [if_neg (fun e => e h2)]
    refine .inr ⟨rfl, ⟨h3.N, h3.st, h3.tn⟩, ?_, h5, h6, h7⟩
    simp only [h4]
theorem flush_is {s : Dsk} (h : 0 ≤ s.fuse) (hd : s.down = false) :
    (s.flush.1 = 9 ∧ s.fuse = 1 ∧ Sm s s.flush.2 ∧ s.flush.2.ca = s.ca ∧ s.flush.2.down = true) ∨
    (s.flush.1 = 0 ∧ Cl s.flush.2 ∧ s.flush.2.N = s.N ∧ (∀ i, s.flush.2.con i = s.con i) ∧ (s.fuse = 0 → s.flush.2.fuse = 0)) := by
  unfold Dsk.flush
  rw [hd, if_neg (by decide)]
  rcases call_is h hd with ⟨h1, h2, h3, h4, h5⟩ | ⟨h1, h2, h3, h4, h5, h6, h7⟩
  · rw [if_pos (by rw [h2]; decide)]
    exact .inl ⟨h2, h1, h3, h4, h5⟩
  · rw [if_neg (fun e => e h2)]
    refine .inr ⟨rfl, ⟨h5, fun _ => rfl, h6⟩, h3.N, fun i => ?_, h7⟩
    unfold Dsk.con Dsk.flushed
    simp only [h4, h3.st, h3.tn]
    cases hc : s.ca i with
    | some b => simp
    | none => simp
/-- The cache, with x frames of a commit. -/
def caF (e : Int) (u : Nat) (t : List UInt8) (x i : Nat) : Option (List UInt8) :=
  if 2 + u ≤ i ∧ i < 2 + u + x then some (sealB (fof e t u (i - (2 + u))).1 (fof e t u (i - (2 + u))).2.1 (pc t (i - (2 + u)))) else none
theorem fof_ok (e : Int) (t : List UInt8) (u x : Nat) (he : 0 ≤ e) : okF (fof e t u x).1 (fof e t u x).2.1 (pc t x) = true := by
  have h4 := pc_le t x
  have h1 : (fof e t u x).1 = 3 ∨ (fof e t u x).1 = 2 := by
    unfold fof
    by_cases h : x + 1 = pn t
    · left; simp only [if_pos h]
    · right; simp only [if_neg h]
  have h2 : 0 ≤ (fof e t u x).2.1 := by show 0 ≤ e * 65536 + ((u + x : Nat) : Int); omega
  exact okF_of (by rcases h1 with h | h <;> rw [h] <;> decide) (by rcases h1 with h | h <;> rw [h] <;> decide) h2 h4
theorem caF_zero (e : Int) (u : Nat) (t : List UInt8) (i : Nat) : caF e u t 0 i = none := by unfold caF; rw [if_neg (by omega)]
theorem caF_succ (e : Int) (u : Nat) (t : List UInt8) (x : Nat) : caF e u t (x + 1) = upd (caF e u t x) (2 + (u + x)) (some (sealB (fof e t u x).1 (fof e t u x).2.1 (pc t x))) := by
  funext i
  unfold upd caF
  by_cases h : i = 2 + (u + x)
  · subst h
    rw [if_pos (by omega), if_pos rfl, show 2 + (u + x) - (2 + u) = x by omega]
  · rw [if_neg h]
    by_cases h2 : 2 + u ≤ i ∧ i < 2 + u + x
    · rw [if_pos h2, if_pos (by omega)]
    · rw [if_neg h2, if_neg (by omega)]
theorem wrf_is {s : Dsk} (h : Cl s) {e : Int} (he : 0 ≤ e) {u : Nat} {t : List UInt8} : ∀ x, 2 + u + x ≤ s.N →
    ((s.wrf e u t x).1 = 0 ∧ Sm s (s.wrf e u t x).2 ∧ (s.wrf e u t x).2.ca = caF e u t x ∧ (s.wrf e u t x).2.down = false ∧ 0 ≤ (s.wrf e u t x).2.fuse ∧ (s.fuse = 0 → (s.wrf e u t x).2.fuse = 0)) ∨
    ((s.wrf e u t x).1 = 9 ∧ Sm s (s.wrf e u t x).2 ∧ (∃ y, y ≤ x ∧ (s.wrf e u t x).2.ca = caF e u t y) ∧ (s.wrf e u t x).2.down = true ∧ s.fuse ≠ 0)
  | 0, _ => .inl ⟨rfl, Sm.refl s, by funext i; rw [caF_zero]; exact h.ca i, h.down, h.fu, fun e => e⟩
  | x + 1, hN => by
    rcases wrf_is (u := u) (t := t) h he x (by omega) with ⟨h1, h2, h3, h4, h5, h6⟩ | ⟨h1, h2, ⟨y, hy, h3⟩, h4, h5⟩
    · have hp := put_is h5 h4 (a := 2 + (u + x)) (by rw [h2.N]; omega) (fof_ok e t u x he)
      have ew : s.wrf e u t (x + 1) = (s.wrf e u t x).2.put ((2 + (u + x) : Nat) : Int) (fof e t u x).1 (fof e t u x).2.1 (pc t x) := by rw [Dsk.wrf, if_neg (fun e => e h1)]
      rw [← ew] at hp
      rcases hp with ⟨p1, p2, p3, p4, p5⟩ | ⟨p1, p2, p3, p4, p5, p6⟩
      · exact .inr ⟨p1, h2.trans p3, ⟨x, by omega, by rw [p4, h3]⟩, p5, fun e0 => by have := h6 e0; omega⟩
      · exact .inl ⟨p1, h2.trans p2, by rw [p3, h3, caF_succ], p4, p5, fun e0 => p6 (h6 e0)⟩
    · have ew : s.wrf e u t (x + 1) = s.wrf e u t x := by rw [Dsk.wrf, if_pos (by rw [h1]; decide)]
      rw [ew]
      exact .inr ⟨h1, h2, ⟨y, by omega, h3⟩, h4, h5⟩
/-- What a commit comes to: it is there, or the power went. -/
theorem wrc_is {s : Dsk} (h : Cl s) {e : Int} (he : 0 ≤ e) {u : Nat} {t : List UInt8} (hN : 2 + u + pn t ≤ s.N) :
    ((s.wrc e u t).1 = 0 ∧ Cl (s.wrc e u t).2 ∧ (s.wrc e u t).2.N = s.N ∧ (∀ i, (s.wrc e u t).2.con i = (caF e u t (pn t) i).or (s.con i)) ∧ (s.fuse = 0 → (s.wrc e u t).2.fuse = 0)) ∨
    ((s.wrc e u t).1 = 9 ∧ Sm s (s.wrc e u t).2 ∧ (∃ y, y ≤ pn t ∧ (s.wrc e u t).2.ca = caF e u t y) ∧ (s.wrc e u t).2.down = true ∧ s.fuse ≠ 0) := by
  unfold Dsk.wrc
  rcases wrf_is (u := u) (t := t) h he (pn t) hN with ⟨h1, h2, h3, h4, h5, h6⟩ | ⟨h1, h2, h3, h4, h5⟩
  · rw [if_neg (fun e => e h1)]
    rcases flush_is h5 h4 with ⟨p1, p2, p3, p4, p5⟩ | ⟨p1, p2, p3, p4, p5⟩
    · exact .inr ⟨p1, h2.trans p3, ⟨pn t, Nat.le_refl _, by rw [p4, h3]⟩, p5, fun e0 => by have := h6 e0; omega⟩
    · refine .inl ⟨p1, p2, p3.trans h2.N, fun i => ?_, fun e0 => p5 (h6 e0)⟩
      rw [p4]
      have hc := congrFun h3 i
      cases hx : caF e u t (pn t) i with
      | some b => rw [hx] at hc; rw [con_ca hc]; rfl
      | none => rw [hx] at hc; rw [con_bas hc, h2.bas, ← con_bas (h.ca i)]; rfl
  · rw [if_pos (by rw [h1]; decide)]
    exact .inr ⟨h1, h2, h3, h4, h5⟩
/-- The cache with a head. -/
theorem hwr_is {s : Dsk} (h : Cl s) {e : Int} (he : 0 ≤ e) {slots : Nat} {note : List UInt8} (hl : (hpay slots note).length ≤ 112) (hN : 2 ≤ s.N) :
    ((s.hwr e slots note).1 = 0 ∧ Cl (s.hwr e slots note).2 ∧ (s.hwr e slots note).2.N = s.N ∧ (∀ i, (s.hwr e slots note).2.con i = if i = (e % 2).toNat then some (sealB 1 e (hpay slots note)) else s.con i) ∧ (s.fuse = 0 → (s.hwr e slots note).2.fuse = 0)) ∨
    ((s.hwr e slots note).1 = 9 ∧ Sm s (s.hwr e slots note).2 ∧ (∀ i, (s.hwr e slots note).2.ca i = none ∨ i = (e % 2).toNat ∧ (s.hwr e slots note).2.ca i = some (sealB 1 e (hpay slots note))) ∧ (s.hwr e slots note).2.down = true ∧ s.fuse ≠ 0) := by
  have ho : okF 1 e (hpay slots note) = true := okF_of (by decide) (by decide) he hl
  have hp := put_is h.fu h.down (a := (e % 2).toNat) (by omega) ho
  rw [show (((e % 2).toNat : Nat) : Int) = e % 2 by omega] at hp
  unfold Dsk.hwr
  generalize s.put (e % 2) 1 e (hpay slots note) = q at *
  rcases hp with ⟨p1, p2, p3, p4, p5⟩ | ⟨p1, p2, p3, p4, p5, p6⟩
  · rw [if_pos (by rw [p1]; decide)]
    exact .inr ⟨p1, p3, fun i => .inl (by rw [p4]; exact h.ca i), p5, by omega⟩
  · rw [if_neg (fun e => e p1)]
    have hca : ∀ i, q.2.ca i = if i = (e % 2).toNat then some (sealB 1 e (hpay slots note)) else none := fun i => by
      rw [p3]
      unfold upd
      by_cases hi : i = (e % 2).toNat
      · rw [if_pos hi, if_pos hi]
      · rw [if_neg hi, if_neg hi]; exact h.ca i
    rcases flush_is p5 p4 with ⟨f1, f2, f3, f4, f5⟩ | ⟨f1, f2, f3, f4, f5⟩
    · refine .inr ⟨f1, p2.trans f3, fun i => ?_, f5, fun e0 => by have := p6 e0; omega⟩
      rw [f4, hca i]
      by_cases hi : i = (e % 2).toNat
      · rw [if_pos hi]; exact .inr ⟨hi, rfl⟩
      · rw [if_neg hi]; exact .inl rfl
    · refine .inl ⟨f1, f2, f3.trans p2.N, fun i => ?_, fun e0 => f5 (p6 e0)⟩
      rw [f4]
      have hc := hca i
      by_cases hi : i = (e % 2).toNat
      · rw [if_pos hi] at hc ⊢; exact con_ca hc
      · rw [if_neg hi] at hc ⊢; rw [con_bas hc, p2.bas, ← con_bas (h.ca i)]
end Go.Proofs.YtfakgfmgofblgaaGreatDoor
namespace Go.Proofs.YtfakgfmgofblgaaGreatDoor

abbrev Cn := Nat → Option (List UInt8)
def frC (C : Cn) : Fra := fun i => frO (C (2 + i))
def hdC (C : Cn) (N : Nat) : Hd := newest (hdOf (frO (C 0)) 0 N) (hdOf (frO (C 1)) 1 N)
/-- In these sectors stand a log's head and these commits, and nothing that is taken for more. -/
structure Gd (C : Cn) (N : Nat) (e : Int) (slots : Nat) (note : List UInt8) (u : Nat) (had : Cs) : Prop where
  e1 : 1 ≤ e
  e2 : e ≤ 1099511627776
  s1 : 1 ≤ slots
  s2 : slots ≤ 4096
  sN : 2 + slots ≤ N
  pl : (hpay slots note).length ≤ 112
  hd : frO (C (e % 2).toNat) = some (1, e, hpay slots note)
  oth : ∀ K n P, frO (C ((e + 1) % 2).toNat) = some (K, n, P) → n < e
  lay : laid (frC C) e 0 had u
  le : u ≤ slots
  old : ∀ i, u ≤ i → i < slots → ∀ K n P, frC C i = some (K, n, P) → n < e * 65536
  ok : ∀ c ∈ had, okC c
theorem frO_seal {k n : Int} {pay : List UInt8} (hn : n ≤ 9223372036854775807) (ho : okF k n pay = true) : frO (some (sealB k n pay)) = some (k, n, pay) := by
  obtain ⟨h1, h2, h3, h4⟩ := open_seal hn ho
  rw [frO_yes h4, h1, h2, h3]
theorem hdOf_own {e : Int} {slots N a : Nat} {note : List UInt8} (he1 : 1 ≤ e) (he2 : e ≤ 1099511627776) (hs1 : 1 ≤ slots) (hs2 : slots ≤ 4096) (hN : 2 + slots ≤ N) (ha : e % 2 = a) :
    hdOf (some (1, e, hpay slots note)) a N = (e, slots, note) := by
  unfold hdOf
  simp only
  rw [if_pos ⟨by decide, he1, he2⟩]
  unfold hpay
  rw [tk_there slots (by omega)]
  simp only
  rw [if_pos ⟨⟨hs1, hs2, hN⟩, ha⟩, List.drop_left]
theorem hdOf_lt {f : Option (Int × Int × List UInt8)} {e : Int} {a N : Nat} (h : ∀ K n P, f = some (K, n, P) → n < e) (he : 0 < e) : (hdOf f a N).1 < e := by
  cases f with
  | none => exact he
  | some y =>
    obtain ⟨K, n, P⟩ := y
    have hn := h K n P rfl
    unfold hdOf
    simp only
    split
    · cases tk P with
      | none => exact he
      | some z =>
        obtain ⟨m, k⟩ := z
        simp only
        split
        · exact hn
        · exact he
    · exact he
theorem head_of {C : Cn} {N : Nat} {e : Int} {slots : Nat} {note : List UInt8} (he1 : 1 ≤ e) (he2 : e ≤ 1099511627776) (hs1 : 1 ≤ slots) (hs2 : slots ≤ 4096) (hN : 2 + slots ≤ N)
    (hd : frO (C (e % 2).toNat) = some (1, e, hpay slots note)) (oth : ∀ K n P, frO (C ((e + 1) % 2).toNat) = some (K, n, P) → n < e) : hdC C N = (e, slots, note) := by
  unfold hdC newest
  have hm : e % 2 = 0 ∨ e % 2 = 1 := by omega
  rcases hm with hm | hm
  · rw [hm] at hd
    rw [show (e + 1) % 2 = 1 by omega] at oth
    have h0 : hdOf (frO (C 0)) 0 N = (e, slots, note) := by
      have : frO (C 0) = some (1, e, hpay slots note) := hd
      rw [this]
      exact hdOf_own he1 he2 hs1 hs2 hN hm
    have h1 := hdOf_lt (a := 1) (N := N) oth (by omega)
    rw [h0, if_pos (by exact h1)]
  · rw [hm] at hd
    rw [show (e + 1) % 2 = 0 by omega] at oth
    have h0 : hdOf (frO (C 1)) 1 N = (e, slots, note) := by
      have : frO (C 1) = some (1, e, hpay slots note) := hd
      rw [this]
      exact hdOf_own he1 he2 hs1 hs2 hN hm
    have h1 := hdOf_lt (a := 0) (N := N) oth (by omega)
    rw [h0, if_neg (by show ¬ (e < _); exact Int.not_lt.2 (Int.le_of_lt h1))]
theorem Gd.head {C : Cn} {N : Nat} {e : Int} {slots : Nat} {note : List UInt8} {u : Nat} {had : Cs} (h : Gd C N e slots note u had) : hdC C N = (e, slots, note) :=
  head_of h.e1 h.e2 h.s1 h.s2 h.sN h.hd h.oth
theorem Gd.stop {C : Cn} {N : Nat} {e : Int} {slots : Nat} {note : List UInt8} {u : Nat} {had : Cs} (h : Gd C N e slots note u had) : rdc (frC C) e (slots - u) u = none := by
  by_cases hu : u < slots
  · refine rdc_unfit (fun K n P hf => ?_) _
    have := h.old u (Nat.le_refl _) hu K n P hf
    omega
  · rw [show slots - u = 0 by omega]
    rfl
/-- What is told of sectors that stand so. -/
theorem Gd.tells {C : Cn} {N : Nat} {e : Int} {slots : Nat} {note : List UInt8} {u : Nat} {had : Cs} (h : Gd C N e slots note u had) : rds (frC C) e slots (slots + 1) 0 = (had, u) := by
  refine rds_laid h.le h.stop had 0 (slots + 1) h.lay ?_ h.ok
  have := laid_le had 0 h.lay
  have := h.le
  omega
theorem caF_out {e : Int} {u : Nat} {t : List UInt8} {x i : Nat} (h : i < 2 + u ∨ 2 + u + x ≤ i) : caF e u t x i = none := by
  unfold caF
  rw [if_neg (by omega)]
theorem caF_in {e : Int} {u : Nat} {t : List UInt8} {x y : Nat} (h : y < x) : caF e u t x (2 + (u + y)) = some (sealB (fof e t u y).1 (fof e t u y).2.1 (pc t y)) := by
  unfold caF
  rw [if_pos (by omega), show 2 + (u + y) - (2 + u) = y by omega]
theorem fof_seal {e : Int} {t : List UInt8} {u y : Nat} (he : 0 ≤ e) (he2 : e ≤ 1099511627776) (hu : u + y ≤ 4096) : frO (some (sealB (fof e t u y).1 (fof e t u y).2.1 (pc t y))) = some (fof e t u y) := by
  have h2 : (fof e t u y).2.1 = e * 65536 + ((u + y : Nat) : Int) := rfl
  rw [frO_seal (by rw [h2]; omega) (fof_ok e t u y he)]
  rfl
/-- A commit that was flushed. -/
theorem Gd.append {C C' : Cn} {N : Nat} {e : Int} {slots : Nat} {note : List UInt8} {u : Nat} {had : Cs} {c : Rs} (h : Gd C N e slots note u had) (hc : okC c) (hfit : u + pn (cby c) ≤ slots) (hC : ∀ i, C' i = (caF e u (cby c) (pn (cby c)) i).or (C i)) :
    Gd C' N e slots note (u + pn (cby c)) (had ++ [c]) := by
  have hsame : ∀ i, i < 2 + u ∨ 2 + u + pn (cby c) ≤ i → C' i = C i := fun i hi => by rw [hC i, caF_out hi]; rfl
  have hs2 := h.s2
  refine { h with hd := ?_, oth := ?_, lay := ?_, le := hfit, old := ?_, ok := ?_ }
  · rw [hsame _ (.inl (by omega))]; exact h.hd
  · rw [hsame _ (.inl (by omega))]; exact h.oth
  · refine laid_snoc (fun x hx => ?_) had 0 (laid_same had 0 h.lay fun y _ hy => ?_)
    · show frO (C' (2 + (u + x))) = _
      rw [hC, caF_in hx]
      exact fof_seal (by have := h.e1; omega) h.e2 (by omega)
    · show frO (C' (2 + y)) = frO (C (2 + y))
      rw [hsame _ (.inl (by omega))]
  · intro i hi1 hi2 K n P hf
    refine h.old i (by omega) hi2 K n P ?_
    have : frC C' i = frC C i := by show frO (C' (2 + i)) = frO (C (2 + i)); rw [hsame _ (.inr (by omega))]
    rw [← this]; exact hf
  · intro x hx
    rcases List.mem_append.1 hx with hx | hx
    · exact h.ok x hx
    · simp at hx; subst hx; exact hc
/-- A new epoch that was flushed. -/
theorem Gd.reset {C C' : Cn} {N : Nat} {e : Int} {slots : Nat} {note : List UInt8} {u : Nat} {had : Cs} (h : Gd C N e slots note u had) (he : e < 1099511627776) (hC : ∀ i, C' i = if i = ((e + 1) % 2).toNat then some (sealB 1 (e + 1) (hpay slots note)) else C i) :
    Gd C' N (e + 1) slots note 0 [] := by
  have he1 := h.e1
  have hs2 := h.s2
  have hslot : ∀ i, C' (2 + i) = C (2 + i) := fun i => by rw [hC, if_neg (by omega)]
  refine { h with e1 := by omega, e2 := by omega, hd := ?_, oth := ?_, lay := rfl, le := Nat.zero_le _, old := ?_, ok := fun c hc => (by cases hc) }
  · rw [hC, if_pos rfl]
    exact frO_seal (by omega) (okF_of (by decide) (by decide) (by omega) h.pl)
  · intro K n P hf
    rw [hC, if_neg (by omega), show ((e + 1 + 1) % 2).toNat = (e % 2).toNat by omega, h.hd] at hf
    injection hf with hf
    injection hf with h1 h2
    injection h2 with h2 h3
    omega
  · intro i _ hi K n P hf
    have hf' : frC C i = some (K, n, P) := by
      have : frC C' i = frC C i := by show frO (C' (2 + i)) = frO (C (2 + i)); rw [hslot]
      rw [← this]; exact hf
    by_cases hu : i < u
    · obtain ⟨K', P', hl⟩ := laid_at had 0 h.lay i (Nat.zero_le _) hu
      rw [hl] at hf'
      injection hf' with hf'
      injection hf' with h1 h2
      injection h2 with h2 h3
      omega
    · have := h.old i (by omega) hi K n P hf'
      omega
/-- What is told of sectors. -/
def Tells (C : Cn) (N : Nat) (m : Cs) : Prop := ∃ e slots note u, hdC C N = (e, slots, note) ∧ 0 < e ∧ e ≤ 1099511627776 ∧ 1 ≤ slots ∧ slots ≤ 4096 ∧ 2 + slots ≤ N ∧ (hpay slots note).length ≤ 112 ∧ rds (frC C) e slots (slots + 1) 0 = (m, u)
theorem Gd.tell {C : Cn} {N : Nat} {e : Int} {slots : Nat} {note : List UInt8} {u : Nat} {had : Cs} (h : Gd C N e slots note u had) : Tells C N had :=
  ⟨e, slots, note, u, h.head, by have := h.e1; omega, h.e2, h.s1, h.s2, h.sN, h.pl, h.tells⟩
/-- A commit that was cut off: what was, or what would be. -/
theorem Gd.cut {C C' : Cn} {N : Nat} {e : Int} {slots : Nat} {note : List UInt8} {u : Nat} {had : Cs} {c : Rs} (h : Gd C N e slots note u had) (hc : okC c) (hfit : u + pn (cby c) ≤ slots) (y : Nat) (hy : y ≤ pn (cby c))
    (hC : ∀ i, i < N → C' i = C i ∨ (caF e u (cby c) y i).isSome = true ∧ (C' i = caF e u (cby c) y i ∨ C' i = none)) : Tells C' N had ∨ Tells C' N (had ++ [c]) := by
  have hs2 := h.s2
  have hsN := h.sN
  have he1 := h.e1
  have hout : ∀ i, i < N → (i < 2 + u ∨ 2 + u + y ≤ i) → C' i = C i := fun i hi ho => by
    rcases hC i hi with h1 | ⟨h1, -⟩
    · exact h1
    · rw [caF_out ho] at h1; cases h1
  have hhd : frO (C' (e % 2).toNat) = some (1, e, hpay slots note) := by rw [hout _ (by omega) (.inl (by omega))]; exact h.hd
  have hoth : ∀ K n P, frO (C' ((e + 1) % 2).toNat) = some (K, n, P) → n < e := by rw [hout _ (by omega) (.inl (by omega))]; exact h.oth
  have hlay : laid (frC C') e 0 had u := laid_same had 0 h.lay fun j _ hj => by
    have hle := h.le
    show frO (C' (2 + j)) = frO (C (2 + j))
    rw [hout _ (by omega) (.inl (by omega))]
  have hfr : ∀ x, x < pn (cby c) → frC C' (u + x) = some (fof e (cby c) u x) ∨ unfit (frC C') e (u + x) := fun x hx => by
    have hN : 2 + (u + x) < N := by omega
    rcases hC _ hN with h1 | ⟨h1, h2 | h2⟩
    · refine .inr fun K n P hf => ?_
      have hf2 : frC C (u + x) = some (K, n, P) := by
        have : frC C' (u + x) = frC C (u + x) := by show frO (C' (2 + (u + x))) = _; rw [h1]; rfl
        rw [← this]; exact hf
      have := h.old (u + x) (by omega) (by omega) K n P hf2
      omega
    · have hxy : x < y := by
        by_cases hxy : x < y
        · exact hxy
        · rw [caF_out (.inr (by omega))] at h1; cases h1
      rw [caF_in hxy] at h2
      refine .inl ?_
      show frO (C' (2 + (u + x))) = _
      rw [h2]
      exact fof_seal (by omega) h.e2 (by omega)
    · refine .inr fun K n P hf => ?_
      have : frC C' (u + x) = none := by show frO (C' (2 + (u + x))) = _; rw [h2]; rfl
      rw [this] at hf; cases hf
  by_cases hall : ∀ x, x < pn (cby c) → frC C' (u + x) = some (fof e (cby c) u x)
  · right
    refine ⟨e, slots, note, u + pn (cby c), head_of h.e1 h.e2 h.s1 h.s2 h.sN hhd hoth, by omega, h.e2, h.s1, h.s2, h.sN, h.pl, ?_⟩
    have hl2 := laid_snoc (c := c) hall had 0 hlay
    refine rds_laid hfit ?_ (had ++ [c]) 0 (slots + 1) hl2 ?_ ?_
    · by_cases hu : u + pn (cby c) < slots
      · refine rdc_unfit (fun K n P hf => ?_) _
        have hf2 : frC C (u + pn (cby c)) = some (K, n, P) := by
          have : frC C' (u + pn (cby c)) = frC C (u + pn (cby c)) := by show frO (C' _) = frO (C _); rw [hout _ (by omega) (.inr (by omega))]
          rw [← this]; exact hf
        have := h.old _ (by omega) hu K n P hf2
        omega
      · rw [show slots - (u + pn (cby c)) = 0 by omega]
        rfl
    · have := laid_le _ _ hl2
      omega
    · intro x hx
      rcases List.mem_append.1 hx with hx | hx
      · exact h.ok x hx
      · simp at hx; subst hx; exact hc
  · left
    refine ⟨e, slots, note, u, head_of h.e1 h.e2 h.s1 h.s2 h.sN hhd hoth, by omega, h.e2, h.s1, h.s2, h.sN, h.pl, ?_⟩
    have hex : ∃ x0, x0 < pn (cby c) ∧ (∀ z, z < x0 → frC C' (u + z) = some (fof e (cby c) u z)) ∧ unfit (frC C') e (u + x0) := by
      have key : ∀ m, m ≤ pn (cby c) → (∀ z, z < m → frC C' (u + z) = some (fof e (cby c) u z)) ∨ ∃ x0, x0 < m ∧ (∀ z, z < x0 → frC C' (u + z) = some (fof e (cby c) u z)) ∧ unfit (frC C') e (u + x0) := by
        intro m
        induction m with
        | zero => intro _; exact .inl fun z hz => absurd hz (Nat.not_lt_zero _)
        | succ m ih =>
          intro hm
          rcases ih (by omega) with h1 | ⟨x0, h1, h2, h3⟩
          · rcases hfr m (by omega) with h4 | h4
            · refine .inl fun z hz => ?_
              by_cases hzm : z = m
              · subst hzm; exact h4
              · exact h1 z (by omega)
            · exact .inr ⟨m, by omega, h1, h4⟩
          · exact .inr ⟨x0, by omega, h2, h3⟩
      rcases key _ (Nat.le_refl _) with h1 | h1
      · exact absurd h1 hall
      · exact h1
    obtain ⟨x0, hx0, hb, hun⟩ := hex
    refine rds_laid h.le (rdc_part hx0 hb hun _) had 0 (slots + 1) hlay ?_ h.ok
    have := laid_le had 0 hlay
    have := h.le
    omega
/-- A new epoch that was cut off. -/
theorem Gd.recut {C C' : Cn} {N : Nat} {e : Int} {slots : Nat} {note : List UInt8} {u : Nat} {had : Cs} (h : Gd C N e slots note u had) (he : e < 1099511627776)
    (hC : ∀ i, i < N → C' i = C i ∨ i = ((e + 1) % 2).toNat ∧ (C' i = some (sealB 1 (e + 1) (hpay slots note)) ∨ C' i = none)) : Tells C' N had ∨ Tells C' N [] := by
  have hsN := h.sN
  have he1 := h.e1
  have hs1 := h.s1
  have hs2 := h.s2
  have hout : ∀ i, i < N → i ≠ ((e + 1) % 2).toNat → C' i = C i := fun i hi hne => by
    rcases hC i hi with h1 | ⟨h1, -⟩
    · exact h1
    · exact absurd h1 hne
  have hslot : ∀ i, i < slots → frC C' i = frC C i := fun i hi => by show frO (C' (2 + i)) = frO (C (2 + i)); rw [hout _ (by omega) (by omega)]
  have hown : frO (C' (e % 2).toNat) = some (1, e, hpay slots note) := by rw [hout _ (by omega) (by omega)]; exact h.hd
  have hle := h.le
  have hold : (∀ K n P, frO (C' ((e + 1) % 2).toNat) = some (K, n, P) → n < e) → Tells C' N had := fun hoth => by
    refine ⟨e, slots, note, u, head_of h.e1 h.e2 h.s1 h.s2 h.sN hown hoth, by omega, h.e2, h.s1, h.s2, h.sN, h.pl, ?_⟩
    have hlay : laid (frC C') e 0 had u := laid_same had 0 h.lay fun j _ hj => hslot j (by omega)
    refine rds_laid h.le ?_ had 0 (slots + 1) hlay (by have := laid_le had 0 hlay; omega) h.ok
    by_cases hu : u < slots
    · refine rdc_unfit (fun K n P hf => ?_) _
      rw [hslot u hu] at hf
      have := h.old u (Nat.le_refl _) hu K n P hf
      omega
    · rw [show slots - u = 0 by omega]
      rfl
  rcases hC ((e + 1) % 2).toNat (by omega) with h1 | ⟨-, h1 | h1⟩
  · exact .inl (hold (by rw [h1]; exact h.oth))
  · right
    refine ⟨e + 1, slots, note, 0, head_of (by omega) (by omega) h.s1 h.s2 h.sN ?_ ?_, by omega, by omega, h.s1, h.s2, h.sN, h.pl, ?_⟩
    · rw [h1]
      exact frO_seal (by omega) (okF_of (by decide) (by decide) (by omega) h.pl)
    · intro K n P hf
      rw [show ((e + 1 + 1) % 2).toNat = (e % 2).toNat by omega, hown] at hf
      injection hf with hf
      injection hf with h1 h2
      injection h2 with h2 h3
      omega
    · refine rds_laid (Nat.zero_le _) ?_ [] 0 (slots + 1) rfl (by simp) (fun c hc => (by cases hc))
      refine rdc_unfit (fun K n P hf => ?_) _
      rw [hslot 0 (by omega)] at hf
      by_cases hu : 0 < u
      · obtain ⟨K', P', hl⟩ := laid_at had 0 h.lay 0 (Nat.le_refl _) hu
        rw [hl] at hf
        injection hf with hf
        injection hf with h1 h2
        injection h2 with h2 h3
        omega
      · have := h.old 0 (by omega) (by omega) K n P hf
        omega
  · exact .inl (hold (fun K n P hf => by rw [h1] at hf; cases hf))
end Go.Proofs.YtfakgfmgofblgaaGreatDoor
namespace Go.Proofs.YtfakgfmgofblgaaGreatDoor
open Go.RowKit

/-- A log that stands well over a disk that does, with these commits. -/
structure Wl (s : Dsk) (L : Lg) (had : Cs) : Prop where
  cl : Cl s
  gd : Gd s.con s.N L.e L.slots L.note L.used had
  br : L.broken = false
theorem Wl.pl {s : Dsk} {L : Lg} {had : Cs} (h : Wl s L had) : (hpay L.slots L.note).length ≤ 112 := h.gd.pl
theorem made_cl (N : Nat) : Cl (made N) := ⟨rfl, fun _ => rfl, Int.le_refl _⟩
theorem made_con (N i : Nat) : (made N).con i = some zer := rfl
theorem frO_zer : frO (some zer) = none := frO_no (by rw [open_zero]; decide)
theorem write_zero (N : Nat) (hN : 1 ≤ N) : ((made N).write 0 zer).1 = 0 ∧ ((made N).write 0 zer).2.down = false ∧ ((made N).write 0 zer).2.fuse = 0 ∧ Sm (made N) ((made N).write 0 zer).2 ∧ ((made N).write 0 zer).2.ca = upd (fun _ => none) 0 (some zer) := by
  have hr : (made N).reach 0 = 0 := by
    unfold Dsk.reach Dsk.hasB made
    simp
    omega
  unfold Dsk.write
  rw [if_neg (fun e => e hr)]
  have hc : (made N).call = (0, { made N with calls := wrap64 ((made N).calls + 1) }) := by
    unfold Dsk.call
    rw [if_neg (by show ¬ ((0 : Int) = 1); decide), if_neg (by show ¬ ((0 : Int) < 0); decide)]
  rw [hc, if_neg (fun e => e rfl)]
  exact ⟨rfl, rfl, rfl, ⟨rfl, rfl, rfl⟩, rfl⟩
theorem fmt_is (N slots : Nat) (note : List UInt8) (hs1 : 1 ≤ slots) (hs2 : slots ≤ 4096) (hsN : 2 + slots ≤ N) (hpl : (hpay slots note).length ≤ 112) :
    ((made N).write 0 zer).1 = 0 ∧ (((made N).write 0 zer).2.hwr 1 slots note).1 = 0 ∧ (((made N).write 0 zer).2.hwr 1 slots note).2.N = N ∧ (((made N).write 0 zer).2.hwr 1 slots note).2.fuse = 0 ∧ Wl (((made N).write 0 zer).2.hwr 1 slots note).2 ⟨1, slots, note, 0, false, false⟩ [] := by
  obtain ⟨w1, w2, w3, w4, w5⟩ := write_zero N (by omega)
  generalize ((made N).write 0 zer).2 = s1 at *
  have hN1 : s1.N = N := w4.N
  have hp := put_is (s := s1) (by rw [w3]; decide) w2 (a := 1) (by omega) (k := 1) (n := 1) (pay := hpay slots note) (okF_of (by decide) (by decide) (by decide) hpl)
  rw [show (((1 : Nat) : Int)) = (1 : Int) % 2 by decide] at hp
  unfold Dsk.hwr
  generalize s1.put ((1 : Int) % 2) 1 1 (hpay slots note) = q at *
  rcases hp with ⟨p1, p2, -⟩ | ⟨p1, p2, p3, p4, p5, p6⟩
  · omega
  · rw [if_neg (fun e => e p1)]
    have hf := p6 w3
    rcases flush_is p5 p4 with ⟨f1, f2, -⟩ | ⟨f1, f2, f3, f4, f5⟩
    · omega
    · have hcon : ∀ i, q.2.flush.2.con i = if i = 1 then some (sealB 1 1 (hpay slots note)) else some zer := fun i => by
        rw [f4]
        have hca : q.2.ca i = if i = 1 then some (sealB 1 1 (hpay slots note)) else if i = 0 then some zer else none := by
          rw [p3, w5]
          rfl
        by_cases h1 : i = 1
        · rw [if_pos h1] at hca ⊢
          exact con_ca hca
        · rw [if_neg h1] at hca ⊢
          by_cases h0 : i = 0
          · rw [if_pos h0] at hca; exact con_ca hca
          · rw [if_neg h0] at hca
            rw [con_bas hca, p2.bas, w4.bas]
            rfl
      refine ⟨w1, f1, by rw [f3, p2.N, hN1], f5 hf, f2, ?_, rfl⟩
      have hNN : q.2.flush.2.N = N := by rw [f3, p2.N, hN1]
      refine { e1 := by show (1 : Int) ≤ 1; decide, e2 := by show (1 : Int) ≤ 1099511627776; decide, s1 := hs1, s2 := hs2, sN := by rw [hNN]; exact hsN, pl := hpl, hd := ?_, oth := ?_, lay := rfl, le := Nat.zero_le _, old := ?_, ok := fun c hc => (by cases hc) }
      · show frO (q.2.flush.2.con 1) = _
        rw [hcon, if_pos rfl]
        exact frO_seal (by decide) (okF_of (by decide) (by decide) (by decide) hpl)
      · intro K n P hx
        have hx : frO (q.2.flush.2.con 0) = some (K, n, P) := hx
        rw [hcon, if_neg (by decide), frO_zer] at hx
        cases hx
      · intro i _ _ K n P hx
        have hx : frO (q.2.flush.2.con (2 + i)) = some (K, n, P) := hx
        rw [hcon, if_neg (by omega), frO_zer] at hx
        cases hx
/-- What Append of a log that stands well comes to. -/
theorem apd_is {s : Dsk} {L : Lg} {had : Cs} (h : Wl s L had) (hst : L.stale = false) (rs : Rs) (ho : okC rs) :
    (apd s L rs = (6, L, s)) ∨
    ((apd s L rs).1 = 0 ∧ (apd s L rs).2.1 = { L with used := L.used + pn (cby rs) } ∧ (apd s L rs).2.2.N = s.N ∧ (s.fuse = 0 → (apd s L rs).2.2.fuse = 0) ∧ Wl (apd s L rs).2.2 (apd s L rs).2.1 (had ++ [rs])) ∨
    ((apd s L rs).1 = 9 ∧ s.fuse ≠ 0 ∧ (apd s L rs).2.2.down = true ∧ (apd s L rs).2.2.N = s.N ∧ L.used + pn (cby rs) ≤ L.slots ∧ Sm s (apd s L rs).2.2 ∧ ∃ y, y ≤ pn (cby rs) ∧ (apd s L rs).2.2.ca = caF L.e L.used (cby rs) y) := by
  have hg := h.gd
  unfold apd
  rw [h.br, if_neg (by decide), hst, if_neg (by decide)]
  by_cases hf : L.slots < L.used + pn (cby rs)
  · rw [if_pos hf]; exact .inl rfl
  · rw [if_neg hf]
    have hsN := hg.sN
    have he1 := hg.e1
    rcases wrc_is (u := L.used) (t := cby rs) h.cl (by omega : (0 : Int) ≤ L.e) (by omega) with ⟨p1, p2, p3, p4, p5⟩ | ⟨p1, p2, p3, p4, p5⟩
    · rw [if_neg (fun e => e p1)]
      refine .inr (.inl ⟨rfl, rfl, p3, p5, p2, ?_, rfl⟩)
      show Gd (s.wrc L.e L.used (cby rs)).2.con (s.wrc L.e L.used (cby rs)).2.N L.e L.slots L.note (L.used + pn (cby rs)) (had ++ [rs])
      rw [p3]
      exact hg.append ho (by omega) p4
    · rw [if_pos (by rw [p1]; decide)]
      exact .inr (.inr ⟨p1, p5, p4, p2.N, by omega, p2, p3⟩)
/-- What Reset of a log that stands well comes to. -/
theorem rst_is {s : Dsk} {L : Lg} {had : Cs} (h : Wl s L had) :
    (rst s L = (6, L, s)) ∨
    ((rst s L).1 = 0 ∧ (rst s L).2.1 = { L with e := L.e + 1, used := 0, stale := false } ∧ (rst s L).2.2.N = s.N ∧ (s.fuse = 0 → (rst s L).2.2.fuse = 0) ∧ Wl (rst s L).2.2 (rst s L).2.1 []) ∨
    ((rst s L).1 = 9 ∧ s.fuse ≠ 0 ∧ (rst s L).2.2.down = true ∧ (rst s L).2.2.N = s.N ∧ L.e < 1099511627776 ∧ Sm s (rst s L).2.2 ∧ ∀ i, (rst s L).2.2.ca i = none ∨ i = ((L.e + 1) % 2).toNat ∧ (rst s L).2.2.ca i = some (sealB 1 (L.e + 1) (hpay L.slots L.note))) := by
  have hg := h.gd
  have he1 := hg.e1
  have he2 := hg.e2
  have hsN := hg.sN
  unfold rst
  rw [h.br, if_neg (by decide)]
  by_cases he : L.e = 1099511627776
  · rw [if_pos he]; exact .inl rfl
  · rw [if_neg he]
    rcases hwr_is (slots := L.slots) (note := L.note) h.cl (by omega : (0 : Int) ≤ L.e + 1) hg.pl (by omega) with ⟨p1, p2, p3, p4, p5⟩ | ⟨p1, p2, p3, p4, p5⟩
    · rw [if_neg (fun e => e p1)]
      refine .inr (.inl ⟨rfl, rfl, p3, p5, p2, ?_, rfl⟩)
      show Gd (s.hwr (L.e + 1) L.slots L.note).2.con (s.hwr (L.e + 1) L.slots L.note).2.N (L.e + 1) L.slots L.note 0 []
      rw [p3]
      exact hg.reset (by omega) p4
    · rw [if_pos (by rw [p1]; decide)]
      exact .inr (.inr ⟨p1, p5, p4, p2.N, by omega, p2, p3⟩)
end Go.Proofs.YtfakgfmgofblgaaGreatDoor
namespace Go.Proofs.YtfakgfmgofblgaaGreatDoor
open Go.RowKit

structure Ba where
  tk : List UInt8
  ws : List Int
def I64 (x : Int) : Prop := -9223372036854775808 ≤ x ∧ x ≤ 9223372036854775807
structure Ba.Ok (b : Ba) : Prop where
  t : b.tk.length = 256
  w : b.ws.length = 4
  r : ∀ x ∈ b.ws, I64 x
def wds (l : List Int) : List Value := l.map fun x => Value.int .i64 x
def Ba.cells (b : Ba) : List Value := enc b.tk ++ wds b.ws
theorem Ba.len {b : Ba} (h : b.Ok) : b.cells.length = 260 := by simp [Ba.cells, len_enc, wds, h.t, h.w]
theorem Ba.one (b : Ba) : ∀ v ∈ b.cells, v.oneCell' = true := by
  intro v hv
  rcases List.mem_append.1 hv with h | h
  · exact one_enc _ v h
  · obtain ⟨x, -, rfl⟩ := List.mem_map.1 h
    rfl
def Ba.at (b : Ba) (i : Nat) : Nat := (b.tk.getD i 0).toNat
theorem Ba.at_lt (b : Ba) (i : Nat) : b.at i < 256 := UInt8.toNat_lt _
theorem Ba.cell {b : Ba} (h : b.Ok) {i : Nat} (hi : i < 256) : b.cells[i]? = some (.int .u8 (b.at i)) := by
  unfold Ba.cells Ba.at
  rw [List.getElem?_append_left (by rw [len_enc, h.t]; exact hi)]
  unfold enc
  rw [List.getElem?_map, List.getElem?_eq_getElem (by rw [h.t]; exact hi), List.getD_eq_getElem?_getD, List.getElem?_eq_getElem (by rw [h.t]; exact hi)]
  rfl
def Ba.wd (b : Ba) (i : Nat) : Int := b.ws.getD i 0
theorem Ba.word {b : Ba} (h : b.Ok) {i : Nat} (hi : i < 4) : b.cells[256 + i]? = some (.int .i64 (b.wd i)) := by
  unfold Ba.cells Ba.wd wds
  rw [List.getElem?_append_right (by rw [len_enc, h.t]; omega), len_enc, h.t, Nat.add_sub_cancel_left, List.getElem?_map, List.getElem?_eq_getElem (by rw [h.w]; exact hi), List.getD_eq_getElem?_getD, List.getElem?_eq_getElem (by rw [h.w]; exact hi)]
  rfl
theorem Ba.wd_ok {b : Ba} (h : b.Ok) (i : Nat) : I64 (b.wd i) := by
  unfold Ba.wd
  rw [List.getD_eq_getElem?_getD]
  by_cases hi : i < b.ws.length
  · rw [List.getElem?_eq_getElem hi]; exact h.r _ (List.getElem_mem hi)
  · rw [List.getElem?_eq_none (by omega)]; exact ⟨by decide, by decide⟩

/-! ### Which pages are not free -/

def Ba.has (b : Ba) (p : Nat) : Bool := (b.at (p / 8)).testBit (p % 8)
def orb (c : UInt8) (k : Nat) : UInt8 := UInt8.ofNat (c.toNat ||| 2 ^ k)
def anb (c : UInt8) (k : Nat) : UInt8 := UInt8.ofNat (c.toNat &&& (255 - 2 ^ k))
theorem pow8 {k : Nat} (h : k < 8) : 2 ^ k < 256 := Nat.pow_lt_pow_right (a := 2) (m := k) (n := 8) (by decide) h
theorem orb_toNat (c : UInt8) {k : Nat} (h : k < 8) : (orb c k).toNat = c.toNat ||| 2 ^ k := by
  unfold orb
  rw [UInt8.toNat_ofNat']
  exact Nat.mod_eq_of_lt (Nat.or_lt_two_pow (n := 8) (UInt8.toNat_lt c) (pow8 h))
theorem anb_toNat (c : UInt8) (k : Nat) : (anb c k).toNat = c.toNat &&& (255 - 2 ^ k) := by
  unfold anb
  rw [UInt8.toNat_ofNat']
  exact Nat.mod_eq_of_lt (Nat.and_lt_two_pow (n := 8) _ (Nat.lt_of_le_of_lt (Nat.sub_le _ _) (by decide)))
def Ba.put (b : Ba) (p : Nat) : Ba := { b with tk := b.tk.set (p / 8) (orb (b.tk.getD (p / 8) 0) (p % 8)) }
def Ba.take (b : Ba) (p : Nat) : Ba := { b with tk := b.tk.set (p / 8) (anb (b.tk.getD (p / 8) 0) (p % 8)) }
def Ba.setW (b : Ba) (i : Nat) (n : Int) : Ba := { b with ws := b.ws.set i n }
theorem Ba.put_ok {b : Ba} (h : b.Ok) (p : Nat) : (b.put p).Ok := ⟨by simp [Ba.put, h.t], h.w, h.r⟩
theorem Ba.take_ok {b : Ba} (h : b.Ok) (p : Nat) : (b.take p).Ok := ⟨by simp [Ba.take, h.t], h.w, h.r⟩
theorem Ba.setW_ok {b : Ba} (h : b.Ok) (i : Nat) {n : Int} (hn : I64 n) : (b.setW i n).Ok := ⟨h.t, by simp [Ba.setW, h.w], fun x hx => by
  rcases List.mem_or_eq_of_mem_set hx with hx | hx
  · exact h.r x hx
  · rw [hx]; exact hn⟩
theorem set_at (l : List UInt8) (i j : Nat) (c : UInt8) (hi : i < l.length) : ((l.set i c).getD j 0).toNat = if j = i then c.toNat else (l.getD j 0).toNat := by
  rw [List.getD_eq_getElem?_getD, List.getElem?_set]
  by_cases h : i = j
  · subst h; simp [hi]
  · rw [if_neg h, if_neg (fun e => h e.symm), List.getD_eq_getElem?_getD]
theorem Ba.has_put {b : Ba} (h : b.Ok) {p : Nat} (hp : p < 2048) (q : Nat) : (b.put p).has q = (decide (q = p) || b.has q) := by
  unfold Ba.has Ba.at Ba.put
  simp only
  rw [set_at _ _ _ _ (by rw [h.t]; omega)]
  by_cases hq : q / 8 = p / 8
  · rw [if_pos hq, orb_toNat _ (by omega), Nat.testBit_or, hq, Nat.testBit_two_pow, Bool.or_comm]
    congr 1
    rw [decide_eq_decide]
    omega
  · rw [if_neg hq]
    rw [show decide (q = p) = false by simp; omega, Bool.false_or]
theorem Ba.has_take {b : Ba} (h : b.Ok) {p : Nat} (hp : p < 2048) (q : Nat) : (b.take p).has q = (!decide (q = p) && b.has q) := by
  unfold Ba.has Ba.at Ba.take
  simp only
  rw [set_at _ _ _ _ (by rw [h.t]; omega)]
  by_cases hq : q / 8 = p / 8
  · rw [if_pos hq, anb_toNat, Nat.testBit_and, hq, show 255 - 2 ^ (p % 8) = 2 ^ 8 - (2 ^ (p % 8) + 1) by omega, Nat.testBit_two_pow_sub_succ (pow8 (by omega)), Nat.testBit_two_pow, Bool.and_comm]
    congr 1
    rw [show decide (q % 8 < 8) = true by simp; omega, Bool.true_and]
    congr 1
    rw [decide_eq_decide]
    omega
  · rw [if_neg hq]
    rw [show decide (q = p) = false by simp; omega]
    rfl
theorem Ba.has_setW (b : Ba) (i : Nat) (n : Int) (q : Nat) : (b.setW i n).has q = b.has q := rfl
/-- How one byte tells of a page. -/
theorem has_bit {a : Nat} (ha : a < 256) {k : Nat} (_hk : k < 8) : (bits .and .u8 ((a / 2 ^ k : Nat) : Int) 1 == 1) = a.testBit k := by
  have h1 : a / 2 ^ k < 256 := Nat.lt_of_le_of_lt (Nat.div_le_self _ _) ha
  have := and_u8 (b := 1) h1 (by decide)
  rw [Nat.and_one_is_mod] at this
  rw [show ((1 : Nat) : Int) = 1 from rfl] at this
  rw [this, Nat.testBit_eq_decide_div_mod_eq]
  by_cases h : a / 2 ^ k % 2 = 1
  · rw [h]; simp
  · have h0 : a / 2 ^ k % 2 = 0 := by omega
    rw [h0]; simp
theorem andnot_u8 {a : Nat} (ha : a < 256) {k : Nat} (hk : k < 8) : bits .andNot .u8 (a : Int) ((2 ^ k : Nat) : Int) = ((a &&& (255 - 2 ^ k) : Nat) : Int) := by
  have e : bits .andNot .u8 (a : Int) ((2 ^ k : Nat) : Int) = IntKind.u8.wrap ((BitVec.ofInt 8 (a : Int) &&& ~~~ BitVec.ofInt 8 ((2 ^ k : Nat) : Int)).toNat : Int) := rfl
  rw [e, BitVec.toNat_and, BitVec.toNat_not, ofInt_toNat 8 a ha, ofInt_toNat 8 _ (pow8 hk)]
  rw [show 2 ^ 8 - 1 - 2 ^ k = 255 - 2 ^ k from rfl]
  exact wrap_u8 (Nat.and_lt_two_pow (n := 8) a (Nat.lt_of_le_of_lt (Nat.sub_le _ _) (by decide)))

/-! ### The least page that is free; how many are not -/

/-- How many bits of a byte are 1. -/
def pop (a : Nat) : Nat := ((List.range 8).filter fun k => a.testBit k).length
/-- The lowest bit that is 0. -/
def low (a : Nat) : Nat := ((List.range 8).find? fun k => !a.testBit k).getD 8
def lfr : List UInt8 → Nat → Nat
  | [], i => i * 8
  | c :: r, i => if c.toNat = 255 then lfr r (i + 1) else i * 8 + low c.toNat
def Ba.least (b : Ba) : Nat := lfr b.tk 0
def Ba.count (b : Ba) : Nat := (b.tk.map fun c => pop c.toNat).sum
theorem pop_le (a : Nat) : pop a ≤ 8 := by
  have := List.length_filter_le (fun k => a.testBit k) (List.range 8)
  simpa [pop] using this
theorem Ba.count_le {b : Ba} (h : b.Ok) : b.count ≤ 2048 := by
  have key : ∀ l : List UInt8, (l.map fun c => pop c.toNat).sum ≤ 8 * l.length := fun l => by
    induction l with
    | nil => simp
    | cons c r ih => have := pop_le c.toNat; simp only [List.map_cons, List.sum_cons, List.length_cons]; omega
  have := key b.tk
  rw [h.t] at this
  exact this

/-! ### The bytes of the page 0 -/

def tlen (pages : Nat) : Nat := (pages + 7) / 8
def wbyte (n : Int) (i : Nat) : UInt8 := UInt8.ofNat ((n / 2 ^ (8 * (7 - i))) % 256).toNat
def wb8 (n : Int) : List UInt8 := (List.range 8).map (wbyte n)
theorem wb8_len (n : Int) : (wb8 n).length = 8 := by simp [wb8]
theorem wbyte_toNat (n : Int) (i : Nat) : ((wbyte n i).toNat : Int) = (n / 2 ^ (8 * (7 - i))) % 256 := by
  unfold wbyte
  rw [UInt8.toNat_ofNat']
  have h1 := Int.emod_nonneg (n / 2 ^ (8 * (7 - i))) (show (256 : Int) ≠ 0 by decide)
  have h2 := Int.emod_lt_of_pos (n / 2 ^ (8 * (7 - i))) (show (0 : Int) < 256 by decide)
  omega
def Ba.bytes (b : Ba) (pages : Nat) : List UInt8 := b.tk.take (tlen pages) ++ (b.ws.map wb8).flatten
theorem flat8 (l : List Int) : (l.map wb8).flatten.length = 8 * l.length := by
  induction l with
  | nil => rfl
  | cons x r ih => simp only [List.map_cons, List.flatten_cons, List.length_append, wb8_len, ih, List.length_cons]; omega
theorem Ba.bytes_len {b : Ba} (h : b.Ok) {pages : Nat} (hp : pages ≤ 2048) : (b.bytes pages).length = tlen pages + 32 := by
  unfold Ba.bytes
  rw [List.length_append, flat8, h.w, List.length_take, h.t]
  unfold tlen
  omega
/-- What one byte more makes of a word. -/
def rdw (l : List UInt8) : Int := l.foldl (fun a c => wrap64 (a * 256 + c.toNat)) 0
theorem rdw_snoc (l : List UInt8) (c : UInt8) : rdw (l ++ [c]) = wrap64 (rdw l * 256 + c.toNat) := by simp [rdw]
theorem rdw_step (q : Int) : wrap64 (wrap64 (q / 256) * 256 + q % 256) = wrap64 q := by unfold wrap64; omega
theorem p2_0 : (2 : Int) ^ (8 * (7 - 0)) = 72057594037927936 := by simp
theorem p2_1 : (2 : Int) ^ (8 * (7 - 1)) = 281474976710656 := by simp
theorem p2_2 : (2 : Int) ^ (8 * (7 - 2)) = 1099511627776 := by simp
theorem p2_3 : (2 : Int) ^ (8 * (7 - 3)) = 4294967296 := by simp
theorem p2_4 : (2 : Int) ^ (8 * (7 - 4)) = 16777216 := by simp
theorem p2_5 : (2 : Int) ^ (8 * (7 - 5)) = 65536 := by simp
theorem p2_6 : (2 : Int) ^ (8 * (7 - 6)) = 256 := by simp
theorem p2_7 : (2 : Int) ^ (8 * (7 - 7)) = 1 := by simp
theorem rdw_next {l : List UInt8} {c : UInt8} {q p : Int} (h : rdw l = wrap64 p) (hp : q / 256 = p) (hc : (c.toNat : Int) = q % 256) : rdw (l ++ [c]) = wrap64 q := by
  rw [rdw_snoc, h, hc, ← hp, rdw_step]
theorem wb8_eq (n : Int) : wb8 n = [] ++ [wbyte n 0] ++ [wbyte n 1] ++ [wbyte n 2] ++ [wbyte n 3] ++ [wbyte n 4] ++ [wbyte n 5] ++ [wbyte n 6] ++ [wbyte n 7] := by
  have h8 : List.range 8 = [0, 1, 2, 3, 4, 5, 6, 7] := by decide
  unfold wb8
  rw [h8]
  simp only [List.map_cons, List.map_nil, List.nil_append, List.cons_append]
theorem wrap_back {n m : Int} (h : I64 n) (hm : n % 18446744073709551616 = m) : wrap64 m = n := by
  obtain ⟨h1, h2⟩ := h
  unfold wrap64
  omega
theorem rdw_nil {m : Int} (h1 : 0 ≤ m) (h2 : m < 18446744073709551616) : rdw [] = wrap64 (m / 18446744073709551616) := by
  rw [show m / 18446744073709551616 = 0 by omega]
  show (0 : Int) = wrap64 0
  unfold wrap64
  omega
theorem wb0 {n m : Int} (hm : n % 18446744073709551616 = m) : ((wbyte n 0).toNat : Int) = (m / 72057594037927936) % 256 := by rw [wbyte_toNat, p2_0, ← hm]; omega
theorem wb1 {n m : Int} (hm : n % 18446744073709551616 = m) : ((wbyte n 1).toNat : Int) = (m / 281474976710656) % 256 := by rw [wbyte_toNat, p2_1, ← hm]; omega
theorem wb2 {n m : Int} (hm : n % 18446744073709551616 = m) : ((wbyte n 2).toNat : Int) = (m / 1099511627776) % 256 := by rw [wbyte_toNat, p2_2, ← hm]; omega
theorem wb3 {n m : Int} (hm : n % 18446744073709551616 = m) : ((wbyte n 3).toNat : Int) = (m / 4294967296) % 256 := by rw [wbyte_toNat, p2_3, ← hm]; omega
theorem wb4 {n m : Int} (hm : n % 18446744073709551616 = m) : ((wbyte n 4).toNat : Int) = (m / 16777216) % 256 := by rw [wbyte_toNat, p2_4, ← hm]; omega
theorem wb5 {n m : Int} (hm : n % 18446744073709551616 = m) : ((wbyte n 5).toNat : Int) = (m / 65536) % 256 := by rw [wbyte_toNat, p2_5, ← hm]; omega
theorem wb6 {n m : Int} (hm : n % 18446744073709551616 = m) : ((wbyte n 6).toNat : Int) = (m / 256) % 256 := by rw [wbyte_toNat, p2_6, ← hm]; omega
theorem wb7 {n m : Int} (hm : n % 18446744073709551616 = m) : ((wbyte n 7).toNat : Int) = (m / 1) % 256 := by rw [wbyte_toNat, p2_7, ← hm]; omega
theorem rdw_wb8 {n : Int} (h : I64 n) : rdw (wb8 n) = n := by
  obtain ⟨m, hm⟩ : ∃ m, n % 18446744073709551616 = m := ⟨_, rfl⟩
  have r0 := rdw_nil (m := m) (by omega) (by omega)
  have r1 := rdw_next (q := m / 72057594037927936) r0 (by omega) (wb0 hm)
  have r2 := rdw_next (q := m / 281474976710656) r1 (by omega) (wb1 hm)
  have r3 := rdw_next (q := m / 1099511627776) r2 (by omega) (wb2 hm)
  have r4 := rdw_next (q := m / 4294967296) r3 (by omega) (wb3 hm)
  have r5 := rdw_next (q := m / 16777216) r4 (by omega) (wb4 hm)
  have r6 := rdw_next (q := m / 65536) r5 (by omega) (wb5 hm)
  have r7 := rdw_next (q := m / 256) r6 (by omega) (wb6 hm)
  have r8 := rdw_next (q := m / 1) r7 (by omega) (wb7 hm)
  rw [wb8_eq, r8, show m / 1 = m by omega]
  exact wrap_back h hm
/-- A page 0 of so many pages. -/
structure Ba.Fit (b : Ba) (pages : Nat) : Prop where
  ok : b.Ok
  out : ∀ p, pages ≤ p → p < 2048 → b.has p = false
  zero : b.has 0 = true
theorem byte_zero {a : Nat} (ha : a < 256) (h : ∀ k, k < 8 → a.testBit k = false) : a = 0 := by
  apply Nat.eq_of_testBit_eq
  intro k
  rw [Nat.zero_testBit]
  by_cases hk : k < 8
  · exact h k hk
  · exact Nat.testBit_lt_two_pow (Nat.lt_of_lt_of_le ha (Nat.pow_le_pow_right (n := 2) (by decide) (by omega : 8 ≤ k)))
theorem Ba.Fit.rest {b : Ba} {pages : Nat} (h : b.Fit pages) : b.tk.drop (tlen pages) = List.replicate (256 - tlen pages) 0 := by
  apply List.ext_getElem
  · rw [List.length_drop, h.ok.t, List.length_replicate]
  · intro i h1 h2
    rw [List.getElem_drop, List.getElem_replicate]
    rw [List.length_drop, h.ok.t] at h1
    have hb : b.at (tlen pages + i) = 0 := byte_zero (b.at_lt _) fun k hk => by
      have := h.out (8 * (tlen pages + i) + k) (by unfold tlen; omega) (by omega)
      unfold Ba.has at this
      rw [show (8 * (tlen pages + i) + k) / 8 = tlen pages + i by omega, show (8 * (tlen pages + i) + k) % 8 = k by omega] at this
      exact this
    unfold Ba.at at hb
    rw [List.getD_eq_getElem?_getD, List.getElem?_eq_getElem (by rw [h.ok.t]; omega)] at hb
    exact UInt8.toNat_inj.1 hb
theorem Ba.Fit.tk {b : Ba} {pages : Nat} (h : b.Fit pages) (hp : pages ≤ 2048) : (b.bytes pages).take (tlen pages) ++ List.replicate (256 - tlen pages) 0 = b.tk := by
  unfold Ba.bytes
  have hl : (b.tk.take (tlen pages)).length = tlen pages := by rw [List.length_take, h.ok.t]; unfold tlen; omega
  rw [List.take_append_of_le_length (by omega), List.take_of_length_le (by omega), ← h.rest, List.take_append_drop]
theorem flat_at : ∀ (l : List Int) (i : Nat) (hi : i < l.length), ((l.map wb8).flatten.drop (8 * i)).take 8 = wb8 l[i]
  | x :: r, 0, _ => by
    simp only [List.map_cons, List.flatten_cons, Nat.mul_zero, List.drop_zero, List.getElem_cons_zero]
    rw [List.take_append_of_le_length (by rw [wb8_len]; exact Nat.le_refl _), List.take_of_length_le (by rw [wb8_len]; exact Nat.le_refl _)]
  | x :: r, i + 1, hi => by
    simp only [List.map_cons, List.flatten_cons, List.getElem_cons_succ]
    rw [show 8 * (i + 1) = (wb8 x).length + 8 * i by rw [wb8_len]; omega, List.drop_append]
    simp only [Nat.add_sub_cancel_left]
    rw [List.drop_of_length_le (by omega), List.nil_append]
    exact flat_at r i (by simpa using hi)
theorem Ba.bytes_word {b : Ba} (h : b.Ok) {pages : Nat} (hp : pages ≤ 2048) {i : Nat} (hi : i < 4) : ((b.bytes pages).drop (tlen pages + 8 * i)).take 8 = wb8 (b.wd i) := by
  have hl : (b.tk.take (tlen pages)).length = tlen pages := by rw [List.length_take, h.t]; unfold tlen; omega
  unfold Ba.bytes Ba.wd
  rw [List.drop_append, List.drop_of_length_le (by omega), List.nil_append, hl, Nat.add_sub_cancel_left, flat_at _ _ (by rw [h.w]; exact hi)]
  rw [List.getD_eq_getElem?_getD, List.getElem?_eq_getElem (by rw [h.w]; exact hi)]
  rfl
end Go.Proofs.YtfakgfmgofblgaaGreatDoor
