/-
  What readCommit and readCommits of package wal do.
  What readCommits of package wal does.
-/
import Derived.Test.YtnclhjjhobbbjaaDoorZRp
namespace Go.Proofs.YtnclhjjhobbbjaaDoor
open Go.RowKit Go.Maps
set_option linter.unusedVariables false      -- a walk need not use every condition
attribute [local go_sem ↓] Go.wp_at_zero Go.wp_at_succ

theorem rdc_is (F : Fra) (e : Int) (k i : Nat) : rdc F e k i = (rc ((pcs F e k i).getD []).flatten).map fun r => (r, ((pcs F e k i).getD []).length) := by
  unfold rdc
  cases pcs F e k i with
  | none => rfl
  | some ps => rfl
theorem fr_le (s : Dsk) : ∀ i K N P, s.fr i = some (K, N, P) → P.length ≤ 112 := fun i K N P h => frO_le h
/-- What readCommit answers. -/
def RcR (x : Option (Rs × Nat)) (w : World) (e : Ending) (w' : World) : Prop := ∃ p n c k, e = .returned (.tuple #[.slice p n c, .int .i64 (k : Nat)]) ∧ (x = none → k = 0) ∧ (∀ r m, x = some (r, m) → k = m ∧ RowB w' w.heap.size (.slice p n c) r) ∧ Below w.heap.size w w'
set_option maxHeartbeats 2000000 in
set_option maxRecDepth 100000 in
theorem readCommit56 (w : World) (d pb mb l : Nat) (s : Dsk) (L : Lg) (h : At w d pb mb s) (hL : LAt w d pb mb l L) (hT : TabOk w) (hd : s.down = false) (hN : 2 + L.slots ≤ s.N) :
    Calls Tryd.prog 56 #[.pointer (some ⟨l, 0, none⟩)] w (RcR (rdc s.fr L.e (L.slots - L.used) L.used) w) := by
  have c66 := readPieces66 w d pb mb l s L h hL hT hd hN
  have hsl := hL.sl
  have hlen : ((pcs s.fr L.e (L.slots - L.used) L.used).getD []).length ≤ 4096 ∧ ((pcs s.fr L.e (L.slots - L.used) L.used).getD []).flatten.length ≤ 458752 := by
    cases hx : pcs s.fr L.e (L.slots - L.used) L.used with
    | none => simp
    | some ps =>
      have := pcs_len (fr_le s) _ _ _ hx
      show ps.length ≤ 4096 ∧ ps.flatten.length ≤ 458752
      omega
  rw [rdc_is]
  generalize pcs s.fr L.e (L.slots - L.used) L.used = X at *
  unfold PcR at c66
  generalize X.getD [] = ps at *
  have c68 := fun (W : World) (v : Value) (hE : (sl bytesE).E (fun _ => False) W v ps) => join68 W v ps (bss_of hE) (by omega) (by omega)
  have c67 := fun (W : World) (v : Value) (hE : Bs W v ps.flatten) => recordsOf67 W v ps.flatten hE (by omega)
  unfold RecR at c67
  generalize ps.flatten = FL at *
  clear h hL hT hd hN hlen hsl
  cases hr : rc FL with
  | none =>
    have HRc := Lib.hid hr
    clear hr
    show Calls _ _ _ _ (RcR none w)
    go_enter Tryd.func56, Tryd.ntmps56
    go_wp2_with (first
      | (go_at_call 66; refine c66.mono ?_; rintro e w1 ⟨p1, q1, rfl, hE1, hb1⟩; have HE1 := Lib.hid hE1; have HB1 := Lib.hid hb1; clear hE1 hb1)
      | (go_at_call 68; refine (c68 _ _ HE1.out).mono ?_; rintro e w2 ⟨v2, rfl, hbt, hb2⟩; have HBT := Lib.hid hbt.bs; have HB2 := Lib.hid (bel_then HB1.out hb2); obtain ⟨p2, q2, rfl, -⟩ := hbt.bs; clear hbt hb2)
      | (go_at_call 67; refine (c67 _ _ HBT.out).mono ?_; rintro e w3 ⟨p3, n3, q3, rfl, hrow, hb3⟩; rw [HRc.out]; simp only [Option.isSome_none]; have HB3 := Lib.hid (bel_then HB2.out hb3); clear hrow hb3))
    go_ret2
    exact ⟨none, 0, 0, 0, rfl, fun _ => rfl, fun r m e => (by cases e), HB3.out⟩
  | some r =>
    have HRc := Lib.hid hr
    clear hr
    show Calls _ _ _ _ (RcR (some (r, ps.length)) w)
    go_enter Tryd.func56, Tryd.ntmps56
    go_wp2_with (first
      | (go_at_call 66; refine c66.mono ?_; rintro e w1 ⟨p1, q1, rfl, hE1, hb1⟩; have HE1 := Lib.hid hE1; have HB1 := Lib.hid hb1; clear hE1 hb1)
      | (go_at_call 68; refine (c68 _ _ HE1.out).mono ?_; rintro e w2 ⟨v2, rfl, hbt, hb2⟩; have HBT := Lib.hid hbt.bs; have HB2 := Lib.hid (bel_then HB1.out hb2); obtain ⟨p2, q2, rfl, -⟩ := hbt.bs; clear hbt hb2)
      | (go_at_call 67; refine (c67 _ _ HBT.out).mono ?_; rintro e w3 ⟨p3, n3, q3, rfl, hrow, hb3⟩; have HRow := Lib.hid (RowB.mono (hrow r HRc.out) HB2.out.size); rw [HRc.out]; simp only [Option.isSome_some]; have HB3 := Lib.hid (bel_then HB2.out hb3); clear hrow hb3))
    go_ret2
    refine ⟨_, _, _, ps.length, rfl, fun e => (by cases e), fun r' m e => ?_, HB3.out⟩
    injection e with e
    injection e with e1 e2
    subst e1 e2
    exact ⟨rfl, HRow.out⟩
end Go.Proofs.YtnclhjjhobbbjaaDoor
namespace Go.Proofs.YtnclhjjhobbbjaaDoor
open Go.RowKit Go.Maps
set_option linter.unusedVariables false      -- a walk need not use every condition
attribute [local go_sem ↓] Go.wp_at_zero Go.wp_at_succ

/-- Things that lie in none of some blocks besides. -/
def Elem.ban {α : Type} (E : Elem α) (Z : Nat → Prop) : Elem α where
  E := fun X w x a => E.E (fun k => X k ∨ Z k) w x a
  kp := fun h hk => E.kp h (hk.mono fun k hx => .inl hx)
  mono := fun h hY => E.mono h (fun k hk hy => by
    rcases hy with hy | hy
    · exact .inl (hY k hk hy)
    · exact .inr hy)
  one := fun h => E.one h
theorem own_kp {Z : Nat → Prop} {w w' : World} {base : Nat} {e : TypeId} {size : Nat} {v : Value} {n : Nat} {xs : List Value} (h : w.ownsRow base e size v n xs) (hk : Kp Z w w') (hZ : ∀ k, Z k → k < base) : w'.ownsRow base e size v n xs :=
  own_same h fun g hg hl => hk.block g hl (fun hz => by have := hZ g hz; omega)
theorem RowG.kpZ {α : Type} {T : TypeId} {E : Elem α} {Z : Nat → Prop} {w w' : World} {base : Nat} {v : Value} {L : List α} (h : RowG T (E.ban Z) w base v L) (hk : Kp Z w w') (hZ : ∀ k, Z k → k < base) : RowG T (E.ban Z) w' base v L := by
  obtain ⟨vs, ho, he⟩ := h
  refine ⟨vs, own_kp ho hk hZ, fun i hi => ?_⟩
  obtain ⟨x, hx, hE⟩ := he i hi
  exact ⟨x, hx, E.kp hE (hk.mono fun k hz => .inr hz)⟩
theorem sl_unban {α : Type} {E : Elem α} {Z X : Nat → Prop} {w : World} {v : Value} {L : List α} (h : (sl (E.ban Z)).E X w v L) : (sl E).E X w v L := by
  obtain ⟨p, cap, rfl, h⟩ := h
  refine ⟨p, cap, rfl, ?_⟩
  rcases h with h | ⟨g, o, rfl, hx, h⟩
  · exact .inl h
  · refine .inr ⟨g, o, rfl, hx, fun i hi => ?_⟩
    obtain ⟨y, hy, hE⟩ := h i hi
    exact ⟨y, hy, E.mono hE fun k _ hk => .inl hk⟩
theorem bts_bsY {X : Nat → Prop} {w : World} {base : Nat} {v : Value} {t : List UInt8} (h : Bts w base v t) (hX : ∀ k, X k → k < base ∨ w.heap.size ≤ k) : BsY X w v t := by
  refine ⟨h.bs, fun ht a n c e hx => ?_⟩
  have h1 := h.bs.blk_lt ht e
  rcases h.2 with ⟨rfl, h0⟩ | ⟨g, cap, cur, rfl, hbg, -⟩
  · cases e
  · injection e with e
    injection e with e
    subst e
    have := hX _ hx
    simp at this h1
    omega
theorem rowB_sl {X : Nat → Prop} {w : World} {base : Nat} {v : Value} {r : Rs} (h : RowB w base v r) (hX : ∀ k, X k → k < base ∨ w.heap.size ≤ k) : (sl bytesE).E X w v r := by
  obtain ⟨vs, ho, he⟩ := h
  have hlt := fun g e => World.ownsRow.lt ho g e
  rcases ho.2 with ⟨rfl, h0⟩ | ⟨g, cap, cur, rfl, hbg, hg, hnc, hcm, hcs, htake⟩
  · have : r = [] := List.eq_nil_of_length_eq_zero h0
    subst this
    exact ⟨none, 0, rfl, .inl rfl⟩
  · refine ⟨_, cap, rfl, .inr ⟨g, 0, rfl, fun hx => ?_, fun i hi => ?_⟩⟩
    · have := hX g hx
      have := (Array.getElem?_eq_some_iff.1 hg).1
      omega
    · obtain ⟨x, hx, hB⟩ := he i hi
      have := ho.cells (g := g) rfl i x hx
      rw [Go.WideShapes.add_plain] at this
      exact ⟨x, this, bts_bsY hB hX⟩
theorem rdc_some {s : Dsk} {e : Int} {k i : Nat} {r : Rs} {n : Nat} (h : rdc s.fr e k i = some (r, n)) : 1 ≤ n ∧ n ≤ k := by
  unfold rdc at h
  cases hp : pcs s.fr e k i with
  | none => rw [hp] at h; cases h
  | some ps =>
    rw [hp] at h
    simp only at h
    have hl := pcs_len (fr_le s) _ _ _ hp
    cases hr : rc ps.flatten with
    | none => rw [hr] at h; cases h
    | some r' =>
      rw [hr] at h
      injection h with h
      injection h with h1 h2
      subst h2
      refine ⟨?_, hl.1⟩
      cases ps with
      | nil => rw [List.flatten_nil, rc_nil] at hr; cases hr
      | cons a b => simp
/-- A log's block is written. -/
theorem LAt.setUsed {w : World} {d pb mb l : Nat} {L : Lg} (h : LAt w d pb mb l L) {u : Nat} (hu : u ≤ L.slots) : LAt (w.setCell ⟨l, 4, none⟩ (.int .i64 u)) d pb mb l { L with used := u } := by
  obtain ⟨nv, hb, hn⟩ := h.blk
  refine { h with blk := ⟨nv, ?_, hn.kp (Kp.grown (gr_set w l 4 _) (.inr (.inr (.inr rfl))))⟩, us := hu }
  rw [blk_set hb]
  rfl
theorem Kp.bel2 {X : Nat → Prop} {w a b : World} (h : Kp X w a) (hb : Below w.heap.size a b) : Kp X w b :=
  ⟨hb.os.trans h.os, hb.tape.trans h.tape, hb.output.trans h.output, Nat.le_trans h.size hb.size, fun k hk hx => (hb.block k hk).trans (h.block k hk hx)⟩
/-- What readCommits answers. -/
def RcsR (x : Cs × Nat) (d pb mb l : Nat) (s : Dsk) (L : Lg) (w : World) (e : Ending) (w' : World) : Prop :=
  ∃ p c, e = .returned (.slice p x.1.length c) ∧ (sl (sl bytesE)).E (fun _ => False) w' (.slice p x.1.length c) x.1 ∧ At w' d pb mb s ∧ LAt w' d pb mb l { L with used := x.2 } ∧ Kp (fun k => k = l) w w'
set_option maxHeartbeats 4000000 in
set_option maxRecDepth 100000 in
theorem readCommits38 (w : World) (d pb mb l : Nat) (s : Dsk) (L : Lg) (h0 : At w d pb mb s) (hL0 : LAt w d pb mb l L) (hT0 : TabOk w) (hd : s.down = false) (hN : 2 + L.slots ≤ s.N) :
    Calls Tryd.prog 38 #[.pointer (some ⟨l, 0, none⟩)] w (RcsR (rds s.fr L.e L.slots (L.slots - L.used + 1) L.used) d pb mb l s L w) := by
  have h := Lib.hid h0
  have hT := Lib.hid hT0
  have hL := Lib.hid hL0
  have hus := hL0.us
  have hsl := hL0.sl
  have hlt := hL0.lt
  have hne := hL0.ne
  have hnz := hL0.nz hT0
  have lts := h0.lts
  obtain ⟨i0, hi', hz0, hz1, hz2⟩ := info_parts info35
  obtain ⟨R, hR⟩ : ∃ R, rds s.fr L.e L.slots (L.slots - L.used + 1) L.used = R := ⟨_, rfl⟩
  rw [hR]
  have HR := Lib.hid hR
  obtain ⟨nv, hblk, hnv⟩ := hL0.blk
  have HBK := Lib.hid hblk
  have mkL : ∀ (W : World) (u : Nat), u ≤ L.slots → W.heap[l]? = some (.cells #[.pointer (some ⟨d, 0, none⟩), .int .i64 L.e, .int .i64 L.slots, nv, .int .i64 u, .bool L.stale, .bool L.broken] 54) → Kp (fun k => k = l) w W → LAt W d pb mb l { L with used := u } := fun W u hu hb hk =>
    { hL0 with blk := ⟨nv, hb, hnv.kp (hk.mono fun k e => .inr (.inr (.inr e)))⟩, us := hu }
  have mkA : ∀ W, Kp (fun k => k = l) w W → At W d pb mb s := fun W hk => h0.same (hk.block _ lts.1 (fun e => hne.1 e.symm)) (hk.block _ lts.2.1 (fun e => hne.2.1 e.symm)) (hk.block _ lts.2.2.1 (fun e => hne.2.2 e.symm))
  have MKL := Lib.hid mkL
  have MKA := Lib.hid mkA
  obtain ⟨np, nc, rfl, -⟩ := hnv.1
  obtain ⟨z0, z1, z2, z3, z4, z5, z6, -⟩ := seven_of hblk
  clear h0 hT0 hL0 hR mkL mkA hnv hblk
  go_enter Tryd.func38, Tryd.ntmps38
  go_wp2
  go_loopg [3] (L.slots - L.used + 1) (fun gk s3 wr => ∃ (u : Nat) (acc : Cs), L.slots - u < gk ∧ u ≤ L.slots ∧ Hid (acc.length ≤ u) ∧ Hid (RowG 35 ((sl bytesE).ban (fun k => k = l)) wr w.heap.size s3 acc) ∧ Hid (R = (acc ++ (rds s.fr L.e L.slots gk u).1, (rds s.fr L.e L.slots gk u).2)) ∧ Hid (wr.heap[l]? = some (.cells #[.pointer (some ⟨d, 0, none⟩), .int .i64 L.e, .int .i64 L.slots, .slice np L.note.length nc, .int .i64 u, .bool L.stale, .bool L.broken] 54)) ∧ Hid (Kp (fun k => k = l) w wr))
  case atStart => exact ⟨L.used, [], by omega, hus, Nat.zero_le _, rowG_nil _ _ _ _, by show R = _; rw [← HR.out]; rfl, HBK.out, Kp.refl _ _⟩
  case round =>
    clear z0 z1 z2 z3 z4 z5 z6
    obtain ⟨u, acc, hgu, huS, hacc, hrow, hsp, hbk, hK⟩ := hrel
    obtain ⟨g, rfl⟩ : ∃ g, gk = g + 1 := ⟨gk - 1, by omega⟩
    have hTr : TabOk wr := tab_blk hT.out (hK.out.block 0 (World.block_lt_of_cell? w _ (tab_zero hT.out)) (fun e => hnz e.symm))
    have c56 := readCommit56 wr d pb mb l s _ (MKA.out wr hK.out) (MKL.out wr u huS hbk.out hK.out) hTr hd hN
    obtain ⟨ap, ac, rfl⟩ := hrow.out.hdr
    simp only at c56
    cases hrd : rdc s.fr L.e (L.slots - u) u with
    | none =>
      rw [hrd] at c56
      have hRs : R = (acc, u) := by rw [hsp.out, rds, hrd]; simp
      subst hRs
      unfold RcR at c56
      clear hsp hrd
      go_wp2_with (go_at_call 56; refine c56.mono ?_; rintro e w1 ⟨p1, n1, q1, k1, rfl, hk1, -, hb1⟩; have hk0 := hk1 rfl; subst hk0; have HB1 := Lib.hid hb1; clear hk1 hb1)
      go_ret
      have hK1 := hK.out.trans (Kp.bel HB1.out)
      exact ⟨ap, ac, rfl, sl_unban ((hrow.out.on HB1.out).sl), MKA.out _ hK1, MKL.out _ u huS (blk_on HB1.out hbk.out) hK1, hK1⟩
    | some y =>
      obtain ⟨r, n⟩ := y
      rw [hrd] at c56
      have hn := rdc_some hrd
      have hRs : Hid (R = ((acc ++ [r]) ++ (rds s.fr L.e L.slots g (u + n)).1, (rds s.fr L.e L.slots g (u + n)).2)) := by show R = _; rw [hsp.out, rds, hrd]; simp
      unfold RcR at c56
      have e1 : IntKind.i64.wrap ((u : Int) + (n : Int)) = ((u + n : Nat) : Int) := by rw [IntKind.wrap_i64]; omega
      have hn0 : ((n : Int) == 0) = false := by rw [beq_eq_false_iff_ne]; omega
      have hbz := hK.out.size
      clear hsp hrd
      go_wp2_with (first
        | (go_at_call 56; refine c56.mono ?_; rintro e w1 ⟨p1, n1, q1, k1, rfl, -, hk1, hb1⟩
           obtain ⟨hk0, hr1⟩ := hk1 _ _ rfl
           subst hk0
           have HB1 := Lib.hid hb1
           have HR1 := Lib.hid (show (sl bytesE).E (fun k => ((Value.slice ap acc.length ac).ownBlock = some k) ∨ k = l) w1 (.slice p1 n1 q1) r from rowB_sl hr1 (fun k hk => by
             rcases hk with hk | hk
             · obtain ⟨vs, ho, -⟩ := hrow.out
               exact .inl (World.ownsRow.lt ho k hk).2
             · subst hk
               exact .inl (Nat.lt_of_lt_of_le hlt hbz)))
           clear hk1 hb1 hr1)
        | (at_builtin
           refine rowG_app 35 33 ((sl bytesE).ban (fun k => k = l)) Tryd.underlying33 i0 hi' (.slice none 0 0) hz0 hz1 hz2 rfl rfl _ _ rfl w.heap.size w1.heap.size _ (.slice p1 n1 q1) acc r rfl rfl ((hrow.out.on HB1.out).on (bel1 _ _)) ((sl bytesE).kp HR1.out (Kp.bel (bel1 _ _))) (cell_new _ _ _) (by have := HB1.out.size; simp; omega) (by have := hacc.out; omega) ?_
           intro g7 c7 w7 hR7 hg7 hb7
           have HR7 := Lib.hid hR7
           have HK7 := Lib.hid ((hK.out.trans (Kp.bel (bel_then HB1.out (bel1 w1 (.cells #[.slice p1 n1 q1] 35))))).bel2 hb7)
           have k7 := (hb7.block l hlt).trans (blk_on (bel_then HB1.out (bel1 w1 (.cells #[.slice p1 n1 q1] 35))) hbk.out)
           have Hk7 := Lib.hid k7
           obtain ⟨-, -, -, -, y4, -, -, yf⟩ := seven_of k7
           have yf4 := yf 4
           clear hR7 hg7 hb7 k7 yf))
      go_roundg g
      case measure => omega
      case rel =>
        have hKs : Kp (fun k => k = l) w7 (w7.setCell ⟨l, 4, none⟩ (.int .i64 ((u + k1 : Nat) : Int))) := Kp.grown (gr_set w7 l 4 _) rfl
        refine ⟨u + k1, acc ++ [r], by omega, by omega, by show _ ≤ _; have := hacc.out; simp; omega, ?_, hRs, ?_, ?_⟩
        · exact HR7.out.kpZ hKs (fun k e => by subst e; exact hlt)
        · show _ = _
          rw [blk_set Hk7.out]
          rfl
        · exact HK7.out.trans hKs
end Go.Proofs.YtnclhjjhobbbjaaDoor
