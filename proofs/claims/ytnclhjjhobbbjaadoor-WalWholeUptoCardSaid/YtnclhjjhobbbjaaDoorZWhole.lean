/-
  Behind a crash at any moment: WalWhole.
-/
import Derived.Test.YtnclhjjhobbbjaaDoorZStDecShelfDirtyW
import Derived.Test.YtnclhjjhobbbjaaDoorZCrashDcdSameIdxClo
import Derived.Test.YtnclhjjhobbbjaaDoorZLgLsComElCu3Ops
namespace Go.Proofs.YtnclhjjhobbbjaaDoor
open Go.RowKit Go.Maps
set_option linter.unusedVariables false      -- a walk need not use every condition
attribute [local go_sem ↓] Go.wp_at_zero Go.wp_at_succ

theorem op_of {w : World} {g : Nat} {a b c d e f : Value} {t : TypeId} (hb : w.heap[g]? = some (.cells #[a, b, c, d, e, f] t)) : w.cell? ⟨g, 0, none⟩ = some a ∧ w.cell? ⟨g, 1, none⟩ = some b := by
  refine ⟨?_, ?_⟩ <;> simp [World.cell?, hb]
theorem rowG_base {α : Type} {T : TypeId} {E : Elem α} {w : World} {base base' : Nat} {v : Value} {L : List α} (h : RowG T E w base v L) (hb : base' ≤ base) : RowG T E w base' v L := by
  obtain ⟨vs, ho, he⟩ := h
  refine ⟨vs, ⟨ho.1, ?_⟩, he⟩
  rcases ho.2 with h | ⟨g, cap, cur, h1, h2, h3⟩
  · exact .inl h
  · exact .inr ⟨g, cap, cur, h1, Nat.le_trans hb h2, h3⟩
theorem Few.lgt {m : Cs} (hl : m.length ≤ 1048576) (h : ∀ c ∈ m, Few c) : Lgt m := ⟨by omega, fun i hi => (h _ (List.getElem_mem hi)).len⟩
set_option maxHeartbeats 8000000 in
set_option maxRecDepth 100000 in
theorem whole3 (w : World) (sv : Value) (S : List Opr) (hS : OpsAt w sv S 1048576) (fuse : Nat) (hfu : fuse ≤ 255) (torn : Int) (kb : List Bool) (kp : Option Addr) (kc : Nat) (hkl : kb.length ≤ 1048576)
    (hkb : kb = [] ∨ ∃ b o, kp = some ⟨b, o, none⟩ ∧ b < w.heap.size ∧ ∀ i (hi : i < kb.length), w.cell? ⟨b, o + i, none⟩ = some (.bool kb[i])) (hT : TabOk w) :
    Calls Tryd.prog 3 #[sv, .int .u8 fuse, .int .i64 torn, .slice kp kb.length kc] w fun e w' => e = .returned (.bool true) ∧ Below w.heap.size w w' := by
  have HT := Lib.hid hT
  have HK : Hid (∀ wr, Below w.heap.size w wr → Bools wr (w.heap.size + 2) w.heap.size (w.heap.size + 1) (.slice kp kb.length kc) kb) := fun wr hb => by
    refine ⟨⟨kp, kc, rfl, ?_⟩, by omega⟩
    rcases hkb with h | ⟨b, o, h1, h2, h3⟩
    · exact .inl h
    · refine .inr ⟨b, o, h1, Nat.lt_of_lt_of_le h2 hb.size, by omega, by omega, by omega, fun i hi => cell_on hb (h3 i hi)⟩
  obtain ⟨sp, sc, rfl, hSr⟩ := hS.at_
  have HSR := Lib.hid hSr
  have HSK := Lib.hid hS.ok
  have hSl := hS.len
  have c6 := new6 40 (by decide) (by decide) w
  obtain ⟨f1, f2, f3, f4, f5⟩ := fmt_is 40 30 [] (by decide) (by decide) (by decide) (by decide)
  have c7 := fun (W : World) (hA : At W (w.heap.size + 2) w.heap.size (w.heap.size + 1) (made 40)) (hTT : TabOk W) => format7 W _ _ _ (made 40) hA hTT 30 (by decide) (by decide) (by decide) (.slice none 0 0) [] (bs_nil W) (by decide) (by decide) f1 f2 ⟨bs_nil W, fun hx => absurd rfl hx⟩
  generalize (((made 40).write 0 zer).2.hwr 1 30 []).2 = s1 at *
  have HF3 := Lib.hid f3
  have HF5 := Lib.hid f5
  have hfz : IntKind.i64.wrap (fuse : Int) = (fuse : Int) := by rw [IntKind.wrap_i64]; omega
  have hn5 := Lib.hid (info_parts info35)
  have hn3 := Lib.hid (info_parts info33)
  clear hT hkb hS hSr f1 f2 f3 f4 f5
  go_enter Tryd.func3, Tryd.ntmps3
  go_wp2_with (first
    | (go_at_call 6; refine c6.mono ?_; rintro e w1 ⟨rfl, hA1, hb1⟩
       have HA1 := Lib.hid hA1
       have HB1 := Lib.hid hb1
       have lts := Lib.hid hA1.lts
       clear hA1 hb1)
    | (go_at_call 7
       refine (c7 _ HA1.out (tab_on HT.out HB1.out)).mono ?_
       rintro e w2 ⟨l, rfl, hl, hA2, hL2, hK2, hT2⟩
       have HL : Hid (w.heap.size + 3 ≤ l) := by
         have := lts.out
         show _ ≤ _
         omega
       have HS2 : Hid (Up w2 (w.heap.size + 2) w.heap.size (w.heap.size + 1) l []) := ⟨1, 0, s1, hA2, hL2, HF5.out, hT2, HF3.out⟩
       have HT2 := Lib.hid hT2
       have hz1 := HB1.out.size
       have HB2 : Hid (Below w.heap.size w w2) := HB1.out.trans (hK2.below (by omega) (Nat.le_refl _) (by omega) hz1)
       clear hA2 hL2 hK2 hT2 hl hz1)
    | (go_at_call 8; refine (begun8 _ HT2.out).mono ?_; rintro e w3 ⟨rfl, hb3⟩
       have HS3 := Lib.hid (HS2.out.on hb3)
       have HB3 := Lib.hid (bel_then HB2.out hb3)
       clear hb3)
    | (go_at_call 9; refine (fuse_up w3 _ _ _ _ _ HS3.out fuse hfu).mono ?_; rintro e w4 ⟨rfl, hu4, hk4⟩
       have HS4 := Lib.hid hu4
       have HB4 := Lib.hid (HB3.out.trans (hk4.below (by omega) (Nat.le_refl _) (by omega) HB3.out.size))
       clear hu4 hk4))
  have HX4 : Hid (∀ k, X4 (w.heap.size + 2) w.heap.size (w.heap.size + 1) l k → w.heap.size ≤ k) := fun k hk => by
    have := HL.out
    rcases hk with hk | hk | hk | hk <;> omega
  have HZ := Lib.hid HS4.out.x4
  clear c6 c7 hfz
  have hr0 := rowG_one 33 (sl (sl bytesE)) (X4 (w.heap.size + 2) w.heap.size (w.heap.size + 1) l) w4 w4.heap.size (.slice none 0 0) [] ⟨none, 0, rfl, .inl rfl⟩ (Nat.le_refl _)
  have HM0 := Lib.hid (rowG_slZ hr0 HZ.out)
  have HS5 := Lib.hid (HS4.out.on (bel1 w4 (.cells #[.slice none 0 0] 33)))
  have HB5 := Lib.hid (bel_then HB4.out (bel1 w4 (.cells #[.slice none 0 0] 33)))
  have HZ5 : Hid (w4.heap.size ≤ (w4.alloc (.cells #[.slice none 0 0] 33)).heap.size) := (bel1 w4 _).size
  clear hr0
  go_loopg [13, 14, 57] S.length (fun g s13 s14 s57 wr => ∃ (i : Nat) (had : Cs) (may : List Cs) (p13 : Option Addr) (c13 : Nat) (p14 : Option Addr) (c14 : Nat), i + g = S.length ∧ s57 = .int .i64 i ∧ s13 = .slice p13 had.length c13 ∧ s14 = .slice p14 may.length c14 ∧ Hid ((sl (sl bytesE)).E (X4 (w.heap.size + 2) w.heap.size (w.heap.size + 1) l) wr (.slice p13 had.length c13) had) ∧ Hid ((sl (sl (sl bytesE))).E (X4 (w.heap.size + 2) w.heap.size (w.heap.size + 1) l) wr (.slice p14 may.length c14) may) ∧ Hid (may.length ≤ 1048576) ∧ Hid (had.length ≤ i ∧ ∀ c ∈ had, Few c) ∧ Hid (∀ m ∈ may, Lgt m) ∧ Hid (Up wr (w.heap.size + 2) w.heap.size (w.heap.size + 1) l had ∧ may = [had] ∨ Dn wr (w.heap.size + 2) w.heap.size (w.heap.size + 1) may) ∧ Hid (w4.heap.size ≤ wr.heap.size) ∧ Hid (Below w.heap.size w wr))
  case atStart => exact ⟨0, [], [[]], none, 0, _, _, by omega, rfl, rfl, rfl, ⟨none, 0, rfl, .inl rfl⟩, HM0.out, by show (1 : Nat) ≤ _; omega, ⟨Nat.le_refl _, fun c hc => (by cases hc)⟩, (fun m hm => by simp at hm; subst hm; exact ⟨by simp, fun i hi => (by simp at hi)⟩), .inl ⟨HS5.out, rfl⟩, HZ5.out, HB5.out⟩
  case round =>
    obtain ⟨i, had, may, p13, c13, p14, c14, hig, rfl, rfl, rfl, hvh, hvm, hml, hhs, HLm, hst, hsz, hb⟩ := hrel
    cases gk with
    | zero =>
      obtain rfl : i = S.length := by omega
      rcases hst.out with ⟨hup, rfl⟩ | hdn
      · have HUP := Lib.hid hup
        clear hup hst
        have c10 := down_up wr _ _ _ _ _ HUP.out
        have c14 := crash_up wr _ _ _ _ _ HUP.out torn _ kb (HK.out wr hb.out)
        go_wp2_with (first
          | (go_at_call 10; refine c10.mono ?_; rintro e wx ⟨rfl, hwx⟩; subst hwx)
          | (go_at_call 14; refine c14.mono ?_; rintro e w5 ⟨rfl, hd5, hk5⟩
             have HD5 := Lib.hid hd5
             have HB5 := Lib.hid (hb.out.trans (hk5.below (by omega) (Nat.le_refl _) (by omega) hb.out.size))
             have HV5 := Lib.hid ((sl (sl (sl bytesE))).kp hvm.out (Kp.kept (X := (X4 (w.heap.size + 2) w.heap.size (w.heap.size + 1) l)) hk5 (x4d _ _ _ _).1 (x4d _ _ _ _).2.1 (x4d _ _ _ _).2.2.1))
             clear hd5 hk5)
          | (go_at_call 15; refine (start_dn w5 _ _ _ _ HD5.out torn _ kb (HK.out w5 HB5.out)).mono ?_; rintro e w6 ⟨rfl, ⟨m, hm, hbk⟩, hk6⟩
             have HB6 := Lib.hid (HB5.out.trans (hk6.below (by omega) (Nat.le_refl _) (by omega) HB5.out.size))
             have HV6 := Lib.hid ((sl (sl (sl bytesE))).kp HV5.out (Kp.kept (X := (X4 (w.heap.size + 2) w.heap.size (w.heap.size + 1) l)) hk6 (x4d _ _ _ _).1 (x4d _ _ _ _).2.1 (x4d _ _ _ _).2.2.1))
             have HBK := Lib.hid hbk
             have HM := Lib.hid hm
             clear hm hbk hk6)
          | (go_at_call 16; have hh := HM2; clear hh; refine (open_bk _ _ _ _ _ HBK8.out).mono ?_; rintro e w9 ⟨l9, np9, n9, nc9, p9, c9, rfl, hE9, hbk9, hb9⟩
             have HE9 := Lib.hid hE9
             have HA9 := Lib.hid ((sl (sl bytesE)).on HA8.out hb9)
             have HV9 := Lib.hid ((sl (sl (sl bytesE))).on HV8.out hb9)
             have y9 := cell_on hb9 HC8.out
             have HC9 := Lib.hid y9
             have HB9 := Lib.hid (bel_then HB8.out hb9)
             clear hE9 hbk9 hb9)
          | (go_at_call 16; refine (open_bk _ _ _ _ _ HBK.out).mono ?_; rintro e w7 ⟨l7, np7, n7, nc7, p7, c7, rfl, hE7, hbk7, hb7⟩
             have b8 := bel1 w7 (.cells #[.slice p7 m.length c7] 33)
             have HA8 := Lib.hid ((sl (sl bytesE)).on hE7 b8)
             have HBK8 := Lib.hid (hbk7.on b8)
             have HV8 := Lib.hid ((sl (sl (sl bytesE))).on HV6.out (bel_then hb7 b8))
             have HC8 := Lib.hid (cell_new w7 (.slice p7 m.length c7) 33)
             have HB8 := Lib.hid (bel_then HB6.out (bel_then hb7 b8))
             have HM2 := Lib.hid True.intro
             clear hE7 hbk7 hb7 b8)
          | (go_at_call 17; refine (same17 _ _ _ m m HA9.out HE9.out (HLm.out m HM.out).2 (HLm.out m HM.out).2 (HLm.out m HM.out).1 (HLm.out m HM.out).1).mono ?_; rintro e w10 ⟨rfl, hb10⟩
             rw [sameC_refl]
             have HA10 := Lib.hid ((sl (sl bytesE)).on HA9.out hb10)
             have HV10 := Lib.hid ((sl (sl (sl bytesE))).mono ((sl (sl (sl bytesE))).on HV9.out hb10) (Y := fun _ => False) (fun _ _ h => h.elim))
             have HC10 := Lib.hid (cell_on hb10 HC9.out)
             have HB10 := Lib.hid (bel_then HB9.out hb10)
             clear hb10)
          | (go_at_call 18
             obtain ⟨i0, hi0, he0⟩ := List.mem_iff_getElem.1 HM.out
             refine (contains18 _ _ _ _ m _ HC10.out HA10.out HV10.out (HLm.out m HM.out) (fun j hj => HLm.out _ (List.getElem_mem hj)) hml.out i0 hi0 he0).mono ?_; rintro e w11 ⟨rfl, hb11⟩
             have HB11 := Lib.hid (bel_then HB10.out hb11)
             clear hb11))
        go_ret
        exact ⟨rfl, HB11.out⟩
      · have HDN := Lib.hid hdn
        clear hdn hst
        have c10 := down_dn wr _ _ _ _ HDN.out
        go_wp2_with (first
          | (go_at_call 10; refine c10.mono ?_; rintro e wx ⟨rfl, hwx⟩; subst hwx)
          | (go_at_call 15; refine (start_dn _ _ _ _ _ HDN.out torn _ kb (HK.out _ hb.out)).mono ?_; rintro e w6 ⟨rfl, ⟨m, hm, hbk⟩, hk6⟩
             have HB6 := Lib.hid (hb.out.trans (hk6.below (by omega) (Nat.le_refl _) (by omega) hb.out.size))
             have HV6 := Lib.hid ((sl (sl (sl bytesE))).kp hvm.out (Kp.kept (X := (X4 (w.heap.size + 2) w.heap.size (w.heap.size + 1) l)) hk6 (x4d _ _ _ _).1 (x4d _ _ _ _).2.1 (x4d _ _ _ _).2.2.1))
             have HBK := Lib.hid hbk
             have HM := Lib.hid hm
             clear hm hbk hk6)
          | (go_at_call 16; have hh := HM2; clear hh; refine (open_bk _ _ _ _ _ HBK8.out).mono ?_; rintro e w9 ⟨l9, np9, n9, nc9, p9, c9, rfl, hE9, hbk9, hb9⟩
             have HE9 := Lib.hid hE9
             have HA9 := Lib.hid ((sl (sl bytesE)).on HA8.out hb9)
             have HV9 := Lib.hid ((sl (sl (sl bytesE))).on HV8.out hb9)
             have y9 := cell_on hb9 HC8.out
             have HC9 := Lib.hid y9
             have HB9 := Lib.hid (bel_then HB8.out hb9)
             clear hE9 hbk9 hb9)
          | (go_at_call 16; refine (open_bk _ _ _ _ _ HBK.out).mono ?_; rintro e w7 ⟨l7, np7, n7, nc7, p7, c7, rfl, hE7, hbk7, hb7⟩
             have b8 := bel1 w7 (.cells #[.slice p7 m.length c7] 33)
             have HA8 := Lib.hid ((sl (sl bytesE)).on hE7 b8)
             have HBK8 := Lib.hid (hbk7.on b8)
             have HV8 := Lib.hid ((sl (sl (sl bytesE))).on HV6.out (bel_then hb7 b8))
             have HC8 := Lib.hid (cell_new w7 (.slice p7 m.length c7) 33)
             have HB8 := Lib.hid (bel_then HB6.out (bel_then hb7 b8))
             have HM2 := Lib.hid True.intro
             clear hE7 hbk7 hb7 b8)
          | (go_at_call 17; refine (same17 _ _ _ m m HA9.out HE9.out (HLm.out m HM.out).2 (HLm.out m HM.out).2 (HLm.out m HM.out).1 (HLm.out m HM.out).1).mono ?_; rintro e w10 ⟨rfl, hb10⟩
             rw [sameC_refl]
             have HA10 := Lib.hid ((sl (sl bytesE)).on HA9.out hb10)
             have HV10 := Lib.hid ((sl (sl (sl bytesE))).mono ((sl (sl (sl bytesE))).on HV9.out hb10) (Y := fun _ => False) (fun _ _ h => h.elim))
             have HC10 := Lib.hid (cell_on hb10 HC9.out)
             have HB10 := Lib.hid (bel_then HB9.out hb10)
             clear hb10)
          | (go_at_call 18
             obtain ⟨i0, hi0, he0⟩ := List.mem_iff_getElem.1 HM.out
             refine (contains18 _ _ _ _ m _ HC10.out HA10.out HV10.out (HLm.out m HM.out) (fun j hj => HLm.out _ (List.getElem_mem hj)) hml.out i0 hi0 he0).mono ?_; rintro e w11 ⟨rfl, hb11⟩
             have HB11 := Lib.hid (bel_then HB10.out hb11)
             clear hb11))
        go_ret
        exact ⟨rfl, HB11.out⟩
    | succ g =>
      have hi : i < S.length := by omega
      have hiz : (i : Int) < (S.length : Int) := by omega
      have hi0 : (0 : Int) ≤ (i : Int) := by omega
      obtain ⟨b, o, rfl, hrow⟩ := HSR.out.resolve_left (fun e => by rw [e] at hi; simp at hi)
      have hra := range_on (hrow i hi) hb.out
      have hoki := HSK.out i hi
      obtain ⟨op, hop⟩ : ∃ op, S[i] = op := ⟨_, rfl⟩
      rw [hop] at hra hoki
      obtain ⟨x, rv, r, n, t, okp, okn, okc, bits⟩ := op
      obtain ⟨hbs, hr1, hr2⟩ := hoki
      simp only at hbs hr1 hr2
      obtain ⟨rp, rcp, rfl, -⟩ := (show Bss w rv r from hbs)
      have HBS : Hid (Bss w (.slice rp r.length rcp) r) := hbs
      have HFW : Hid (Few r) := ⟨hr1, hr2⟩
      have q0 : wr.cell? ⟨b, o + i * 6, none⟩ = some (.int .i64 x) := hra 0 _ rfl
      have q1 : wr.cell? ⟨b, o + i * 6 + 1, none⟩ = some (.slice rp r.length rcp) := hra 1 _ rfl
      have q2 : wr.cell? ⟨b, o + i * 6 + 2, none⟩ = some (.int .i64 n) := hra 2 _ rfl
      have q3 : wr.cell? ⟨b, o + i * 6 + 3, none⟩ = some (.int .i64 t) := hra 3 _ rfl
      have q4 : wr.cell? ⟨b, o + i * 6 + 4, none⟩ = some (.slice okp okn okc) := hra 4 _ rfl
      have q5 : wr.cell? ⟨b, o + i * 6 + 5, none⟩ = some (.int .u32 bits) := hra 5 _ rfl
      clear hra hrow hop hbs hr1 hr2
      have OPB := Lib.hid (heap_alloc_last wr (.cells #[.int .i64 x, .slice rp r.length rcp, .int .i64 n, .int .i64 t, .slice okp okn okc, .int .u32 bits] 38))
      have bO := Lib.hid (bel1 wr (.cells #[.int .i64 x, .slice rp r.length rcp, .int .i64 n, .int .i64 t, .slice okp okn okc, .int .u32 bits] 38))
      have hbO := Lib.hid (bel_then hb.out bO.out)
      have hvmO := Lib.hid ((sl (sl (sl bytesE))).on hvm.out bO.out)
      rcases hst.out with ⟨hup, hmay⟩ | hdn
      · have HUO := Lib.hid (hup.on bO.out)
        have hvhO := Lib.hid ((sl (sl bytesE)).on hvh.out bO.out)
        have hszO := Lib.hid (Nat.le_trans hsz.out bO.out.size)
        have c10 := down_up (wr.alloc (.cells #[.int .i64 x, .slice rp r.length rcp, .int .i64 n, .int .i64 t, .slice okp okn okc, .int .u32 bits] 38)) _ _ _ _ _ HUO.out
        have hrm := rowG_one 33 (sl (sl bytesE)) (X4 (w.heap.size + 2) w.heap.size (w.heap.size + 1) l) (wr.alloc (.cells #[.int .i64 x, .slice rp r.length rcp, .int .i64 n, .int .i64 t, .slice okp okn okc, .int .u32 bits] 38)) (wr.alloc (.cells #[.int .i64 x, .slice rp r.length rcp, .int .i64 n, .int .i64 t, .slice okp okn okc, .int .u32 bits] 38)).heap.size (.slice p13 had.length c13) had hvhO.out (Nat.le_refl _)
        rw [World.size_alloc] at hrm
        have HRM := Lib.hid hrm
        have HZV : Hid (∀ k, X4 (w.heap.size + 2) w.heap.size (w.heap.size + 1) l k → k < wr.heap.size + 1) := fun k hk => by
          have h1 := HZ.out k hk
          have h2 := hszO.out
          rw [World.size_alloc] at h2
          omega
        have hvp := (sl (sl bytesE)).past hvhO.out
        rw [World.size_alloc] at hvp
        have hvP := Lib.hid hvp
        have hwV : Hid (w.heap.size ≤ wr.heap.size + 1) := by
          have h2 := hbO.out.size
          rw [World.size_alloc] at h2
          exact h2
        clear hrm hvp
        have bM := Lib.hid (bel1 (wr.alloc (.cells #[.int .i64 x, .slice rp r.length rcp, .int .i64 n, .int .i64 t, .slice okp okn okc, .int .u32 bits] 38)) (.cells #[.slice p13 had.length c13] 33))
        have HUM := Lib.hid (HUO.out.on bM.out)
        have hvhM := Lib.hid ((sl (sl bytesE)).on hvhO.out bM.out)
        have hszM := Lib.hid (Nat.le_trans hszO.out bM.out.size)
        have hbM := Lib.hid (bel_then hbO.out bM.out)
        have HLh := Lib.hid (Few.lgt (m := had) (by have := hhs.out.1; omega) hhs.out.2)
        clear hup hst hmay HLm hvm hvmO hml
        by_cases hx0 : x = 0
        · subst hx0
          obtain ⟨V, hV⟩ : ∃ V, (wr.alloc (.cells #[.int .i64 0, .slice rp r.length rcp, .int .i64 n, .int .i64 t, .slice okp okn okc, .int .u32 bits] 38)).alloc (.cells #[.slice p13 had.length c13] 33) = V := ⟨_, rfl⟩
          have opb := blk_on bM.out OPB.out
          rw [hV] at bM HUM hvhM hszM hbM HRM opb
          have hsV : V.heap.size = wr.heap.size + 2 := by rw [← hV, World.size_alloc, World.size_alloc]
          have HOPB := Lib.hid opb
          have HsV := Lib.hid hsV
          have hBS := Lib.hid (of_bss HBS.out)
          have hvPV := Lib.hid ((sl (sl bytesE)).on hvP.out bM.out)
          have hvZ := Lib.hid ((sl (sl bytesE)).mono hvPV.out (Y := (fun k => k = wr.heap.size + 1 ∨ X4 (w.heap.size + 2) w.heap.size (w.heap.size + 1) l k)) (fun k _ hk => by
            rcases hk with hk | hk
            · exact .inl (by omega)
            · exact .inr hk))
          have c11 := fun (W : World) (hb : Below V.heap.size V W) => clone11 W _ had (fun k => k = wr.heap.size + 1 ∨ X4 (w.heap.size + 2) w.heap.size (w.heap.size + 1) l k) ((sl (sl bytesE)).on hvZ.out hb) (by have := hhs.out.1; omega)
          have hrE : Hid (∀ (W : World) (v5 : Value) (B : Nat), Below V.heap.size V W → RowG 35 ((sl bytesE).ban (fun k => k = wr.heap.size + 1 ∨ X4 (w.heap.size + 2) w.heap.size (w.heap.size + 1) l k)) W B v5 had → w.heap.size ≤ B → ((sl bytesE).ban (fun k => k = wr.heap.size + 1 ∨ X4 (w.heap.size + 2) w.heap.size (w.heap.size + 1) l k)).E (fun k => v5.ownBlock = some k) W (.slice rp r.length rcp) r) := fun W v5 B hW hR hB => by
            refine (sl bytesE).mono ((sl bytesE).kp hBS.out (Kp.ge (bel_then hbM.out hW))) (fun k _ hk => ?_)
            rcases hk with hk | hk | hk
            · obtain ⟨vs, ho, -⟩ := hR
              exact Nat.le_trans hB (World.ownsRow.lt ho k hk).1
            · have := hwV.out
              show w.heap.size ≤ k
              omega
            · exact HX4.out k hk
          have hwM : Hid (w.heap.size ≤ V.heap.size) := hbM.out.size
          have hhl : Hid (had.length + 1 ≤ 4398046511104) := by show _ ≤ _; have := hhs.out.1; omega
          obtain ⟨i5, hi5, hy0, hy1, hy2⟩ := hn5.out
          obtain ⟨y0, y1⟩ := op_of opb
          have y1d : V.drew.cell? ⟨wr.heap.size, 1, none⟩ = some (.slice rp r.length rcp) := y1
          have HY1 := Lib.hid y1
          clear opb hsV
          go_upto_region 14 with (go_at_call 10; refine c10.mono ?_; rintro e wx ⟨rfl, hwx⟩; subst hwx)
          go_cut [17] from 69 to 74 (fun s17 wx => ∃ (g c : Nat), s17 = .slice (some ⟨g, 0, none⟩) (had.length + 1) c ∧ Hid (RowG 35 ((sl bytesE).ban (fun k => k = wr.heap.size + 1 ∨ X4 (w.heap.size + 2) w.heap.size (w.heap.size + 1) l k)) wx V.heap.size (.slice (some ⟨g, 0, none⟩) (had.length + 1) c) (had ++ [r])) ∧ Hid (Below V.heap.size V wx))
          case first =>
            clear hV
            go_region_with (first
              | (go_at_call 11
                 refine (c11 _ (by first | exact (Below.refl _ V).drew | exact (bel1 V _).drew | exact bel_da V _)).mono ?_
                 rintro e w5 ⟨v5, rfl, hr5, hb5⟩
                 have hR5 : RowG 35 ((sl bytesE).ban (fun k => k = wr.heap.size + 1 ∨ X4 (w.heap.size + 2) w.heap.size (w.heap.size + 1) l k)) w5 V.heap.size v5 had := rowG_base hr5 (by simp)
                 have hB5 : Below V.heap.size V w5 := by first | exact bel_then ((Below.refl _ V).drew) hb5 | exact bel_then ((bel1 V _).drew) hb5 | exact bel_then (bel_da V _) hb5
                 have y5 := cell_on hB5 HY1.out
                 (first
                   | (have fz : w5.cell? ⟨V.heap.size, 0, none⟩ = some (.slice rp r.length rcp) := cell_on hb5 (cell_new V (.slice rp r.length rcp) 35)
                      obtain ⟨g6, c6, w6, hap, hR6, hb6⟩ := rowG_run 35 33 ((sl bytesE).ban (fun k => k = wr.heap.size + 1 ∨ X4 (w.heap.size + 2) w.heap.size (w.heap.size + 1) l k)) Tryd.underlying33 i5 hi5 (.slice none 0 0) hy0 hy1 hy2 rfl 33 w5 V.heap.size V.heap.size v5 (.slice rp r.length rcp) had r hR5 (hrE.out w5 v5 V.heap.size hB5 hR5 hwM.out) fz hB5.size hhl.out
                      have HR6 := Lib.hid hR6
                      have HB6 := Lib.hid (hB5.trans hb6)
                      clear fz hR6 hb6)
                   | (obtain ⟨g6, c6, w6, hap, hR6, hb6⟩ := rowG_run 35 33 ((sl bytesE).ban (fun k => k = wr.heap.size + 1 ∨ X4 (w.heap.size + 2) w.heap.size (w.heap.size + 1) l k)) Tryd.underlying33 i5 hi5 (.slice none 0 0) hy0 hy1 hy2 rfl 33 (w5.alloc (.cells #[(.slice rp r.length rcp)] 35)) V.heap.size w5.heap.size v5 (.slice rp r.length rcp) had r (hR5.on (bel1 _ _)) (hrE.out _ v5 V.heap.size (bel_then hB5 (bel1 _ _)) (hR5.on (bel1 _ _)) hwM.out) (cell_new _ _ _) (Nat.le_trans hB5.size (bel1 _ _).size) hhl.out
                      have HR6 := Lib.hid hR6
                      have HB6 := Lib.hid ((bel_then hB5 (bel1 w5 (.cells #[(.slice rp r.length rcp)] 35))).trans hb6)
                      clear hR6 hb6))
                 obtain ⟨vp, vc, rfl⟩ := hR5.hdr
                 simp [go_sem] at hap
                 clear hr5 hb5 hR5 hB5))
            all_goals
              go_wp2
              go_meet
              case rel => exact ⟨g6, c6, rfl, HR6.out, HB6.out⟩
          case rest =>
            obtain ⟨g6, c6, rfl, HR5, HBc⟩ := hcut
            have y1c := cell_on HBc.out HY1.out
            have hlen1 : Hid ((had ++ [r]).length = had.length + 1) := by show _ = _; simp
            have HUc := Lib.hid (HUM.out.on HBc.out)
            have hbc := Lib.hid (bel_then hbM.out HBc.out)
            have hszc := Lib.hid (Nat.le_trans hszM.out HBc.out.size)
            have HRMc := Lib.hid (HRM.out.on HBc.out)
            have hvPc := Lib.hid ((sl (sl bytesE)).on hvPV.out HBc.out)
            have hvhc := Lib.hid ((sl (sl bytesE)).on hvhM.out HBc.out)
            have HQQ : Hid (∀ k, (fun k => k = wr.heap.size + 1 ∨ X4 (w.heap.size + 2) w.heap.size (w.heap.size + 1) l k) k → k < V.heap.size) := fun k hk => by
              have := HsV.out
              rcases hk with hk | hk
              · omega
              · have := HZV.out k hk
                omega
            have HFW1 : Hid (∀ c ∈ had ++ [r], Few c) := fun c hc => by
              rcases List.mem_append.1 hc with hc | hc
              · exact hhs.out.2 c hc
              · simp at hc; subst hc; exact HFW.out
            have HLn := Lib.hid (Few.lgt (m := had ++ [r]) (by have := hhs.out.1; have := hlen1.out; omega) HFW1.out)
            have c12 := app_up wc _ _ _ _ _ HUc.out (.slice rp r.length rcp) r (HBS.out.on hbc.out) HFW.out
            clear c10 c11 hV y0 y1 y1d
            go_wp2_with (fail)
            refine c12.mono ?_
            rintro e w6 ⟨c, rfl, hk6, hc⟩
            have hB6 := Lib.hid (hbc.out.trans (hk6.below HX4.out hbc.out.size))
            have hsz6 := Lib.hid (Nat.le_trans hszc.out hk6.size)
            have HR6 := Lib.hid (HRMc.out.kpZ hk6 HZV.out)
            have hszV : Hid (wr.heap.size + 1 ≤ w6.heap.size) := by
              have h1 := Nat.le_trans HBc.out.size hk6.size
              have h2 := HsV.out
              show _ ≤ _
              omega
            have hvP6 := Lib.hid ((sl (sl bytesE)).kp hvPc.out (hk6.mono fun k hk => .inr hk))
            have hvh6 := Lib.hid ((sl (sl bytesE)).kp hvhc.out hk6)
            have HN6 := Lib.hid (rowG_slZ (HR5.out.kpZ (hk6.mono fun k hk => (.inr hk : (fun k => k = wr.heap.size + 1 ∨ X4 (w.heap.size + 2) w.heap.size (w.heap.size + 1) l k) k)) HQQ.out) HQQ.out)
            clear hk6 c12
            rcases hc with ⟨rfl, hu⟩ | ⟨rfl, hu⟩ | ⟨rfl, hu⟩
            · have HU := Lib.hid hu
              clear hu
              dsimp only
              go_wp2
              go_roundg g
              case measure => omega
              case rel => exact ⟨i + 1, had, [had], _, _, _, _, by omega, by first | rfl | simp, rfl, rfl, hvh6, rowG_slZ HR6.out HZV.out, by show (1 : Nat) ≤ _; omega, ⟨by have := hhs.out.1; omega, hhs.out.2⟩, (fun m hm => by simp at hm; subst hm; exact HLh.out), .inl ⟨HU.out, rfl⟩, hsz6, hB6⟩
            · have HU := Lib.hid (hu.on (bel1 w6 (.cells #[(.slice (some ⟨g6, 0, none⟩) (had.length + 1) c6)] 33)))
              have HNX := Lib.hid ((sl (sl bytesE)).mono HN6.out (Y := (X4 (w.heap.size + 2) w.heap.size (w.heap.size + 1) l)) (fun k _ hk => .inr hk))
              have HRN := Lib.hid (rowG_one 33 (sl (sl bytesE)) (X4 (w.heap.size + 2) w.heap.size (w.heap.size + 1) l) w6 w6.heap.size (.slice (some ⟨g6, 0, none⟩) (had.length + 1) c6) (had ++ [r]) HNX.out (Nat.le_refl _))
              have HZ6 : Hid (∀ k, (X4 (w.heap.size + 2) w.heap.size (w.heap.size + 1) l) k → k < w6.heap.size) := fun k hk => Nat.lt_of_lt_of_le (HZV.out k hk) hszV.out
              have hszN := Lib.hid (Nat.le_trans hsz6.out (bel1 w6 (.cells #[(.slice (some ⟨g6, 0, none⟩) (had.length + 1) c6)] 33)).size)
              have hBN := Lib.hid (bel_then hB6.out (bel1 w6 (.cells #[(.slice (some ⟨g6, 0, none⟩) (had.length + 1) c6)] 33)))
              have hNN : Hid ((sl (sl bytesE)).E (X4 (w.heap.size + 2) w.heap.size (w.heap.size + 1) l) (w6.alloc (.cells #[(.slice (some ⟨g6, 0, none⟩) (had.length + 1) c6)] 33)) (.slice (some ⟨g6, 0, none⟩) (had ++ [r]).length c6) (had ++ [r])) := by
                rw [hlen1.out]
                exact (sl (sl bytesE)).on HNX.out (bel1 w6 _)
              clear hu
              dsimp only
              go_wp2
              go_roundg g
              case measure => omega
              case rel => exact ⟨i + 1, had ++ [r], [had ++ [r]], _, _, _, _, by omega, by first | rfl | simp, by rw [hlen1.out], rfl, hNN, rowG_slZ HRN.out HZ6.out, by show (1 : Nat) ≤ _; omega, ⟨by have := hhs.out.1; have := hlen1.out; omega, HFW1.out⟩, (fun m hm => by simp at hm; subst hm; exact HLn.out), .inl ⟨HU.out, rfl⟩, hszN, hBN⟩
            · have HD := Lib.hid (hu.on (bel1 w6 (.cells #[(.slice (some ⟨g6, 0, none⟩) (had.length + 1) c6)] 33)))
              have HNU : Hid (((sl (sl bytesE)).ban (X4 (w.heap.size + 2) w.heap.size (w.heap.size + 1) l)).E (fun k => (Value.slice (some ⟨wr.heap.size + 1, 0, none⟩) 1 1).ownBlock = some k) (w6.alloc (.cells #[(.slice (some ⟨g6, 0, none⟩) (had.length + 1) c6)] 33)) (.slice (some ⟨g6, 0, none⟩) (had.length + 1) c6) (had ++ [r])) :=
                (sl (sl bytesE)).mono ((sl (sl bytesE)).on HN6.out (bel1 w6 _)) (fun k _ hk => by
                  rcases hk with hk | hk
                  · exact .inl (Option.some.inj hk).symm
                  · exact .inr hk)
              clear hu
              obtain ⟨i3, hi3, hz0, hz1, hz2⟩ := hn3.out
              dsimp only
              go_wp2_with (at_builtin
                           refine rowG_app 33 34 ((sl (sl bytesE)).ban (X4 (w.heap.size + 2) w.heap.size (w.heap.size + 1) l)) Tryd.underlying34 i3 hi3 (.slice none 0 0) hz0 hz1 hz2 rfl rfl _ _ rfl (wr.heap.size + 1) w6.heap.size _ (.slice (some ⟨g6, 0, none⟩) (had.length + 1) c6) [had] (had ++ [r]) rfl rfl (HR6.out.on (bel1 _ _)) HNU.out (cell_new _ _ _) (Nat.le_trans hszV.out (bel1 w6 _).size) (by simp) ?_
                           intro g7 c7 w7 hR7 hg7 hb7
                           have HR7 := Lib.hid hR7
                           have HD7 := Lib.hid (HD.out.grow (l := l) hb7 HZV.out)
                           have hvh7 := Lib.hid ((sl (sl bytesE)).mono ((sl (sl bytesE)).kp ((sl (sl bytesE)).on hvP6.out (bel1 w6 (.cells #[(.slice (some ⟨g6, 0, none⟩) (had.length + 1) c6)] 33))) ((Kp.ge hb7).mono fun k hk => .inl hk)) (Y := (X4 (w.heap.size + 2) w.heap.size (w.heap.size + 1) l)) (fun k _ hk => .inr hk))
                           have hsz7 : Hid (w4.heap.size ≤ w7.heap.size) := Nat.le_trans hsz6.out (Nat.le_trans (bel1 w6 _).size hb7.size)
                           have hB7 := Lib.hid ((hB6.out.trans ((bel1 w6 (.cells #[(.slice (some ⟨g6, 0, none⟩) (had.length + 1) c6)] 33)).mono hB6.out.size)).trans (hb7.mono hwV.out))
                           clear hR7 hg7 hb7)
              go_roundg g
              case measure => omega
              case rel => exact ⟨i + 1, had, [had, had ++ [r]], _, _, _, _, by omega, by first | rfl | simp, rfl, rfl, hvh7, rowG_slZ HR7.out HZV.out, by show (2 : Nat) ≤ _; omega, ⟨by have := hhs.out.1; omega, hhs.out.2⟩, (fun m hm => by
                simp at hm
                rcases hm with rfl | rfl
                · exact HLh.out
                · exact HLn.out), .inr HD7.out, hsz7, hB7⟩
        · have hx0' : (x == 0) = false := by simpa using hx0
          by_cases hx1 : x = 1
          · subst hx1
            go_wp2_with (go_at_call 10; refine c10.mono ?_; rintro e wx ⟨rfl, hwx⟩; subst hwx)
            refine (rst_up _ _ _ _ _ _ HUM.out).mono ?_
            rintro e w6 ⟨c, rfl, hk6, hc⟩
            have hB6 := Lib.hid (hbM.out.trans (hk6.below HX4.out hbM.out.size))
            have hsz6 := Lib.hid (Nat.le_trans hszM.out hk6.size)
            have HR6 := Lib.hid (HRM.out.kpZ hk6 HZV.out)
            have hszV : Hid (wr.heap.size + 1 ≤ w6.heap.size) := by
              have h2 := Nat.le_trans bM.out.size hk6.size
              rw [World.size_alloc] at h2
              exact h2
            have hvP6 := Lib.hid ((sl (sl bytesE)).kp hvP.out ((Kp.bel bM.out).trans (hk6.mono fun k hk => .inr hk)))
            have hvh6 := Lib.hid ((sl (sl bytesE)).kp hvhM.out hk6)
            clear hk6
            rcases hc with ⟨rfl, hu⟩ | ⟨rfl, hu⟩ | ⟨rfl, hu⟩
            · have HU := Lib.hid hu
              clear hu
              dsimp only
              go_wp2
              go_roundg g
              case measure => omega
              case rel => exact ⟨i + 1, had, [had], _, _, _, _, by omega, by first | rfl | simp, rfl, rfl, hvh6, rowG_slZ HR6.out HZV.out, by show (1 : Nat) ≤ _; omega, ⟨by have := hhs.out.1; omega, hhs.out.2⟩, (fun m hm => by simp at hm; subst hm; exact HLh.out), .inl ⟨HU.out, rfl⟩, hsz6, hB6⟩
            · have HU := Lib.hid (hu.on (bel1 w6 (.cells #[.slice none 0 0] 33)))
              have HRN := Lib.hid (rowG_one 33 (sl (sl bytesE)) (X4 (w.heap.size + 2) w.heap.size (w.heap.size + 1) l) w6 w6.heap.size (.slice none 0 0) [] ⟨none, 0, rfl, .inl rfl⟩ (Nat.le_refl _))
              have HZ6 : Hid (∀ k, X4 (w.heap.size + 2) w.heap.size (w.heap.size + 1) l k → k < w6.heap.size) := fun k hk => Nat.lt_of_lt_of_le (HZV.out k hk) hszV.out
              have hszN := Lib.hid (Nat.le_trans hsz6.out (bel1 w6 (.cells #[.slice none 0 0] 33)).size)
              have hBN := Lib.hid (bel_then hB6.out (bel1 w6 (.cells #[.slice none 0 0] 33)))
              clear hu
              dsimp only
              go_wp2
              go_roundg g
              case measure => omega
              case rel => exact ⟨i + 1, [], [[]], none, 0, _, _, by omega, by first | rfl | simp, rfl, rfl, ⟨none, 0, rfl, .inl rfl⟩, rowG_slZ HRN.out HZ6.out, by show (1 : Nat) ≤ _; omega, ⟨by simp, fun c hc => (by cases hc)⟩, (fun m hm => by simp at hm; subst hm; exact ⟨by simp, fun j hj => (by simp at hj)⟩), .inl ⟨HU.out, rfl⟩, hszN, hBN⟩
            · have HD := Lib.hid (hu.on (bel1 w6 (.cells #[.slice none 0 0] 33)))
              clear hu
              obtain ⟨i3, hi3, hz0, hz1, hz2⟩ := hn3.out
              dsimp only
              go_wp2_with (at_builtin
                           refine rowG_app 33 34 ((sl (sl bytesE)).ban (X4 (w.heap.size + 2) w.heap.size (w.heap.size + 1) l)) Tryd.underlying34 i3 hi3 (.slice none 0 0) hz0 hz1 hz2 rfl rfl _ _ rfl (wr.heap.size + 1) w6.heap.size _ (.slice none 0 0) [had] [] rfl rfl (HR6.out.on (bel1 _ _)) ⟨none, 0, rfl, .inl rfl⟩ (cell_new _ _ _) (Nat.le_trans hszV.out (bel1 w6 _).size) (by simp) ?_
                           intro g7 c7 w7 hR7 hg7 hb7
                           have HR7 := Lib.hid hR7
                           have HD7 := Lib.hid (HD.out.grow (l := l) hb7 HZV.out)
                           have hvh7 := Lib.hid ((sl (sl bytesE)).mono ((sl (sl bytesE)).kp ((sl (sl bytesE)).on hvP6.out (bel1 w6 (.cells #[.slice none 0 0] 33))) ((Kp.ge hb7).mono fun k hk => .inl hk)) (Y := X4 (w.heap.size + 2) w.heap.size (w.heap.size + 1) l) (fun k _ hk => .inr hk))
                           have hsz7 : Hid (w4.heap.size ≤ w7.heap.size) := Nat.le_trans hsz6.out (Nat.le_trans (bel1 w6 _).size hb7.size)
                           have hB7 := Lib.hid ((hB6.out.trans ((bel1 w6 (.cells #[.slice none 0 0] 33)).mono hB6.out.size)).trans (hb7.mono hwV.out))
                           clear hR7 hg7 hb7)
              go_roundg g
              case measure => omega
              case rel => exact ⟨i + 1, had, [had, []], _, _, _, _, by omega, by first | rfl | simp, rfl, rfl, hvh7, rowG_slZ HR7.out HZV.out, by show (2 : Nat) ≤ _; omega, ⟨by have := hhs.out.1; omega, hhs.out.2⟩, (fun m hm => by
                simp at hm
                rcases hm with rfl | rfl
                · exact HLh.out
                · exact ⟨by simp, fun j hj => (by simp at hj)⟩), .inr HD7.out, hsz7, hB7⟩
          · have hx1' : (x == 1) = false := by simpa using hx1
            go_wp2_with (go_at_call 10; refine c10.mono ?_; rintro e wx ⟨rfl, hwx⟩; subst hwx)
            go_roundg g
            case measure => omega
            case rel => exact ⟨i + 1, had, [had], _, _, _, _, by omega, by first | rfl | simp, rfl, rfl, hvhM, rowG_slZ HRM.out HZV.out, by show (1 : Nat) ≤ _; omega, ⟨by have := hhs.out.1; omega, hhs.out.2⟩, (fun m hm => by simp at hm; subst hm; exact HLh.out), .inl ⟨HUM.out, rfl⟩, hszM, hbM⟩
      · have HDN := Lib.hid (hdn.on bO.out)
        clear hdn hst
        have c10 := down_dn (wr.alloc (.cells #[.int .i64 x, .slice rp r.length rcp, .int .i64 n, .int .i64 t, .slice okp okn okc, .int .u32 bits] 38)) _ _ _ _ HDN.out
        go_wp2_with (first
          | (go_at_call 10; refine c10.mono ?_; rintro e wx ⟨rfl, hwx⟩; subst hwx)
          | (go_at_call 15; refine (start_dn _ _ _ _ _ HDN.out torn _ kb (HK.out _ hbO.out)).mono ?_; rintro e w6 ⟨rfl, ⟨m, hm, hbk⟩, hk6⟩
             have HB6 := Lib.hid (hbO.out.trans (hk6.below (by omega) (Nat.le_refl _) (by omega) hbO.out.size))
             have HV6 := Lib.hid ((sl (sl (sl bytesE))).kp hvmO.out (Kp.kept (X := (X4 (w.heap.size + 2) w.heap.size (w.heap.size + 1) l)) hk6 (x4d _ _ _ _).1 (x4d _ _ _ _).2.1 (x4d _ _ _ _).2.2.1))
             have HBK := Lib.hid hbk
             have HM := Lib.hid hm
             clear hm hbk hk6)
          | (go_at_call 16; have hh := HM2; clear hh; refine (open_bk _ _ _ _ _ HBK8.out).mono ?_; rintro e w9 ⟨l9, np9, n9, nc9, p9, c9, rfl, hE9, hbk9, hb9⟩
             have HE9 := Lib.hid hE9
             have HA9 := Lib.hid ((sl (sl bytesE)).on HA8.out hb9)
             have HV9 := Lib.hid ((sl (sl (sl bytesE))).on HV8.out hb9)
             have y9 := cell_on hb9 HC8.out
             have HC9 := Lib.hid y9
             have HB9 := Lib.hid (bel_then HB8.out hb9)
             clear hE9 hbk9 hb9)
          | (go_at_call 16; refine (open_bk _ _ _ _ _ HBK.out).mono ?_; rintro e w7 ⟨l7, np7, n7, nc7, p7, c7, rfl, hE7, hbk7, hb7⟩
             have b8 := bel1 w7 (.cells #[.slice p7 m.length c7] 33)
             have HA8 := Lib.hid ((sl (sl bytesE)).on hE7 b8)
             have HBK8 := Lib.hid (hbk7.on b8)
             have HV8 := Lib.hid ((sl (sl (sl bytesE))).on HV6.out (bel_then hb7 b8))
             have HC8 := Lib.hid (cell_new w7 (.slice p7 m.length c7) 33)
             have HB8 := Lib.hid (bel_then HB6.out (bel_then hb7 b8))
             have HM2 := Lib.hid True.intro
             clear hE7 hbk7 hb7 b8)
          | (go_at_call 17; refine (same17 _ _ _ m m HA9.out HE9.out (HLm.out m HM.out).2 (HLm.out m HM.out).2 (HLm.out m HM.out).1 (HLm.out m HM.out).1).mono ?_; rintro e w10 ⟨rfl, hb10⟩
             rw [sameC_refl]
             have HA10 := Lib.hid ((sl (sl bytesE)).on HA9.out hb10)
             have HV10 := Lib.hid ((sl (sl (sl bytesE))).mono ((sl (sl (sl bytesE))).on HV9.out hb10) (Y := fun _ => False) (fun _ _ h => h.elim))
             have HC10 := Lib.hid (cell_on hb10 HC9.out)
             have HB10 := Lib.hid (bel_then HB9.out hb10)
             clear hb10)
          | (go_at_call 18
             obtain ⟨i0, hi0, he0⟩ := List.mem_iff_getElem.1 HM.out
             refine (contains18 _ _ _ _ m _ HC10.out HA10.out HV10.out (HLm.out m HM.out) (fun j hj => HLm.out _ (List.getElem_mem hj)) hml.out i0 hi0 he0).mono ?_; rintro e w11 ⟨rfl, hb11⟩
             have HB11 := Lib.hid (bel_then HB10.out hb11)
             clear hb11))
        go_ret
        exact ⟨rfl, HB11.out⟩
end Go.Proofs.YtnclhjjhobbbjaaDoor
