/-
  What begun does: it answers true.
-/
import Derived.Test.YtnclhjjhobbbjaaDoorZFoWdWgWl
namespace Go.Proofs.YtnclhjjhobbbjaaDoor
open Go.RowKit Go.Maps
set_option linter.unusedVariables false      -- a walk need not use every condition
attribute [local go_sem ↓] Go.wp_at_zero Go.wp_at_succ

theorem bs_lit (w : World) (t : List UInt8) (o : Obj) (ho : o = .cells (enc t).toArray 5 ∨ ∃ m, o = .cells (enc t).toArray 5 m) (hl : t.length ≤ maxLen) : Bs (w.alloc o) (.slice (some ⟨w.heap.size, 0, none⟩) t.length t.length) t := by
  refine ⟨_, t.length, rfl, Nat.le_refl _, hl, fun e => (by cases e), .inr ⟨_, _, rfl, ?_⟩⟩
  intro j v hv
  have hb : (w.alloc o).heap[w.heap.size]? = some o := heap_alloc_last w o
  rcases ho with rfl | ⟨m, rfl⟩
  all_goals
    unfold World.cell?
    simp only [hb]
    simp [hv]
def rs0 : Rs := [[97], [98, 99]]
theorem rs0_ok : okC rs0 := ⟨by decide, fun r hr => by
  simp [rs0] at hr
  rcases hr with rfl | rfl <;> decide⟩
theorem rs0_pn : pn (cby rs0) = 1 := by decide
theorem rs0_len : (cby rs0).length ≤ 4398046511104 := by
  have : (cby rs0).length = 6 := by decide
  omega
theorem two_of {w : World} {g : Nat} {a b : Value} {t : TypeId} (hb : w.heap[g]? = some (.cells #[a, b] t)) : w.cell? ⟨g, 0, none⟩ = some a ∧ w.cell? ⟨g, 1, none⟩ = some b := by
  refine ⟨?_, ?_⟩ <;> simp [World.cell?, hb]
theorem bss0 (w : World) : Bss (((w.alloc (.cells #[.int .u8 97] 5 (1, 2))).alloc (.cells #[.int .u8 98, .int .u8 99] 5 (2, 3))).alloc (.cells #[.slice (some ⟨w.heap.size, 0, none⟩) 1 1, .slice (some ⟨w.heap.size + 1, 0, none⟩) 2 2] 43)) (.slice (some ⟨w.heap.size + 1 + 1, 0, none⟩) 2 2) rs0 := by
  have b1 := bs_lit w [97] (.cells #[.int .u8 97] 5 (1, 2)) (.inr ⟨_, rfl⟩) (by decide)
  have b2 := bs_lit (w.alloc (.cells #[.int .u8 97] 5 (1, 2))) [98, 99] (.cells #[.int .u8 98, .int .u8 99] 5 (2, 3)) (.inr ⟨_, rfl⟩) (by decide)
  rw [World.size_alloc] at b2
  have hb := heap_alloc_last ((w.alloc (.cells #[.int .u8 97] 5 (1, 2))).alloc (.cells #[.int .u8 98, .int .u8 99] 5 (2, 3))) (.cells #[.slice (some ⟨w.heap.size, 0, none⟩) 1 1, .slice (some ⟨w.heap.size + 1, 0, none⟩) 2 2] 43)
  rw [World.size_alloc, World.size_alloc] at hb
  obtain ⟨x0, x1⟩ := two_of hb
  refine ⟨_, 2, rfl, .inr ⟨_, 0, rfl, fun i hi => ?_⟩⟩
  have hi2 : i = 0 ∨ i = 1 := by
    have : rs0.length = 2 := rfl
    omega
  rcases hi2 with rfl | rfl
  · exact ⟨_, x0, (b1.on (bel1 _ _)).on (bel1 _ _)⟩
  · exact ⟨_, x1, b2.on (bel1 _ _)⟩
theorem bss1 (w : World) : Bss (w.alloc (.cells #[.slice none 0 0] 43)) (.slice (some ⟨w.heap.size, 0, none⟩) 1 1) [[]] := by
  refine ⟨_, 1, rfl, .inr ⟨_, 0, rfl, fun i hi => ?_⟩⟩
  obtain rfl : i = 0 := by simp at hi; exact hi
  exact ⟨_, cell_new w _ _, bs_nil _⟩
set_option maxHeartbeats 8000000 in
set_option maxRecDepth 100000 in
theorem begun8 (w : World) (hT : TabOk w) : Calls Tryd.prog 8 #[] w fun e w' => e = .returned (.bool true) ∧ Below w.heap.size w w' := by
  have HT := Lib.hid hT
  have c6 := new6 12 (by decide) (by decide) w
  have hf := fmt_is 12 8 [5] (by decide) (by decide) (by decide) (by decide)
  obtain ⟨f1, f2, f3, f4, f5⟩ := hf
  have c7 := fun (W : World) (hA : At W (w.heap.size + 2) w.heap.size (w.heap.size + 1) (made 12)) (hTT : TabOk W) (v : Value) (hv : Bs W v [5]) (hx : BsX (fun k => k = w.heap.size + 2 ∨ k = w.heap.size ∨ k = w.heap.size + 1) W v [5]) => format7 W _ _ _ (made 12) hA hTT 8 (by decide) (by decide) (by decide) v [5] hv (by decide) (by decide) f1 f2 hx
  obtain ⟨s1, hs1⟩ : ∃ s1, (((made 12).write 0 zer).2.hwr 1 8 [5]).2 = s1 := ⟨_, rfl⟩
  rw [hs1] at f3 f4 f5 c7
  have hap := apd_is f5 rfl rs0 rs0_ok
  have hA1 : ∃ s2, apd s1 ⟨1, 8, [5], 0, false, false⟩ rs0 = (0, ⟨1, 8, [5], 1, false, false⟩, s2) ∧ s2.N = 12 ∧ s2.fuse = 0 ∧ Wl s2 ⟨1, 8, [5], 1, false, false⟩ [rs0] := by
    rcases hap with h | ⟨h1, h2, h3, h4, h5⟩ | ⟨h1, h2, -⟩
    · exfalso
      unfold apd at h
      rw [if_neg (by decide), if_neg (by decide), if_neg (by rw [rs0_pn]; decide)] at h
      split at h
      · rename_i hne
        rcases wrc_is (u := 0) (t := cby rs0) f5.cl (by decide : (0 : Int) ≤ 1) (by rw [rs0_pn, f3]; decide) with ⟨p1, -⟩ | ⟨p1, -, -, -, p5⟩
        · exact hne p1
        · exact p5 f4
      · injection h with h; cases h
    · rw [rs0_pn] at h2
      refine ⟨(apd s1 ⟨1, 8, [5], 0, false, false⟩ rs0).2.2, ?_, by rw [h3, f3], h4 f4, ?_⟩
      · rw [← h1]
        rw [show (⟨1, 8, [5], 1, false, false⟩ : Lg) = (apd s1 ⟨1, 8, [5], 0, false, false⟩ rs0).2.1 from h2.symm]
      · rw [h2] at h5; exact h5
    · exact absurd f4 h2
  obtain ⟨s2, hap2, g3, g4, g5⟩ := hA1
  have c12 := fun (W : World) (l : Nat) (hA : At W (w.heap.size + 2) w.heap.size (w.heap.size + 1) s1) (hL : LAt W (w.heap.size + 2) w.heap.size (w.heap.size + 1) l ⟨1, 8, [5], 0, false, false⟩) (hTT : TabOk W) (v : Value) (hv : Bss W v rs0) => append12 W _ _ _ l s1 _ hA hL hTT v rs0 hv rs0_len
  rw [hap2] at c12
  unfold LogR at c12
  simp only at c12
  have hg := g5.gd
  have c16 := fun (W : World) (hA : At W (w.heap.size + 2) w.heap.size (w.heap.size + 1) s2) (hTT : TabOk W) => open16 W _ _ _ s2 hA hTT g5.cl.down 1 8 [5] hg.head (by decide) (by decide) (by decide) (by decide) (by rw [g3]; decide) (by decide)
  have hts : rds s2.fr 1 8 (8 + 1) 0 = ([rs0], 1) := hg.tells
  rw [hts] at c16
  unfold OpR at c16
  simp only at c16
  have c12b := fun (W : World) (l : Nat) (hA : At W (w.heap.size + 2) w.heap.size (w.heap.size + 1) s2) (hL : LAt W (w.heap.size + 2) w.heap.size (w.heap.size + 1) l ⟨1, 8, [5], 1, true, false⟩) (hTT : TabOk W) (v : Value) (hv : Bss W v [[]]) => append12 W _ _ _ l s2 _ hA hL hTT v [[]] hv (by decide)
  have hap3 : apd s2 ⟨1, 8, [5], 1, true, false⟩ [[]] = (61, ⟨1, 8, [5], 1, true, false⟩, s2) := rfl
  rw [hap3] at c12b
  unfold LogR at c12b
  simp only at c12b
  have g6 : Wl s2 ⟨1, 8, [5], 1, true, false⟩ [rs0] := ⟨g5.cl, g5.gd, rfl⟩
  have hrs : ∃ s3, rst s2 ⟨1, 8, [5], 1, true, false⟩ = (0, ⟨2, 8, [5], 0, false, false⟩, s3) := by
    rcases rst_is g6 with h | ⟨h1, h2, h3, h4, h5⟩ | ⟨h1, h2, -⟩
    · exfalso
      unfold rst at h
      rw [if_neg (by decide), if_neg (by decide)] at h
      split at h
      · rename_i hne
        rcases hwr_is (slots := 8) (note := [5]) g5.cl (by decide : (0 : Int) ≤ 1 + 1) (by decide) (by rw [g3]; decide) with ⟨p1, -⟩ | ⟨p1, -, -, -, p5⟩
        · exact hne p1
        · exact p5 g4
      · injection h with h; cases h
    · refine ⟨(rst s2 ⟨1, 8, [5], 1, true, false⟩).2.2, ?_⟩
      rw [← h1]
      rw [show (⟨2, 8, [5], 0, false, false⟩ : Lg) = (rst s2 ⟨1, 8, [5], 1, true, false⟩).2.1 from h2.symm]
    · exact absurd g4 h2
  obtain ⟨s3, hrs3⟩ := hrs
  have c13 := fun (W : World) (l : Nat) (hA : At W (w.heap.size + 2) w.heap.size (w.heap.size + 1) s2) (hL : LAt W (w.heap.size + 2) w.heap.size (w.heap.size + 1) l ⟨1, 8, [5], 1, true, false⟩) (hTT : TabOk W) => reset13 W _ _ _ l s2 _ hA hL hTT (by decide)
  rw [hrs3] at c13
  unfold LogR at c13
  simp only at c13
  clear hT f1 f2 f3 f4 f5 hs1 hap hap2 g3 g4 g5 hg hts hap3 g6 hrs3
  have t1 : True := trivial
  have hl2 : ([rs0] : Cs).length = 1 := rfl
  rw [hl2] at c16
  have hl5 : ([5] : List UInt8).length = 1 := rfl
  rw [hl5] at c16
  go_enter Tryd.func8, Tryd.ntmps8
  go_wp2_with (first
    | (go_at_call 6; refine c6.mono ?_; rintro e w1 ⟨rfl, hA1, hb1⟩
       have HA1 := Lib.hid hA1
       have HB1 := Lib.hid hb1
       have lts := hA1.lts
       clear hA1 hb1)
    | (go_at_call 7; refine (c7 _ (HA1.out.on (bel1 _ _)) (tab_on HT.out (bel_then HB1.out (bel1 _ _))) _ (bs_one w1 5 rfl) ⟨bs_one w1 5 rfl, fun _ a n c e hx => ?_⟩).mono ?_
       · injection e with e
         injection e with e
         subst e
         simp at hx
         omega
       rintro e w2 ⟨l, rfl, hl, hA2, hL2, hK2, hT2⟩
       have HA2 := Lib.hid hA2
       have HL2 := Lib.hid hL2
       have HT2 := Lib.hid hT2
       have hz1 := HB1.out.size
       have HB2 : Hid (Below w.heap.size w w2) := (HB1.out.trans ((bel1 w1 (.cells #[.int .u8 5] 5)).mono hz1)).trans (hK2.below (by omega) (Nat.le_refl _) (by omega) (by simp; omega))
       have hcv1 := Go.Joins.run_convert_bytes_const_at (P := Tryd.prog) w2 43 5 #[.int .u8 97] 1 1 w2.heap.size rfl Tryd.underlying43 Tryd.underlying5
       have hcv2 := Go.Joins.run_convert_bytes_const_at (P := Tryd.prog) (w2.alloc (.cells #[.int .u8 97] 5 (1, 2))) 43 5 #[.int .u8 98, .int .u8 99] 2 2 (w2.heap.size + 1) (by simp) Tryd.underlying43 Tryd.underlying5
       simp at hcv1 hcv2
       clear hA2 hL2 hK2 hT2)
    | (go_at_call 12; clear t1
       have hb3 : Below w2.heap.size w2 (((w2.alloc (.cells #[.int .u8 97] 5 (1, 2))).alloc (.cells #[.int .u8 98, .int .u8 99] 5 (2, 3))).alloc (.cells #[.slice (some ⟨w2.heap.size, 0, none⟩) 1 1, .slice (some ⟨w2.heap.size + 1, 0, none⟩) 2 2] 43)) := bel_then (bel_then (bel1 w2 _) (bel1 _ _)) (bel1 _ _)
       refine (c12 _ l (HA2.out.on hb3) (HL2.out.on hb3) (tab_on HT2.out hb3) _ (bss0 w2)).mono ?_
       rintro e w3 ⟨rfl, hA3, hL3, hK3, hT3⟩
       have HA3 := Lib.hid hA3
       have HT3 := Lib.hid hT3
       have HB3 : Hid (Below w.heap.size w w3) := (HB2.out.trans (hb3.mono HB2.out.size)).trans (hK3.below (fun k hk => by
         have := HB1.out.size
         rcases hk with hk | hk | hk | hk
         · omega
         · omega
         · omega
         · subst hk; simp at hl; omega) (Nat.le_trans HB2.out.size hb3.size))
       clear hA3 hL3 hK3 hT3 hb3))
  refine (c16 _ HA3.out HT3.out).mono ?_
  rintro e w4 ⟨m, np, nc, p, c, rfl, hml, hbs, hE, hA4, hL4, hb4, hT4⟩
  have HA4 := Lib.hid hA4
  have HL4 := Lib.hid hL4
  have HT4 := Lib.hid hT4
  have HBS := Lib.hid hbs
  have HB4 := Lib.hid (HB3.out.trans (hb4.mono HB3.out.size))
  obtain ⟨g, o, cap, x, ex, hx, hxE⟩ := sl_at hE (i := 0) (by decide)
  have hxE' : (sl bytesE).E (fun _ => False) w4 x rs0 := hxE
  obtain ⟨g2, o2, cap2, y, ey, hy, hyE⟩ := sl_at hxE' (i := 1) (by decide)
  have ey' : x = .slice (some ⟨g2, o2, none⟩) 2 cap2 := ey
  have hyE' : Bs w4 y [98, 99] := hyE.1
  have ex' : Value.slice p 1 c = .slice (some ⟨g, o, none⟩) 1 cap := ex
  have b5 := bel1 w4 (.cells #[.int .u8 5] 5)
  have x5 : (w4.alloc (.cells #[.int .u8 5] 5)).cell? ⟨g, o, none⟩ = some x := cell_on b5 hx
  have y5 : (w4.alloc (.cells #[.int .u8 5] 5)).cell? ⟨g2, o2 + 1, none⟩ = some y := cell_on b5 hy
  have hs5 : (convert 43 9 y).run Tryd.prog (w4.alloc (.cells #[.int .u8 5] 5)) = .ok (.string ⟨#[98, 99]⟩) (w4.alloc (.cells #[.int .u8 5] 5)) := (hyE'.on b5).str
  clear ex ey hxE hxE' hyE hx hy
  injection ex' with ex1 ex2 ex3
  subst ex1 ex3 ey'
  obtain ⟨yp, yc, ey2, -⟩ := hyE'
  have ey3 : y = .slice yp 2 yc := ey2
  clear ey2
  subst ey3
  clear hA4 hL4 hT4 hbs hE hb4 b5 hl2 hl5
  dsimp only
  have e29 := equal29 (w4.alloc (.cells #[.int .u8 5] 5)) _ _ [5] [5] (HBS.out.on (bel1 _ _)) (bs_one w4 5 rfl)
  rw [show (([5] : List UInt8) == [5]) = true from rfl] at e29
  go_wp2_with (first
    | (go_at_call 29; refine e29.mono ?_; rintro e w5 ⟨rfl, hw5⟩; subst hw5)
    | (go_at_call 12
       have b6 := bel_then (bel1 w4 (.cells #[.int .u8 5] 5)) (bel1 (w4.alloc (.cells #[.int .u8 5] 5)) (.cells #[.slice none 0 0] 43))
       have hbs1 := bss1 (w4.alloc (.cells #[.int .u8 5] 5))
       rw [World.size_alloc] at hbs1
       refine (c12b _ m (HA4.out.on b6) (HL4.out.on b6) (tab_on HT4.out b6) _ hbs1).mono ?_
       rintro e w6 ⟨rfl, hA6, hL6, hK6, hT6⟩
       have HA6 := Lib.hid hA6
       have HL6 := Lib.hid hL6
       have HT6 := Lib.hid hT6
       have HB6 : Hid (Below w.heap.size w w6) := (HB4.out.trans (b6.mono HB4.out.size)).trans (hK6.below (fun k hk => by
         have := HB3.out.size
         rcases hk with hk | hk | hk | hk <;> omega) (Nat.le_trans HB4.out.size b6.size))
       clear hA6 hL6 hK6 hT6 b6 hbs1)
    | (go_at_call 13; refine (c13 _ m HA6.out HL6.out HT6.out).mono ?_
       rintro e w7 ⟨rfl, hA7, hL7, hK7, hT7⟩
       have HL7 := Lib.hid hL7
       have HB7 : Hid (Below w.heap.size w w7) := HB6.out.trans (hK7.below (fun k hk => by
         have := HB3.out.size
         rcases hk with hk | hk | hk | hk <;> omega) HB6.out.size)
       clear hA7 hL7 hK7 hT7)
    | (go_at_call 20; refine (epoch20 _ _ _ _ m _ HL7.out).mono ?_
       rintro e w8 ⟨rfl, hb8⟩
       have HL8 := Lib.hid (HL7.out.on hb8)
       have HB8 := Lib.hid (HB7.out.trans (hb8.mono HB7.out.size))
       clear hb8)
    | (go_at_call 22; refine (used22 _ _ _ _ m _ HL8.out).mono ?_
       rintro e w9 ⟨rfl, hb9⟩
       have HB9 := Lib.hid (HB8.out.trans (hb9.mono HB8.out.size))
       clear hb9))
  go_ret
  exact ⟨rfl, HB9.out⟩
end Go.Proofs.YtnclhjjhobbbjaaDoor
