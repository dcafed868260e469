/-
  A log over a disk of 40 sectors with no fuse: what Append, Reset and Open do to it, told by its commits.
  What Same of the document does.
  What stood in a log ahead of a new epoch; WalOld.
-/
import Derived.Test.YtnclhjjhobbbjaaDoorZBegun
import Derived.Test.YtnclhjjhobbbjaaDoorZLgLsComElCu3Eq
import Derived.Test.YtnclhjjhobbbjaaDoorZRcom
namespace Go.Proofs.YtnclhjjhobbbjaaDoor
open Go.RowKit Go.Maps
set_option linter.unusedVariables false      -- a walk need not use every condition

def nt4 : List UInt8 := [110, 111, 116, 101]
/-- A log of 30 slots with these commits, of epoch e. -/
def St (w : World) (d pb mb l : Nat) (e : Int) (had : Cs) : Prop := ∃ (u : Nat) (s : Dsk), At w d pb mb s ∧ LAt w d pb mb l ⟨e, 30, nt4, u, false, false⟩ ∧ Wl s ⟨e, 30, nt4, u, false, false⟩ had ∧ TabOk w ∧ s.N = 40 ∧ s.fuse = 0
theorem St.on {w w' : World} {d pb mb l : Nat} {e : Int} {had : Cs} (h : St w d pb mb l e had) (hb : Below w.heap.size w w') : St w' d pb mb l e had := by
  obtain ⟨u, s, h1, h2, h3, h4, h5⟩ := h
  exact ⟨u, s, h1.on hb, h2.on hb, h3, tab_on h4 hb, h5⟩
theorem St.tab {w : World} {d pb mb l : Nat} {e : Int} {had : Cs} (h : St w d pb mb l e had) : TabOk w := by
  obtain ⟨u, s, h1, h2, h3, h4, h5⟩ := h
  exact h4
theorem Kp.ge {B : Nat} {w w' : World} (h : Below B w w') : Kp (fun k => B ≤ k) w w' := ⟨h.os, h.tape, h.output, h.size, fun k _ hx => h.block k (by omega)⟩
/-- Where the log's note lies. -/
def NtB (w : World) (l base : Nat) : Prop := ∀ a n c, w.cell? ⟨l, 3, none⟩ = some (.slice (some a) n c) → a.block < base
theorem St.ntB {w : World} {d pb mb l : Nat} {e : Int} {had : Cs} (h : St w d pb mb l e had) : NtB w l w.heap.size := by
  obtain ⟨u, s, hA, hL, hW, hT, hN, hF⟩ := h
  obtain ⟨np, nc, hblk, hn⟩ := hL.cells
  obtain ⟨-, -, -, z3, -⟩ := seven_of hblk
  intro a n c e
  rw [z3] at e
  injection e with e
  exact hn.1.blk_lt (show nt4 ≠ [] by decide) e
/-- What lies further on may change. -/
theorem St.grow {w w' : World} {d pb mb l : Nat} {e : Int} {had : Cs} {base : Nat} (h : St w d pb mb l e had) (hB : Below base w w') (hZ : ∀ k, X4 d pb mb l k → k < base) (hb : NtB w l base) : St w' d pb mb l e had := by
  obtain ⟨u, s, hA, hL, hW, hT, hN, hF⟩ := h
  obtain ⟨np, nc, hblk, hn⟩ := hL.cells
  obtain ⟨-, -, -, z3, -⟩ := seven_of hblk
  have hx : BsX (fun k => base ≤ k) w (.slice np nt4.length nc) nt4 := ⟨hn.1, fun _ a n c e => by
    rw [e] at z3
    have := hb _ _ _ z3
    show ¬ (base ≤ a.block)
    omega⟩
  refine ⟨u, s, hA.same (hB.block _ (hZ _ (x4d d pb mb l).1)) (hB.block _ (hZ _ (x4d d pb mb l).2.1)) (hB.block _ (hZ _ (x4d d pb mb l).2.2.1)), ?_, hW, tab_blk hT (hB.block 0 (by have := hZ _ (x4d d pb mb l).1; omega)), hN, hF⟩
  exact { hL with blk := ⟨_, (hB.block _ (hZ _ (x4d d pb mb l).2.2.2)).trans hblk, (hx.kp (Kp.ge hB)).1, hn.2⟩ }
theorem St.x4 {w : World} {d pb mb l : Nat} {e : Int} {had : Cs} (h : St w d pb mb l e had) : ∀ k, X4 d pb mb l k → k < w.heap.size := by
  obtain ⟨u, s, hA, hL, hW, hT, hN, hF⟩ := h
  have := hA.lts
  have := hL.lt
  intro k hk
  rcases hk with hk | hk | hk | hk <;> omega
theorem app_st (w : World) (d pb mb l : Nat) (e : Int) (had : Cs) (h : St w d pb mb l e had) (v : Value) (rs : Rs) (hv : Bss w v rs) (hf : Few rs) :
    Calls Tryd.prog 12 #[.pointer (some ⟨l, 0, none⟩), v] w fun r w' => ∃ (c : Int) (had' : Cs), r = .returned (.int .i64 c) ∧ St w' d pb mb l e had' ∧ Kp (X4 d pb mb l) w w' ∧ w'.cell? ⟨l, 3, none⟩ = w.cell? ⟨l, 3, none⟩ ∧ (c = 6 ∧ had' = had ∨ c = 0 ∧ had' = had ++ [rs]) := by
  obtain ⟨u, s, hA, hL, hW, hT, hN, hF⟩ := h
  refine (append12n w d pb mb l s _ hA hL hT v rs hv hf.len).mono ?_
  rintro r w' ⟨hr, h3⟩
  unfold LogR at hr
  rcases apd_is hW rfl rs hf.ok with h1 | ⟨h1, h2, hN', h4, h5⟩ | ⟨-, h2, -⟩
  · rw [h1] at hr
    obtain ⟨rfl, hA', hL', hK, hT'⟩ := hr
    exact ⟨6, had, rfl, ⟨u, s, hA', hL', hW, hT', hN, hF⟩, hK, h3, .inl ⟨rfl, rfl⟩⟩
  · obtain ⟨rfl, hA', hL', hK, hT'⟩ := hr
    rw [h2] at hL' h5
    exact ⟨0, had ++ [rs], by rw [h1], ⟨_, _, hA', hL', h5, hT', by rw [hN', hN], h4 hF⟩, hK, h3, .inr ⟨rfl, rfl⟩⟩
  · exact absurd hF h2
theorem rst_st (w : World) (d pb mb l : Nat) (had : Cs) (h : St w d pb mb l 1 had) :
    Calls Tryd.prog 13 #[.pointer (some ⟨l, 0, none⟩)] w fun r w' => r = .returned (.int .i64 0) ∧ St w' d pb mb l 2 [] ∧ Kp (X4 d pb mb l) w w' := by
  obtain ⟨u, s, hA, hL, hW, hT, hN, hF⟩ := h
  refine (reset13 w d pb mb l s _ hA hL hT (by show (hpay 30 nt4).length ≤ 112; decide)).mono ?_
  intro r w' hr
  unfold LogR at hr
  rcases rst_is hW with h1 | ⟨h1, h2, h3, h4, h5⟩ | ⟨-, h2, -⟩
  · exfalso
    unfold rst at h1
    rw [if_neg (by show ¬ (false = true); decide), if_neg (by show ¬ ((1 : Int) = 1099511627776); decide)] at h1
    split at h1
    · rename_i hne
      rcases hwr_is (slots := 30) (note := nt4) hW.cl (by decide : (0 : Int) ≤ 1 + 1) (by decide) (by rw [hN]; decide) with ⟨p1, -⟩ | ⟨p1, -, -, -, p5⟩
      · exact hne p1
      · exact p5 hF
    · injection h1 with h1; cases h1
  · obtain ⟨rfl, hA', hL', hK, hT'⟩ := hr
    rw [h2] at hL' h5
    exact ⟨by rw [h1], ⟨_, _, hA', hL', h5, hT', by rw [h3, hN], h4 hF⟩, hK⟩
  · exact absurd hF h2
theorem open_st (w : World) (d pb mb l : Nat) (e : Int) (had : Cs) (h : St w d pb mb l e had) :
    Calls Tryd.prog 16 #[.pointer (some ⟨d, 0, none⟩)] w fun r w' => ∃ m np nc p c, r = .returned (.tuple #[.pointer (some ⟨m, 0, none⟩), .slice np 4 nc, .slice p had.length c, .int .i64 0]) ∧ Bs w' (.slice np 4 nc) nt4 ∧ (sl (sl bytesE)).E (fun _ => False) w' (.slice p had.length c) had ∧ (∃ u, LAt w' d pb mb m ⟨e, 30, nt4, u, true, false⟩) ∧ Below w.heap.size w w' := by
  obtain ⟨u, s, hA, hL, hW, hT, hN, hF⟩ := h
  have hg := hW.gd
  have c := open16 w d pb mb s hA hT hW.cl.down e 30 nt4 hg.head hL.pos hL.top (by decide) (by decide) (by rw [hN]; decide) (by decide)
  have hts : rds s.fr e 30 (30 + 1) 0 = (had, u) := hg.tells
  rw [hts] at c
  unfold OpR at c
  refine c.mono ?_
  rintro r w' ⟨m, np, nc, p, q, rfl, -, h1, h2, -, h3, h4, -⟩
  exact ⟨m, np, nc, p, q, rfl, h1, h2, ⟨u, h3⟩, h4⟩
end Go.Proofs.YtnclhjjhobbbjaaDoor
namespace Go.Proofs.YtnclhjjhobbbjaaDoor
open Go.RowKit Go.Maps
set_option linter.unusedVariables false      -- a walk need not use every condition
attribute [local go_sem ↓] Go.wp_at_zero Go.wp_at_succ

/-- Are two rows of commits of the same bytes? -/
def sameC (A B : Cs) : Bool := decide (A.map cby = B.map cby)
theorem sameC_refl (A : Cs) : sameC A A = true := decide_eq_true rfl
theorem sameC_len {A B : Cs} (h : A.length ≠ B.length) : sameC A B = false := decide_eq_false fun e => h (by simpa using congrArg List.length e)
theorem sameC_at {A B : Cs} {i : Nat} (ha : i < A.length) (hb : i < B.length) (h : cby A[i] ≠ cby B[i]) : sameC A B = false := decide_eq_false fun e => h (by
  have h1 : (A.map cby)[i]'(by simpa using ha) = (B.map cby)[i]'(by simpa using hb) := by simp only [e]
  simpa using h1)
theorem sameC_all {A B : Cs} (hl : A.length = B.length) (h : ∀ i (ha : i < A.length) (hb : i < B.length), cby A[i] = cby B[i]) : sameC A B = true := decide_eq_true (by
  refine List.ext_getElem (by simpa using hl) fun i h1 h2 => ?_
  simp only [List.length_map] at h1 h2
  simp only [List.getElem_map]
  exact h i h1 h2)
set_option maxHeartbeats 4000000 in
set_option maxRecDepth 100000 in
theorem same17 (w : World) (a b : Value) (A B : Cs) (hA : (sl (sl bytesE)).E (fun _ => False) w a A) (hB : (sl (sl bytesE)).E (fun _ => False) w b B)
    (hlA : ∀ i (h : i < A.length), (cby A[i]).length ≤ 4398046511104) (hlB : ∀ i (h : i < B.length), (cby B[i]).length ≤ 4398046511104) (hm : A.length ≤ 4398046511104) (hm2 : B.length ≤ 4398046511104) :
    Calls Tryd.prog 17 #[a, b] w fun e w' => e = .returned (.bool (sameC A B)) ∧ Below w.heap.size w w' := by
  have HA := Lib.hid hA
  have HB := Lib.hid hB
  have HLA := Lib.hid hlA
  have HLB := Lib.hid hlB
  obtain ⟨ap, ac, rfl⟩ := sl_hdr hA
  obtain ⟨bp, bc, rfl⟩ := sl_hdr hB
  clear hA hB hlA hlB
  by_cases hl : A.length = B.length
  · have HL := Lib.hid hl
    rw [← hl]
    clear hl hm2
    go_enter Tryd.func17, Tryd.ntmps17
    go_wp2
    go_loopg [5] A.length (fun g s5 wr => ∃ i : Nat, i + g = A.length ∧ s5 = .int .i64 i ∧ Hid (∀ j (ha : j < A.length) (hb : j < B.length), j < i → cby A[j] = cby B[j]) ∧ Hid (Below w.heap.size w wr))
    case atStart => exact ⟨0, by omega, rfl, fun j _ _ h => absurd h (Nat.not_lt_zero _), Below.refl _ _⟩
    case round =>
      obtain ⟨i, hig, rfl, heq, hb⟩ := hrel
      cases gk with
      | zero =>
        obtain rfl : i = A.length := by omega
        go_wp2
        go_ret
        exact ⟨by rw [sameC_all HL.out fun j ha hb => heq.out j ha hb ha]; rfl, hb.out⟩
      | succ g =>
        have hi : i < A.length := by omega
        have hib : i < B.length := by have := HL.out; omega
        have hiz : (i : Int) < (A.length : Int) := by omega
        have hi0 : (0 : Int) ≤ (i : Int) := by omega
        obtain ⟨ga, oa, ca, x, ex, hx, hxE⟩ := sl_at HA.out hi
        obtain ⟨gb, ob, cb, y, ey, hy, hyE⟩ := sl_at HB.out hib
        injection ex with ex1 ex2 ex3
        injection ey with ey1 ey2 ey3
        subst ex1 ex3 ey1 ey3
        clear ex2 ey2
        have HXB := Lib.hid (bss_of hxE)
        have HYB := Lib.hid (bss_of hyE)
        obtain ⟨xp, xc, rfl⟩ := sl_hdr hxE
        obtain ⟨yp, yc, rfl⟩ := sl_hdr hyE
        have hx1 := cell_on hb.out hx
        have hy1 := cell_on hb.out hy
        have hxd : wr.drew.cell? ⟨ga, oa + i, none⟩ = some _ := hx1
        have hyd : wr.drew.cell? ⟨gb, ob + i, none⟩ = some _ := hy1
        have HX := Lib.hid hx1
        have HY := Lib.hid hy1
        have HEQ : Hid (cby A[i] = cby B[i] → ∀ j (ha : j < A.length) (hb : j < B.length), j < i + 1 → cby A[j] = cby B[j]) := fun e j ha hb hj => by
          by_cases hji : j = i
          · subst hji; exact e
          · exact heq.out j ha hb (by omega)
        have HNE : Hid (cby A[i] ≠ cby B[i] → sameC A B = false) := fun e => sameC_at hi hib e
        have HLBi := HLB.out i hib
        have cA := fun (W : World) (hB : Below wr.heap.size wr W) => commit39 W _ A[i] (HXB.out.on (bel_then hb.out hB)) (HLA.out i hi)
        have cB := fun (W : World) (hB : Below wr.heap.size wr W) => commit39 W _ B[i] (HYB.out.on (bel_then hb.out hB)) HLBi
        generalize cby A[i] = TA at *
        generalize cby B[i] = TB at *
        generalize A[i].length = nA at *
        generalize B[i].length = nB at *

        have hne : TA = TB ∨ TA ≠ TB := Classical.em _
        clear hxE hyE hx hy heq
        go_wp2
        go_region_with (first
          | (go_at_call 39; have hh := DA; clear hh; refine (cB _ HB2.out).mono ?_
             rintro e w3 ⟨v3, rfl, hbt, hb3⟩
             have HB3 := Lib.hid (bel_then HB2.out hb3)
             have st2b := (HT2.out.on hb3).str
             have st3 := hbt.bs.str
             obtain ⟨vp3, vc3, rfl, -⟩ := hbt.bs
             clear hbt hb3)
          | (go_at_call 39; have hh := DB; clear hh; refine (cA _ HB2.out).mono ?_
             rintro e w3 ⟨v3, rfl, hbt, hb3⟩
             have HB3 := Lib.hid (bel_then HB2.out hb3)
             have st2b := (HT2.out.on hb3).str
             have st3 := hbt.bs.str
             obtain ⟨vp3, vc3, rfl, -⟩ := hbt.bs
             clear hbt hb3)
          | (go_at_call 39; with_reducible refine (cA _ (Below.refl _ wr).drew).mono ?_
             rintro e w2 ⟨v2, rfl, hbt, hb2⟩
             have hb2' : Below wr.heap.size wr w2 := ⟨hb2.os, hb2.tape, hb2.output, hb2.size, hb2.block⟩
             have HB2 := Lib.hid hb2'
             have HT2 := Lib.hid hbt.bs
             have st2 := hbt.bs.str
             obtain ⟨vp, vc, rfl, -⟩ := hbt.bs
             have hy2 := cell_on hb2' HY.out
             have DA := Lib.hid True.intro
             clear hbt hb2 hb2')
          | (go_at_call 39; with_reducible refine (cB _ (Below.refl _ wr).drew).mono ?_
             rintro e w2 ⟨v2, rfl, hbt, hb2⟩
             have hb2' : Below wr.heap.size wr w2 := ⟨hb2.os, hb2.tape, hb2.output, hb2.size, hb2.block⟩
             have HB2 := Lib.hid hb2'
             have HT2 := Lib.hid hbt.bs
             have st2 := hbt.bs.str
             obtain ⟨vp, vc, rfl, -⟩ := hbt.bs
             have hx2 := cell_on hb2' HX.out
             have DB := Lib.hid True.intro
             clear hbt hb2 hb2'))
        all_goals
          clear cA cB
          rcases hne with hne | hne
          · have HE := Lib.hid (HEQ.out hne)
            have hs0 : (TA == TB) = true := by rw [hne]; simp
            have hs : (!TA == TB) = false := by rw [hs0]; rfl
            clear hs0
            clear hne
            go_wp2
            · rename_i hq
              rw [hs] at hq
              cases hq
            · go_roundg g
              case measure => omega
              case rel => exact ⟨i + 1, by omega, by first | rfl | simp, HE, bel_then hb.out HB3.out⟩
          · have hs0 : (TA == TB) = false := by simpa using hne
            have hs : (!TA == TB) = true := by rw [hs0]; rfl
            clear hs0
            have HE := Lib.hid (HNE.out hne)
            go_wp2
            · go_ret
              exact ⟨by rw [HE.out]; rfl, bel_then hb.out HB3.out⟩
            · rename_i hq
              rw [hs] at hq
              cases hq
  · have hlz : ((A.length : Int) == (B.length : Int)) = false := by simp; omega
    have HR := Lib.hid (sameC_len hl)
    go_enter Tryd.func17, Tryd.ntmps17
    go_wp2
    go_ret
    exact ⟨by rw [HR.out]; rfl, Below.refl _ _⟩
end Go.Proofs.YtnclhjjhobbbjaaDoor
namespace Go.Proofs.YtnclhjjhobbbjaaDoor
open Go.RowKit Go.Maps
set_option linter.unusedVariables false      -- a walk need not use every condition
attribute [local go_sem ↓] Go.wp_at_zero Go.wp_at_succ

set_option maxHeartbeats 8000000 in
set_option maxRecDepth 100000 in
theorem old4 (w : World) (a b : Value) (A B : Cs) (hA : (sl (sl bytesE)).E (fun k => w.heap.size ≤ k) w a A) (hB : (sl (sl bytesE)).E (fun k => w.heap.size ≤ k) w b B)
    (hlA : A.length ≤ 1048576) (hlB : B.length ≤ 1048576) (hfA : ∀ i (h : i < A.length), Few A[i]) (hfB : ∀ i (h : i < B.length), Few B[i]) (hT : TabOk w) :
    Calls Tryd.prog 4 #[a, b] w fun e w' => e = .returned (.bool true) ∧ Below w.heap.size w w' := by
  have HA := Lib.hid hA
  have HB := Lib.hid hB
  have HFA := Lib.hid hfA
  have HFB := Lib.hid hfB
  have HT := Lib.hid hT
  obtain ⟨ap, ac, rfl⟩ := sl_hdr hA
  obtain ⟨bp, bc, rfl⟩ := sl_hdr hB
  have c6 := new6 40 (by decide) (by decide) w
  obtain ⟨f1, f2, f3, f4, f5⟩ := fmt_is 40 30 nt4 (by decide) (by decide) (by decide) (by decide)
  have c7 := fun (W : World) (hA : At W (w.heap.size + 2) w.heap.size (w.heap.size + 1) (made 40)) (hTT : TabOk W) (v : Value) (hv : Bs W v nt4) (hx : BsX (fun k => k = w.heap.size + 2 ∨ k = w.heap.size ∨ k = w.heap.size + 1) W v nt4) => format7 W _ _ _ (made 40) hA hTT 30 (by decide) (by decide) (by decide) v nt4 hv (by decide) (by decide) f1 f2 hx
  generalize (((made 40).write 0 zer).2.hwr 1 30 nt4).2 = s1 at *
  have HF3 := Lib.hid f3
  have HF4 := Lib.hid f4
  have HF5 := Lib.hid f5
  clear hA hB hfA hfB hT f1 f2 f3 f4 f5
  have hn := Lib.hid (info_parts info35)
  go_enter Tryd.func4, Tryd.ntmps4
  go_wp2_with (first
    | (go_at_call 6; refine c6.mono ?_; rintro e w1 ⟨rfl, hA1, hb1⟩
       have HA1 := Lib.hid hA1
       have HB1 := Lib.hid hb1
       have lts := Lib.hid hA1.lts
       have hcv1 := Go.Joins.run_convert_bytes_const_at (P := Tryd.prog) w1 43 5 #[.int .u8 110, .int .u8 111, .int .u8 116, .int .u8 101] 4 4 w1.heap.size rfl Tryd.underlying43 Tryd.underlying5
       simp at hcv1
       clear hA1 hb1)
    | (go_at_call 7
       have hbl := bs_lit w1 nt4 (.cells #[.int .u8 110, .int .u8 111, .int .u8 116, .int .u8 101] 5 (4, 5)) (.inr ⟨_, rfl⟩) (by decide)
       refine (c7 _ (HA1.out.on (bel1 _ _)) (tab_on HT.out (bel_then HB1.out (bel1 _ _))) _ hbl ⟨hbl, fun _ a n c e hx => ?_⟩).mono ?_
       · injection e with e
         injection e with e
         subst e
         have := lts.out
         simp at hx
         omega
       rintro e w2 ⟨l, rfl, hl, hA2, hL2, hK2, hT2⟩
       have HL : Hid (w.heap.size + 3 ≤ l) := by
         have := lts.out
         rw [World.size_alloc] at hl
         show _ ≤ _
         omega
       have HS2 : Hid (St w2 (w.heap.size + 2) w.heap.size (w.heap.size + 1) l 1 []) := ⟨0, s1, hA2, hL2, HF5.out, hT2, HF3.out, HF4.out⟩
       have hz1 := HB1.out.size
       have HB2 : Hid (Below w.heap.size w w2) := (HB1.out.trans ((bel1 w1 (.cells #[.int .u8 110, .int .u8 111, .int .u8 116, .int .u8 101] 5 (4, 5))).mono hz1)).trans (hK2.below (by omega) (Nat.le_refl _) (by omega) (by simp; omega))
       clear hA2 hL2 hK2 hT2 hl hz1 hbl hcv1)
    | (go_at_call 8; refine (begun8 _ HS2.out.tab).mono ?_; rintro e w3 ⟨rfl, hb3⟩
       have HS3 := Lib.hid (HS2.out.on hb3)
       have HB3 := Lib.hid (bel_then HB2.out hb3)
       clear hb3))
  have HX4 : Hid (∀ k, X4 (w.heap.size + 2) w.heap.size (w.heap.size + 1) l k → w.heap.size ≤ k) := fun k hk => by
    have := HL.out
    rcases hk with hk | hk | hk | hk <;> omega
  clear c6 c7
  go_loopg [44] A.length (fun g s44 wr => ∃ (i : Nat) (had : Cs), i + g = A.length ∧ s44 = .int .i64 i ∧ Hid (St wr (w.heap.size + 2) w.heap.size (w.heap.size + 1) l 1 had) ∧ Hid (Below w.heap.size w wr))
  case atStart => exact ⟨0, [], by omega, rfl, HS3.out, HB3.out⟩
  case round =>
    obtain ⟨i, had, hig, rfl, hS, hb⟩ := hrel
    cases gk with
    | succ g =>
      have hi : i < A.length := by omega
      have hiz : (i : Int) < (A.length : Int) := by omega
      have hi0 : (0 : Int) ≤ (i : Int) := by omega
      obtain ⟨ga, oa, ca, x, ex, hx, hxE⟩ := sl_at HA.out hi
      injection ex with ex1 ex2 ex3
      subst ex1 ex3
      clear ex2
      have hx1 := cell_on hb.out hx
      have c12 := app_st wr _ _ _ _ _ _ hS.out x A[i] ((bss_of hxE).on hb.out) (HFA.out i hi)
      obtain ⟨xp, xc, rfl⟩ := sl_hdr hxE
      clear hxE hx
      go_wp2_with (go_at_call 12; refine c12.mono ?_; rintro e w4 ⟨c, had', rfl, hS4, hK4, -, -⟩
                   have HS4 := Lib.hid hS4
                   have HB4 := Lib.hid (hb.out.trans (hK4.below HX4.out hb.out.size))
                   clear hS4 hK4)
      go_roundg g
      case measure => omega
      case rel => exact ⟨i + 1, had', by omega, by first | rfl | simp, HS4, HB4⟩
    | zero =>
      obtain rfl : i = A.length := by omega
      have c13 := rst_st wr _ _ _ _ _ hS.out
      go_wp2_with (go_at_call 13; refine c13.mono ?_; rintro e w4 ⟨rfl, hS4, hK4⟩
                   have HS4 := Lib.hid hS4
                   have HB4 := Lib.hid (hb.out.trans (hK4.below HX4.out hb.out.size))
                   clear hS4 hK4)
      clear c13 hS hb had
      have HZ := Lib.hid HS4.out.x4
      have HN4 := Lib.hid HS4.out.ntB
      obtain ⟨i0, hi', hz0, hz1, hz2⟩ := hn.out
      go_loopg [11, 57] B.length (fun g s11 s57 wr => ∃ (i : Nat) (had : Cs), i + g = B.length ∧ s57 = .int .i64 i ∧ Hid (RowG 35 ((sl bytesE).ban (X4 (w.heap.size + 2) w.heap.size (w.heap.size + 1) l)) wr w4.heap.size s11 had) ∧ Hid (had.length ≤ i) ∧ Hid (∀ j (h : j < had.length), Few had[j]) ∧ Hid (St wr (w.heap.size + 2) w.heap.size (w.heap.size + 1) l 2 had) ∧ Hid (NtB wr l w4.heap.size) ∧ Hid (w4.heap.size ≤ wr.heap.size) ∧ Hid (Below w.heap.size w wr))
      case atStart => exact ⟨0, [], by omega, rfl, rowG_nil _ _ _ _, Nat.le_refl _, fun j h => absurd h (Nat.not_lt_zero _), HS4.out, HN4.out, Nat.le_refl _, HB4.out⟩
      case round =>
        obtain ⟨i, had, hig, rfl, hrow, hle, hfw, hS, hNt, hsz, hb⟩ := hrel
        obtain ⟨rp, rc, rfl⟩ := hrow.out.hdr
        cases gk with
        | succ g =>
          have hi : i < B.length := by omega
          have hiz : (i : Int) < (B.length : Int) := by omega
          have hi0 : (0 : Int) ≤ (i : Int) := by omega
          obtain ⟨ga, oa, ca, x, ex, hx, hxE⟩ := sl_at HB.out hi
          injection ex with ex1 ex2 ex3
          subst ex1 ex3
          clear ex2
          have hx1 := cell_on hb.out hx
          have hFi := HFB.out i hi
          generalize B[i] = r at *
          have c12 := app_st wr _ _ _ _ _ _ hS.out x r ((bss_of hxE).on hb.out) hFi
          have HXE := Lib.hid ((sl bytesE).kp hxE (Kp.ge hb.out))
          obtain ⟨xp, xc, rfl⟩ := sl_hdr hxE
          have HFi := Lib.hid hFi
          clear hxE hx hFi
          go_wp2_with (fail)
          refine c12.mono ?_
          rintro e w5 ⟨c, had', rfl, hS5, hK5, h35, hc⟩
          have HS5 := Lib.hid hS5
          have HB5 := Lib.hid (hb.out.trans (hK5.below HX4.out hb.out.size))
          have HN5 : Hid (NtB w5 l w4.heap.size) := fun a n c e => hNt.out a n c (h35 ▸ e)
          have HR5 := Lib.hid (hrow.out.kpZ hK5 HZ.out)
          have HZ5 := Lib.hid (Nat.le_trans hsz.out hK5.size)
          have HX5 := Lib.hid ((sl bytesE).kp HXE.out (hK5.mono HX4.out))
          clear c12 hS5 hK5 h35
          rcases hc with ⟨rfl, rfl⟩ | ⟨rfl, rfl⟩
          · dsimp only
            go_wp2
            go_roundg g
            case measure => omega
            case rel => exact ⟨i + 1, had', by omega, by first | rfl | simp, HR5, by show _ ≤ _; have := hle.out; omega, hfw, HS5, HN5, HZ5, HB5⟩
          · dsimp only
            have HE5 : Hid (((sl bytesE).ban (X4 (w.heap.size + 2) w.heap.size (w.heap.size + 1) l)).E (fun k => (Value.slice rp had.length rc).ownBlock = some k) (w5.alloc (.cells #[.slice xp r.length xc] 35)) (.slice xp r.length xc) r) :=
              (sl bytesE).mono ((sl bytesE).kp HX5.out (Kp.bel (bel1 w5 _))) (fun k _ hk => by
                rcases hk with hk | hk
                · obtain ⟨vs, ho, -⟩ := HR5.out
                  exact Nat.le_trans HB4.out.size (World.ownsRow.lt ho k hk).1
                · exact HX4.out k hk)
            have HN6 : Hid (NtB (w5.alloc (.cells #[.slice xp r.length xc] 35)) l w4.heap.size) := fun a n c e => HN5.out a n c (by
              rw [World.cell?_of_block (w := w5) (a := ⟨l, 3, none⟩) ((bel1 w5 (.cells #[.slice xp r.length xc] 35)).block _ (HS5.out.x4 l (x4d _ _ _ l).2.2.2))] at e
              exact e)
            go_wp2_with (at_builtin
                         refine rowG_app 35 33 ((sl bytesE).ban (X4 (w.heap.size + 2) w.heap.size (w.heap.size + 1) l)) Tryd.underlying33 i0 hi' (.slice none 0 0) hz0 hz1 hz2 rfl rfl _ _ rfl w4.heap.size w5.heap.size _ (.slice xp r.length xc) had r rfl rfl (HR5.out.on (bel1 _ _)) HE5.out (cell_new _ _ _) (by have := HZ5.out; simp; omega) (by have := hle.out; omega) ?_
                         intro g7 c7 w7 hR7 hg7 hb7
                         have HR7 := Lib.hid hR7
                         have HS7 := Lib.hid ((HS5.out.on (bel1 w5 (.cells #[.slice xp r.length xc] 35))).grow hb7 HZ.out HN6.out)
                         have HN7 : Hid (NtB w7 l w4.heap.size) := fun a n c e => HN6.out a n c (by
                           rw [World.cell?_of_block (w := w5.alloc (.cells #[.slice xp r.length xc] 35)) (a := ⟨l, 3, none⟩) (hb7.block _ (HZ.out l (x4d _ _ _ l).2.2.2))] at e
                           exact e)
                         have HZ7 : Hid (w4.heap.size ≤ w7.heap.size) := Nat.le_trans HZ5.out (Nat.le_trans (bel1 w5 _).size hb7.size)
                         have HB7 := Lib.hid ((HB5.out.trans ((bel1 w5 (.cells #[.slice xp r.length xc] 35)).mono HB5.out.size)).trans (hb7.mono HB4.out.size))
                         clear hR7 hg7 hb7)
            go_roundg g
            case measure => omega
            case rel => exact ⟨i + 1, had ++ [r], by omega, by first | rfl | simp, HR7, by show _ ≤ _; have := hle.out; simp; omega, fun j hj => (by
              by_cases hjl : j < had.length
              · rw [List.getElem_append_left hjl]; exact hfw.out j hjl
              · rw [List.getElem_append_right (by omega)]
                simpa using HFi.out), HS7, HN7, HZ7, HB7⟩
        | zero =>
          obtain rfl : i = B.length := by omega
          have c16 := open_st wr _ _ _ _ _ _ hS.out
          have HLn : Hid (had.length ≤ 1048576) := by show _ ≤ _; have := hle.out; omega
          go_wp2_with (first
            | (go_at_call 16; refine c16.mono ?_; rintro e w6 ⟨m, np, nc, p, q, rfl, hbs, hE, hL6, hb6⟩
               have hs : (convert 43 9 (.slice np 4 nc)).run Tryd.prog w6 = .ok (.string ⟨#[110, 111, 116, 101]⟩) w6 := hbs.str
               have HE := Lib.hid hE
               have HL6 := Lib.hid hL6
               have HR6 := Lib.hid (sl_unban ((hrow.out.on hb6).sl))
               have HB6 := Lib.hid (bel_then hb.out hb6)
               clear hbs hE hL6 hb6)
            | (go_at_call 17; refine (same17 _ _ _ had had HE.out HR6.out (fun j h => (hfw.out j h).len) (fun j h => (hfw.out j h).len) (by have := HLn.out; omega) (by have := HLn.out; omega)).mono ?_; rintro e w7 ⟨rfl, hb7⟩
               rw [sameC_refl]
               have HL7 : Hid (∃ u, LAt w7 (w.heap.size + 2) w.heap.size (w.heap.size + 1) m ⟨2, 30, nt4, u, true, false⟩) := by
                 obtain ⟨u, hu⟩ := HL6.out
                 exact ⟨u, hu.on hb7⟩
               have HB7 := Lib.hid (bel_then HB6.out hb7)
               obtain ⟨u, hu⟩ := HL7.out
               have c20 := epoch20 w7 _ _ _ _ _ hu
               clear hb7 hu)
            | (go_at_call 20; refine c20.mono ?_; rintro e w8 ⟨rfl, hb8⟩
               have HB8 := Lib.hid (bel_then HB7.out hb8)
               clear hb8))
          go_ret
          exact ⟨rfl, HB8.out⟩
end Go.Proofs.YtnclhjjhobbbjaaDoor
