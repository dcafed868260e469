/-
  The reader of package node: inner.
-/
import Derived.Test.YtbkpgppaahpalaaRdp
namespace Go.Proofs.Ytbkpgppaahpalaa
open Go.RowKit
set_option linter.unusedVariables false      -- a walk need not use every condition

theorem i64_num (s : RS) : I64 ((rNum s).1 : Nat) := by
  have := rNum_le s
  unfold I64
  omega
set_option maxHeartbeats 4000000 in
set_option maxRecDepth 100000 in
theorem inner86 (w0 w : World) (r : Nat) (s : RS) (h : Rd w0 w r s) (hs : s.1.length ≤ 448) :
    Calls Try.prog 86 #[.pointer (some ⟨r, 0, none⟩)] w fun e w' => ∃ v', e = .returned v' ∧ NdO w.heap.size w' v' (rInner s).1 ∧ Rq w0 r (rInner s).2 w w' := by
  have hrl := h.lt
  have c84 := fun (u : World) (hd : Rd w0 u r s) => number84 w0 u r s hd
  have hl1 := rNum_len (s := s)
  have hn1 := rNum_le s
  unfold rInner rKeys
  generalize (rNum s).1 = m at *
  generalize (rNum s).2 = s1 at *
  obtain ⟨Res, hRes⟩ : ∃ R, rMany rBytes m s1 = R := ⟨_, rfl⟩
  rw [hRes]
  have HR := Lib.hid hRes
  clear hRes
  have hP0 : Pn w0 w ((w.alloc (.cells #[.bool false, .slice none 0 0, .slice none 0 0, .slice none 0 0] 26)).alloc (.cells #[.bool false, .slice none 0 0, .slice none 0 0, .slice none 0 0] 26)) r s (.slice none 0 0) (.slice none 0 0) (.slice none 0 0) ⟨false, [], [], []⟩ := by
    refine ⟨⟨h.on (bel_then (bel1 _ _) (bel1 _ _)), gr_bel (bel_then (bel1 _ _) (bel1 _ _)) _⟩, ?_, blk_on (bel1 _ _) (World.alloc_heap_new w _), cso_nil _ _, kso_nil _ _, iso_nil _ _, hrl⟩
    have := World.alloc_heap_new (w.alloc (.cells #[.bool false, .slice none 0 0, .slice none 0 0, .slice none 0 0] 26)) (.cells #[.bool false, .slice none 0 0, .slice none 0 0, .slice none 0 0] 26)
    rwa [World.size_alloc] at this
  have HP0 := Lib.hid hP0
  clear hP0
  have c98 := bytes98
  have cNN := number84
  obtain ⟨i0, hi, hz0, hz1, hz2⟩ := info_parts infoE27
  obtain ⟨j0, ji, jz0, jz1, jz2⟩ := info_parts infoE3
  have HI := Lib.hid (And.intro ji (And.intro jz0 (And.intro jz1 jz2)))
  clear ji jz0 jz1 jz2
  go_enter Try.func86, Try.ntmps86
  go_wp2_with (go_at_call 84; refine (c84 _ HP0.out.1.1).mono ?_; rintro e w1 ⟨rfl, hq1⟩)
  have HP1 := Lib.hid (HP0.out.step hq1)
  clear hq1 c84 HP0
  go_loopg [4] m (fun g s4 wr => ∃ (s' : RS) (L : List (List UInt8)) (vk : Value), s4 = .int .i64 g ∧ g ≤ 1099511627776 ∧ s'.1.length ≤ 448 ∧ Hid (Pn w0 w wr r s' (.slice none 0 0) vk (.slice none 0 0) ⟨false, [], L, []⟩) ∧ Hid ((L ++ (rMany rBytes g s').1, (rMany rBytes g s').2) = Res) ∧ L.length ≤ 449 ∧ Hid (s'.2 = false → L.length + s'.1.length ≤ 448))
  case atStart => exact ⟨s1, [], _, rfl, hn1, by omega, HP1.out, by show _ = _; rw [HR.out]; rfl, by simp, fun _ => by simp; omega⟩
  case round =>
    obtain ⟨s', L, vk, rfl, hg9, hs9, hP, HR0, hL9, hL⟩ := hrel
    obtain ⟨⟨b0, b1, b2, b3⟩, bf⟩ := hP.out.box
    obtain ⟨vr, q0, q1⟩ := hP.out.rdr
    obtain ⟨vs, ho, he⟩ := hP.out.2.2.2.2.1
    obtain ⟨vp, vcap, rfl, -⟩ := own_hdr ho
    obtain ⟨⟨x0, x1, x2, x3⟩, xf⟩ := hP.out.res
    have xf0 := xf 0
    have xf1 := xf 1
    have xf2 := xf 2
    have xf3 := xf 3
    have hneZ : ¬ w.heap.size = w.heap.size + 1 := by omega
    clear xf HP1
    cases gk with
    | zero =>
      have hr : Hid ((L, s') = Res) := by have := HR0.out; show _ = _; simpa [rMany] using this
      clear HR0 hL
      obtain ⟨wo, rfl⟩ : ∃ v, v = wr := ⟨_, rfl⟩
      have hLw : IntKind.i64.wrap ((L.length : Int) + 1) = (L.length : Int) + 1 := by rw [IntKind.wrap_i64]; omega
      obtain ⟨Res2, hRes2⟩ : ∃ R, rAll rKid (L.length + 1) s' = R := ⟨_, rfl⟩
      have HR2 := Lib.hid hRes2
      have hRF : Hid ((⟨false, [], Res.1, (rAll rKid (Res.1.length + 1) Res.2).1⟩ : Nd) = ⟨false, [], L, Res2.1⟩ ∧ (rAll rKid (Res.1.length + 1) Res.2).2 = Res2.2) := by show _ ∧ _; rw [← hr.out, ← hRes2]; exact ⟨rfl, rfl⟩
      clear hRes2 hr
      have HPo := Lib.hid hP.out
      clear hP b0 b1 b3 bf q0 q1 x0 x1 x2 x3 xf0 xf1 xf2 xf3
      go_wp2
      go_loopg [29] (L.length + 1) (fun g s29 wr => ∃ (j : Nat) (t : RS) (M : List Int) (vi : Value), j + g = L.length + 1 ∧ s29 = .int .i64 j ∧ Hid (M.length = j) ∧ Hid (Pn w0 w wr r t (.slice none 0 0) (.slice vp L.length vcap) vi ⟨false, [], L, M⟩) ∧ Hid ((M ++ (rAll rKid g t).1, (rAll rKid g t).2) = Res2))
      case atStart => exact ⟨0, s', [], _, by omega, rfl, rfl, HPo.out, by show _ = _; rw [HR2.out]; rfl⟩
      case round =>
        clear b2
        obtain ⟨j, t, M, vi, hjg, rfl, hMl, hP, hR⟩ := hrel
        obtain ⟨⟨b0, b1, b2, b3⟩, bf⟩ := hP.out.box
        obtain ⟨vs, ho, he⟩ := hP.out.2.2.2.2.2.1
        obtain ⟨up, ucap, rfl, -⟩ := own_hdr ho
        obtain ⟨⟨x0, x1, x2, x3⟩, xf⟩ := hP.out.res
        have xf0 := xf 0
        have xf1 := xf 1
        have xf2 := xf 2
        have xf3 := xf 3
        clear xf
        cases gk with
        | zero =>
          obtain rfl : j = L.length + 1 := by omega
          have hr2 : Hid ((M, t) = Res2) := by have := hR.out; show _ = _; simpa [rAll] using this
          clear hR
          go_wp2
          obtain ⟨d1, d2, d3⟩ := hP.out.done
          refine bodyPost_ret (results_c26 Try.results86 _ _ w.heap.size _ _ _ _ 26 rfl d1) rfl ?_
          exact ⟨_, rfl, by rw [hRF.out.1, ← hr2.out]; exact d2, by rw [hRF.out.2, ← hr2.out]; exact d3⟩
        | succ g =>
          have hjz : (j : Int) < (L.length : Int) + 1 := by omega
          have hR' : Hid (((M ++ [(rKid t).1]) ++ (rAll rKid g (rKid t).2).1, (rAll rKid g (rKid t).2).2) = Res2) := by
            have := hR.out; unfold rAll at this; show _ = _; simpa using this
          have c1 := cNN w0 wr.drew r t (hP.out.1.1.on (Below.refl _ wr).drew)
          have hI := i64_num t
          have ek : (rKid t).1 = ((rNum t).1 : Nat) := rfl
          have ek2 : (rKid t).2 = (rNum t).2 := rfl
          rw [ek, ek2] at hR'
          clear ek ek2
          generalize (rNum t).1 = cc at *
          generalize (rNum t).2 = s2 at *
          have HPd := Lib.hid (hP.out.on (Below.refl _ wr).drew)
          have hzz := hP.out.size
          have bf3 := bf 3
          have b3d : wr.drew.cell? ⟨w.heap.size + 1, 3, none⟩ = some (.slice up M.length ucap) := b3
          have HIc := Lib.hid hI
          clear hR hP bf ho he vs hI
          go_wp2
          go_region_with (go_at_call 84; refine c1.mono ?_
                          rintro e w2 ⟨rfl, hq2⟩
                          have hP2 := HPd.out.step hq2
                          have hzw := hP2.size
                          have hP3 := hP2.on (bel1 w2 (.cells #[.int .i64 (cc : Int)] 3))
                          obtain ⟨vs, ho, he⟩ := hP3.2.2.2.2.2.1
                          obtain ⟨g3, cap3, w3, hap, ho3, hg3⟩ := app_one 24 3 1 8 j0 _ Try.underlying24 HI.out.1 HI.out.2.1 HI.out.2.2.1 HI.out.2.2.2 rfl (by decide) (by decide) (by decide) _ w.heap.size w2.heap.size _ _ vs _ 24 ho (range_lit w2 [.int .i64 (cc : Int)] 3 (0, 0)) rfl (fun u hu => by simp at hu; subst hu; rfl) (by simp; omega) (by have := hMl.out; simp only []; omega)
                          have hP4 := Lib.hid (hP3.kid ho he HIc.out ho3 hg3)
                          have hb3 := blk_keep ho hg3 hP3.2.1 (by decide)
                          obtain ⟨-, -, -, y3⟩ := four_of hb3
                          have yf3 := four_fr hb3 3
                          obtain ⟨⟨-, -, -, t1⟩, -⟩ := hP2.box
                          obtain ⟨⟨-, -, -, t2⟩, -⟩ := hP3.box
                          clear hq2 ho3 hg3 ho he hb3 hP3 hP2
                          simp [go_sem] at hap)
          all_goals
            clear hap
            go_wp2
            go_roundg g
            case measure => omega
            case rel => exact ⟨j + 1, s2, M ++ [(cc : Int)], _, by omega, by first | rfl | simp, by show _ = _; rw [List.length_append, List.length_singleton, hMl.out], hP4, hR'⟩
    | succ g =>
      have hgz : (0 : Int) < ((g + 1 : Nat) : Int) := by omega
      cases hf : s'.2 with
      | true =>
        rw [hf] at q1
        have hr : Hid ((L, s') = Res) := by have := HR0.out; unfold rMany at this; rw [if_pos hf] at this; show _ = _; simpa using this
        clear hf
        clear HR0 hL
        obtain ⟨wo, rfl⟩ : ∃ v, v = wr := ⟨_, rfl⟩
        have hLw : IntKind.i64.wrap ((L.length : Int) + 1) = (L.length : Int) + 1 := by rw [IntKind.wrap_i64]; omega
        obtain ⟨Res2, hRes2⟩ : ∃ R, rAll rKid (L.length + 1) s' = R := ⟨_, rfl⟩
        have HR2 := Lib.hid hRes2
        have hRF : Hid ((⟨false, [], Res.1, (rAll rKid (Res.1.length + 1) Res.2).1⟩ : Nd) = ⟨false, [], L, Res2.1⟩ ∧ (rAll rKid (Res.1.length + 1) Res.2).2 = Res2.2) := by show _ ∧ _; rw [← hr.out, ← hRes2]; exact ⟨rfl, rfl⟩
        clear hRes2 hr
        have HPo := Lib.hid hP.out
        clear hP b0 b1 b3 bf q0 x0 x1 x2 x3 xf0 xf1 xf2 xf3
        go_wp2
        go_loopg [29] (L.length + 1) (fun g s29 wr => ∃ (j : Nat) (t : RS) (M : List Int) (vi : Value), j + g = L.length + 1 ∧ s29 = .int .i64 j ∧ Hid (M.length = j) ∧ Hid (Pn w0 w wr r t (.slice none 0 0) (.slice vp L.length vcap) vi ⟨false, [], L, M⟩) ∧ Hid ((M ++ (rAll rKid g t).1, (rAll rKid g t).2) = Res2))
        case atStart => exact ⟨0, s', [], _, by omega, rfl, rfl, HPo.out, by show _ = _; rw [HR2.out]; rfl⟩
        case round =>
          clear b2
          obtain ⟨j, t, M, vi, hjg, rfl, hMl, hP, hR⟩ := hrel
          obtain ⟨⟨b0, b1, b2, b3⟩, bf⟩ := hP.out.box
          obtain ⟨vs, ho, he⟩ := hP.out.2.2.2.2.2.1
          obtain ⟨up, ucap, rfl, -⟩ := own_hdr ho
          obtain ⟨⟨x0, x1, x2, x3⟩, xf⟩ := hP.out.res
          have xf0 := xf 0
          have xf1 := xf 1
          have xf2 := xf 2
          have xf3 := xf 3
          clear xf
          cases gk with
          | zero =>
            obtain rfl : j = L.length + 1 := by omega
            have hr2 : Hid ((M, t) = Res2) := by have := hR.out; show _ = _; simpa [rAll] using this
            clear hR
            go_wp2
            obtain ⟨d1, d2, d3⟩ := hP.out.done
            refine bodyPost_ret (results_c26 Try.results86 _ _ w.heap.size _ _ _ _ 26 rfl d1) rfl ?_
            exact ⟨_, rfl, by rw [hRF.out.1, ← hr2.out]; exact d2, by rw [hRF.out.2, ← hr2.out]; exact d3⟩
          | succ g =>
            have hjz : (j : Int) < (L.length : Int) + 1 := by omega
            have hR' : Hid (((M ++ [(rKid t).1]) ++ (rAll rKid g (rKid t).2).1, (rAll rKid g (rKid t).2).2) = Res2) := by
              have := hR.out; unfold rAll at this; show _ = _; simpa using this
            have c1 := cNN w0 wr.drew r t (hP.out.1.1.on (Below.refl _ wr).drew)
            have hI := i64_num t
            have ek : (rKid t).1 = ((rNum t).1 : Nat) := rfl
            have ek2 : (rKid t).2 = (rNum t).2 := rfl
            rw [ek, ek2] at hR'
            clear ek ek2
            generalize (rNum t).1 = cc at *
            generalize (rNum t).2 = s2 at *
            have HPd := Lib.hid (hP.out.on (Below.refl _ wr).drew)
            have hzz := hP.out.size
            have bf3 := bf 3
            have b3d : wr.drew.cell? ⟨w.heap.size + 1, 3, none⟩ = some (.slice up M.length ucap) := b3
            have HIc := Lib.hid hI
            clear hR hP bf ho he vs hI
            go_wp2
            go_region_with (go_at_call 84; refine c1.mono ?_
                            rintro e w2 ⟨rfl, hq2⟩
                            have hP2 := HPd.out.step hq2
                            have hzw := hP2.size
                            have hP3 := hP2.on (bel1 w2 (.cells #[.int .i64 (cc : Int)] 3))
                            obtain ⟨vs, ho, he⟩ := hP3.2.2.2.2.2.1
                            obtain ⟨g3, cap3, w3, hap, ho3, hg3⟩ := app_one 24 3 1 8 j0 _ Try.underlying24 HI.out.1 HI.out.2.1 HI.out.2.2.1 HI.out.2.2.2 rfl (by decide) (by decide) (by decide) _ w.heap.size w2.heap.size _ _ vs _ 24 ho (range_lit w2 [.int .i64 (cc : Int)] 3 (0, 0)) rfl (fun u hu => by simp at hu; subst hu; rfl) (by simp; omega) (by have := hMl.out; simp only []; omega)
                            have hP4 := Lib.hid (hP3.kid ho he HIc.out ho3 hg3)
                            have hb3 := blk_keep ho hg3 hP3.2.1 (by decide)
                            obtain ⟨-, -, -, y3⟩ := four_of hb3
                            have yf3 := four_fr hb3 3
                            obtain ⟨⟨-, -, -, t1⟩, -⟩ := hP2.box
                            obtain ⟨⟨-, -, -, t2⟩, -⟩ := hP3.box
                            clear hq2 ho3 hg3 ho he hb3 hP3 hP2
                            simp [go_sem] at hap)
            all_goals
              clear hap
              go_wp2
              go_roundg g
              case measure => omega
              case rel => exact ⟨j + 1, s2, M ++ [(cc : Int)], _, by omega, by first | rfl | simp, by show _ = _; rw [List.length_append, List.length_singleton, hMl.out], hP4, hR'⟩
      | false =>
        rw [hf] at q1
        have hLb := hL.out hf
        have hR' : Hid (((L ++ [(rBytes s').1]) ++ (rMany rBytes g (rBytes s').2).1, (rMany rBytes g (rBytes s').2).2) = Res) := by
          have := HR0.out; unfold rMany at this; rw [if_neg (by rw [hf]; decide)] at this; show _ = _; simpa using this
        have hL' : Hid ((rBytes s').2.2 = false → (L ++ [(rBytes s').1]).length + (rBytes s').2.1.length ≤ 448) := by
          intro hx
          obtain ⟨-, e⟩ := rBytes_back hx
          have h1 := congrArg List.length e
          rw [List.length_append] at h1
          have h2 : 0 < (keyF (rBytes s').1).length := by unfold keyF; have := vnt_pos (rBytes s').1.length; simp; omega
          rw [List.length_append, List.length_singleton]
          omega
        have hs' := rBytes_len (s := s')
        have c1 := c98 w0 wr.drew r s' (hP.out.1.1.on (Below.refl _ wr).drew) hs9
        generalize (rBytes s').1 = cc at *
        generalize (rBytes s').2 = s2 at *
        have HPd := Lib.hid (hP.out.on (Below.refl _ wr).drew)
        have hzz := hP.out.size
        have bf2 := bf 2
        have b2d : wr.drew.cell? ⟨w.heap.size + 1, 2, none⟩ = some (.slice vp L.length vcap) := b2
        clear HR0 hL hP bf ho he vs
        go_wp2
        go_region_with (go_at_call 98; refine c1.mono ?_
                        rintro e w2 ⟨v2, rfl, hbk, hq2⟩
                        have hP2 := HPd.out.step hq2
                        have hzw := hP2.size
                        have hbk2 := hbk
                        obtain ⟨kp, kc, rfl, -⟩ := hbk2.bs
                        have hP3 := hP2.on (bel1 w2 (.cells #[.slice kp cc.length kc] 27))
                        obtain ⟨vs, ho, he⟩ := hP3.2.2.2.2.1
                        have hcO : keyO w.heap.size (w2.alloc (.cells #[.slice kp cc.length kc] 27)) cc [.slice kp cc.length kc] := ⟨_, rfl, (hbk.on (bel1 _ _)).mono (by simp; omega)⟩
                        obtain ⟨g3, cap3, w3, hap, ho3, hg3⟩ := app_one 23 27 1 24 i0 _ Try.underlying23 hi hz0 hz1 hz2 rfl (by decide) (by decide) (by decide) _ w.heap.size w2.heap.size _ _ vs _ 23 ho (range_lit w2 _ 27 (0, 0)) rfl (hcO.v.ones) (by simp; omega) (by simp only []; omega)
                        have hP4 := Lib.hid (hP3.key ho he hcO ho3 hg3)
                        have hb3 := blk_keep ho hg3 hP3.2.1 (by decide)
                        obtain ⟨-, -, y2, -⟩ := four_of hb3
                        have yf2 := four_fr hb3 2
                        obtain ⟨⟨-, -, t1, -⟩, -⟩ := hP2.box
                        obtain ⟨⟨-, -, t2, -⟩, -⟩ := hP3.box
                        clear hbk hq2 hbk2 hcO ho3 hg3 ho he hb3 hP3 hP2
                        simp [go_sem] at hap)
        all_goals
          clear hap
          go_wp2
          go_roundg g
          case measure => omega
          case rel => exact ⟨s2, L ++ [cc], _, by first | rfl | go_num, by omega, by omega, hP4, hR', by simp; omega, hL'⟩
end Go.Proofs.Ytbkpgppaahpalaa
