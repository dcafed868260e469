/-
  The reader of package node: leaf.
-/
import Derived.Test.YtbkpgppaahpalaaRdp
namespace Go.Proofs.Ytbkpgppaahpalaa
open Go.RowKit
set_option linter.unusedVariables false      -- a walk need not use every condition

set_option maxHeartbeats 4000000 in
set_option maxRecDepth 100000 in
theorem leaf85 (w0 w : World) (r : Nat) (s : RS) (h : Rd w0 w r s) (hs : s.1.length ≤ 448) :
    Calls Try.prog 85 #[.pointer (some ⟨r, 0, none⟩)] w fun e w' => ∃ v', e = .returned v' ∧ NdO w.heap.size w' v' (rLeaf s).1 ∧ Rq w0 r (rLeaf s).2 w w' := by
  have hrl := h.lt
  have c84 := fun (u : World) (hd : Rd w0 u r s) => number84 w0 u r s hd
  have hl1 := rNum_len (s := s)
  have hn1 := rNum_le s
  unfold rLeaf
  generalize (rNum s).1 = m at *
  generalize (rNum s).2 = s1 at *
  obtain ⟨Res, hRes⟩ : ∃ R, rMany rCell m s1 = R := ⟨_, rfl⟩
  rw [hRes]
  have HR := Lib.hid hRes
  clear hRes
  have hP0 : Pn w0 w ((w.alloc (.cells #[.bool false, .slice none 0 0, .slice none 0 0, .slice none 0 0] 26)).alloc (.cells #[.bool true, .slice none 0 0, .slice none 0 0, .slice none 0 0] 26)) r s (.slice none 0 0) (.slice none 0 0) (.slice none 0 0) ⟨true, [], [], []⟩ := by
    refine ⟨⟨h.on (bel_then (bel1 _ _) (bel1 _ _)), gr_bel (bel_then (bel1 _ _) (bel1 _ _)) _⟩, ?_, blk_on (bel1 _ _) (World.alloc_heap_new w _), cso_nil _ _, kso_nil _ _, iso_nil _ _, hrl⟩
    have := World.alloc_heap_new (w.alloc (.cells #[.bool false, .slice none 0 0, .slice none 0 0, .slice none 0 0] 26)) (.cells #[.bool true, .slice none 0 0, .slice none 0 0, .slice none 0 0] 26)
    rwa [World.size_alloc] at this
  have HP0 := Lib.hid hP0
  clear hP0
  have c97 := cell97
  obtain ⟨i0, hi, hz0, hz1, hz2⟩ := info_parts infoE44
  go_enter Try.func85, Try.ntmps85
  go_wp2_with (go_at_call 84; refine (c84 _ HP0.out.1.1).mono ?_; rintro e w1 ⟨rfl, hq1⟩)
  have HP1 := Lib.hid (HP0.out.step hq1)
  clear hq1 c84 HP0
  go_loopg [4] m (fun g s4 wr => ∃ (s' : RS) (L : List C) (vc : Value), s4 = .int .i64 g ∧ g ≤ 1099511627776 ∧ s'.1.length ≤ 448 ∧ Hid (Pn w0 w wr r s' vc (.slice none 0 0) (.slice none 0 0) ⟨true, L, [], []⟩) ∧ Hid ((L ++ (rMany rCell g s').1, (rMany rCell g s').2) = Res) ∧ Hid (s'.2 = false → L.length + s'.1.length ≤ 448))
  case atStart => exact ⟨s1, [], _, rfl, hn1, by omega, HP1.out, by show _ = _; rw [HR.out]; rfl, fun _ => by simp; omega⟩
  case round =>
    obtain ⟨s', L, vc, rfl, hg9, hs9, hP, hR, hL⟩ := hrel
    obtain ⟨⟨b0, b1, b2, b3⟩, bf⟩ := hP.out.box
    obtain ⟨vr, q0, q1⟩ := hP.out.rdr
    obtain ⟨vs, ho, he⟩ := hP.out.2.2.2.1
    obtain ⟨vp, vcap, rfl, -⟩ := own_hdr ho
    obtain ⟨⟨x0, x1, x2, x3⟩, xf⟩ := hP.out.res
    have xf0 := xf 0
    have xf1 := xf 1
    have xf2 := xf 2
    have xf3 := xf 3
    have hneZ : ¬ w.heap.size = w.heap.size + 1 := by omega
    clear xf
    cases gk with
    | zero =>
      have hr : Hid ((L, s') = Res) := by have := hR.out; show _ = _; simpa [rMany] using this
      clear hR hL
      go_wp2
      obtain ⟨d1, d2, d3⟩ := hP.out.done
      refine bodyPost_ret (results_c26 Try.results85 _ _ w.heap.size _ _ _ _ 26 rfl d1) rfl ?_
      exact ⟨_, rfl, by rw [← hr.out]; exact d2, by rw [← hr.out]; exact d3⟩
    | succ g =>
      have hgz : (0 : Int) < ((g + 1 : Nat) : Int) := by omega
      cases hf : s'.2 with
      | true =>
        rw [hf] at q1
        have hr : Hid ((L, s') = Res) := by have := hR.out; unfold rMany at this; rw [if_pos hf] at this; show _ = _; simpa using this
        clear hR hL
        go_wp2
        obtain ⟨d1, d2, d3⟩ := hP.out.done
        refine bodyPost_ret (results_c26 Try.results85 _ _ w.heap.size _ _ _ _ 26 rfl d1) rfl ?_
        exact ⟨_, rfl, by rw [← hr.out]; exact d2, by rw [← hr.out]; exact d3⟩
      | false =>
        rw [hf] at q1
        have hLb := hL.out hf
        have hR' : Hid (((L ++ [(rCell s').1]) ++ (rMany rCell g (rCell s').2).1, (rMany rCell g (rCell s').2).2) = Res) := by
          have := hR.out; unfold rMany at this; rw [if_neg (by rw [hf]; decide)] at this; show _ = _; simpa using this
        have hL' : Hid ((rCell s').2.2 = false → (L ++ [(rCell s').1]).length + (rCell s').2.1.length ≤ 448) := by
          intro hx
          obtain ⟨-, e⟩ := rCell_back hx
          have h1 := congrArg List.length e
          rw [List.length_append] at h1
          have h2 : 0 < (cellF (rCell s').1).length := by unfold cellF keyF; have := vnt_pos (rCell s').1.key.length; simp; omega
          rw [List.length_append, List.length_singleton]
          omega
        have hs' := rCell_len (s := s')
        have c1 := c97 w0 wr.drew r s' (hP.out.1.1.on (Below.refl _ wr).drew) hs9
        generalize (rCell s').1 = cc at *
        generalize (rCell s').2 = s2 at *
        have HPd := Lib.hid (hP.out.on (Below.refl _ wr).drew)
        have hzz := hP.out.size
        have bf1 := bf 1
        have b1d : wr.drew.cell? ⟨w.heap.size + 1, 1, none⟩ = some (.slice vp L.length vcap) := b1
        clear hR hL hP bf ho he vs
        go_wp2
        go_region_with (go_at_call 97; refine c1.mono ?_
                        rintro e w2 ⟨v2, rfl, ⟨k, x, rfl, hbk, hbx, hio, hil⟩, hq2⟩
                        have hP2 := HPd.out.step hq2
                        have hzw := hP2.size
                        have hbk2 := hbk
                        have hbx2 := hbx
                        obtain ⟨kp, kc, rfl, -⟩ := hbk2.bs
                        obtain ⟨xp, xc, rfl, -⟩ := hbx2.bs
                        have hP3 := hP2.on (bel1 w2 (.cells #[.slice kp cc.key.length kc, .slice xp cc.val.length xc, .int .i64 cc.over, .int .i64 cc.len] 44))
                        obtain ⟨vs, ho, he⟩ := hP3.2.2.2.1
                        have hcO : cellO w.heap.size (w2.alloc (.cells #[.slice kp cc.key.length kc, .slice xp cc.val.length xc, .int .i64 cc.over, .int .i64 cc.len] 44)) cc [.slice kp cc.key.length kc, .slice xp cc.val.length xc, .int .i64 cc.over, .int .i64 cc.len] := ⟨_, _, rfl, (hbk.on (bel1 _ _)).mono (by simp; omega), (hbx.on (bel1 _ _)).mono (by simp; omega), hio, hil⟩
                        obtain ⟨g3, cap3, w3, hap, ho3, hg3⟩ := app_one 22 44 4 64 i0 _ Try.underlying22 hi hz0 hz1 hz2 rfl (by decide) (by decide) (by decide) _ w.heap.size w2.heap.size _ _ vs _ 22 ho (range_lit w2 _ 44 (0, 0)) rfl (hcO.v.ones) (by simp; omega) (by simp only []; omega)
                        have hP4 := Lib.hid (hP3.cell ho he hcO ho3 hg3)
                        have hb3 := blk_keep ho hg3 hP3.2.1 (by decide)
                        obtain ⟨-, y1, -, -⟩ := four_of hb3
                        have yf1 := four_fr hb3 1
                        obtain ⟨⟨-, t1, -, -⟩, -⟩ := hP2.box
                        obtain ⟨⟨-, t2, -, -⟩, -⟩ := hP3.box
                        clear hbk hbx hq2 hbk2 hbx2 hcO ho3 hg3 ho he hb3 hP3 hP2
                        simp [go_sem] at hap)
        all_goals
          clear hap
          go_wp2
          go_roundg g
          case measure => omega
          case rel => exact ⟨s2, L ++ [cc], _, by first | rfl | go_num, by omega, by omega, hP4, hR', hL'⟩
end Go.Proofs.Ytbkpgppaahpalaa
