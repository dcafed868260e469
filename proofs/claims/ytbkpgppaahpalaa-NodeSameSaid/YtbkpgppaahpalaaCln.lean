/-
  What Clone of package node does: the same node, in memory of its own.
-/
import Derived.Test.YtbkpgppaahpalaaOwn
import Derived.Deep.CutRange
namespace Go.Proofs.Ytbkpgppaahpalaa
open Go.RowKit
set_option linter.unusedVariables false      -- a walk need not use every condition

def put3 (w : World) (g : Nat) (a b c : Value) : World := ((w.setCell ⟨g, 1, none⟩ a).setCell ⟨g, 2, none⟩ b).setCell ⟨g, 3, none⟩ c
theorem gr_put3 (w : World) (g : Nat) (a b c : Value) : w.grownBy (put3 w g a b c) (some g) := ((gr_set w g 1 a).trans (gr_set _ g 2 b)).trans (gr_set _ g 3 c)
theorem blk_put3 {w : World} {g : Nat} {t : TypeId} {l x y z : Value} (h : w.heap[g]? = some (.cells #[l, x, y, z] t)) (a b c : Value) : (put3 w g a b c).heap[g]? = some (.cells #[l, a, b, c] t) := by
  simp [put3, World.setCell, Array.getElem?_modify, h]
theorem set_two (A B : List Value) (k x o l k' x' : Value) (i : Nat) (hA : A.length = i * 4) : ((A ++ ([k, x, o, l] ++ B)).set (i * 4) k').set (i * 4 + 1) x' = A ++ [k', x', o, l] ++ B := by
  rw [← hA, List.set_append_right _ _ (Nat.le_refl _), Nat.sub_self, List.set_append_right _ _ (by omega), Nat.add_sub_cancel_left]
  simp
theorem set_one (A B : List Value) (k k' : Value) (i : Nat) (hA : A.length = i) : (A ++ ([k] ++ B)).set i k' = A ++ [k'] ++ B := by
  rw [← hA, List.set_append_right _ _ (Nat.le_refl _), Nat.sub_self]
  simp
/-- The first of things. -/
theorem enc_head {α : Type} {R : World → α → List Value → Prop} {s : Nat} {w : World} {a : α} {L : List α} {vs : List Value} (h : Enc R s w (a :: L) vs) : ∃ x r, vs = x ++ r ∧ R w a x ∧ Enc R s w L r := by
  refine ⟨vs.take s, vs.drop s, (List.take_append_drop s vs).symm, ?_, ?_⟩
  · have := h.2 0 (by simp)
    simpa using this
  · have := h.drop 1
    simpa using this

theorem set_off {w : World} {b o g j : Nat} {v x : Value} (h : w.cell? ⟨b, o, none⟩ = some v) (hne : b ≠ g) : (w.setCell ⟨g, j, none⟩ x).cell? ⟨b, o, none⟩ = some v :=
  (World.cell?_setCell_other w _ _ x (by intro e; injection e with e; exact hne e.symm)).trans h
/-- The rest behind the three copies: what it starts from. -/
def Cl0 (w wx : World) (n : Nd) (vc vk vi : Value) (cs ks is : List Value) : Prop :=
  wx.heap[w.heap.size]? = some (.cells #[.bool n.leaf, vc, vk, vi] 26) ∧ wx.ownsRow w.heap.size 44 4 vc n.cells.length cs ∧ wx.ownsRow w.heap.size 27 1 vk n.keys.length ks ∧ wx.ownsRow w.heap.size 3 1 vi n.kids.length is ∧
    Below w.heap.size w wx ∧ wx.heap[w.heap.size + 1]? = some (.cells #[.bool false, .slice none 0 0, .slice none 0 0, .slice none 0 0] 26)
theorem Cl0.on {w u u' : World} {n : Nd} {vc vk vi : Value} {cs ks is : List Value} (h : Cl0 w u n vc vk vi cs ks is) (hb : Below u.heap.size u u') : Cl0 w u' n vc vk vi cs ks is :=
  ⟨blk_on hb h.1, own_bel h.2.1 hb, own_bel h.2.2.1 hb, own_bel h.2.2.2.1 hb, bel_then h.2.2.2.2.1 hb, blk_on hb h.2.2.2.2.2⟩
theorem fl_bs {w : World} {v : Value} {t : List UInt8} (h : Bs w v t) : Fl w v 1 t.length (enc t) := by
  obtain ⟨p, cap, rfl, h1, h2, h3, h4⟩ := h
  refine ⟨p, cap, rfl, h1, h2, h3, by rw [len_enc]; omega, ?_⟩
  rcases h4 with rfl | ⟨g, o, rfl, hc⟩
  · exact .inl rfl
  · exact .inr ⟨g, o, rfl, hc⟩
/-- In the middle of the first loop. -/
def Cm (w u : World) (n : Nd) (vc vk vi : Value) (A B ks is : List Value) (i : Nat) : Prop :=
  Cl0 w u n vc vk vi (A ++ B) ks is ∧ Enc (cellO w.heap.size) 4 u (n.cells.take i) A ∧ Enc cellV 4 w (n.cells.drop i) B
theorem Cm.on {w u u' : World} {n : Nd} {vc vk vi : Value} {A B ks is : List Value} {i : Nat} (h : Cm w u n vc vk vi A B ks is i) (hb : Below u.heap.size u u') : Cm w u' n vc vk vi A B ks is i :=
  ⟨h.1.on hb, h.2.1.on (fun a x hx => hx.on hb), h.2.2⟩
theorem Cm.len {w u : World} {n : Nd} {vc vk vi : Value} {A B ks is : List Value} {i : Nat} (h : Cm w u n vc vk vi A B ks is i) (hi : i ≤ n.cells.length) : A.length = i * 4 := by
  rw [h.2.1.1, List.length_take, Nat.min_eq_left hi]
/-- A round's stores. -/
theorem Cm.next {w u : World} {n : Nd} {vk vi : Value} {A r ks is : List Value} {i g0 cap : Nat} {k x k' x' : Value} (hi : i < n.cells.length)
    (h : Cm w u n (.slice (some ⟨g0, 0, none⟩) n.cells.length cap) vk vi A ([k, x, .int .i64 n.cells[i].over, .int .i64 n.cells[i].len] ++ r) ks is i)
    (hk : Bts u w.heap.size k' n.cells[i].key) (hx : Bts u w.heap.size x' n.cells[i].val) (ho : I64 n.cells[i].over) (hl : I64 n.cells[i].len) (hr : Enc cellV 4 w (n.cells.drop (i + 1)) r) :
    Cm w ((u.setCell ⟨g0, i * 4, none⟩ k').setCell ⟨g0, i * 4 + 1, none⟩ x') n (.slice (some ⟨g0, 0, none⟩) n.cells.length cap) vk vi (A ++ [k', x', .int .i64 n.cells[i].over, .int .i64 n.cells[i].len]) r ks is (i + 1) := by
  have hA := h.len (Nat.le_of_lt hi)
  obtain ⟨⟨h1, h2, h3, h4, h5, h6⟩, h7, h8⟩ := h
  obtain ⟨s1, g1⟩ := World.ownsRow.stored h2 (i * 4) k'
  obtain ⟨s2, g2⟩ := World.ownsRow.stored s1 (i * 4 + 1) x'
  rw [set_two A r k x _ _ k' x' i hA] at s2
  have gr : u.grownBy ((u.setCell ⟨g0, i * 4, none⟩ k').setCell ⟨g0, i * 4 + 1, none⟩ x') (some g0) := g1.trans g2
  obtain ⟨g', cap', cur, e, hbg, hgb⟩ := own_pos h2 (by omega)
  injection e with e1 e2 e3
  injection e1 with e1
  injection e1 with e1
  subst e1
  have hne0 : w.heap.size ≠ g0 := fun e => by
    rw [e, hgb] at h1
    injection h1 with h1
    injection h1 with _ h1
    exact absurd h1 (by decide)
  have hne1 : w.heap.size + 1 ≠ g0 := fun e => by
    rw [e, hgb] at h6
    injection h6 with h6
    injection h6 with _ h6
    exact absurd h6 (by decide)
  refine ⟨⟨blk_gr h1 gr hne0, s2, own_other h3 gr hgb (by decide), own_other h4 gr hgb (by decide), bel_put h5 gr hbg, blk_gr h6 gr hne1⟩, ?_, hr⟩
  rw [List.take_succ_eq_append_getElem hi]
  exact (h7.on fun a x hx => hx.other gr hgb (by decide)).app (enc_one ⟨k', x', rfl, own_other hk gr hgb (by decide), own_other hx gr hgb (by decide), ho, hl⟩ rfl)
/-- In the middle of the second loop. -/
def Ck (w u : World) (n : Nd) (vc vk vi : Value) (cs A B is : List Value) (i : Nat) : Prop :=
  Cl0 w u n vc vk vi cs (A ++ B) is ∧ Enc (cellO w.heap.size) 4 u n.cells cs ∧ Enc (keyO w.heap.size) 1 u (n.keys.take i) A ∧ Enc keyV 1 w (n.keys.drop i) B
theorem Ck.on {w u u' : World} {n : Nd} {vc vk vi : Value} {cs A B is : List Value} {i : Nat} (h : Ck w u n vc vk vi cs A B is i) (hb : Below u.heap.size u u') : Ck w u' n vc vk vi cs A B is i :=
  ⟨h.1.on hb, h.2.1.on (fun a x hx => hx.on hb), h.2.2.1.on (fun a x hx => hx.on hb), h.2.2.2⟩
theorem Ck.len {w u : World} {n : Nd} {vc vk vi : Value} {cs A B is : List Value} {i : Nat} (h : Ck w u n vc vk vi cs A B is i) (hi : i ≤ n.keys.length) : A.length = i := by
  rw [h.2.2.1.1, List.length_take, Nat.min_eq_left hi, Nat.mul_one]
theorem Ck.next {w u : World} {n : Nd} {vc vi : Value} {cs A r is : List Value} {i g0 cap : Nat} {k k' : Value} (hi : i < n.keys.length)
    (h : Ck w u n vc (.slice (some ⟨g0, 0, none⟩) n.keys.length cap) vi cs A ([k] ++ r) is i)
    (hk : Bts u w.heap.size k' n.keys[i]) (hr : Enc keyV 1 w (n.keys.drop (i + 1)) r) :
    Ck w (u.setCell ⟨g0, i, none⟩ k') n vc (.slice (some ⟨g0, 0, none⟩) n.keys.length cap) vi cs (A ++ [k']) r is (i + 1) := by
  have hA := h.len (Nat.le_of_lt hi)
  obtain ⟨⟨h1, h2, h3, h4, h5, h6⟩, h7, h8, h9⟩ := h
  obtain ⟨s1, g1⟩ := World.ownsRow.stored h3 i k'
  rw [set_one A r k k' i hA] at s1
  obtain ⟨g', cap', cur, e, hbg, hgb⟩ := own_pos h3 (by omega)
  injection e with e1 e2 e3
  injection e1 with e1
  injection e1 with e1
  subst e1
  have hne0 : w.heap.size ≠ g0 := fun e => by
    rw [e, hgb] at h1
    injection h1 with h1
    injection h1 with _ h1
    exact absurd h1 (by decide)
  have hne1 : w.heap.size + 1 ≠ g0 := fun e => by
    rw [e, hgb] at h6
    injection h6 with h6
    injection h6 with _ h6
    exact absurd h6 (by decide)
  refine ⟨⟨blk_gr h1 g1 hne0, own_other h2 g1 hgb (by decide), s1, own_other h4 g1 hgb (by decide), bel_put h5 g1 hbg, blk_gr h6 g1 hne1⟩, h7.on fun a x hx => hx.other g1 hgb (by decide), ?_, hr⟩
  rw [List.take_succ_eq_append_getElem hi]
  exact (h8.on fun a x hx => hx.other g1 hgb (by decide)).app (enc_one ⟨k', rfl, own_other hk g1 hgb (by decide)⟩ rfl)
/-- What stands at a place of a row that is in two parts. -/
theorem row_at {w : World} {base g n cap s : Nat} {e : TypeId} {A B : List Value} (h : w.ownsRow base e s (.slice (some ⟨g, 0, none⟩) n cap) n (A ++ B)) {j : Nat} {u : Value} (hj : B[j]? = some u) : w.cell? ⟨g, A.length + j, none⟩ = some u := by
  have := h.cells (g := g) rfl (A.length + j) u (by rw [List.getElem?_append_right (by omega), Nat.add_sub_cancel_left]; exact hj)
  rwa [Go.WideShapes.add_plain, Nat.zero_add] at this
set_option maxHeartbeats 8000000 in
set_option maxRecDepth 100000 in
theorem clone26 (w : World) (v : Value) (n : Nd) (h : NdS w v n) (hf : Fit n) :
    Calls Try.prog 26 #[v] w fun e w' => ∃ v', e = .returned v' ∧ NdO w.heap.size w' v' n ∧ Below w.heap.size w w' := by
  obtain ⟨vc, vk, vi, rfl, ⟨cs, hFc, hEc⟩, ⟨ks, hFk, hEk⟩, ⟨is, hFi, hEi⟩⟩ := h
  obtain ⟨f1, f2, f3, f4, f5⟩ := hf
  have c60 := fun (u : World) (hu : Below w.heap.size w u) => copied60 u vc n.cells.length cs (hFc.on hu) (enc_ones (by decide) hEc (fun a x h => h.ones)) (by omega)
  have c61 := fun (u : World) (hu : Below w.heap.size w u) => copied61 u vk n.keys.length ks (hFk.on hu) (enc_ones (by decide) hEk (fun a x h => h.ones)) (by omega)
  have c62 := fun (u : World) (hu : Below w.heap.size w u) => copied62 u vi n.kids.length is (hFi.on hu) (enc_ones (by decide) hEi (fun a x h => h.ones)) (by omega)
  have HEc := Lib.hid hEc
  have HEk := Lib.hid hEk
  have HEi := Lib.hid hEi
  obtain ⟨pc, cc, rfl, -⟩ := hFc
  obtain ⟨pk, ck, rfl, -⟩ := hFk
  obtain ⟨pi, ci, rfl, -⟩ := hFi
  clear hEc hEk hEi f1 f2 f3
  have F4 := Lib.hid f4
  have F5 := Lib.hid f5
  clear f4 f5
  obtain ⟨X, hX⟩ : ∃ X, X = Obj.cells #[.bool n.leaf, .slice pc n.cells.length cc, .slice pk n.keys.length ck, .slice pi n.kids.length ci] 26 := ⟨_, rfl⟩
  obtain ⟨Z, hZ⟩ : ∃ Z, Z = Obj.cells #[.bool false, .slice none 0 0, .slice none 0 0, .slice none 0 0] 26 := ⟨_, rfl⟩
  have hbx : ((w.alloc X).alloc Z).drew.heap[w.heap.size]? = some X := blk_on (bel1 _ _) (World.alloc_heap_new w X)
  have hrs : ((w.alloc X).alloc Z).drew.heap[w.heap.size + 1]? = some Z := by
    have := World.alloc_heap_new (w.alloc X) Z
    rwa [show (w.alloc X).heap.size = w.heap.size + 1 by simp] at this
  have hB : Below w.heap.size w ((w.alloc X).alloc Z).drew := (bel_then (bel1 _ _) (bel1 _ _)).drew
  rw [hX, hZ] at hbx hrs hB
  clear hX hZ X Z
  go_enter Try.func26, Try.ntmps26
  go_wp2
  go_cut [] from 7 to 18 (fun wx => ∃ vc vk vi, Hid (Cl0 w wx n vc vk vi cs ks is))
  case first =>
    obtain ⟨-, b1, b2, b3⟩ := four_of hbx
    go_region_with (first
      | (go_at_call 60; refine (c60 _ hB).mono ?_; rintro e wB ⟨rc, rfl, hoC, hb⟩
         replace hoC := hoC.mono hB.size
         obtain ⟨rcp, rcc, rfl, -⟩ := own_hdr hoC
         (try replace hoK := own_bel hoK hb)
         (try replace hoI := own_bel hoI hb)
         replace hbx := blk_on hb hbx
         replace hrs := blk_on hb hrs
         replace hB := bel_then hB hb
         obtain ⟨-, b1, b2, b3⟩ := four_of hbx
         have bf1 := four_fr hbx 1
         have bf2 := four_fr hbx 2
         have bf3 := four_fr hbx 3
         clear hb)
      | (go_at_call 61; refine (c61 _ hB).mono ?_; rintro e wB ⟨rk, rfl, hoK, hb⟩
         replace hoK := hoK.mono hB.size
         obtain ⟨rkp, rkc, rfl, -⟩ := own_hdr hoK
         (try replace hoC := own_bel hoC hb)
         (try replace hoI := own_bel hoI hb)
         replace hbx := blk_on hb hbx
         replace hrs := blk_on hb hrs
         replace hB := bel_then hB hb
         obtain ⟨-, b1, b2, b3⟩ := four_of hbx
         have bf1 := four_fr hbx 1
         have bf2 := four_fr hbx 2
         have bf3 := four_fr hbx 3
         clear hb)
      | (go_at_call 62; refine (c62 _ hB).mono ?_; rintro e wB ⟨ri, rfl, hoI, hb⟩
         replace hoI := hoI.mono hB.size
         obtain ⟨rip, ric, rfl, -⟩ := own_hdr hoI
         (try replace hoC := own_bel hoC hb)
         (try replace hoK := own_bel hoK hb)
         replace hbx := blk_on hb hbx
         replace hrs := blk_on hb hrs
         replace hB := bel_then hB hb
         obtain ⟨-, b1, b2, b3⟩ := four_of hbx
         have bf1 := four_fr hbx 1
         have bf2 := four_fr hbx 2
         have bf3 := four_fr hbx 3
         clear hb))
    all_goals
      go_wp2
      go_meet
      case rel => exact ⟨_, _, _, blk_put3 hbx _ _ _, own_other hoC (gr_put3 _ _ _ _ _) hbx (by decide), own_other hoK (gr_put3 _ _ _ _ _) hbx (by decide), own_other hoI (gr_put3 _ _ _ _ _) hbx (by decide), bel_put hB (gr_put3 _ _ _ _ _) (Nat.le_refl _), blk_gr hrs (gr_put3 _ _ _ _ _) (by omega)⟩
  case rest =>
    obtain ⟨vc', vk', vi', hcl⟩ := hcut
    obtain ⟨hbx2, hoC, hoK, hoI, hB2, hrs2⟩ := hcl.out
    obtain ⟨qc, dc, rfl, lc⟩ := own_hdr hoC
    obtain ⟨qk, dk, rfl, lk⟩ := own_hdr hoK
    obtain ⟨qi, di, rfl, li⟩ := own_hdr hoI
    obtain ⟨-, b1, b2, b3⟩ := four_of hbx2
    have HM0 : Hid (Cm w wc n (.slice qc n.cells.length dc) (.slice qk n.keys.length dk) (.slice qi n.kids.length di) [] cs ks is 0) := ⟨hcl.out, enc_nil _ _ _, HEc.out⟩
    clear hbx2 hoC hoK hoI hB2 hrs2 hcl c60 c61 c62 hbx hrs hB
    obtain ⟨wo, rfl⟩ : ∃ v, v = wc := ⟨_, rfl⟩
    go_wp2
    go_loopg [22] n.cells.length (fun g s22 wr => ∃ (i : Nat) (A B : List Value), i + g = n.cells.length ∧ s22 = .int .i64 i ∧ Hid (Cm w wr n (.slice qc n.cells.length dc) (.slice qk n.keys.length dk) (.slice qi n.kids.length di) A B ks is i))
    case atStart => exact ⟨0, [], cs, by omega, rfl, HM0.out⟩
    case round =>
      obtain ⟨i, A, B, hig, rfl, hM⟩ := hrel
      clear b1 b2 b3
      cases gk with
      | succ g =>
        have hi : i < n.cells.length := by omega
        have hiz : (i : Int) < (n.cells.length : Int) := by omega
        have hi0 : (0 : Int) ≤ (i : Int) := by omega
        have hd := hM.out.2.2
        rw [List.drop_eq_getElem_cons hi] at hd
        obtain ⟨x0, r, rfl, ⟨k, x, rfl, hBk, hBx, hIo, hIl⟩, hr⟩ := enc_head hd
        obtain ⟨g0, cap0, cur, e, hbg, hgb⟩ := own_pos hM.out.1.2.1 (by omega)
        injection e with e1 e2 e3
        subst e1 e3
        have hneA : w.heap.size ≠ g0 := fun e => by
          have h1 := hM.out.1.1
          rw [e, hgb] at h1
          injection h1 with h1
          injection h1 with _ h1
          exact absurd h1 (by decide)
        have hA := hM.out.len (Nat.le_of_lt hi)
        have z0 := row_at (j := 0) hM.out.1.2.1 rfl
        have z1 := row_at (j := 1) hM.out.1.2.1 rfl
        have z2 := row_at (j := 2) hM.out.1.2.1 rfl
        have z3 := row_at (j := 3) hM.out.1.2.1 rfl
        rw [hA] at z0 z1 z2 z3
        rw [Nat.add_zero] at z0
        have hfK := F4.out n.cells[i] (List.getElem_mem hi)
        have cK := fun (u : World) (hu : Below w.heap.size w u) => copied54 u k _ _ (fl_bs (hBk.on hu)) (one_enc _) (by omega)
        have cX := fun (u : World) (hu : Below w.heap.size w u) => copied54 u x _ _ (fl_bs (hBx.on hu)) (one_enc _) (by omega)
        have HR := Lib.hid hr
        have HIo := Lib.hid hIo
        have HIl := Lib.hid hIl
        obtain ⟨kp, kc, rfl, -⟩ := hBk
        obtain ⟨xp, xc, rfl, -⟩ := hBx
        have nxt : ∀ (u : World) (k' x' : Value), Cm w u n (.slice (some ⟨g0, 0, none⟩) n.cells.length dc) (.slice qk n.keys.length dk) (.slice qi n.kids.length di) A ([.slice kp n.cells[i].key.length kc, .slice xp n.cells[i].val.length xc, .int .i64 n.cells[i].over, .int .i64 n.cells[i].len] ++ r) ks is i → Bts u w.heap.size k' n.cells[i].key → Bts u w.heap.size x' n.cells[i].val →
            ∃ A', Cm w ((u.setCell ⟨g0, i * 4, none⟩ k').setCell ⟨g0, i * 4 + 1, none⟩ x') n (.slice (some ⟨g0, 0, none⟩) n.cells.length dc) (.slice qk n.keys.length dk) (.slice qi n.kids.length di) A' r ks is (i + 1) := fun u k' x' hm hk hx => ⟨_, Cm.next hi hm hk hx HIo.out HIl.out HR.out⟩
        have NXT := Lib.hid nxt
        clear nxt hr hIo hIl hd e2 hA
        obtain ⟨CB, hCB⟩ : ∃ CB, CB = Obj.cells #[.slice kp n.cells[i].key.length kc, .slice xp n.cells[i].val.length xc, .int .i64 n.cells[i].over, .int .i64 n.cells[i].len] 44 := ⟨_, rfl⟩
        have hM1 : Cm w (wr.alloc CB).drew n (.slice (some ⟨g0, 0, none⟩) n.cells.length dc) (.slice qk n.keys.length dk) (.slice qi n.kids.length di) A ([.slice kp n.cells[i].key.length kc, .slice xp n.cells[i].val.length xc, .int .i64 n.cells[i].over, .int .i64 n.cells[i].len] ++ r) ks is i := hM.out.on ((bel1 wr CB).drew)
        have hcb : (wr.alloc CB).drew.heap[wr.heap.size]? = some CB := World.alloc_heap_new wr CB
        rw [hCB] at hM1 hcb
        clear hCB CB hM
        obtain ⟨-, b1, -, -⟩ := four_of hM1.1.1
        obtain ⟨y0, y1, -, -⟩ := four_of hcb
        generalize hK1 : n.cells[i].key.length = K1 at *
        generalize hK2 : n.cells[i].val.length = K2 at *
        have HK1 := Lib.hid hK1
        have HK2 := Lib.hid hK2
        clear hK1 hK2
        have hneB : wr.heap.size ≠ g0 := by
          have := (Array.getElem?_eq_some_iff.1 hgb).1
          omega
        clear hgb hbg
        go_wp2
        go_region_held3 (fun u => u.cell? ⟨w.heap.size, 1, none⟩ = some (.slice (some ⟨g0, 0, none⟩) n.cells.length dc) ∧ u.cell? ⟨wr.heap.size, 0, none⟩ = some (.slice kp K1 kc) ∧ u.cell? ⟨wr.heap.size, 1, none⟩ = some (.slice xp K2 xc)) (first | exact ⟨b1, y0, y1⟩ | exact ⟨set_off b1 hneA, set_off y0 hneB, set_off y1 hneB⟩ | exact ⟨set_off (set_off b1 hneA) hneA, set_off (set_off y0 hneB) hneB, set_off (set_off y1 hneB) hneB⟩)
          (first
          | (go_at_call_of 54 (Value.slice kp K1 kc); refine (cK _ hM1.1.2.2.2.2.1).mono ?_; rintro e wB ⟨k', rfl, hok, hb⟩
             replace hok := hok.mono hM1.1.2.2.2.2.1.size
             obtain ⟨rkp, rkc, rfl, -⟩ := own_hdr hok
             (try replace hox := own_bel hox hb)
             replace hM1 := hM1.on hb
             replace hcb := blk_on hb hcb
             obtain ⟨-, b1, -, -⟩ := four_of hM1.1.1
             obtain ⟨y0, y1, -, -⟩ := four_of hcb
             have t0 := row_at (j := 0) hM1.1.2.1 rfl
             have t1 := row_at (j := 1) hM1.1.2.1 rfl
             have tf0 := World.ownsRow.frozenAt hM1.1.2.1 (i * 4)
             have tf1 := World.ownsRow.frozenAt hM1.1.2.1 (i * 4 + 1)
             rw [hM1.len (Nat.le_of_lt hi)] at t0 t1
             rw [Nat.add_zero] at t0
             clear hb)
          | (go_at_call_of 54 (Value.slice xp K2 xc); refine (cX _ hM1.1.2.2.2.2.1).mono ?_; rintro e wB ⟨x', rfl, hox, hb⟩
             replace hox := hox.mono hM1.1.2.2.2.2.1.size
             obtain ⟨rxp, rxc, rfl, -⟩ := own_hdr hox
             (try replace hok := own_bel hok hb)
             replace hM1 := hM1.on hb
             replace hcb := blk_on hb hcb
             obtain ⟨-, b1, -, -⟩ := four_of hM1.1.1
             obtain ⟨y0, y1, -, -⟩ := four_of hcb
             have t0 := row_at (j := 0) hM1.1.2.1 rfl
             have t1 := row_at (j := 1) hM1.1.2.1 rfl
             have tf0 := World.ownsRow.frozenAt hM1.1.2.1 (i * 4)
             have tf1 := World.ownsRow.frozenAt hM1.1.2.1 (i * 4 + 1)
             rw [hM1.len (Nat.le_of_lt hi)] at t0 t1
             rw [Nat.add_zero] at t0
             clear hb))
        all_goals
          obtain ⟨A', hN⟩ := NXT.out _ _ _ hM1 (by unfold Bts; rw [HK1.out]; exact hok) (by unfold Bts; rw [HK2.out]; exact hox)
          have HNN := Lib.hid hN
          clear hN hM1 hok hox
          go_wp2
          go_roundg g
          case measure => omega
          case rel => exact ⟨i + 1, A', r, by omega, by first | rfl | simp, HNN⟩
      | zero =>
        have hix : ¬ (i : Int) < (n.cells.length : Int) := by omega
        have hB0 : B = [] := by
          have := hM.out.2.2.1
          rw [List.length_drop] at this
          exact List.eq_nil_of_length_eq_zero (by rw [this, show n.cells.length - i = 0 by omega])
        subst hB0
        have HC0 : Hid (Ck w wr n (.slice qc n.cells.length dc) (.slice qk n.keys.length dk) (.slice qi n.kids.length di) A [] ks is 0) := by
          obtain ⟨h1, h2, -⟩ := hM.out
          rw [List.append_nil] at h1
          rw [List.take_of_length_le (by omega)] at h2
          exact ⟨h1, h2, enc_nil _ _ _, HEk.out⟩
        obtain ⟨-, b1, b2, b3⟩ := four_of hM.out.1.1
        clear hM hig
        obtain ⟨wo2, rfl⟩ : ∃ v, v = wr := ⟨_, rfl⟩
        go_wp2
        clear b1 b2 b3
        go_loopg [5, 6, 47] n.keys.length (fun g s5 s6 s47 wr => ∃ (j : Nat) (D B : List Value), j + g = n.keys.length ∧ s47 = .int .i64 j ∧ Hid (Ck w wr n (.slice qc n.cells.length dc) (.slice qk n.keys.length dk) (.slice qi n.kids.length di) A D B is j))
        case atStart => exact ⟨0, [], ks, by omega, rfl, HC0.out⟩
        case round =>
          clear HC0
          obtain ⟨j, D, B, hjg, rfl, hM⟩ := hrel
          cases gk with
          | succ g =>
            have hj : j < n.keys.length := by omega
            have hjz : (j : Int) < (n.keys.length : Int) := by omega
            have hj0 : (0 : Int) ≤ (j : Int) := by omega
            have hd := hM.out.2.2.2
            rw [List.drop_eq_getElem_cons hj] at hd
            obtain ⟨x0, r, rfl, ⟨k, rfl, hBk⟩, hr⟩ := enc_head hd
            obtain ⟨g0, cap0, cur, e, hbg, hgb⟩ := own_pos hM.out.1.2.2.1 (by omega)
            injection e with e1 e2 e3
            subst e1 e3
            have hneA : w.heap.size ≠ g0 := fun e => by
              have h1 := hM.out.1.1
              rw [e, hgb] at h1
              injection h1 with h1
              injection h1 with _ h1
              exact absurd h1 (by decide)
            have hD := hM.out.len (Nat.le_of_lt hj)
            have z0 := row_at (j := 0) hM.out.1.2.2.1 rfl
            rw [hD, Nat.add_zero] at z0
            have hfK := F5.out n.keys[j] (List.getElem_mem hj)
            have cK := fun (u : World) (hu : Below w.heap.size w u) => copied54 u k _ _ (fl_bs (hBk.on hu)) (one_enc _) (by omega)
            have HR := Lib.hid hr
            obtain ⟨kp, kc, rfl, -⟩ := hBk
            have nxt : ∀ (u : World) (k' : Value), Ck w u n (.slice qc n.cells.length dc) (.slice (some ⟨g0, 0, none⟩) n.keys.length dk) (.slice qi n.kids.length di) A D ([.slice kp n.keys[j].length kc] ++ r) is j → Bts u w.heap.size k' n.keys[j] →
                ∃ D', Ck w (u.setCell ⟨g0, j, none⟩ k') n (.slice qc n.cells.length dc) (.slice (some ⟨g0, 0, none⟩) n.keys.length dk) (.slice qi n.kids.length di) A D' r is (j + 1) := fun u k' hm hk => ⟨_, Ck.next hj hm hk HR.out⟩
            have NXT := Lib.hid nxt
            clear nxt hr hd e2 hD
            have hM1 : Ck w wr.drew n (.slice qc n.cells.length dc) (.slice (some ⟨g0, 0, none⟩) n.keys.length dk) (.slice qi n.kids.length di) A D ([.slice kp n.keys[j].length kc] ++ r) is j := hM.out.on (Below.refl _ wr).drew
            clear hM
            obtain ⟨-, -, b2, -⟩ := four_of hM1.1.1
            generalize hK1 : n.keys[j].length = K1 at *
            have HK1 := Lib.hid hK1
            clear hK1 hgb hbg
            go_wp2
            go_region_held3 (fun u => u.cell? ⟨w.heap.size, 2, none⟩ = some (.slice (some ⟨g0, 0, none⟩) n.keys.length dk)) (first | exact b2 | exact set_off b2 hneA)
              (first
              | (go_at_call_of 54 (Value.slice kp K1 kc); refine (cK _ hM1.1.2.2.2.2.1).mono ?_; rintro e wB ⟨k', rfl, hok, hb⟩
                 replace hok := hok.mono hM1.1.2.2.2.2.1.size
                 obtain ⟨rkp, rkc, rfl, -⟩ := own_hdr hok
                 replace hM1 := hM1.on hb
                 obtain ⟨-, -, b2, -⟩ := four_of hM1.1.1
                 have t0 := row_at (j := 0) hM1.1.2.2.1 rfl
                 have tf0 := World.ownsRow.frozenAt hM1.1.2.2.1 j
                 rw [hM1.len (Nat.le_of_lt hj)] at t0
                 rw [Nat.add_zero] at t0
                 clear hb))
            all_goals
              obtain ⟨D', hN⟩ := NXT.out _ _ hM1 (by unfold Bts; rw [HK1.out]; exact hok)
              have HNN := Lib.hid hN
              clear hN hM1 hok
              go_wp2
              go_roundg g
              case measure => omega
              case rel => exact ⟨j + 1, D', r, by omega, by first | rfl | simp, HNN⟩
          | zero =>
            have hjx : ¬ (j : Int) < (n.keys.length : Int) := by omega
            have hB0 : B = [] := by
              have := hM.out.2.2.2.1
              rw [List.length_drop] at this
              exact List.eq_nil_of_length_eq_zero (by rw [this, show n.keys.length - j = 0 by omega])
            subst hB0
            obtain ⟨⟨m1, m2, m3, m4, m5, m6⟩, e1, e2, -⟩ := hM.out
            rw [List.append_nil] at m3
            rw [List.take_of_length_le (by omega)] at e2
            have HM1 := Lib.hid m1
            have HM6 := Lib.hid m6
            have HMo := Lib.hid (And.intro m2 (And.intro m3 (And.intro m4 (And.intro m5 (And.intro e1 e2)))))
            obtain ⟨a0, a1, a2, a3⟩ := four_of m1
            obtain ⟨x0, x1, x2, x3⟩ := four_of m6
            have xf0 := four_fr m6 0
            have xf1 := four_fr m6 1
            have xf2 := four_fr m6 2
            have xf3 := four_fr m6 3
            clear m1 m2 m3 m4 m5 m6 e1 e2 hM
            go_wp2
            obtain ⟨m2, m3, m4, m5, e1, e2⟩ := HMo.out
            have g := gr_four wr (w.heap.size + 1) (.bool n.leaf) (.slice qc n.cells.length dc) (.slice qk n.keys.length dk) (.slice qi n.kids.length di)
            refine bodyPost_ret (results_c26 Try.results26 _ _ (w.heap.size + 1) _ _ _ _ 26 rfl (blk_four HM6.out _ _ _ _)) rfl ?_
            exact ⟨_, rfl, ⟨_, _, _, rfl, ⟨A, own_other m2 g HM6.out (by decide), e1.on fun a x hx => hx.other g HM6.out (by decide)⟩, ⟨D, own_other m3 g HM6.out (by decide), e2.on fun a x hx => hx.other g HM6.out (by decide)⟩, ⟨is, own_other m4 g HM6.out (by decide), HEi.out.on fun a x hx => hx⟩⟩, bel_put m5 g (by omega)⟩
end Go.Proofs.Ytbkpgppaahpalaa
