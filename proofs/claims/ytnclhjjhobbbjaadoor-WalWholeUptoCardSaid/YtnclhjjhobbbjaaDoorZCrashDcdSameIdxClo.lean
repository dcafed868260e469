/-
  What Crash and Start of package disk do.
  What a crash leaves in a sector; a log of 30 slots over a disk of 40 sectors whose fuse may end it: what Append, Reset, Crash, Start and Open come to, told by its commits.
  What Same of the document does.
  What slices.ContainsFunc does with rows of commits and the closure that holds each against what was told.
  What slices.Clone does with commits; rows of one's own that were just built.
-/
import Derived.Test.YtnclhjjhobbbjaaDoorZDecW
import Derived.Test.YtnclhjjhobbbjaaDoorZLgLsComElCu3Ops
import Derived.Test.YtnclhjjhobbbjaaDoorZFoWdWgWl
import Derived.Test.YtnclhjjhobbbjaaDoorZRcom
import Derived.Test.YtnclhjjhobbbjaaDoorZRcRcs
namespace Go.Proofs.YtnclhjjhobbbjaaDoor
open Go.RowKit Go.Maps Go.ChangeMaps Go.MapKept Go.WideShapes
set_option linter.unusedVariables false      -- a walk need not use every condition

def Dsk.crash (s : Dsk) (kb : List Bool) (torn : Int) : Int × Dsk := if s.down then (9, s) else (0, { s.decide kb torn with down := true })
def Dsk.start (s : Dsk) (kb : List Bool) (torn : Int) : Int × Dsk := if s.down then (0, { s.decide kb torn with down := false }) else (1, s)
set_option maxHeartbeats 800000 in
theorem crash14 (w : World) (d pb mb : Nat) (s : Dsk) (h : At w d pb mb s) (torn : Int) (kv : Value) (kb : List Bool) (hb : Bools w d pb mb kv kb) :
    Calls Tryd.prog 14 #[.pointer (some ⟨d, 0, none⟩), .int .i64 torn, kv] w fun e w' => e = .returned (.int .i64 (s.crash kb torn).1) ∧ At w' d pb mb (s.crash kb torn).2 ∧ Kept d pb mb w w' := by
  have cR := ready30 w d pb mb s h
  have cD := decide35 w d pb mb s h torn kv kb hb
  have H : Hid (At w d pb mb s) := h
  clear h hb
  unfold Dsk.crash
  cases hd : s.down with
  | true =>
    simp only [if_true]
    rw [show s.ready = 9 by simp [Dsk.ready, hd]] at cR
    clear cD hd
    go_enter Tryd.func14, Tryd.ntmps14
    go_wp2_with (first
      | (go_at_call 30; refine cR.mono ?_; rintro e w' ⟨rfl, rfl⟩))
    go_ret
    exact ⟨rfl, H.out, Kept.refl _ _ _ _⟩
  | false =>
    simp only [Bool.false_eq_true, if_false]
    rw [show s.ready = 0 by simp [Dsk.ready, hd]] at cR
    clear hd
    generalize s.decide kb torn = sd at *
    go_enter Tryd.func14, Tryd.ntmps14
    go_wp2_with (first
      | (go_at_call 30; refine cR.mono ?_; rintro e w' ⟨rfl, rfl⟩)
      | (go_at_call 35; refine cD.mono ?_; rintro e w1 ⟨⟨v, rfl⟩, h1, k1⟩
         have f2 := (five_of h1.blk).2.2.2.2.2 2
         have c2 := (five_of h1.blk).2.2.1
         have H1 : Hid (At w1 d pb mb sd) := h1
         clear h1))
    go_ret
    refine ⟨rfl, ?_, k1.trans (Kept.grown (gr_set w1 d 2 _) (fun k e => by injection e with e; exact .inl e.symm))⟩
    refine H1.out.turn ?_ (gr_set w1 d 2 _) rfl rfl rfl rfl H1.out.fu H1.out.cl
    rw [blk_set H1.out.blk _]
    rfl
set_option maxHeartbeats 800000 in
theorem start15 (w : World) (d pb mb : Nat) (s : Dsk) (h : At w d pb mb s) (torn : Int) (kv : Value) (kb : List Bool) (hb : Bools w d pb mb kv kb) :
    Calls Tryd.prog 15 #[.pointer (some ⟨d, 0, none⟩), .int .i64 torn, kv] w fun e w' => e = .returned (.int .i64 (s.start kb torn).1) ∧ At w' d pb mb (s.start kb torn).2 ∧ Kept d pb mb w w' := by
  have cR := made31 w d pb mb s h
  have cD := decide35 w d pb mb s h torn kv kb hb
  have c2w := (five_of h.blk).2.2.1
  have H : Hid (At w d pb mb s) := h
  clear h hb
  unfold Dsk.start
  cases hd : s.down with
  | false =>
    simp only [Bool.false_eq_true, if_false]
    rw [hd] at c2w
    clear cD hd
    go_enter Tryd.func15, Tryd.ntmps15
    go_wp2_with (first
      | (go_at_call 31; refine cR.mono ?_; rintro e w' ⟨rfl, rfl⟩))
    go_ret
    exact ⟨rfl, H.out, Kept.refl _ _ _ _⟩
  | true =>
    simp only [if_true]
    rw [hd] at c2w
    clear hd
    generalize s.decide kb torn = sd at *
    go_enter Tryd.func15, Tryd.ntmps15
    go_wp2_with (first
      | (go_at_call 31; refine cR.mono ?_; rintro e w' ⟨rfl, rfl⟩)
      | (go_at_call 35; refine cD.mono ?_; rintro e w1 ⟨⟨v, rfl⟩, h1, k1⟩
         have f2 := (five_of h1.blk).2.2.2.2.2 2
         have c2 := (five_of h1.blk).2.2.1
         have H1 : Hid (At w1 d pb mb sd) := h1
         clear h1))
    go_ret
    refine ⟨rfl, ?_, k1.trans (Kept.grown (gr_set w1 d 2 _) (fun k e => by injection e with e; exact .inl e.symm))⟩
    refine H1.out.turn ?_ (gr_set w1 d 2 _) rfl rfl rfl rfl H1.out.fu H1.out.cl
    rw [blk_set H1.out.blk _]
    rfl
theorem bools_none (w : World) (d pb mb : Nat) : Bools w d pb mb (.slice none 0 0) [] := ⟨⟨none, 0, rfl, .inl rfl⟩, by simp⟩
end Go.Proofs.YtnclhjjhobbbjaaDoor
namespace Go.Proofs.YtnclhjjhobbbjaaDoor
open Go.RowKit Go.Maps
set_option linter.unusedVariables false      -- a walk need not use every condition

theorem tear_ca (s : Dsk) (K : List Nat) (torn : Int) : (s.tear K torn).ca = s.ca ∧ (s.tear K torn).N = s.N ∧ (s.tear K torn).down = s.down := by
  unfold Dsk.tear
  split <;> exact ⟨rfl, rfl, rfl⟩
theorem dcd_N (s : Dsk) (kb : List Bool) (torn : Int) : (s.decide kb torn).N = s.N := (tear_ca _ _ _).2.1
theorem dcd_down (s : Dsk) (kb : List Bool) (torn : Int) : (s.decide kb torn).down = s.down := (tear_ca _ _ _).2.2
theorem dcd_ca (s : Dsk) (kb : List Bool) (torn : Int) {i : Nat} (hi : i < s.N) : (s.decide kb torn).ca i = none := by
  have h : (s.decide kb torn).ca i = (s.dec kb s.dirty.length).ca i := congrFun (tear_ca _ _ _).1 i
  rw [h]
  unfold Dsk.dec
  simp only [List.take_length]
  split
  · rfl
  · rename_i hm
    rw [mem_dirty] at hm
    cases hc : s.ca i with
    | none => rfl
    | some b => exact absurd ⟨hi, by rw [hc]; rfl⟩ hm
/-- What is in a sector behind a crash: what was, what was written, or nothing that can be read. -/
theorem dcd_con (s : Dsk) (kb : List Bool) (torn : Int) {i : Nat} (hi : i < s.N) :
    (s.decide kb torn).con i = s.bas i ∨ (s.ca i).isSome = true ∧ ((s.decide kb torn).con i = s.ca i ∨ (s.decide kb torn).con i = none) := by
  rw [con_bas (dcd_ca s kb torn hi)]
  have hK : ∀ k, k ∈ keptTo kb s.dirty s.dirty.length → (s.ca k).isSome = true := fun k hk => (mem_dirty.1 (kept_mem hk (Nat.le_refl _))).2
  have hD : (s.dec kb s.dirty.length).bas i = s.bas i ∨ (s.ca i).isSome = true ∧ ((s.dec kb s.dirty.length).bas i = s.ca i ∨ (s.dec kb s.dirty.length).bas i = none) := by
    by_cases hm : i ∈ keptTo kb s.dirty s.dirty.length
    · right
      refine ⟨hK i hm, .inl ?_⟩
      obtain ⟨b, hb⟩ := Option.isSome_iff_exists.1 (hK i hm)
      unfold Dsk.bas Dsk.dec
      simp [hm, hb]
    · left
      unfold Dsk.bas Dsk.dec
      simp [hm]
  unfold Dsk.decide
  generalize s.dec kb s.dirty.length = t at hD ⊢
  unfold Dsk.tear
  by_cases ht : 0 ≤ torn ∧ torn < ((keptTo kb s.dirty s.dirty.length).length : Int)
  · rw [if_pos ht]
    by_cases hi2 : i = (keptTo kb s.dirty s.dirty.length).getD torn.toNat 0
    · right
      have hlt : torn.toNat < (keptTo kb s.dirty s.dirty.length).length := by omega
      have hmem : i ∈ keptTo kb s.dirty s.dirty.length := by
        rw [hi2, List.getD_eq_getElem?_getD, List.getElem?_eq_getElem hlt]
        exact List.getElem_mem hlt
      refine ⟨hK i hmem, .inr ?_⟩
      unfold Dsk.bas
      simp only
      rw [← hi2, upd_same, if_pos rfl]
    · have : ({ t with st := upd t.st ((keptTo kb s.dirty s.dirty.length).getD torn.toNat 0) zer, tn := upd t.tn ((keptTo kb s.dirty s.dirty.length).getD torn.toNat 0) true } : Dsk).bas i = t.bas i := by
        unfold Dsk.bas
        simp only
        rw [upd_other _ _ hi2, upd_other _ _ hi2]
      rw [this]
      exact hD
  · rw [if_neg ht]
    exact hD
theorem dcd_same (s : Dsk) (kb : List Bool) (torn : Int) (h : ∀ i, s.ca i = none) : s.decide kb torn = s := by
  have hd : s.dirty = [] := List.eq_nil_iff_forall_not_mem.2 fun k hk => by
    have := (mem_dirty.1 hk).2
    rw [h k] at this
    cases this
  unfold Dsk.decide
  rw [hd, List.length_nil, dec_zero]
  unfold Dsk.tear keptTo
  rw [if_neg (by simp)]
/-- A log that stands, of 30 slots and no note, with these commits. -/
def Up (w : World) (d pb mb l : Nat) (had : Cs) : Prop := ∃ (e : Int) (u : Nat) (s : Dsk), At w d pb mb s ∧ LAt w d pb mb l ⟨e, 30, [], u, false, false⟩ ∧ Wl s ⟨e, 30, [], u, false, false⟩ had ∧ TabOk w ∧ s.N = 40
/-- The power is away: one of these is told when it comes back. -/
def Dn (w : World) (d pb mb : Nat) (may : List Cs) : Prop := ∃ s : Dsk, At w d pb mb s ∧ TabOk w ∧ s.N = 40 ∧ s.down = true ∧ ∀ kb torn, ∃ m, m ∈ may ∧ Tells (s.decide kb torn).con 40 m
theorem Up.on {w w' : World} {d pb mb l : Nat} {had : Cs} (h : Up w d pb mb l had) (hb : Below w.heap.size w w') : Up w' d pb mb l had := by
  obtain ⟨e, u, s, h1, h2, h3, h4, h5⟩ := h
  exact ⟨e, u, s, h1.on hb, h2.on hb, h3, tab_on h4 hb, h5⟩
theorem Dn.on {w w' : World} {d pb mb : Nat} {may : List Cs} (h : Dn w d pb mb may) (hb : Below w.heap.size w w') : Dn w' d pb mb may := by
  obtain ⟨s, h1, h2, h3⟩ := h
  exact ⟨s, h1.on hb, tab_on h2 hb, h3⟩
theorem Up.x4 {w : World} {d pb mb l : Nat} {had : Cs} (h : Up w d pb mb l had) : ∀ k, X4 d pb mb l k → k < w.heap.size := by
  obtain ⟨e, u, s, hA, hL, hW, hT, hN⟩ := h
  have := hA.lts
  have := hL.lt
  intro k hk
  rcases hk with hk | hk | hk | hk <;> omega
/-- What lies further on may change. -/
theorem Up.grow {w w' : World} {d pb mb l : Nat} {had : Cs} {base : Nat} (h : Up w d pb mb l had) (hB : Below base w w') (hZ : ∀ k, X4 d pb mb l k → k < base) : Up w' d pb mb l had := by
  obtain ⟨e, u, s, hA, hL, hW, hT, hN⟩ := h
  obtain ⟨nv, hblk, hn⟩ := hL.blk
  have hn' : BsX (X4 d pb mb l) w' nv [] := by
    obtain ⟨p, cap, rfl, h1, h2, h3, h4⟩ := hn.1
    exact ⟨⟨p, cap, rfl, h1, h2, h3, .inl rfl⟩, fun hx => absurd rfl hx⟩
  refine ⟨e, u, s, hA.same (hB.block _ (hZ _ (x4d d pb mb l).1)) (hB.block _ (hZ _ (x4d d pb mb l).2.1)) (hB.block _ (hZ _ (x4d d pb mb l).2.2.1)), ?_, hW, tab_blk hT (hB.block 0 (by have := hZ _ (x4d d pb mb l).1; omega)), hN⟩
  exact { hL with blk := ⟨nv, (hB.block _ (hZ _ (x4d d pb mb l).2.2.2)).trans hblk, hn'⟩ }
theorem Dn.grow {w w' : World} {d pb mb l : Nat} {may : List Cs} {base : Nat} (h : Dn w d pb mb may) (hB : Below base w w') (hZ : ∀ k, X4 d pb mb l k → k < base) : Dn w' d pb mb may := by
  obtain ⟨s, hA, hT, hN⟩ := h
  exact ⟨s, hA.same (hB.block _ (hZ _ (x4d d pb mb l).1)) (hB.block _ (hZ _ (x4d d pb mb l).2.1)) (hB.block _ (hZ _ (x4d d pb mb l).2.2.1)), tab_blk hT (hB.block 0 (by have := hZ _ (x4d d pb mb l).1; omega)), hN⟩
theorem app_up (w : World) (d pb mb l : Nat) (had : Cs) (h : Up w d pb mb l had) (v : Value) (rs : Rs) (hv : Bss w v rs) (hf : Few rs) :
    Calls Tryd.prog 12 #[.pointer (some ⟨l, 0, none⟩), v] w fun r w' => ∃ c : Int, r = .returned (.int .i64 c) ∧ Kp (X4 d pb mb l) w w' ∧ (c = 6 ∧ Up w' d pb mb l had ∨ c = 0 ∧ Up w' d pb mb l (had ++ [rs]) ∨ c = 9 ∧ Dn w' d pb mb [had, had ++ [rs]]) := by
  obtain ⟨e, u, s, hA, hL, hW, hT, hN⟩ := h
  refine (append12 w d pb mb l s _ hA hL hT v rs hv hf.len).mono ?_
  intro r w' hr
  unfold LogR at hr
  rcases apd_is hW rfl rs hf.ok with h1 | ⟨h1, h2, h3, h4, h5⟩ | ⟨h1, h2, h3, h4, h5, h6, y, hy, h7⟩
  · rw [h1] at hr
    obtain ⟨rfl, hA', hL', hK, hT'⟩ := hr
    exact ⟨6, rfl, hK, .inl ⟨rfl, ⟨e, u, s, hA', hL', hW, hT', hN⟩⟩⟩
  · obtain ⟨rfl, hA', hL', hK, hT'⟩ := hr
    rw [h2] at hL' h5
    exact ⟨0, by rw [h1], hK, .inr (.inl ⟨rfl, ⟨_, _, _, hA', hL', h5, hT', by rw [h3, hN]⟩⟩)⟩
  · obtain ⟨rfl, hA', hL', hK, hT'⟩ := hr
    refine ⟨9, by rw [h1], hK, .inr (.inr ⟨rfl, ⟨_, hA', hT', by rw [h4, hN], h3, fun kb torn => ?_⟩⟩)⟩
    have hg := hW.gd
    have hc := hg.cut (C' := ((apd s ⟨e, 30, [], u, false, false⟩ rs).2.2.decide kb torn).con) hf.ok h5 y hy (fun i hi => by
      have := dcd_con (apd s ⟨e, 30, [], u, false, false⟩ rs).2.2 kb torn (i := i) (by rw [h4]; exact hi)
      rw [h6.bas, ← con_bas (hW.cl.ca i), h7] at this
      exact this)
    rw [hN] at hc
    rcases hc with hc | hc
    · exact ⟨had, by simp, hc⟩
    · exact ⟨had ++ [rs], by simp, hc⟩
theorem rst_up (w : World) (d pb mb l : Nat) (had : Cs) (h : Up w d pb mb l had) :
    Calls Tryd.prog 13 #[.pointer (some ⟨l, 0, none⟩)] w fun r w' => ∃ c : Int, r = .returned (.int .i64 c) ∧ Kp (X4 d pb mb l) w w' ∧ (c = 6 ∧ Up w' d pb mb l had ∨ c = 0 ∧ Up w' d pb mb l [] ∨ c = 9 ∧ Dn w' d pb mb [had, []]) := by
  obtain ⟨e, u, s, hA, hL, hW, hT, hN⟩ := h
  refine (reset13 w d pb mb l s _ hA hL hT (by show (hpay 30 []).length ≤ 112; decide)).mono ?_
  intro r w' hr
  unfold LogR at hr
  rcases rst_is hW with h1 | ⟨h1, h2, h3, h4, h5⟩ | ⟨h1, h2, h3, h4, h5, h6, h7⟩
  · rw [h1] at hr
    obtain ⟨rfl, hA', hL', hK, hT'⟩ := hr
    exact ⟨6, rfl, hK, .inl ⟨rfl, ⟨e, u, s, hA', hL', hW, hT', hN⟩⟩⟩
  · obtain ⟨rfl, hA', hL', hK, hT'⟩ := hr
    rw [h2] at hL' h5
    exact ⟨0, by rw [h1], hK, .inr (.inl ⟨rfl, ⟨_, _, _, hA', hL', h5, hT', by rw [h3, hN]⟩⟩)⟩
  · obtain ⟨rfl, hA', hL', hK, hT'⟩ := hr
    refine ⟨9, by rw [h1], hK, .inr (.inr ⟨rfl, ⟨_, hA', hT', by rw [h4, hN], h3, fun kb torn => ?_⟩⟩)⟩
    have hg := hW.gd
    have hc := hg.recut (C' := ((rst s ⟨e, 30, [], u, false, false⟩).2.2.decide kb torn).con) h5 (fun i hi => by
      have := dcd_con (rst s ⟨e, 30, [], u, false, false⟩).2.2 kb torn (i := i) (by rw [h4]; exact hi)
      rw [h6.bas, ← con_bas (hW.cl.ca i)] at this
      rcases this with hx | ⟨hx, hy⟩
      · exact .inl hx
      · rcases h7 i with h8 | ⟨h8, h9⟩
        · rw [h8] at hx; cases hx
        · rw [h9] at hy
          exact .inr ⟨h8, hy⟩)
    rw [hN] at hc
    rcases hc with hc | hc
    · exact ⟨had, by simp, hc⟩
    · exact ⟨[], by simp, hc⟩
/-- The power is back, and these are told. -/
def Bk (w : World) (d pb mb : Nat) (m : Cs) : Prop := ∃ s : Dsk, At w d pb mb s ∧ TabOk w ∧ s.N = 40 ∧ s.down = false ∧ Tells s.con 40 m
theorem Bk.on {w w' : World} {d pb mb : Nat} {m : Cs} (h : Bk w d pb mb m) (hb : Below w.heap.size w w') : Bk w' d pb mb m := by
  obtain ⟨s, h1, h2, h3⟩ := h
  exact ⟨s, h1.on hb, tab_on h2 hb, h3⟩
theorem open_bk (w : World) (d pb mb : Nat) (m : Cs) (h : Bk w d pb mb m) :
    Calls Tryd.prog 16 #[.pointer (some ⟨d, 0, none⟩)] w fun r w' => ∃ l np n nc p c, r = .returned (.tuple #[.pointer (some ⟨l, 0, none⟩), .slice np n nc, .slice p m.length c, .int .i64 0]) ∧ (sl (sl bytesE)).E (fun _ => False) w' (.slice p m.length c) m ∧ Bk w' d pb mb m ∧ Below w.heap.size w w' := by
  obtain ⟨s, hA, hT, hN, hd, ht⟩ := h
  have ht' := ht
  obtain ⟨e, slots, note, u, h1, h2, h3, h4, h5, h6, h7, h8⟩ := ht
  have hnl : note.length ≤ 112 := by
    have : note.length ≤ (hpay slots note).length := by unfold hpay; simp
    omega
  have c := open16 w d pb mb s hA hT hd e slots note (by rw [← hN] at h1; exact h1) h2 h3 h4 h5 (by omega) hnl
  have hts : rds s.fr e slots (slots + 1) 0 = (m, u) := h8
  rw [hts] at c
  unfold OpR at c
  refine c.mono ?_
  rintro r w' ⟨l, np, nc, p, q, rfl, -, -, g2, g3, -, g4, g5⟩
  exact ⟨l, np, _, nc, p, q, rfl, g2, ⟨s, g3, g5, hN, hd, ht'⟩, g4⟩
/-- The power goes, and comes back. -/
theorem crash_up (w : World) (d pb mb l : Nat) (had : Cs) (h : Up w d pb mb l had) (torn : Int) (kv : Value) (kb : List Bool) (hb : Bools w d pb mb kv kb) :
    Calls Tryd.prog 14 #[.pointer (some ⟨d, 0, none⟩), .int .i64 torn, kv] w fun r w' => r = .returned (.int .i64 0) ∧ Dn w' d pb mb [had] ∧ Kept d pb mb w w' := by
  obtain ⟨e, u, s, hA, hL, hW, hT, hN⟩ := h
  refine (crash14 w d pb mb s hA torn kv kb hb).mono ?_
  rintro r w' ⟨rfl, hA', hK⟩
  unfold Dsk.crash at hA' ⊢
  rw [if_neg (by rw [hW.cl.down]; decide)] at hA' ⊢
  rw [dcd_same s kb torn hW.cl.ca] at hA' ⊢
  refine ⟨rfl, ⟨{ s with down := true }, hA', tab_kept hT hA hK, hN, rfl, fun kb' torn' => ⟨had, by simp, ?_⟩⟩, hK⟩
  have := hW.gd.tell
  rw [hN] at this
  rw [dcd_same ({ s with down := true } : Dsk) kb' torn' hW.cl.ca]
  exact this
theorem start_dn (w : World) (d pb mb : Nat) (may : List Cs) (h : Dn w d pb mb may) (torn : Int) (kv : Value) (kb : List Bool) (hb : Bools w d pb mb kv kb) :
    Calls Tryd.prog 15 #[.pointer (some ⟨d, 0, none⟩), .int .i64 torn, kv] w fun r w' => r = .returned (.int .i64 0) ∧ (∃ m, m ∈ may ∧ Bk w' d pb mb m) ∧ Kept d pb mb w w' := by
  obtain ⟨s, hA, hT, hN, hd, ht⟩ := h
  refine (start15 w d pb mb s hA torn kv kb hb).mono ?_
  rintro r w' ⟨rfl, hA', hK⟩
  unfold Dsk.start at hA' ⊢
  rw [if_pos hd] at hA' ⊢
  obtain ⟨m, hm, hx⟩ := ht kb torn
  exact ⟨rfl, ⟨m, hm, ⟨_, hA', tab_kept hT hA hK, by rw [← hN]; exact dcd_N s kb torn, rfl, hx⟩⟩, hK⟩
theorem fuse_up (w : World) (d pb mb l : Nat) (had : Cs) (h : Up w d pb mb l had) (n : Nat) (hn : n ≤ 255) :
    Calls Tryd.prog 9 #[.pointer (some ⟨d, 0, none⟩), .int .i64 n] w fun r w' => r = .returned (.int .i64 0) ∧ Up w' d pb mb l had ∧ Kept d pb mb w w' := by
  obtain ⟨e, u, s, hA, hL, hW, hT, hN⟩ := h
  refine (setFuse9 w d pb mb s hA n (by omega)).mono ?_
  rintro r w' ⟨rfl, hA', hK⟩
  unfold Dsk.setFuse at hA' ⊢
  rw [if_neg (by rw [hW.cl.down]; decide), if_neg (by omega)] at hA' ⊢
  exact ⟨rfl, ⟨e, u, { s with fuse := n }, hA', hL.kept hK, ⟨⟨hW.cl.down, hW.cl.ca, by show (0 : Int) ≤ n; omega⟩, hW.gd, hW.br⟩, tab_kept hT hA hK, hN⟩, hK⟩
theorem down_up (w : World) (d pb mb l : Nat) (had : Cs) (h : Up w d pb mb l had) : Calls Tryd.prog 10 #[.pointer (some ⟨d, 0, none⟩)] w fun r w' => r = .returned (.bool false) ∧ w' = w := by
  obtain ⟨e, u, s, hA, hL, hW, hT, hN⟩ := h
  have c := down10 w d pb mb s hA
  rw [hW.cl.down] at c
  exact c
theorem down_dn (w : World) (d pb mb : Nat) (may : List Cs) (h : Dn w d pb mb may) : Calls Tryd.prog 10 #[.pointer (some ⟨d, 0, none⟩)] w fun r w' => r = .returned (.bool true) ∧ w' = w := by
  obtain ⟨s, hA, hT, hN, hd, ht⟩ := h
  have c := down10 w d pb mb s hA
  rw [hd] at c
  exact c
end Go.Proofs.YtnclhjjhobbbjaaDoor
namespace Go.Proofs.YtnclhjjhobbbjaaDoor
open Go.RowKit Go.Maps
set_option linter.unusedVariables false      -- a walk need not use every condition
attribute [local go_sem ↓] Go.wp_at_zero Go.wp_at_succ

/-- Are two rows of commits of the same bytes? -/
def sameC (A B : Cs) : Bool := decide (A.map cby = B.map cby)
theorem sameC_refl (A : Cs) : sameC A A = true := decide_eq_true rfl
theorem sameC_len {A B : Cs} (h : A.length ≠ B.length) : sameC A B = false := decide_eq_false fun e => h (by simpa using congrArg List.length e)
theorem sameC_at {A B : Cs} {i : Nat} (ha : i < A.length) (hb : i < B.length) (h : cby A[i] ≠ cby B[i]) : sameC A B = false := decide_eq_false fun e => h (by
  have h1 : (A.map cby)[i]'(by simpa using ha) = (B.map cby)[i]'(by simpa using hb) := by simp only [e]
  simpa using h1)
theorem sameC_all {A B : Cs} (hl : A.length = B.length) (h : ∀ i (ha : i < A.length) (hb : i < B.length), cby A[i] = cby B[i]) : sameC A B = true := decide_eq_true (by
  refine List.ext_getElem (by simpa using hl) fun i h1 h2 => ?_
  simp only [List.length_map] at h1 h2
  simp only [List.getElem_map]
  exact h i h1 h2)
set_option maxHeartbeats 4000000 in
set_option maxRecDepth 100000 in
theorem same17 (w : World) (a b : Value) (A B : Cs) (hA : (sl (sl bytesE)).E (fun _ => False) w a A) (hB : (sl (sl bytesE)).E (fun _ => False) w b B)
    (hlA : ∀ i (h : i < A.length), (cby A[i]).length ≤ 4398046511104) (hlB : ∀ i (h : i < B.length), (cby B[i]).length ≤ 4398046511104) (hm : A.length ≤ 4398046511104) (hm2 : B.length ≤ 4398046511104) :
    Calls Tryd.prog 17 #[a, b] w fun e w' => e = .returned (.bool (sameC A B)) ∧ Below w.heap.size w w' := by
  have HA := Lib.hid hA
  have HB := Lib.hid hB
  have HLA := Lib.hid hlA
  have HLB := Lib.hid hlB
  obtain ⟨ap, ac, rfl⟩ := sl_hdr hA
  obtain ⟨bp, bc, rfl⟩ := sl_hdr hB
  clear hA hB hlA hlB
  by_cases hl : A.length = B.length
  · have HL := Lib.hid hl
    rw [← hl]
    clear hl hm2
    go_enter Tryd.func17, Tryd.ntmps17
    go_wp2
    go_loopg [5] A.length (fun g s5 wr => ∃ i : Nat, i + g = A.length ∧ s5 = .int .i64 i ∧ Hid (∀ j (ha : j < A.length) (hb : j < B.length), j < i → cby A[j] = cby B[j]) ∧ Hid (Below w.heap.size w wr))
    case atStart => exact ⟨0, by omega, rfl, fun j _ _ h => absurd h (Nat.not_lt_zero _), Below.refl _ _⟩
    case round =>
      obtain ⟨i, hig, rfl, heq, hb⟩ := hrel
      cases gk with
      | zero =>
        obtain rfl : i = A.length := by omega
        go_wp2
        go_ret
        exact ⟨by rw [sameC_all HL.out fun j ha hb => heq.out j ha hb ha]; rfl, hb.out⟩
      | succ g =>
        have hi : i < A.length := by omega
        have hib : i < B.length := by have := HL.out; omega
        have hiz : (i : Int) < (A.length : Int) := by omega
        have hi0 : (0 : Int) ≤ (i : Int) := by omega
        obtain ⟨ga, oa, ca, x, ex, hx, hxE⟩ := sl_at HA.out hi
        obtain ⟨gb, ob, cb, y, ey, hy, hyE⟩ := sl_at HB.out hib
        injection ex with ex1 ex2 ex3
        injection ey with ey1 ey2 ey3
        subst ex1 ex3 ey1 ey3
        clear ex2 ey2
        have HXB := Lib.hid (bss_of hxE)
        have HYB := Lib.hid (bss_of hyE)
        obtain ⟨xp, xc, rfl⟩ := sl_hdr hxE
        obtain ⟨yp, yc, rfl⟩ := sl_hdr hyE
        have hx1 := cell_on hb.out hx
        have hy1 := cell_on hb.out hy
        have hxd : wr.drew.cell? ⟨ga, oa + i, none⟩ = some _ := hx1
        have hyd : wr.drew.cell? ⟨gb, ob + i, none⟩ = some _ := hy1
        have HX := Lib.hid hx1
        have HY := Lib.hid hy1
        have HEQ : Hid (cby A[i] = cby B[i] → ∀ j (ha : j < A.length) (hb : j < B.length), j < i + 1 → cby A[j] = cby B[j]) := fun e j ha hb hj => by
          by_cases hji : j = i
          · subst hji; exact e
          · exact heq.out j ha hb (by omega)
        have HNE : Hid (cby A[i] ≠ cby B[i] → sameC A B = false) := fun e => sameC_at hi hib e
        have HLBi := HLB.out i hib
        have cA := fun (W : World) (hB : Below wr.heap.size wr W) => commit39 W _ A[i] (HXB.out.on (bel_then hb.out hB)) (HLA.out i hi)
        have cB := fun (W : World) (hB : Below wr.heap.size wr W) => commit39 W _ B[i] (HYB.out.on (bel_then hb.out hB)) HLBi
        generalize cby A[i] = TA at *
        generalize cby B[i] = TB at *
        generalize A[i].length = nA at *
        generalize B[i].length = nB at *

        have hne : TA = TB ∨ TA ≠ TB := Classical.em _
        clear hxE hyE hx hy heq
        go_wp2
        go_region_with (first
          | (go_at_call 39; have hh := DA; clear hh; refine (cB _ HB2.out).mono ?_
             rintro e w3 ⟨v3, rfl, hbt, hb3⟩
             have HB3 := Lib.hid (bel_then HB2.out hb3)
             have st2b := (HT2.out.on hb3).str
             have st3 := hbt.bs.str
             obtain ⟨vp3, vc3, rfl, -⟩ := hbt.bs
             clear hbt hb3)
          | (go_at_call 39; have hh := DB; clear hh; refine (cA _ HB2.out).mono ?_
             rintro e w3 ⟨v3, rfl, hbt, hb3⟩
             have HB3 := Lib.hid (bel_then HB2.out hb3)
             have st2b := (HT2.out.on hb3).str
             have st3 := hbt.bs.str
             obtain ⟨vp3, vc3, rfl, -⟩ := hbt.bs
             clear hbt hb3)
          | (go_at_call 39; with_reducible refine (cA _ (Below.refl _ wr).drew).mono ?_
             rintro e w2 ⟨v2, rfl, hbt, hb2⟩
             have hb2' : Below wr.heap.size wr w2 := ⟨hb2.os, hb2.tape, hb2.output, hb2.size, hb2.block⟩
             have HB2 := Lib.hid hb2'
             have HT2 := Lib.hid hbt.bs
             have st2 := hbt.bs.str
             obtain ⟨vp, vc, rfl, -⟩ := hbt.bs
             have hy2 := cell_on hb2' HY.out
             have DA := Lib.hid True.intro
             clear hbt hb2 hb2')
          | (go_at_call 39; with_reducible refine (cB _ (Below.refl _ wr).drew).mono ?_
             rintro e w2 ⟨v2, rfl, hbt, hb2⟩
             have hb2' : Below wr.heap.size wr w2 := ⟨hb2.os, hb2.tape, hb2.output, hb2.size, hb2.block⟩
             have HB2 := Lib.hid hb2'
             have HT2 := Lib.hid hbt.bs
             have st2 := hbt.bs.str
             obtain ⟨vp, vc, rfl, -⟩ := hbt.bs
             have hx2 := cell_on hb2' HX.out
             have DB := Lib.hid True.intro
             clear hbt hb2 hb2'))
        all_goals
          clear cA cB
          rcases hne with hne | hne
          · have HE := Lib.hid (HEQ.out hne)
            have hs0 : (TA == TB) = true := by rw [hne]; simp
            have hs : (!TA == TB) = false := by rw [hs0]; rfl
            clear hs0
            clear hne
            go_wp2
            · rename_i hq
              rw [hs] at hq
              cases hq
            · go_roundg g
              case measure => omega
              case rel => exact ⟨i + 1, by omega, by first | rfl | simp, HE, bel_then hb.out HB3.out⟩
          · have hs0 : (TA == TB) = false := by simpa using hne
            have hs : (!TA == TB) = true := by rw [hs0]; rfl
            clear hs0
            have HE := Lib.hid (HNE.out hne)
            go_wp2
            · go_ret
              exact ⟨by rw [HE.out]; rfl, bel_then hb.out HB3.out⟩
            · rename_i hq
              rw [hs] at hq
              cases hq
  · have hlz : ((A.length : Int) == (B.length : Int)) = false := by simp; omega
    have HR := Lib.hid (sameC_len hl)
    go_enter Tryd.func17, Tryd.ntmps17
    go_wp2
    go_ret
    exact ⟨by rw [HR.out]; rfl, Below.refl _ _⟩
end Go.Proofs.YtnclhjjhobbbjaaDoor
namespace Go.Proofs.YtnclhjjhobbbjaaDoor
open Go.RowKit Go.Maps
set_option linter.unusedVariables false      -- a walk need not use every condition
attribute [local go_sem ↓] Go.wp_at_zero Go.wp_at_succ

/-- Commits of no great bytes. -/
def Lgt (A : Cs) : Prop := A.length ≤ 4398046511104 ∧ ∀ i (h : i < A.length), (cby A[i]).length ≤ 4398046511104
theorem closure19 (w : World) (gb : Nat) (a b : Value) (A B : Cs) (hc : w.cell? ⟨gb, 0, none⟩ = some a) (hA : (sl (sl bytesE)).E (fun _ => False) w a A) (hB : (sl (sl bytesE)).E (fun _ => False) w b B) (hlA : Lgt A) (hlB : Lgt B) :
    Calls Tryd.prog 19 #[b, .pointer (some ⟨gb, 0, none⟩)] w fun e w' => e = .returned (.bool (sameC A B)) ∧ Below w.heap.size w w' := by
  have c17 := same17 w a b A B hA hB hlA.2 hlB.2 hlA.1 hlB.1
  obtain ⟨ap, ac, rfl⟩ := sl_hdr hA
  obtain ⟨bp, bc, rfl⟩ := sl_hdr hB
  generalize sameC A B = X at *
  clear hA hB hlA hlB
  go_enter Tryd.func19, Tryd.ntmps19
  go_wp2_with (go_at_call 17; refine c17.mono ?_; rintro e w1 ⟨rfl, hb1⟩; have HB1 := Lib.hid hb1; clear hb1)
  go_ret
  exact ⟨rfl, HB1.out⟩
set_option maxHeartbeats 2000000 in
set_option maxRecDepth 100000 in
theorem index40 (w : World) (gb : Nat) (a v : Value) (A : Cs) (may : List Cs) (hc : w.cell? ⟨gb, 0, none⟩ = some a) (hA : (sl (sl bytesE)).E (fun _ => False) w a A) (hv : (sl (sl (sl bytesE))).E (fun _ => False) w v may) (hlA : Lgt A) (hl : ∀ i (h : i < may.length), Lgt may[i]) (hn : may.length ≤ 1048576)
    (i0 : Nat) (hi0 : i0 < may.length) (he : may[i0] = A) :
    Calls Tryd.prog 40 #[v, .func (.func 19) #[] #[.pointer (some ⟨gb, 0, none⟩)]] w fun e w' => ∃ k : Nat, e = .returned (.int .i64 k) ∧ k ≤ 1048576 ∧ Below w.heap.size w w' := by
  have HC := Lib.hid hc
  have HA := Lib.hid hA
  have HV := Lib.hid hv
  have HLA := Lib.hid hlA
  have HL := Lib.hid hl
  have HE : Hid (∀ i (h : i < may.length), sameC A may[i] = false → i ≠ i0) := fun i h hs e => by
    subst e
    rw [he, sameC_refl] at hs
    cases hs
  obtain ⟨p, cap, rfl⟩ := sl_hdr hv
  clear hc hA hv hlA hl he
  go_enter Tryd.func40, Tryd.ntmps40
  go_wp2
  go_loopg [8] may.length (fun g s8 wr => ∃ i : Nat, i + g = may.length ∧ i ≤ i0 ∧ s8 = .int .i64 i ∧ Hid (Below w.heap.size w wr))
  case atStart => exact ⟨0, by omega, by omega, rfl, Below.refl _ _⟩
  case round =>
    obtain ⟨i, hig, hii, rfl, hb⟩ := hrel
    obtain ⟨g, rfl⟩ : ∃ g, gk = g + 1 := ⟨gk - 1, by omega⟩
    have hi : i < may.length := by omega
    have hiz : (i : Int) < (may.length : Int) := by omega
    have hi0z : (0 : Int) ≤ (i : Int) := by omega
    obtain ⟨ga, oa, ca, x, ex, hx, hxE⟩ := sl_at HV.out hi
    injection ex with ex1 ex2 ex3
    subst ex1 ex3
    clear ex2
    have hx1 := cell_on hb.out hx
    have c19 := closure19 wr gb a x A may[i] (cell_on hb.out HC.out) ((sl (sl bytesE)).on HA.out hb.out) ((sl (sl bytesE)).on hxE hb.out) HLA.out (HL.out i hi)
    have hE := HE.out i hi
    obtain ⟨xp, xc, rfl⟩ := sl_hdr hxE
    generalize sameC A may[i] = S at *
    generalize may[i].length = nx at *
    clear hxE hx
    cases S with
    | true =>
      go_wp2_with (go_at_call 19; refine c19.mono ?_; rintro e w1 ⟨rfl, hb1⟩; have HB1 := Lib.hid (bel_then hb.out hb1); clear hb1)
      go_ret
      exact ⟨i, rfl, by omega, HB1.out⟩
    | false =>
      have hne := hE rfl
      go_wp2_with (go_at_call 19; refine c19.mono ?_; rintro e w1 ⟨rfl, hb1⟩; have HB1 := Lib.hid (bel_then hb.out hb1); clear hb1)
      go_roundg g
      case measure => omega
      case rel => exact ⟨i + 1, by omega, by omega, by first | rfl | simp, HB1⟩
theorem contains18 (w : World) (gb : Nat) (a v : Value) (A : Cs) (may : List Cs) (hc : w.cell? ⟨gb, 0, none⟩ = some a) (hA : (sl (sl bytesE)).E (fun _ => False) w a A) (hv : (sl (sl (sl bytesE))).E (fun _ => False) w v may) (hlA : Lgt A) (hl : ∀ i (h : i < may.length), Lgt may[i]) (hn : may.length ≤ 1048576)
    (i0 : Nat) (hi0 : i0 < may.length) (he : may[i0] = A) :
    Calls Tryd.prog 18 #[v, .func (.func 19) #[] #[.pointer (some ⟨gb, 0, none⟩)]] w fun e w' => e = .returned (.bool true) ∧ Below w.heap.size w w' := by
  have c40 := index40 w gb a v A may hc hA hv hlA hl hn i0 hi0 he
  obtain ⟨p, cap, rfl⟩ := sl_hdr hv
  clear hc hA hv hlA hl he
  go_enter Tryd.func18, Tryd.ntmps18
  go_wp2_with (go_at_call 40; refine c40.mono ?_; rintro e w1 ⟨k, rfl, hk, hb1⟩; have HB1 := Lib.hid hb1; have hkz : (0 : Int) ≤ (k : Int) := (by omega); clear hb1)
  go_ret
  exact ⟨by first | rfl | simp, HB1.out⟩
end Go.Proofs.YtnclhjjhobbbjaaDoor
namespace Go.Proofs.YtnclhjjhobbbjaaDoor
open Go.RowKit Go.Maps
set_option linter.unusedVariables false      -- a walk need not use every condition
attribute [local go_sem ↓] Go.wp_at_zero Go.wp_at_succ

/-- The values of a slice. -/
theorem sl_vals {α : Type} {E : Elem α} {X : Nat → Prop} {w : World} {g o cap : Nat} : ∀ {L : List α}, (∀ i (h : i < L.length), ∃ x, w.cell? ⟨g, o + i, none⟩ = some x ∧ E.E X w x L[i]) → ∃ vs : List Value, vs.length = L.length ∧ (∀ j u, vs[j]? = some u → w.cell? ⟨g, o + j, none⟩ = some u) ∧ (∀ u ∈ vs, u.oneCell' = true) ∧ ∀ i (h : i < L.length), ∃ x, vs[i]? = some x ∧ E.E X w x L[i] := by
  intro L h
  let f : Nat → Value := fun i => if hi : i < L.length then (h i hi).choose else undef
  have hf : ∀ i (hi : i < L.length), w.cell? ⟨g, o + i, none⟩ = some (f i) ∧ E.E X w (f i) L[i] := fun i hi => by
    have e : f i = (h i hi).choose := dif_pos hi
    rw [e]
    exact (h i hi).choose_spec
  refine ⟨(List.range L.length).map f, by simp, fun j u hu => ?_, fun u hu => ?_, fun i hi => ⟨f i, ?_, (hf i hi).2⟩⟩
  · obtain ⟨hj, e⟩ := List.getElem?_eq_some_iff.1 hu
    simp at hj e
    subst e
    exact (hf j hj).1
  · obtain ⟨i, hi, rfl⟩ := List.mem_map.1 hu
    exact E.one (hf i (List.mem_range.1 hi)).2
  · rw [List.getElem?_eq_getElem (by simpa using hi)]
    simp
/-- A row of one's own as a slice that lies in none of these blocks. -/
theorem rowG_slZ {α : Type} {T : TypeId} {E : Elem α} {Z : Nat → Prop} {w : World} {base : Nat} {v : Value} {L : List α} (h : RowG T (E.ban Z) w base v L) (hZ : ∀ k, Z k → k < base) : (sl E).E Z w v L := by
  obtain ⟨vs, ho, he⟩ := h
  rcases ho.2 with ⟨rfl, h0⟩ | ⟨g, cap, cur, rfl, hbg, hg, hnc, hcm, hcs, htake⟩
  · have : L = [] := List.eq_nil_of_length_eq_zero h0
    subst this
    exact ⟨none, 0, rfl, .inl rfl⟩
  · refine ⟨_, cap, rfl, .inr ⟨g, 0, rfl, fun hz => by have := hZ g hz; omega, fun i hi => ?_⟩⟩
    obtain ⟨x, hx, hE⟩ := he i hi
    have := ho.cells (g := g) rfl i x hx
    rw [Go.WideShapes.add_plain] at this
    exact ⟨x, this, E.mono hE (fun _ _ hz => .inr hz)⟩
/-- A thing that lay there lies in no later block. -/
theorem Elem.past {α : Type} (E : Elem α) {Z : Nat → Prop} {w : World} {x : Value} {a : α} (h : E.E Z w x a) : E.E (fun k => w.heap.size ≤ k ∨ Z k) w x a :=
  E.mono h fun k hk hx => by
    rcases hx with hx | hx
    · omega
    · exact hx
/-- A row of one that was just built. -/
theorem rowG_one {α : Type} (T : TypeId) (E : Elem α) (Z : Nat → Prop) (w : World) (base : Nat) (x : Value) (a : α) (h : E.E Z w x a) (hb : base ≤ w.heap.size) : RowG T (E.ban Z) (w.alloc (.cells #[x] T)) base (.slice (some ⟨w.heap.size, 0, none⟩) 1 1) [a] := by
  refine ⟨[x], ⟨rfl, .inr ⟨w.heap.size, 1, #[x], rfl, hb, heap_alloc_last w _, Nat.le_refl _, by decide, rfl, rfl⟩⟩, fun i hi => ?_⟩
  obtain rfl : i = 0 := by simp at hi; exact hi
  refine ⟨x, rfl, ?_⟩
  have h2 := E.on (E.past h) (bel1 w (.cells #[x] T))
  exact E.mono h2 fun k _ hk => by
    rcases hk with hk | hk
    · exact .inl (Nat.le_of_eq (Option.some.inj hk))
    · exact .inr hk
/-- One more put behind a row of one's own, as it runs. -/
theorem rowG_run {α : Type} (T : TypeId) (ST : TypeId) (E : Elem α) (hst : Tryd.prog.underlying ST = some (.slice T)) (i0 : TypeInfo) (hinf : Tryd.prog.info? T = some i0) (z : Value) (hz0 : i0.zero = some z) (hz1 : i0.size = 1) (hz2 : i0.bytes = 24) (hzc : z.cells.size = 1)
    (ty : TypeId) (w : World) (base g0 : Nat) (v y : Value) (L : List α) (u : α)
    (h : RowG T E w base v L) (hu : E.E (fun k => v.ownBlock = some k) w y u) (hy : w.cell? ⟨g0, 0, none⟩ = some y) (hbase : base ≤ w.heap.size) (hlen : L.length + 1 ≤ 4398046511104) :
    ∃ g cap w', (Builtin.append_ #[ST, ST] ty #[v, .slice (some ⟨g0, 0, none⟩) 1 1]).run Tryd.prog w = .ok (.slice (some ⟨g, 0, none⟩) (L.length + 1) cap) w' ∧ RowG T E w' base (.slice (some ⟨g, 0, none⟩) (L.length + 1) cap) (L ++ [u]) ∧ Below base w w' := by
  obtain ⟨vs, hown, he⟩ := h
  have hvs : vs.length = L.length := by have := hown.1; omega
  obtain ⟨g, cap, w', hr, hown', hg, hat, hlt⟩ := run_append_lies (P := Tryd.prog) w ST ty base T i0 z 1 24 hst hinf hz0 hz1 hz2 hzc (by decide) v L.length vs hown ⟨g0, 0, none⟩ 1 1 [y] rfl
    (fun j q hq => by
      cases j with
      | zero => simp at hq; subst hq; rw [Go.WideShapes.add_plain]; exact hy
      | succ j => simp at hq)
    (fun q hq => by simp at hq; subst hq; exact E.one hu) (by decide) (by unfold maxLen; omega) (by omega) hbase w.heap.size rfl
  have hB : Below base w w' := (Below.refl base w).grown hg hbase (fun j e => (World.ownsRow.lt hown j e).1)
  have kp : Kp (fun k => v.ownBlock = some k) w w' := ⟨hg.os, hg.tape, hg.output, hg.size, fun k hk hx => hg.block k hk (fun e => hx e.symm)⟩
  have hmv : ∀ {q : Value} {b : α}, E.E (fun k => v.ownBlock = some k) w q b → E.E (fun k => (Value.slice (some ⟨g, 0, none⟩) (L.length + 1) cap).ownBlock = some k) w' q b := fun {q b} hq => by
    have h1 : E.E (fun k => v.ownBlock = some k ∨ k = g) w q b := E.mono hq (fun k hk hx => by
      rcases hx with hx | hx
      · exact hx
      · rcases hat with hat | hat
        · rw [hx]; exact hat
        · omega)
    have h2 := E.kp h1 ⟨kp.os, kp.tape, kp.output, kp.size, fun k hk hx => kp.block k hk (fun e => hx (.inl e))⟩
    refine E.mono h2 (fun k hk hx => .inr ?_)
    exact (Option.some.inj (show some g = some k from hx)).symm
  refine ⟨g, cap, w', hr, ⟨vs ++ [y], by rw [List.length_append, List.length_singleton]; exact hown', fun i hi => ?_⟩, hB⟩
  rw [List.length_append, List.length_singleton] at hi
  by_cases hl : i < L.length
  · obtain ⟨q, hq, hE⟩ := he i hl
    exact ⟨q, by rw [List.getElem?_append_left (by omega)]; exact hq, by rw [List.getElem_append_left hl]; exact hmv hE⟩
  · obtain rfl : i = L.length := by omega
    exact ⟨y, by rw [List.getElem?_append_right (by omega), hvs, Nat.sub_self]; rfl, by simpa using hmv hu⟩
set_option maxHeartbeats 2000000 in
set_option maxRecDepth 100000 in
theorem clone11 (w : World) (v : Value) (L : Cs) (Z : Nat → Prop) (hv : (sl (sl bytesE)).E Z w v L) (hbig : L.length ≤ 4398046511104) :
    Calls Tryd.prog 11 #[v] w fun e w' => ∃ v', e = .returned v' ∧ RowG 35 ((sl bytesE).ban Z) w' w.heap.size v' L ∧ Below w.heap.size w w' := by
  obtain ⟨p, cap, rfl, h4⟩ := hv
  have q33 : ∀ (w : World) (a : Option Addr) (n c n' c' : Nat), (binOp .eql 33 (.slice a n c) (.slice none n' c')).run Tryd.prog w = .ok (.bool a.isNone) w := fun w a n c n' c' => Lib.run_eql_slice_nil w _ _ a n c n' c' Tryd.underlying33
  obtain ⟨i0, hi, hz0, hz1, hz2⟩ := info_parts info35
  cases p with
  | none =>
    have ht : L = [] := by
      rcases h4 with h | ⟨g, o, e, -⟩
      · exact h
      · cases e
    subst ht
    go_enter Tryd.func11, Tryd.ntmps11
    go_wp2
    go_ret
    exact ⟨_, rfl, rowG_nil _ _ _ _, Below.refl _ _⟩
  | some a =>
    have hvs : ∃ vs : List Value, vs.length = L.length ∧ (∀ j u, vs[j]? = some u → w.cell? (a.add j) = some u) ∧ (∀ u ∈ vs, u.oneCell' = true) ∧ ∀ i (h : i < L.length), ∃ x, vs[i]? = some x ∧ (sl bytesE).E Z w x L[i] := by
      rcases h4 with rfl | ⟨g, o, e, -, h⟩
      · exact ⟨[], rfl, fun j u hu => (by simp at hu), fun u hu => (by cases hu), fun i hi => absurd hi (Nat.not_lt_zero _)⟩
      · injection e with e
        subst e
        obtain ⟨vs, h1, h2, h3⟩ := sl_vals (E := sl bytesE) (X := Z) (cap := 0) h
        exact ⟨vs, h1, fun j u hu => by rw [Go.WideShapes.add_plain]; exact h2 j u hu, h3⟩
    obtain ⟨vs, hl, hc, h1, hE⟩ := hvs
    have HC := Lib.hid hc
    have H1 := Lib.hid h1
    have HE := Lib.hid hE
    have HLn := Lib.hid hl
    clear hc h1 hE h4 hl
    go_enter Tryd.func11, Tryd.ntmps11
    go_wp2_with (at_builtin; refine wpList_append_own _ rfl _ _ 33 rfl w.heap.size 35 i0 (.slice none 0 0) 1 24 Tryd.underlying33 hi hz0 hz1 hz2 rfl (by decide) _ _ _ rfl (World.ownsRow_made w #[] 0 (Nat.le_refl _) (Nat.zero_le _) rfl) a L.length cap vs rfl ?qc1 ?qc2 ?qc3 ?qc4 ?qc5 ?qc6 ?_)
    case qc1 => rw [HLn.out]; omega
    case qc2 => exact fun j u hu => Lib.cell?_alloc_some _ (HC.out j u hu)
    case qc3 => exact H1.out
    case qc4 => unfold maxLen; omega
    case qc5 => omega
    case qc6 => simp
    intro v' w1 hown hgrow hnil
    go_wp2
    go_ret
    have hB : Below w.heap.size w w1 := ((Below.refl _ w).alloc (Nat.le_refl _) _).grown hgrow (by simp) (by intro k hk; simp [Value.ownBlock] at hk; omega)
    have hown' : w1.ownsRow w.heap.size 35 1 v' L.length vs := by simpa using hown
    refine ⟨v', rfl, ⟨vs, hown', fun i hi => ?_⟩, hB⟩
    obtain ⟨x, hx, hxE⟩ := HE.out i hi
    refine ⟨x, hx, ?_⟩
    exact (sl bytesE).mono ((sl bytesE).on ((sl bytesE).past hxE) hB) fun k _ hk => by
      rcases hk with hk | hk
      · exact .inl (World.ownsRow.lt hown' k hk).1
      · exact .inr hk
end Go.Proofs.YtnclhjjhobbbjaaDoor
