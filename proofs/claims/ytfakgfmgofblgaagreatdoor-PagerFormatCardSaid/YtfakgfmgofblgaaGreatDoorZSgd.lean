/-
  staged of package pager: the pages of which a commit would consist, and their records.
-/
import Derived.Test.YtfakgfmgofblgaaGreatDoorZOeSpt
import Derived.Test.YtfakgfmgofblgaaGreatDoorZNhElRpRcRcs
namespace Go.Proofs.YtfakgfmgofblgaaGreatDoor
open Go.RowKit Go.Maps Go.Sort Go.Shelf
set_option linter.unusedVariables false      -- a walk need not use every condition
attribute [local go_sem ↓] Go.wp_at_zero Go.wp_at_succ

theorem own_keptT {w w' : World} {base base' : Nat} {e e' : TypeId} {s s' n m : Nat} {v r : Value} {xs ys : List Value} (h : w.ownsRow base e s v n xs) (hr : w.ownsRow base' e' s' r m ys) (hne : e ≠ e') (hg : w.grownBy w' r.ownBlock) : w'.ownsRow base e s v n xs := by
  refine h.kept hg ?_
  rcases h.2 with ⟨rfl, -⟩ | ⟨g, cap, cur, rfl, -, hgb, -⟩
  · exact .inl rfl
  · refine .inr fun e1 => ?_
    rcases hr.2 with ⟨rfl, -⟩ | ⟨g', cap', cur', rfl, -, hgb', -⟩
    · cases e1
    · have e2 : g = g' := Option.some.inj (show some g = some g' from e1)
      subst e2
      rw [hgb] at hgb'
      injection hgb' with h1
      injection h1 with _ h2
      exact hne h2
theorem kp_row {w w' : World} {v : Value} (hg : w.grownBy w' v.ownBlock) : Kp (fun k => v.ownBlock = some k) w w' := ⟨hg.os, hg.tape, hg.output, hg.size, fun k hk hx => hg.block k hk (fun e => hx e.symm)⟩
/-- Another row has grown. -/
theorem rowG_turn {α : Type} {E : Elem α} {T : TypeId} {w w' : World} {base b3 n : Nat} {v v' r : Value} {xs : List Value} {L : List α} (h : RowG T (E.ban (fun k => v.ownBlock = some k)) w base r L) (hT : T ≠ 3) (hv : w.ownsRow b3 3 1 v n xs) (hg : w.grownBy w' v.ownBlock)
    (hv' : ∀ k, v'.ownBlock = some k → v.ownBlock = some k ∨ w.heap.size ≤ k) : RowG T (E.ban (fun k => v'.ownBlock = some k)) w' base r L := by
  obtain ⟨vs, ho, he⟩ := h
  refine ⟨vs, own_keptT ho hv hT hg, fun i hi => ?_⟩
  obtain ⟨x, hx, hE⟩ := he i hi
  refine ⟨x, hx, ?_⟩
  have hE0 : E.E (fun k => r.ownBlock = some k ∨ v.ownBlock = some k) w x L[i] := hE
  have h1 : E.E (fun k => (r.ownBlock = some k ∨ v.ownBlock = some k) ∨ v'.ownBlock = some k) w x L[i] := E.mono hE0 (fun k hk hy => by
    rcases hy with hy | hy
    · exact hy
    · rcases hv' k hy with h2 | h2
      · exact .inr h2
      · omega)
  have h2 := E.kp h1 ((kp_row hg).mono fun k hk => .inl (.inr hk))
  exact E.mono h2 (fun k _ hy => by
    rcases hy with hy | hy
    · exact .inl (.inl hy)
    · exact .inr hy)
theorem rowG_unban {α : Type} {E : Elem α} {Z : Nat → Prop} {T : TypeId} {w : World} {base : Nat} {r : Value} {L : List α} (h : RowG T (E.ban Z) w base r L) : RowG T E w base r L := by
  obtain ⟨vs, ho, he⟩ := h
  refine ⟨vs, ho, fun i hi => ?_⟩
  obtain ⟨x, hx, hE⟩ := he i hi
  exact ⟨x, hx, E.mono (show E.E (fun k => r.ownBlock = some k ∨ Z k) w x L[i] from hE) (fun k _ hy => .inl hy)⟩
theorem rowG_bss {Z : Nat → Prop} {T : TypeId} {w : World} {base : Nat} {r : Value} {L : List (List UInt8)} (h : RowG T (bytesE.ban Z) w base r L) : Bss w r L := by
  have h0 : slE bytesE (fun _ => False) w r L := (rowG_unban h).sl
  obtain ⟨p, cap, e, h1⟩ := h0
  refine ⟨p, cap, e, ?_⟩
  rcases h1 with h1 | ⟨g, o, e2, -, h1⟩
  · exact .inl h1
  · exact .inr ⟨g, o, e2, fun i hi => by obtain ⟨x, hx, hE⟩ := h1 i hi; exact ⟨x, hx, hE.1⟩⟩
theorem row_other {α : Type} {E : Elem α} {T : TypeId} {w w1 w' : World} {base b3 n : Nat} {v r : Value} {xs : List Value} {L : List α} (h : w1.ownsRow b3 3 1 v n xs) (hr : RowG T E w base r L) (hb : Below w.heap.size w w1) (hT : 3 ≠ T) (hg : w1.grownBy w' r.ownBlock) : w'.ownsRow b3 3 1 v n xs := by
  obtain ⟨vs, ho, -⟩ := hr
  exact own_keptT h (own_bel ho hb) hT hg
/-- The pages of a commit, and their records. -/
def Pgr.hPg (P : Pgr) : List Nat := if P.mv || P.rw then [0] else []
def Pgr.hRs (P : Pgr) : Rs := if P.mv || P.rw then [recB 0 (P.now.bytes P.pages)] else []
def Pgr.sRec (P : Pgr) (k : Nat) : List UInt8 := recB k ((P.po.st k).getD [])
def Pgr.stPg (P : Pgr) : List Nat := P.hPg ++ keysM P.po.st
def Pgr.stRs (P : Pgr) : Rs := P.hRs ++ (keysM P.po.st).map P.sRec
/-- What staged hands back. -/
def SgdR (P : Pgr) (w : World) (e : Ending) (w' : World) : Prop := ∃ pv rv, e = .returned (.tuple #[pv, rv]) ∧ w'.ownsRow w.heap.size 3 1 pv P.stPg.length (nums P.stPg) ∧ RowG 29 (bytesE.ban (fun k => k < w.heap.size)) w' w.heap.size rv P.stRs ∧ Below w.heap.size w w'
theorem bel_row {w w' : World} (hg : w.grownBy w' (Value.slice none 0 0).ownBlock) : Below w.heap.size w w' := ⟨hg.os, hg.tape, hg.output, hg.size, fun k hk => hg.block k hk (fun e => by cases e)⟩
/-- A first thing is put behind nothing. -/
theorem stepG_one {α : Type} {w : World} {ops : Array Oper} {o : Oper} {a : Act} {K : Act → World → Prop} {Q : Exit → Act → World → Prop} {EE : Prop} (T ST : TypeId) (E : Elem α) (hst : Tryz.prog.underlying ST = some (.slice T)) (i0 : TypeInfo) (hinf : Tryz.prog.info? T = some i0) (z : Value) (hz0 : i0.zero = some z) (hz1 : i0.size = 1) (hz2 : i0.bytes = 24) (hzc : z.cells.size = 1)
    (hgd : o.guard = none) (s x : Operand) (ho : o.op = .call { callee := .builtin .append, args := #[s, x], argTypes := #[ST, ST] }) (base g0 : Nat) (y : Value) (u : α) (hs : a.eval s = .slice none 0 0) (hx : a.eval x = .slice (some ⟨g0, 0, none⟩) 1 1)
    (hu : E.E (fun _ => False) w y u) (hy : w.cell? ⟨g0, 0, none⟩ = some y) (hbase : base ≤ w.heap.size)
    (h : ∀ g cap w', RowG T E w' base (.slice (some ⟨g, 0, none⟩) 1 cap) [u] → Below w.heap.size w w' → K (a.put o.dst (.slice (some ⟨g, 0, none⟩) 1 cap)) w') : if Region.wanted o (yielded ops a.tmps) = true then Oper.wp Tryz.prog o a w K Q else EE := by
  refine step_append_lies (w := w) hgd s x ST ho base T i0 z 1 24 hst hinf hz0 hz1 hz2 hzc (by decide) (.slice none 0 0) 0 [] hs (World.ownsRow_nil _ _ _ _) ⟨g0, 0, none⟩ 1 1 [y] hx rfl
    (fun j q hq => by
      cases j with
      | zero => simp at hq; subst hq; rw [Go.WideShapes.add_plain]; exact hy
      | succ j => simp at hq)
    (fun q hq => by simp at hq; subst hq; exact E.one hu) (by decide) (by unfold maxLen; omega) (by omega) hbase w.heap.size rfl fun g cap w' k1 k2 k3 k4 => h g cap w' ⟨[y], k1, fun i hi => ?_⟩ (bel_row k2)
  obtain rfl : i = 0 := by simpa using hi
  refine ⟨y, rfl, ?_⟩
  have hg : g = w.heap.size := by
    rcases k3 with k3 | k3
    · cases k3
    · exact k3
  have h1 : E.E (fun k => k = w.heap.size) w y u := E.mono hu (fun k hk hx => by omega)
  have h2 := E.kp h1 (Kp.bel (bel_row k2))
  exact E.mono h2 (fun k _ hx => by
    have h9 : g = k := Option.some.inj (show some g = some k from hx)
    omega)
set_option maxHeartbeats 8000000 in
set_option maxRecDepth 100000 in
theorem stagedN (w : World) (d l p ms mk ml base : Nat) (tv : Value) (P : Pgr) (h : PAt w d l p ms mk ml base tv P) (hm : (P.mv || P.rw) = false) :
    Calls Tryz.prog 85 #[.pointer (some ⟨p, 0, none⟩)] w (SgdR P w) := by
  have m1 := h.mv
  have m2 := h.rw
  have HA := Lib.hid h
  have hlt := h.po.lt
  obtain ⟨L, hL⟩ : ∃ L, keysM P.po.st = L := ⟨_, rfl⟩
  have HLm : Hid (∀ x, x ∈ L → x < 2048 ∧ ∃ b, P.po.st x = some b ∧ b.length ≤ 448) := fun x hx => by
    rw [← hL] at hx
    have hm := mem_keysM.1 hx
    obtain ⟨b, hb⟩ := Option.isSome_iff_exists.1 hm.2
    exact ⟨hm.1, b, hb, HA.out.po.ls _ b hb⟩
  have HLl : Hid (L.length ≤ 2048) := by rw [← hL]; exact keysM_len P.po.st
  have hH : P.hPg = [] := by unfold Pgr.hPg; rw [hm]; rfl
  have hR : P.hRs = [] := by unfold Pgr.hRs; rw [hm]; rfl
  have hmv : P.mv = false := by cases e : P.mv <;> simp [e] at hm ⊢
  have hrw : P.rw = false := by cases e : P.rw <;> simp [e, hmv] at hm ⊢
  rw [hmv] at m1
  rw [hrw] at m2
  have HBw := Lib.hid (Below.refl w.heap.size w)
  clear h hm hmv hrw
  go_enter Tryz.func85, Tryz.ntmps85
  have HPS := Lib.hid (HA.out.on HBw.out)
  have c131 := stagedPages131 w p 526 ms mk base tv P.po HPS.out.po
  rw [hL] at c131
  go_wp2_with (first | (go_at_call 131; refine c131.mono ?_; rintro e w1 ⟨lv, rfl, hrow, hB1⟩; obtain ⟨lq, lcap, rfl, hLc⟩ := row_at hrow; have HB1 := Lib.hid hB1; have HLR := Lib.hid hrow; have HLB := Lib.hid (fun k (e : (Value.slice lq L.length lcap).ownBlock = some k) => (World.ownsRow.lt hrow k e).2); clear hB1 hLc hrow))
  have hz1 := HB1.out.size
  clear c131
  go_loopg [4, 5, 39] L.length (fun gk s4 s5 s39 wr => ∃ i : Nat, i + gk = L.length ∧ s39 = .int .i64 i ∧ Hid (wr.ownsRow w.heap.size 3 1 s4 (([] : List Nat) ++ L.take i).length (nums (([] : List Nat) ++ L.take i))) ∧ Hid (RowG 29 ((bytesE.ban (fun k => k < w.heap.size)).ban (fun k => s4.ownBlock = some k)) wr w.heap.size s5 (([] : Rs) ++ (L.take i).map P.sRec)) ∧ Hid (wr.ownsRow w.heap.size 3 1 (.slice lq L.length lcap) L.length (nums L)) ∧ Hid (∀ k, s4.ownBlock = some k → k < w.heap.size ∨ w1.heap.size ≤ k) ∧ Hid (w1.heap.size ≤ wr.heap.size) ∧ Hid (Below w.heap.size w wr))
  case atStart =>
    exact ⟨0, by omega, rfl, (show w1.ownsRow w.heap.size 3 1 (.slice none 0 0) (([] : List Nat) ++ L.take 0).length (nums (([] : List Nat) ++ L.take 0)) from World.ownsRow_nil _ _ _ _), (show RowG 29 _ w1 w.heap.size (.slice none 0 0) (([] : Rs) ++ (L.take 0).map P.sRec) from rowG_nil _ _ _ _), HLR.out, (fun k e => by cases e), Nat.le_refl _, HB1.out⟩
  case round =>
    obtain ⟨i, hgi, rfl, h4, h5, hl, hna, hsz, hb⟩ := hrel
    cases gk with
    | zero =>
      obtain rfl : i = L.length := by omega
      have H4 := h4.out
      have H5 := h5.out
      rw [List.take_length] at H4 H5
      have K4 := Lib.hid H4
      have K5 := Lib.hid (rowG_unban H5)
      clear H4 H5 h4 h5
      go_wp2
      go_ret2
      exact ⟨_, _, rfl, by unfold Pgr.stPg; rw [hH, hL]; exact K4.out, by unfold Pgr.stRs; rw [hR, hL]; exact K5.out, hb.out⟩
    | succ k =>
      have hi : i < L.length := by omega
      have hiz : (i : Int) < (L.length : Int) := by omega
      have hi0 : (0 : Int) ≤ (i : Int) := by omega
      obtain ⟨lq', lcap', elq, hLc⟩ := row_at hl.out
      injection elq with e1 e2 e3
      subst e1 e3
      obtain ⟨rb, rfl, hrb1, hrb2, hrc⟩ := hLc.resolve_left (fun e => by rw [e] at hi; cases hi)
      obtain ⟨pg, hpg⟩ : ∃ pg, L[i] = pg := ⟨_, rfl⟩
      obtain ⟨hpl, b, hpb, hbl⟩ := HLm.out pg (by rw [← hpg]; exact List.getElem_mem hi)
      have hcel : wr.cell? ⟨rb, i, none⟩ = some (.int .i64 (pg : Int)) := by have h1 := hrc i hi; rwa [hpg] at h1
      have hlpr : wr.cell? ⟨rb, i, none⟩ = some (.int .i64 (pg : Int)) := hcel
      have c122 := fun (u : World) => sheetBytes122 u b hbl
      have hpk : pg < 2048 := hpl
      have htk : ([] : List Nat) ++ L.take (i + 1) = (([] : List Nat) ++ L.take i) ++ [pg] := by rw [List.take_add_one, List.getElem?_eq_getElem hi, hpg]; simp
      have hmp : ([] : Rs) ++ (L.take (i + 1)).map P.sRec = (([] : Rs) ++ (L.take i).map P.sRec) ++ [recB pg b] := by rw [List.take_add_one, List.getElem?_eq_getElem hi, hpg]; simp [Pgr.sRec, hpb]
      obtain ⟨i0, hi', hz0, hz1', hz2⟩ := info_parts info43
      have HTK := Lib.hid (And.intro htk hmp)
      have hlt4 := fun k (e : u4.ownBlock = some k) => (World.ownsRow.lt h4.out k e).2
      have hLl : L.length ≤ 2048 := HLl.out
      have hH1 : (([] : List Nat)).length ≤ 1 := by simp
      have hR1 : (([] : Rs)).length ≤ 1 := by simp
      clear htk hmp e2 hLc hrc
      go_wp2_with (first
        | (at_builtin
           refine wpList_appI rfl _ _ rfl w.heap.size wr.heap.size _ (([] : List Nat) ++ L.take i) pg rfl rfl (own_bel h4.out (bel1 wr _)) (cell_new _ _ _) (by have := hb.out.size; simp; omega) (by rw [List.length_append, List.length_take]; omega) ?_
           intro v6 w6 hr6 hg6 hv6 hb6 hs6
           obtain ⟨M6, hM6⟩ : ∃ M, ((([] : List Nat) ++ L.take i) ++ [pg]).length = M := ⟨_, rfl⟩
           rw [hM6] at hr6 hs6
           have HM6 := Lib.hid hM6
           have HV6 := Lib.hid hr6
           have HB6 := Lib.hid ((bel_then hb.out (bel1 wr _)).trans hb6)
           have HG6 := Lib.hid (rowG_turn (h5.out.on (bel1 wr _)) (by decide) (own_bel h4.out (bel1 wr _)) hg6 (v' := v6) hv6)
           have HRL6 := Lib.hid (fun k (e : u5.ownBlock = some k) => show k < w6.heap.size from by have h9 := HG6.out; obtain ⟨vs, ho, -⟩ := h9; exact (World.ownsRow.lt ho k e).2)
           have HL6 := Lib.hid (World.ownsRow.kept (own_bel hl.out (bel1 wr _)) hg6 (.inr (fun e => by have hrb9 := HLB.out rb rfl; rcases hna.out rb e.symm with h | h <;> omega)))
           have HNA6 := Lib.hid (show ∀ k, v6.ownBlock = some k → k < w.heap.size ∨ w1.heap.size ≤ k from fun k e => by rcases hv6 k e with h | h; exact hna.out k h; have := hsz.out; simp at h; omega)
           have HSZ6 := Lib.hid (show w1.heap.size ≤ w6.heap.size from by have := hsz.out; have := hg6.size; simp at this; omega)
           have P6 := (HA.out.on HB6.out).po
           have k6 := P6.c1
           have hlk := look64 P6.s hpl false
           rw [hpb] at hlk
           have hlk' : (Instr.lookup 64 (.map (some ms)) (.int .i64 (pg : Int)) false).run Tryz.prog w6 = .ok (.agg (shc b).toArray) w6 := hlk
           obtain ⟨g6, c6, rfl⟩ := hs6
           clear hr6 hg6 hv6 hb6 hlk P6 hM6)
        | (go_at_call 122; refine (c122 _).mono ?_; rintro e w7 ⟨vb, rfl, hvb, hb7⟩
           have c130 := recordOf130 w7 pg (by omega) vb b hvb.bs (by omega)
           have HB7 := Lib.hid hb7
           obtain ⟨vp, vc, rfl, -⟩ := hvb.bs
           clear hvb hb7)
        | (go_at_call 130; refine c130.mono ?_; rintro e w8 ⟨y, rfl, hy, hb8⟩
           have HB8 := Lib.hid (bel_then HB7.out hb8)
           have HY8 := Lib.hid hy
           have HG8 := Lib.hid (HG6.out.on HB8.out)
           have HV8 := Lib.hid (own_bel HV6.out HB8.out)
           have HL8 := Lib.hid (own_bel HL6.out HB8.out)
           have hz7 := HB7.out.size
           have hz8 := hb8.size
           obtain ⟨yp, yc, rfl, -⟩ := hy.bs
           have HU8 : Hid (((bytesE.ban (fun k => k < w.heap.size)).ban (fun k => (Value.slice (some ⟨g6, 0, none⟩) M6 c6).ownBlock = some k)).E (fun k => u5.ownBlock = some k) w8 (.slice yp (recB pg b).length yc) (recB pg b)) :=
             (show BsY (fun k => (u5.ownBlock = some k ∨ (Value.slice (some ⟨g6, 0, none⟩) M6 c6).ownBlock = some k) ∨ k < w.heap.size) w8 (.slice yp (recB pg b).length yc) (recB pg b) from bsY_fresh hy.bs hy.fresh (fun k hk => by
               rcases hk with (hk | hk) | hk
               · have := HRL6.out k hk; omega
               · have := (World.ownsRow.lt HV6.out k hk).2; omega
               · have := HB6.out.size; omega))
           clear hy hb8 c130)
        | (at_builtin
           refine rowG_app 29 127 ((bytesE.ban (fun k => k < w.heap.size)).ban (fun k => (Value.slice (some ⟨g6, 0, none⟩) M6 c6).ownBlock = some k)) Tryz.underlying127 i0 hi' (.slice none 0 0) hz0 hz1' hz2 rfl rfl _ _ rfl w.heap.size w8.heap.size _ (.slice yp (recB pg b).length yc) (([] : Rs) ++ (L.take i).map P.sRec) (recB pg b) rfl rfl (HG8.out.on (bel1 _ _)) (Elem.kp _ HU8.out (Kp.bel (bel1 _ _))) (cell_new _ _ _) (by have := HB6.out.size; simp; omega) (by rw [List.length_append, List.length_map, List.length_take]; omega) ?_
           intro g9 c9 w9 hR9 hg9 hb9
           obtain ⟨M9, hM9⟩ : ∃ M, (([] : Rs) ++ (L.take i).map P.sRec).length + 1 = M := ⟨_, rfl⟩
           rw [hM9] at hR9 ⊢
           have HM9 := Lib.hid hM9
           have HR9 := Lib.hid hR9
           have HB9 := Lib.hid ((bel_then (bel_then HB6.out HB8.out) (bel1 w8 (.cells #[.slice yp (recB pg b).length yc] 29))).trans hb9)
           have HV9 := Lib.hid (row_other (own_bel HV8.out (bel1 w8 (.cells #[.slice yp (recB pg b).length yc] 29))) HG8.out (bel1 w8 (.cells #[.slice yp (recB pg b).length yc] 29)) (by decide) hg9)
           have HL9 := Lib.hid (row_other (own_bel HL8.out (bel1 w8 (.cells #[.slice yp (recB pg b).length yc] 29))) HG8.out (bel1 w8 (.cells #[.slice yp (recB pg b).length yc] 29)) (by decide) hg9)
           have hz9 := hg9.size
           clear hR9 hb9 hg9 hM9))
      go_roundg k
      case measure => omega
      case rel => exact ⟨i + 1, by omega, by first | rfl | simp, (by have h9 := HV9.out; rw [HTK.out.1, HM6.out]; exact h9), (by have h9 := HR9.out; rw [HTK.out.2]; exact h9), HL9.out, HNA6.out, (show w1.heap.size ≤ w9.heap.size from by have := HSZ6.out; have := HB8.out.size; simp at hz9; omega), HB9.out⟩
set_option maxHeartbeats 8000000 in
set_option maxRecDepth 100000 in
theorem stagedM (w : World) (d l p ms mk ml base : Nat) (tv : Value) (P : Pgr) (h : PAt w d l p ms mk ml base tv P) (hm : (P.mv || P.rw) = true) (hbn : (P.now.bytes P.pages).length ≤ 448) (hmv : P.mv = true) :
    Calls Tryz.prog 85 #[.pointer (some ⟨p, 0, none⟩)] w (SgdR P w) := by
  have m1 := h.mv
  have m2 := h.rw
  have HA := Lib.hid h
  have hlt := h.po.lt
  obtain ⟨L, hL⟩ : ∃ L, keysM P.po.st = L := ⟨_, rfl⟩
  have HLm : Hid (∀ x, x ∈ L → x < 2048 ∧ ∃ b, P.po.st x = some b ∧ b.length ≤ 448) := fun x hx => by
    rw [← hL] at hx
    have hm := mem_keysM.1 hx
    obtain ⟨b, hb⟩ := Option.isSome_iff_exists.1 hm.2
    exact ⟨hm.1, b, hb, HA.out.po.ls _ b hb⟩
  have HLl : Hid (L.length ≤ 2048) := by rw [← hL]; exact keysM_len P.po.st
  have hH : P.hPg = [0] := by unfold Pgr.hPg; rw [hm]; rfl
  have hR : P.hRs = [recB 0 (P.now.bytes P.pages)] := by unfold Pgr.hRs; rw [hm]; rfl
  have HBL := Lib.hid hbn
  rw [hmv] at m1
  clear h hm hmv hbn
  go_enter Tryz.func85, Tryz.ntmps85
  have HB0 := Lib.hid (Below.refl w.heap.size w)
  go_wp2_with (first
    | (at_builtin
       refine wpList_appI rfl _ _ rfl w.heap.size w.heap.size _ ([] : List Nat) 0 rfl rfl (World.ownsRow_nil _ _ _ _) (cell_new _ _ _) (by simp) (by simp) ?_
       intro v6 w6 hr6 hg6 hv6 hb6 hs6
       have HV6 := Lib.hid hr6
       have HB6 := Lib.hid ((bel1 w (.cells #[.int .i64 0] 3)).trans hb6)
       obtain ⟨g6, c6, rfl⟩ := hs6
       clear hr6 hg6 hv6 hb6))
  have PA6 := HA.out.on HB6.out
  have k3 : w6.drew.cell? ⟨p, 3, none⟩ = some (.int .i64 P.pages) := PA6.h3
  have HBA : Hid (BaAt w6.drew p 264 P.now) := (PA6.on ((Below.refl _ _).drew)).now
  have hpg := PA6.pg
  have hrec : (recB 0 (P.now.bytes P.pages)).length ≤ 4096 ∨ True := .inr trivial
  clear PA6
  have HS3 : Hid (∀ u, Below w6.heap.size w6 u → u.cell? ⟨p, 3, none⟩ = some (.int .i64 P.pages)) := fun u hu => (HA.out.on (bel_then HB6.out hu)).h3
  obtain ⟨i0, hi', hz0, hz1', hz2⟩ := info_parts info43
  have hbl := HBL.out
  obtain ⟨bb, hbb⟩ : ∃ x, P.now.bytes P.pages = x := ⟨_, rfl⟩
  have c121 : ∀ u, Below w6.heap.size w6.drew u → Calls Tryz.prog 121 #[.pointer (some ⟨p, 264, none⟩), .int .i64 P.pages] u fun e w' => ∃ v, e = .returned v ∧ Bts w' u.heap.size v bb ∧ Below u.heap.size u w' := fun u hu => by rw [← hbb]; exact bytes121 u p 264 P.now (HBA.out.on hu) P.pages (by omega) (by omega)
  rw [hbb] at hR hbl
  go_cut [5] from 21 to 33 (fun s5 wx => Hid (RowG 29 ((bytesE.ban (fun k => k < w.heap.size)).ban (fun k => (Value.slice (some ⟨g6, 0, none⟩) 1 c6).ownBlock = some k)) wx w.heap.size s5 [recB 0 bb]) ∧ Hid (Below w6.heap.size w6 wx) ∧ ∃ g c, s5 = .slice (some ⟨g, 0, none⟩) 1 c)
  case first =>
    go_region_held3 (fun u => u.cell? ⟨p, 3, none⟩ = some (.int .i64 P.pages)) (first | with_reducible exact HS3.out _ (Below.refl _ _).drew | with_reducible exact HS3.out _ HB7.out | with_reducible exact HS3.out _ HB8.out | with_reducible exact HS3.out _ (bel_then HB8.out (bel1 _ _)) | with_reducible exact HS3.out _ HB9.out) (first
      | (go_at_call 121; refine (c121 _ (Below.refl _ _)).mono ?_; rintro e w7 ⟨vb, rfl, hvb, hb7⟩
         have c130 := recordOf130 w7 0 (by omega) vb bb hvb.bs (by omega)
         have HB7 := Lib.hid (show Below w6.heap.size w6 w7 from ((Below.refl _ _).drew).trans hb7)
         obtain ⟨vp, vc, rfl, -⟩ := hvb.bs
         clear hvb hb7)
      | (go_at_call 130; refine c130.mono ?_; rintro e w8 ⟨y, rfl, hy, hb8⟩
         have HB8 := Lib.hid (bel_then HB7.out hb8)
         have hz7 := HB7.out.size
         obtain ⟨yp, yc, rfl, -⟩ := hy.bs
         have HU8 : Hid (((bytesE.ban (fun k => k < w.heap.size)).ban (fun k => (Value.slice (some ⟨g6, 0, none⟩) 1 c6).ownBlock = some k)).E (fun _ => False) w8 (.slice yp (recB 0 bb).length yc) (recB 0 bb)) :=
           (show BsY (fun k => (False ∨ (Value.slice (some ⟨g6, 0, none⟩) 1 c6).ownBlock = some k) ∨ k < w.heap.size) w8 (.slice yp (recB 0 bb).length yc) (recB 0 bb) from bsY_fresh hy.bs hy.fresh (fun k hk => by
             rcases hk with (hk | hk) | hk
             · cases hk
             · have := (World.ownsRow.lt HV6.out k hk).2; omega
             · have := HB6.out.size; omega))
         clear hy hb8 c130)
      | (refine stepG_one 29 127 ((bytesE.ban (fun k => k < w.heap.size)).ban (fun k => (Value.slice (some ⟨g6, 0, none⟩) 1 c6).ownBlock = some k)) Tryz.underlying127 i0 hi' (.slice none 0 0) hz0 hz1' hz2 rfl (by rfl) (.tmp 21) (.tmp 32) (by rfl) w.heap.size w8.heap.size (.slice yp (recB 0 bb).length yc) (recB 0 bb) (by rfl) (by rfl) (Elem.kp _ HU8.out (Kp.bel (bel1 _ _))) (cell_new _ _ _) (by have := HB6.out.size; have := HB8.out.size; simp; omega) ?_
         intro g9 c9 w9 hR9 hb9
         have HR9 := Lib.hid hR9
         have HB9 := Lib.hid (show Below w6.heap.size w6 w9 from bel_then (bel_then HB8.out (bel1 w8 (.cells #[.slice yp (recB 0 bb).length yc] 29))) hb9)
         clear hR9 hb9))
    all_goals
      go_wp2
      go_meet
      case rel => exact ⟨HR9.out, HB9.out, _, _, rfl⟩
  case rest =>
    obtain ⟨w5, rfl⟩ : ∃ v, v = wc := ⟨_, rfl⟩
    obtain ⟨HR5, hB5, g5, c5, rfl⟩ := hcut
    have HB5 := Lib.hid (bel_then HB6.out hB5.out)
    have HV5 := Lib.hid (own_bel HV6.out hB5.out)
    have hz56 := hB5.out.size
    have hv6lt := fun k (e : (Value.slice (some ⟨g6, 0, none⟩) 1 c6).ownBlock = some k) => (World.ownsRow.lt HV5.out k e).2
    clear k3 HBA c121 hi' hz0 hz1' hz2
    have HPS := Lib.hid (HA.out.on HB5.out)
    have c131 := stagedPages131 w5 p 526 ms mk base tv P.po HPS.out.po
    rw [hL] at c131
    go_wp2_with (first | (go_at_call 131; refine c131.mono ?_; rintro e w1 ⟨lv, rfl, hrow, hB1⟩; obtain ⟨lq, lcap, rfl, hLc⟩ := row_at hrow; have HB1 := Lib.hid hB1; have HLR := Lib.hid hrow; have HLB := Lib.hid (fun k (e : (Value.slice lq L.length lcap).ownBlock = some k) => (World.ownsRow.lt hrow k e).2); clear hB1 hLc hrow))
    have hz1 := HB1.out.size
    clear c131
    go_loopg [4, 5, 39] L.length (fun gk s4 s5 s39 wr => ∃ i : Nat, i + gk = L.length ∧ s39 = .int .i64 i ∧ Hid (wr.ownsRow w.heap.size 3 1 s4 ([0] ++ L.take i).length (nums ([0] ++ L.take i))) ∧ Hid (RowG 29 ((bytesE.ban (fun k => k < w.heap.size)).ban (fun k => s4.ownBlock = some k)) wr w.heap.size s5 ([recB 0 bb] ++ (L.take i).map P.sRec)) ∧ Hid (wr.ownsRow w5.heap.size 3 1 (.slice lq L.length lcap) L.length (nums L)) ∧ Hid (∀ k, s4.ownBlock = some k → k < w5.heap.size ∨ w1.heap.size ≤ k) ∧ Hid (w1.heap.size ≤ wr.heap.size) ∧ Hid (Below w.heap.size w wr))
    case atStart =>
      exact ⟨0, by omega, rfl, (by have := own_bel HV5.out HB1.out; exact this), (by have := HR5.out.on HB1.out; exact this), HLR.out, (fun k e => .inl (hv6lt k e)), Nat.le_refl _, bel_then HB5.out HB1.out⟩
    case round =>
      obtain ⟨i, hgi, rfl, h4, h5, hl, hna, hsz, hb⟩ := hrel
      cases gk with
      | zero =>
        obtain rfl : i = L.length := by omega
        have H4 := h4.out
        have H5 := h5.out
        rw [List.take_length] at H4 H5
        have K4 := Lib.hid H4
        have K5 := Lib.hid (rowG_unban H5)
        clear H4 H5 h4 h5
        go_wp2
        go_ret2
        exact ⟨_, _, rfl, by unfold Pgr.stPg; rw [hH, hL]; exact K4.out, by unfold Pgr.stRs; rw [hR, hL]; exact K5.out, hb.out⟩
      | succ k =>
        have hi : i < L.length := by omega
        have hiz : (i : Int) < (L.length : Int) := by omega
        have hi0 : (0 : Int) ≤ (i : Int) := by omega
        obtain ⟨lq', lcap', elq, hLc⟩ := row_at hl.out
        injection elq with e1 e2 e3
        subst e1 e3
        obtain ⟨rb, rfl, hrb1, hrb2, hrc⟩ := hLc.resolve_left (fun e => by rw [e] at hi; cases hi)
        obtain ⟨pg, hpg⟩ : ∃ pg, L[i] = pg := ⟨_, rfl⟩
        obtain ⟨hpl, b, hpb, hbl⟩ := HLm.out pg (by rw [← hpg]; exact List.getElem_mem hi)
        have hcel : wr.cell? ⟨rb, i, none⟩ = some (.int .i64 (pg : Int)) := by have h1 := hrc i hi; rwa [hpg] at h1
        have hlpr : wr.cell? ⟨rb, i, none⟩ = some (.int .i64 (pg : Int)) := hcel
        have c122 := fun (u : World) => sheetBytes122 u b hbl
        have hpk : pg < 2048 := hpl
        have htk : [0] ++ L.take (i + 1) = ([0] ++ L.take i) ++ [pg] := by rw [List.take_add_one, List.getElem?_eq_getElem hi, hpg]; simp
        have hmp : [recB 0 bb] ++ (L.take (i + 1)).map P.sRec = ([recB 0 bb] ++ (L.take i).map P.sRec) ++ [recB pg b] := by rw [List.take_add_one, List.getElem?_eq_getElem hi, hpg]; simp [Pgr.sRec, hpb]
        obtain ⟨i0, hi', hz0, hz1', hz2⟩ := info_parts info43
        have HTK := Lib.hid (And.intro htk hmp)
        have hlt4 := fun k (e : u4.ownBlock = some k) => (World.ownsRow.lt h4.out k e).2
        have hLl : L.length ≤ 2048 := HLl.out
        have hH1 : ([0]).length ≤ 1 := by simp
        have hR1 : ([recB 0 bb]).length ≤ 1 := by simp
        clear htk hmp e2 hLc hrc
        go_wp2_with (first
          | (at_builtin
             refine wpList_appI rfl _ _ rfl w.heap.size wr.heap.size _ ([0] ++ L.take i) pg rfl rfl (own_bel h4.out (bel1 wr _)) (cell_new _ _ _) (by have := hb.out.size; simp; omega) (by rw [List.length_append, List.length_take]; omega) ?_
             intro v6 w6 hr6 hg6 hv6 hb6 hs6
             obtain ⟨M6, hM6⟩ : ∃ M, (([0] ++ L.take i) ++ [pg]).length = M := ⟨_, rfl⟩
             rw [hM6] at hr6 hs6
             have HM6 := Lib.hid hM6
             have HV6 := Lib.hid hr6
             have HB6 := Lib.hid ((bel_then hb.out (bel1 wr _)).trans hb6)
             have HG6 := Lib.hid (rowG_turn (h5.out.on (bel1 wr _)) (by decide) (own_bel h4.out (bel1 wr _)) hg6 (v' := v6) hv6)
             have HRL6 := Lib.hid (fun k (e : u5.ownBlock = some k) => show k < w6.heap.size from by have h9 := HG6.out; obtain ⟨vs, ho, -⟩ := h9; exact (World.ownsRow.lt ho k e).2)
             have HL6 := Lib.hid (World.ownsRow.kept (own_bel hl.out (bel1 wr _)) hg6 (.inr (fun e => by have hrb9 := HLB.out rb rfl; rcases hna.out rb e.symm with h | h <;> omega)))
             have HNA6 := Lib.hid (show ∀ k, v6.ownBlock = some k → k < w5.heap.size ∨ w1.heap.size ≤ k from fun k e => by rcases hv6 k e with h | h; exact hna.out k h; have := hsz.out; simp at h; omega)
             have HSZ6 := Lib.hid (show w1.heap.size ≤ w6.heap.size from by have := hsz.out; have := hg6.size; simp at this; omega)
             have P6 := (HA.out.on HB6.out).po
             have k6 := P6.c1
             have hlk := look64 P6.s hpl false
             rw [hpb] at hlk
             have hlk' : (Instr.lookup 64 (.map (some ms)) (.int .i64 (pg : Int)) false).run Tryz.prog w6 = .ok (.agg (shc b).toArray) w6 := hlk
             obtain ⟨g6, c6, rfl⟩ := hs6
             clear hr6 hg6 hv6 hb6 hlk P6 hM6)
          | (go_at_call 122; refine (c122 _).mono ?_; rintro e w7 ⟨vb, rfl, hvb, hb7⟩
             have c130 := recordOf130 w7 pg (by omega) vb b hvb.bs (by omega)
             have HB7 := Lib.hid hb7
             obtain ⟨vp, vc, rfl, -⟩ := hvb.bs
             clear hvb hb7)
          | (go_at_call 130; refine c130.mono ?_; rintro e w8 ⟨y, rfl, hy, hb8⟩
             have HB8 := Lib.hid (bel_then HB7.out hb8)
             have HY8 := Lib.hid hy
             have HG8 := Lib.hid (HG6.out.on HB8.out)
             have HV8 := Lib.hid (own_bel HV6.out HB8.out)
             have HL8 := Lib.hid (own_bel HL6.out HB8.out)
             have hz7 := HB7.out.size
             have hz8 := hb8.size
             obtain ⟨yp, yc, rfl, -⟩ := hy.bs
             have HU8 : Hid (((bytesE.ban (fun k => k < w.heap.size)).ban (fun k => (Value.slice (some ⟨g6, 0, none⟩) M6 c6).ownBlock = some k)).E (fun k => u5.ownBlock = some k) w8 (.slice yp (recB pg b).length yc) (recB pg b)) :=
               (show BsY (fun k => (u5.ownBlock = some k ∨ (Value.slice (some ⟨g6, 0, none⟩) M6 c6).ownBlock = some k) ∨ k < w.heap.size) w8 (.slice yp (recB pg b).length yc) (recB pg b) from bsY_fresh hy.bs hy.fresh (fun k hk => by
                 rcases hk with (hk | hk) | hk
                 · have := HRL6.out k hk; omega
                 · have := (World.ownsRow.lt HV6.out k hk).2; omega
                 · have := HB6.out.size; omega))
             clear hy hb8 c130)
          | (at_builtin
             refine rowG_app 29 127 ((bytesE.ban (fun k => k < w.heap.size)).ban (fun k => (Value.slice (some ⟨g6, 0, none⟩) M6 c6).ownBlock = some k)) Tryz.underlying127 i0 hi' (.slice none 0 0) hz0 hz1' hz2 rfl rfl _ _ rfl w.heap.size w8.heap.size _ (.slice yp (recB pg b).length yc) ([recB 0 bb] ++ (L.take i).map P.sRec) (recB pg b) rfl rfl (HG8.out.on (bel1 _ _)) (Elem.kp _ HU8.out (Kp.bel (bel1 _ _))) (cell_new _ _ _) (by have := HB6.out.size; simp; omega) (by rw [List.length_append, List.length_map, List.length_take]; omega) ?_
             intro g9 c9 w9 hR9 hg9 hb9
             obtain ⟨M9, hM9⟩ : ∃ M, ([recB 0 bb] ++ (L.take i).map P.sRec).length + 1 = M := ⟨_, rfl⟩
             rw [hM9] at hR9 ⊢
             have HM9 := Lib.hid hM9
             have HR9 := Lib.hid hR9
             have HB9 := Lib.hid ((bel_then (bel_then HB6.out HB8.out) (bel1 w8 (.cells #[.slice yp (recB pg b).length yc] 29))).trans hb9)
             have HV9 := Lib.hid (row_other (own_bel HV8.out (bel1 w8 (.cells #[.slice yp (recB pg b).length yc] 29))) HG8.out (bel1 w8 (.cells #[.slice yp (recB pg b).length yc] 29)) (by decide) hg9)
             have HL9 := Lib.hid (row_other (own_bel HL8.out (bel1 w8 (.cells #[.slice yp (recB pg b).length yc] 29))) HG8.out (bel1 w8 (.cells #[.slice yp (recB pg b).length yc] 29)) (by decide) hg9)
             have hz9 := hg9.size
             clear hR9 hb9 hg9 hM9))
        go_roundg k
        case measure => omega
        case rel => exact ⟨i + 1, by omega, by first | rfl | simp, (by have h9 := HV9.out; rw [HTK.out.1, HM6.out]; exact h9), (by have h9 := HR9.out; rw [HTK.out.2]; exact h9), HL9.out, HNA6.out, (show w1.heap.size ≤ w9.heap.size from by have := HSZ6.out; have := HB8.out.size; simp at hz9; omega), HB9.out⟩
set_option maxHeartbeats 8000000 in
set_option maxRecDepth 100000 in
theorem stagedW (w : World) (d l p ms mk ml base : Nat) (tv : Value) (P : Pgr) (h : PAt w d l p ms mk ml base tv P) (hm : (P.mv || P.rw) = true) (hbn : (P.now.bytes P.pages).length ≤ 448) (hmv : P.mv = false) :
    Calls Tryz.prog 85 #[.pointer (some ⟨p, 0, none⟩)] w (SgdR P w) := by
  have m1 := h.mv
  have m2 := h.rw
  have HA := Lib.hid h
  have hlt := h.po.lt
  obtain ⟨L, hL⟩ : ∃ L, keysM P.po.st = L := ⟨_, rfl⟩
  have HLm : Hid (∀ x, x ∈ L → x < 2048 ∧ ∃ b, P.po.st x = some b ∧ b.length ≤ 448) := fun x hx => by
    rw [← hL] at hx
    have hm := mem_keysM.1 hx
    obtain ⟨b, hb⟩ := Option.isSome_iff_exists.1 hm.2
    exact ⟨hm.1, b, hb, HA.out.po.ls _ b hb⟩
  have HLl : Hid (L.length ≤ 2048) := by rw [← hL]; exact keysM_len P.po.st
  have hH : P.hPg = [0] := by unfold Pgr.hPg; rw [hm]; rfl
  have hR : P.hRs = [recB 0 (P.now.bytes P.pages)] := by unfold Pgr.hRs; rw [hm]; rfl
  have HBL := Lib.hid hbn
  have hrw : P.rw = true := by cases e : P.rw <;> simp [e, hmv] at hm ⊢
  rw [hmv] at m1
  rw [hrw] at m2
  clear hrw
  clear h hm hmv hbn
  go_enter Tryz.func85, Tryz.ntmps85
  have HB0 := Lib.hid (Below.refl w.heap.size w)
  go_wp2_with (first
    | (at_builtin
       refine wpList_appI rfl _ _ rfl w.heap.size w.heap.size _ ([] : List Nat) 0 rfl rfl (World.ownsRow_nil _ _ _ _) (cell_new _ _ _) (by simp) (by simp) ?_
       intro v6 w6 hr6 hg6 hv6 hb6 hs6
       have HV6 := Lib.hid hr6
       have HB6 := Lib.hid ((bel1 w (.cells #[.int .i64 0] 3)).trans hb6)
       obtain ⟨g6, c6, rfl⟩ := hs6
       clear hr6 hg6 hv6 hb6))
  have PA6 := HA.out.on HB6.out
  have k3 : w6.drew.cell? ⟨p, 3, none⟩ = some (.int .i64 P.pages) := PA6.h3
  have HBA : Hid (BaAt w6.drew p 264 P.now) := (PA6.on ((Below.refl _ _).drew)).now
  have hpg := PA6.pg
  have hrec : (recB 0 (P.now.bytes P.pages)).length ≤ 4096 ∨ True := .inr trivial
  clear PA6
  have HS3 : Hid (∀ u, Below w6.heap.size w6 u → u.cell? ⟨p, 3, none⟩ = some (.int .i64 P.pages)) := fun u hu => (HA.out.on (bel_then HB6.out hu)).h3
  obtain ⟨i0, hi', hz0, hz1', hz2⟩ := info_parts info43
  have hbl := HBL.out
  obtain ⟨bb, hbb⟩ : ∃ x, P.now.bytes P.pages = x := ⟨_, rfl⟩
  have c121 : ∀ u, Below w6.heap.size w6.drew u → Calls Tryz.prog 121 #[.pointer (some ⟨p, 264, none⟩), .int .i64 P.pages] u fun e w' => ∃ v, e = .returned v ∧ Bts w' u.heap.size v bb ∧ Below u.heap.size u w' := fun u hu => by rw [← hbb]; exact bytes121 u p 264 P.now (HBA.out.on hu) P.pages (by omega) (by omega)
  rw [hbb] at hR hbl
  go_cut [5] from 21 to 33 (fun s5 wx => Hid (RowG 29 ((bytesE.ban (fun k => k < w.heap.size)).ban (fun k => (Value.slice (some ⟨g6, 0, none⟩) 1 c6).ownBlock = some k)) wx w.heap.size s5 [recB 0 bb]) ∧ Hid (Below w6.heap.size w6 wx) ∧ ∃ g c, s5 = .slice (some ⟨g, 0, none⟩) 1 c)
  case first =>
    go_region_held3 (fun u => u.cell? ⟨p, 3, none⟩ = some (.int .i64 P.pages)) (first | with_reducible exact HS3.out _ (Below.refl _ _).drew | with_reducible exact HS3.out _ HB7.out | with_reducible exact HS3.out _ HB8.out | with_reducible exact HS3.out _ (bel_then HB8.out (bel1 _ _)) | with_reducible exact HS3.out _ HB9.out) (first
      | (go_at_call 121; refine (c121 _ (Below.refl _ _)).mono ?_; rintro e w7 ⟨vb, rfl, hvb, hb7⟩
         have c130 := recordOf130 w7 0 (by omega) vb bb hvb.bs (by omega)
         have HB7 := Lib.hid (show Below w6.heap.size w6 w7 from ((Below.refl _ _).drew).trans hb7)
         obtain ⟨vp, vc, rfl, -⟩ := hvb.bs
         clear hvb hb7)
      | (go_at_call 130; refine c130.mono ?_; rintro e w8 ⟨y, rfl, hy, hb8⟩
         have HB8 := Lib.hid (bel_then HB7.out hb8)
         have hz7 := HB7.out.size
         obtain ⟨yp, yc, rfl, -⟩ := hy.bs
         have HU8 : Hid (((bytesE.ban (fun k => k < w.heap.size)).ban (fun k => (Value.slice (some ⟨g6, 0, none⟩) 1 c6).ownBlock = some k)).E (fun _ => False) w8 (.slice yp (recB 0 bb).length yc) (recB 0 bb)) :=
           (show BsY (fun k => (False ∨ (Value.slice (some ⟨g6, 0, none⟩) 1 c6).ownBlock = some k) ∨ k < w.heap.size) w8 (.slice yp (recB 0 bb).length yc) (recB 0 bb) from bsY_fresh hy.bs hy.fresh (fun k hk => by
             rcases hk with (hk | hk) | hk
             · cases hk
             · have := (World.ownsRow.lt HV6.out k hk).2; omega
             · have := HB6.out.size; omega))
         clear hy hb8 c130)
      | (refine stepG_one 29 127 ((bytesE.ban (fun k => k < w.heap.size)).ban (fun k => (Value.slice (some ⟨g6, 0, none⟩) 1 c6).ownBlock = some k)) Tryz.underlying127 i0 hi' (.slice none 0 0) hz0 hz1' hz2 rfl (by rfl) (.tmp 21) (.tmp 32) (by rfl) w.heap.size w8.heap.size (.slice yp (recB 0 bb).length yc) (recB 0 bb) (by rfl) (by rfl) (Elem.kp _ HU8.out (Kp.bel (bel1 _ _))) (cell_new _ _ _) (by have := HB6.out.size; have := HB8.out.size; simp; omega) ?_
         intro g9 c9 w9 hR9 hb9
         have HR9 := Lib.hid hR9
         have HB9 := Lib.hid (show Below w6.heap.size w6 w9 from bel_then (bel_then HB8.out (bel1 w8 (.cells #[.slice yp (recB 0 bb).length yc] 29))) hb9)
         clear hR9 hb9))
    all_goals
      go_wp2
      go_meet
      case rel => exact ⟨HR9.out, HB9.out, _, _, rfl⟩
  case rest =>
    obtain ⟨w5, rfl⟩ : ∃ v, v = wc := ⟨_, rfl⟩
    obtain ⟨HR5, hB5, g5, c5, rfl⟩ := hcut
    have HB5 := Lib.hid (bel_then HB6.out hB5.out)
    have HV5 := Lib.hid (own_bel HV6.out hB5.out)
    have hz56 := hB5.out.size
    have hv6lt := fun k (e : (Value.slice (some ⟨g6, 0, none⟩) 1 c6).ownBlock = some k) => (World.ownsRow.lt HV5.out k e).2
    clear k3 HBA c121 hi' hz0 hz1' hz2
    have HPS := Lib.hid (HA.out.on HB5.out)
    have c131 := stagedPages131 w5 p 526 ms mk base tv P.po HPS.out.po
    rw [hL] at c131
    go_wp2_with (first | (go_at_call 131; refine c131.mono ?_; rintro e w1 ⟨lv, rfl, hrow, hB1⟩; obtain ⟨lq, lcap, rfl, hLc⟩ := row_at hrow; have HB1 := Lib.hid hB1; have HLR := Lib.hid hrow; have HLB := Lib.hid (fun k (e : (Value.slice lq L.length lcap).ownBlock = some k) => (World.ownsRow.lt hrow k e).2); clear hB1 hLc hrow))
    have hz1 := HB1.out.size
    clear c131
    go_loopg [4, 5, 39] L.length (fun gk s4 s5 s39 wr => ∃ i : Nat, i + gk = L.length ∧ s39 = .int .i64 i ∧ Hid (wr.ownsRow w.heap.size 3 1 s4 ([0] ++ L.take i).length (nums ([0] ++ L.take i))) ∧ Hid (RowG 29 ((bytesE.ban (fun k => k < w.heap.size)).ban (fun k => s4.ownBlock = some k)) wr w.heap.size s5 ([recB 0 bb] ++ (L.take i).map P.sRec)) ∧ Hid (wr.ownsRow w5.heap.size 3 1 (.slice lq L.length lcap) L.length (nums L)) ∧ Hid (∀ k, s4.ownBlock = some k → k < w5.heap.size ∨ w1.heap.size ≤ k) ∧ Hid (w1.heap.size ≤ wr.heap.size) ∧ Hid (Below w.heap.size w wr))
    case atStart =>
      exact ⟨0, by omega, rfl, (by have := own_bel HV5.out HB1.out; exact this), (by have := HR5.out.on HB1.out; exact this), HLR.out, (fun k e => .inl (hv6lt k e)), Nat.le_refl _, bel_then HB5.out HB1.out⟩
    case round =>
      obtain ⟨i, hgi, rfl, h4, h5, hl, hna, hsz, hb⟩ := hrel
      cases gk with
      | zero =>
        obtain rfl : i = L.length := by omega
        have H4 := h4.out
        have H5 := h5.out
        rw [List.take_length] at H4 H5
        have K4 := Lib.hid H4
        have K5 := Lib.hid (rowG_unban H5)
        clear H4 H5 h4 h5
        go_wp2
        go_ret2
        exact ⟨_, _, rfl, by unfold Pgr.stPg; rw [hH, hL]; exact K4.out, by unfold Pgr.stRs; rw [hR, hL]; exact K5.out, hb.out⟩
      | succ k =>
        have hi : i < L.length := by omega
        have hiz : (i : Int) < (L.length : Int) := by omega
        have hi0 : (0 : Int) ≤ (i : Int) := by omega
        obtain ⟨lq', lcap', elq, hLc⟩ := row_at hl.out
        injection elq with e1 e2 e3
        subst e1 e3
        obtain ⟨rb, rfl, hrb1, hrb2, hrc⟩ := hLc.resolve_left (fun e => by rw [e] at hi; cases hi)
        obtain ⟨pg, hpg⟩ : ∃ pg, L[i] = pg := ⟨_, rfl⟩
        obtain ⟨hpl, b, hpb, hbl⟩ := HLm.out pg (by rw [← hpg]; exact List.getElem_mem hi)
        have hcel : wr.cell? ⟨rb, i, none⟩ = some (.int .i64 (pg : Int)) := by have h1 := hrc i hi; rwa [hpg] at h1
        have hlpr : wr.cell? ⟨rb, i, none⟩ = some (.int .i64 (pg : Int)) := hcel
        have c122 := fun (u : World) => sheetBytes122 u b hbl
        have hpk : pg < 2048 := hpl
        have htk : [0] ++ L.take (i + 1) = ([0] ++ L.take i) ++ [pg] := by rw [List.take_add_one, List.getElem?_eq_getElem hi, hpg]; simp
        have hmp : [recB 0 bb] ++ (L.take (i + 1)).map P.sRec = ([recB 0 bb] ++ (L.take i).map P.sRec) ++ [recB pg b] := by rw [List.take_add_one, List.getElem?_eq_getElem hi, hpg]; simp [Pgr.sRec, hpb]
        obtain ⟨i0, hi', hz0, hz1', hz2⟩ := info_parts info43
        have HTK := Lib.hid (And.intro htk hmp)
        have hlt4 := fun k (e : u4.ownBlock = some k) => (World.ownsRow.lt h4.out k e).2
        have hLl : L.length ≤ 2048 := HLl.out
        have hH1 : ([0]).length ≤ 1 := by simp
        have hR1 : ([recB 0 bb]).length ≤ 1 := by simp
        clear htk hmp e2 hLc hrc
        go_wp2_with (first
          | (at_builtin
             refine wpList_appI rfl _ _ rfl w.heap.size wr.heap.size _ ([0] ++ L.take i) pg rfl rfl (own_bel h4.out (bel1 wr _)) (cell_new _ _ _) (by have := hb.out.size; simp; omega) (by rw [List.length_append, List.length_take]; omega) ?_
             intro v6 w6 hr6 hg6 hv6 hb6 hs6
             obtain ⟨M6, hM6⟩ : ∃ M, (([0] ++ L.take i) ++ [pg]).length = M := ⟨_, rfl⟩
             rw [hM6] at hr6 hs6
             have HM6 := Lib.hid hM6
             have HV6 := Lib.hid hr6
             have HB6 := Lib.hid ((bel_then hb.out (bel1 wr _)).trans hb6)
             have HG6 := Lib.hid (rowG_turn (h5.out.on (bel1 wr _)) (by decide) (own_bel h4.out (bel1 wr _)) hg6 (v' := v6) hv6)
             have HRL6 := Lib.hid (fun k (e : u5.ownBlock = some k) => show k < w6.heap.size from by have h9 := HG6.out; obtain ⟨vs, ho, -⟩ := h9; exact (World.ownsRow.lt ho k e).2)
             have HL6 := Lib.hid (World.ownsRow.kept (own_bel hl.out (bel1 wr _)) hg6 (.inr (fun e => by have hrb9 := HLB.out rb rfl; rcases hna.out rb e.symm with h | h <;> omega)))
             have HNA6 := Lib.hid (show ∀ k, v6.ownBlock = some k → k < w5.heap.size ∨ w1.heap.size ≤ k from fun k e => by rcases hv6 k e with h | h; exact hna.out k h; have := hsz.out; simp at h; omega)
             have HSZ6 := Lib.hid (show w1.heap.size ≤ w6.heap.size from by have := hsz.out; have := hg6.size; simp at this; omega)
             have P6 := (HA.out.on HB6.out).po
             have k6 := P6.c1
             have hlk := look64 P6.s hpl false
             rw [hpb] at hlk
             have hlk' : (Instr.lookup 64 (.map (some ms)) (.int .i64 (pg : Int)) false).run Tryz.prog w6 = .ok (.agg (shc b).toArray) w6 := hlk
             obtain ⟨g6, c6, rfl⟩ := hs6
             clear hr6 hg6 hv6 hb6 hlk P6 hM6)
          | (go_at_call 122; refine (c122 _).mono ?_; rintro e w7 ⟨vb, rfl, hvb, hb7⟩
             have c130 := recordOf130 w7 pg (by omega) vb b hvb.bs (by omega)
             have HB7 := Lib.hid hb7
             obtain ⟨vp, vc, rfl, -⟩ := hvb.bs
             clear hvb hb7)
          | (go_at_call 130; refine c130.mono ?_; rintro e w8 ⟨y, rfl, hy, hb8⟩
             have HB8 := Lib.hid (bel_then HB7.out hb8)
             have HY8 := Lib.hid hy
             have HG8 := Lib.hid (HG6.out.on HB8.out)
             have HV8 := Lib.hid (own_bel HV6.out HB8.out)
             have HL8 := Lib.hid (own_bel HL6.out HB8.out)
             have hz7 := HB7.out.size
             have hz8 := hb8.size
             obtain ⟨yp, yc, rfl, -⟩ := hy.bs
             have HU8 : Hid (((bytesE.ban (fun k => k < w.heap.size)).ban (fun k => (Value.slice (some ⟨g6, 0, none⟩) M6 c6).ownBlock = some k)).E (fun k => u5.ownBlock = some k) w8 (.slice yp (recB pg b).length yc) (recB pg b)) :=
               (show BsY (fun k => (u5.ownBlock = some k ∨ (Value.slice (some ⟨g6, 0, none⟩) M6 c6).ownBlock = some k) ∨ k < w.heap.size) w8 (.slice yp (recB pg b).length yc) (recB pg b) from bsY_fresh hy.bs hy.fresh (fun k hk => by
                 rcases hk with (hk | hk) | hk
                 · have := HRL6.out k hk; omega
                 · have := (World.ownsRow.lt HV6.out k hk).2; omega
                 · have := HB6.out.size; omega))
             clear hy hb8 c130)
          | (at_builtin
             refine rowG_app 29 127 ((bytesE.ban (fun k => k < w.heap.size)).ban (fun k => (Value.slice (some ⟨g6, 0, none⟩) M6 c6).ownBlock = some k)) Tryz.underlying127 i0 hi' (.slice none 0 0) hz0 hz1' hz2 rfl rfl _ _ rfl w.heap.size w8.heap.size _ (.slice yp (recB pg b).length yc) ([recB 0 bb] ++ (L.take i).map P.sRec) (recB pg b) rfl rfl (HG8.out.on (bel1 _ _)) (Elem.kp _ HU8.out (Kp.bel (bel1 _ _))) (cell_new _ _ _) (by have := HB6.out.size; simp; omega) (by rw [List.length_append, List.length_map, List.length_take]; omega) ?_
             intro g9 c9 w9 hR9 hg9 hb9
             obtain ⟨M9, hM9⟩ : ∃ M, ([recB 0 bb] ++ (L.take i).map P.sRec).length + 1 = M := ⟨_, rfl⟩
             rw [hM9] at hR9 ⊢
             have HM9 := Lib.hid hM9
             have HR9 := Lib.hid hR9
             have HB9 := Lib.hid ((bel_then (bel_then HB6.out HB8.out) (bel1 w8 (.cells #[.slice yp (recB pg b).length yc] 29))).trans hb9)
             have HV9 := Lib.hid (row_other (own_bel HV8.out (bel1 w8 (.cells #[.slice yp (recB pg b).length yc] 29))) HG8.out (bel1 w8 (.cells #[.slice yp (recB pg b).length yc] 29)) (by decide) hg9)
             have HL9 := Lib.hid (row_other (own_bel HL8.out (bel1 w8 (.cells #[.slice yp (recB pg b).length yc] 29))) HG8.out (bel1 w8 (.cells #[.slice yp (recB pg b).length yc] 29)) (by decide) hg9)
             have hz9 := hg9.size
             clear hR9 hb9 hg9 hM9))
        go_roundg k
        case measure => omega
        case rel => exact ⟨i + 1, by omega, by first | rfl | simp, (by have h9 := HV9.out; rw [HTK.out.1, HM6.out]; exact h9), (by have h9 := HR9.out; rw [HTK.out.2]; exact h9), HL9.out, HNA6.out, (show w1.heap.size ≤ w9.heap.size from by have := HSZ6.out; have := HB8.out.size; simp at hz9; omega), HB9.out⟩
theorem staged85 (w : World) (d l p ms mk ml base : Nat) (tv : Value) (P : Pgr) (h : PAt w d l p ms mk ml base tv P) (hbn : (P.now.bytes P.pages).length ≤ 448) : Calls Tryz.prog 85 #[.pointer (some ⟨p, 0, none⟩)] w (SgdR P w) := by
  cases hm : P.mv with
  | true => exact stagedM w d l p ms mk ml base tv P h (by rw [hm]; rfl) hbn hm
  | false =>
    cases hr : P.rw with
    | true => exact stagedW w d l p ms mk ml base tv P h (by rw [hr, Bool.or_true]) hbn hm
    | false => exact stagedN w d l p ms mk ml base tv P h (by rw [hm, hr]; rfl)
end Go.Proofs.YtfakgfmgofblgaaGreatDoor
