/-
  What Open and Format of package pager do where there is nothing to open: a pool that may not be, a disk without a log, no disk.
  spots of package pager: where the pages of a commit stand in the log.
-/
import Derived.Test.YtfakgfmgofblgaaGreatDoorZOq
import Derived.Test.YtfakgfmgofblgaaGreatDoorZPrPg
import Derived.Test.YtfakgfmgofblgaaGreatDoorZRvShelfDirtyWDecMp
import Derived.Test.YtfakgfmgofblgaaGreatDoorZComRcomSlcRecLa
namespace Go.Proofs.YtfakgfmgofblgaaGreatDoor
open Go.RowKit Go.Maps
set_option linter.unusedVariables false      -- a walk need not use every condition
attribute [local go_sem ↓] Go.wp_at_zero Go.wp_at_succ

set_option maxHeartbeats 1000000 in
theorem openArg11 (w : World) (d pb mb : Nat) (s : Dsk) (h : At w d pb mb s) (hd : s.down = false) (room : Int) (hr : room < 8 ∨ 256 < room) :
    Calls Tryz.prog 11 #[.pointer (some ⟨d, 0, none⟩), .int .i64 room] w fun e w' => e = .returned (.tuple #[.pointer none, .int .i64 1]) ∧ w' = w := by
  have c43 := madeDisk43 w d pb mb s h
  have c38 := down38 w d pb mb s h
  rw [hd] at c38
  clear h
  by_cases h8 : room < 8
  · go_enter Tryz.func11, Tryz.ntmps11
    go_wp2_with (first
      | (go_at_call 43; refine c43.mono ?_; rintro e w' ⟨rfl, ew⟩; rw [ew]; clear ew w')
      | (go_at_call 38; refine c38.mono ?_; rintro e w' ⟨rfl, ew⟩; rw [ew]; clear ew w'))
    go_ret2
    exact ⟨rfl, rfl⟩
  · have h256 : 256 < room := by omega
    go_enter Tryz.func11, Tryz.ntmps11
    go_wp2_with (first
      | (go_at_call 43; refine c43.mono ?_; rintro e w' ⟨rfl, ew⟩; rw [ew]; clear ew w')
      | (go_at_call 38; refine c38.mono ?_; rintro e w' ⟨rfl, ew⟩; rw [ew]; clear ew w'))
    go_ret2
    exact ⟨rfl, rfl⟩
set_option maxHeartbeats 1000000 in
theorem openLog11 (w : World) (d pb mb : Nat) (s : Dsk) (h : At w d pb mb s) (hT : TabOk w) (hd : s.down = false) (h0 : frO (s.con 0) = none) (h1 : frO (s.con 1) = none) (room : Int) (hr1 : 8 ≤ room) (hr2 : room ≤ 256) :
    Calls Tryz.prog 11 #[.pointer (some ⟨d, 0, none⟩), .int .i64 room] w fun e w' => e = .returned (.tuple #[.pointer none, .int .i64 60]) ∧ Below w.heap.size w w' := by
  have c43 := madeDisk43 w d pb mb s h
  have c38 := down38 w d pb mb s h
  rw [hd] at c38
  have c44 := openNone44 w d pb mb s h hT hd h0 h1
  have h8 : ¬ (room < 8) := by omega
  have h256 : ¬ (256 < room) := by omega
  clear h
  go_enter Tryz.func11, Tryz.ntmps11
  go_wp2_with (first
    | (go_at_call 43; refine c43.mono ?_; rintro e w' ⟨rfl, ew⟩; rw [ew]; clear ew w')
    | (go_at_call 38; refine c38.mono ?_; rintro e w' ⟨rfl, ew⟩; rw [ew]; clear ew w')
    | (go_at_call 44; refine c44.mono ?_; rintro e w1 ⟨rfl, hb1⟩))
  go_ret2
  exact ⟨rfl, hb1⟩
end Go.Proofs.YtfakgfmgofblgaaGreatDoor
namespace Go.Proofs.YtfakgfmgofblgaaGreatDoor
open Go.RowKit Go.Maps Go.Sort Go.Shelf
set_option linter.unusedVariables false      -- a walk need not use every condition
attribute [local go_sem ↓] Go.wp_at_zero Go.wp_at_succ

theorem own_setx {w : World} {base : Nat} {e : TypeId} {size : Nat} {v : Value} {n : Nat} {xs : List Value} (h : w.ownsRow base e size v n xs) {g m c : Nat} (hv : v = .slice (some ⟨g, 0, none⟩) m c) (k : Nat) (u : Value) : (w.setCell ⟨g, k, none⟩ u).ownsRow base e size v n (xs.set k u) := by
  refine ⟨by rw [List.length_set]; exact h.1, ?_⟩
  rcases h.2 with ⟨e1, -⟩ | ⟨b, cap, cur, e1, hb, hg, h1, h2, h3, h4⟩
  · rw [e1] at hv; cases hv
  · rw [e1] at hv
    injection hv with hv
    injection hv with hv
    injection hv with hv
    subst hv
    refine .inr ⟨b, cap, cur.setIfInBounds k u, e1, hb, ?_, h1, h2, by simpa using h3, ?_⟩
    · simp [World.setCell, Array.getElem?_modify, hg]
    · rw [Array.toList_setIfInBounds, List.take_set, h4]
/-- A spot's cells. -/
def spC (x : Spot) : List Value := [.int .i64 x.slot, .int .i64 x.frames, .int .i64 x.at_, .int .i64 x.len]
def spR (L : List Spot) : List Value := L.flatMap spC
theorem spR_len (L : List Spot) : (spR L).length = L.length * 4 := by
  induction L with
  | nil => rfl
  | cons x r ih => simp only [spR, List.flatMap_cons, List.length_append, List.length_cons] at *; simp only [spC, List.length_cons, List.length_nil]; omega
theorem spR_app (L M : List Spot) : spR (L ++ M) = spR L ++ spR M := by simp [spR]
theorem spR_set (F : Nat) : ∀ (L : List Spot) (j : Nat) (hj : j < L.length), (spR L).set (j * 4 + 1) (.int .i64 F) = spR (L.set j { L[j] with frames := F })
  | [], j, hj => absurd hj (Nat.not_lt_zero _)
  | x :: r, 0, _ => by simp [spR, spC]
  | x :: r, j + 1, hj => by
    have ih := spR_set F r j (by simpa using hj)
    have e1 : spR (x :: r) = spC x ++ spR r := by simp [spR]
    have e2 : (x :: r).set (j + 1) { (x :: r)[j + 1] with frames := F } = x :: (r.set j { r[j]'(by simpa using hj) with frames := F }) := by simp
    have e3 : spR (x :: (r.set j { r[j]'(by simpa using hj) with frames := F })) = spC x ++ spR (r.set j { r[j]'(by simpa using hj) with frames := F }) := by simp [spR]
    have hl : (spC x).length = 4 := rfl
    rw [e2, e1, e3, ← ih, List.set_append_right _ _ (by omega), hl]
    congr 2
    omega
theorem spR_at : ∀ (L : List Spot) (j : Nat) (hj : j < L.length), (spR L)[j * 4 + 1]? = some (.int .i64 (L[j].frames : Int))
  | [], j, hj => absurd hj (Nat.not_lt_zero _)
  | x :: r, 0, _ => by simp [spR, spC]
  | x :: r, j + 1, hj => by
    have ih := spR_at r j (by simpa using hj)
    have e1 : spR (x :: r) = spC x ++ spR r := by simp [spR]
    have hl : (spC x).length = 4 := rfl
    rw [e1, List.getElem?_append_right (by omega), hl, show (j + 1) * 4 + 1 - 4 = j * 4 + 1 by omega, ih]
    rfl
/-- Where the page i of a commit stands; F: what is said of its frames. -/
def spF (slot F : Nat) (rs : Rs) (pgs : List Nat) (i : Nat) : Spot :=
  ⟨slot, F, (vnt rs.length).length + (rsb (rs.take i)).length + (vnt (rs.getD i []).length).length + (vnt (pgs.getD i 0)).length, (rs.getD i []).length - (vnt (pgs.getD i 0)).length⟩
def spLs (slot F : Nat) (rs : Rs) (pgs : List Nat) : List Spot := (List.range rs.length).map (spF slot F rs pgs)
theorem infoS : (Tryz.prog.info? 112).map (fun i => (i.zero, i.size, i.bytes)) = some (some (.agg #[.int .i64 0, .int .i64 0, .int .i64 0, .int .i64 0]), 4, 32) := by kernel_rfl
/-- A spot is put behind a row of one's own. -/
theorem wpList_appS {ops : Array Oper} {rest : List Oper} {o : Oper} {a : Act} {w : World} {Q : Exit → Act → World → Prop} (hgd : o.guard = none) (s x : Operand)
    (ho : o.op = .call { callee := .builtin .append, args := #[s, x], argTypes := #[133, 133] }) (base g0 : Nat) (v : Value) (L : List Spot) (u : Spot) (hs : a.eval s = v) (hx : a.eval x = .slice (some ⟨g0, 0, none⟩) 1 1)
    (h : w.ownsRow base 112 4 v L.length (spR L)) (hy : w.heap[g0]? = some (.cells (spC u).toArray 112)) (hbase : base ≤ w.heap.size) (hlen : L.length + 1 ≤ 1000000)
    (hK : ∀ v' w', w'.ownsRow base 112 4 v' (L ++ [u]).length (spR (L ++ [u])) → Below base w w' → (∀ k, v.ownBlock = some k → True) → (∃ g c, v' = .slice (some ⟨g, 0, none⟩) (L ++ [u]).length c) → w.grownBy w' v.ownBlock → wpList Tryz.prog ops Q rest (a.put o.dst v') w') : wpList Tryz.prog ops Q (o :: rest) a w :=
  wpList_plain hgd fun _ hk => by
    obtain ⟨i0, hinf, hz0, hz1, hz2⟩ := info_parts infoS
    obtain ⟨g, cap, w', hr, hown', hg, hat, hlt⟩ := run_append_lies (P := Tryz.prog) w 133 o.type base 112 i0 (.agg #[.int .i64 0, .int .i64 0, .int .i64 0, .int .i64 0]) 4 32 Tryz.underlying133 hinf hz0 hz1 hz2 rfl (by decide) v L.length (spR L) h ⟨g0, 0, none⟩ 1 1 (spC u) rfl
      (fun j q hq => by
        rw [Go.WideShapes.add_plain]
        simp only [World.cell?, hy, Nat.zero_add]
        simpa using hq)
      (fun q hq => by simp [spC] at hq; rcases hq with rfl | rfl | rfl | rfl <;> rfl) (by decide) (by unfold maxLen; omega) (by omega) hbase w.heap.size rfl
    have hB : Below base w w' := (Below.refl base w).grown hg hbase (fun j e => (World.ownsRow.lt h j e).1)
    have hn : spR (L ++ [u]) = spR L ++ spC u := by rw [spR_app]; simp [spR]
    have hl : (L ++ [u]).length = L.length + 1 := by simp
    unfold Oper.wp execOp
    simp only [ho, resolve, invoke, builtin, Sem.run_bind, Sem.run_pure, Result.andThen_ok, List.map_toArray, List.map_cons, List.map_nil, hs, hx, hr]
    exact hk _ _ (hK _ w' (by rw [hn, hl]; exact hown') hB (fun _ _ => trivial) ⟨g, cap, by rw [hl]⟩ hg)
theorem nums_at (L : List Nat) {i : Nat} (hi : i < L.length) : (nums L)[i]? = some (.int .i64 ((L.getD i 0 : Nat) : Int)) := by
  simp [nums, hi]
theorem vnt_small (n : Nat) : (vnt n).length ≤ 10 := vnt_le n
set_option maxHeartbeats 8000000 in
set_option maxRecDepth 100000 in
theorem spots90 (w : World) (slot : Nat) (pv rv : Value) (pgs : List Nat) (rs : Rs) (b : Nat) (hp : w.ownsRow b 3 1 pv pgs.length (nums pgs)) (hr : Bss w rv rs) (hl : rs.length = pgs.length) (hpg : ∀ p ∈ pgs, p < 2048)
    (hrec : ∀ i, i < rs.length → (vnt (pgs.getD i 0)).length ≤ (rs.getD i []).length) (hlen : (cby rs).length ≤ 4398046511104) (hn : rs.length ≤ 999999) :
    Calls Tryz.prog 90 #[.int .i64 slot, pv, rv] w fun e w' => ∃ v, e = .returned v ∧ w'.ownsRow w.heap.size 112 4 v rs.length (spR (spLs slot (pn (cby rs)) rs pgs)) ∧ Below w.heap.size w w' := by
  have cN := fun (n : Nat) (hn : n < 9223372036854775808) (u : World) => numberLen136 u n hn
  have HV := Lib.hid hr
  have HP := Lib.hid hp
  obtain ⟨p, cap, rfl, -⟩ := hr
  obtain ⟨pp, pc, rfl⟩ : ∃ pp pc, pv = .slice pp rs.length pc := by
    rcases hp.2 with ⟨rfl, e⟩ | ⟨g, c, cur, rfl, -⟩
    · exact ⟨none, 0, by rw [hl, e]⟩
    · exact ⟨_, c, by rw [hl]⟩
  have hcl := cby_len rs
  have c0 := cN rs.length (by omega)
  obtain ⟨V, hV⟩ : ∃ V, (vnt rs.length).length = V := ⟨_, rfl⟩
  rw [hV] at c0 hcl
  have HVV := Lib.hid hV
  have HPN : Hid (pn (cby rs) = (V + (rsb rs).length + 111) / 112) := by show _ = _; unfold pn; rw [hcl]
  have HTot : Hid (V + (rsb rs).length ≤ 4398046511104) := by show _ ≤ _; omega
  have HL := Lib.hid hl
  have HPG := Lib.hid hpg
  have HREC := Lib.hid hrec
  have hnz : (rs.length : Int) ≤ 999999 := by omega
  obtain ⟨PN, hPN⟩ : ∃ PN, pn (cby rs) = PN := ⟨_, rfl⟩
  rw [hPN] at HPN ⊢
  unfold spLs
  clear hcl hV hlen hl hp hpg hrec hPN
  go_enter Tryz.func90, Tryz.ntmps90
  go_wp2_with (first | (go_at_call 136; refine (c0 _).mono ?_; rintro e w1 ⟨rfl, hB1⟩))
  clear c0
  have HB1 := Lib.hid hB1
  clear hB1
  go_loopg [7, 8, 18] rs.length (fun g s7 s8 s18 wr => ∃ i T : Nat, i + g = rs.length ∧ s18 = .int .i64 i ∧ s7 = .int .i64 T ∧ Hid (T = V + (rsb (rs.take i)).length) ∧ Hid (wr.ownsRow w.heap.size 112 4 s8 i (spR ((List.range i).map (spF slot 0 rs pgs)))) ∧ Hid (Below w.heap.size w wr))
  case atStart => exact ⟨0, V, by omega, rfl, rfl, by show V = V + _; rw [List.take_zero]; rfl, World.ownsRow_nil _ _ _ _, HB1.out⟩
  case round =>
    obtain ⟨i, T, hig, rfl, rfl, hT, hrow, hb⟩ := hrel
    cases gk with
    | zero =>
      obtain rfl : i = rs.length := by omega
      have hT' := hT.out
      rw [List.take_length] at hT'
      have h1 := HTot.out
      have h2 := HPN.out
      have e1 : IntKind.i64.wrap ((T : Int) + 112) = (T : Int) + 112 := by rw [IntKind.wrap_i64]; omega
      have e2 : IntKind.i64.wrap ((T : Int) + 112 - 1) = (T : Int) + 112 - 1 := by rw [IntKind.wrap_i64]; omega
      have e3 : ((T : Int) + 112 - 1).tdiv 112 = (PN : Int) := by rw [Int.tdiv_eq_ediv_of_nonneg (by omega)]; omega
      have e4 : IntKind.i64.wrap (PN : Int) = (PN : Int) := by rw [IntKind.wrap_i64]; omega
      obtain ⟨q8, c8, rfl⟩ : ∃ q c, u8 = .slice q rs.length c := by
        rcases hrow.out.2 with ⟨rfl, e⟩ | ⟨g, c, cur, rfl, -⟩
        · exact ⟨none, 0, by rw [e]⟩
        · exact ⟨_, c, rfl⟩
      clear hT hT' h1 h2
      go_wp2
      go_loopg [52] rs.length (fun g s52 wq => ∃ j : Nat, j + g = rs.length ∧ s52 = .int .i64 j ∧ Hid (wq.ownsRow w.heap.size 112 4 (.slice q8 rs.length c8) rs.length (spR ((List.range rs.length).map fun i => spF slot (if i < j then PN else 0) rs pgs i))) ∧ Hid (Below w.heap.size w wq))
      case atStart => exact ⟨0, by omega, rfl, (show wr.ownsRow w.heap.size 112 4 _ _ _ from by simpa using hrow.out), hb.out⟩
      case round =>
        clear hrow hb
        obtain ⟨j, hjg, rfl, hrow, hb⟩ := hrel
        cases gk with
        | zero =>
          obtain rfl : j = rs.length := by omega
          have hfin : ((List.range rs.length).map fun i => spF slot (if i < rs.length then PN else 0) rs pgs i) = (List.range rs.length).map (spF slot PN rs pgs) := by
            refine List.map_congr_left fun i hi => ?_
            rw [if_pos (List.mem_range.1 hi)]
          have hr9 := hrow.out
          rw [hfin] at hr9
          have HR9 := Lib.hid hr9
          clear hfin hr9 hrow
          go_wp2
          go_ret
          exact ⟨_, rfl, HR9.out, hb.out⟩
        | succ g =>
          have hj : j < rs.length := by omega
          have hjz : (j : Int) < (rs.length : Int) := by omega
          have hj0 : (0 : Int) ≤ (j : Int) := by omega
          obtain ⟨g8, cap8, cur8, eq8, hbg, hg8, -⟩ := hrow.out.2.resolve_left (fun e => by have := e.2; omega)
          injection eq8 with ea eb ec
          subst ea ec
          have hjl : j < ((List.range rs.length).map fun i => spF slot (if i < j then PN else 0) rs pgs i).length := by simp [hj]
          have hc : wr.cell? ⟨g8, j * 4 + 1, none⟩ = some (.int .i64 ((0 : Nat) : Int)) := by
            have := hrow.out.cells (g := g8) rfl (j * 4 + 1) _ (spR_at _ j hjl)
            rw [Go.WideShapes.add_plain, Nat.zero_add] at this
            rw [this]
            simp [spF]
          have hf : wr.frozen? ⟨g8, j * 4 + 1, none⟩ = false := by simp [World.frozen?, hg8]
          have HN : Hid (∀ u, (wr.setCell ⟨g8, j * 4 + 1, none⟩ (.int .i64 (PN : Int))) = u → u.ownsRow w.heap.size 112 4 (.slice (some ⟨g8, 0, none⟩) rs.length c8) rs.length (spR ((List.range rs.length).map fun i => spF slot (if i < j + 1 then PN else 0) rs pgs i)) ∧ Below w.heap.size w u) := by
            intro u hu
            subst hu
            refine ⟨?_, hb.out.grown (gr_set wr g8 (j * 4 + 1) _) hb.out.size (fun e h => by injection h with h; omega)⟩
            have h1 := own_setx hrow.out rfl (j * 4 + 1) (.int .i64 (PN : Int))
            rw [spR_set PN _ j hjl] at h1
            have h2 : (((List.range rs.length).map fun i => spF slot (if i < j then PN else 0) rs pgs i).set j { (((List.range rs.length).map fun i => spF slot (if i < j then PN else 0) rs pgs i)[j]'hjl) with frames := PN }) = (List.range rs.length).map fun i => spF slot (if i < j + 1 then PN else 0) rs pgs i := by
              refine List.ext_getElem (by simp) fun i h3 h4 => ?_
              rw [List.getElem_set]
              by_cases e : j = i
              · subst e
                simp [spF]
              · simp only [if_neg e, List.getElem_map, List.getElem_range]
                by_cases e2 : i < j
                · rw [if_pos e2, if_pos (by omega)]
                · rw [if_neg e2, if_neg (by omega)]
            rw [h2] at h1
            exact h1
          have Hb := Lib.hid hb.out
          clear eb hg8 hjl hrow hb
          go_wp2
          go_roundg g
          case measure => omega
          case rel => exact ⟨j + 1, by omega, by first | rfl | simp, (HN.out _ rfl).1, (HN.out _ rfl).2⟩
    | succ g =>
      have hi : i < rs.length := by omega
      have hiz : (i : Int) < (rs.length : Int) := by omega
      have hi0 : (0 : Int) ≤ (i : Int) := by omega
      obtain ⟨p', cap', e, hel⟩ := HV.out.on hb.out
      injection e with e1 e2 e3
      subst e1 e3
      obtain ⟨bb, o, rfl, hel2⟩ := hel.resolve_left (fun e => by rw [e] at hi; simp at hi)
      obtain ⟨x, hx, hxB⟩ := hel2 i hi
      have hip : i < pgs.length := by have := HL.out; omega
      obtain ⟨gp, cp', curp, ep, hbp, hgp, -⟩ := (own_bel HP.out hb.out).2.resolve_left (fun e => by have := e.2; omega)
      injection ep with ep1 ep2 ep3
      subst ep1 ep3
      clear ep2
      have hpx : wr.cell? ⟨gp, i, none⟩ = some (.int .i64 ((pgs.getD i 0 : Nat) : Int)) := by
        have := (own_bel HP.out hb.out).cells (g := gp) rfl i _ (nums_at pgs hip)
        rwa [Go.WideShapes.add_plain, Nat.zero_add] at this
      have hpl : pgs.getD i 0 < 2048 := by
        have h1 : pgs.getD i 0 = pgs[i] := by simp [List.getD_eq_getElem?_getD, hip]
        rw [h1]; exact HPG.out _ (List.getElem_mem hip)
      have hrl := HREC.out i hi
      have hgd : rs.getD i [] = rs[i] := by simp [List.getD_eq_getElem?_getD, hi]
      rw [hgd] at hrl
      have hsu := rsb_succ rs hi
      have hle := rsb_take_le rs (i + 1)
      have hU := hxB.len
      obtain ⟨xp, xc, rfl, -⟩ := hxB
      have c1 := cN rs[i].length (by unfold maxLen at hU; have := HTot.out; have := congrArg List.length hsu; simp at this; omega)
      have c2 := cN (pgs.getD i 0) (by omega)
      have hS : Hid ((rsb (rs.take (i + 1))).length = (rsb (rs.take i)).length + ((vnt rs[i].length).length + rs[i].length)) := by show _ = _; rw [hsu]; simp
      have hSp : Hid (spF slot 0 rs pgs i = ⟨slot, 0, T + (vnt rs[i].length).length + (vnt (pgs.getD i 0)).length, rs[i].length - (vnt (pgs.getD i 0)).length⟩) := by
        show _ = _
        unfold spF
        rw [hgd, HVV.out, ← hT.out]
      have hT2 := hT.out
      have hTot2 := HTot.out
      have hN10 := vnt_small (pgs.getD i 0)
      generalize (vnt rs[i].length).length = A at *
      generalize (vnt (pgs.getD i 0)).length = N at *
      generalize rs[i].length = U at *
      have hS2 := hS.out
      have e1 : IntKind.i64.wrap ((T : Int) + (A : Int)) = ((T + A : Nat) : Int) := by rw [IntKind.wrap_i64]; omega
      have e2 : IntKind.i64.wrap (((T + A : Nat) : Int) + (N : Int)) = ((T + A + N : Nat) : Int) := by rw [IntKind.wrap_i64]; omega
      have e3 : IntKind.i64.wrap ((U : Int) - (N : Int)) = ((U - N : Nat) : Int) := by rw [IntKind.wrap_i64]; omega
      have e4 : IntKind.i64.wrap (((T + A : Nat) : Int) + (U : Int)) = ((T + A + U : Nat) : Int) := by rw [IntKind.wrap_i64]; omega
      generalize pgs.getD i 0 = PG at *
      have HPX := Lib.hid hpx
      have HT9 := Lib.hid hT2
      have HB0 := Lib.hid hb.out
      obtain ⟨M1, hM1⟩ : ∃ M, T + A = M := ⟨_, rfl⟩
      obtain ⟨M2, hM2⟩ : ∃ M, M1 + N = M := ⟨_, rfl⟩
      obtain ⟨M3, hM3⟩ : ∃ M, U - N = M := ⟨_, rfl⟩
      obtain ⟨M4, hM4⟩ : ∃ M, M1 + U = M := ⟨_, rfl⟩
      rw [hM1] at e1 e2 e4 hSp
      rw [hM2] at e2 hSp
      rw [hM3] at e3 hSp
      rw [hM4] at e4
      have HM := Lib.hid (And.intro hM1 hM4)
      clear hM1 hM2 hM3 hM4 hT2 hTot2 hS2 hsu hle hU hpl hrl hgd hgp hpx hN10 hT
      have tk : True := trivial
      go_wp2_with (first
        | (go_at_call 136; clear tk; refine (c1 _).mono ?_; rintro e w2 ⟨rfl, hb2⟩; have HB2 := Lib.hid hb2; have hpx2 := some_on hb2 HPX.out; clear c1 hb2)
        | (go_at_call 136; refine (c2 _).mono ?_; rintro e w3 ⟨rfl, hb3⟩; have HB3 := Lib.hid hb3; clear hb3)
        | (at_builtin
           refine wpList_appS rfl _ _ rfl w.heap.size w3.heap.size _ ((List.range i).map (spF slot 0 rs pgs)) ⟨slot, 0, M2, M3⟩ rfl rfl (by rw [List.length_map, List.length_range]; exact own_bel (own_bel (own_bel hrow.out HB2.out) HB3.out) (bel1 w3 _)) (World.alloc_heap_new w3 _) (by have := HB0.out.size; have := HB2.out.size; have := HB3.out.size; simp only [World.size_alloc]; omega) (by rw [List.length_map, List.length_range]; omega) ?_
           intro v6 w6 hr6 hb6 _ hs6 hg6
           have HR6 := Lib.hid hr6
           have HB6 := Lib.hid (hb6)
           obtain ⟨g6, c6, rfl⟩ := hs6
           clear hr6 hb6 hg6))
      go_roundg g
      case measure => omega
      case rel =>
        have hB4 : Below w.heap.size w w3 := bel_then (bel_then HB0.out HB2.out) HB3.out
        have hr7 := HR6.out
        have hl7 : ((List.range i).map (spF slot 0 rs pgs) ++ [(⟨slot, 0, M2, M3⟩ : Spot)]).length = i + 1 := by simp
        have hm7 : (List.range i).map (spF slot 0 rs pgs) ++ [(⟨slot, 0, M2, M3⟩ : Spot)] = (List.range (i + 1)).map (spF slot 0 rs pgs) := by rw [List.range_succ, List.map_append, List.map_singleton, hSp.out]
        rw [hl7, hm7] at hr7
        exact ⟨i + 1, M4, by omega, by first | rfl | simp, rfl, (show M4 = _ from by have := HM.out; have := HT9.out; have := hS.out; omega), (by first | exact hr7 | simpa using hr7), (hB4.trans ((bel1 w3 _).mono hB4.size)).trans HB6.out⟩
end Go.Proofs.YtfakgfmgofblgaaGreatDoor
