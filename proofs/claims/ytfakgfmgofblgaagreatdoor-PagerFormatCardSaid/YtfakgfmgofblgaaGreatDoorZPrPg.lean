/-
  What keep, settle, forget, find (of a page that is not held) of a pool do, and newPool.
  A pager as plain data, how one lies in memory, and its small functions.
-/
import Derived.Test.YtfakgfmgofblgaaGreatDoorZPoKyLpPq
import Derived.Test.YtfakgfmgofblgaaGreatDoorZDecW
import Derived.Test.YtfakgfmgofblgaaGreatDoorZFt
namespace Go.Proofs.YtfakgfmgofblgaaGreatDoor
open Go.RowKit Go.Maps Go.Sort Go.Shelf
set_option linter.unusedVariables false      -- a walk need not use every condition
attribute [local go_sem ↓] Go.wp_at_zero Go.wp_at_succ

theorem infoI : (Tryz.prog.info? 3).map (fun i => (i.zero, i.size, i.bytes)) = some (some (.int .i64 0), 1, 8) := by kernel_rfl
/-- A number is put behind a row of one's own. -/
theorem wpList_appI {ops : Array Oper} {rest : List Oper} {o : Oper} {a : Act} {w : World} {Q : Exit → Act → World → Prop} (hgd : o.guard = none) (s x : Operand)
    (ho : o.op = .call { callee := .builtin .append, args := #[s, x], argTypes := #[43, 43] }) (base g0 : Nat) (v : Value) (L : List Nat) (u : Nat) (hs : a.eval s = v) (hx : a.eval x = .slice (some ⟨g0, 0, none⟩) 1 1)
    (h : w.ownsRow base 3 1 v L.length (nums L)) (hy : w.cell? ⟨g0, 0, none⟩ = some (.int .i64 (u : Int))) (hbase : base ≤ w.heap.size) (hlen : L.length + 1 ≤ 1000000)
    (hK : ∀ v' w', w'.ownsRow base 3 1 v' (L ++ [u]).length (nums (L ++ [u])) → w.grownBy w' v.ownBlock → (∀ k, v'.ownBlock = some k → v.ownBlock = some k ∨ w.heap.size ≤ k) → Below base w w' → (∃ g c, v' = .slice (some ⟨g, 0, none⟩) (L ++ [u]).length c) → wpList Tryz.prog ops Q rest (a.put o.dst v') w') : wpList Tryz.prog ops Q (o :: rest) a w :=
  wpList_plain hgd fun _ hk => by
    obtain ⟨i0, hinf, hz0, hz1, hz2⟩ := info_parts infoI
    obtain ⟨g, cap, w', hr, hown', hg, hat, hlt⟩ := run_append_lies (P := Tryz.prog) w 43 o.type base 3 i0 (.int .i64 0) 1 8 Tryz.underlying43 hinf hz0 hz1 hz2 rfl (by decide) v L.length (nums L) h ⟨g0, 0, none⟩ 1 1 [.int .i64 (u : Int)] rfl
      (fun j q hq => by
        cases j with
        | zero => simp at hq; subst hq; rw [Go.WideShapes.add_plain]; exact hy
        | succ j => simp at hq)
      (fun q hq => by simp at hq; subst hq; rfl) (by decide) (by unfold maxLen; omega) (by omega) hbase w.heap.size rfl
    have hB : Below base w w' := (Below.refl base w).grown hg hbase (fun j e => (World.ownsRow.lt h j e).1)
    have hn : nums (L ++ [u]) = nums L ++ [.int .i64 (u : Int)] := by simp [nums]
    have hl : (L ++ [u]).length = L.length + 1 := by simp
    unfold Oper.wp execOp
    simp only [ho, resolve, invoke, builtin, Sem.run_bind, Sem.run_pure, Result.andThen_ok, List.map_toArray, List.map_cons, List.map_nil, hs, hx, hr]
    refine hk _ _ (hK _ w' (by rw [hn, hl]; exact hown') hg (fun k e => ?_) hB ⟨g, cap, by rw [hl]⟩)
    have e' : g = k := Option.some.inj (show some g = some k from e)
    subst e'
    rcases hat with hat | hat
    · exact .inl hat
    · exact .inr (by omega)
/-- The row of the turns has grown. -/
theorem PoAt.grewT {w w' : World} {g o ms mk base : Nat} {tv : Value} {P : Po} (h : PoAt w g o ms mk base tv P) (hg : w.grownBy w' tv.ownBlock) :
    (∀ i, w'.cell? ⟨g, i, none⟩ = w.cell? ⟨g, i, none⟩ ∧ w'.frozen? ⟨g, i, none⟩ = w.frozen? ⟨g, i, none⟩) ∧ MapAt shA w' ms P.st ∧ MapAt shA w' mk P.kp := by
  have l := h.lt
  have hb : ∀ k, k < base → w'.heap[k]? = w.heap[k]? := fun k hk => hg.block k (by omega) (fun e => by have := h.tvb e.symm; omega)
  exact ⟨fun i => ⟨World.cell?_of_block (w := w) (a := ⟨g, i, none⟩) (hb g l.1), World.frozen?_of_block (w := w) (a := ⟨g, i, none⟩) (hb g l.1)⟩, h.s.blk (hb ms l.2.1), h.k.blk (hb mk l.2.2.1)⟩
/-- One more turn. -/
theorem PoAt.turn {w w' : World} {g o ms mk base : Nat} {tv tv' : Value} {P : Po} {u : Nat} (h : PoAt w g o ms mk base tv P) (hg : w.grownBy w' tv.ownBlock) (hr : w'.ownsRow base 3 1 tv' (P.tn ++ [u]).length (nums (P.tn ++ [u]))) (hv : ∀ k, tv'.ownBlock = some k → tv.ownBlock = some k ∨ w.heap.size ≤ k) (hu : u < 2048) (hlen : P.tn.length < 2048) :
    PoR w g o ms mk base tv { P with tn := P.tn ++ [u] } (w'.setCell ⟨g, o + 3, none⟩ tv') := by
  have l := h.lt
  obtain ⟨hc, hs, hk⟩ := h.grewT hg
  have hP' : PoAt (w'.setCell ⟨g, o + 3, none⟩ tv') g o ms mk base tv' { P with tn := P.tn ++ [u] } := by
    have hset := gr_set w' g (o + 3) tv'
    have hne := h.gne
    have hsome : (w'.cell? ⟨g, o + 3, none⟩).isSome = true := by rw [(hc _).1, h.c3]; rfl
    have hoth : ∀ i, i ≠ o + 3 → (w'.setCell ⟨g, o + 3, none⟩ tv').cell? ⟨g, i, none⟩ = w.cell? ⟨g, i, none⟩ := fun i hi => (World.cell?_setCell_other _ _ _ _ (fun e => hi (by injection e with _ e2 _; exact e2.symm))).trans (hc i).1
    have hsz := hg.size
    refine { h with c0 := (hoth _ (by omega)).trans h.c0, c1 := (hoth _ (by omega)).trans h.c1, c2 := (hoth _ (by omega)).trans h.c2, c3 := World.cell?_setCell_same' _ _ _ hsome, fz := (World.frozen?_setCell _ _ _ _).trans ((hc _).2.trans h.fz), tn := own_same hr (fun k hk hl => hset.block k hl (fun e => by injection e with e; omega)), s := hs.blk (hset.block _ (by omega) (fun e => hne.1 (by injection e with e; exact e.symm))), k := hk.blk (hset.block _ (by omega) (fun e => hne.2 (by injection e with e; exact e.symm))), lt := ⟨l.1, l.2.1, l.2.2.1, by simp [World.setCell]; omega⟩, lg := ?_, pg := ?_ }
    · simp; omega
    · intro p hp
      rcases List.mem_append.1 hp with hp | hp
      · exact h.pg p hp
      · simp at hp; omega
  refine ⟨tv', hP', ?_, hv⟩
  have hk1 : Kp (Xo ms mk tv) w w' := ⟨hg.os, hg.tape, hg.output, hg.size, fun k hk hx => hg.block k hk (fun e => hx (.inr (.inr e.symm)))⟩
  have hs1 : Kg g o (o + 4) (Xo ms mk tv) w w' := Kg.same hk1 (hg.block g (by omega) (fun e => by have := h.tvb e.symm; omega))
  exact hs1.trans (Kg.set (X := fun _ => False) w' tv' (by omega) (by omega)) (fun _ h => h.elim)
set_option maxHeartbeats 2000000 in
set_option maxRecDepth 100000 in
theorem keep74 (w : World) (g o ms mk base : Nat) (tv : Value) (P : Po) (h : PoAt w g o ms mk base tv P) (page : Nat) (hp : page < 2048) (v : Value) (b : List UInt8) (hv : Bs w v b) (hvx : ∀ a n c, v = .slice (some a) n c → b ≠ [] → ¬ (a.block = g ∨ Xo ms mk tv a.block)) (hb : b.length ≤ 448) (hnf : (keysM P.st).length ≠ P.room) (hf : P.held = P.room → P.tn ≠ [] ∧ LeaveC P.tn) (hlen : P.mkr.tn.length < 2048) :
    Calls Tryz.prog 74 #[.pointer (some ⟨g, o, none⟩), .int .i64 page, v] w fun e w' => e = .returned (.tuple #[]) ∧ PoR w g o ms mk base tv { P.mkr with kp := upd P.mkr.kp page (some b), tn := P.mkr.tn ++ [page] } w' := by
  have c77 := isFull77 w g o ms mk base tv P h
  rw [decide_eq_false hnf] at c77
  have c127 := fun W (hW : PoAt W g o ms mk base tv P) => makeRoom127 W g o ms mk base tv P hW hf
  have hlt := h.lt
  have HA := Lib.hid h
  have HV : Hid (BsX (fun k => k = g ∨ Xo ms mk tv k) w v b) := ⟨hv, fun ht a n c e hx => hvx a n c e ht hx⟩
  obtain ⟨vp, vc, rfl, -⟩ := hv
  have c128 := fun W (hb' : Bs W (.slice vp b.length vc) b) => sheetOf128 W _ b hb' hb
  clear h hf hvx hnf
  generalize P.mkr = Q at *
  obtain ⟨bl, hbl⟩ : ∃ bl, b.length = bl := ⟨_, rfl⟩
  rw [hbl] at HV c128 ⊢
  clear hbl
  go_enter Tryz.func74, Tryz.ntmps74
  go_wp2_with (first
    | (go_at_call 77; refine c77.mono ?_; rintro e w1 ⟨rfl, hb1⟩; have HB1 := Lib.hid hb1; have HP1 := Lib.hid (HA.out.on hb1); clear hb1)
    | (go_at_call 127; refine (c127 _ HP1.out).mono ?_; rintro e w2 ⟨rfl, hR2⟩
       have hR2' := hR2.bel HB1.out (by omega)
       obtain ⟨tv2, hP2, hK2, ht2⟩ := hR2'
       have HP2 := Lib.hid hP2
       have HK2 := Lib.hid hK2
       have HT2 := Lib.hid ht2
       have HV2 := Lib.hid (HV.out.kp hK2.kp)
       have k1 : w2.drew.cell? ⟨g, o + 2, none⟩ = some (.map (some mk)) := hP2.c2
       clear hP2 hK2 ht2 hR2))
  have HVd : Hid (Bs w2.drew (.slice vp bl vc) b) := HV2.out.1.on ((Below.refl _ _).drew)
  have hlt2 := HP2.out.lt
  go_region_with (first
    | (go_at_call 128; refine (c128 w2.drew HVd.out).mono ?_; rintro e w3 ⟨rfl, hb3⟩
       have HB3 := Lib.hid (show Below w2.heap.size w2 w3 from ((Below.refl _ _).drew).trans hb3)
       have P3 := HP2.out.on HB3.out
       have k3 := P3.c2
       obtain ⟨w4, hst, hm4, hg4, hz4⟩ := P3.k.store Tryz.underlying64 hp b
       unfold shA at hst
       have HP4 := Lib.hid (P3.putK hb hg4 hm4)
       have HG4 : Hid (Kg g o (o + 4) (Xo ms mk tv2) w2 w4) := (Kg.bel HB3.out (by omega)).trans (Kg.grown (X := Xo ms mk tv2) hg4 (.inr (.inl rfl)) (by have := HB3.out.size; omega) (fun e => HP2.out.gne.2 e.symm)) (fun k hk => .inl hk)
       clear hb3 P3 hm4 hg4 hz4))
  all_goals
    have m3 := HP4.out.c3
    have mf := HP4.out.fz
    have mo := HP4.out.tn
    have HP5 := Lib.hid (HP4.out.on (bel1 w4 (.cells #[.int .i64 (page : Int)] 3)))
    have hgl := HP4.out.lt
    obtain ⟨tp, tc, htv⟩ : ∃ tp tc, tv2 = .slice tp Q.tn.length tc := by
      rcases mo.2 with ⟨e1, e2⟩ | ⟨b', cap, cur, e1, -⟩
      · exact ⟨none, 0, by rw [e1, e2]⟩
      · exact ⟨_, cap, e1⟩
    subst htv
    clear mo
    go_wp2_with (first
      | (at_builtin
         refine wpList_appI rfl _ _ rfl base w4.heap.size _ Q.tn page rfl rfl HP5.out.tn (cell_new _ _ _) HP5.out.lt.2.2.2 (by omega) ?_
         intro v6 w6 hr6 hg6 hv6 hb6 hs6
         have hR6 := Lib.hid (HP5.out.turn hg6 hr6 hv6 hp hlen)
         have hc6 := HP5.out.grewT hg6
         have x3 : w6.cell? ⟨g, o + 3, none⟩ = _ := (hc6.1 (o + 3)).1.trans HP5.out.c3
         have xf : w6.frozen? ⟨g, o + 3, none⟩ = false := (hc6.1 (o + 3)).2.trans HP5.out.fz
         obtain ⟨g6, c6, rfl⟩ := hs6
         have hR6' := hR6.out
         rw [show (Q.tn ++ [page]).length = Q.tn.length + 1 by simp] at hR6'
         have HR6 := Lib.hid hR6'
         clear hr6 hg6 hv6 hb6 hc6 hR6 hR6'))
    go_end0
    exact ⟨rfl, PoR.next HK2.out HT2.out (PoR.next HG4.out (fun k hk => .inl hk) (HR6.out.bel (bel1 w4 _) (by omega)))⟩
set_option maxHeartbeats 1000000 in
theorem findNo73 (w : World) (g o ms mk base : Nat) (tv : Value) (P : Po) (h : PoAt w g o ms mk base tv P) (page : Nat) (hp : page < 2048) (hs : P.st page = none) (hk : P.kp page = none) :
    Calls Tryz.prog 73 #[.pointer (some ⟨g, o, none⟩), .int .i64 page] w fun e w' => e = .returned (.tuple #[.slice none 0 0, .bool false]) ∧ Below w.heap.size w w' := by
  have c1 := h.c1
  have hl := look64 h.s hp true
  rw [hs] at hl
  have hl' : (Instr.lookup 64 (.map (some ms)) (.int .i64 page) true).run Tryz.prog w = .ok (.tuple #[.agg (shc []).toArray, .bool false]) w := hl
  have HA := Lib.hid h
  have zv := zv165
  have hl0 := shc_len (b := []) (by decide)
  have hi := hi165 (b := []) (by decide)
  have h1 := shc_one []
  have hlk : ∀ W, Below w.heap.size w W → (Instr.lookup 64 (.map (some mk)) (.int .i64 page) true).run Tryz.prog W = .ok (.tuple #[.agg (shc []).toArray, .bool false]) W := fun W hW => by
    have := look64 (HA.out.on hW).k hp true
    rw [hk] at this
    exact this
  generalize shc [] = Z at *
  clear h hl hs
  go_enter Tryz.func73, Tryz.ntmps73
  go_wp2_with (first
    | (with_reducible show wpList _ _ _ (Oper.mk (some 6) (Op.alloc 165) _ _ _ _ :: _) _ _
       refine wpList_allocZ 165 _ zv rfl rfl ?_; intro w1 B1 s1 L1
       have T1 := L1.th)
    | (with_reducible show wpList _ _ _ (Oper.mk _ (Op.store 165 (Operand.tmp 6) _) _ _ _ _ :: _) _ _
       refine wpList_storeZ 165 Z hi h1 rfl _ _ rfl w.heap.size 0 rfl rfl T1 ?_
       intro w4 g4 L4 t4 r4 z4
       have B4 := B1.grown g4 B1.size (fun k e => by injection e with e; omega)
       have k2 := (HA.out.on B4).c2
       have hlk4 := hlk w4 B4
       have HB4 := Lib.hid B4
       clear B1 B4 g4 L4 t4 r4 z4 T1 L1)
    | (with_reducible show wpList _ _ _ (Oper.mk (some 8) (Op.alloc 165) _ _ _ _ :: _) _ _
       refine wpList_allocZ 165 _ zv rfl rfl ?_; intro w5 B5 s5 L5
       have T5 := L5.th)
    | (with_reducible show wpList _ _ _ (Oper.mk _ (Op.store 165 (Operand.tmp 8) _) _ _ _ _ :: _) _ _
       refine wpList_storeZ 165 Z hi h1 rfl _ _ rfl w4.heap.size 0 rfl rfl T5 ?_
       intro w6 g6 L6 t6 r6 z6))
  go_ret2
  have B6 := bel_then HB4.out B5
  exact ⟨rfl, B6.grown g6 B6.size (fun k e => by injection e with e; have := HB4.out.size; omega)⟩
set_option maxHeartbeats 1000000 in
theorem newPool49 (w : World) (room : Nat) : Calls Tryz.prog 49 #[.int .i64 room] w fun e w' => ∃ ms mk, e = .returned (.agg #[.int .i64 room, .map (some ms), .map (some mk), .slice none 0 0]) ∧ ms ≠ mk ∧ w.heap.size ≤ ms ∧ w.heap.size ≤ mk ∧ MapAt shA w' ms (fun _ => none) ∧ MapAt shA w' mk (fun _ => none) ∧ Below w.heap.size w w' := by
  have hmm := @run_makeMap Tryz.prog
  go_enter Tryz.func49, Tryz.ntmps49
  go_wp2
  obtain ⟨W1, hW1⟩ : ∃ W1, w.alloc (.cells #[.int .i64 (room : Int), .map (some (w.heap.size + 1)), .map (some (w.heap.size + 1 + 1)), .slice none 0 0] 66) = W1 := ⟨_, rfl⟩
  have hz1 : W1.heap.size = w.heap.size + 1 := by rw [← hW1]; simp
  have hk1 : W1.heap[w.heap.size]? = some (.cells #[.int .i64 (room : Int), .map (some (w.heap.size + 1)), .map (some (w.heap.size + 1 + 1)), .slice none 0 0] 66) := by rw [← hW1]; exact heap_alloc_last w _
  have hb1 : Below w.heap.size w W1 := by rw [← hW1]; exact bel1 w _
  rw [hW1]
  have b2 := bel_then (bel1 W1 (.map #[] 0)) (bel1 (W1.alloc (.map #[] 0)) (.map #[] 0))
  have hr := World.rangeAt_of_block (blk_on b2 hk1) 0 4
  refine bodyPost_ret (results_cellZ Tryz.results49 _ _ w.heap.size [.int .i64 (room : Int), .map (some (w.heap.size + 1)), .map (some (w.heap.size + 1 + 1)), .slice none 0 0] rfl (by simpa using hr) Tryz.underlying66 rfl (by kernel_rfl)) rfl ?_
  have m1 := World.ownsMap_made (H := Array Value) W1 Tryz.prog 3 secR
  have m2 := World.ownsMap_made (H := Array Value) (W1.alloc (.map #[] 0)) Tryz.prog 3 secR
  rw [hz1] at m1
  rw [World.size_alloc, hz1] at m2
  refine ⟨_, _, rfl, by omega, by omega, by omega, ⟨0, .map [], m1.alloc _, tieM_none⟩, ⟨0, .map [], m2, tieM_none⟩, bel_then hb1 b2⟩
/-! ### settle -/
/-- The first i of some pages are kept as they are staged. -/
def kpTo (P : Po) (L : List Nat) (i : Nat) : Nat → Option (List UInt8) := fun k => if k ∈ L.take i then P.st k else P.kp k
def Po.settle (P : Po) : Po := { P with kp := fun k => if k ∈ keysM P.st then P.st k else P.kp k, st := fun _ => none, tn := P.tn ++ keysM P.st }
theorem kpTo_succ (P : Po) {L : List Nat} {i : Nat} (hi : i < L.length) {b : List UInt8} (hb : P.st L[i] = some b) : kpTo P L (i + 1) = upd (kpTo P L i) L[i] (some b) := by
  funext k
  unfold upd kpTo
  rw [List.take_add_one, List.getElem?_eq_getElem hi]
  by_cases e : k = L[i]
  · rw [if_pos e, if_pos (by rw [e]; exact List.mem_append.2 (.inr (by simp))), e, hb]
  · rw [if_neg e]
    by_cases h : k ∈ L.take i
    · rw [if_pos h, if_pos (List.mem_append.2 (.inl h))]
    · rw [if_neg h, if_neg (fun hm => by
        rcases List.mem_append.1 hm with hm | hm
        · exact h hm
        · simp at hm; exact e hm)]
set_option maxHeartbeats 4000000 in
set_option maxRecDepth 100000 in
theorem settle135 (w : World) (g o ms mk base : Nat) (tv : Value) (P : Po) (h : PoAt w g o ms mk base tv P) (hlen : P.tn.length + (keysM P.st).length ≤ 2048) :
    Calls Tryz.prog 135 #[.pointer (some ⟨g, o, none⟩)] w fun e w' => e = .returned (.tuple #[]) ∧ PoR w g o ms mk base tv P.settle w' := by
  have c131 := stagedPages131 w g o ms mk base tv P h
  have HA := Lib.hid h
  have hlt := h.lt
  obtain ⟨L, hL⟩ : ∃ L, keysM P.st = L := ⟨_, rfl⟩
  have HLm : Hid (∀ x, x ∈ L → x < 2048 ∧ ∃ b, P.st x = some b ∧ b.length ≤ 448) := fun x hx => by
    rw [← hL] at hx
    have hm := mem_keysM.1 hx
    obtain ⟨b, hb⟩ := Option.isSome_iff_exists.1 hm.2
    exact ⟨hm.1, b, hb, HA.out.ls _ b hb⟩
  have HS : Hid (P.settle = { P with kp := kpTo P L L.length, st := fun _ => none, tn := P.tn ++ L }) := by
    show _ = _
    unfold Po.settle kpTo
    rw [hL, List.take_of_length_le (Nat.le_refl _)]
  rw [hL] at c131 hlen
  clear h hL
  go_enter Tryz.func135, Tryz.ntmps135
  go_wp2_with (first | (go_at_call 131; refine c131.mono ?_; rintro e w1 ⟨v, rfl, hrow, hB1⟩
                        obtain ⟨q, cap, rfl, hLc⟩ := row_at hrow
                        have HB1 := Lib.hid hB1
                        have HLc := Lib.hid hLc
                        clear hB1 hLc hrow))
  have HP0 := Lib.hid (HA.out.on HB1.out)
  have hz1 := HB1.out.size
  have htvb : Hid (∀ k, tv.ownBlock = some k → k < w.heap.size) := fun k hk => (HA.out.tvb hk).2
  go_loopg [7] L.length (fun gk s7 wr => ∃ i : Nat, i + gk = L.length ∧ s7 = .int .i64 i ∧ Hid (PoR w1 g o ms mk base tv { P with kp := kpTo P L i, tn := P.tn ++ L.take i } wr))
  case atStart =>
    refine ⟨0, by omega, rfl, tv, ?_, Kg.refl _ _ _ _ _, fun k hk => .inl hk⟩
    have e : ({ P with kp := kpTo P L 0, tn := P.tn ++ L.take 0 } : Po) = P := by
      have : kpTo P L 0 = P.kp := by funext k; unfold kpTo; rw [List.take_zero, if_neg (by simp)]
      rw [this, List.take_zero, List.append_nil]
    rw [e]
    exact HP0.out
  case round =>
    obtain ⟨i, hgi, rfl, hR⟩ := hrel
    obtain ⟨tvi, hPi, hKi, hti⟩ := hR.out
    have HPi := Lib.hid hPi
    have HKi := Lib.hid hKi
    have HTi := Lib.hid hti
    have c1 := hPi.c1
    have hlti := hPi.lt
    cases gk with
    | zero =>
      obtain rfl : i = L.length := by omega
      obtain ⟨w9, hcl, hm9, hg9, hz9⟩ := hPi.s.clear Tryz.underlying64 0
      have hcl' : (Builtin.clear_ #[64] 0 #[.map (some ms)]).run Tryz.prog wr = .ok (.tuple #[]) w9 := hcl
      have HR9 : Hid (PoR w1 g o ms mk base tv P.settle w9) := by
        show PoR _ _ _ _ _ _ _ _ _
        have hne := hPi.gne
        have hk := fun k (hk : k < wr.heap.size) (hne : k ≠ ms) => hg9.block k hk (fun e => hne (by injection e))
        have hc := fun i => World.cell?_of_block (w := wr) (a := ⟨g, i, none⟩) (hk g (by omega) hne.1)
        rw [HS.out]
        refine PoR.next hKi hti ⟨tvi, ?_, Kg.grown (X := Xo ms mk tvi) hg9 (.inl rfl) (by omega) (fun e => hne.1 e.symm), fun k hk => .inl hk⟩
        rw [List.take_of_length_le (Nat.le_refl _)] at hPi
        exact { hPi with c0 := (hc _).trans hPi.c0, c1 := (hc _).trans hPi.c1, c2 := (hc _).trans hPi.c2, c3 := (hc _).trans hPi.c3, fz := (World.frozen?_of_block (w := wr) (a := ⟨g, o + 3, none⟩) (hk g (by omega) hne.1)).trans hPi.fz, tn := own_same hPi.tn (fun k hb hl => hk k hl (by omega)), s := hm9, k := hPi.k.blk (hk mk (by omega) (fun e => hPi.ne e.symm)), lt := ⟨hlti.1, hlti.2.1, hlti.2.2.1, Nat.le_trans hlti.2.2.2 hg9.size⟩, ls := fun p b hb => (by cases hb) }
      clear hPi hKi hti hR hm9 hg9 hz9 hcl
      go_wp2
      go_end0
      exact ⟨rfl, HR9.out.bel HB1.out (by omega)⟩
    | succ k =>
      have hi : i < L.length := by omega
      have hiz : (i : Int) < (L.length : Int) := by omega
      have hi0 : (0 : Int) ≤ (i : Int) := by omega
      obtain ⟨rb, rfl, hrb1, hrb2, hrc⟩ := HLc.out.resolve_left (fun e => by rw [e] at hi; cases hi)
      obtain ⟨pg, hpg⟩ : ∃ pg, L[i] = pg := ⟨_, rfl⟩
      obtain ⟨hpl, b, hpb, hbl⟩ := HLm.out pg (by rw [← hpg]; exact List.getElem_mem hi)
      have hcel : wr.cell? ⟨rb, i, none⟩ = some (.int .i64 (pg : Int)) := by
        have h1 := hrc i hi
        rw [hpg] at h1
        have hbk := hKi.kp.block rb (by omega) (fun hx => by
          rcases hx with hx | hx | hx | hx
          · omega
          · omega
          · omega
          · have := htvb.out _ hx; omega)
        exact (World.cell?_of_block (w := w1) (a := ⟨rb, i, none⟩) hbk).trans h1
      have k2 : wr.drew.cell? ⟨g, o + 2, none⟩ = some (.map (some mk)) := hPi.c2
      have k1 : wr.drew.cell? ⟨g, o + 1, none⟩ = some (.map (some ms)) := hPi.c1
      have Pd : PoAt wr.drew g o ms mk base tvi { P with kp := kpTo P L i, tn := P.tn ++ L.take i } := hPi.on ((Below.refl _ _).drew)
      have hlk := look64 Pd.s hpl false
      have hst0 : ({ P with kp := kpTo P L i, tn := P.tn ++ L.take i } : Po).st pg = some b := hpb
      rw [hst0] at hlk
      have hlk' : (Instr.lookup 64 (.map (some ms)) (.int .i64 (pg : Int)) false).run Tryz.prog wr.drew = .ok (.agg (shA b)) wr.drew := hlk
      obtain ⟨w4, hst, hm4, hg4, hz4⟩ := Pd.k.store Tryz.underlying64 hpl b
      have P4 := Pd.putK hbl hg4 hm4
      have hkk := kpTo_succ P hi (by rw [hpg]; exact hpb)
      rw [hpg] at hkk
      have P4' : PoAt w4 g o ms mk base tvi { P with kp := kpTo P L (i + 1), tn := P.tn ++ L.take i } := by rw [hkk]; exact P4
      have HP4 := Lib.hid P4'
      have HG4 : Hid (Kg g o (o + 4) (Xo ms mk tvi) wr w4) := (Kg.bel ((Below.refl _ _).drew) (by omega)).trans (Kg.grown (X := Xo ms mk tvi) hg4 (.inr (.inl rfl)) (by show g < wr.heap.size; omega) (fun e => HPi.out.gne.2 e.symm)) (fun k hk => .inl hk)
      have m3 := P4'.c3
      have mf := P4'.fz
      have HP5 := Lib.hid (P4'.on (bel1 w4 (.cells #[.int .i64 (pg : Int)] 3)))
      have hgl := P4'.lt
      have hTl : (P.tn ++ L.take i).length = P.tn.length + i := by rw [List.length_append, List.length_take]; omega
      obtain ⟨tp, tc, htv⟩ : ∃ tp tc, tvi = .slice tp (P.tn ++ L.take i).length tc := by
        rcases P4'.tn.2 with ⟨e1, e2⟩ | ⟨b', cap, cur, e1, -⟩
        · exact ⟨none, 0, by rw [e1, e2]⟩
        · exact ⟨_, cap, e1⟩
      have HTK : Hid ((P.tn ++ L.take i) ++ [pg] = P.tn ++ L.take (i + 1)) := by
        show _ = _
        rw [List.take_add_one, List.getElem?_eq_getElem hi, hpg, List.append_assoc]
        rfl
      subst htv
      have HPN : Hid (∀ X : World → World → Prop, True) := fun _ => trivial
      generalize P.tn ++ L.take i = TN at *
      have HTl := Lib.hid hTl
      clear hTl
      clear hPi hKi hti hR Pd hlk P4 P4' hm4 hg4 hz4 hkk hst0
      generalize shA b = SB at *
      go_wp2
      go_region
      go_wp2_with (first
        | (at_builtin
           refine wpList_appI rfl _ _ rfl base w4.heap.size _ TN pg rfl rfl HP5.out.tn (cell_new _ _ _) HP5.out.lt.2.2.2 (by have := HTl.out; omega) ?_
           intro v6 w6 hr6 hg6 hv6 hb6 hs6
           have hR6 := Lib.hid (HP5.out.turn hg6 hr6 hv6 hpl (by show TN.length < 2048; have := HTl.out; omega))
           have hc6 := HP5.out.grewT hg6
           have x3 : w6.cell? ⟨g, o + 3, none⟩ = _ := (hc6.1 (o + 3)).1.trans HP5.out.c3
           have xf : w6.frozen? ⟨g, o + 3, none⟩ = false := (hc6.1 (o + 3)).2.trans HP5.out.fz
           obtain ⟨g6, c6, rfl⟩ := hs6
           have hR6' := hR6.out
           rw [show (TN ++ [pg]).length = TN.length + 1 by simp] at hR6'
           have HR6 := Lib.hid hR6'
           clear hr6 hg6 hv6 hb6 hc6 hR6 hR6'))
      go_roundg k
      case measure => omega
      case rel =>
        refine ⟨i + 1, by omega, by first | rfl | simp, ?_⟩
        show PoR _ _ _ _ _ _ _ _ _
        rw [← HTK.out]
        exact PoR.next HKi.out HTi.out (PoR.next HG4.out (fun k hk => .inl hk) (HR6.out.bel (bel1 w4 _) (by omega)))
end Go.Proofs.YtfakgfmgofblgaaGreatDoor
namespace Go.Proofs.YtfakgfmgofblgaaGreatDoor
open Go.RowKit Go.Maps
set_option linter.unusedVariables false      -- a walk need not use every condition
attribute [local go_sem ↓] Go.wp_at_zero Go.wp_at_succ

structure Spot where
  slot : Nat
  frames : Nat
  at_ : Nat
  len : Nat
def spA (x : Spot) : Array Value := #[.int .i64 x.slot, .int .i64 x.frames, .int .i64 x.at_, .int .i64 x.len]
structure Pgr where
  slots : Nat
  pages : Nat
  was : Ba
  now : Ba
  mv : Bool
  rw : Bool
  po : Po
  lg : Nat → Option Spot
  br : Bool
/-- The pager's own cells, and the map of what is logged. -/
structure PAt (w : World) (d l p ms mk ml base : Nat) (tv : Value) (P : Pgr) : Prop where
  h0 : w.cell? ⟨p, 0, none⟩ = some (.pointer (some ⟨d, 0, none⟩))
  h1 : w.cell? ⟨p, 1, none⟩ = some (.pointer (some ⟨l, 0, none⟩))
  h2 : w.cell? ⟨p, 2, none⟩ = some (.int .i64 P.slots)
  h3 : w.cell? ⟨p, 3, none⟩ = some (.int .i64 P.pages)
  was : BaAt w p 4 P.was
  now : BaAt w p 264 P.now
  mv : w.cell? ⟨p, 524, none⟩ = some (.bool P.mv)
  rw : w.cell? ⟨p, 525, none⟩ = some (.bool P.rw)
  po : PoAt w p 526 ms mk base tv P.po
  lc : w.cell? ⟨p, 530, none⟩ = some (.map (some ml))
  lg : MapAt spA w ml P.lg
  br : w.cell? ⟨p, 531, none⟩ = some (.bool P.br)
  fz : ∀ i, i = 524 ∨ i = 525 ∨ i = 531 → w.frozen? ⟨p, i, none⟩ = false
  ml : ml < base ∧ ml ≠ ms ∧ ml ≠ mk
  sl : 1 ≤ P.slots ∧ P.slots ≤ 4096
  pg : 2 ≤ P.pages ∧ P.pages ≤ 2048
/-- The blocks of a pager, its disk's and its log's aside. -/
def Xp (p ms mk ml : Nat) (tv : Value) (k : Nat) : Prop := k = p ∨ k = ms ∨ k = mk ∨ k = ml ∨ tv.ownBlock = some k
theorem PAt.pne {w : World} {d l p ms mk ml base : Nat} {tv : Value} {P : Pgr} (h : PAt w d l p ms mk ml base tv P) : p ≠ ms ∧ p ≠ mk ∧ p ≠ ml ∧ p < base := by
  refine ⟨h.po.gne.1, h.po.gne.2, ?_, h.po.lt.1⟩
  rintro rfl
  have := h.lg.ncell 0
  rw [h.h0] at this; cases this
theorem PAt.kp {w w' : World} {d l p ms mk ml base : Nat} {tv : Value} {P : Pgr} {X : Nat → Prop} (h : PAt w d l p ms mk ml base tv P) (hk : Kp X w w') (hx : ∀ k, Xp p ms mk ml tv k → ¬ X k) : PAt w' d l p ms mk ml base tv P := by
  have l' := h.po.lt
  have hp := hk.block p (by omega) (hx _ (.inl rfl))
  have hc := fun i => World.cell?_of_block (w := w) (a := ⟨p, i, none⟩) hp
  have hf := fun i => World.frozen?_of_block (w := w) (a := ⟨p, i, none⟩) hp
  exact { h with h0 := (hc _).trans h.h0, h1 := (hc _).trans h.h1, h2 := (hc _).trans h.h2, h3 := (hc _).trans h.h3, was := h.was.blk hp, now := h.now.blk hp, mv := (hc _).trans h.mv, rw := (hc _).trans h.rw, po := h.po.kp2 hk (fun i _ _ => ⟨hc i, hf i⟩) (fun k hk' => hx k (by
      rcases hk' with e | e | e
      · exact .inr (.inl e)
      · exact .inr (.inr (.inl e))
      · exact .inr (.inr (.inr (.inr e))))), lc := (hc _).trans h.lc, lg := h.lg.blk (hk.block ml (by have := h.ml; omega) (hx _ (.inr (.inr (.inr (.inl rfl)))))), br := (hc _).trans h.br, fz := fun i hi => (hf i).trans (h.fz i hi) }
theorem PAt.on {w w' : World} {d l p ms mk ml base : Nat} {tv : Value} {P : Pgr} (h : PAt w d l p ms mk ml base tv P) (hb : Below w.heap.size w w') : PAt w' d l p ms mk ml base tv P := h.kp (X := fun _ => False) (Kp.bel hb) (fun _ _ h => h)
theorem made59 (w : World) (d l p ms mk ml base : Nat) (tv : Value) (P : Pgr) (h : PAt w d l p ms mk ml base tv P) : Calls Tryz.prog 59 #[.pointer (some ⟨p, 0, none⟩)] w fun e w' => e = .returned (.bool true) ∧ w' = w := by
  have h3 := h.h3
  have hp : (0 : Int) < (P.pages : Int) := by have := h.pg; omega
  clear h
  go_enter Tryz.func59, Tryz.ntmps59
  go_wp2
  go_ret
  exact ⟨by simp; omega, rfl⟩
def Pgr.ready (P : Pgr) : Int := if P.br then 62 else 0
theorem ready63 (w : World) (d l p ms mk ml base : Nat) (tv : Value) (P : Pgr) (h : PAt w d l p ms mk ml base tv P) : Calls Tryz.prog 63 #[.pointer (some ⟨p, 0, none⟩)] w fun e w' => e = .returned (.int .i64 P.ready) ∧ w' = w := by
  have c := made59 w d l p ms mk ml base tv P h
  have hb := h.br
  clear h
  unfold Pgr.ready
  generalize P.br = x at *
  cases x
  all_goals
    go_enter Tryz.func63, Tryz.ntmps63
    go_wp2_with (first | (go_at_call 59; refine c.mono ?_; rintro e w' ⟨rfl, rfl⟩))
    go_ret
    exact ⟨rfl, rfl⟩
/-- Why nothing is done with a page. -/
def Pgr.reach (P : Pgr) (n : Int) : Int := if P.br then 62 else if 1 ≤ n ∧ n < P.pages ∧ P.now.has n.toNat then 0 else 4
set_option maxHeartbeats 1000000 in
theorem reach72 (w : World) (d l p ms mk ml base : Nat) (tv : Value) (P : Pgr) (h : PAt w d l p ms mk ml base tv P) (n : Int) : Calls Tryz.prog 72 #[.pointer (some ⟨p, 0, none⟩), .int .i64 n] w fun e w' => e = .returned (.int .i64 (P.reach n)) ∧ w' = w := by
  have c := ready63 w d l p ms mk ml base tv P h
  have h3 := h.h3
  have hpg := h.pg
  have HN := Lib.hid h.now
  unfold Pgr.ready at c
  unfold Pgr.reach
  clear h
  cases hb : P.br with
  | true =>
    rw [hb, if_pos rfl] at c
    rw [if_pos rfl]
    go_enter Tryz.func72, Tryz.ntmps72
    go_wp2_with (first | (go_at_call 63; refine c.mono ?_; rintro e w' ⟨rfl, rfl⟩))
    go_ret
    exact ⟨rfl, rfl⟩
  | false =>
    rw [hb, if_neg (by decide)] at c
    rw [if_neg (by decide)]
    by_cases h1 : 1 ≤ n
    · by_cases h2 : n < P.pages
      · obtain ⟨k, rfl⟩ : ∃ k : Nat, n = k := ⟨n.toNat, by omega⟩
        have cH := has111 w p 264 P.now HN.out k (by omega)
        rw [Int.toNat_natCast]
        have hlt : ¬ ((k : Int) < 1) := by omega
        have hge : ¬ ((P.pages : Int) ≤ (k : Int)) := by omega
        cases hh : P.now.has k with
        | true =>
          rw [hh] at cH
          rw [if_pos ⟨h1, h2, rfl⟩]
          go_enter Tryz.func72, Tryz.ntmps72
          go_wp2_with (first | (go_at_call 63; refine c.mono ?_; rintro e w' ⟨rfl, ew⟩; rw [ew]; clear ew w') | (go_at_call 111; refine cH.mono ?_; rintro e w' ⟨rfl, ew⟩; rw [ew]; clear ew w'))
          go_ret
          exact ⟨rfl, rfl⟩
        | false =>
          rw [hh] at cH
          rw [if_neg (fun e => by cases e.2.2)]
          go_enter Tryz.func72, Tryz.ntmps72
          go_wp2_with (first | (go_at_call 63; refine c.mono ?_; rintro e w' ⟨rfl, ew⟩; rw [ew]; clear ew w') | (go_at_call 111; refine cH.mono ?_; rintro e w' ⟨rfl, ew⟩; rw [ew]; clear ew w'))
          go_ret
          exact ⟨rfl, rfl⟩
      · rw [if_neg (fun e => h2 e.2.1)]
        have hge : (P.pages : Int) ≤ n := by omega
        go_enter Tryz.func72, Tryz.ntmps72
        go_wp2_with (first | (go_at_call 63; refine c.mono ?_; rintro e w' ⟨rfl, ew⟩; rw [ew]; clear ew w'))
        go_ret
        exact ⟨rfl, rfl⟩
    · rw [if_neg (fun e => h1 e.1)]
      go_enter Tryz.func72, Tryz.ntmps72
      go_wp2_with (first | (go_at_call 63; refine c.mono ?_; rintro e w' ⟨rfl, ew⟩; rw [ew]; clear ew w'))
      go_ret
      exact ⟨rfl, rfl⟩
def Pgr.reachW (P : Pgr) (n : Int) : Int := if P.br then 62 else if 0 ≤ n ∧ n < 4 then 0 else 1
theorem reachWord80 (w : World) (d l p ms mk ml base : Nat) (tv : Value) (P : Pgr) (h : PAt w d l p ms mk ml base tv P) (n : Int) : Calls Tryz.prog 80 #[.pointer (some ⟨p, 0, none⟩), .int .i64 n] w fun e w' => e = .returned (.int .i64 (P.reachW n)) ∧ w' = w := by
  have c := ready63 w d l p ms mk ml base tv P h
  unfold Pgr.ready at c
  unfold Pgr.reachW
  clear h
  cases hb : P.br with
  | true =>
    rw [hb, if_pos rfl] at c
    rw [if_pos rfl]
    go_enter Tryz.func80, Tryz.ntmps80
    go_wp2_with (first | (go_at_call 63; refine c.mono ?_; rintro e w' ⟨rfl, rfl⟩))
    go_ret
    exact ⟨rfl, rfl⟩
  | false =>
    rw [hb, if_neg (by decide)] at c
    rw [if_neg (by decide)]
    by_cases h1 : 0 ≤ n
    · by_cases h2 : n < 4
      · rw [if_pos ⟨h1, h2⟩]
        go_enter Tryz.func80, Tryz.ntmps80
        go_wp2_with (first | (go_at_call 63; refine c.mono ?_; rintro e w' ⟨rfl, ew⟩; rw [ew]; clear ew w'))
        go_ret
        exact ⟨rfl, rfl⟩
      · rw [if_neg (fun e => h2 e.2)]
        go_enter Tryz.func80, Tryz.ntmps80
        go_wp2_with (first | (go_at_call 63; refine c.mono ?_; rintro e w' ⟨rfl, ew⟩; rw [ew]; clear ew w'))
        go_ret
        exact ⟨rfl, rfl⟩
    · rw [if_neg (fun e => h1 e.1)]
      go_enter Tryz.func80, Tryz.ntmps80
      go_wp2_with (first | (go_at_call 63; refine c.mono ?_; rintro e w' ⟨rfl, ew⟩; rw [ew]; clear ew w'))
      go_ret
      exact ⟨rfl, rfl⟩
/-- What Word answers. -/
def Pgr.word (P : Pgr) (n : Int) : Int × Int := if P.reachW n ≠ 0 then (0, P.reachW n) else (P.now.wd n.toNat, 0)
theorem word30 (w : World) (d l p ms mk ml base : Nat) (tv : Value) (P : Pgr) (h : PAt w d l p ms mk ml base tv P) (n : Int) : Calls Tryz.prog 30 #[.pointer (some ⟨p, 0, none⟩), .int .i64 n] w fun e w' => e = .returned (.tuple #[.int .i64 (P.word n).1, .int .i64 (P.word n).2]) ∧ w' = w := by
  have c := reachWord80 w d l p ms mk ml base tv P h n
  unfold Pgr.word
  by_cases hr : P.reachW n = 0
  · rw [if_neg (fun e => e hr)]
    rw [hr] at c
    have hn : 0 ≤ n ∧ n < 4 := by
      unfold Pgr.reachW at hr
      split at hr
      · cases hr
      · split at hr
        · assumption
        · cases hr
    obtain ⟨k, rfl⟩ : ∃ k : Nat, n = k := ⟨n.toNat, by omega⟩
    have hw := h.now.word (i := k) (by omega)
    have hk4 := hn.2
    have hk0 := hn.1
    rw [Int.toNat_natCast]
    clear h hr hn
    generalize P.now.wd k = x at *
    go_enter Tryz.func30, Tryz.ntmps30
    go_wp2_with (first | (go_at_call 80; refine c.mono ?_; rintro e w' ⟨rfl, ew⟩; rw [ew]; clear ew w'))
    go_ret2
    exact ⟨rfl, rfl⟩
  · rw [if_pos hr]
    have hb : (P.reachW n != 0) = true := by simpa using hr
    generalize P.reachW n = q at *
    clear h
    go_enter Tryz.func30, Tryz.ntmps30
    go_wp2_with (first | (go_at_call 80; refine c.mono ?_; rintro e w' ⟨rfl, ew⟩; rw [ew]; clear ew w'))
    go_ret2
    exact ⟨rfl, rfl⟩
theorem left15 (w : World) (d l p ms mk ml base : Nat) (tv : Value) (P : Pgr) (h : PAt w d l p ms mk ml base tv P) : Calls Tryz.prog 15 #[.pointer (some ⟨p, 0, none⟩)] w fun e w' => e = .returned (.int .i64 ((P.pages : Int) - (P.now.count : Int))) ∧ Below w.heap.size w w' := by
  have c := made59 w d l p ms mk ml base tv P h
  have cc := fun (W : World) (hb : BaAt W p 264 P.now) => count60 W p 264 P.now hb
  have HN := Lib.hid h.now
  have h3 := h.h3
  have hpg := h.pg
  have hcl := Ba.count_le h.now.ok
  have e1 : IntKind.i64.wrap ((P.pages : Int) - (P.now.count : Int)) = (P.pages : Int) - (P.now.count : Int) := by rw [IntKind.wrap_i64]; omega
  have h3d : w.drew.cell? ⟨p, 3, none⟩ = some (.int .i64 P.pages) := h.h3
  clear h
  generalize P.now.count = n at *
  go_enter Tryz.func15, Tryz.ntmps15
  go_wp2_with (first | (go_at_call 59; refine c.mono ?_; rintro e w' ⟨rfl, ew⟩; rw [ew]; clear ew w'))
  go_region_with (first | (go_at_call 60; refine (cc w.drew (HN.out.blk rfl)).mono ?_; rintro e w' ⟨rfl, ew⟩; rw [ew]; clear ew w'))
  all_goals
    go_wp2
    go_ret
    exact ⟨rfl, (Below.refl _ _).drew⟩
theorem pages14 (w : World) (d l p ms mk ml base : Nat) (tv : Value) (P : Pgr) (h : PAt w d l p ms mk ml base tv P) : Calls Tryz.prog 14 #[.pointer (some ⟨p, 0, none⟩)] w fun e w' => e = .returned (.int .i64 P.pages) ∧ w' = w := by
  have c := made59 w d l p ms mk ml base tv P h
  have h3 := h.h3
  clear h
  go_enter Tryz.func14, Tryz.ntmps14
  go_wp2_with (first | (go_at_call 59; refine c.mono ?_; rintro e w' ⟨rfl, ew⟩; rw [ew]; clear ew w'))
  go_ret
  exact ⟨rfl, rfl⟩
end Go.Proofs.YtfakgfmgofblgaaGreatDoor
