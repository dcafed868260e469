/-
  What Frames and commitBytes of package wal do, and commit of the document.
  What commit of the document does.
  Bytes that are sliced off, wherever they lie: b[lo:] and b[lo:hi].
  What recordsOf of package wal does: the records whose bytes these are.
  The small functions of a layout: sectorOf, mayBe, note, layoutOf; madeDisk, damageOr.
-/
import Derived.Test.YtfakgfmgofblgaaGreatDoorZNumpNumTFuseLgLs
import Derived.Test.YtfakgfmgofblgaaGreatDoorZFrmPutnClnAppJn
import Derived.Test.YtfakgfmgofblgaaGreatDoorZVntWmCtmRctBsx
import Derived.Shelf.RegionOpen
namespace Go.Proofs.YtfakgfmgofblgaaGreatDoor
open Go.RowKit Go.Maps
set_option linter.unusedVariables false      -- a walk need not use every condition
attribute [local go_sem ↓] Go.wp_at_zero Go.wp_at_succ

theorem cell_on {w w' : World} {g o : Nat} {x : Value} (hb : Below w.heap.size w w') (h : w.cell? ⟨g, o, none⟩ = some x) : w'.cell? ⟨g, o, none⟩ = some x :=
  (World.cell?_of_block (w := w) (a := ⟨g, o, none⟩) (hb.block _ (World.block_lt_of_cell? w ⟨g, o, none⟩ h))).trans h
theorem rsb_succ (rs : Rs) {i : Nat} (h : i < rs.length) : rsb (rs.take (i + 1)) = rsb (rs.take i) ++ (vnt rs[i].length ++ rs[i]) := by
  rw [List.take_succ_eq_append_getElem h, rsb_app, rsb_cons, rsb_nil, List.append_nil]
theorem rsb_take_le (rs : Rs) (i : Nat) : (rsb (rs.take i)).length ≤ (rsb rs).length := by
  have h := List.take_append_drop i rs
  have h2 : rsb rs = rsb (rs.take i) ++ rsb (rs.drop i) := by rw [← rsb_app, h]
  rw [h2]; simp
theorem rsb_len (rs : Rs) : rs.length ≤ (rsb rs).length := by
  induction rs with
  | nil => simp
  | cons r rs ih =>
    rw [rsb_cons]
    have := vnt_pos r.length
    simp
    omega
theorem cby_len (rs : Rs) : (cby rs).length = (vnt rs.length).length + (rsb rs).length := by simp [cby]
theorem numberLen132 (n : Nat) (hn : n ≤ 140737488355328) (w : World) : Calls Tryz.prog 132 #[.int .i64 n] w fun e w' => e = .returned (.int .i64 (vnt n).length) ∧ Below w.heap.size w w' := by
  have c := put141 n (by omega) w
  have hw : IntKind.u64.wrap (n : Int) = (n : Int) := by rw [IntKind.wrap_u64]; omega
  generalize vnt n = E at *
  go_enter Tryz.func132, Tryz.ntmps132
  go_wp2_with (first | (go_at_call 141; refine c.mono ?_; rintro e w1 ⟨v1, rfl, hb1, hB1⟩; obtain ⟨p, cap, rfl, -⟩ := hb1.bs; clear hb1))
  go_ret
  exact ⟨rfl, hB1⟩
set_option maxHeartbeats 1000000 in
set_option maxRecDepth 100000 in
theorem frames86 (w : World) (v : Value) (rs : Rs) (hv : Bss w v rs) (hlen : (cby rs).length ≤ 4398046511104) :
    Calls Tryz.prog 86 #[v] w fun e w' => e = .returned (.int .i64 (pn (cby rs))) ∧ Below w.heap.size w w' := by
  have HV := Lib.hid hv
  obtain ⟨p, cap, rfl, -⟩ := hv
  have hl := rsb_len rs
  have hcl := cby_len rs
  have hv10 := vnt_le rs.length
  have hnz : rs.length ≤ 4398046511104 := by omega
  have c0 := numberLen132 rs.length (by omega)
  have cN := fun (n : Nat) hn => numberLen132 n hn
  obtain ⟨V, hV⟩ : ∃ V, (vnt rs.length).length = V := ⟨_, rfl⟩
  rw [hV] at c0 hcl hv10
  have HPN : Hid (pn (cby rs) = (V + (rsb rs).length + 111) / 112) := by show _ = _; unfold pn; rw [hcl]
  have HTot : Hid (V + (rsb rs).length ≤ 4398046511104) := by show _ ≤ _; omega
  generalize pn (cby rs) = PN at *
  clear hcl hV hlen hl
  go_enter Tryz.func86, Tryz.ntmps86
  go_wp2_with (first | (go_at_call 132; refine (c0 _).mono ?_; rintro e w1 ⟨rfl, hB1⟩))
  clear c0
  have HB1 := Lib.hid hB1
  clear hB1
  go_loopg [3, 11] rs.length (fun g s3 s11 wr => ∃ i T : Nat, i + g = rs.length ∧ s11 = .int .i64 i ∧ s3 = .int .i64 T ∧ Hid (T = V + (rsb (rs.take i)).length) ∧ Hid (Below w.heap.size w wr))
  case atStart => exact ⟨0, V, by omega, rfl, rfl, by show V = V + _; rw [List.take_zero]; rfl, HB1.out⟩
  case round =>
    obtain ⟨i, T, hig, rfl, rfl, hT, hb⟩ := hrel
    cases gk with
    | zero =>
      obtain rfl : i = rs.length := by omega
      have hT' := hT.out
      rw [List.take_length] at hT'
      have h1 := HTot.out
      have h2 := HPN.out
      have e1 : IntKind.i64.wrap ((T : Int) + 112) = (T : Int) + 112 := by rw [IntKind.wrap_i64]; omega
      have e2 : IntKind.i64.wrap ((T : Int) + 112 - 1) = (T : Int) + 112 - 1 := by rw [IntKind.wrap_i64]; omega
      have e3 : ((T : Int) + 112 - 1).tdiv 112 = (PN : Int) := by rw [Int.tdiv_eq_ediv_of_nonneg (by omega)]; omega
      have e4 : IntKind.i64.wrap (PN : Int) = (PN : Int) := by rw [IntKind.wrap_i64]; omega
      clear hT hT' h1 h2
      go_wp2
      go_ret
      exact ⟨by first | rfl | (congr 2), hb.out⟩
    | succ g =>
      have hi : i < rs.length := by omega
      have hiz : (i : Int) < (rs.length : Int) := by omega
      have hi0 : (0 : Int) ≤ (i : Int) := by omega
      obtain ⟨p', cap', e, hel⟩ := HV.out.on hb.out
      injection e with e1 e2 e3
      subst e1 e3
      obtain ⟨b, o, rfl, hel2⟩ := hel.resolve_left (fun e => by rw [e] at hi; simp at hi)
      obtain ⟨x, hx, hxB⟩ := hel2 i hi
      have hsu := rsb_succ rs hi
      have hle := rsb_take_le rs (i + 1)
      have hU := hxB.len
      obtain ⟨xp, xc, rfl, -⟩ := hxB
      have c1 := cN rs[i].length (by unfold maxLen at hU; have := HTot.out; have := congrArg List.length hsu; simp at this; omega)
      have hS : Hid ((rsb (rs.take (i + 1))).length = (rsb (rs.take i)).length + ((vnt rs[i].length).length + rs[i].length)) := by show _ = _; rw [hsu]; simp
      have hT2 := hT.out
      have hTot2 := HTot.out
      generalize (vnt rs[i].length).length = A at *
      generalize rs[i].length = U at *
      have hS2 := hS.out
      have e1 : IntKind.i64.wrap ((A : Int) + (U : Int)) = ((A + U : Nat) : Int) := by rw [IntKind.wrap_i64]; omega
      have e2 : IntKind.i64.wrap ((T : Int) + ((A + U : Nat) : Int)) = ((T + (A + U) : Nat) : Int) := by rw [IntKind.wrap_i64]; omega
      have hT3 : Hid (T + (A + U) = V + (rsb (rs.take (i + 1))).length) := by show _ = _; omega
      have HE2 : Hid (wrap64 ((T : Int) + ((A : Int) + (U : Int))) = (T : Int) + ((A : Int) + (U : Int))) := by show _ = _; unfold wrap64; omega
      clear hel hel2 hsu hle hU hT2 hTot2 hS2 hS
      go_wp2_with (first | (go_at_call 132; refine (c1 _).mono ?_; rintro e w2 ⟨rfl, hB2⟩))
      have HB2 := Lib.hid (hb.out.trans (hB2.mono hb.out.size))
      clear hB2
      go_roundg g
      case measure => omega
      case rel => exact ⟨i + 1, T + (A + U), by omega, by first | rfl | simp, by first | rfl | (simp; exact HE2.out), hT3, HB2⟩
set_option maxHeartbeats 1000000 in
set_option maxRecDepth 100000 in
theorem commitBytes169 (w : World) (v : Value) (rs : Rs) (hv : Bss w v rs) (hlen : (cby rs).length ≤ 4398046511104) :
    Calls Tryz.prog 169 #[v] w fun e w' => ∃ v', e = .returned v' ∧ Bts w' w.heap.size v' (cby rs) ∧ Below w.heap.size w w' := by
  have HV := Lib.hid hv
  obtain ⟨p, cap, rfl, -⟩ := hv
  have hl := rsb_len rs
  have hcl := cby_len rs
  have hnz : rs.length ≤ 4398046511104 := by omega
  have c0 := put141 rs.length (by omega)
  have cN := fun (n : Nat) hn => put141 n hn
  have hw : IntKind.u64.wrap (rs.length : Int) = (rs.length : Int) := by rw [IntKind.wrap_u64]; omega
  have HC : Hid (cby rs = vnt rs.length ++ rsb rs) := rfl
  obtain ⟨V, hV⟩ : ∃ V, vnt rs.length = V := ⟨_, rfl⟩
  rw [hV] at c0 hcl
  have HC2 : Hid (cby rs = V ++ rsb rs) := by show _ = _; rw [HC.out, hV]
  have HTot : Hid (V.length + (rsb rs).length ≤ 4398046511104) := by show _ ≤ _; omega
  generalize cby rs = CB at *
  clear hcl hV hlen hl HC
  go_enter Tryz.func169, Tryz.ntmps169
  go_wp2_with (first | (go_at_call 141; refine (c0 _).mono ?_; rintro e w1 ⟨v1, rfl, hb1, hB1⟩))
  clear c0
  have HB1 := Lib.hid hB1
  have HO1 := Lib.hid hb1
  clear hB1 hb1
  go_loopg [3, 12] rs.length (fun g s3 s12 wr => ∃ (i : Nat) (T : List UInt8), i + g = rs.length ∧ s12 = .int .i64 i ∧ Hid (T = V ++ rsb (rs.take i)) ∧ Hid (Bts wr w.heap.size s3 T) ∧ Hid (Below w.heap.size w wr))
  case atStart => exact ⟨0, V, by omega, rfl, by show V = V ++ _; rw [List.take_zero, rsb_nil, List.append_nil], HO1.out, HB1.out⟩
  case round =>
    obtain ⟨i, T, hig, rfl, hT, ho, hb⟩ := hrel
    cases gk with
    | zero =>
      obtain rfl : i = rs.length := by omega
      have hT' : Hid (T = CB) := by have := hT.out; rw [List.take_length] at this; show _ = _; rw [this, HC2.out]
      clear hT
      go_wp2
      go_ret
      exact ⟨_, rfl, by rw [← hT'.out]; exact ho.out, hb.out⟩
    | succ g =>
      have hi : i < rs.length := by omega
      have hiz : (i : Int) < (rs.length : Int) := by omega
      have hi0 : (0 : Int) ≤ (i : Int) := by omega
      obtain ⟨p', cap', e, hel⟩ := HV.out
      injection e with e1 e2 e3
      subst e1 e3
      obtain ⟨b, o, rfl, hel2⟩ := hel.resolve_left (fun e => by rw [e] at hi; simp at hi)
      obtain ⟨x, hx0, hxB⟩ := hel2 i hi
      have hx := cell_on hb.out hx0
      clear hx0
      have hsu := rsb_succ rs hi
      have hle := rsb_take_le rs (i + 1)
      have hU := hxB.len
      unfold maxLen at hU
      have HXB := Lib.hid hxB
      obtain ⟨xp, xc, rfl, -⟩ := hxB
      have c1 := cN rs[i].length (by omega)
      have hw1 : IntKind.u64.wrap (rs[i].length : Int) = (rs[i].length : Int) := by rw [IntKind.wrap_u64]; omega
      have hL : Hid (T.length + ((vnt rs[i].length).length + rs[i].length) ≤ 4398046511104) := by
        have h1 := HTot.out
        have h2 := congrArg List.length hsu
        have h3 := congrArg List.length hT.out
        simp at h2 h3
        show _ ≤ _
        omega
      have hT3 : Hid (T ++ vnt rs[i].length ++ rs[i] = V ++ rsb (rs.take (i + 1))) := by show _ = _; rw [hsu, hT.out]; simp
      generalize vnt rs[i].length = A at *
      generalize rs[i] = U at *
      have HO := Lib.hid ho.out
      clear hel hel2 hsu hle hT
      have tk : True := trivial
      go_wp2_with (first
        | (go_at_call 141; refine (c1 _).mono ?_; rintro e w2 ⟨v2, rfl, hb2, hB2⟩; have HB2 := Lib.hid hB2; have HX2 := Lib.hid hb2; clear hb2 hB2)
        | (at_builtin; clear tk; refine wpList_app rfl _ _ rfl w.heap.size _ _ T A rfl rfl (HO.out.on HB2.out) HX2.out.bs (by have := hL.out; omega) (Nat.le_trans hb.out.size HB2.out.size) ?_; intro v3 w3 hb3 hg3; have HO3 := Lib.hid hb3; have HB3 := Lib.hid ((hb.out.trans (HB2.out.mono hb.out.size)).trans ((HO.out.on HB2.out).below hg3 (Nat.le_trans hb.out.size HB2.out.size))); clear hb3 hg3)
        | (at_builtin; refine wpList_app rfl _ _ rfl w.heap.size _ _ (T ++ A) U rfl rfl HO3.out (HXB.out.on HB3.out) (by have := hL.out; simp; omega) HB3.out.size ?_; intro v4 w4 hb4 hg4; have HO4 := Lib.hid hb4; have HB4 := Lib.hid (HB3.out.trans (HO3.out.below hg4 HB3.out.size)); clear hb4 hg4))
      go_roundg g
      case measure => omega
      case rel => exact ⟨i + 1, T ++ A ++ U, by omega, by first | rfl | simp, hT3, HO4, HB4⟩
end Go.Proofs.YtfakgfmgofblgaaGreatDoor
namespace Go.Proofs.YtfakgfmgofblgaaGreatDoor
open Go.RowKit Go.Maps
set_option linter.unusedVariables false      -- a walk need not use every condition
attribute [local go_sem ↓] Go.wp_at_zero Go.wp_at_succ

set_option maxHeartbeats 2000000 in
set_option maxRecDepth 100000 in
theorem commit159 (w : World) (v : Value) (rs : Rs) (hv : Bss w v rs) (hlen : (cby rs).length ≤ 4398046511104) :
    Calls Tryz.prog 159 #[v] w fun e w' => ∃ v', e = .returned v' ∧ Bts w' w.heap.size v' (cby rs) ∧ Below w.heap.size w w' := by
  have HV := Lib.hid hv
  obtain ⟨p, cap, rfl, -⟩ := hv
  have hl := rsb_len rs
  have hcl := cby_len rs
  have hnz : rs.length ≤ 4398046511104 := by omega
  have c0 := rput157 rs.length (by omega) w (.slice none 0 0) [] (bs_nil w) (by simp)
  have cN := fun (n : Nat) hn => rput157 n hn
  have hw : IntKind.u64.wrap (rs.length : Int) = (rs.length : Int) := by rw [IntKind.wrap_u64]; omega
  have HC : Hid (cby rs = vnt rs.length ++ rsb rs) := rfl
  obtain ⟨V, hV⟩ : ∃ V, vnt rs.length = V := ⟨_, rfl⟩
  rw [hV, List.nil_append] at c0
  rw [hV] at hcl
  have HC2 : Hid (cby rs = V ++ rsb rs) := by show _ = _; rw [HC.out, hV]
  have HTot : Hid (V.length + (rsb rs).length ≤ 4398046511104) := by show _ ≤ _; omega
  generalize cby rs = CB at *
  clear hcl hV hlen hl HC
  go_enter Tryz.func159, Tryz.ntmps159
  go_wp2_with (first | (go_at_call 157; refine c0.mono ?_; rintro e w1 ⟨v1, rfl, hb1, hB1⟩))
  clear c0
  have HB1 := Lib.hid hB1
  have HO1 := Lib.hid hb1
  clear hB1 hb1
  go_loopg [3, 4] rs.length (fun g s3 s4 wr => ∃ (i : Nat) (T : List UInt8), i + g = rs.length ∧ s4 = .int .i64 i ∧ Hid (T = V ++ rsb (rs.take i)) ∧ Hid (Bts wr w.heap.size s3 T) ∧ Hid (Below w.heap.size w wr))
  case atStart => exact ⟨0, V, by omega, rfl, by show V = V ++ _; rw [List.take_zero, rsb_nil, List.append_nil], HO1.out, HB1.out⟩
  case round =>
    obtain ⟨i, T, hig, rfl, hT, ho, hb⟩ := hrel
    cases gk with
    | zero =>
      obtain rfl : i = rs.length := by omega
      have hT' : Hid (T = CB) := by have := hT.out; rw [List.take_length] at this; show _ = _; rw [this, HC2.out]
      clear hT
      go_wp2
      go_ret
      exact ⟨_, rfl, by rw [← hT'.out]; exact ho.out, hb.out⟩
    | succ g =>
      have hi : i < rs.length := by omega
      have hiz : (i : Int) < (rs.length : Int) := by omega
      have hi0 : (0 : Int) ≤ (i : Int) := by omega
      obtain ⟨p', cap', e, hel⟩ := HV.out
      injection e with e1 e2 e3
      subst e1 e3
      obtain ⟨b, o, rfl, hel2⟩ := hel.resolve_left (fun e => by rw [e] at hi; simp at hi)
      obtain ⟨x, hx0, hxB⟩ := hel2 i hi
      have hx := cell_on hb.out hx0
      have hxd : wr.drew.cell? ⟨b, o + i, none⟩ = some x := hx
      have HX0 := Lib.hid hx0
      clear hx0
      have hsu := rsb_succ rs hi
      have hle := rsb_take_le rs (i + 1)
      have hU := hxB.len
      unfold maxLen at hU
      have HXB := Lib.hid hxB
      obtain ⟨xp, xc, rfl, -⟩ := hxB
      have hw1 : IntKind.u64.wrap (rs[i].length : Int) = (rs[i].length : Int) := by rw [IntKind.wrap_u64]; omega
      have hL : Hid (T.length + ((vnt rs[i].length).length + rs[i].length) ≤ 4398046511104) := by
        have h1 := HTot.out
        have h2 := congrArg List.length hsu
        have h3 := congrArg List.length hT.out
        simp at h2 h3
        show _ ≤ _
        omega
      have c1 := cN rs[i].length (by omega) wr.drew _ T (ho.out.bs.on (Below.refl _ wr).drew) (by have := hL.out; omega)
      have hT3 : Hid (T ++ vnt rs[i].length ++ rs[i] = V ++ rsb (rs.take (i + 1))) := by show _ = _; rw [hsu, hT.out]; simp
      generalize vnt rs[i].length = A at *
      generalize rs[i] = U at *
      have hbz := hb.out.size
      clear hel hel2 hsu hle hT
      go_wp2
      go_region_with (first
        | (go_at_call 157; refine c1.mono ?_
           rintro e w2 ⟨y, rfl, hbt, hb2⟩
           have hb2' : Below wr.heap.size wr w2 := ⟨hb2.os, hb2.tape, hb2.output, hb2.size, hb2.block⟩
           have hB2 : Below w.heap.size w w2 := hb.out.trans (hb2'.mono hbz)
           have hbt' : Bts w2 w.heap.size y (T ++ A) := hbt.mono hbz
           have hx2 := cell_on hB2 HX0.out
           obtain ⟨v3, w3, hap, hR3, hg3⟩ := app_run w2 w.heap.size y _ (T ++ A) U hbt' (HXB.out.on hB2) (by have := hL.out; simp; omega) hB2.size 29
           have stp := Lib.hid (And.intro hR3 (hB2.trans (hbt'.below hg3 hB2.size)))
           obtain ⟨yp, yc, rfl, -⟩ := hbt.bs
           simp [go_sem] at hap
           clear hR3 hg3 hbt hb2 hbt' hb2' hB2))
      all_goals
        clear hap
        go_wp2
        go_roundg g
        case measure => omega
        case rel => exact ⟨i + 1, T ++ A ++ U, by omega, by first | rfl | simp, hT3, stp.out.1, stp.out.2⟩
end Go.Proofs.YtfakgfmgofblgaaGreatDoor
namespace Go.Proofs.YtfakgfmgofblgaaGreatDoor
open Go.RowKit
set_option linter.unusedVariables false      -- a walk need not use every condition

theorem run_bdrop {w : World} {v : Value} {t : List UInt8} (h : Bs w v t) {k : Nat} (hk : k ≤ t.length) : ∃ q c, (Instr.sliceAt 29 v (some (.int .i64 k)) none none).run Tryz.prog w = .ok (.slice q (t.length - k) c) w ∧ ∀ w0, Bs w0 v t → Bs w0 (.slice q (t.length - k) c) (t.drop k) := by
  obtain ⟨p, cap, rfl, h1, h2, h3, h4⟩ := h
  refine ⟨if cap = k then p else p.map (·.add k), cap - k, ?_, ?_⟩
  · have e1 : (0 : Int) ≤ (k : Int) := by omega
    have e2 : (k : Int) ≤ (t.length : Int) := by omega
    simp [go_sem, e1, e2, Tryz.underlying29]
  · exact fun w0 h0 => h0.drop hk
theorem run_bmid {w : World} {v : Value} {t : List UInt8} (h : Bs w v t) {k m : Nat} (hkm : k ≤ m) (hm : m ≤ t.length) : ∃ q c, (Instr.sliceAt 29 v (some (.int .i64 k)) (some (.int .i64 m)) none).run Tryz.prog w = .ok (.slice q (m - k) c) w ∧ ∀ w0, Bs w0 v t → Bs w0 (.slice q (m - k) c) ((t.drop k).take (m - k)) := by
  obtain ⟨p, cap, rfl, h1, h2, h3, h4⟩ := h
  refine ⟨if cap = k then p else p.map (·.add k), cap - k, ?_, ?_⟩
  · have e1 : (0 : Int) ≤ (k : Int) := by omega
    have e2 : (k : Int) ≤ (m : Int) := by omega
    have e4 : (m : Int) ≤ (cap : Int) := by omega
    simp [go_sem, e1, e2, e4, Tryz.underlying29]
  · intro w0 h0
    have hd := h0.drop (n := k) (by omega : k ≤ t.length)
    rw [show t.length - k = (t.drop k).length by simp] at hd
    exact hd.take (by simp; omega)
theorem wpList_bdrop {ops : Array Oper} {rest : List Oper} {o : Oper} {a : Act} {w : World} {Q : Exit → Act → World → Prop} (hgd : o.guard = none) (x y : Operand) (ho : o.op = .slice 29 x (some y) none none)
    (v : Value) (t : List UInt8) (k : Nat) (hx : a.eval x = v) (hy : a.eval y = .int .i64 k) (h : Bs w v t) (hk : k ≤ t.length)
    (hK : ∀ q c, (∀ w0, Bs w0 v t → Bs w0 (.slice q (t.length - k) c) (t.drop k)) → wpList Tryz.prog ops Q rest (a.put o.dst (.slice q (t.length - k) c)) w) : wpList Tryz.prog ops Q (o :: rest) a w :=
  wpList_plain hgd fun _ hk' => by
    obtain ⟨q, c, hr, hb⟩ := run_bdrop h hk
    unfold Oper.wp execOp
    simp only [ho, Option.map_some, Option.map_none, hx, hy, Sem.run_bind, hr, Result.andThen_ok, Sem.run_pure]
    exact hk' _ _ (hK q c hb)
theorem wpList_bmid {ops : Array Oper} {rest : List Oper} {o : Oper} {a : Act} {w : World} {Q : Exit → Act → World → Prop} (hgd : o.guard = none) (x y z : Operand) (ho : o.op = .slice 29 x (some y) (some z) none)
    (v : Value) (t : List UInt8) (k m : Nat) (hx : a.eval x = v) (hy : a.eval y = .int .i64 k) (hz : a.eval z = .int .i64 m) (h : Bs w v t) (hkm : k ≤ m) (hm : m ≤ t.length)
    (hK : ∀ q c, (∀ w0, Bs w0 v t → Bs w0 (.slice q (m - k) c) ((t.drop k).take (m - k))) → wpList Tryz.prog ops Q rest (a.put o.dst (.slice q (m - k) c)) w) : wpList Tryz.prog ops Q (o :: rest) a w :=
  wpList_plain hgd fun _ hk' => by
    obtain ⟨q, c, hr, hb⟩ := run_bmid h hkm hm
    unfold Oper.wp execOp
    simp only [ho, Option.map_some, Option.map_none, hx, hy, hz, Sem.run_bind, hr, Result.andThen_ok, Sem.run_pure]
    exact hk' _ _ (hK q c hb)
end Go.Proofs.YtfakgfmgofblgaaGreatDoor
namespace Go.Proofs.YtfakgfmgofblgaaGreatDoor
open Go.RowKit Go.Maps
set_option linter.unusedVariables false      -- a walk need not use every condition
attribute [local go_sem ↓] Go.wp_at_zero Go.wp_at_succ

theorem take65_ok (w : World) (b : Value) (t : List UInt8) (hb : Bs w b t) {a k : Nat} (h : tk t = some (a, k)) :
    Calls Tryz.prog 102 #[b] w fun e w' => e = .returned (.tuple #[.int .u64 a, .int .i64 k, .int .i64 0]) ∧ w' = w := by
  have hk := tk_back h
  unfold tk at h
  cases hf : fb t with
  | none => rw [hf] at h; cases h
  | some i =>
    rw [hf] at h
    simp only at h
    cases hF : inF (i + 1) (t.getD i 0) with
    | false => rw [hF] at h; cases h
    | true =>
      rw [hF, if_pos rfl] at h
      injection h with h
      injection h with h1 h2
      subst h1 h2
      exact take_ok w b t hb i hf hF hk.2.1
theorem take65_no (w : World) (b : Value) (t : List UInt8) (hb : Bs w b t) (h : tk t = none) :
    Calls Tryz.prog 102 #[b] w fun e w' => ∃ n : Int, n ≠ 0 ∧ e = .returned (.tuple #[.int .u64 0, .int .i64 0, .int .i64 n]) ∧ w' = w := by
  unfold tk at h
  cases hf : fb t with
  | none => exact (take_none w b t hb hf).mono fun e w' ⟨h1, h2⟩ => ⟨11, by decide, h1, h2⟩
  | some i =>
    rw [hf] at h
    simp only at h
    cases hF : inF (i + 1) (t.getD i 0) with
    | true => rw [hF, if_pos rfl] at h; cases h
    | false => exact (take_bad w b t hb i hf hF).mono fun e w' ⟨h1, h2⟩ => ⟨12, by decide, h1, h2⟩
/-- What is left to be read comes to what all comes to. -/
def rcL (L : Rs) (c : Nat) (bt : List UInt8) : Option (Rs × List UInt8) := (rcN c bt).map fun x => (L ++ x.1, x.2)
theorem rcL_start (c : Nat) (bt : List UInt8) : rcL [] c bt = rcN c bt := by
  unfold rcL
  cases rcN c bt with
  | none => rfl
  | some x => rfl
theorem rcL_done (L : Rs) (bt : List UInt8) : rcL L 0 bt = some (L, bt) := by simp [rcL, rcN]
theorem rcL_no {L : Rs} {c : Nat} {bt : List UInt8} (h : tk bt = none) : rcL L (c + 1) bt = none := by simp [rcL, rcN, h]
theorem rcL_long {L : Rs} {c : Nat} {bt : List UInt8} {m k : Nat} (h : tk bt = some (m, k)) (hm : ¬ m ≤ bt.length - k) : rcL L (c + 1) bt = none := by simp [rcL, rcN, h, hm]
theorem rcL_step {L : Rs} {c : Nat} {bt : List UInt8} {m k : Nat} (h : tk bt = some (m, k)) (hm : m ≤ bt.length - k) : rcL L (c + 1) bt = rcL (L ++ [(bt.drop k).take m]) c (bt.drop (k + m)) := by
  unfold rcL
  rw [rcN, h]
  simp only [if_pos hm]
  cases rcN c (bt.drop (k + m)) with
  | none => rfl
  | some x => simp
/-- What recordsOf answers. -/
def RecR (t : List UInt8) (w : World) (e : Ending) (w' : World) : Prop :=
  ∃ p n c, e = .returned (.tuple #[.slice p n c, .bool (rc t).isSome]) ∧ (∀ rs, rc t = some rs → RowB w' w.heap.size (.slice p n c) rs) ∧ Below w.heap.size w w'
theorem rowB_app {ops : Array Oper} {rest : List Oper} {o : Oper} {a : Act} {w : World} {Q : Exit → Act → World → Prop} (hgd : o.guard = none) (s x : Operand)
    (ho : o.op = .call { callee := .builtin .append, args := #[s, x], argTypes := #[127, 127] }) (base g0 : Nat) (v y : Value) (L : Rs) (u : List UInt8) (hs : a.eval s = v) (hx : a.eval x = .slice (some ⟨g0, 0, none⟩) 1 1)
    (h : RowB w base v L) (hu : Bts w base y u) (hy : w.cell? ⟨g0, 0, none⟩ = some y) (hbase : base ≤ w.heap.size) (hlen : L.length + 1 ≤ 4398046511104)
    (hK : ∀ g cap w', RowB w' base (.slice (some ⟨g, 0, none⟩) (L.length + 1) cap) (L ++ [u]) → w.grownBy w' v.ownBlock → Below base w w' → wpList Tryz.prog ops Q rest (a.put o.dst (.slice (some ⟨g, 0, none⟩) (L.length + 1) cap)) w') : wpList Tryz.prog ops Q (o :: rest) a w :=
  wpList_plain hgd fun _ hk => by
    obtain ⟨v', w', hr, h2, h3, g, cap, rfl⟩ := row_app w base g0 v y L u h hu hy hbase hlen o.type
    obtain ⟨vs, ho', -⟩ := h
    have hB : Below base w w' := (Below.refl base w).grown h3 hbase (fun j e => (World.ownsRow.lt ho' j e).1)
    unfold Oper.wp execOp
    simp only [ho, resolve, invoke, builtin, Sem.run_bind, Sem.run_pure, Result.andThen_ok, List.map_toArray, List.map_cons, List.map_nil, hs, hx, hr]
    exact hk _ _ (hK g cap w' h2 h3 hB)
theorem RowB.hdr {w : World} {base : Nat} {v : Value} {L : Rs} (h : RowB w base v L) : ∃ p c, v = .slice p L.length c := by
  obtain ⟨p, c, rfl, -⟩ := h.bss
  exact ⟨p, c, rfl⟩
set_option maxHeartbeats 2000000 in
set_option maxRecDepth 100000 in
theorem recordsOf177 (w : World) (v : Value) (t : List UInt8) (hv : Bs w v t) (hlen : t.length ≤ 1099511627776) : Calls Tryz.prog 177 #[v] w (RecR t w) := by
  have HV := Lib.hid hv
  cases h0 : tk t with
  | none =>
    have c := take65_no w v t hv h0
    have HR : Hid (rc t = none) := by show rc t = none; unfold rc; rw [h0]
    obtain ⟨p, cap, rfl, -⟩ := hv
    clear h0
    go_enter Tryz.func177, Tryz.ntmps177
    go_wp2_with (first | (go_at_call 102; refine c.mono ?_; rintro e w' ⟨n, hn, rfl, rfl⟩))
    go_ret2
    exact ⟨none, 0, 0, by rw [HR.out]; rfl, fun rs e => (by rw [HR.out] at e; cases e), Below.refl _ _⟩
  | some x =>
    obtain ⟨n, k⟩ := x
    have c := take65_ok w v t hv h0
    obtain ⟨hbk, hn64, hk1, hk2, -⟩ := tk_back h0
    have HR : Hid (rc t = rcE (rcN n (t.drop k))) := by show rc t = _; unfold rc; rw [h0]
    obtain ⟨p, cap, rfl, hcap, hcm, -⟩ := hv
    unfold maxLen at hcm
    have HDL : Hid ((t.drop k).length = t.length - k) := by show _ = _; simp
    clear h0 hbk
    go_enter Tryz.func177, Tryz.ntmps177
    go_wp2_with (first
      | (go_at_call 102; refine c.mono ?_; rintro e w' ⟨rfl, rfl⟩)
      | (with_reducible show wpList _ _ _ (Oper.mk _ (Op.slice 29 (Operand.tmp 20) _ _ _) _ _ _ _ :: _) _ _
         refine wpList_bdrop rfl _ _ rfl _ t k rfl rfl HV.out hk2 ?_; intro q0 qc0 hq0; have HD := Lib.hid (hq0 _ HV.out); clear hq0))
    generalize t.drop k = bt0 at *
    go_loopg [0, 4, 7] bt0.length (fun g s0 s4 s7 wr => ∃ (cn : Nat) (bt : List UInt8) (L : Rs), Hid (bt.length = g) ∧ s4 = .int .u64 cn ∧ Hid (cn < 18446744073709551616) ∧ Hid (rcL L cn bt = rcN n bt0) ∧ Hid (Bs w' s0 bt) ∧ Hid (RowB wr w'.heap.size s7 L) ∧ Hid (L.length + bt.length ≤ 1099511627776) ∧ Hid (Below w'.heap.size w' wr))
    case atStart => exact ⟨n, bt0, [], (rfl : _ = _), rfl, hn64, rcL_start _ _, HD.out, rowB_nil _ _, by show _ ≤ _; have := HDL.out; simp; omega, Below.refl _ _⟩
    case round =>
      obtain ⟨cn, bt, L, hg, rfl, hcn, hsp, hB, hL, hLen, hb⟩ := hrel
      have HB := Lib.hid hB.out
      obtain ⟨q, qc, rfl, hqc, hqm, -⟩ := hB.out
      obtain ⟨lp, lc, rfl⟩ := hL.out.hdr
      unfold maxLen at hqm
      have hbl : bt.length ≤ 9223372036854775807 := by omega
      clear c
      by_cases hc0 : cn = 0
      · subst hc0
        have hE : Hid (rc t = if bt.length = 0 then some L else none) := by
          show rc t = _
          rw [HR.out, ← hsp.out, rcL_done]
          cases bt with
          | nil => rfl
          | cons a b => rfl
        clear hsp hB
        by_cases hb0 : bt.length = 0
        · rw [if_pos hb0] at hE
          rw [hb0]
          go_wp2
          go_ret2
          exact ⟨_, _, _, by rw [hE.out]; rfl, fun rs e => (by rw [hE.out] at e; injection e with e; subst e; exact hL.out), hb.out⟩
        · rw [if_neg hb0] at hE
          have hz2 : ((bt.length : Int) == 0) = false := by rw [beq_eq_false_iff_ne]; omega
          go_wp2
          go_ret2
          exact ⟨_, _, _, by rw [hE.out]; rfl, fun rs e => (by rw [hE.out] at e; cases e), hb.out⟩
      · obtain ⟨cm, hcm1⟩ : ∃ cm, Hid (cn = cm + 1) := ⟨cn - 1, by show _ = _; omega⟩
        have hc1 : (0 : Int) < (cn : Int) := by omega
        have hc2 : IntKind.u64.wrap ((cn : Int) - 1) = (cm : Int) := by have := hcn.out; have := hcm1.out; rw [IntKind.wrap_u64]; omega
        have HBw := Lib.hid (HB.out.on hb.out)
        have hsp2 : Hid (rcL L (cm + 1) bt = rcN n bt0) := by show _ = _; rw [← hcm1.out]; exact hsp.out
        cases ht : tk bt with
        | none =>
          have cT := take65_no wr _ bt HBw.out ht
          have hE : Hid (rc t = none) := by show rc t = none; rw [HR.out, ← hsp2.out, rcL_no ht]; rfl
          clear hsp hsp2 hB ht hc2
          go_wp2_with (first | (go_at_call 102; refine cT.mono ?_; rintro e w2 ⟨n2, hn2, rfl, rfl⟩; have hn3 : (n2 != 0) = true := (by simp; exact hn2)))
          go_ret2
          exact ⟨none, 0, 0, by rw [hE.out]; rfl, fun rs e => (by rw [hE.out] at e; cases e), hb.out⟩
        | some x =>
          obtain ⟨m, k2⟩ := x
          have cT := take65_ok wr _ bt HBw.out ht
          obtain ⟨-, hm64, hk21, hk22, -⟩ := tk_back ht
          have e1 : IntKind.i64.wrap ((bt.length : Int) - (k2 : Int)) = ((bt.length - k2 : Nat) : Int) := by rw [IntKind.wrap_i64]; omega
          have e2 : IntKind.u64.wrap (((bt.length - k2 : Nat) : Int)) = ((bt.length - k2 : Nat) : Int) := by rw [IntKind.wrap_u64]; omega
          obtain ⟨D, hD⟩ : ∃ D, bt.length - k2 = D := ⟨_, rfl⟩
          rw [hD] at e1 e2
          by_cases hm : m ≤ D
          · have e3 : IntKind.i64.wrap (m : Int) = (m : Int) := by rw [IntKind.wrap_i64]; omega
            have e4 : IntKind.i64.wrap ((k2 : Int) + (m : Int)) = ((k2 + m : Nat) : Int) := by rw [IntKind.wrap_i64]; omega
            have hmz : ¬ ((D : Int) < (m : Int)) := by omega
            have hst : Hid (rcL (L ++ [(bt.drop k2).take m]) cm (bt.drop (k2 + m)) = rcN n bt0) := by show _ = _; rw [← hsp2.out, rcL_step ht (by omega)]
            have hu : Hid ((bt.drop k2).take (k2 + m - k2) = (bt.drop k2).take m) := by show _ = _; rw [Nat.add_sub_cancel_left]
            have hul : Hid (((bt.drop k2).take m).length ≤ 1099511627776) := by have := hLen.out; show _ ≤ _; simp; omega
            have hle := Lib.hid (show k2 + m ≤ bt.length by omega)
            have hdl : Hid ((bt.drop (k2 + m)).length = bt.length - (k2 + m)) := by show _ = _; simp
            have hLL := hLen.out
            have hbz := hb.out.size
            generalize (bt.drop k2).take m = U at *
            have HLr := Lib.hid hL.out
            clear hsp hsp2 hB ht hL hD
            go_wp2_with (first
              | (go_at_call 102; refine cT.mono ?_; rintro e w2 ⟨rfl, rfl⟩)
              | (with_reducible show wpList _ _ _ (Oper.mk _ (Op.slice 29 (Operand.tmp 49) _ _ _) _ _ _ _ :: _) _ _
                 refine wpList_bmid rfl _ _ _ rfl _ bt k2 (k2 + m) rfl rfl rfl HBw.out (Nat.le_add_right _ _) hle.out ?_; intro q1 qc1 hq1; have HU := Lib.hid (hq1 _ HBw.out); rw [hu.out, Nat.add_sub_cancel_left] at HU; clear hq1)
              | (go_at_call 62; refine (clone62 _ _ U HU.out (by have := hul.out; omega)).mono ?_
                 rintro e w3 ⟨y, rfl, hbt, hb3⟩
                 have HB3 := Lib.hid (hb.out.trans (hb3.mono hbz))
                 have HY := Lib.hid (hbt.mono hbz)
                 have HL3 := Lib.hid (HLr.out.on hb3)
                 have hy1 : y.oneCell' = true := hbt.bs.one
                 obtain ⟨yp, yc, rfl, -⟩ := hbt.bs
                 clear hbt hb3)
              | (at_builtin; refine rowB_app rfl _ _ rfl w'.heap.size w3.heap.size _ (.slice yp U.length yc) L U rfl rfl (HL3.out.on (bel1 _ _)) (HY.out.on (bel1 _ _)) (cell_new _ _ _) (by have := HB3.out.size; simp; omega) (by omega) ?_
                 intro g4 c4 w4 hR4 hg4 hb4
                 have HR4 := Lib.hid hR4
                 have HB4 := Lib.hid ((HB3.out.trans ((bel1 w3 (.cells #[.slice yp U.length yc] 29)).mono HB3.out.size)).trans hb4)
                 clear hR4 hg4 hb4)
              | (with_reducible show wpList _ _ _ (Oper.mk _ (Op.slice 29 (Operand.tmp 56) _ _ _) _ _ _ _ :: _) _ _
                 refine wpList_bdrop rfl _ _ rfl _ bt (k2 + m) rfl rfl (HB.out.on HB4.out) hle.out ?_; intro q5 qc5 hq5; have HD5 := Lib.hid (hq5 _ HB.out); clear hq5))
            go_roundg (bt.length - (k2 + m))
            case measure => have := hg.out; omega
            case rel => exact ⟨cm, bt.drop (k2 + m), L ++ [U], hdl, by first | rfl | simp, by show _ < _; have := hcn.out; have := hcm1.out; omega, hst, HD5, HR4, by show _ ≤ _; rw [hdl.out]; simp; omega, HB4⟩
          · have hE : Hid (rc t = none) := by show rc t = none; rw [HR.out, ← hsp2.out, rcL_long ht (by omega)]; rfl
            have hmz : (D : Int) < (m : Int) := by omega
            clear hsp hsp2 hB ht hc2 hD
            go_wp2_with (first | (go_at_call 102; refine cT.mono ?_; rintro e w2 ⟨rfl, rfl⟩))
            go_ret2
            exact ⟨none, 0, 0, by rw [hE.out]; rfl, fun rs e => (by rw [hE.out] at e; cases e), hb.out⟩
end Go.Proofs.YtfakgfmgofblgaaGreatDoor
namespace Go.Proofs.YtfakgfmgofblgaaGreatDoor
open Go.RowKit
set_option linter.unusedVariables false      -- a walk need not use every condition
attribute [local go_sem ↓] Go.wp_at_zero Go.wp_at_succ

/-- A layout as a value. -/
def lay (slots pages : Int) : Value := .agg #[.int .i64 slots, .int .i64 pages]
theorem madeDisk43 (w : World) (d pb mb : Nat) (s : Dsk) (h : At w d pb mb s) : Calls Tryz.prog 43 #[.pointer (some ⟨d, 0, none⟩)] w fun e w' => e = .returned (.bool true) ∧ w' = w := by
  have c := sectors97 w d pb mb s h
  have hp : (0 : Int) < (s.N : Int) := by have := h.pos; omega
  clear h
  go_enter Tryz.func43, Tryz.ntmps43
  go_wp2_with (first | (go_at_call 97; refine c.mono ?_; rintro e w' ⟨rfl, rfl⟩))
  go_ret
  exact ⟨by simp; omega, rfl⟩
theorem damageOr149 (w : World) (e0 : Int) : Calls Tryz.prog 149 #[.int .i64 e0] w fun e w' => e = .returned (.int .i64 (if e0 = 9 then 9 else 70)) ∧ w' = w := by
  by_cases h : e0 = 9
  · subst h
    rw [if_pos rfl]
    go_enter Tryz.func149, Tryz.ntmps149
    go_wp2
    go_ret
    exact ⟨rfl, rfl⟩
  · rw [if_neg h]
    have hb : (e0 == 9) = false := by simpa using h
    go_enter Tryz.func149, Tryz.ntmps149
    go_wp2
    go_ret
    exact ⟨rfl, rfl⟩
theorem sectorOf137 (w : World) (pages : Int) (slots page : Nat) (hs : slots ≤ 4096) (hp : page ≤ 2048) : Calls Tryz.prog 137 #[.agg #[.int .i64 slots, .int .i64 pages], .int .i64 page] w fun e w' => e = .returned (.int .i64 ((2 + slots + 4 * page : Nat) : Int)) ∧ Below w.heap.size w w' := by
  have e1 : IntKind.i64.wrap ((2 : Int) + (slots : Int)) = 2 + (slots : Int) := by rw [IntKind.wrap_i64]; omega
  have e2 : IntKind.i64.wrap ((4 : Int) * (page : Int)) = 4 * (page : Int) := by rw [IntKind.wrap_i64]; omega
  have e3 : IntKind.i64.wrap (2 + (slots : Int) + 4 * (page : Int)) = ((2 + slots + 4 * page : Nat) : Int) := by rw [IntKind.wrap_i64]; omega
  generalize 2 + slots + 4 * page = R at *
  go_enter Tryz.func137, Tryz.ntmps137
  go_wp2
  go_ret
  exact ⟨rfl, bel1 w _⟩
/-- May these be pages of the disk? -/
def Dsk.lmay (s : Dsk) (sl pg : Int) : Bool := decide (1 ≤ sl) && decide (sl ≤ 4096) && decide (2 ≤ pg) && decide (pg ≤ 2048) && decide (2 + sl + 4 * pg ≤ s.N)
set_option maxHeartbeats 1000000 in
theorem mayBe91 (w : World) (d pb mb : Nat) (s : Dsk) (h : At w d pb mb s) (sl pg : Int) : Calls Tryz.prog 91 #[.agg #[.int .i64 sl, .int .i64 pg], .pointer (some ⟨d, 0, none⟩)] w fun e w' => e = .returned (.bool (s.lmay sl pg)) ∧ Below w.heap.size w w' := by
  unfold Dsk.lmay
  by_cases h1 : 1 ≤ sl
  · by_cases h2 : sl ≤ 4096
    · by_cases h3 : 2 ≤ pg
      · by_cases h4 : pg ≤ 2048
        · obtain ⟨a, rfl⟩ : ∃ a : Nat, sl = a := ⟨sl.toNat, by omega⟩
          obtain ⟨b, rfl⟩ : ∃ b : Nat, pg = b := ⟨pg.toNat, by omega⟩
          have cS := fun W => sectorOf137 W b a b (by omega) (by omega)
          have cN := fun (W : World) (hb : Below w.heap.size w W) => sectors97 W d pb mb s (h.on hb)
          have HR : Hid (decide (2 + (a : Int) + 4 * (b : Int) ≤ (s.N : Int)) = decide (((2 + a + 4 * b : Nat) : Int) ≤ (s.N : Int))) := by show _ = _; congr 1
          generalize 2 + a + 4 * b = R at *
          clear h
          go_enter Tryz.func91, Tryz.ntmps91
          go_wp2_with (first
            | (go_at_call 137; refine (cS _).mono ?_; rintro e w1 ⟨rfl, hb1⟩; have HB1 := Lib.hid (bel_then (bel1 w (.cells #[.int .i64 (a : Int), .int .i64 (b : Int)] 60)) hb1); clear hb1)
            | (go_at_call 97; refine (cN _ HB1.out).mono ?_; rintro e w2 ⟨rfl, ew⟩; rw [ew]; clear ew w2))
          go_ret
          refine ⟨?_, HB1.out⟩
          rw [HR.out]
          simp [h1, h2, h3, h4]
        · clear h
          go_enter Tryz.func91, Tryz.ntmps91
          go_wp2
          go_ret
          exact ⟨by simp; omega, bel1 w _⟩
      · clear h
        go_enter Tryz.func91, Tryz.ntmps91
        go_wp2
        go_ret
        exact ⟨by simp; omega, bel1 w _⟩
    · clear h
      go_enter Tryz.func91, Tryz.ntmps91
      go_wp2
      go_ret
      exact ⟨by simp; omega, bel1 w _⟩
  · clear h
    go_enter Tryz.func91, Tryz.ntmps91
    go_wp2
    go_ret
    exact ⟨by simp; omega, bel1 w _⟩
theorem note95 (w : World) (slots : Value) (hs : slots.oneCell' = true) (pages : Nat) (hp : pages ≤ 2048) : Calls Tryz.prog 95 #[.agg #[slots, .int .i64 pages]] w fun e w' => ∃ v, e = .returned v ∧ Bts w' w.heap.size v (vnt pages) ∧ Below w.heap.size w w' := by
  have hu : IntKind.u64.wrap (pages : Int) = (pages : Int) := by rw [IntKind.wrap_u64]; omega
  have c := put141 pages (by omega) (w.alloc (.cells #[slots, .int .i64 pages] 60))
  have hm : ((pages : Int) % 18446744073709551616) = (pages : Int) := by omega
  go_enter Tryz.func95, Tryz.ntmps95
  go_wp2_with (first | (go_at_call 141; refine c.mono ?_; rintro e w1 ⟨v, rfl, hv, hb⟩; obtain ⟨p, q, rfl, -⟩ := hv.bs))
  go_ret
  exact ⟨_, rfl, hv.mono (by simp), bel_then (bel1 w _) hb⟩
theorem results_cellZ2' {fn : Func} {p u : Tmp} {T : TypeId} {d : TypeDesc} (h : fn.results = #[.cell p T, .tmp u]) (tmps : Array Value) (w : World) (g : Nat) (cs : List Value) (hp : tmps.getD p undef = .pointer (some ⟨g, 0, none⟩)) (hr : w.rangeAt g 0 cs) (hu : Tryz.prog.underlying T = some d) (hd : d.isRow = true) (hi : (Tryz.prog.info? T).map (·.size) = some cs.length) :
    (results fn tmps).run Tryz.prog w = .ok (.tuple #[.agg cs.toArray, tmps.getD u undef]) w := by
  have hv := run_loadVar_mid (P := Tryz.prog) w g 0 T cs d hr hu hd hi
  rw [results_cell_tmp h, hp]
  simp only [asAddr, Sem.run_pure, Result.andThen, hv]
set_option maxHeartbeats 1000000 in
theorem layoutOf45 (w : World) (d pb mb : Nat) (s : Dsk) (h : At w d pb mb s) (slots pages : Nat) (hm : s.lmay slots pages = true) (nv : Value) (hn : Bs w nv (vnt pages)) :
    Calls Tryz.prog 45 #[.pointer (some ⟨d, 0, none⟩), .int .i64 slots, nv] w fun e w' => e = .returned (.tuple #[.agg #[.int .i64 slots, .int .i64 pages], .bool true]) ∧ Below w.heap.size w w' := by
  have hp : pages ≤ 2048 := by
    unfold Dsk.lmay at hm
    simp at hm
    omega
  have cT := take65_ok (w.alloc (.cells #[.int .i64 0, .int .i64 0] 60)) nv (vnt pages) (hn.on (bel1 w _)) (a := pages) (k := (vnt pages).length) (by have := tk_there pages (by omega) []; rwa [List.append_nil] at this)
  have cM := fun (W : World) (hb : Below w.heap.size w W) => mayBe91 W d pb mb s (h.on hb) slots pages
  rw [hm] at cM
  obtain ⟨p, cap, rfl, -⟩ := hn
  have hpz : ¬ ((2048 : Int) < (pages : Int)) := by omega
  have hw : IntKind.i64.wrap (pages : Int) = (pages : Int) := by rw [IntKind.wrap_i64]; omega
  have hw2 : wrap64 (pages : Int) = (pages : Int) := by unfold wrap64; omega
  clear h hm
  generalize (vnt pages).length = n at *
  go_enter Tryz.func45, Tryz.ntmps45
  go_wp2_with (first
    | (go_at_call 102; refine cT.mono ?_; rintro e w1 ⟨rfl, ew⟩; rw [ew]; clear ew w1)
    | (go_at_call 91; refine (cM _ (bel_then (bel1 w _) (bel1 _ _))).mono ?_
       rintro e w2 ⟨rfl, hb2⟩
       have k2 := blk_on hb2 (heap_alloc_last (w.alloc (.cells #[.int .i64 0, .int .i64 0] 60)) (.cells #[.int .i64 (slots : Int), .int .i64 (pages : Int)] 60))
       have k1 := blk_on hb2 (blk_on (bel1 _ (.cells #[.int .i64 (slots : Int), .int .i64 (pages : Int)] 60)) (heap_alloc_last w (.cells #[.int .i64 0, .int .i64 0] 60)))
       rw [World.size_alloc] at k2
       have HK1 := Lib.hid k1
       have HB2 := Lib.hid (bel_then (bel_then (bel1 w (.cells #[.int .i64 0, .int .i64 0] 60)) (bel1 _ (.cells #[.int .i64 (slots : Int), .int .i64 (pages : Int)] 60))) hb2)
       have x0 : w2.cell? ⟨w.heap.size + 1, 0, none⟩ = some (.int .i64 (slots : Int)) := by simp [World.cell?, k2]
       have x1 : w2.cell? ⟨w.heap.size + 1, 1, none⟩ = some (.int .i64 (pages : Int)) := by simp [World.cell?, k2]
       have y0 : w2.cell? ⟨w.heap.size, 0, none⟩ = some (.int .i64 0) := by simp [World.cell?, k1]
       have y1 : w2.cell? ⟨w.heap.size, 1, none⟩ = some (.int .i64 0) := by simp [World.cell?, k1]
       have f0 : w2.frozen? ⟨w.heap.size, 0, none⟩ = false := by simp [World.frozen?, k1]
       have f1 : w2.frozen? ⟨w.heap.size, 1, none⟩ = false := by simp [World.frozen?, k1]
       clear k1 k2 hb2))
  have kk := blk_set (blk_set HK1.out (i := 0) (.int .i64 (slots : Int))) (i := 1) (.int .i64 (pages : Int))
  have hr := World.rangeAt_of_block kk 0 2
  refine bodyPost_ret (results_cellZ2' Tryz.results45 _ _ w.heap.size [.int .i64 (slots : Int), .int .i64 (pages : Int)] rfl (by simpa using hr) Tryz.underlying60 rfl (by kernel_rfl)) rfl ?_
  exact ⟨rfl, HB2.out.grown ((gr_set _ _ _ _).trans (gr_set _ _ _ _)) HB2.out.size (fun k e => by injection e with e; omega)⟩
end Go.Proofs.YtfakgfmgofblgaaGreatDoor
