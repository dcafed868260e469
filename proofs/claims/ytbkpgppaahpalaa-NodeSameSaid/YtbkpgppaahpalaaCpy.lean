/-
  What copied of package node does: the same things, in memory of one's own.
-/
import Derived.Test.YtbkpgppaahpalaaSam
import Derived.Laws.CopyOwn
import Derived.OwnWalk
namespace Go.Proofs.Ytbkpgppaahpalaa
open Go.RowKit
set_option linter.unusedVariables false      -- a walk need not use every condition

theorem run_copy_s {P : Program} (w : World) (dT sT ty elem : TypeId) (g n dCap : Nat) (a : Addr) (sCap s : Nat) (cur : Array Value) (t : TypeId) (cs : List Value)
    (hu : P.underlying dT = some (.slice elem)) (hs : (P.info? elem).map (·.size) = some s)
    (hg : w.heap[g]? = some (.cells cur t (0, 0))) (hn : cs.length = n * s)
    (hsrc : ∀ j v, cs[j]? = some v → w.cell? (a.add j) = some v) (hfit : cs.length ≤ cur.size) (h1 : ∀ v ∈ cs, v.oneCell' = true) :
    (Builtin.copy_ #[dT, sT] ty #[.slice (some ⟨g, 0, none⟩) n dCap, .slice (some a) n sCap]).run P w = .ok (goInt n) (w.setRow g (cs ++ cur.toList.drop cs.length).toArray) := by
  have hl := run_loadCells_list (P := P) w a cs hsrc
  have hst := run_storeCells_at P g 0 t cs 0 cur w hg (by simpa using hfit) h1
  cases hq : P.info? elem with
  | none => simp [hq] at hs
  | some i =>
    have hi : i.size = s := by simpa [hq] using hs
    simp only [Nat.zero_add, List.take_zero, List.nil_append] at hst
    simp [Builtin.copy_, run_underlying hu, Builtin.lenOf, Builtin.firstCells, sizeOf, typeInfo, hq, hi, ← hn, hl, hst]
theorem copy_own {P : Program} {w : World} {base s n g cap : Nat} {e : TypeId} {zs vs : List Value} (h : w.ownsRow base e s (.slice (some ⟨g, 0, none⟩) n cap) n zs) (hn : vs.length = n * s) :
    ∃ cur : Array Value, w.heap[g]? = some (.cells cur e (0, 0)) ∧ vs.length ≤ cur.size ∧ (w.setRow g (vs ++ cur.toList.drop vs.length).toArray).ownsRow base e s (.slice (some ⟨g, 0, none⟩) n cap) n vs ∧ w.grownBy (w.setRow g (vs ++ cur.toList.drop vs.length).toArray) (some g) := by
  rcases h.2 with ⟨e', -⟩ | ⟨g', cap', cur, e', hbg, hg, hnc, hcm, hcs, htake⟩
  · cases e'
  · injection e' with e1 e2 e3
    injection e1 with e1
    injection e1 with e1
    subst e1 e3
    have hle : vs.length ≤ cur.size := by rw [hn]; have := Nat.mul_le_mul_right s hnc; omega
    refine ⟨cur, hg, hle, ⟨hn, .inr ⟨g, cap, _, rfl, hbg, setRow_heap w g cur _ e _ hg, hnc, hcm, ?_, ?_⟩⟩, ⟨rfl, rfl, rfl, by simp [World.setRow], fun k hk hr => setRow_other w g k _ (fun e => hr (by rw [e]))⟩⟩
    · simp; omega
    · simp [← hn]
theorem wpList_copy_new {P : Program} {w : World} {ops : Array Oper} {rest : List Oper} {o : Oper} {a : Act} {Q : Exit → Act → World → Prop} (hgd : o.guard = none) (d x : Operand) (dT sT : TypeId)
    (ho : o.op = .call { callee := .builtin .copy, args := #[d, x], argTypes := #[dT, sT] }) (elem : TypeId) (s : Nat) (hu : P.underlying dT = some (.slice elem)) (hsz : (P.info? elem).map (·.size) = some s)
    (base g n cap sCap : Nat) (ad : Addr) (hd : a.eval d = .slice (some ⟨g, 0, none⟩) n cap) (hs : a.eval x = .slice (some ad) n sCap) (zs vs : List Value) (hown : w.ownsRow base elem s (.slice (some ⟨g, 0, none⟩) n cap) n zs)
    (hn : vs.length = n * s) (hsrc : ∀ j v, vs[j]? = some v → w.cell? (ad.add j) = some v) (h1 : ∀ v ∈ vs, v.oneCell' = true)
    (h : ∀ w', w'.ownsRow base elem s (.slice (some ⟨g, 0, none⟩) n cap) n vs → w.grownBy w' (some g) → wpList P ops Q rest (a.put o.dst (goInt n)) w') : wpList P ops Q (o :: rest) a w := by
  refine wpList_plain hgd fun K hK => ?_
  obtain ⟨cur, hg, hfit, ho', hgr⟩ := copy_own (P := P) hown hn
  have hrun := run_copy_s (P := P) w dT sT o.type elem g n cap ad sCap s cur elem vs hu hsz hg hn hsrc hfit h1
  unfold Oper.wp
  simp [execOp, ho, resolve, invoke, builtin, hd, hs, hrun, Result.andThen]
  exact hK _ _ (h _ ho' hgr)
theorem fl_pos {w : World} {v : Value} {s n : Nat} {vs : List Value} (h : Fl w v s n vs) (hn : 0 < n) : ∃ g o cap, v = .slice (some ⟨g, o, none⟩) n cap ∧ n ≤ cap ∧ n ≤ 9223372036854775807 ∧ w.rangeAt g o vs ∧ vs.length = n * s := by
  obtain ⟨p, cap, rfl, h1, h2, h3, h4, h5⟩ := h
  obtain ⟨g, o, rfl, h6⟩ := h5.resolve_left (by omega)
  unfold maxLen at h2
  exact ⟨g, o, cap, rfl, h1, by omega, h6, h4⟩
theorem fl_zero {w : World} {v : Value} {s n : Nat} {vs : List Value} (h : Fl w v s n vs) (hn : n = 0) : (∃ p cap, v = .slice p 0 cap) ∧ vs = [] := by
  obtain ⟨p, cap, rfl, h1, h2, h3, h4, h5⟩ := h
  subst hn
  exact ⟨⟨p, cap, rfl⟩, List.eq_nil_of_length_eq_zero (by rw [h4]; simp)⟩
theorem infoE5 : (Try.prog.info? 5).map (fun i => (i.zero, i.size, i.bytes)) = some (some (.int .u8 0), 1, 1) := by kernel_rfl
theorem sizeE5 : (Try.prog.info? 5).map (·.size) = some 1 := by kernel_rfl
set_option maxHeartbeats 2000000 in
set_option maxRecDepth 100000 in
theorem copied54 (w : World) (v : Value) (n : Nat) (vs : List Value) (h : Fl w v 1 n vs) (hone : ∀ u ∈ vs, u.oneCell' = true) (hbig : n * 1 ≤ 140737488355328) :
    Calls Try.prog 54 #[v] w fun e w' => ∃ v', e = .returned v' ∧ w'.ownsRow w.heap.size 5 1 v' n vs ∧ Below w.heap.size w w' := by
  by_cases h0 : n = 0
  · obtain ⟨⟨p, cap, rfl⟩, rfl⟩ := fl_zero h h0
    subst h0
    go_enter Try.func54, Try.ntmps54
    go_wp2
    go_ret
    exact ⟨_, rfl, World.ownsRow_nil _ _ _ _, Below.refl _ _⟩
  · obtain ⟨i0, hi, hz0, hz1, hz2⟩ := info_parts infoE5
    obtain ⟨g, o, cap, rfl, h1, h2, h3, h4⟩ := fl_pos h (by omega)
    have hnz : ¬ (n : Int) = 0 := by omega
    have HR := Lib.hid h3
    have HO := Lib.hid hone
    have HL := Lib.hid h4
    clear h hone h3 h4
    have HM := Lib.hid hbig
    clear hbig
    go_enter Try.func54, Try.ntmps54
    go_wp2_with (first
      | (at_make; (refine wpList_make_full _ rfl _ _ 27 rfl w.heap.size 5 i0 (.int .u8 0) 1 Try.underlying27 hi hz0 hz1 _ _ _ _ n rfl rfl rfl rfl (by rw [hz2]; have := HM.out; omega) (by unfold maxLen; omega) (Nat.le_refl _) ?_); intro w1 ho1 hg1; have HO1 := Lib.hid ho1; have HG1 := Lib.hid hg1; clear ho1 hg1)
      | ((with_reducible show wpList _ _ _ (Oper.mk (some 12) _ _ _ _ _ :: _) _ _); (refine wpList_copy_new rfl _ _ 27 27 rfl 5 1 Try.underlying27 sizeE5 w.heap.size _ n _ _ _ rfl rfl _ vs HO1.out HL.out (fun j u hu => by rw [Go.WideShapes.add_plain]; exact (HG1.out.block g (World.block_lt_of_cell? w ⟨g, o + j, none⟩ (HR.out j u hu)) (by simp) |> fun hb => (World.cell?_of_block (w := w) (a := ⟨g, o + j, none⟩) hb).trans (HR.out j u hu))) HO.out ?_); intro w2 ho2 hg2))
    go_ret
    exact ⟨_, rfl, ho2, ⟨hg2.os.trans HG1.out.os, hg2.tape.trans HG1.out.tape, hg2.output.trans HG1.out.output, Nat.le_trans HG1.out.size hg2.size, fun k hk => (hg2.block k (Nat.lt_of_lt_of_le hk HG1.out.size) (fun e => by injection e with e; omega)).trans (HG1.out.block k hk (by simp))⟩⟩
theorem infoE44 : (Try.prog.info? 44).map (fun i => (i.zero, i.size, i.bytes)) = some (some (.agg #[.slice none 0 0, .slice none 0 0, .int .i64 0, .int .i64 0]), 4, 64) := by kernel_rfl
theorem sizeE44 : (Try.prog.info? 44).map (·.size) = some 4 := by kernel_rfl
set_option maxHeartbeats 2000000 in
set_option maxRecDepth 100000 in
theorem copied60 (w : World) (v : Value) (n : Nat) (vs : List Value) (h : Fl w v 4 n vs) (hone : ∀ u ∈ vs, u.oneCell' = true) (hbig : n * 64 ≤ 140737488355328) :
    Calls Try.prog 60 #[v] w fun e w' => ∃ v', e = .returned v' ∧ w'.ownsRow w.heap.size 44 4 v' n vs ∧ Below w.heap.size w w' := by
  by_cases h0 : n = 0
  · obtain ⟨⟨p, cap, rfl⟩, rfl⟩ := fl_zero h h0
    subst h0
    go_enter Try.func60, Try.ntmps60
    go_wp2
    go_ret
    exact ⟨_, rfl, World.ownsRow_nil _ _ _ _, Below.refl _ _⟩
  · obtain ⟨i0, hi, hz0, hz1, hz2⟩ := info_parts infoE44
    obtain ⟨g, o, cap, rfl, h1, h2, h3, h4⟩ := fl_pos h (by omega)
    have hnz : ¬ (n : Int) = 0 := by omega
    have HR := Lib.hid h3
    have HO := Lib.hid hone
    have HL := Lib.hid h4
    clear h hone h3 h4
    have HM := Lib.hid hbig
    clear hbig
    go_enter Try.func60, Try.ntmps60
    go_wp2_with (first
      | (at_make; (refine wpList_make_full _ rfl _ _ 22 rfl w.heap.size 44 i0 (.agg #[.slice none 0 0, .slice none 0 0, .int .i64 0, .int .i64 0]) 4 Try.underlying22 hi hz0 hz1 _ _ _ _ n rfl rfl rfl rfl (by rw [hz2]; have := HM.out; omega) (by unfold maxLen; omega) (Nat.le_refl _) ?_); intro w1 ho1 hg1; have HO1 := Lib.hid ho1; have HG1 := Lib.hid hg1; clear ho1 hg1)
      | ((with_reducible show wpList _ _ _ (Oper.mk (some 12) _ _ _ _ _ :: _) _ _); (refine wpList_copy_new rfl _ _ 22 22 rfl 44 4 Try.underlying22 sizeE44 w.heap.size _ n _ _ _ rfl rfl _ vs HO1.out HL.out (fun j u hu => by rw [Go.WideShapes.add_plain]; exact (HG1.out.block g (World.block_lt_of_cell? w ⟨g, o + j, none⟩ (HR.out j u hu)) (by simp) |> fun hb => (World.cell?_of_block (w := w) (a := ⟨g, o + j, none⟩) hb).trans (HR.out j u hu))) HO.out ?_); intro w2 ho2 hg2))
    go_ret
    exact ⟨_, rfl, ho2, ⟨hg2.os.trans HG1.out.os, hg2.tape.trans HG1.out.tape, hg2.output.trans HG1.out.output, Nat.le_trans HG1.out.size hg2.size, fun k hk => (hg2.block k (Nat.lt_of_lt_of_le hk HG1.out.size) (fun e => by injection e with e; omega)).trans (HG1.out.block k hk (by simp))⟩⟩
theorem infoE27 : (Try.prog.info? 27).map (fun i => (i.zero, i.size, i.bytes)) = some (some (.slice none 0 0), 1, 24) := by kernel_rfl
theorem sizeE27 : (Try.prog.info? 27).map (·.size) = some 1 := by kernel_rfl
set_option maxHeartbeats 2000000 in
set_option maxRecDepth 100000 in
theorem copied61 (w : World) (v : Value) (n : Nat) (vs : List Value) (h : Fl w v 1 n vs) (hone : ∀ u ∈ vs, u.oneCell' = true) (hbig : n * 24 ≤ 140737488355328) :
    Calls Try.prog 61 #[v] w fun e w' => ∃ v', e = .returned v' ∧ w'.ownsRow w.heap.size 27 1 v' n vs ∧ Below w.heap.size w w' := by
  by_cases h0 : n = 0
  · obtain ⟨⟨p, cap, rfl⟩, rfl⟩ := fl_zero h h0
    subst h0
    go_enter Try.func61, Try.ntmps61
    go_wp2
    go_ret
    exact ⟨_, rfl, World.ownsRow_nil _ _ _ _, Below.refl _ _⟩
  · obtain ⟨i0, hi, hz0, hz1, hz2⟩ := info_parts infoE27
    obtain ⟨g, o, cap, rfl, h1, h2, h3, h4⟩ := fl_pos h (by omega)
    have hnz : ¬ (n : Int) = 0 := by omega
    have HR := Lib.hid h3
    have HO := Lib.hid hone
    have HL := Lib.hid h4
    clear h hone h3 h4
    have HM := Lib.hid hbig
    clear hbig
    go_enter Try.func61, Try.ntmps61
    go_wp2_with (first
      | (at_make; (refine wpList_make_full _ rfl _ _ 23 rfl w.heap.size 27 i0 (.slice none 0 0) 1 Try.underlying23 hi hz0 hz1 _ _ _ _ n rfl rfl rfl rfl (by rw [hz2]; have := HM.out; omega) (by unfold maxLen; omega) (Nat.le_refl _) ?_); intro w1 ho1 hg1; have HO1 := Lib.hid ho1; have HG1 := Lib.hid hg1; clear ho1 hg1)
      | ((with_reducible show wpList _ _ _ (Oper.mk (some 12) _ _ _ _ _ :: _) _ _); (refine wpList_copy_new rfl _ _ 23 23 rfl 27 1 Try.underlying23 sizeE27 w.heap.size _ n _ _ _ rfl rfl _ vs HO1.out HL.out (fun j u hu => by rw [Go.WideShapes.add_plain]; exact (HG1.out.block g (World.block_lt_of_cell? w ⟨g, o + j, none⟩ (HR.out j u hu)) (by simp) |> fun hb => (World.cell?_of_block (w := w) (a := ⟨g, o + j, none⟩) hb).trans (HR.out j u hu))) HO.out ?_); intro w2 ho2 hg2))
    go_ret
    exact ⟨_, rfl, ho2, ⟨hg2.os.trans HG1.out.os, hg2.tape.trans HG1.out.tape, hg2.output.trans HG1.out.output, Nat.le_trans HG1.out.size hg2.size, fun k hk => (hg2.block k (Nat.lt_of_lt_of_le hk HG1.out.size) (fun e => by injection e with e; omega)).trans (HG1.out.block k hk (by simp))⟩⟩
theorem infoE3 : (Try.prog.info? 3).map (fun i => (i.zero, i.size, i.bytes)) = some (some (.int .i64 0), 1, 8) := by kernel_rfl
theorem sizeE3 : (Try.prog.info? 3).map (·.size) = some 1 := by kernel_rfl
set_option maxHeartbeats 2000000 in
set_option maxRecDepth 100000 in
theorem copied62 (w : World) (v : Value) (n : Nat) (vs : List Value) (h : Fl w v 1 n vs) (hone : ∀ u ∈ vs, u.oneCell' = true) (hbig : n * 8 ≤ 140737488355328) :
    Calls Try.prog 62 #[v] w fun e w' => ∃ v', e = .returned v' ∧ w'.ownsRow w.heap.size 3 1 v' n vs ∧ Below w.heap.size w w' := by
  by_cases h0 : n = 0
  · obtain ⟨⟨p, cap, rfl⟩, rfl⟩ := fl_zero h h0
    subst h0
    go_enter Try.func62, Try.ntmps62
    go_wp2
    go_ret
    exact ⟨_, rfl, World.ownsRow_nil _ _ _ _, Below.refl _ _⟩
  · obtain ⟨i0, hi, hz0, hz1, hz2⟩ := info_parts infoE3
    obtain ⟨g, o, cap, rfl, h1, h2, h3, h4⟩ := fl_pos h (by omega)
    have hnz : ¬ (n : Int) = 0 := by omega
    have HR := Lib.hid h3
    have HO := Lib.hid hone
    have HL := Lib.hid h4
    clear h hone h3 h4
    have HM := Lib.hid hbig
    clear hbig
    go_enter Try.func62, Try.ntmps62
    go_wp2_with (first
      | (at_make; (refine wpList_make_full _ rfl _ _ 24 rfl w.heap.size 3 i0 (.int .i64 0) 1 Try.underlying24 hi hz0 hz1 _ _ _ _ n rfl rfl rfl rfl (by rw [hz2]; have := HM.out; omega) (by unfold maxLen; omega) (Nat.le_refl _) ?_); intro w1 ho1 hg1; have HO1 := Lib.hid ho1; have HG1 := Lib.hid hg1; clear ho1 hg1)
      | ((with_reducible show wpList _ _ _ (Oper.mk (some 12) _ _ _ _ _ :: _) _ _); (refine wpList_copy_new rfl _ _ 24 24 rfl 3 1 Try.underlying24 sizeE3 w.heap.size _ n _ _ _ rfl rfl _ vs HO1.out HL.out (fun j u hu => by rw [Go.WideShapes.add_plain]; exact (HG1.out.block g (World.block_lt_of_cell? w ⟨g, o + j, none⟩ (HR.out j u hu)) (by simp) |> fun hb => (World.cell?_of_block (w := w) (a := ⟨g, o + j, none⟩) hb).trans (HR.out j u hu))) HO.out ?_); intro w2 ho2 hg2))
    go_ret
    exact ⟨_, rfl, ho2, ⟨hg2.os.trans HG1.out.os, hg2.tape.trans HG1.out.tape, hg2.output.trans HG1.out.output, Nat.le_trans HG1.out.size hg2.size, fun k hk => (hg2.block k (Nat.lt_of_lt_of_le hk HG1.out.size) (fun e => by injection e with e; omega)).trans (HG1.out.block k hk (by simp))⟩⟩
end Go.Proofs.Ytbkpgppaahpalaa
