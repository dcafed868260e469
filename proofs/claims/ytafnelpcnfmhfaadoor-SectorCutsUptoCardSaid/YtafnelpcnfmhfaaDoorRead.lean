/-
  What Read of package disk does.
-/
import Derived.Test.YtafnelpcnfmhfaaDoorWrite
namespace Go.Proofs.YtafnelpcnfmhfaaDoor
open Go.RowKit Go.Maps Go.ChangeMaps Go.MapKept Go.WideShapes
set_option linter.unusedVariables false      -- a walk need not use every condition
attribute [local go_sem ↓] Go.wp_at_zero Go.wp_at_succ

/-- A sector is stored: what is known behind it. -/
theorem wpList_store26 {ops : Array Oper} {rest : List Oper} {op : Oper} {a : Act} {w : World} {Q : Exit → Act → World → Prop} (hgd : op.guard = none) (x y : Operand) (ho : op.op = .store 26 x y)
    (b o : Nat) (bs : List UInt8) (hx : a.eval x = .pointer (some ⟨b, o, none⟩)) (hy : a.eval y = .agg (encA bs)) (ht : w.there b o 128) (hl : bs.length = 128)
    (h : ∀ w', w.grownBy w' (some b) → w'.rangeAt b o (enc bs) → (∀ b' o' n, w.there b' o' n → w'.there b' o' n) → w'.heap.size = w.heap.size → wpList Tryd.prog ops Q rest (a.put op.dst undef) w') : wpList Tryd.prog ops Q (op :: rest) a w := by
  refine wpList_store_mid hgd 26 x y ho b o (encA bs) hx hy (by rw [size_encA, hl]; exact ht) (by rw [size26, size_encA, hl]) (one_encA bs) (h _ (gr_sets _ _ _ _) ?_ ?_ ?_)
  · exact World.rangeAt_setCells_same w b o (enc bs) (by rw [len_enc, hl]; exact ht)
  · exact fun b' o' n h' => World.there_setCells h' _ _ _
  · have : ∀ (vs : List Value) (o : Nat) (w : World), (w.setCells b o vs).heap.size = w.heap.size := by
      intro vs
      induction vs with
      | nil => intros; rfl
      | cons v vs ih => intro o w; rw [World.setCells, ih]; simp [World.setCell]
    exact this _ _ _
theorem At.grown {w w' : World} {d pb mb b : Nat} {s : Dsk} (h : At w d pb mb s) (hg : w.grownBy w' (some b)) (h1 : b ≠ d) (h2 : b ≠ pb) (h3 : b ≠ mb) : At w' d pb mb s :=
  have l := h.lts
  h.same (hg.block _ l.1 (fun e => h1 (by injection e with e; exact e.symm))) (hg.block _ l.2.1 (fun e => h2 (by injection e with e; exact e.symm))) (hg.block _ l.2.2.1 (fun e => h3 (by injection e with e; exact e.symm)))

def zer : List UInt8 := fil 0
theorem len_zer : zer.length = 128 := len_fil 0
theorem zc : Tryd.zeroCells26 = encA zer := zc26
def Dsk.read (s : Dsk) (n : Int) : List UInt8 × Int :=
  if s.reach n ≠ 0 then (zer, s.reach n) else match s.ca n.toNat with | some bs => (bs, 0) | none => if s.tn n.toNat then (zer, 40) else (s.st n.toNat, 0)
theorem there4 (w : World) : (w.alloc (.cells (encA zer) 26)).there w.heap.size 0 128 := by
  have := there_new w (encA zer) 26
  rwa [size_encA, len_zer] at this
set_option maxHeartbeats 800000 in
set_option maxRecDepth 100000 in
theorem read_refused (w : World) (d pb mb : Nat) (s : Dsk) (h : At w d pb mb s) (n : Int) (hr : s.reach n ≠ 0) :
    Calls Tryd.prog 33 #[.pointer (some ⟨d, 0, none⟩), .int .i64 n] w fun e w' => e = .returned (.tuple #[.agg (encA zer), .int .i64 (s.reach n)]) ∧ Below w.heap.size w w' := by
  have cR := reach48 (w.alloc (.cells (encA zer) 26)) d pb mb s (h.alloc _) n
  clear h
  generalize s.reach n = r at *
  have ht := there4 w
  go_enter Tryd.func33, Tryd.ntmps33
  go_wp2_with (first
    | (go_at_call 48; rw [zc]; refine cR.mono ?_; rintro e w' ⟨rfl, rfl⟩)
    | (show wpList _ _ _ (Oper.mk _ (Op.store 26 (Operand.tmp 4) _) _ _ _ _ :: _) _ _
       (try rw [zc]); refine wpList_store26 rfl _ _ rfl w.heap.size 0 zer rfl rfl ht len_zer ?_; intro w2 g2 r2 t2 z2))
  refine bodyPost_ret (v := .tuple #[.agg (encA zer), .int .i64 r]) (results_cell_tmp_mid Tryd.results33 _ _ w.heap.size zer rfl r2 len_zer) rfl ⟨rfl, ?_⟩
  exact Below.grown (bel1 w _) g2 (by simp) (fun k e => by injection e with e; omega)
theorem key_wf {k : Nat} (hk : k < 16384) : (Lit.int .i64 (k : Int)).wf = true := by
  simp [Lit.wf, IntKind.min, IntKind.max, IntKind.signed, IntKind.bits]; omega
theorem secR_held {v : Value} {cs : Array Value} {ps : List MemPlace} (h : secR v = some (.held cs, ps)) : v = .agg cs := by
  cases v <;> simp [secR] at h
  rw [h.1]
theorem has_none {N : Nat} {D : DataW (Array Value)} {ca : Nat → Option (List UInt8)} (ht : Tied N D ca) {k : Nat} (hc : ca k = none) : Maps.has D (.int .i64 k) = false := by
  cases hx : Maps.has D (.int .i64 k) with
  | false => rfl
  | true =>
    obtain ⟨j, hj, hi⟩ := ht.back _ hx
    obtain rfl : k = j := by omega
    rw [hc] at hi; cases hi
/-- What is found in the cache. -/
theorem look_some {w : World} {d pb mb : Nat} {s : Dsk} (h : At w d pb mb s) {k : Nat} {bs : List UInt8} (hc : s.ca k = some bs) (c : Bool) :
    (Instr.lookup 74 (.map (some mb)) (.int .i64 k) c).run Tryd.prog w = .ok (if c then .tuple #[.agg (encA bs), .bool true] else .agg (encA bs)) w := by
  obtain ⟨n, D, ho, ht⟩ := h.own
  have hk : k < 16384 := by have := ht.lt k bs hc; have := h.top; omega
  have hz : (zeroValue 26).run Tryd.prog w = .ok (.agg Tryd.zeroCells26) w := Tryd.zeroValue26 w
  obtain ⟨es, clock, hb, F, hs, rfl⟩ := ho
  have hh := ht.has k bs hc
  have ha := ht.at_ k bs hc
  rcases Maps.fit_look c keyed3 Tryd.underlying74 hz hb F (keyOf_int_mk Tryd.underlying3 (key_wf hk)) with ⟨-, -, hat⟩ | ⟨e0, y, -, -, hrun, hRv, hat, -⟩
  · rw [Maps.has_false_of_atKey hat] at hh; cases hh
  · have e1 : y.1 = .held (encA bs) := (hat (.lit (.bool true))).symm.trans (ha _)
    have e2 : e0.val = .agg (encA bs) := secR_held (ps := y.2) (by rw [hRv, ← e1])
    rw [hrun, e2]
theorem look_none {w : World} {d pb mb : Nat} {s : Dsk} (h : At w d pb mb s) {k : Nat} (hk : k < s.N) (hc : s.ca k = none) (c : Bool) :
    (Instr.lookup 74 (.map (some mb)) (.int .i64 k) c).run Tryd.prog w = .ok (if c then .tuple #[.agg (encA zer), .bool false] else .agg (encA zer)) w := by
  obtain ⟨n, D, ho, ht⟩ := h.own
  have hk : k < 16384 := by have := h.top; omega
  have hz : (zeroValue 26).run Tryd.prog w = .ok (.agg Tryd.zeroCells26) w := Tryd.zeroValue26 w
  obtain ⟨es, clock, hb, F, hs, rfl⟩ := ho
  have hh := has_none ht hc
  rcases Maps.fit_look c keyed3 Tryd.underlying74 hz hb F (keyOf_int_mk Tryd.underlying3 (key_wf hk)) with ⟨hrun, -, hat⟩ | ⟨e0, y, -, -, hrun, hRv, hat, -⟩
  · rw [hrun, zc]
  · rw [Maps.has_true_of_atKey hat] at hh; cases hh
set_option maxHeartbeats 1600000 in
set_option maxRecDepth 100000 in
theorem read_dirty (w : World) (d pb mb : Nat) (s : Dsk) (h : At w d pb mb s) (k : Nat) (hr : s.reach k = 0) (bs : List UInt8) (hc : s.ca k = some bs) :
    Calls Tryd.prog 33 #[.pointer (some ⟨d, 0, none⟩), .int .i64 k] w fun e w' => e = .returned (.tuple #[.agg (encA bs), .int .i64 0]) ∧ Below w.heap.size w w' := by
  have h1 := h.alloc (.cells (encA zer) 26)
  have cR := reach48 _ d pb mb s h1 k
  rw [hr] at cR
  have hl : bs.length = 128 := by obtain ⟨n, D, ho, ht⟩ := h.own; exact ht.len k bs hc
  have hlk := look_some h1 hc true
  simp only [if_true] at hlk
  obtain ⟨-, c1, -, -, -, -⟩ := five_of h1.blk
  have ht4 := World.there_alloc (there4 w) (.cells (encA zer) 26)
  have ht7 := there4 (w.alloc (.cells (encA zer) 26))
  rw [World.size_alloc] at ht7
  have hi : (Tryd.prog.info? 26).map (·.size) = some (enc bs).length := by rw [size26, len_enc, hl]
  clear h h1 hr hc
  go_enter Tryd.func33, Tryd.ntmps33
  go_wp2_with (first
    | (go_at_call 48; rw [zc]; refine cR.mono ?_; rintro e w' ⟨rfl, rfl⟩)
    | (show wpList _ _ _ (Oper.mk _ (Op.store 26 (Operand.tmp 7) _) _ _ _ _ :: _) _ _
       (try rw [zc]); refine wpList_store26 rfl _ _ rfl (w.heap.size + 1) 0 bs rfl rfl ht7 hl ?_; intro w2 g2 r2 t2 z2)
    | (show wpList _ _ _ (Oper.mk _ (Op.load 26 (Operand.tmp 7)) _ _ _ _ :: _) _ _
       refine wpList_load_mid rfl 26 _ rfl _ _ rfl _ _ r2 Tryd.underlying26 rfl hi ?_)
    | (show wpList _ _ _ (Oper.mk _ (Op.store 26 (Operand.tmp 4) _) _ _ _ _ :: _) _ _
       refine wpList_store26 rfl _ _ rfl w.heap.size 0 bs rfl rfl (t2 _ _ _ ht4) hl ?_; intro w3 g3 r3 t3 z3))
  refine bodyPost_ret (v := .tuple #[.agg (encA bs), .int .i64 0]) (results_cell_tmp_mid Tryd.results33 _ _ w.heap.size bs rfl r3 hl) rfl ⟨rfl, ?_⟩
  exact Below.grown (Below.grown ((bel1 w _).alloc (by simp) _) g2 (by simp; omega) (fun k e => by injection e with e; omega)) g3 (by rw [z2]; simp; omega) (fun k e => by injection e with e; omega)
theorem plc_stays {w : World} {pb o : Nat} {bs : List UInt8} {t : Bool} (h : w.rangeAt pb o (plc bs t)) : w.rangeAt pb o (enc bs) := fun j v hv => h j v (by
  unfold plc
  rw [List.getElem?_append_left (List.getElem?_eq_some_iff.1 hv).1]; exact hv)
theorem plc_torn {w : World} {pb o : Nat} {bs : List UInt8} {t : Bool} (h : w.rangeAt pb o (plc bs t)) (hl : bs.length = 128) : w.cell? ⟨pb, o + 128, none⟩ = some (.bool t) := h 128 (.bool t) (by
  unfold plc
  rw [List.getElem?_append_right (by rw [len_enc, hl]; exact Nat.le_refl _), len_enc, hl]; rfl)
set_option maxHeartbeats 1600000 in
set_option maxRecDepth 100000 in
theorem read_torn (w : World) (d pb mb : Nat) (s : Dsk) (h : At w d pb mb s) (k : Nat) (hr : s.reach k = 0) (hc : s.ca k = none) (ht : s.tn k = true) :
    Calls Tryd.prog 33 #[.pointer (some ⟨d, 0, none⟩), .int .i64 k] w fun e w' => e = .returned (.tuple #[.agg (encA zer), .int .i64 40]) ∧ Below w.heap.size w w' := by
  obtain ⟨-, k', hkk, hk⟩ := reach_zero hr
  obtain rfl : k = k' := by omega
  have h1 := h.alloc (.cells (encA zer) 26)
  have cR := reach48 _ d pb mb s h1 k
  rw [hr] at cR
  have hlk := look_none h1 hk hc true
  simp only [if_true] at hlk
  obtain ⟨-, c1, -, -, -, -⟩ := five_of h1.blk
  have ht4 := World.there_alloc (there4 w) (.cells (encA zer) 26)
  have ht7 := there4 (w.alloc (.cells (encA zer) 26))
  rw [World.size_alloc] at ht7
  have lts := h.lts
  have H2 : Hid (At ((w.alloc (.cells (encA zer) 26)).alloc (.cells (encA zer) 26)) d pb mb s) := h1.alloc _
  have hkz : (0 : Int) ≤ (k : Int) := by omega
  have hkN : (k : Int) < (s.N : Int) := by omega
  clear h h1 hr hc
  go_enter Tryd.func33, Tryd.ntmps33
  go_wp2_with (first
    | (go_at_call 48; rw [zc]; refine cR.mono ?_; rintro e w' ⟨rfl, rfl⟩)
    | (show wpList _ _ _ (Oper.mk _ (Op.store 26 (Operand.tmp 7) _) _ _ _ _ :: _) _ _
       (try rw [zc]); refine wpList_store26 rfl _ _ rfl (w.heap.size + 1) 0 zer rfl rfl ht7 len_zer ?_; intro w2 g2 r2 t2 z2
       have h3 := H2.out.grown g2 (by omega) (by omega) (by omega)
       obtain ⟨p0, -, -, -, -, -⟩ := five_of h3.blk
       have pt := plc_torn (h3.pl k hk) (h3.sl k hk)
       rw [ht] at pt
       clear h3)
    | (show wpList _ _ _ (Oper.mk _ (Op.store 26 (Operand.tmp 4) _) _ _ _ _ :: _) _ _
       (try rw [zc]); refine wpList_store26 rfl _ _ rfl w.heap.size 0 zer rfl rfl (t2 _ _ _ ht4) len_zer ?_; intro w3 g3 r3 t3 z3))
  refine bodyPost_ret (v := .tuple #[.agg (encA zer), .int .i64 40]) (results_cell_tmp_mid Tryd.results33 _ _ w.heap.size zer rfl r3 len_zer) rfl ⟨rfl, ?_⟩
  exact Below.grown (Below.grown ((bel1 w _).alloc (by simp) _) g2 (by simp; omega) (fun k e => by injection e with e; omega)) g3 (by rw [z2]; simp; omega) (fun k e => by injection e with e; omega)
set_option maxHeartbeats 1600000 in
set_option maxRecDepth 100000 in
theorem read_stays (w : World) (d pb mb : Nat) (s : Dsk) (h : At w d pb mb s) (k : Nat) (hr : s.reach k = 0) (hc : s.ca k = none) (ht : s.tn k = false) :
    Calls Tryd.prog 33 #[.pointer (some ⟨d, 0, none⟩), .int .i64 k] w fun e w' => e = .returned (.tuple #[.agg (encA (s.st k)), .int .i64 0]) ∧ Below w.heap.size w w' := by
  obtain ⟨-, k', hkk, hk⟩ := reach_zero hr
  obtain rfl : k = k' := by omega
  have h1 := h.alloc (.cells (encA zer) 26)
  have cR := reach48 _ d pb mb s h1 k
  rw [hr] at cR
  have hlk := look_none h1 hk hc true
  simp only [if_true] at hlk
  obtain ⟨-, c1, -, -, -, -⟩ := five_of h1.blk
  have ht4 := World.there_alloc (there4 w) (.cells (encA zer) 26)
  have ht7 := there4 (w.alloc (.cells (encA zer) 26))
  rw [World.size_alloc] at ht7
  have lts := h.lts
  have H2 : Hid (At ((w.alloc (.cells (encA zer) 26)).alloc (.cells (encA zer) 26)) d pb mb s) := h1.alloc _
  have hkz : (0 : Int) ≤ (k : Int) := by omega
  have hkN : (k : Int) < (s.N : Int) := by omega
  have hl := h.sl k hk
  have hi : (Tryd.prog.info? 26).map (·.size) = some (enc (s.st k)).length := by rw [size26, len_enc, hl]
  clear h h1 hr hc
  go_enter Tryd.func33, Tryd.ntmps33
  go_wp2_with (first
    | (go_at_call 48; rw [zc]; refine cR.mono ?_; rintro e w' ⟨rfl, rfl⟩)
    | (show wpList _ _ _ (Oper.mk _ (Op.store 26 (Operand.tmp 7) _) _ _ _ _ :: _) _ _
       (try rw [zc]); refine wpList_store26 rfl _ _ rfl (w.heap.size + 1) 0 zer rfl rfl ht7 len_zer ?_; intro w2 g2 r2 t2 z2
       have h3 := H2.out.grown g2 (by omega) (by omega) (by omega)
       obtain ⟨p0, -, -, -, -, -⟩ := five_of h3.blk
       have pt := plc_torn (h3.pl k hk) (h3.sl k hk)
       have ps := plc_stays (h3.pl k hk)
       rw [ht] at pt
       clear h3)
    | (show wpList _ _ _ (Oper.mk _ (Op.load 26 (Operand.tmp 42)) _ _ _ _ :: _) _ _
       refine wpList_load_mid rfl 26 _ rfl _ _ rfl _ _ ps Tryd.underlying26 rfl hi ?_)
    | (show wpList _ _ _ (Oper.mk _ (Op.store 26 (Operand.tmp 4) _) _ _ _ _ :: _) _ _
       refine wpList_store26 rfl _ _ rfl w.heap.size 0 (s.st k) rfl rfl (t2 _ _ _ ht4) hl ?_; intro w3 g3 r3 t3 z3))
  refine bodyPost_ret (v := .tuple #[.agg (encA (s.st k)), .int .i64 0]) (results_cell_tmp_mid Tryd.results33 _ _ w.heap.size (s.st k) rfl r3 hl) rfl ⟨rfl, ?_⟩
  exact Below.grown (Below.grown ((bel1 w _).alloc (by simp) _) g2 (by simp; omega) (fun k e => by injection e with e; omega)) g3 (by rw [z2]; simp; omega) (fun k e => by injection e with e; omega)
theorem read33 (w : World) (d pb mb : Nat) (s : Dsk) (h : At w d pb mb s) (n : Int) :
    Calls Tryd.prog 33 #[.pointer (some ⟨d, 0, none⟩), .int .i64 n] w fun e w' => e = .returned (.tuple #[.agg (encA (s.read n).1), .int .i64 (s.read n).2]) ∧ Below w.heap.size w w' := by
  unfold Dsk.read
  by_cases hr : s.reach n = 0
  · rw [if_neg (fun e => e hr)]
    obtain ⟨hd, k, rfl, hk⟩ := reach_zero hr
    rw [Int.toNat_natCast]
    cases hc : s.ca k with
    | some bs => exact read_dirty w d pb mb s h k hr bs hc
    | none =>
      cases ht : s.tn k with
      | true => exact read_torn w d pb mb s h k hr hc ht
      | false => exact read_stays w d pb mb s h k hr hc ht
  · rw [if_pos hr]
    exact read_refused w d pb mb s h n hr
end Go.Proofs.YtafnelpcnfmhfaaDoor
