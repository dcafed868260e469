/-
  The numbers of the sectors in the cache, rising. No walk.
  What Write of package disk does.
  What Read of package disk does.
  What New of package disk does.
  What Flush of package disk does.
-/
import Derived.Test.YtfakgfmgofblgaaGreatDoorZBitsSumShlSmallCall
import Derived.Lib.SlKeysI
import Derived.Test.YtfakgfmgofblgaaGreatDoorZDskFillBsCrcCrcB
import Derived.Deep.RegionHeld3
import Derived.Deep.DrawnRows
import Derived.Laws.MakeOwn
namespace Go.Proofs.YtfakgfmgofblgaaGreatDoor
open Go.RowKit Go.Maps Go.Sort
set_option linter.unusedVariables false      -- a walk need not use every condition

def Dsk.dirty (s : Dsk) : List Nat := (List.range s.N).filter fun k => (s.ca k).isSome
def ints (l : List Nat) : List Int := l.map fun (k : Nat) => (k : Int)
theorem ints_nodup {l : List Nat} (h : l.Nodup) : (ints l).Nodup := by
  unfold ints
  exact List.pairwise_map.2 (h.imp fun {a b} hne e => hne (by omega))
theorem dirty_nodup (s : Dsk) : s.dirty.Nodup := List.Pairwise.filter _ List.nodup_range
theorem dirty_sorted (s : Dsk) : s.dirty.Pairwise (· < ·) := List.Pairwise.filter _ List.pairwise_lt_range
theorem mem_dirty {s : Dsk} {k : Nat} : k ∈ s.dirty ↔ k < s.N ∧ (s.ca k).isSome = true := by simp [Dsk.dirty]
theorem dirty_len (s : Dsk) : s.dirty.length ≤ s.N := by
  have := List.length_filter_le (fun k => (s.ca k).isSome) (List.range s.N)
  simpa [Dsk.dirty] using this
theorem keyed3 : Keyed Tryz.prog 3 := int_keyed Tryz.underlying3
theorem dirty_perm {w : World} {mb n : Nat} {D : DataW (Array Value)} {s : Dsk} (ho : w.ownsMap Tryz.prog 3 secR mb n D) (ht : Tied s.N D s.ca) : (ints s.dirty).Perm (intKeys D) := by
  obtain ⟨es, hD, hpw, -⟩ := ho.entries keyed3
  obtain ⟨es', hD', hko⟩ := ho.keysOf
  obtain rfl : es = es' := by rw [hD] at hD'; simpa using hD'
  subst hD
  refine perm_intKeys hpw (fun p hp => ?_) (ints_nodup (dirty_nodup s)) (fun x => ?_)
  · obtain ⟨v, hv⟩ := hko p hp
    obtain ⟨x, _, hx, _⟩ := Maps.keyOf_i64 Tryz.underlying3 hv
    exact ⟨x, hx⟩
  · constructor
    · intro hx
      obtain ⟨k, hk, rfl⟩ := List.mem_map.1 hx
      obtain ⟨-, hi⟩ := mem_dirty.1 hk
      obtain ⟨bs, hbs⟩ := Option.isSome_iff_exists.1 hi
      exact ht.has k bs hbs
    · intro hx
      obtain ⟨k, rfl, hi⟩ := ht.back x hx
      obtain ⟨bs, hbs⟩ := Option.isSome_iff_exists.1 hi
      exact List.mem_map.2 ⟨k, mem_dirty.2 ⟨ht.lt k bs hbs, hi⟩, rfl⟩
theorem size_keys {es : List (Lit × DataW (Array Value))} : Maps.size (.map es) = (intKeys (.map es)).length := by
  simp [Maps.size, intKeys]
theorem size_dirty {w : World} {mb n : Nat} {D : DataW (Array Value)} {s : Dsk} (ho : w.ownsMap Tryz.prog 3 secR mb n D) (ht : Tied s.N D s.ca) : Maps.size D = s.dirty.length := by
  have hp := dirty_perm ho ht
  obtain ⟨es, rfl, -, -⟩ := ho.entries keyed3
  rw [size_keys, ← hp.length_eq]
  simp [ints]
end Go.Proofs.YtfakgfmgofblgaaGreatDoor
namespace Go.Proofs.YtfakgfmgofblgaaGreatDoor
open Go.RowKit Go.Maps Go.ChangeMaps Go.MapKept Go.WideShapes
set_option linter.unusedVariables false      -- a walk need not use every condition
attribute [local go_sem ↓] Go.wp_at_zero Go.wp_at_succ

def upd {α : Type} (f : Nat → α) (k : Nat) (x : α) : Nat → α := fun j => if j = k then x else f j
theorem upd_same {α : Type} (f : Nat → α) (k : Nat) (x : α) : upd f k x k = x := by simp [upd]
theorem upd_other {α : Type} (f : Nat → α) {k j : Nat} (x : α) (h : j ≠ k) : upd f k x j = f j := by simp [upd, h]
theorem isKey (x : Int) : WideAt.IsKeyLit (.int .i64 x) := trivial
theorem lit_ne {a b : Nat} (h : a ≠ b) : (Lit.int .i64 a) ≠ (Lit.int .i64 b) := fun e => by injection e with _ e; omega
theorem Tied.put {N : Nat} {D : DataW (Array Value)} {ca : Nat → Option (List UInt8)} (h : Tied N D ca) (hD : IsMap D) {k : Nat} (hk : k < N) {bs : List UInt8} (hl : bs.length = 128) : Tied N (D.put (.int .i64 k) (.held (encA bs))) (upd ca k (some bs)) := by
  refine ⟨fun x hx => ?_, fun j cs hj => ?_, fun j cs hj => ?_, fun j cs hj => ?_, fun j cs hj => ?_⟩
  · by_cases e : x = k
    · subst e; exact ⟨k, rfl, by rw [upd_same]; rfl⟩
    · rw [has_put_other (fun e' => e (by injection e'))] at hx
      obtain ⟨j, rfl, hj⟩ := h.back x hx
      exact ⟨j, rfl, by rw [upd_other _ _ (fun e' => e (by rw [e']))]; exact hj⟩
  all_goals by_cases e : j = k
  · subst e; exact has_put_same hD (isKey _) _
  · rw [upd_other _ _ e] at hj; rw [has_put_other (lit_ne e)]; exact h.has j cs hj
  · subst e; rw [upd_same] at hj; injection hj with hj; subst hj; exact fun z => atKey_put_same hD (isKey _) _ z
  · rw [upd_other _ _ e] at hj; exact fun z => (atKey_put_other (lit_ne e) _ z).trans (h.at_ j cs hj z)
  · subst e; exact hk
  · rw [upd_other _ _ e] at hj; exact h.lt j cs hj
  · subst e; rw [upd_same] at hj; injection hj with hj; subst hj; exact hl
  · rw [upd_other _ _ e] at hj; exact h.len j cs hj
/-- The cache has turned, and nothing else. -/
theorem At.cache {w w' : World} {d pb mb n : Nat} {s : Dsk} {D : DataW (Array Value)} (h : At w d pb mb s) (hg : w.grownBy w' (some mb)) (ho : w'.ownsMap Tryz.prog 3 secR mb n D) {ca : Nat → Option (List UInt8)} (ht : Tied s.N D ca) : At w' d pb mb { s with ca := ca } := by
  have l := h.lts
  have hd : w'.heap[d]? = w.heap[d]? := hg.block _ l.1 (fun e => l.2.2.2.1 (by injection e with e; exact e.symm))
  have hp : w'.heap[pb]? = w.heap[pb]? := hg.block _ l.2.1 (fun e => l.2.2.2.2 (by injection e with e; exact e.symm))
  exact ⟨hd.trans h.blk, h.ne, h.pos, h.top, fun i hi => rangeAt_same (h.pl i hi) hp, h.sl, there_same h.th hp, ⟨n, D, ho, ht⟩, h.fu, h.cl⟩
theorem gr_drew {w w' : World} {r : Option Nat} (g : w.drew.grownBy w' r) : w.grownBy w' r := ⟨g.os, g.tape, g.output, g.size, g.block⟩
theorem own_size {w : World} {mb n : Nat} {D : DataW (Array Value)} (h : w.ownsMap Tryz.prog 3 secR mb n D) : w.ownsMap Tryz.prog 3 secR mb (Maps.size D) D := by
  obtain ⟨es, ck, hb, F, hs, rfl⟩ := h
  exact ⟨es, ck, hb, F, by simp [Maps.size, length_sorted], rfl⟩

/-- What a write does, where the sector is there and the power too, behind the call. -/
def Dsk.write (s : Dsk) (n : Int) (bs : List UInt8) : Int × Dsk :=
  if s.reach n ≠ 0 then (s.reach n, s) else if s.call.1 ≠ 0 then s.call else (0, { s.call.2 with ca := upd s.call.2.ca n.toNat (some bs) })
set_option maxHeartbeats 1600000 in
set_option maxRecDepth 100000 in
theorem write_ok (w : World) (d pb mb : Nat) (s : Dsk) (h : At w d pb mb s) (k : Nat) (hk : k < s.N) (hd : s.down = false) (hc : s.call.1 = 0) (bs : List UInt8) (hl : bs.length = 128) :
    Calls Tryz.prog 108 #[.pointer (some ⟨d, 0, none⟩), .int .i64 k, .agg (encA bs)] w fun e w' => e = .returned (.int .i64 0) ∧ At w' d pb mb { s.call.2 with ca := upd s.call.2.ca k (some bs) } ∧ Kept d pb mb w w' := by
  have cR := reach154 (w.alloc (.cells (encA bs) 118)) d pb mb s (h.alloc _) k
  have cC := call155 (w.alloc (.cells (encA bs) 118)) d pb mb s (h.alloc _) hd
  have e0 : s.reach k = 0 := by simp [Dsk.reach, hd, Dsk.hasB, hk]
  rw [e0] at cR
  rw [hc] at cC
  have hN : s.call.2.N = s.N := by unfold Dsk.call; split; rfl; split <;> rfl
  have hr : (w.alloc (.cells (encA bs) 118)).rangeAt w.heap.size 0 (enc bs) := range_new w (enc bs) 118
  have hlt := h.lts
  have HK : Hid (k < s.call.2.N) := by rw [hN]; exact hk
  have HW : Hid (d < w.heap.size ∧ pb < w.heap.size ∧ mb < w.heap.size) := ⟨hlt.1, hlt.2.1, hlt.2.2.1⟩
  have hk63 : (Lit.int .i64 (k : Int)).wf = true := by
    have := h.top
    simp [Lit.wf, IntKind.min, IntKind.max, IntKind.signed, IntKind.bits]; omega
  generalize s.call.2 = s' at *
  clear hN hlt h
  go_enter Tryz.func108, Tryz.ntmps108
  go_wp2_with (first
    | (go_at_call 154; refine cR.mono ?_; rintro e w' ⟨rfl, rfl⟩)
    | (go_at_call 155; refine cC.mono ?_; rintro e w1 ⟨rfl, h1, k1⟩))
  obtain ⟨-, cm, -, -, -, -⟩ := five_of h1.blk
  have hw0 := HW.out
  have hr1 : w1.rangeAt w.heap.size 0 (enc bs) := rangeAt_same hr (k1.block _ (by simp) (by omega) (by omega) (by omega))
  obtain ⟨n, D, ho, ht⟩ := h1.own
  have hsz : Maps.size D < maxLen := by
    rw [size_dirty ho ht]
    have := dirty_len s'; have := h1.top
    unfold maxLen; omega
  obtain ⟨w2, hrun, ho2, htn⟩ := (own_size ho).drew.store keyed3 Tryz.underlying86 hsz (keyOf_int_mk Tryz.underlying3 hk63) (show secR (.agg (enc bs).toArray) = some (.held (encA bs), []) from rfl)
  have hu := Tryz.underlying118
  have hi : (Tryz.prog.info? 118).map (·.size) = some (enc bs).length := by rw [size26, len_enc, hl]
  have hD := ho.isMap
  have H1 : Hid (At w1 d pb mb s') := h1
  have HT : Hid (Tied s'.N D s'.ca) := ht
  have HG : Hid (w1.drew.mapTurned w2 mb) := htn
  have HO : Hid (w2.ownsMap Tryz.prog 3 secR mb (Maps.size D + 1) (D.put (.int .i64 k) (.held (encA bs)))) := ho2
  clear h1 ht htn ho2 ho cR cC hr hw0
  have hg2 : w1.grownBy w2 (some mb) := gr_drew HG.out.grown
  have l1 := H1.out.lts
  have cm2 : w2.cell? ⟨d, 1, none⟩ = some (.map (some mb)) := (World.cell?_of_block (w := w1) (a := ⟨d, 1, none⟩) (hg2.block _ l1.1 (fun e => l1.2.2.2.1 (by injection e with e; exact e.symm)))).trans cm
  have hr2 : w2.rangeAt w.heap.size 0 (enc bs) := rangeAt_same hr1 (hg2.block _ (by have := k1.size; simp at this; omega) (fun e => by have := HW.out.2.2; injection e with e; omega))
  have H2 : Hid (w1.grownBy w2 (some mb)) := hg2
  clear hg2 l1
  go_region_held3 (fun w' => w'.cell? ⟨d, 1, none⟩ = some (.map (some mb)) ∧ w'.rangeAt w.heap.size 0 (enc bs)) (first | exact ⟨cm2, hr2⟩ | go_keep | go_keep_ranges) (fail)
  go_wp2
  go_ret
  refine ⟨rfl, H1.out.cache H2.out HO.out (HT.out.put hD HK.out hl), ?_⟩
  exact ((Kept.bel (bel1 w _)).trans k1).trans (Kept.grown H2.out (fun k e => by injection e with e; exact .inr (.inr e.symm)))
set_option maxHeartbeats 800000 in
theorem write_refused (w : World) (d pb mb : Nat) (s : Dsk) (h : At w d pb mb s) (n : Int) (bs : List UInt8) (hr : s.reach n ≠ 0) :
    Calls Tryz.prog 108 #[.pointer (some ⟨d, 0, none⟩), .int .i64 n, .agg (encA bs)] w fun e w' => e = .returned (.int .i64 (s.reach n)) ∧ At w' d pb mb s ∧ Kept d pb mb w w' := by
  have cR := reach154 (w.alloc (.cells (encA bs) 118)) d pb mb s (h.alloc _) n
  have H : Hid (At (w.alloc (.cells (encA bs) 118)) d pb mb s) := h.alloc _
  clear h
  generalize s.reach n = r at *
  go_enter Tryz.func108, Tryz.ntmps108
  go_wp2_with (first
    | (go_at_call 154; refine cR.mono ?_; rintro e w' ⟨rfl, rfl⟩))
  go_ret
  exact ⟨rfl, H.out, Kept.bel (bel1 w _)⟩
set_option maxHeartbeats 800000 in
theorem write_down (w : World) (d pb mb : Nat) (s : Dsk) (h : At w d pb mb s) (n : Int) (bs : List UInt8) (hr : s.reach n = 0) (hc : s.call.1 ≠ 0) :
    Calls Tryz.prog 108 #[.pointer (some ⟨d, 0, none⟩), .int .i64 n, .agg (encA bs)] w fun e w' => e = .returned (.int .i64 s.call.1) ∧ At w' d pb mb s.call.2 ∧ Kept d pb mb w w' := by
  have hd : s.down = false := by
    unfold Dsk.reach at hr
    cases hx : s.down
    · rfl
    · rw [hx] at hr; simp at hr
  have cR := reach154 (w.alloc (.cells (encA bs) 118)) d pb mb s (h.alloc _) n
  have cC := call155 (w.alloc (.cells (encA bs) 118)) d pb mb s (h.alloc _) hd
  rw [hr] at cR
  clear h
  generalize s.call.1 = r at *
  generalize s.call.2 = s' at *
  go_enter Tryz.func108, Tryz.ntmps108
  go_wp2_with (first
    | (go_at_call 154; refine cR.mono ?_; rintro e w' ⟨rfl, rfl⟩)
    | (go_at_call 155; refine cC.mono ?_; rintro e w1 ⟨rfl, h1, k1⟩))
  go_ret
  exact ⟨rfl, h1, (Kept.bel (bel1 w _)).trans k1⟩
theorem reach_zero {s : Dsk} {n : Int} (hr : s.reach n = 0) : s.down = false ∧ ∃ k : Nat, n = k ∧ k < s.N := by
  unfold Dsk.reach Dsk.hasB at hr
  cases hx : s.down
  · rw [hx] at hr
    refine ⟨rfl, n.toNat, ?_⟩
    by_cases h0 : 0 ≤ n <;> by_cases h1 : n < s.N <;> simp [h0, h1] at hr
    omega
  · rw [hx] at hr; simp at hr
theorem write108 (w : World) (d pb mb : Nat) (s : Dsk) (h : At w d pb mb s) (n : Int) (bs : List UInt8) (hl : bs.length = 128) :
    Calls Tryz.prog 108 #[.pointer (some ⟨d, 0, none⟩), .int .i64 n, .agg (encA bs)] w fun e w' => e = .returned (.int .i64 (s.write n bs).1) ∧ At w' d pb mb (s.write n bs).2 ∧ Kept d pb mb w w' := by
  unfold Dsk.write
  by_cases hr : s.reach n = 0
  · rw [if_neg (fun e => e hr)]
    by_cases hc : s.call.1 = 0
    · rw [if_neg (fun e => e hc)]
      obtain ⟨hd, k, rfl, hk⟩ := reach_zero hr
      exact write_ok w d pb mb s h k hk hd hc bs hl
    · rw [if_pos hc]
      exact write_down w d pb mb s h n bs hr hc
  · rw [if_pos hr]
    exact write_refused w d pb mb s h n bs hr
end Go.Proofs.YtfakgfmgofblgaaGreatDoor
namespace Go.Proofs.YtfakgfmgofblgaaGreatDoor
open Go.RowKit Go.Maps Go.ChangeMaps Go.MapKept Go.WideShapes
set_option linter.unusedVariables false      -- a walk need not use every condition
attribute [local go_sem ↓] Go.wp_at_zero Go.wp_at_succ

/-- A sector is stored: what is known behind it. -/
theorem wpList_store26 {ops : Array Oper} {rest : List Oper} {op : Oper} {a : Act} {w : World} {Q : Exit → Act → World → Prop} (hgd : op.guard = none) (x y : Operand) (ho : op.op = .store 118 x y)
    (b o : Nat) (bs : List UInt8) (hx : a.eval x = .pointer (some ⟨b, o, none⟩)) (hy : a.eval y = .agg (encA bs)) (ht : w.there b o 128) (hl : bs.length = 128)
    (h : ∀ w', w.grownBy w' (some b) → w'.rangeAt b o (enc bs) → (∀ b' o' n, w.there b' o' n → w'.there b' o' n) → w'.heap.size = w.heap.size → wpList Tryz.prog ops Q rest (a.put op.dst undef) w') : wpList Tryz.prog ops Q (op :: rest) a w := by
  refine wpList_store_mid hgd 118 x y ho b o (encA bs) hx hy (by rw [size_encA, hl]; exact ht) (by rw [size26, size_encA, hl]) (one_encA bs) (h _ (gr_sets _ _ _ _) ?_ ?_ ?_)
  · exact World.rangeAt_setCells_same w b o (enc bs) (by rw [len_enc, hl]; exact ht)
  · exact fun b' o' n h' => World.there_setCells h' _ _ _
  · have : ∀ (vs : List Value) (o : Nat) (w : World), (w.setCells b o vs).heap.size = w.heap.size := by
      intro vs
      induction vs with
      | nil => intros; rfl
      | cons v vs ih => intro o w; rw [World.setCells, ih]; simp [World.setCell]
    exact this _ _ _
theorem At.grown {w w' : World} {d pb mb b : Nat} {s : Dsk} (h : At w d pb mb s) (hg : w.grownBy w' (some b)) (h1 : b ≠ d) (h2 : b ≠ pb) (h3 : b ≠ mb) : At w' d pb mb s :=
  have l := h.lts
  h.same (hg.block _ l.1 (fun e => h1 (by injection e with e; exact e.symm))) (hg.block _ l.2.1 (fun e => h2 (by injection e with e; exact e.symm))) (hg.block _ l.2.2.1 (fun e => h3 (by injection e with e; exact e.symm)))

def zer : List UInt8 := fil 0
theorem len_zer : zer.length = 128 := len_fil 0
theorem zc : Tryz.zeroCells118 = encA zer := zc26
def Dsk.read (s : Dsk) (n : Int) : List UInt8 × Int :=
  if s.reach n ≠ 0 then (zer, s.reach n) else match s.ca n.toNat with | some bs => (bs, 0) | none => if s.tn n.toNat then (zer, 40) else (s.st n.toNat, 0)
theorem there4 (w : World) : (w.alloc (.cells (encA zer) 118)).there w.heap.size 0 128 := by
  have := there_new w (encA zer) 118
  rwa [size_encA, len_zer] at this
set_option maxHeartbeats 800000 in
set_option maxRecDepth 100000 in
theorem read_refused (w : World) (d pb mb : Nat) (s : Dsk) (h : At w d pb mb s) (n : Int) (hr : s.reach n ≠ 0) :
    Calls Tryz.prog 152 #[.pointer (some ⟨d, 0, none⟩), .int .i64 n] w fun e w' => e = .returned (.tuple #[.agg (encA zer), .int .i64 (s.reach n)]) ∧ Below w.heap.size w w' := by
  have cR := reach154 (w.alloc (.cells (encA zer) 118)) d pb mb s (h.alloc _) n
  clear h
  generalize s.reach n = r at *
  have ht := there4 w
  go_enter Tryz.func152, Tryz.ntmps152
  go_wp2_with (first
    | (go_at_call 154; rw [zc]; refine cR.mono ?_; rintro e w' ⟨rfl, rfl⟩)
    | (show wpList _ _ _ (Oper.mk _ (Op.store 118 (Operand.tmp 4) _) _ _ _ _ :: _) _ _
       (try rw [zc]); refine wpList_store26 rfl _ _ rfl w.heap.size 0 zer rfl rfl ht len_zer ?_; intro w2 g2 r2 t2 z2))
  refine bodyPost_ret (v := .tuple #[.agg (encA zer), .int .i64 r]) (results_cell_tmp_mid Tryz.results152 _ _ w.heap.size zer rfl r2 len_zer) rfl ⟨rfl, ?_⟩
  exact Below.grown (bel1 w _) g2 (by simp) (fun k e => by injection e with e; omega)
theorem key_wf {k : Nat} (hk : k < 16384) : (Lit.int .i64 (k : Int)).wf = true := by
  simp [Lit.wf, IntKind.min, IntKind.max, IntKind.signed, IntKind.bits]; omega
theorem secR_held {v : Value} {cs : Array Value} {ps : List MemPlace} (h : secR v = some (.held cs, ps)) : v = .agg cs := by
  cases v <;> simp [secR] at h
  rw [h.1]
theorem has_none {N : Nat} {D : DataW (Array Value)} {ca : Nat → Option (List UInt8)} (ht : Tied N D ca) {k : Nat} (hc : ca k = none) : Maps.has D (.int .i64 k) = false := by
  cases hx : Maps.has D (.int .i64 k) with
  | false => rfl
  | true =>
    obtain ⟨j, hj, hi⟩ := ht.back _ hx
    obtain rfl : k = j := by omega
    rw [hc] at hi; cases hi
/-- What is found in the cache. -/
theorem look_some {w : World} {d pb mb : Nat} {s : Dsk} (h : At w d pb mb s) {k : Nat} {bs : List UInt8} (hc : s.ca k = some bs) (c : Bool) :
    (Instr.lookup 86 (.map (some mb)) (.int .i64 k) c).run Tryz.prog w = .ok (if c then .tuple #[.agg (encA bs), .bool true] else .agg (encA bs)) w := by
  obtain ⟨n, D, ho, ht⟩ := h.own
  have hk : k < 16384 := by have := ht.lt k bs hc; have := h.top; omega
  have hz : (zeroValue 118).run Tryz.prog w = .ok (.agg Tryz.zeroCells118) w := Tryz.zeroValue118 w
  obtain ⟨es, clock, hb, F, hs, rfl⟩ := ho
  have hh := ht.has k bs hc
  have ha := ht.at_ k bs hc
  rcases Maps.fit_look c keyed3 Tryz.underlying86 hz hb F (keyOf_int_mk Tryz.underlying3 (key_wf hk)) with ⟨-, -, hat⟩ | ⟨e0, y, -, -, hrun, hRv, hat, -⟩
  · rw [Maps.has_false_of_atKey hat] at hh; cases hh
  · have e1 : y.1 = .held (encA bs) := (hat (.lit (.bool true))).symm.trans (ha _)
    have e2 : e0.val = .agg (encA bs) := secR_held (ps := y.2) (by rw [hRv, ← e1])
    rw [hrun, e2]
theorem look_none {w : World} {d pb mb : Nat} {s : Dsk} (h : At w d pb mb s) {k : Nat} (hk : k < s.N) (hc : s.ca k = none) (c : Bool) :
    (Instr.lookup 86 (.map (some mb)) (.int .i64 k) c).run Tryz.prog w = .ok (if c then .tuple #[.agg (encA zer), .bool false] else .agg (encA zer)) w := by
  obtain ⟨n, D, ho, ht⟩ := h.own
  have hk : k < 16384 := by have := h.top; omega
  have hz : (zeroValue 118).run Tryz.prog w = .ok (.agg Tryz.zeroCells118) w := Tryz.zeroValue118 w
  obtain ⟨es, clock, hb, F, hs, rfl⟩ := ho
  have hh := has_none ht hc
  rcases Maps.fit_look c keyed3 Tryz.underlying86 hz hb F (keyOf_int_mk Tryz.underlying3 (key_wf hk)) with ⟨hrun, -, hat⟩ | ⟨e0, y, -, -, hrun, hRv, hat, -⟩
  · rw [hrun, zc]
  · rw [Maps.has_true_of_atKey hat] at hh; cases hh
set_option maxHeartbeats 1600000 in
set_option maxRecDepth 100000 in
theorem read_dirty (w : World) (d pb mb : Nat) (s : Dsk) (h : At w d pb mb s) (k : Nat) (hr : s.reach k = 0) (bs : List UInt8) (hc : s.ca k = some bs) :
    Calls Tryz.prog 152 #[.pointer (some ⟨d, 0, none⟩), .int .i64 k] w fun e w' => e = .returned (.tuple #[.agg (encA bs), .int .i64 0]) ∧ Below w.heap.size w w' := by
  have h1 := h.alloc (.cells (encA zer) 118)
  have cR := reach154 _ d pb mb s h1 k
  rw [hr] at cR
  have hl : bs.length = 128 := by obtain ⟨n, D, ho, ht⟩ := h.own; exact ht.len k bs hc
  have hlk := look_some h1 hc true
  simp only [if_true] at hlk
  obtain ⟨-, c1, -, -, -, -⟩ := five_of h1.blk
  have ht4 := World.there_alloc (there4 w) (.cells (encA zer) 118)
  have ht7 := there4 (w.alloc (.cells (encA zer) 118))
  rw [World.size_alloc] at ht7
  have hi : (Tryz.prog.info? 118).map (·.size) = some (enc bs).length := by rw [size26, len_enc, hl]
  clear h h1 hr hc
  go_enter Tryz.func152, Tryz.ntmps152
  go_wp2_with (first
    | (go_at_call 154; rw [zc]; refine cR.mono ?_; rintro e w' ⟨rfl, rfl⟩)
    | (show wpList _ _ _ (Oper.mk _ (Op.store 118 (Operand.tmp 7) _) _ _ _ _ :: _) _ _
       (try rw [zc]); refine wpList_store26 rfl _ _ rfl (w.heap.size + 1) 0 bs rfl rfl ht7 hl ?_; intro w2 g2 r2 t2 z2)
    | (show wpList _ _ _ (Oper.mk _ (Op.load 118 (Operand.tmp 7)) _ _ _ _ :: _) _ _
       refine wpList_load_mid rfl 118 _ rfl _ _ rfl _ _ r2 Tryz.underlying118 rfl hi ?_)
    | (show wpList _ _ _ (Oper.mk _ (Op.store 118 (Operand.tmp 4) _) _ _ _ _ :: _) _ _
       refine wpList_store26 rfl _ _ rfl w.heap.size 0 bs rfl rfl (t2 _ _ _ ht4) hl ?_; intro w3 g3 r3 t3 z3))
  refine bodyPost_ret (v := .tuple #[.agg (encA bs), .int .i64 0]) (results_cell_tmp_mid Tryz.results152 _ _ w.heap.size bs rfl r3 hl) rfl ⟨rfl, ?_⟩
  exact Below.grown (Below.grown ((bel1 w _).alloc (by simp) _) g2 (by simp; omega) (fun k e => by injection e with e; omega)) g3 (by rw [z2]; simp; omega) (fun k e => by injection e with e; omega)
theorem plc_stays {w : World} {pb o : Nat} {bs : List UInt8} {t : Bool} (h : w.rangeAt pb o (plc bs t)) : w.rangeAt pb o (enc bs) := fun j v hv => h j v (by
  unfold plc
  rw [List.getElem?_append_left (List.getElem?_eq_some_iff.1 hv).1]; exact hv)
theorem plc_torn {w : World} {pb o : Nat} {bs : List UInt8} {t : Bool} (h : w.rangeAt pb o (plc bs t)) (hl : bs.length = 128) : w.cell? ⟨pb, o + 128, none⟩ = some (.bool t) := h 128 (.bool t) (by
  unfold plc
  rw [List.getElem?_append_right (by rw [len_enc, hl]; exact Nat.le_refl _), len_enc, hl]; rfl)
set_option maxHeartbeats 1600000 in
set_option maxRecDepth 100000 in
theorem read_torn (w : World) (d pb mb : Nat) (s : Dsk) (h : At w d pb mb s) (k : Nat) (hr : s.reach k = 0) (hc : s.ca k = none) (ht : s.tn k = true) :
    Calls Tryz.prog 152 #[.pointer (some ⟨d, 0, none⟩), .int .i64 k] w fun e w' => e = .returned (.tuple #[.agg (encA zer), .int .i64 40]) ∧ Below w.heap.size w w' := by
  obtain ⟨-, k', hkk, hk⟩ := reach_zero hr
  obtain rfl : k = k' := by omega
  have h1 := h.alloc (.cells (encA zer) 118)
  have cR := reach154 _ d pb mb s h1 k
  rw [hr] at cR
  have hlk := look_none h1 hk hc true
  simp only [if_true] at hlk
  obtain ⟨-, c1, -, -, -, -⟩ := five_of h1.blk
  have ht4 := World.there_alloc (there4 w) (.cells (encA zer) 118)
  have ht7 := there4 (w.alloc (.cells (encA zer) 118))
  rw [World.size_alloc] at ht7
  have lts := h.lts
  have H2 : Hid (At ((w.alloc (.cells (encA zer) 118)).alloc (.cells (encA zer) 118)) d pb mb s) := h1.alloc _
  have hkz : (0 : Int) ≤ (k : Int) := by omega
  have hkN : (k : Int) < (s.N : Int) := by omega
  clear h h1 hr hc
  go_enter Tryz.func152, Tryz.ntmps152
  go_wp2_with (first
    | (go_at_call 154; rw [zc]; refine cR.mono ?_; rintro e w' ⟨rfl, rfl⟩)
    | (show wpList _ _ _ (Oper.mk _ (Op.store 118 (Operand.tmp 7) _) _ _ _ _ :: _) _ _
       (try rw [zc]); refine wpList_store26 rfl _ _ rfl (w.heap.size + 1) 0 zer rfl rfl ht7 len_zer ?_; intro w2 g2 r2 t2 z2
       have h3 := H2.out.grown g2 (by omega) (by omega) (by omega)
       obtain ⟨p0, -, -, -, -, -⟩ := five_of h3.blk
       have pt := plc_torn (h3.pl k hk) (h3.sl k hk)
       rw [ht] at pt
       clear h3)
    | (show wpList _ _ _ (Oper.mk _ (Op.store 118 (Operand.tmp 4) _) _ _ _ _ :: _) _ _
       (try rw [zc]); refine wpList_store26 rfl _ _ rfl w.heap.size 0 zer rfl rfl (t2 _ _ _ ht4) len_zer ?_; intro w3 g3 r3 t3 z3))
  refine bodyPost_ret (v := .tuple #[.agg (encA zer), .int .i64 40]) (results_cell_tmp_mid Tryz.results152 _ _ w.heap.size zer rfl r3 len_zer) rfl ⟨rfl, ?_⟩
  exact Below.grown (Below.grown ((bel1 w _).alloc (by simp) _) g2 (by simp; omega) (fun k e => by injection e with e; omega)) g3 (by rw [z2]; simp; omega) (fun k e => by injection e with e; omega)
set_option maxHeartbeats 1600000 in
set_option maxRecDepth 100000 in
theorem read_stays (w : World) (d pb mb : Nat) (s : Dsk) (h : At w d pb mb s) (k : Nat) (hr : s.reach k = 0) (hc : s.ca k = none) (ht : s.tn k = false) :
    Calls Tryz.prog 152 #[.pointer (some ⟨d, 0, none⟩), .int .i64 k] w fun e w' => e = .returned (.tuple #[.agg (encA (s.st k)), .int .i64 0]) ∧ Below w.heap.size w w' := by
  obtain ⟨-, k', hkk, hk⟩ := reach_zero hr
  obtain rfl : k = k' := by omega
  have h1 := h.alloc (.cells (encA zer) 118)
  have cR := reach154 _ d pb mb s h1 k
  rw [hr] at cR
  have hlk := look_none h1 hk hc true
  simp only [if_true] at hlk
  obtain ⟨-, c1, -, -, -, -⟩ := five_of h1.blk
  have ht4 := World.there_alloc (there4 w) (.cells (encA zer) 118)
  have ht7 := there4 (w.alloc (.cells (encA zer) 118))
  rw [World.size_alloc] at ht7
  have lts := h.lts
  have H2 : Hid (At ((w.alloc (.cells (encA zer) 118)).alloc (.cells (encA zer) 118)) d pb mb s) := h1.alloc _
  have hkz : (0 : Int) ≤ (k : Int) := by omega
  have hkN : (k : Int) < (s.N : Int) := by omega
  have hl := h.sl k hk
  have hi : (Tryz.prog.info? 118).map (·.size) = some (enc (s.st k)).length := by rw [size26, len_enc, hl]
  clear h h1 hr hc
  go_enter Tryz.func152, Tryz.ntmps152
  go_wp2_with (first
    | (go_at_call 154; rw [zc]; refine cR.mono ?_; rintro e w' ⟨rfl, rfl⟩)
    | (show wpList _ _ _ (Oper.mk _ (Op.store 118 (Operand.tmp 7) _) _ _ _ _ :: _) _ _
       (try rw [zc]); refine wpList_store26 rfl _ _ rfl (w.heap.size + 1) 0 zer rfl rfl ht7 len_zer ?_; intro w2 g2 r2 t2 z2
       have h3 := H2.out.grown g2 (by omega) (by omega) (by omega)
       obtain ⟨p0, -, -, -, -, -⟩ := five_of h3.blk
       have pt := plc_torn (h3.pl k hk) (h3.sl k hk)
       have ps := plc_stays (h3.pl k hk)
       rw [ht] at pt
       clear h3)
    | (show wpList _ _ _ (Oper.mk _ (Op.load 118 (Operand.tmp 42)) _ _ _ _ :: _) _ _
       refine wpList_load_mid rfl 118 _ rfl _ _ rfl _ _ ps Tryz.underlying118 rfl hi ?_)
    | (show wpList _ _ _ (Oper.mk _ (Op.store 118 (Operand.tmp 4) _) _ _ _ _ :: _) _ _
       refine wpList_store26 rfl _ _ rfl w.heap.size 0 (s.st k) rfl rfl (t2 _ _ _ ht4) hl ?_; intro w3 g3 r3 t3 z3))
  refine bodyPost_ret (v := .tuple #[.agg (encA (s.st k)), .int .i64 0]) (results_cell_tmp_mid Tryz.results152 _ _ w.heap.size (s.st k) rfl r3 hl) rfl ⟨rfl, ?_⟩
  exact Below.grown (Below.grown ((bel1 w _).alloc (by simp) _) g2 (by simp; omega) (fun k e => by injection e with e; omega)) g3 (by rw [z2]; simp; omega) (fun k e => by injection e with e; omega)
theorem read152 (w : World) (d pb mb : Nat) (s : Dsk) (h : At w d pb mb s) (n : Int) :
    Calls Tryz.prog 152 #[.pointer (some ⟨d, 0, none⟩), .int .i64 n] w fun e w' => e = .returned (.tuple #[.agg (encA (s.read n).1), .int .i64 (s.read n).2]) ∧ Below w.heap.size w w' := by
  unfold Dsk.read
  by_cases hr : s.reach n = 0
  · rw [if_neg (fun e => e hr)]
    obtain ⟨hd, k, rfl, hk⟩ := reach_zero hr
    rw [Int.toNat_natCast]
    cases hc : s.ca k with
    | some bs => exact read_dirty w d pb mb s h k hr bs hc
    | none =>
      cases ht : s.tn k with
      | true => exact read_torn w d pb mb s h k hr hc ht
      | false => exact read_stays w d pb mb s h k hr hc ht
  · rw [if_pos hr]
    exact read_refused w d pb mb s h n hr
end Go.Proofs.YtfakgfmgofblgaaGreatDoor
namespace Go.Proofs.YtfakgfmgofblgaaGreatDoor
open Go.RowKit Go.Maps Go.ChangeMaps Go.MapKept Go.WideShapes
set_option linter.unusedVariables false      -- a walk need not use every condition

theorem info83 : (Tryz.prog.info? 120).map (fun i => (i.zero, i.size, i.bytes)) = some (some (.agg (plc zer false).toArray), 129, 129) := by kernel_rfl
theorem len_plc (bs : List UInt8) (t : Bool) (h : bs.length = 128) : (plc bs t).length = 129 := by simp [plc, enc, h]
def rows (N : Nat) : Array Value := madeCells (plc zer false).toArray (N * 129)
theorem make73 (N : Nat) (h2 : N ≤ 16384) (w : World) : (Instr.makeSlice 85 (.int .i64 N) (.int .i64 N)).run Tryz.prog w = .ok (.slice (some ⟨w.heap.size, 0, none⟩) N N) (w.alloc (.cells (rows N) 120)) := by
  obtain ⟨i, hi, hzz⟩ := Option.map_eq_some_iff.1 info83
  simp only [Prod.mk.injEq] at hzz
  obtain ⟨hz, hs, hb⟩ := hzz
  have hr := run_make (P := Tryz.prog) w 85 120 i _ Tryz.underlying85 hi hz .i64 .i64 N N (by omega) (Int.le_refl _) (by rw [hb]; omega) (by omega)
  simp only [Int.toNat_natCast, hs] at hr
  exact hr
theorem rows_at (N i j : Nat) (hi : i < N) (hj : j < 129) : (rows N)[i * 129 + j]? = (plc zer false)[j]? := by
  have hl := len_plc zer false len_zer
  have hlt : i * 129 + j < N * 129 := by omega
  unfold rows madeCells
  rw [Array.getElem?_map, Array.getElem?_range, if_pos hlt]
  simp only [Option.map_some, List.size_toArray, hl]
  rw [show (i * 129 + j) % 129 = j by omega]
  rw [List.getElem?_eq_getElem (by omega)]
  rw [getElem!_pos (h := by simpa [hl] using hj)]
  simp
/-- A disk that was just made. -/
def made (N : Nat) : Dsk := { N := N, st := fun _ => zer, tn := fun _ => false, ca := fun _ => none, down := false, fuse := 0, calls := 0 }
theorem made_places (w : World) (N : Nat) : (∀ i, i < N → (w.alloc (.cells (rows N) 120)).rangeAt w.heap.size (i * 129) (plc zer false)) ∧ (w.alloc (.cells (rows N) 120)).there w.heap.size 0 (N * 129) := by
  have e := heap_alloc_last w (.cells (rows N) 120)
  constructor
  · intro i hi j v hv
    have hj : j < 129 := by have := (List.getElem?_eq_some_iff.1 hv).1; rwa [len_plc zer false len_zer] at this
    rw [cell_of_row _ _ _ _ _ _ e, rows_at N i j hi hj, hv]
  · have := there_new w (rows N) 120
    rwa [show (rows N).size = N * 129 from size_madeCells _ _] at this
theorem tied_none (N : Nat) : Tied N (.map []) (fun _ => none) :=
  ⟨fun x hx => (by simp [Maps.has] at hx), fun k bs hk => (by cases hk), fun k bs hk => (by cases hk), fun k bs hk => (by cases hk), fun k bs hk => (by cases hk)⟩
set_option maxHeartbeats 800000 in
theorem new36 (N : Nat) (h1 : 1 ≤ N) (h2 : N ≤ 16384) (w : World) :
    Calls Tryz.prog 36 #[.int .i64 N] w fun e w' => e = .returned (.tuple #[.pointer (some ⟨w.heap.size + 2, 0, none⟩), .int .i64 0]) ∧ At w' (w.heap.size + 2) w.heap.size (w.heap.size + 1) (made N) ∧ Below w.heap.size w w' := by
  have hmk := make73 N h2
  have hmm := @run_makeMap Tryz.prog
  have t1 : ¬ ((N : Int) < 1) := by omega
  have t2 : ¬ ((16384 : Int) < N) := by omega
  go_enter Tryz.func36, Tryz.ntmps36
  go_wp2
  go_ret2
  refine ⟨rfl, ?_, ?_⟩
  · have hp := made_places w N
    have hm := World.ownsMap_made (H := Array Value) (w.alloc (.cells (rows N) 120)) Tryz.prog 3 secR
    rw [World.size_alloc] at hm
    have hb := heap_alloc_last ((w.alloc (.cells (rows N) 120)).alloc (.map #[] 0)) (.cells #[.slice (some ⟨w.heap.size, 0, none⟩) N N, .map (some (w.heap.size + 1)), .bool false, .int .i64 0, .int .i64 0] 88)
    simp only [World.size_alloc] at hb
    refine ⟨hb, by omega, h1, h2, fun i hi => ?_, fun _ _ => len_zer, World.there_alloc (World.there_alloc hp.2 _) _, ⟨0, .map [], hm.alloc _, ?_⟩, ⟨by simp [made], by simp [made]⟩, ⟨by simp [made], by simp [made]⟩⟩
    · exact World.rangeAt_alloc (World.rangeAt_alloc (hp.1 i hi) _) _
    · exact tied_none N
  · exact (((bel1 w _).alloc (by simp) _).alloc (by simp; omega) _)
end Go.Proofs.YtfakgfmgofblgaaGreatDoor
namespace Go.Proofs.YtfakgfmgofblgaaGreatDoor
open Go.RowKit Go.Maps Go.ChangeMaps Go.MapKept Go.WideShapes
set_option linter.unusedVariables false      -- a walk need not use every condition
attribute [local go_sem ↓] Go.wp_at_zero Go.wp_at_succ

theorem own_clear {w : World} {b n : Nat} {D : DataW (Array Value)} (h : w.ownsMap Tryz.prog 3 secR b n D) (ty : TypeId) : ∃ w', (Builtin.clear_ #[86] ty #[.map (some b)]).run Tryz.prog w = .ok (.tuple #[]) w' ∧ w'.ownsMap Tryz.prog 3 secR b 0 (.map []) ∧ w.mapTurned w' b := by
  obtain ⟨es, clock, hb, F, hs, rfl⟩ := h
  refine ⟨setBlock w b (.map #[] clock), ?_, ⟨#[], clock, heap_setBlock_same hb _, ⟨by simp, stamped_empty _, by simp⟩, Nat.le_refl _, rfl⟩, ⟨es, clock, _, _, hb, rfl⟩⟩
  simp [Builtin.clear_, run_underlying Tryz.underlying86, Go.MapKept.run_getObj_map hb, Go.MapKept.run_setObj_map _ hb, Result.andThen, setBlock]
theorem fold_set : ∀ (xs zs pre post : List Value) (off k : Nat), pre.length = off + k → zs.length = xs.length →
    (xs.zipIdx k).foldl (fun (cs : Array Value) (x : Value × Nat) => cs.setIfInBounds (off + x.2) x.1) (pre ++ zs ++ post).toArray = (pre ++ xs ++ post).toArray
  | [], zs, pre, post, off, k, _, hz => by
    obtain rfl : zs = [] := List.eq_nil_of_length_eq_zero hz
    rfl
  | x :: xs, zs, pre, post, off, k, hp, hz => by
    obtain ⟨z, zs, rfl⟩ : ∃ z zs', zs = z :: zs' := by cases zs with | nil => simp at hz | cons z zs => exact ⟨z, zs, rfl⟩
    rw [List.zipIdx_cons, List.foldl_cons]
    have e : (pre ++ (z :: zs) ++ post).toArray.setIfInBounds (off + k) x = ((pre ++ [x]) ++ zs ++ post).toArray := by
      apply Array.ext'
      rw [Array.toList_setIfInBounds, ← hp]
      simp only [List.append_assoc, List.cons_append, List.nil_append]
      rw [List.set_append_right _ _ (Nat.le_refl _), Nat.sub_self, List.set_cons_zero]
    have ih := fold_set xs zs (pre ++ [x]) post off (k + 1) (by simp; omega) (by simpa using hz)
    simp only [e]
    rw [ih]
    simp
theorem fold_arr (xs : Array Value) (zs pre post : List Value) (off : Nat) (hp : pre.length = off) (hz : zs.length = xs.size) :
    xs.zipIdx.foldl (fun (cs : Array Value) (x : Value × Nat) => cs.setIfInBounds (off + x.2) x.1) (pre ++ zs ++ post).toArray = (pre ++ xs.toList ++ post).toArray := by
  rw [← Array.foldl_toList, Array.toList_zipIdx]
  exact fold_set xs.toList zs pre post off 0 (by omega) (by simpa using hz)
theorem zc83 : Tryz.zeroCells120 = (plc zer false).toArray := by kernel_rfl
set_option maxRecDepth 100000 in
theorem build76 (bs : List UInt8) (hl : bs.length = 128) (w : World) : (Instr.build 120 #[(0, .agg (enc bs).toArray)]).run Tryz.prog w = .ok (.agg (plc bs false).toArray) w := by
  have hf := fold_set (enc bs) (enc zer) [] [.bool false] 0 0 rfl (by simp [enc, hl, len_zer])
  have h1 : (enc bs).length = 128 := by rw [len_enc, hl]
  have h2 := len_plc zer false len_zer
  simp only [List.nil_append, Nat.zero_add] at hf
  simp only [Instr.build, Sem.run_bind, Tryz.zeroValue120, Result.andThen, Value.cells, Tryz.runUnderlying120, zc83]
  simp [Instr.fill, Value.cells, h1, h2, Sem.run_bind, Result.andThen]
  exact hf
theorem store_run {w : World} {b o : Nat} {cs : List Value} (ht : w.there b o cs.length) (h1 : ∀ v ∈ cs, v.oneCell' = true) : (storeCells ⟨b, o, none⟩ cs 0).run Tryz.prog w = .ok () (w.setCells b o cs) := by
  have := run_storeCells_cells (P := Tryz.prog) b o cs 0 w (fun j hj => by simpa using (ht j (by simpa using hj)).1) (fun j hj => by simpa using (ht j (by simpa using hj)).2) h1
  simpa using this
theorem fold76 (bs : List UInt8) (hl : bs.length = 128) : List.foldl (fun (cs : Array Value) (x : Value × Nat) => cs.setIfInBounds x.snd x.fst) Tryz.zeroCells120 (enc bs).zipIdx = (plc bs false).toArray := by
  have hf := fold_set (enc bs) (enc zer) [] [.bool false] 0 0 rfl (by simp [enc, hl, len_zer])
  simp only [List.nil_append, Nat.zero_add] at hf
  rw [zc83]
  exact hf
set_option maxRecDepth 100000 in
theorem build76t (w : World) : (Instr.build 120 #[(1, .bool true)]).run Tryz.prog w = .ok (.agg (plc zer true).toArray) w := by
  have h2 := len_plc zer false len_zer
  simp only [Instr.build, Sem.run_bind, Tryz.zeroValue120, Result.andThen, Value.cells, Tryz.runUnderlying120, zc83]
  simp [Instr.fill, Value.cells, h2, Sem.run_bind, Result.andThen]
  unfold plc
  rw [List.set_append_right _ _ (by rw [len_enc, len_zer]; exact Nat.le_refl _), len_enc, len_zer]
  rfl
/-- What stays, and what is torn, when those that are no longer to come are flushed. -/
def fst (s : Dsk) (left : Lit → Bool) (i : Nat) : List UInt8 := match s.ca i with | some bs => if left (.int .i64 i) then s.st i else bs | none => s.st i
def ftn (s : Dsk) (left : Lit → Bool) (i : Nat) : Bool := match s.ca i with | some _ => if left (.int .i64 i) then s.tn i else false | none => s.tn i
def Dsk.flushing (s : Dsk) (left : Lit → Bool) : Dsk := { s with st := fst s left, tn := ftn s left }
/-- One place is written, and nothing else. -/
theorem At.place {w w' : World} {d pb mb k : Nat} {s s' : Dsk} {bs : List UInt8} {t : Bool} (h : At w d pb mb s) (hk : k < s.N) (hl : bs.length = 128) (he : w' = w.setCells pb (k * 129) (plc bs t))
    (hN : s'.N = s.N) (hca : s'.ca = s.ca) (hdn : s'.down = s.down) (hf : s'.fuse = s.fuse) (hc : s'.calls = s.calls)
    (h1 : s'.st k = bs ∧ s'.tn k = t) (h2 : ∀ i, i ≠ k → s'.st i = s.st i ∧ s'.tn i = s.tn i) : At w' d pb mb s' := by
  subst he
  have l := h.lts
  have hg := gr_sets pb (plc bs t) (k * 129) w
  have hd : (w.setCells pb (k * 129) (plc bs t)).heap[d]? = w.heap[d]? := hg.block _ l.1 (fun e => h.ne (by injection e))
  have hm : (w.setCells pb (k * 129) (plc bs t)).heap[mb]? = w.heap[mb]? := hg.block _ l.2.2.1 (fun e => l.2.2.2.2 (by injection e))
  have hlp := len_plc bs t hl
  refine ⟨?_, h.ne, hN ▸ h.pos, hN ▸ h.top, fun i hi => ?_, fun i hi => ?_, ?_, ?_, by rw [hf]; exact h.fu, by rw [hc]; exact h.cl⟩
  · rw [hd, hN, hdn, hf, hc]; exact h.blk
  · rw [hN] at hi
    by_cases e : i = k
    · subst e
      rw [h1.1, h1.2]
      refine World.rangeAt_setCells_same w pb (i * 129) (plc bs t) (fun j hj => ?_)
      have := h.th (i * 129 + j) (by rw [hlp] at hj; omega)
      simpa using this
    · rw [(h2 i e).1, (h2 i e).2]
      refine World.rangeAt_setCells_apart (h.pl i hi) pb (k * 129) (plc bs t) (.inr ?_)
      rw [hlp, len_plc _ _ (h.sl i hi)]
      omega
  · rw [hN] at hi
    by_cases e : i = k
    · subst e; rw [h1.1]; exact hl
    · rw [(h2 i e).1]; exact h.sl i hi
  · rw [hN]; exact World.there_setCells h.th _ _ _
  · obtain ⟨n, D, ⟨es, ck, hmb, r⟩, ht⟩ := h.own
    rw [hN, hca]
    exact ⟨n, D, ⟨es, ck, hm.trans hmb, r⟩, ht⟩
theorem there_place {w : World} {d pb mb k : Nat} {s : Dsk} (h : At w d pb mb s) (hk : k < s.N) : w.there pb (k * 129) 129 := fun j hj => by
  have := h.th (k * 129 + j) (by omega)
  simpa using this
end Go.Proofs.YtfakgfmgofblgaaGreatDoor
