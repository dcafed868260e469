/-
  What readFrame of package wal does.
-/
import Derived.Test.YtnclhjjhobbbjaaDoorZWc
namespace Go.Proofs.YtnclhjjhobbbjaaDoor
open Go.RowKit Go.Maps
set_option linter.unusedVariables false      -- a walk need not use every condition
attribute [local go_sem ↓] Go.wp_at_zero Go.wp_at_succ

/-- What is read of a sector: its bytes, or nothing. -/
def Dsk.con (s : Dsk) (i : Nat) : Option (List UInt8) := match s.ca i with | some b => some b | none => if s.tn i then none else some (s.st i)
/-- The frame that stands in bytes. -/
def frO : Option (List UInt8) → Option (Int × Int × List UInt8)
  | none => none
  | some b => if oE b = 0 then some (oK b, oN b, oP b) else none
theorem frO_yes {b : List UInt8} (h : oE b = 0) : frO (some b) = some (oK b, oN b, oP b) := by simp [frO, h]
theorem frO_no {b : List UInt8} (h : oE b ≠ 0) : frO (some b) = none := by simp [frO, h]
theorem read_con {s : Dsk} {i : Nat} (hd : s.down = false) (hi : i < s.N) : (∃ b, s.con i = some b ∧ s.read i = (b, 0)) ∨ (s.con i = none ∧ s.read i = (zer, 40)) := by
  have hr : s.reach (i : Int) = 0 := by
    unfold Dsk.reach Dsk.hasB
    rw [hd]
    simp
    omega
  have hrd : s.read (i : Int) = match s.ca i with | some bs => (bs, 0) | none => if s.tn i then (zer, 40) else (s.st i, 0) := by
    unfold Dsk.read
    rw [if_neg (fun e => e hr), Int.toNat_natCast]
    rfl
  rw [hrd]
  unfold Dsk.con
  cases hc : s.ca i with
  | some b => exact .inl ⟨b, rfl, rfl⟩
  | none =>
    cases ht : s.tn i with
    | true => exact .inr ⟨rfl, rfl⟩
    | false => exact .inl ⟨_, rfl, rfl⟩
theorem con_len {w : World} {d pb mb : Nat} {s : Dsk} (h : At w d pb mb s) {i : Nat} (hi : i < s.N) {b : List UInt8} (hb : s.con i = some b) : b.length = 128 := by
  unfold Dsk.con at hb
  cases hc : s.ca i with
  | some c =>
    rw [hc] at hb
    injection hb with hb
    subst hb
    obtain ⟨n, D, -, ht⟩ := h.own
    exact ht.len _ _ hc
  | none =>
    rw [hc] at hb
    simp only at hb
    split at hb
    · cases hb
    · injection hb with hb
      subst hb
      exact h.sl i hi
/-- What readFrame answers. -/
def FrmR (x : Option (Int × Int × List UInt8)) (w : World) (e : Ending) (w' : World) : Prop :=
  ∃ (K N : Int) (P : List UInt8) (p : Option Addr) (c : Nat), e = .returned (.tuple #[.agg #[.int .i64 K, .int .i64 N, .slice p P.length c], .bool x.isSome]) ∧ Bs w' (.slice p P.length c) P ∧ Fresh w.heap.size (.slice p P.length c) ∧ (∀ y, x = some y → y = (K, N, P)) ∧ Below w.heap.size w w'
set_option maxHeartbeats 2000000 in
set_option maxRecDepth 100000 in
theorem readFrame64 (w : World) (d pb mb : Nat) (s : Dsk) (h : At w d pb mb s) (hT : TabOk w) (hd : s.down = false) (i : Nat) (hi : i < s.N) :
    Calls Tryd.prog 64 #[.pointer (some ⟨d, 0, none⟩), .int .i64 i] w (FrmR (frO (s.con i)) w) := by
  obtain ⟨W0, hW0⟩ : ∃ W0, w.alloc (.cells #[.int .i64 0, .int .i64 0, .slice none 0 0] 79) = W0 := ⟨_, rfl⟩
  have B0 : Below w.heap.size w W0 := by rw [← hW0]; exact bel1 w _
  have blk0 : W0.heap[w.heap.size]? = some (.cells #[.int .i64 0, .int .i64 0, .slice none 0 0] 79) := by rw [← hW0]; exact heap_alloc_last w _
  have cR := read76 W0 d pb mb s (h.on B0) i
  have HT := Lib.hid (tab_on hT B0)
  have HB0 := Lib.hid B0
  have Hb0 := Lib.hid blk0
  rcases read_con hd hi with ⟨b, hb, hr⟩ | ⟨hb, hr⟩
  · have hl := con_len h hi hb
    have HL := Lib.hid hl
    rw [hr] at cR
    simp only at cR
    rw [hb]
    have hi1 : (Tryd.prog.info? 66).map (·.size) = some (enc b).length := by rw [size26, len_enc, hl]
    have cO := fun W hW => open77 W b hl hW
    unfold frm at cO
    clear h hT hd hi hl hr B0 blk0 hb
    go_enter Tryd.func64, Tryd.ntmps64
    go_wp2_with (first
      | (go_at_call 76; refine cR.mono ?_; rintro e W1 ⟨rfl, hb1⟩)
      | (with_reducible show wpList _ _ _ (Oper.mk (some 6) (Op.alloc 66) _ _ _ _ :: _) _ _
         refine wpList_alloc26 rfl rfl ?_; intro W2 hW2 zW2 sW2)
      | (with_reducible show wpList _ _ _ (Oper.mk _ (Op.store 66 (Operand.tmp 6) _) _ _ _ _ :: _) _ _
         refine wpList_store26 rfl _ _ rfl W1.heap.size 0 b rfl rfl sW2.th HL.out ?_; intro W3 g3 r3 t3 z3
         have HB3 : Hid (Below W0.heap.size W0 W3) := (bel_then hb1 hW2).grown g3 (by have := hb1.size; have := hW2.size; omega) (fun k e => by injection e with e; have := hb1.size; omega)
         clear hb1 hW2 sW2 g3 t3)
      | (with_reducible show wpList _ _ _ (Oper.mk _ (Op.load 66 (Operand.tmp 6)) _ _ _ _ :: _) _ _
         refine wpList_load_mid rfl 66 _ rfl _ _ rfl _ _ r3 Tryd.underlying66 rfl hi1 ?_)
      | (go_at_call 77; refine (cO _ (tab_on HT.out HB3.out)).mono ?_; rintro e W4 ⟨pv, rfl, hpv, hfr, hb4⟩
         have HB4 := Lib.hid (bel_then HB3.out hb4)
         have HPV := Lib.hid hpv
         have HFR := Lib.hid hfr
         obtain ⟨pp, pq, rfl, -⟩ := hpv
         have k4 := blk_on HB4.out Hb0.out
         have k5 := blk_on (bel1 W4 (.cells #[.int .i64 (oK b), .int .i64 (oN b), .slice pp (oP b).length pq] 79)) k4
         obtain ⟨u0, u1, u2, uf⟩ := three_of k5
         have uf0 := uf 0
         have uf1 := uf 1
         have uf2 := uf 2
         clear hfr hb4 uf k4))
    have hz : w.heap.size < W3.heap.size := by have := (Array.getElem?_eq_some_iff.1 (blk_on HB3.out Hb0.out)).1; exact this
    refine bodyPost_ret (v := .tuple #[.agg #[.int .i64 (oK b), .int .i64 (oN b), .slice pp (oP b).length pq], .bool (oE b == 0)]) (results24 Tryd.results64 _ _ w.heap.size _ _ _ rfl (blk_put3 k5 _ _ _)) rfl ?_
    refine ⟨oK b, oN b, oP b, pp, pq, ?_, (HPV.out.on (bel1 _ _)).grownB (gr_put3 _ _ _ _ _) (fun g o n c e => by have := HFR.out g o n c e; omega), HFR.out.mono (by omega), fun y e => ?_, ?_⟩
    · have : (frO (some b)).isSome = (oE b == 0) := by
        by_cases h : oE b = 0
        · rw [frO_yes h, h]; rfl
        · rw [frO_no h]; simp [h]
      rw [this]
    · by_cases h : oE b = 0
      · rw [frO_yes h] at e; injection e with e; exact e.symm
      · rw [frO_no h] at e; cases e
    · exact ((HB0.out.trans (HB4.out.mono HB0.out.size)).alloc (Nat.le_trans HB0.out.size HB4.out.size) _).grown (gr_put3 _ _ _ _ _) (by have := HB0.out.size; have := HB4.out.size; simp; omega) (fun k e => by injection e with e; omega)
  · rw [hr] at cR
    simp only at cR
    rw [hb]
    clear h hT hd hi hr B0 blk0 hb
    go_enter Tryd.func64, Tryd.ntmps64
    go_wp2_with (first
      | (go_at_call 76; refine cR.mono ?_; rintro e W1 ⟨rfl, hb1⟩)
      | (with_reducible show wpList _ _ _ (Oper.mk (some 6) (Op.alloc 66) _ _ _ _ :: _) _ _
         refine wpList_alloc26 rfl rfl ?_; intro W2 hW2 zW2 sW2)
      | (with_reducible show wpList _ _ _ (Oper.mk _ (Op.store 66 (Operand.tmp 6) _) _ _ _ _ :: _) _ _
         refine wpList_store26 rfl _ _ rfl W1.heap.size 0 zer rfl rfl sW2.th len_zer ?_; intro W3 g3 r3 t3 z3
         have HB3 : Hid (Below W0.heap.size W0 W3) := (bel_then hb1 hW2).grown g3 (by have := hb1.size; have := hW2.size; omega) (fun k e => by injection e with e; have := hb1.size; omega)
         have k4 := blk_on HB3.out Hb0.out
         obtain ⟨u0, u1, u2, uf⟩ := three_of k4
         have uf0 := uf 0
         have uf1 := uf 1
         have uf2 := uf 2
         clear hb1 hW2 sW2 g3 t3 uf))
    refine bodyPost_ret (v := .tuple #[.agg #[.int .i64 0, .int .i64 0, .slice none 0 0], .bool false]) (results24 Tryd.results64 _ _ w.heap.size _ _ _ rfl (blk_put3 k4 _ _ _)) rfl ?_
    refine ⟨0, 0, [], none, 0, rfl, bs_nil _, fun _ _ _ _ e => (by cases e), fun y e => (by cases e), ?_⟩
    exact (HB0.out.trans (HB3.out.mono HB0.out.size)).grown (gr_put3 _ _ _ _ _) (Nat.le_trans HB0.out.size HB3.out.size) (fun k e => by injection e with e; omega)
end Go.Proofs.YtnclhjjhobbbjaaDoor
