/-
  A pool of pages as plain data, how one lies in memory, and its small functions.
  The library's contracts of maps.Keys and slices.Sorted at the three maps of package pager.
  The map of what commits have of each page; what lastPages does.
  What hasStaged, stagedPages, leaveTurns (of no turns), drop, makeRoom, stage, keep of a pool do.
-/
import Derived.Test.YtfakgfmgofblgaaGreatDoorZRvShelfDirtyWDecMp
import Derived.Test.YtfakgfmgofblgaaGreatDoorZSh
namespace Go.Proofs.YtfakgfmgofblgaaGreatDoor
open Go.RowKit Go.Maps
set_option linter.unusedVariables false      -- a walk need not use every condition
attribute [local go_sem ↓] Go.wp_at_zero Go.wp_at_succ

/-- All lies as it did but the blocks of X, and of the block g the cells from lo to hi. -/
structure Kg (g lo hi : Nat) (X : Nat → Prop) (w w' : World) : Prop where
  kp : Kp (fun k => k = g ∨ X k) w w'
  out : ∀ i, i < lo ∨ hi ≤ i → w'.cell? ⟨g, i, none⟩ = w.cell? ⟨g, i, none⟩ ∧ w'.frozen? ⟨g, i, none⟩ = w.frozen? ⟨g, i, none⟩
theorem Kp.trans2 {X Y : Nat → Prop} {a b c : World} (h : Kp X a b) (k : Kp Y b c) (hxy : ∀ k, Y k → X k ∨ a.heap.size ≤ k) : Kp X a c :=
  ⟨k.os.trans h.os, k.tape.trans h.tape, k.output.trans h.output, Nat.le_trans h.size k.size, fun i hi hx => (k.block i (Nat.lt_of_lt_of_le hi h.size) (fun hy => by
    rcases hxy i hy with h1 | h1
    · exact hx h1
    · omega)).trans (h.block i hi hx)⟩
theorem Kg.refl (g lo hi : Nat) (X : Nat → Prop) (w : World) : Kg g lo hi X w w := ⟨Kp.refl _ _, fun _ _ => ⟨rfl, rfl⟩⟩
theorem Kg.trans {g lo hi : Nat} {X Y : Nat → Prop} {a b c : World} (h : Kg g lo hi X a b) (k : Kg g lo hi Y b c) (hxy : ∀ k, Y k → X k ∨ a.heap.size ≤ k) : Kg g lo hi X a c :=
  ⟨h.kp.trans2 k.kp (fun i hi => by
    rcases hi with hi | hi
    · exact .inl (.inl hi)
    · rcases hxy i hi with h1 | h1
      · exact .inl (.inr h1)
      · exact .inr h1), fun i hi => ⟨(k.out i hi).1.trans (h.out i hi).1, (k.out i hi).2.trans (h.out i hi).2⟩⟩
theorem Kg.same {g lo hi : Nat} {X : Nat → Prop} {w w' : World} (h : Kp X w w') (e : w'.heap[g]? = w.heap[g]?) : Kg g lo hi X w w' :=
  ⟨h.mono fun k hk => .inr hk, fun i _ => ⟨World.cell?_of_block (w := w) (a := ⟨g, i, none⟩) e, World.frozen?_of_block (w := w) (a := ⟨g, i, none⟩) e⟩⟩
theorem Kg.bel {g lo hi : Nat} {X : Nat → Prop} {w w' : World} (h : Below w.heap.size w w') (hg : g < w.heap.size) : Kg g lo hi X w w' := Kg.same (Kp.bel h) (h.block _ hg)
theorem Kg.grown {g lo hi b : Nat} {X : Nat → Prop} {w w' : World} (h : w.grownBy w' (some b)) (hb : X b) (hg : g < w.heap.size) (hne : b ≠ g) : Kg g lo hi X w w' :=
  Kg.same (Kp.grown h hb) (h.block _ hg (fun e => hne (by injection e with e; exact e.symm)))
theorem Kg.set {g lo hi : Nat} {X : Nat → Prop} (w : World) {i : Nat} (v : Value) (hi1 : lo ≤ i) (hi2 : i < hi) : Kg g lo hi X w (w.setCell ⟨g, i, none⟩ v) :=
  ⟨Kp.grown (gr_set w g i v) (.inl rfl), fun j hj => ⟨World.cell?_setCell_other _ _ _ _ (fun e => by injection e with _ e; omega), World.frozen?_setCell _ _ _ _⟩⟩
theorem Kg.wide {g lo hi lo' hi' : Nat} {X Y : Nat → Prop} {w w' : World} (h : Kg g lo hi X w w') (h1 : lo' ≤ lo) (h2 : hi ≤ hi') (hxy : ∀ k, X k → Y k) : Kg g lo' hi' Y w w' :=
  ⟨h.kp.mono fun k hk => by rcases hk with hk | hk; exact .inl hk; exact .inr (hxy k hk), fun i hi => h.out i (by omega)⟩

structure Po where
  room : Nat
  st : Nat → Option (List UInt8)
  kp : Nat → Option (List UInt8)
  tn : List Nat
/-- A sheet's cells, as the maps have them. -/
def shA (b : List UInt8) : Array Value := (shc b).toArray
structure PoAt (w : World) (g o ms mk base : Nat) (tv : Value) (P : Po) : Prop where
  c0 : w.cell? ⟨g, o, none⟩ = some (.int .i64 P.room)
  c1 : w.cell? ⟨g, o + 1, none⟩ = some (.map (some ms))
  c2 : w.cell? ⟨g, o + 2, none⟩ = some (.map (some mk))
  c3 : w.cell? ⟨g, o + 3, none⟩ = some tv
  fz : w.frozen? ⟨g, o + 3, none⟩ = false
  tn : w.ownsRow base 3 1 tv P.tn.length (nums P.tn)
  s : MapAt shA w ms P.st
  k : MapAt shA w mk P.kp
  ne : ms ≠ mk
  lt : g < base ∧ ms < base ∧ mk < base ∧ base ≤ w.heap.size
  ls : ∀ p b, P.st p = some b → b.length ≤ 448
  lk : ∀ p b, P.kp p = some b → b.length ≤ 448
  lg : P.tn.length ≤ 2048
  pg : ∀ p ∈ P.tn, p < 2048
  rm : P.room ≤ 256
def Xo (ms mk : Nat) (tv : Value) (k : Nat) : Prop := k = ms ∨ k = mk ∨ tv.ownBlock = some k
theorem PoAt.gne {w : World} {g o ms mk base : Nat} {tv : Value} {P : Po} (h : PoAt w g o ms mk base tv P) : g ≠ ms ∧ g ≠ mk := by
  constructor
  · rintro rfl
    have := h.s.ncell o
    rw [h.c0] at this; cases this
  · rintro rfl
    have := h.k.ncell o
    rw [h.c0] at this; cases this
theorem PoAt.tvb {w : World} {g o ms mk base : Nat} {tv : Value} {P : Po} (h : PoAt w g o ms mk base tv P) {k : Nat} (hk : tv.ownBlock = some k) : base ≤ k ∧ k < w.heap.size := World.ownsRow.lt h.tn k hk
/-- Where nothing of its own has turned a pool stands. -/
theorem PoAt.kp2 {w w' : World} {g o ms mk base : Nat} {tv : Value} {P : Po} {X : Nat → Prop} (h : PoAt w g o ms mk base tv P) (hk : Kp X w w') (hg : ∀ i, o ≤ i → i < o + 4 → w'.cell? ⟨g, i, none⟩ = w.cell? ⟨g, i, none⟩ ∧ w'.frozen? ⟨g, i, none⟩ = w.frozen? ⟨g, i, none⟩) (hx : ∀ k, Xo ms mk tv k → ¬ X k) : PoAt w' g o ms mk base tv P := by
  have l := h.lt
  refine { h with c0 := (hg o (by omega) (by omega)).1.trans h.c0, c1 := (hg _ (by omega) (by omega)).1.trans h.c1, c2 := (hg _ (by omega) (by omega)).1.trans h.c2, c3 := (hg _ (by omega) (by omega)).1.trans h.c3, fz := (hg _ (by omega) (by omega)).2.trans h.fz, tn := ?_, s := h.s.blk (hk.block _ (by omega) (hx _ (.inl rfl))), k := h.k.blk (hk.block _ (by omega) (hx _ (.inr (.inl rfl)))), lt := ⟨l.1, l.2.1, l.2.2.1, Nat.le_trans l.2.2.2 hk.size⟩ }
  refine ⟨h.tn.1, ?_⟩
  rcases h.tn.2 with h' | ⟨b, cap, cur, rfl, hbg, hgb, r⟩
  · exact .inl h'
  · exact .inr ⟨b, cap, cur, rfl, hbg, (hk.block b (Array.getElem?_eq_some_iff.1 hgb).1 (hx _ (.inr (.inr rfl)))).trans hgb, r⟩
theorem PoAt.on {w w' : World} {g o ms mk base : Nat} {tv : Value} {P : Po} (h : PoAt w g o ms mk base tv P) (hb : Below w.heap.size w w') : PoAt w' g o ms mk base tv P := by
  have l := h.lt
  exact h.kp2 (X := fun _ => False) (Kp.bel hb) (fun i _ _ => ⟨World.cell?_of_block (w := w) (a := ⟨g, i, none⟩) (hb.block g (by omega)), World.frozen?_of_block (w := w) (a := ⟨g, i, none⟩) (hb.block g (by omega))⟩) (fun _ _ h => h)
/-- What a call on a pool comes to. -/
def PoR (w : World) (g o ms mk base : Nat) (tv : Value) (P : Po) (w' : World) : Prop :=
  ∃ tv', PoAt w' g o ms mk base tv' P ∧ Kg g o (o + 4) (Xo ms mk tv) w w' ∧ ∀ k, tv'.ownBlock = some k → tv.ownBlock = some k ∨ w.heap.size ≤ k
theorem PoR.next {w w1 w2 : World} {g o ms mk base : Nat} {tv tv1 : Value} {P : Po} (h : Kg g o (o + 4) (Xo ms mk tv) w w1) (ht : ∀ k, tv1.ownBlock = some k → tv.ownBlock = some k ∨ w.heap.size ≤ k) (h2 : PoR w1 g o ms mk base tv1 P w2) : PoR w g o ms mk base tv P w2 := by
  obtain ⟨tv2, hP, hK, hv⟩ := h2
  have hs := h.kp.size
  refine ⟨tv2, hP, h.trans hK (fun k hk => ?_), fun k hk => ?_⟩
  · rcases hk with hk | hk | hk
    · exact .inl (.inl hk)
    · exact .inl (.inr (.inl hk))
    · rcases ht k hk with h1 | h1
      · exact .inl (.inr (.inr h1))
      · exact .inr h1
  · rcases hv k hk with h1 | h1
    · exact ht k h1
    · exact .inr (by omega)
theorem PoR.bel {w w1 w2 : World} {g o ms mk base : Nat} {tv : Value} {P : Po} (hb : Below w.heap.size w w1) (hg : g < w.heap.size) (h2 : PoR w1 g o ms mk base tv P w2) : PoR w g o ms mk base tv P w2 := h2.next (Kg.bel hb hg) (fun _ h => .inl h)
def Po.held (P : Po) : Nat := (keysM P.st).length + (keysM P.kp).length
theorem u64m (ty : TypeId) {w : World} {mb : Nat} {m : Nat → Option (List UInt8)} (h : MapAt shA w mb m) : (Builtin.len_ #[64] ty #[.map (some mb)]).run Tryz.prog w = .ok (.int .i64 (keysM m).length) w := h.len Tryz.underlying64 ty
theorem held61 (w : World) (g o ms mk base : Nat) (tv : Value) (P : Po) (h : PoAt w g o ms mk base tv P) :
    Calls Tryz.prog 61 #[.pointer (some ⟨g, o, none⟩)] w fun e w' => e = .returned (.int .i64 P.held) ∧ Below w.heap.size w w' := by
  have c1 : w.drew.cell? ⟨g, o + 1, none⟩ = some (.map (some ms)) := h.c1
  have c2 : w.drew.cell? ⟨g, o + 2, none⟩ = some (.map (some mk)) := h.c2
  have l1 := fun ty => u64m ty (w := w.drew) (h.s.blk rfl)
  have l2 := fun ty => u64m ty (w := w.drew) (h.k.blk rfl)
  have e1 : IntKind.i64.wrap (((keysM P.st).length : Int) + ((keysM P.kp).length : Int)) = (P.held : Int) := by
    have := keysM_len P.st
    have := keysM_len P.kp
    unfold Po.held
    rw [IntKind.wrap_i64]
    omega
  clear h
  generalize (keysM P.st).length = a at *
  generalize (keysM P.kp).length = b at *
  generalize P.held = c at *
  go_enter Tryz.func61, Tryz.ntmps61
  go_wp2
  go_region
  go_wp2
  go_ret
  exact ⟨rfl, (Below.refl _ _).drew⟩
theorem isFull77 (w : World) (g o ms mk base : Nat) (tv : Value) (P : Po) (h : PoAt w g o ms mk base tv P) :
    Calls Tryz.prog 77 #[.pointer (some ⟨g, o, none⟩)] w fun e w' => e = .returned (.bool (decide ((keysM P.st).length = P.room))) ∧ Below w.heap.size w w' := by
  have c1 : w.drew.cell? ⟨g, o + 1, none⟩ = some (.map (some ms)) := h.c1
  have c0 : w.drew.cell? ⟨g, o, none⟩ = some (.int .i64 P.room) := h.c0
  have l1 := fun ty => u64m ty (w := w.drew) (h.s.blk rfl)
  clear h
  generalize (keysM P.st).length = a at *
  generalize P.room = c at *
  have hR : decide (a = c) = ((a : Int) == (c : Int)) := by
    by_cases h : a = c
    · subst h; simp
    · rw [show ((a : Int) == (c : Int)) = false by rw [beq_eq_false_iff_ne]; omega]; simp [h]
  rw [hR]
  go_enter Tryz.func77, Tryz.ntmps77
  go_wp2
  go_region
  go_wp2
  go_ret
  exact ⟨rfl, (Below.refl _ _).drew⟩
end Go.Proofs.YtfakgfmgofblgaaGreatDoor
namespace Go.Proofs.YtfakgfmgofblgaaGreatDoor
open Go.RowKit Go.Maps Go.Sort Go.Shelf
set_option linter.unusedVariables false      -- a walk need not use every condition

/-- How a slice in a map reads: as it is. -/
def oneR (v : Value) : Option (DataW (Array Value) × List MemPlace) := some (.held #[v], [])
def keys168_ren : Go.Shelf.Ren := ⟨fun | 7 => 168 | 10 => 194 | n => n, fun | 23 => 64 | 26 => 3 | 3 => 165 | 28 => 109 | 0 => 0 | 27 => 108 | 33 => 115 | 4 => 4 | n => n, fun | n => n⟩
theorem keys168 : Go.Proofs.SlLaysZI.n7 Tryz.prog keys168_ren := {
  mixed := by kernel_rfl
  f7 := ⟨Tryz.f168.name, by decide, Tryz.func168.trans (congrArg some (by kernel_rfl))⟩
  f10 := ⟨Tryz.f194.name, by decide, Tryz.func194.trans (congrArg some (by kernel_rfl))⟩
  t0 := Tryz.underlying0
  a0 := Tryz.isAgg0
  z0 := Tryz.sizeOf0
  v0 := Tryz.zeroValue0
  t4 := Tryz.underlying4
  a4 := Tryz.isAgg4
  z4 := Tryz.sizeOf4
  v4 := Tryz.zeroValue4
  t23 := Tryz.underlying64
  a23 := Tryz.isAgg64
  z23 := Tryz.sizeOf64
  v23 := Tryz.zeroValue64
  t26 := Tryz.underlying3
  a26 := Tryz.isAgg3
  z26 := Tryz.sizeOf3
  v26 := Tryz.zeroValue3
  t27 := Tryz.underlying108
  a27 := Tryz.isAgg108
  z27 := Tryz.sizeOf108
  v27 := Tryz.zeroValue108
  t28 := Tryz.underlying109
  a28 := Tryz.isAgg109
  z28 := Tryz.sizeOf109
  v28 := Tryz.zeroValue109
  t33 := Tryz.underlying115
  a33 := Tryz.isAgg115
  z33 := Tryz.sizeOf115
  v33 := Tryz.zeroValue115 }
theorem keysSh_c (mb : Option Nat) (W : World) : Calls Tryz.prog 168 #[.map mb] W fun e w' => e = .returned (.func (.func 194) #[] #[.pointer (some ⟨W.heap.size, 0, none⟩)]) ∧ w' = W.alloc (.cells #[.map mb] 64) :=
  (callsIn_wide (n := 5)).1 (AnyZI.keys_in keys168 Fence.wide 5 trivial rfl mb W)
set_option maxHeartbeats 1000000 in
theorem sortedSh_c {b nn : Nat} {D0 : DataW (Array Value)} (w : World) (hown : w.ownsMap Tryz.prog 3 secR b nn D0) (hmax : Maps.size D0 ≤ 16384) :
    Calls Tryz.prog 66 #[.func (.func 194) #[] #[.pointer (some ⟨w.heap.size, 0, none⟩)]] (w.alloc (.cells #[.map (some b)] 64)) fun e w' => ∃ (v : Value) (ss : List Int), e = .returned v ∧ ss.Perm (intKeys D0) ∧
      w'.ownsRow (w.heap.size + 1) 3 1 v ss.length ((ss.mergeSort (fun x y => decide (x ≤ y))).map encZ) ∧ (v = .slice none 0 0 ↔ ss = []) ∧ Below (w.heap.size + 1) (w.alloc (.cells #[.map (some b)] 64)) w' := by
  have hbl := hown.lt
  have hseq : SeqGives Fence.wide 2 Tryz.prog 194 #[.pointer (some ⟨w.heap.size, 0, none⟩)] encZ (fun ss => ss.Perm (intKeys D0)) (Maps.size D0) (w.alloc (.cells #[.map (some b)] 64)) :=
    AnyZI.keys_gives (ρ := keys168_ren) { keys168 with } Fence.wide _ trivial rfl (by omega) w.heap.size b nn D0 _ (by simp) (by simp) (hown.alloc _)
  have cS := AnyZI.sorted_in sorted66 Fence.wide 5 trivial trivial trivial trivial rfl (by omega) (sorts62 _) (enters_of Tryz.func119 (by kernel_rfl) rfl) 194 #[.pointer (some ⟨w.heap.size, 0, none⟩)] trivial (enters_of Tryz.func194 (by kernel_rfl) rfl) _ _ (by unfold maxLen; omega) (by omega) _ hseq
  change CallsIn _ _ Tryz.prog 66 _ _ _ at cS
  refine (callsIn_wide (n := 5)).1 (cS.mono ?_)
  rintro e w' ⟨v, ss, rfl, hS, hrow, hnil, hb⟩
  exact ⟨v, ss, rfl, hS, (by rw [World.size_alloc] at hrow; exact hrow), hnil, by simpa using hb⟩
def keys67_ren : Go.Shelf.Ren := ⟨fun | 7 => 67 | 10 => 120 | n => n, fun | 23 => 67 | 26 => 3 | 3 => 112 | 28 => 109 | 0 => 0 | 27 => 108 | 33 => 115 | 4 => 4 | n => n, fun | n => n⟩
theorem keys67 : Go.Proofs.SlLaysZI.n7 Tryz.prog keys67_ren := {
  mixed := by kernel_rfl
  f7 := ⟨Tryz.f67.name, by decide, Tryz.func67.trans (congrArg some (by kernel_rfl))⟩
  f10 := ⟨Tryz.f120.name, by decide, Tryz.func120.trans (congrArg some (by kernel_rfl))⟩
  t0 := Tryz.underlying0
  a0 := Tryz.isAgg0
  z0 := Tryz.sizeOf0
  v0 := Tryz.zeroValue0
  t4 := Tryz.underlying4
  a4 := Tryz.isAgg4
  z4 := Tryz.sizeOf4
  v4 := Tryz.zeroValue4
  t23 := Tryz.underlying67
  a23 := Tryz.isAgg67
  z23 := Tryz.sizeOf67
  v23 := Tryz.zeroValue67
  t26 := Tryz.underlying3
  a26 := Tryz.isAgg3
  z26 := Tryz.sizeOf3
  v26 := Tryz.zeroValue3
  t27 := Tryz.underlying108
  a27 := Tryz.isAgg108
  z27 := Tryz.sizeOf108
  v27 := Tryz.zeroValue108
  t28 := Tryz.underlying109
  a28 := Tryz.isAgg109
  z28 := Tryz.sizeOf109
  v28 := Tryz.zeroValue109
  t33 := Tryz.underlying115
  a33 := Tryz.isAgg115
  z33 := Tryz.sizeOf115
  v33 := Tryz.zeroValue115 }
theorem keysSp_c (mb : Option Nat) (W : World) : Calls Tryz.prog 67 #[.map mb] W fun e w' => e = .returned (.func (.func 120) #[] #[.pointer (some ⟨W.heap.size, 0, none⟩)]) ∧ w' = W.alloc (.cells #[.map mb] 67) :=
  (callsIn_wide (n := 5)).1 (AnyZI.keys_in keys67 Fence.wide 5 trivial rfl mb W)
set_option maxHeartbeats 1000000 in
theorem sortedSp_c {b nn : Nat} {D0 : DataW (Array Value)} (w : World) (hown : w.ownsMap Tryz.prog 3 secR b nn D0) (hmax : Maps.size D0 ≤ 16384) :
    Calls Tryz.prog 66 #[.func (.func 120) #[] #[.pointer (some ⟨w.heap.size, 0, none⟩)]] (w.alloc (.cells #[.map (some b)] 67)) fun e w' => ∃ (v : Value) (ss : List Int), e = .returned v ∧ ss.Perm (intKeys D0) ∧
      w'.ownsRow (w.heap.size + 1) 3 1 v ss.length ((ss.mergeSort (fun x y => decide (x ≤ y))).map encZ) ∧ (v = .slice none 0 0 ↔ ss = []) ∧ Below (w.heap.size + 1) (w.alloc (.cells #[.map (some b)] 67)) w' := by
  have hbl := hown.lt
  have hseq : SeqGives Fence.wide 2 Tryz.prog 120 #[.pointer (some ⟨w.heap.size, 0, none⟩)] encZ (fun ss => ss.Perm (intKeys D0)) (Maps.size D0) (w.alloc (.cells #[.map (some b)] 67)) :=
    AnyZI.keys_gives (ρ := keys67_ren) { keys67 with } Fence.wide _ trivial rfl (by omega) w.heap.size b nn D0 _ (by simp) (by simp) (hown.alloc _)
  have cS := AnyZI.sorted_in sorted66 Fence.wide 5 trivial trivial trivial trivial rfl (by omega) (sorts62 _) (enters_of Tryz.func119 (by kernel_rfl) rfl) 120 #[.pointer (some ⟨w.heap.size, 0, none⟩)] trivial (enters_of Tryz.func120 (by kernel_rfl) rfl) _ _ (by unfold maxLen; omega) (by omega) _ hseq
  change CallsIn _ _ Tryz.prog 66 _ _ _ at cS
  refine (callsIn_wide (n := 5)).1 (cS.mono ?_)
  rintro e w' ⟨v, ss, rfl, hS, hrow, hnil, hb⟩
  exact ⟨v, ss, rfl, hS, (by rw [World.size_alloc] at hrow; exact hrow), hnil, by simpa using hb⟩
def keys110_ren : Go.Shelf.Ren := ⟨fun | 7 => 110 | 10 => 156 | n => n, fun | 23 => 95 | 26 => 3 | 3 => 29 | 28 => 109 | 0 => 0 | 27 => 108 | 33 => 115 | 4 => 4 | n => n, fun | n => n⟩
theorem keys110 : Go.Proofs.SlLaysZI.n7 Tryz.prog keys110_ren := {
  mixed := by kernel_rfl
  f7 := ⟨Tryz.f110.name, by decide, Tryz.func110.trans (congrArg some (by kernel_rfl))⟩
  f10 := ⟨Tryz.f156.name, by decide, Tryz.func156.trans (congrArg some (by kernel_rfl))⟩
  t0 := Tryz.underlying0
  a0 := Tryz.isAgg0
  z0 := Tryz.sizeOf0
  v0 := Tryz.zeroValue0
  t4 := Tryz.underlying4
  a4 := Tryz.isAgg4
  z4 := Tryz.sizeOf4
  v4 := Tryz.zeroValue4
  t23 := Tryz.underlying95
  a23 := Tryz.isAgg95
  z23 := Tryz.sizeOf95
  v23 := Tryz.zeroValue95
  t26 := Tryz.underlying3
  a26 := Tryz.isAgg3
  z26 := Tryz.sizeOf3
  v26 := Tryz.zeroValue3
  t27 := Tryz.underlying108
  a27 := Tryz.isAgg108
  z27 := Tryz.sizeOf108
  v27 := Tryz.zeroValue108
  t28 := Tryz.underlying109
  a28 := Tryz.isAgg109
  z28 := Tryz.sizeOf109
  v28 := Tryz.zeroValue109
  t33 := Tryz.underlying115
  a33 := Tryz.isAgg115
  z33 := Tryz.sizeOf115
  v33 := Tryz.zeroValue115 }
theorem keysBy_c (mb : Option Nat) (W : World) : Calls Tryz.prog 110 #[.map mb] W fun e w' => e = .returned (.func (.func 156) #[] #[.pointer (some ⟨W.heap.size, 0, none⟩)]) ∧ w' = W.alloc (.cells #[.map mb] 95) :=
  (callsIn_wide (n := 5)).1 (AnyZI.keys_in keys110 Fence.wide 5 trivial rfl mb W)
set_option maxHeartbeats 1000000 in
theorem sortedBy_c {b nn : Nat} {D0 : DataW (Array Value)} (w : World) (hown : w.ownsMap Tryz.prog 3 oneR b nn D0) (hmax : Maps.size D0 ≤ 16384) :
    Calls Tryz.prog 66 #[.func (.func 156) #[] #[.pointer (some ⟨w.heap.size, 0, none⟩)]] (w.alloc (.cells #[.map (some b)] 95)) fun e w' => ∃ (v : Value) (ss : List Int), e = .returned v ∧ ss.Perm (intKeys D0) ∧
      w'.ownsRow (w.heap.size + 1) 3 1 v ss.length ((ss.mergeSort (fun x y => decide (x ≤ y))).map encZ) ∧ (v = .slice none 0 0 ↔ ss = []) ∧ Below (w.heap.size + 1) (w.alloc (.cells #[.map (some b)] 95)) w' := by
  have hbl := hown.lt
  have hseq : SeqGives Fence.wide 2 Tryz.prog 156 #[.pointer (some ⟨w.heap.size, 0, none⟩)] encZ (fun ss => ss.Perm (intKeys D0)) (Maps.size D0) (w.alloc (.cells #[.map (some b)] 95)) :=
    AnyZI.keys_gives (ρ := keys110_ren) { keys110 with } Fence.wide _ trivial rfl (by omega) w.heap.size b nn D0 _ (by simp) (by simp) (hown.alloc _)
  have cS := AnyZI.sorted_in sorted66 Fence.wide 5 trivial trivial trivial trivial rfl (by omega) (sorts62 _) (enters_of Tryz.func119 (by kernel_rfl) rfl) 156 #[.pointer (some ⟨w.heap.size, 0, none⟩)] trivial (enters_of Tryz.func156 (by kernel_rfl) rfl) _ _ (by unfold maxLen; omega) (by omega) _ hseq
  change CallsIn _ _ Tryz.prog 66 _ _ _ at cS
  refine (callsIn_wide (n := 5)).1 (cS.mono ?_)
  rintro e w' ⟨v, ss, rfl, hS, hrow, hnil, hb⟩
  exact ⟨v, ss, rfl, hS, (by rw [World.size_alloc] at hrow; exact hrow), hnil, by simpa using hb⟩
end Go.Proofs.YtfakgfmgofblgaaGreatDoor
namespace Go.Proofs.YtfakgfmgofblgaaGreatDoor
open Go.RowKit Go.Maps Go.ChangeMaps Go.MapKept Go.WideShapes Go.Sort Go.Shelf
set_option linter.unusedVariables false      -- a walk need not use every condition
attribute [local go_sem ↓] Go.wp_at_zero Go.wp_at_succ

def vA (v : Value) : Array Value := #[v]
/-- The map reads as m. -/
def MapV (w : World) (mb : Nat) (m : Nat → Option Value) : Prop := ∃ n D, w.ownsMap Tryz.prog 3 oneR mb n D ∧ TieM vA D m
theorem keysV_perm {w : World} {mb n : Nat} {D : DataW (Array Value)} {m : Nat → Option Value} (ho : w.ownsMap Tryz.prog 3 oneR mb n D) (ht : TieM vA D m) : (ints (keysM m)).Perm (intKeys D) := by
  obtain ⟨es, hD, hpw, -⟩ := ho.entries keyed3
  obtain ⟨es', hD', hko⟩ := ho.keysOf
  obtain rfl : es = es' := by rw [hD] at hD'; simpa using hD'
  subst hD
  refine perm_intKeys hpw (fun p hp => ?_) (ints_nodup (keysM_nodup m)) (fun x => ?_)
  · obtain ⟨v, hv⟩ := hko p hp
    obtain ⟨x, _, hx, _⟩ := Maps.keyOf_i64 Tryz.underlying3 hv
    exact ⟨x, hx⟩
  · constructor
    · intro hx
      obtain ⟨k, hk, rfl⟩ := List.mem_map.1 hx
      obtain ⟨-, hi⟩ := mem_keysM.1 hk
      obtain ⟨bs, hbs⟩ := Option.isSome_iff_exists.1 hi
      exact ht.has k bs hbs
    · intro hx
      obtain ⟨k, rfl, hi⟩ := ht.back x hx
      obtain ⟨bs, hbs⟩ := Option.isSome_iff_exists.1 hi
      exact List.mem_map.2 ⟨k, mem_keysM.2 ⟨ht.lt k bs hbs, hi⟩, rfl⟩
theorem sizeV {w : World} {mb n : Nat} {D : DataW (Array Value)} {m : Nat → Option Value} (ho : w.ownsMap Tryz.prog 3 oneR mb n D) (ht : TieM vA D m) : Maps.size D = (keysM m).length := by
  have hp := keysV_perm ho ht
  obtain ⟨es, rfl, -, -⟩ := ho.entries keyed3
  rw [size_keys, ← hp.length_eq]
  simp [ints]
theorem MapV.blk {w w' : World} {mb : Nat} {m : Nat → Option Value} (h : MapV w mb m) (e : w'.heap[mb]? = w.heap[mb]?) : MapV w' mb m := by
  obtain ⟨n, D, ⟨es, ck, hmb, r⟩, ht⟩ := h
  exact ⟨n, D, ⟨es, ck, e.trans hmb, r⟩, ht⟩
theorem MapV.lt {w : World} {mb : Nat} {m : Nat → Option Value} (h : MapV w mb m) : mb < w.heap.size := by
  obtain ⟨n, D, ho, -⟩ := h
  exact ho.lt
theorem MapV.on {w w' : World} {mb : Nat} {m : Nat → Option Value} (h : MapV w mb m) (hb : Below w.heap.size w w') : MapV w' mb m := h.blk (hb.block _ h.lt)
def lkw (c : Bool) : Option Value → Value
  | some v => if c then .tuple #[v, .bool true] else v
  | none => if c then .tuple #[.slice none 0 0, .bool false] else .slice none 0 0
theorem oneR_held {v a : Value} {ps : List MemPlace} (h : oneR v = some (.held (vA a), ps)) : v = a := by
  have h1 : (DataW.held (H := Array Value) #[v], ([] : List MemPlace)) = (.held #[a], ps) := Option.some.inj h
  have h2 : DataW.held (H := Array Value) #[v] = .held #[a] := congrArg Prod.fst h1
  have h3 : #[v] = #[a] := by injection h2
  have h4 := congrArg (fun x : Array Value => x.toList) h3
  injection h4 with h5 h6
theorem own_sizeV {w : World} {mb n : Nat} {D : DataW (Array Value)} (h : w.ownsMap Tryz.prog 3 oneR mb n D) : w.ownsMap Tryz.prog 3 oneR mb (Maps.size D) D := by
  obtain ⟨es, ck, hb, F, hs, rfl⟩ := h
  exact ⟨es, ck, hb, F, by simp [Maps.size, length_sorted], rfl⟩
theorem MapV.look {w : World} {mb : Nat} {m : Nat → Option Value} (h : MapV w mb m) {k : Nat} (hk : k < 2048) (c : Bool) :
    (Instr.lookup 95 (.map (some mb)) (.int .i64 k) c).run Tryz.prog w = .ok (lkw c (m k)) w := by
  obtain ⟨n, D, ho, hT⟩ := h
  obtain ⟨es, clock, hb, F, hs, rfl⟩ := ho
  have hkw := key_wf2 (x := (k : Int)) (by unfold I64'; omega)
  rcases Maps.fit_look c keyed3 Tryz.underlying95 (Tryz.zeroValue29 w) hb F (keyOf_int_mk Tryz.underlying3 hkw) with ⟨hrun, -, hat⟩ | ⟨e0, y, -, -, hrun, hRv, hat, -⟩
  · cases hm : m k with
    | none => rw [hrun]; rfl
    | some a =>
      have hh := hT.has k a hm
      rw [Maps.has_false_of_atKey hat] at hh
      cases hh
  · cases hm : m k with
    | none =>
      have hh := Maps.has_true_of_atKey hat
      obtain ⟨j, hj, hs'⟩ := hT.back k hh
      obtain rfl : k = j := by omega
      rw [hm] at hs'
      cases hs'
    | some a =>
      have e1 : y.1 = .held (vA a) := (hat (.lit (.bool true))).symm.trans (hT.at_ k a hm _)
      have e2 : e0.val = a := by
        exact oneR_held (ps := y.2) (by rw [hRv, ← e1])
      rw [hrun, e2]
      rfl
theorem MapV.store {w : World} {mb : Nat} {m : Nat → Option Value} (h : MapV w mb m) {k : Nat} (hk : k < 2048) (a : Value) :
    ∃ w', (Instr.mapUpdate 95 (.map (some mb)) (.int .i64 k) a).run Tryz.prog w = .ok () w' ∧ MapV w' mb (upd m k (some a)) ∧ w.grownBy w' (some mb) ∧ w'.heap.size = w.heap.size := by
  obtain ⟨n, D, ho, hT⟩ := h
  have hsz : Maps.size D < maxLen := by
    rw [sizeV ho hT]
    have := keysM_len m
    unfold maxLen; omega
  have hkw := key_wf2 (x := (k : Int)) (by unfold I64'; omega)
  obtain ⟨w2, hrun, ho2, htn⟩ := (own_sizeV ho).store keyed3 Tryz.underlying95 hsz (keyOf_int_mk Tryz.underlying3 hkw) (show oneR a = some (.held (vA a), []) from rfl)
  exact ⟨w2, hrun, ⟨_, _, ho2, hT.put ho.isMap hk a⟩, htn.grown, turned_size htn⟩
theorem mapV_made (w : World) : MapV (w.alloc (.map #[] 0)) w.heap.size (fun _ => none) := ⟨0, .map [], World.ownsMap_made (H := Array Value) w Tryz.prog 3 oneR, tieM_none⟩
/-- What a map has is these bytes, which lie in none of some blocks. -/
def Says (X : Nat → Prop) (w : World) (mv : Nat → Option Value) (m : Nat → Option (List UInt8)) : Prop := ∀ k, (m k = none → mv k = none) ∧ ∀ b, m k = some b → b.length ≤ 448 ∧ ∃ q c, mv k = some (.slice q b.length c) ∧ BsY X w (.slice q b.length c) b
def LmAt (X : Nat → Prop) (w : World) (mb : Nat) (m : Nat → Option (List UInt8)) : Prop := ∃ mv, MapV w mb mv ∧ Says X w mv m
theorem Says.kp {X : Nat → Prop} {w w' : World} {mv : Nat → Option Value} {m : Nat → Option (List UInt8)} (h : Says X w mv m) (hk : Kp X w w') : Says X w' mv m := fun k => ⟨(h k).1, fun b hb => by
  obtain ⟨h0, q, c, h1, h2⟩ := (h k).2 b hb
  exact ⟨h0, q, c, h1, h2.kp hk⟩⟩
theorem Says.keys {X : Nat → Prop} {w : World} {mv : Nat → Option Value} {m : Nat → Option (List UInt8)} (h : Says X w mv m) : keysM mv = keysM m := by
  unfold keysM
  congr 1
  funext k
  cases hm : m k with
  | none => rw [(h k).1 hm]; rfl
  | some b => obtain ⟨-, q, c, h1, -⟩ := (h k).2 b hm; rw [h1]; rfl
theorem Says.put {X : Nat → Prop} {w : World} {mv : Nat → Option Value} {m : Nat → Option (List UInt8)} (h : Says X w mv m) (k : Nat) {q : Option Addr} {c : Nat} {b : List UInt8} (hl : b.length ≤ 448) (hb : BsY X w (.slice q b.length c) b) : Says X w (upd mv k (some (.slice q b.length c))) (upd m k (some b)) := by
  intro j
  by_cases e : j = k
  · subst e
    rw [upd_same, upd_same]
    refine ⟨fun h => (by cases h), fun b' hb' => ?_⟩
    injection hb' with hb'
    subst hb'
    exact ⟨hl, q, c, rfl, hb⟩
  · rw [upd_other _ _ e, upd_other _ _ e]
    exact h j
/-- Of each page what the last of these records has. -/
def lastM (Q : List (Nat × List UInt8)) : Nat → Option (List UInt8) := Q.foldl (fun m x => upd m x.1 (some x.2)) fun _ => none
theorem lastM_snoc (Q : List (Nat × List UInt8)) (x : Nat × List UInt8) : lastM (Q ++ [x]) = upd (lastM Q) x.1 (some x.2) := by
  unfold lastM
  rw [List.foldl_append]
  rfl
def recs (Q : List (Nat × List UInt8)) : List (List UInt8) := Q.map fun x => recB x.1 x.2
theorem recs_len (Q : List (Nat × List UInt8)) : (recs Q).length = Q.length := by simp [recs]
set_option maxHeartbeats 4000000 in
set_option maxRecDepth 100000 in
theorem lastPages47 (X : Nat → Prop) (w : World) (pages : Nat) (hp : pages ≤ 2048) (v : Value) (Q : List (List (Nat × List UInt8))) (hv : (sl (sl bytesE)).E X w v (Q.map recs)) (hQ : ∀ q ∈ Q, ∀ x ∈ q, RecOk pages x.1 x.2) (hl : Q.length ≤ 1000000000 ∧ ∀ q ∈ Q, q.length ≤ 1000000000) :
    Calls Tryz.prog 47 #[.int .i64 pages, v] w fun e w' => ∃ mb, e = .returned (.tuple #[.map (some mb), .bool true]) ∧ w.heap.size ≤ mb ∧ LmAt X w' mb (lastM Q.flatten) ∧ Below w.heap.size w w' := by
  have hmm := @run_makeMap Tryz.prog
  obtain ⟨vp, vc, rfl, hv⟩ := hv
  rw [List.length_map] at *
  have HQ := Lib.hid hQ
  have HL := Lib.hid hl.2
  have hl1 := hl.1
  have hle : ∀ i (h : i < Q.length), ∃ g o, vp = some ⟨g, o, none⟩ ∧ ∃ x, w.cell? ⟨g, o + i, none⟩ = some x ∧ (sl bytesE).E X w x (recs Q[i]) := fun i h => by
    rcases hv with hv | ⟨g, o, e, -, hv⟩
    · rw [List.map_eq_nil_iff] at hv; subst hv; simp at h
    · obtain ⟨x, hx, hE⟩ := hv i (by simpa using h)
      exact ⟨g, o, e, x, hx, by simpa using hE⟩
  have HLE := Lib.hid hle
  clear hv hQ hl hle
  obtain ⟨N, hN⟩ : ∃ N, Q.length = N := ⟨_, rfl⟩
  have HN := Lib.hid hN
  rw [hN] at hl1 ⊢
  clear hN
  have B1 := Lib.hid (bel1 w (.map #[] 0))
  have M1 := Lib.hid (mapV_made w)
  have S1 : Hid (Says X w (fun _ => none) (lastM [])) := fun k => ⟨fun _ => rfl, fun b hb => (by cases hb)⟩
  go_enter Tryz.func47, Tryz.ntmps47
  go_wp2
  go_loopg [17] N (fun gk s17 wr => ∃ i : Nat, i + gk = N ∧ s17 = .int .i64 i ∧ ∃ mv, Hid (MapV wr w.heap.size mv) ∧ Hid (Says X w mv (lastM (Q.take i).flatten)) ∧ Hid (Below w.heap.size w wr))
  case atStart => exact ⟨0, by omega, rfl, _, M1.out, S1.out, B1.out⟩
  case round =>
    obtain ⟨i, hig, rfl, mv, hM, hS, hB⟩ := hrel
    obtain ⟨wo, hwo⟩ : ∃ v, v = wr := ⟨_, rfl⟩
    subst hwo
    cases gk with
    | zero =>
      obtain rfl : i = N := by omega
      have hS' : Hid (Says X w mv (lastM Q.flatten)) := by have := hS.out; rw [List.take_of_length_le (by have := HN.out; omega)] at this; exact this
      clear hS
      go_wp2
      go_ret2
      exact ⟨_, rfl, Nat.le_refl _, ⟨mv, hM.out, hS'.out.kp (Kp.bel hB.out)⟩, hB.out⟩
    | succ g =>
      have hiN : (i : Int) < (N : Int) := by omega
      obtain ⟨bg, bo, rfl, x, hx, hE⟩ := HLE.out i (by have := HN.out; omega)
      have hxo := cell_on (hB.out) hx
      obtain ⟨q, hq⟩ : ∃ q, Q[i]'(by have := HN.out; omega) = q := ⟨_, rfl⟩
      rw [hq] at hE
      have hqm : q ∈ Q := by rw [← hq]; exact List.getElem_mem _
      have HQT : Hid ((Q.take (i + 1)).flatten = (Q.take i).flatten ++ q) := by
        show _ = _
        rw [List.take_add_one, List.getElem?_eq_getElem (by have := HN.out; omega), hq]
        simp
      have HR := Lib.hid (HQ.out q hqm)
      have hql := HL.out q hqm
      obtain ⟨xp, xc, rfl, hE⟩ := hE
      rw [recs_len] at *
      have hre : ∀ j (h : j < q.length), ∃ g o, xp = some ⟨g, o, none⟩ ∧ ∃ y, w.cell? ⟨g, o + j, none⟩ = some y ∧ BsY X w y (recB q[j].1 q[j].2) := fun j h => by
        rcases hE with hE | ⟨g, o, e, -, hE⟩
        · have : q.length = 0 := by rw [← recs_len, hE]; rfl
          omega
        · obtain ⟨y, hy, hE⟩ := hE j (by rw [recs_len]; exact h)
          exact ⟨g, o, e, y, hy, (by simpa [recs] using hE : bytesE.E X w y (recB q[j].1 q[j].2))⟩
      have HRE := Lib.hid hre
      clear hre hE hqm hq
      obtain ⟨K, hK⟩ : ∃ K, q.length = K := ⟨_, rfl⟩
      have HK := Lib.hid hK
      rw [hK] at hql hxo
      clear hK hx
      go_wp2
      go_loopg [23] K (fun gj s23 wq => ∃ j : Nat, j + gj = K ∧ s23 = .int .i64 j ∧ ∃ mu, Hid (MapV wq w.heap.size mu) ∧ Hid (Says X w mu (lastM ((Q.take i).flatten ++ q.take j))) ∧ Hid (Below w.heap.size w wq))
      case atStart => exact ⟨0, by omega, rfl, mv, hM.out, by show Says _ _ _ _; rw [List.take_zero, List.append_nil]; exact hS.out, hB.out⟩
      case round =>
        obtain ⟨j, hjg, rfl, mu, hM2, hS2, hB2⟩ := hrel
        cases gk with
        | zero =>
          obtain rfl : j = K := by omega
          have HS3 : Hid (Says X w mu (lastM (Q.take (i + 1)).flatten)) := by
            have := hS2.out
            rw [List.take_of_length_le (l := q) (by have := HK.out; omega)] at this
            show Says _ _ _ _
            rw [HQT.out]
            exact this
          clear hS2
          go_wp2
          go_roundg g
          case rel => exact ⟨i + 1, by omega, by first | rfl | simp, mu, hM2, HS3, hB2⟩
          case measure => omega
        | succ h =>
          have hjK : (j : Int) < (K : Int) := by omega
          obtain ⟨cg, co, rfl, y, hy, hYB⟩ := HRE.out j (by have := HK.out; omega)
          obtain ⟨z, hz⟩ : ∃ z, q[j]'(by have := HK.out; omega) = z := ⟨_, rfl⟩
          rw [hz] at hYB
          have hR := HR.out z (by rw [← hz]; exact List.getElem_mem _)
          have hyo := cell_on hB2.out hy
          have HQJ : Hid (lastM ((Q.take i).flatten ++ q.take (j + 1)) = upd (lastM ((Q.take i).flatten ++ q.take j)) z.1 (some z.2)) := by
            show _ = _
            rw [List.take_add_one, List.getElem?_eq_getElem (by have := HK.out; omega), hz, ← List.append_assoc]
            exact lastM_snoc _ _
          have c104 := pageOf104 wr y pages z.1 z.2 hR hp (hYB.1.on hB2.out)
          have HYB := Lib.hid hYB
          have hz1 := hR.lt
          have HZ2 := Lib.hid hR.len
          obtain ⟨zp, zb⟩ := z
          simp only at c104 HYB hz1 HZ2 HQJ
          obtain ⟨yp, yc, rfl, -⟩ := hYB.1
          clear hYB hR hz hy
          generalize recB zp zb = RB at *
          go_wp2_with (first
            | (go_at_call 104; refine c104.mono ?_; rintro e w1 ⟨rq, rc, rfl, hPt, hb1⟩
               obtain ⟨w2, hst, hM3, hg3, hs3⟩ := (hM2.out.on hb1).store (k := zp) (by omega) (.slice rq zb.length rc)
               have HM3 := Lib.hid hM3
               have HS3 := Lib.hid (hS2.out.put zp HZ2.out (hPt _ _ HYB.out))
               have HB3 := Lib.hid ((bel_then hB2.out hb1).grown hg3 (bel_then hB2.out hb1).size (fun k e => by injection e with e; omega))
               clear hM3 hg3 hs3 hPt hb1))
          go_roundg h
          case rel => exact ⟨j + 1, by omega, by first | rfl | simp, _, HM3, by show Says _ _ _ _; rw [HQJ.out]; exact HS3.out, HB3⟩
          case measure => omega
end Go.Proofs.YtfakgfmgofblgaaGreatDoor
namespace Go.Proofs.YtfakgfmgofblgaaGreatDoor
open Go.RowKit Go.Maps Go.Sort Go.Shelf
set_option linter.unusedVariables false      -- a walk need not use every condition
attribute [local go_sem ↓] Go.wp_at_zero Go.wp_at_succ

theorem look64 {w : World} {mb : Nat} {m : Nat → Option (List UInt8)} (h : MapAt shA w mb m) {k : Nat} (hk : k < 2048) (c : Bool) :
    (Instr.lookup 64 (.map (some mb)) (.int .i64 k) c).run Tryz.prog w = .ok (lkv shA (shc []).toArray c (m k)) w :=
  h.look Tryz.underlying64 (zv165 w) hk c
set_option maxHeartbeats 1000000 in
theorem hasStaged83 (w : World) (g o ms mk base : Nat) (tv : Value) (P : Po) (h : PoAt w g o ms mk base tv P) (page : Nat) (hp : page < 2048) :
    Calls Tryz.prog 83 #[.pointer (some ⟨g, o, none⟩), .int .i64 page] w fun e w' => e = .returned (.bool (P.st page).isSome) ∧ Below w.heap.size w w' := by
  have c1 := h.c1
  have hl := look64 h.s hp true
  have zv := zv165
  have hl0 := shc_len (b := []) (by decide)
  obtain ⟨b, hb, hlk, hbl⟩ : ∃ b : List UInt8, (Instr.lookup 64 (.map (some ms)) (.int .i64 page) true).run Tryz.prog w = .ok (.tuple #[.agg (shc b).toArray, .bool (P.st page).isSome]) w ∧ b.length ≤ 448 ∧ True := by
    cases hm : P.st page with
    | none => rw [hm] at hl; exact ⟨[], hl, by decide, trivial⟩
    | some b => rw [hm] at hl; exact ⟨b, hl, h.ls page b hm, trivial⟩
  have hi := hi165 hlk
  have h1 := shc_one b
  have hlb := shc_len hlk
  generalize shc b = S at *
  generalize shc [] = Z at *
  generalize (P.st page).isSome = q at *
  clear h hl hlk
  go_enter Tryz.func83, Tryz.ntmps83
  go_wp2_with (first
    | (with_reducible show wpList _ _ _ (Oper.mk (some 5) (Op.alloc 165) _ _ _ _ :: _) _ _
       refine wpList_allocZ 165 _ zv rfl rfl ?_; intro w1 B1 s1 L1
       have T1 := L1.th
       rw [hl0, ← hlb] at T1)
    | (with_reducible show wpList _ _ _ (Oper.mk _ (Op.store 165 (Operand.tmp 5) _) _ _ _ _ :: _) _ _
       refine wpList_storeZ 165 S hi h1 rfl _ _ rfl w.heap.size 0 rfl rfl T1 ?_
       intro w4 g4 L4 t4 r4 z4))
  go_ret
  exact ⟨rfl, B1.grown g4 B1.size (fun k e => by injection e with e; omega)⟩
set_option maxHeartbeats 1000000 in
theorem stagedPages131 (w : World) (g o ms mk base : Nat) (tv : Value) (P : Po) (h : PoAt w g o ms mk base tv P) :
    Calls Tryz.prog 131 #[.pointer (some ⟨g, o, none⟩)] w fun e w' => ∃ v : Value, e = .returned v ∧ w'.ownsRow w.heap.size 3 1 v (keysM P.st).length (nums (keysM P.st)) ∧ Below w.heap.size w w' := by
  have c1 := h.c1
  obtain ⟨n, D, ho, ht⟩ := h.s
  have cK := keysSh_c (some ms) w
  have cS := sortedSh_c w ho (by rw [sizeM ho ht]; have := keysM_len P.st; omega)
  have HP : Hid ((ints (keysM P.st)).Perm (intKeys D)) := keysM_perm ho ht
  clear h ho ht
  go_enter Tryz.func131, Tryz.ntmps131
  go_wp2_with (first
    | (go_at_call 168; refine cK.mono ?_; rintro e w' ⟨rfl, rfl⟩)
    | (go_at_call 66; refine cS.mono ?_; rintro e w' ⟨v, ss, rfl, hS, hrow, hnil, hb⟩))
  go_ret
  have hp : ss.Perm (ints (keysM P.st)) := hS.trans HP.out.symm
  have hl : ss.length = (keysM P.st).length := by rw [hp.length_eq]; simp [ints]
  rw [sort_ints (keysM_sorted P.st) hp, nums_eq, hl] at hrow
  exact ⟨v, rfl, ownsRow_base_a hrow (by simp), ((Below.refl _ _).alloc (Nat.le_refl _) _).trans (hb.mono (by simp))⟩

/-! ### leaveTurns -/
/-- What leaveTurns does, of such turns. -/
def LeaveC (L : List Nat) : Prop := ∀ (w : World) (g o ms mk base : Nat) (tv : Value) (P : Po), P.tn = L → PoAt w g o ms mk base tv P → ∀ page : Nat, page < 2048 →
  Calls Tryz.prog 126 #[.pointer (some ⟨g, o, none⟩), .int .i64 page] w fun e w' => e = .returned (.tuple #[]) ∧ PoR w g o ms mk base tv { P with tn := L.filter (fun x => decide (x ≠ page)) } w'
theorem indexNil193 (w : World) (p : Option Addr) (c : Nat) (f : Value) : Calls Tryz.prog 193 #[.slice p 0 c, f] w fun e w' => e = .returned (.int .i64 (-1)) ∧ w' = w := by
  go_enter Tryz.func193, Tryz.ntmps193
  go_wp2
  go_loopg [8] 0 (fun gk s8 wr => s8 = .int .i64 0 ∧ wr = w)
  case atStart => exact ⟨rfl, rfl⟩
  case round =>
    obtain ⟨rfl, rfl⟩ := hrel
    go_wp2
    go_ret
    exact ⟨rfl, rfl⟩
theorem deleteNil166 (w : World) (p : Option Addr) (c : Nat) (f : Value) : Calls Tryz.prog 166 #[.slice p 0 c, f] w fun e w' => e = .returned (.slice p 0 c) ∧ w' = w := by
  have ci := indexNil193 w p c f
  go_enter Tryz.func166, Tryz.ntmps166
  go_wp2_with (first | (go_at_call 193; refine ci.mono ?_; rintro e w' ⟨rfl, ew⟩; rw [ew]; clear ew w'))
  go_ret
  exact ⟨rfl, rfl⟩
/-- A cell of a pool is written: the turns. -/
theorem PoAt.setT {w : World} {g o ms mk base : Nat} {tv tv' : Value} {P : Po} {L : List Nat} (h : PoAt w g o ms mk base tv P) (hr : w.ownsRow base 3 1 tv' L.length (nums L)) (hL : L.length ≤ 2048) (hp : ∀ p ∈ L, p < 2048) : PoAt (w.setCell ⟨g, o + 3, none⟩ tv') g o ms mk base tv' { P with tn := L } := by
  have l := h.lt
  have hg := gr_set w g (o + 3) tv'
  have hne := h.gne
  have hs : (w.cell? ⟨g, o + 3, none⟩).isSome = true := by rw [h.c3]; rfl
  have hoth : ∀ i, i ≠ o + 3 → (w.setCell ⟨g, o + 3, none⟩ tv').cell? ⟨g, i, none⟩ = w.cell? ⟨g, i, none⟩ := fun i hi => World.cell?_setCell_other _ _ _ _ (fun e => hi (by injection e with _ e2 _; exact e2.symm))
  refine { h with c0 := (hoth _ (by omega)).trans h.c0, c1 := (hoth _ (by omega)).trans h.c1, c2 := (hoth _ (by omega)).trans h.c2, c3 := World.cell?_setCell_same' _ _ _ hs, fz := (World.frozen?_setCell _ _ _ _).trans h.fz, tn := ?_, s := h.s.blk (hg.block _ (by omega) (fun e => hne.1 (by injection e with e; exact e.symm))), k := h.k.blk (hg.block _ (by omega) (fun e => hne.2 (by injection e with e; exact e.symm))), lt := ⟨l.1, l.2.1, l.2.2.1, by simp [World.setCell]; exact l.2.2.2⟩, lg := hL, pg := hp }
  exact own_same hr fun k hk hl => hg.block k hl (fun e => by injection e with e; omega)
set_option maxHeartbeats 1000000 in
theorem leaveNil : LeaveC [] := by
  intro w g o ms mk base tv P hP h page hp
  have HA := Lib.hid h
  have c3 := h.c3
  have hfz := h.fz
  obtain ⟨p, c, rfl⟩ : ∃ p c, tv = .slice p 0 c := by
    rcases h.tn.2 with ⟨rfl, -⟩ | ⟨b, cap, cur, rfl, -⟩
    · exact ⟨_, _, rfl⟩
    · rw [hP]; exact ⟨_, _, rfl⟩
  have hlt := h.lt
  have b1 := bel1 w (.cells #[.int .i64 (page : Int)] 3)
  have hc3 := cell_on b1 c3
  have hf3 : (w.alloc (.cells #[.int .i64 (page : Int)] 3)).frozen? ⟨g, o + 3, none⟩ = false := (World.frozen?_of_block (w := w) (a := ⟨g, o + 3, none⟩) (b1.block g (by omega))).trans hfz
  clear h c3 hfz b1
  go_enter Tryz.func126, Tryz.ntmps126
  go_wp2_with (first | (go_at_call 166; refine (deleteNil166 _ p c _).mono ?_; rintro e w' ⟨rfl, ew⟩; rw [ew]; clear ew w'))
  go_end0
  refine ⟨rfl, PoR.bel (bel1 w _) (by omega) ⟨_, (HA.out.on (bel1 w _)).setT (L := []) ?_ (by simp) (fun p hp => by cases hp), Kg.set _ _ (by omega) (by omega), fun k hk => .inl hk⟩⟩
  have := (HA.out.on (bel1 w (.cells #[.int .i64 (page : Int)] 3))).tn
  rw [hP] at this
  exact this

/-! ### drop, makeRoom -/
def Po.drop (P : Po) (page : Nat) : Po := { P with st := upd P.st page none, kp := upd P.kp page none, tn := P.tn.filter (fun x => decide (x ≠ page)) }
theorem MapAt.del {w : World} {mb : Nat} {m : Nat → Option (List UInt8)} {n : Nat} {D : DataW (Array Value)} {w' : World} {k : Nat} (hT : TieM shA D m) (h : w'.ownsMap Tryz.prog 3 secR mb n (D.del (.int .i64 k))) : MapAt shA w' mb (upd m k none) := ⟨_, _, h, hT.del k⟩
theorem upd_none_ls {m : Nat → Option (List UInt8)} {k : Nat} (h : ∀ p b, m p = some b → b.length ≤ 448) : ∀ p b, upd m k none p = some b → b.length ≤ 448 := fun p b hb => by
  unfold upd at hb
  by_cases e : p = k
  · rw [if_pos e] at hb; cases hb
  · rw [if_neg e] at hb; exact h p b hb
set_option maxHeartbeats 2000000 in
theorem drop82 (w : World) (g o ms mk base : Nat) (tv : Value) (P : Po) (h : PoAt w g o ms mk base tv P) (page : Nat) (hp : page < 2048) (hL : LeaveC P.tn) :
    Calls Tryz.prog 82 #[.pointer (some ⟨g, o, none⟩), .int .i64 page] w fun e w' => e = .returned (.tuple #[]) ∧ PoR w g o ms mk base tv (P.drop page) w' := by
  have HA := Lib.hid h
  have c1 := h.c1
  have hlt := h.lt
  have hne := h.gne
  have hnm := h.ne
  obtain ⟨n1, D1, ho1, ht1⟩ := h.s
  have HT1 := Lib.hid ht1
  have hkey : keyOf Tryz.prog 3 (.int .i64 (page : Int)) = some (.int .i64 (page : Int)) := keyOf_int_mk Tryz.underlying3 (key_wf2 (by unfold I64'; omega))
  have HKY := Lib.hid hkey
  have tvb := fun k hk => h.tvb (k := k) hk
  clear h ht1 hkey
  go_enter Tryz.func82, Tryz.ntmps82
  have t1 : True := trivial
  go_wp2_with (first
    | (at_delete; clear t1; refine wpList_delete_own _ rfl _ _ 64 3 rfl 165 keyed3 Tryz.underlying64 _ ms n1 D1 rfl ho1 _ _ rfl HKY.out ?_; intro w1 ho2 htn1
       have g1 := htn1.grown
       have P1 : PoAt w1 g o ms mk base tv { P with st := upd P.st page none } := by
         have hb := fun k (hk : k < w.heap.size) (hne : k ≠ ms) => g1.block k hk (fun e => hne (by injection e))
         have hc := fun i => World.cell?_of_block (w := w) (a := ⟨g, i, none⟩) (hb g (by omega) hne.1)
         refine { HA.out with c0 := (hc _).trans HA.out.c0, c1 := (hc _).trans HA.out.c1, c2 := (hc _).trans HA.out.c2, c3 := (hc _).trans HA.out.c3, fz := (World.frozen?_of_block (w := w) (a := ⟨g, o + 3, none⟩) (hb g (by omega) hne.1)).trans HA.out.fz, tn := own_same HA.out.tn (fun k hk hl => hb k hl (by omega)), s := MapAt.del (w := w1) HT1.out ho2, k := HA.out.k.blk (hb mk (by omega) (fun e => hnm e.symm)), lt := ⟨hlt.1, hlt.2.1, hlt.2.2.1, Nat.le_trans hlt.2.2.2 g1.size⟩, ls := upd_none_ls HA.out.ls }
       have HP1 := Lib.hid P1
       have HG1 : Hid (Kg g o (o + 4) (Xo ms mk tv) w w1) := Kg.grown g1 (.inl rfl) (by omega) (fun e => hne.1 e.symm)
       have d1 := P1.c2
       obtain ⟨n2, D2, ho3, ht3⟩ := P1.k
       have HT3 := Lib.hid ht3
       have hz1 := Lib.hid g1.size
       clear P1 ht3 g1 htn1 ho2)
    | (at_delete; refine wpList_delete_own _ rfl _ _ 64 3 rfl 165 keyed3 Tryz.underlying64 _ mk n2 D2 rfl ho3 _ _ rfl HKY.out ?_; intro w2 ho4 htn2
       have g2 := htn2.grown
       have hz := hz1.out
       have P2 : PoAt w2 g o ms mk base tv { P with st := upd P.st page none, kp := upd P.kp page none } := by
         have hb := fun k (hk : k < w1.heap.size) (hne : k ≠ mk) => g2.block k hk (fun e => hne (by injection e))
         have hc := fun i => World.cell?_of_block (w := w1) (a := ⟨g, i, none⟩) (hb g (by omega) hne.2)
         refine { HP1.out with c0 := (hc _).trans HP1.out.c0, c1 := (hc _).trans HP1.out.c1, c2 := (hc _).trans HP1.out.c2, c3 := (hc _).trans HP1.out.c3, fz := (World.frozen?_of_block (w := w1) (a := ⟨g, o + 3, none⟩) (hb g (by omega) hne.2)).trans HP1.out.fz, tn := own_same HP1.out.tn (fun k hk hl => hb k hl (by omega)), s := HP1.out.s.blk (hb ms (by omega) hnm), k := MapAt.del (w := w2) HT3.out ho4, lt := ⟨hlt.1, hlt.2.1, hlt.2.2.1, Nat.le_trans HP1.out.lt.2.2.2 g2.size⟩, lk := upd_none_ls HA.out.lk }
       have HP2 := Lib.hid P2
       have HG2 : Hid (Kg g o (o + 4) (Xo ms mk tv) w w2) := HG1.out.trans (Kg.grown (X := Xo ms mk tv) g2 (.inr (.inl rfl)) (by omega) (fun e => hne.2 e.symm)) (fun k hk => .inl hk)
       clear P2 g2 htn2 ho4 hz)
    | (go_at_call 126; refine (hL w2 g o ms mk base tv { P with st := upd P.st page none, kp := upd P.kp page none } rfl HP2.out page hp).mono ?_; rintro e w3 ⟨rfl, hR⟩))
  go_end0
  exact ⟨rfl, hR.next HG2.out (fun _ h => .inl h)⟩
/-- The pool with room for one page more. -/
def Po.mkr (P : Po) : Po := if P.held = P.room then P.drop (P.tn.headD 0) else P
set_option maxHeartbeats 2000000 in
theorem makeRoom127 (w : World) (g o ms mk base : Nat) (tv : Value) (P : Po) (h : PoAt w g o ms mk base tv P) (hf : P.held = P.room → P.tn ≠ [] ∧ LeaveC P.tn) :
    Calls Tryz.prog 127 #[.pointer (some ⟨g, o, none⟩)] w fun e w' => e = .returned (.tuple #[]) ∧ PoR w g o ms mk base tv P.mkr w' := by
  have HA := Lib.hid h
  have hlt := h.lt
  have HD : Hid (PoAt w.drew g o ms mk base tv P) := h.on ((Below.refl _ _).drew)
  have c61 := held61 w.drew g o ms mk base tv P HD.out
  have k0 : w.drew.cell? ⟨g, o, none⟩ = some (.int .i64 P.room) := h.c0
  have HF := Lib.hid hf
  clear h hf
  unfold Po.mkr
  by_cases hh : P.held = P.room
  · rw [if_pos hh]
    obtain ⟨hne, hL⟩ := HF.out hh
    obtain ⟨x, r, hx⟩ : ∃ x r, P.tn = x :: r := by
      cases ht : P.tn with
      | nil => exact absurd ht hne
      | cons x r => exact ⟨x, r, rfl⟩
    have hhd : P.tn.headD 0 = x := by rw [hx]; rfl
    rw [hhd]
    have hx2 : x < 2048 := HA.out.pg x (by rw [hx]; exact List.mem_cons_self)
    have hheq : ((P.held : Int) == (P.room : Int)) = true := by rw [hh]; simp
    obtain ⟨tb, cap, rfl⟩ : ∃ tb cap, tv = .slice (some ⟨tb, 0, none⟩) P.tn.length cap := by
      rcases HA.out.tn.2 with ⟨-, h0⟩ | ⟨b, cap, cur, rfl, -⟩
      · rw [hx] at h0; cases h0
      · exact ⟨_, _, rfl⟩
    have hcel : ∀ W, PoAt W g o ms mk base (.slice (some ⟨tb, 0, none⟩) P.tn.length cap) P → W.cell? ⟨tb, 0, none⟩ = some (.int .i64 (x : Int)) := fun W hW => by
      have := hW.tn.cells (g := tb) rfl 0 (.int .i64 (x : Int)) (by rw [hx]; rfl)
      rw [Go.WideShapes.add_plain] at this
      exact this
    have HC := Lib.hid hcel
    have c82 := fun W (hW : PoAt W g o ms mk base (.slice (some ⟨tb, 0, none⟩) P.tn.length cap) P) => drop82 W g o ms mk base _ P hW x hx2 hL
    have hlz : (0 : Int) < (P.tn.length : Int) := by rw [hx]; simp
    have hheld := hh
    clear hcel hh
    generalize P.held = H at *
    go_enter Tryz.func127, Tryz.ntmps127
    go_wp2
    go_region_with (first
      | (go_at_call 61; refine c61.mono ?_; rintro e w1 ⟨rfl, hb1⟩
         have HP1 := Lib.hid (HD.out.on hb1)
         have k1 := HP1.out.c0
         have k3 := HP1.out.c3
         have k4 := HC.out w1 HP1.out
         have HB1 := Lib.hid (show Below w.heap.size w w1 from ((Below.refl _ _).drew).trans hb1)
         clear hb1))
    all_goals
      go_wp2_with (first | (go_at_call 82; refine (c82 _ HP1.out).mono ?_; rintro e w2 ⟨rfl, hR⟩))
      go_end0
      exact ⟨rfl, hR.bel HB1.out (by omega)⟩
  · rw [if_neg hh]
    have hheq : ((P.held : Int) == (P.room : Int)) = false := by rw [beq_eq_false_iff_ne]; omega
    generalize P.held = H at *
    go_enter Tryz.func127, Tryz.ntmps127
    go_wp2
    go_region_with (first
      | (go_at_call 61; refine c61.mono ?_; rintro e w1 ⟨rfl, hb1⟩
         have HP1 := Lib.hid (HD.out.on hb1)
         have k1 := HP1.out.c0
         have HB1 := Lib.hid (show Below w.heap.size w w1 from ((Below.refl _ _).drew).trans hb1)
         clear hb1))
    all_goals
      go_wp2
      go_end0
      exact ⟨rfl, tv, HP1.out, Kg.bel HB1.out (by omega), fun k hk => .inl hk⟩
/-! ### stage, keep -/
def Po.stage (P : Po) (page : Nat) (b : List UInt8) : Po := { (P.drop page).mkr with st := upd (P.drop page).mkr.st page (some b) }
theorem PoAt.putS {w w' : World} {g o ms mk base : Nat} {tv : Value} {P : Po} (h : PoAt w g o ms mk base tv P) {page : Nat} {b : List UInt8} (hb : b.length ≤ 448) (hg : w.grownBy w' (some ms)) (hm : MapAt shA w' ms (upd P.st page (some b))) : PoAt w' g o ms mk base tv { P with st := upd P.st page (some b) } := by
  have l := h.lt
  have hne := h.gne
  have hk := fun k (hk : k < w.heap.size) (hne : k ≠ ms) => hg.block k hk (fun e => hne (by injection e))
  have hc := fun i => World.cell?_of_block (w := w) (a := ⟨g, i, none⟩) (hk g (by omega) hne.1)
  refine { h with c0 := (hc _).trans h.c0, c1 := (hc _).trans h.c1, c2 := (hc _).trans h.c2, c3 := (hc _).trans h.c3, fz := (World.frozen?_of_block (w := w) (a := ⟨g, o + 3, none⟩) (hk g (by omega) hne.1)).trans h.fz, tn := own_same h.tn (fun k hb hl => hk k hl (by omega)), s := hm, k := h.k.blk (hk mk (by omega) (fun e => h.ne e.symm)), lt := ⟨l.1, l.2.1, l.2.2.1, Nat.le_trans l.2.2.2 hg.size⟩, ls := fun p c hc => ?_ }
  simp only [upd] at hc
  by_cases e : p = page
  · rw [if_pos e] at hc; injection hc with hc; subst hc; exact hb
  · rw [if_neg e] at hc; exact h.ls p c hc
theorem PoAt.putK {w w' : World} {g o ms mk base : Nat} {tv : Value} {P : Po} (h : PoAt w g o ms mk base tv P) {page : Nat} {b : List UInt8} (hb : b.length ≤ 448) (hg : w.grownBy w' (some mk)) (hm : MapAt shA w' mk (upd P.kp page (some b))) : PoAt w' g o ms mk base tv { P with kp := upd P.kp page (some b) } := by
  have l := h.lt
  have hne := h.gne
  have hk := fun k (hk : k < w.heap.size) (hne : k ≠ mk) => hg.block k hk (fun e => hne (by injection e))
  have hc := fun i => World.cell?_of_block (w := w) (a := ⟨g, i, none⟩) (hk g (by omega) hne.2)
  refine { h with c0 := (hc _).trans h.c0, c1 := (hc _).trans h.c1, c2 := (hc _).trans h.c2, c3 := (hc _).trans h.c3, fz := (World.frozen?_of_block (w := w) (a := ⟨g, o + 3, none⟩) (hk g (by omega) hne.2)).trans h.fz, tn := own_same h.tn (fun k hb hl => hk k hl (by omega)), s := h.s.blk (hk ms (by omega) h.ne), k := hm, lt := ⟨l.1, l.2.1, l.2.2.1, Nat.le_trans l.2.2.2 hg.size⟩, lk := fun p c hc => ?_ }
  simp only [upd] at hc
  by_cases e : p = page
  · rw [if_pos e] at hc; injection hc with hc; subst hc; exact hb
  · rw [if_neg e] at hc; exact h.lk p c hc
set_option maxHeartbeats 2000000 in
set_option maxRecDepth 100000 in
theorem stage79 (w : World) (g o ms mk base : Nat) (tv : Value) (P : Po) (h : PoAt w g o ms mk base tv P) (page : Nat) (hp : page < 2048) (v : Value) (b : List UInt8) (hv : Bs w v b) (hvx : ∀ a n c, v = .slice (some a) n c → b ≠ [] → ¬ (a.block = g ∨ Xo ms mk tv a.block)) (hb : b.length ≤ 448) (hL : LeaveC P.tn) (hf : (P.drop page).held = (P.drop page).room → (P.drop page).tn ≠ [] ∧ LeaveC (P.drop page).tn) :
    Calls Tryz.prog 79 #[.pointer (some ⟨g, o, none⟩), .int .i64 page, v] w fun e w' => e = .returned (.tuple #[]) ∧ PoR w g o ms mk base tv (P.stage page b) w' := by
  have c82 := drop82 w g o ms mk base tv P h page hp hL
  have c127 := fun W tv' (hW : PoAt W g o ms mk base tv' (P.drop page)) => makeRoom127 W g o ms mk base tv' _ hW hf
  have hlt := h.lt
  have HV : Hid (BsX (fun k => k = g ∨ Xo ms mk tv k) w v b) := ⟨hv, fun ht a n c e hx => hvx a n c e ht hx⟩
  obtain ⟨vp, vc, rfl, -⟩ := hv
  have c128 := fun W (hb' : Bs W (.slice vp b.length vc) b) => sheetOf128 W _ b hb' hb
  unfold Po.stage
  clear h hf hvx
  generalize (P.drop page).mkr = Q at *
  generalize P.drop page = D at *
  obtain ⟨bl, hbl⟩ : ∃ bl, b.length = bl := ⟨_, rfl⟩
  rw [hbl] at HV c128 ⊢
  have HBL := Lib.hid hbl
  clear hbl
  go_enter Tryz.func79, Tryz.ntmps79
  go_wp2_with (first
    | (go_at_call 82; refine c82.mono ?_; rintro e w1 ⟨rfl, tv1, hP1, hK1, ht1⟩
       have HP1 := Lib.hid hP1
       have HK1 := Lib.hid hK1
       have HT1 := Lib.hid ht1
       clear hP1 hK1 ht1)
    | (go_at_call 127; refine (c127 _ tv1 HP1.out).mono ?_; rintro e w2 ⟨rfl, hR2⟩
       have hR2' := PoR.next HK1.out HT1.out hR2
       obtain ⟨tv2, hP2, hK2, ht2⟩ := hR2'
       have HP2 := Lib.hid hP2
       have HK2 := Lib.hid hK2
       have HT2 := Lib.hid ht2
       have HV2 := Lib.hid (HV.out.kp hK2.kp)
       have k1 : w2.drew.cell? ⟨g, o + 1, none⟩ = some (.map (some ms)) := hP2.c1
       clear hP2 hK2 ht2 hR2))
  have HVd : Hid (Bs w2.drew (.slice vp bl vc) b) := HV2.out.1.on ((Below.refl _ _).drew)
  have hlt2 := HP2.out.lt
  go_region_with (first
    | (go_at_call 128; refine (c128 w2.drew HVd.out).mono ?_; rintro e w3 ⟨rfl, hb3⟩
       have HB3 := Lib.hid (show Below w2.heap.size w2 w3 from ((Below.refl _ _).drew).trans hb3)
       have P3 := HP2.out.on HB3.out
       have k3 := P3.c1
       obtain ⟨w4, hst, hm4, hg4, hz4⟩ := P3.s.store Tryz.underlying64 hp b
       unfold shA at hst
       have HP4 := Lib.hid (P3.putS hb hg4 hm4)
       have HG4 : Hid (Kg g o (o + 4) (Xo ms mk tv2) w2 w4) := (Kg.bel HB3.out (by omega)).trans (Kg.grown (X := Xo ms mk tv2) hg4 (.inl rfl) (by have := HB3.out.size; omega) (fun e => HP2.out.gne.1 e.symm)) (fun k hk => .inl hk)
       clear hb3 P3 hm4 hg4 hz4))
  all_goals
    go_wp2
    go_end0
    exact ⟨rfl, PoR.next HK2.out HT2.out ⟨tv2, HP4.out, HG4.out, fun k hk => .inl hk⟩⟩
end Go.Proofs.YtfakgfmgofblgaaGreatDoor
