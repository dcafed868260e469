/-
  Pieces of bytes, and a row of them of one's own.
  A beginning and an end of bytes, wherever they lie. No walk.
  Bytes wherever they lie: their cells, a beginning, an end; one byte that was just laid. No walk.
  What Put of package num does behind nil, and the document's Put behind bytes.
  Take of package num: the number with which bytes begin.
  The fuse, and whether the power is away.
-/
import Derived.Test.YtnclhjjhobbbjaaDoorZClnAppJnCuaVntWm
import Derived.RangeFuncBox
import Derived.Laws.Bits64b
import Derived.Test.YtnclhjjhobbbjaaDoorZSumShlSmallCallDirtyWrite
namespace Go.Proofs.YtnclhjjhobbbjaaDoor
open Go.RowKit
set_option linter.unusedVariables false      -- a walk need not use every condition

theorem info22 : (Tryd.prog.info? 43).map (fun i => (i.zero, i.size, i.bytes)) = some (some (.slice none 0 0), 1, 24) := by kernel_rfl
/-- A row of one's own of bytes of one's own. -/
def RowB (w : World) (base : Nat) (v : Value) (L : List (List UInt8)) : Prop :=
  ∃ vs : List Value, w.ownsRow base 43 1 v L.length vs ∧ ∀ i (h : i < L.length), ∃ x, vs[i]? = some x ∧ Bts w base x L[i]
theorem rowB_nil (w : World) (base : Nat) : RowB w base (.slice none 0 0) [] := ⟨[], World.ownsRow_nil _ _ _ _, fun i h => absurd h (Nat.not_lt_zero _)⟩
theorem RowB.bss {w : World} {base : Nat} {v : Value} {L : List (List UInt8)} (h : RowB w base v L) : Bss w v L := by
  obtain ⟨vs, ho, he⟩ := h
  rcases ho.2 with ⟨rfl, h0⟩ | ⟨g, cap, cur, rfl, hbg, hg, hnc, hcm, hcs, htake⟩
  · have : L = [] := List.eq_nil_of_length_eq_zero h0
    subst this
    exact ⟨none, 0, rfl, .inl rfl⟩
  · refine ⟨_, cap, rfl, .inr ⟨g, 0, rfl, fun i hi => ?_⟩⟩
    obtain ⟨x, hx, hB⟩ := he i hi
    have := ho.cells (g := g) rfl i x hx
    rw [Go.WideShapes.add_plain] at this
    exact ⟨x, this, hB.bs⟩
theorem own_bel {w w' : World} {base : Nat} {e : TypeId} {size : Nat} {v : Value} {n : Nat} {xs : List Value} (h : w.ownsRow base e size v n xs) (hb : Below w.heap.size w w') : w'.ownsRow base e size v n xs := by
  refine World.ownsRow.kept h (gr_bel hb none) ?_
  cases hv : v.ownBlock with
  | none => exact .inl rfl
  | some g => exact .inr (by simp)
theorem RowB.on {w w' : World} {base : Nat} {v : Value} {L : List (List UInt8)} (h : RowB w base v L) (hb : Below w.heap.size w w') : RowB w' base v L := by
  obtain ⟨vs, ho, he⟩ := h
  refine ⟨vs, own_bel ho hb, fun i hi => ?_⟩
  obtain ⟨x, hx, hB⟩ := he i hi
  exact ⟨x, hx, hB.on hb⟩
/-- Rows of two types are not one. -/
theorem own_types {w : World} {b1 b2 : Nat} {e1 e2 : TypeId} {s1 s2 : Nat} {v1 v2 : Value} {n1 n2 : Nat} {x1 x2 : List Value} (h1 : w.ownsRow b1 e1 s1 v1 n1 x1) (h2 : w.ownsRow b2 e2 s2 v2 n2 x2) (hne : e1 ≠ e2) : v1.ownBlock = none ∨ v1.ownBlock ≠ v2.ownBlock := by
  rcases h1.2 with ⟨rfl, -⟩ | ⟨g, cap, cur, rfl, -, hg, -⟩
  · exact .inl rfl
  · refine .inr fun e => ?_
    rcases h2.2 with ⟨rfl, -⟩ | ⟨g2, cap2, cur2, rfl, -, hg2, -⟩
    · cases e
    · injection e with e
      have e : g = g2 := e
      subst e
      rw [hg] at hg2
      injection hg2 with hg2
      injection hg2 with _ hg2
      exact hne hg2
theorem own_nc {X Y : World} {base : Nat} {e : TypeId} {size : Nat} {v : Value} {n : Nat} {xs : List Value} {row : Option Nat} (h : X.ownsRow base e size v n xs) (hg : X.grownBy Y row) (hrow : ∀ r, row = some r → ∃ o : Obj, X.heap[r]? = some o ∧ o.isCells = false) : Y.ownsRow base e size v n xs := by
  refine h.kept hg ?_
  rcases h.2 with ⟨rfl, _⟩ | ⟨g, cap, cur, rfl, _, hgb, _⟩
  · exact .inl rfl
  · refine .inr fun e' => ?_
    obtain ⟨o, ho, hc⟩ := hrow g (by simpa [Value.ownBlock] using e'.symm)
    rw [hgb] at ho; cases ho; cases hc
theorem RowB.nc {X Y : World} {base : Nat} {v : Value} {L : List (List UInt8)} {row : Option Nat} (h : RowB X base v L) (hg : X.grownBy Y row) (hrow : ∀ r, row = some r → ∃ o : Obj, X.heap[r]? = some o ∧ o.isCells = false) : RowB Y base v L := by
  obtain ⟨vs, ho, he⟩ := h
  refine ⟨vs, own_nc ho hg hrow, fun i hi => ?_⟩
  obtain ⟨x, hx, hB⟩ := he i hi
  exact ⟨x, hx, own_nc hB hg hrow⟩
/-- A box of another type is set. -/
theorem RowB.set {X : World} {base B : Nat} {v u : Value} {L : List (List UInt8)} (h : RowB X base v L) (hb : Boxed X B 35 u) (u' : Value) : RowB (X.setCell ⟨B, 0, none⟩ u') base v L := by
  obtain ⟨vs, ho, he⟩ := h
  refine ⟨vs, ho.kept (grownBy_setCell' X B u') (.inr (hb.not_row (by decide) ho).symm), fun i hi => ?_⟩
  obtain ⟨x, hx, hB⟩ := he i hi
  exact ⟨x, hx, World.ownsRow.kept hB (grownBy_setCell' X B u') (.inr (hb.not_row (by decide) hB).symm)⟩
theorem row_app (w : World) (base g0 : Nat) (v y : Value) (L : List (List UInt8)) (u : List UInt8) (h : RowB w base v L) (hu : Bts w base y u) (hy : w.cell? ⟨g0, 0, none⟩ = some y) (hbase : base ≤ w.heap.size) (hlen : L.length + 1 ≤ 4398046511104) (ty : TypeId) :
    ∃ v' w', (Builtin.append_ #[35, 35] ty #[v, .slice (some ⟨g0, 0, none⟩) 1 1]).run Tryd.prog w = .ok v' w' ∧ RowB w' base v' (L ++ [u]) ∧ w.grownBy w' v.ownBlock ∧ (∃ g cap, v' = .slice (some ⟨g, 0, none⟩) (L.length + 1) cap) := by
  obtain ⟨i0, hi, hz0, hz1, hz2⟩ := info_parts info22
  obtain ⟨vs, ho, he⟩ := h
  have hy1 : y.oneCell' = true := by obtain ⟨p, c, rfl, -⟩ := hu.bs; rfl
  have hvs : vs.length = L.length := by have := ho.1; omega
  obtain ⟨v', w', hr, hown, hg, -⟩ := run_append_own (P := Tryd.prog) w base 35 ty 43 i0 (.slice none 0 0) 1 24 Tryd.underlying35 hi hz0 hz1 hz2 rfl (by decide) v L.length vs ho ⟨g0, 0, none⟩ 1 1 [y] rfl
    (fun j z hz => by
      cases j with
      | zero => simp at hz; subst hz; rw [Go.WideShapes.add_plain]; exact hy
      | succ j => simp at hz)
    (fun z hz => by simp at hz; subst hz; exact hy1) (by unfold maxLen; omega) (by omega) hbase
  refine ⟨v', w', hr, ⟨vs ++ [y], by rw [List.length_append]; exact hown, fun i hi => ?_⟩, hg, ownsRow_succ hown⟩
  have kp : ∀ {x : Value} {t : List UInt8}, Bts w base x t → Bts w' base x t := fun hB => World.ownsRow.kept hB hg (own_types hB ho (by decide))
  rw [List.length_append, List.length_singleton] at hi
  by_cases hl : i < L.length
  · obtain ⟨x, hx, hB⟩ := he i hl
    exact ⟨x, by rw [List.getElem?_append_left (by omega)]; exact hx, by rw [List.getElem_append_left hl]; exact kp hB⟩
  · obtain rfl : i = L.length := by omega
    exact ⟨y, by rw [List.getElem?_append_right (by omega), hvs, Nat.sub_self]; rfl, by simpa using kp hu⟩
theorem Bts.mono {w : World} {b b' : Nat} {v : Value} {t : List UInt8} (h : Bts w b' v t) (hb : b ≤ b') : Bts w b v t := by
  refine ⟨h.1, ?_⟩
  rcases h.2 with h | ⟨g, cap, cur, rfl, hbg, r⟩
  · exact .inl h
  · exact .inr ⟨g, cap, cur, rfl, Nat.le_trans hb hbg, r⟩
end Go.Proofs.YtnclhjjhobbbjaaDoor
namespace Go.Proofs.YtnclhjjhobbbjaaDoor
open Go.RowKit
set_option linter.unusedVariables false      -- a walk need not use every condition
attribute [local go_sem ↓] Go.wp_at_zero Go.wp_at_succ

theorem range_take {w : World} {g o : Nat} {t : List UInt8} (h : w.rangeAt g o (enc t)) (n : Nat) : w.rangeAt g o (enc (t.take n)) := fun j v hv => by
  refine h j v ?_
  unfold enc at *
  rw [List.map_take, List.getElem?_take] at hv
  split at hv
  · exact hv
  · cases hv
theorem range_drop {w : World} {g o : Nat} {t : List UInt8} (h : w.rangeAt g o (enc t)) (n : Nat) : w.rangeAt g (o + n) (enc (t.drop n)) := fun j v hv => by
  unfold enc at *
  rw [List.map_drop, List.getElem?_drop] at hv
  have := h (n + j) v hv
  rwa [← Nat.add_assoc] at this
/-- A piece that is sliced off, of whatever room. -/
theorem bs_take {w : World} {g o cap n c : Nat} {t : List UInt8} (h : Bs w (.slice (some ⟨g, o, none⟩) t.length cap) t) (hn : n ≤ t.length) (hc : n ≤ c) (hc2 : c ≤ cap) : Bs w (.slice (some ⟨g, o, none⟩) n c) (t.take n) := by
  obtain ⟨p, cap', e, h1, h2, h3, h4⟩ := h
  injection e with e1 e2 e3
  subst e1 e3
  refine ⟨_, c, by rw [List.length_take, Nat.min_eq_left hn], by rw [List.length_take]; omega, by omega, fun e => (by cases e), ?_⟩
  rcases h4 with rfl | ⟨g', o', e, hr⟩
  · exact .inl (by simp)
  · injection e with e
    injection e with e1 e2
    subst e1 e2
    exact .inr ⟨_, _, rfl, range_take hr n⟩
theorem bs_drop {w : World} {g o cap n : Nat} {t : List UInt8} (h : Bs w (.slice (some ⟨g, o, none⟩) t.length cap) t) (hn : n ≤ t.length) : Bs w (.slice (some ⟨g, o + n, none⟩) (t.length - n) (cap - n)) (t.drop n) := by
  obtain ⟨p, cap', e, h1, h2, h3, h4⟩ := h
  injection e with e1 e2 e3
  subst e1 e3
  refine ⟨_, cap - n, by rw [List.length_drop], by rw [List.length_drop]; omega, by omega, fun e => (by cases e), ?_⟩
  rcases h4 with rfl | ⟨g', o', e, hr⟩
  · exact .inl (by simp)
  · injection e with e
    injection e with e1 e2
    subst e1 e2
    exact .inr ⟨_, _, rfl, range_drop hr n⟩
/-- Bytes, one of them at least, lie at an address. -/
theorem bs_some {w : World} {v : Value} {t : List UInt8} (h : Bs w v t) (h0 : 0 < t.length) : ∃ g o cap, v = .slice (some ⟨g, o, none⟩) t.length cap ∧ t.length ≤ cap ∧ cap ≤ maxLen := by
  obtain ⟨p, cap, rfl, h1, h2, h3, h4⟩ := h
  obtain ⟨g, o, rfl, -⟩ := h4.resolve_left (fun e => by rw [e] at h0; simp at h0)
  exact ⟨g, o, cap, rfl, h1, h2⟩
theorem cell_new (w : World) (y : Value) (t : TypeId) : (w.alloc (.cells #[y] t)).cell? ⟨w.heap.size, 0, none⟩ = some y := (Boxed.new w t y).cell
theorem RowB.bel {w1 w2 : World} {base : Nat} {v : Value} {L : List (List UInt8)} {o : Obj} (h : RowB w1 base v L) (hg : (w1.alloc o).grownBy w2 v.ownBlock) (hbase : base ≤ w1.heap.size) : Below base w1 w2 := by
  obtain ⟨vs, ho, -⟩ := h
  exact ((Below.refl base w1).alloc hbase o).grown hg (by simp; omega) (fun j e => (World.ownsRow.lt ho j e).1)
end Go.Proofs.YtnclhjjhobbbjaaDoor
namespace Go.Proofs.YtnclhjjhobbbjaaDoor
open Go.RowKit

theorem Bs.slice {w : World} {v : Value} {t : List UInt8} (h : Bs w v t) : ∃ p cap, v = .slice p t.length cap ∧ t.length ≤ cap ∧ t.length ≤ 9223372036854775807 := by
  obtain ⟨p, cap, e, h1, h2, -⟩ := h
  unfold maxLen at h2
  exact ⟨p, cap, e, h1, by omega⟩
theorem enc_get {t : List UInt8} {i : Nat} (h : i < t.length) : (enc t)[i]? = some (.int .u8 t[i].toNat) := by simp [enc, h]
theorem Bs.cells {w : World} {v : Value} {t : List UInt8} (h : Bs w v t) (h0 : t ≠ []) : ∃ g o cap, v = .slice (some ⟨g, o, none⟩) t.length cap ∧ t.length ≤ cap ∧ t.length ≤ 9223372036854775807 ∧ ∀ i (hi : i < t.length), w.cell? ⟨g, o + i, none⟩ = some (.int .u8 t[i].toNat) := by
  obtain ⟨p, cap, rfl, h1, h2, h3, h4⟩ := h
  unfold maxLen at h2
  rcases h4 with h4 | ⟨g, o, rfl, hc⟩
  · exact absurd h4 h0
  · exact ⟨g, o, cap, rfl, h1, by omega, fun i hi => hc i _ (enc_get hi)⟩
/-- The first n of them. -/
theorem Bs.take {w : World} {p : Option Addr} {t : List UInt8} {cap n : Nat} (h : Bs w (.slice p t.length cap) t) (hn : n ≤ t.length) : Bs w (.slice p n cap) (t.take n) := by
  obtain ⟨p', cap', e, h1, h2, h3, h4⟩ := h
  injection e with e1 e2 e3
  subst e1 e3
  have hl : (t.take n).length = n := by simp; omega
  refine ⟨p, cap, by rw [hl], by omega, h2, h3, ?_⟩
  rcases h4 with rfl | ⟨g, o, rfl, hc⟩
  · exact .inl (by simp)
  · exact .inr ⟨g, o, rfl, range_take hc n⟩
/-- All but the first n. -/
theorem Bs.drop {w : World} {p : Option Addr} {t : List UInt8} {cap n : Nat} (h : Bs w (.slice p t.length cap) t) (hn : n ≤ t.length) : Bs w (.slice (if cap = n then p else p.map (·.add n)) (t.length - n) (cap - n)) (t.drop n) := by
  obtain ⟨p', cap', e, h1, h2, h3, h4⟩ := h
  injection e with e1 e2 e3
  subst e1 e3
  refine ⟨_, cap - n, by rw [List.length_drop], by rw [List.length_drop]; omega, by omega, fun e => ?_, ?_⟩
  · by_cases hcn : cap = n
    · omega
    · rw [if_neg hcn] at e
      have : p = none := by simpa using e
      have := h3 this
      omega
  · by_cases hd : t.length = n
    · exact .inl (List.drop_eq_nil_of_le (by omega))
    · rcases h4 with rfl | ⟨g, o, rfl, hc⟩
      · exact .inl (by simp)
      · refine .inr ⟨g, o + n, by rw [if_neg (by omega)]; simp [go_sem], range_drop hc n⟩
/-- A byte that was just laid. -/
theorem bs_one (w : World) (c : UInt8) {x : Int} (hx : x = c.toNat) : Bs (w.alloc (.cells #[.int .u8 x] 5)) (.slice (some ⟨w.heap.size, 0, none⟩) 1 1) [c] := by
  subst hx
  refine ⟨_, 1, rfl, by simp, by unfold maxLen; omega, fun e => (by cases e), .inr ⟨_, _, rfl, fun j v hv => ?_⟩⟩
  cases j with
  | zero =>
    simp [enc] at hv
    subst hv
    exact cell_new w _ _
  | succ j => simp [enc] at hv
end Go.Proofs.YtnclhjjhobbbjaaDoor
namespace Go.Proofs.YtnclhjjhobbbjaaDoor
open Go.RowKit
set_option linter.unusedVariables false      -- a walk need not use every condition

def vI : Value → Nat
  | .int _ n => n.toNat
  | _ => 0
theorem or128 (m : Nat) : bits .or .u8 ((m : Int) % 256) 128 = ((m % 128 + 128 : Nat) : Int) := by
  have h : ∀ x : Fin 256, bits .or .u8 ((x.val : Nat) : Int) 128 = ((x.val % 128 + 128 : Nat) : Int) := by decide +kernel
  have e : (m : Int) % 256 = ((m % 256 : Nat) : Int) := by omega
  rw [e, h ⟨m % 256, by omega⟩]
  simp
theorem cloneNil59 (w : World) : Calls Tryd.prog 59 #[.slice none 0 0] w fun e w' => e = .returned (.slice none 0 0) ∧ w' = w := by
  have hsn := fun w => Lib.run_eql_slice_nil (P := Tryd.prog) w 43 5 none 0 0 0 0 Tryd.underlying43
  go_enter Tryd.func59, Tryd.ntmps59
  go_wp2
  go_ret
  exact ⟨rfl, rfl⟩
theorem bts_nil (w : World) (base : Nat) : Bts w base (.slice none 0 0) [] := World.ownsRow_nil _ _ _ _
set_option maxHeartbeats 1000000 in
set_option maxRecDepth 100000 in
theorem put45 (u : Nat) (hu : u < 18446744073709551616) (w : World) :
    Calls Tryd.prog 45 #[.slice none 0 0, .int .u64 u] w fun e w' => ∃ v, e = .returned v ∧ Bts w' w.heap.size v (vnt u) ∧ Below w.heap.size w w' := by
  go_enter Tryd.func45, Tryd.ntmps45
  go_wp2_with (go_at_call 59; refine (cloneNil59 _).mono ?_; rintro e w' ⟨rfl, rfl⟩)
  go_loopw [1, 5] (fun a v wr => ∃ (f m : Nat) (pre : List UInt8), f ≤ 9 ∧ a = .int .u64 m ∧ m < 128 ^ (f + 1) ∧ pre.length + f = 9 ∧ pre ++ vntF f m = vnt u ∧ Hid (Bts wr w'.heap.size v pre) ∧ Hid (Below w'.heap.size w' wr))
    (fun a _ _ => vI a)
  case atStart => exact ⟨9, u, [], Nat.le_refl _, rfl, by omega, rfl, rfl, bts_nil _ _, Below.refl _ _⟩
  case round =>
    obtain ⟨f, m, pre, hf, rfl, hm, hlen, hE, hown, hbel⟩ := hrel
    by_cases hge : 128 ≤ m
    · have ho := or128 m
      obtain ⟨f, rfl⟩ : ∃ g, f = g + 1 := by
        cases f with
        | zero => simp at hm; omega
        | succ g => exact ⟨g, rfl⟩
      rw [vntF_high _ _ hge] at hE
      obtain ⟨x, hx⟩ : ∃ x : UInt8, UInt8.ofNat (m % 128 + 128) = x := ⟨_, rfl⟩
      have hxn : ((m % 128 + 128 : Nat) : Int) = (x.toNat : Int) := by rw [← hx, toNat_of (by omega)]
      rw [hxn] at ho
      rw [hx] at hE
      have HX : Hid (m / 128 < 128 ^ (f + 1)) := by rw [Nat.pow_succ] at hm; exact Nat.div_lt_of_lt_mul (by rw [Nat.mul_comm]; exact hm)
      have HE : Hid (pre ++ x :: vntF f (m / 128) = vnt u) := hE
      clear hx hm hE hxn
      go_wp2_with (at_builtin; refine wpList_app rfl _ _ rfl w'.heap.size _ _ pre [x] rfl rfl (hown.out.on (bel1 _ _)) (bs_one wr x rfl) (by simp; omega) (by have := hbel.out.size; simp; omega) ?_; intro v1 w1 hb1 hg1)
      have hB1 := (hbel.out.alloc hbel.out.size (.cells #[.int .u8 x.toNat] 5)).trans ((hown.out.on (bel1 wr (.cells #[.int .u8 x.toNat] 5))).below hg1 (by have := hbel.out.size; simp; omega))
      clear hg1
      go_roundw
      case rel => exact ⟨f, m / 128, pre ++ [x], by omega, by go_num, HX.out, by simp; omega, by have := HE.out; simpa using this, hb1, hB1⟩
      case measure => simp [vI]; omega
    · rw [vntF_low _ _ (by omega)] at hE
      obtain ⟨x, hx⟩ : ∃ x : UInt8, UInt8.ofNat m = x := ⟨_, rfl⟩
      have hb8 : (m : Int) % 256 = m := by omega
      have hxm : Hid ((m : Int) = ((x.toNat : Nat) : Int)) := by show _ = _; rw [← hx, toNat_of (by omega)]
      rw [hx] at hE
      have HE : Hid (pre ++ [x] = vnt u) := hE
      clear hE hm hx
      go_wp2_with (at_builtin; refine wpList_app rfl _ _ rfl w'.heap.size _ _ pre [x] rfl rfl (hown.out.on (bel1 _ _)) (bs_one wr x hxm.out) (by simp; omega) (by have := hbel.out.size; simp; omega) ?_; intro v1 w1 hb1 hg1)
      have hB1 := (hbel.out.alloc hbel.out.size (.cells #[.int .u8 (m : Int)] 5)).trans ((hown.out.on (bel1 wr (.cells #[.int .u8 (m : Int)] 5))).below hg1 (by have := hbel.out.size; simp; omega))
      clear hg1
      go_ret
      exact ⟨_, rfl, by rw [← HE.out]; exact hb1, hB1⟩
set_option maxHeartbeats 1000000 in
set_option maxRecDepth 100000 in
/-- The document's Put. -/
theorem rput57 (u : Nat) (hu : u < 18446744073709551616) (w : World) (b : Value) (t : List UInt8) (hb : Bs w b t) (ht : t.length + 10 ≤ 140737488355328) :
    Calls Tryd.prog 57 #[b, .int .u64 u] w fun e w' => ∃ v, e = .returned v ∧ Bts w' w.heap.size v (t ++ vnt u) ∧ Below w.heap.size w w' := by
  have HB := Lib.hid hb
  obtain ⟨p, cap, rfl, -⟩ := hb
  go_enter Tryd.func57, Tryd.ntmps57
  go_wp2_with (at_builtin; refine wpList_app rfl _ _ rfl w.heap.size _ _ [] t rfl rfl (bts_nil _ _) HB.out (by simp; omega) (Nat.le_refl _) ?_; intro v0 w0 hb0 hg0)
  have hB0 := (bts_nil w w.heap.size).below hg0 (Nat.le_refl _)
  have HB0 := Lib.hid hB0
  have HO0 := Lib.hid hb0
  clear hb0 hg0 hB0
  go_loopw [1, 5] (fun a v wr => ∃ (f m : Nat) (pre : List UInt8), f ≤ 9 ∧ m ≤ u ∧ a = .int .u64 m ∧ m < 128 ^ (f + 1) ∧ pre.length + f = 9 ∧ pre ++ vntF f m = vnt u ∧ Hid (Bts wr w.heap.size v (t ++ pre)) ∧ Hid (Below w.heap.size w wr))
    (fun a _ _ => vI a)
  case atStart => exact ⟨9, u, [], Nat.le_refl _, Nat.le_refl _, rfl, by omega, rfl, rfl, by have := HO0.out; show Bts _ _ _ _; simpa using this, HB0.out⟩
  case round =>
    obtain ⟨f, m, pre, hf, hmu, rfl, hm, hlen, hE, hown, hbel⟩ := hrel
    by_cases hge : 128 ≤ m
    · obtain ⟨f, rfl⟩ : ∃ g, f = g + 1 := by
        cases f with
        | zero => simp at hm; omega
        | succ g => exact ⟨g, rfl⟩
      rw [vntF_high _ _ hge] at hE
      obtain ⟨x, hx⟩ : ∃ x : UInt8, UInt8.ofNat (m % 128 + 128) = x := ⟨_, rfl⟩
      have hxn : ((m % 128 + 128 : Nat) : Int) = (x.toNat : Int) := by rw [← hx, toNat_of (by omega)]
      rw [hx] at hE
      have hw : IntKind.u64.wrap ((m : Int) / 128) = (m : Int) / 128 := by rw [IntKind.wrap_u64]; omega
      have e2 : Hid ((m : Int) % 128 + 128 = (x.toNat : Int)) := by show _ = _; omega
      have HX : Hid (m / 128 < 128 ^ (f + 1)) := by rw [Nat.pow_succ] at hm; exact Nat.div_lt_of_lt_mul (by rw [Nat.mul_comm]; exact hm)
      have HE : Hid (pre ++ x :: vntF f (m / 128) = vnt u) := hE
      clear hx hm hE hxn
      have HH := Lib.hid hown.out
      go_wp2_with (at_builtin; refine wpList_app rfl _ _ rfl w.heap.size _ _ (t ++ pre) [x] rfl rfl (HH.out.on (bel1 _ _)) (bs_one wr x e2.out) (by simp; omega) (by have := hbel.out.size; simp; omega) ?_; intro v1 w1 hb1 hg1)
      have hB1 := (hbel.out.alloc hbel.out.size (.cells #[.int .u8 ((m : Int) % 128 + 128)] 5)).trans ((HH.out.on (bel1 wr (.cells #[.int .u8 ((m : Int) % 128 + 128)] 5))).below hg1 (by have := hbel.out.size; simp; omega))
      clear hg1
      go_roundw
      case rel => exact ⟨f, m / 128, pre ++ [x], by omega, by omega, by go_num, HX.out, by simp; omega, by have := HE.out; simpa using this, by rw [← List.append_assoc]; exact hb1, hB1⟩
      case measure => simp [vI]; omega
    · rw [vntF_low _ _ (by omega)] at hE
      obtain ⟨x, hx⟩ : ∃ x : UInt8, UInt8.ofNat m = x := ⟨_, rfl⟩
      have hb8 : (m : Int) % 256 = m := by omega
      have hxm : Hid ((m : Int) = ((x.toNat : Nat) : Int)) := by show _ = _; rw [← hx, toNat_of (by omega)]
      rw [hx] at hE
      have HE : Hid (pre ++ [x] = vnt u) := hE
      clear hE hm hx
      have HH := Lib.hid hown.out
      go_wp2_with (at_builtin; refine wpList_app rfl _ _ rfl w.heap.size _ _ (t ++ pre) [x] rfl rfl (HH.out.on (bel1 _ _)) (bs_one wr x hxm.out) (by simp; omega) (by have := hbel.out.size; simp; omega) ?_; intro v1 w1 hb1 hg1)
      have hB1 := (hbel.out.alloc hbel.out.size (.cells #[.int .u8 (m : Int)] 5)).trans ((HH.out.on (bel1 wr (.cells #[.int .u8 (m : Int)] 5))).below hg1 (by have := hbel.out.size; simp; omega))
      clear hg1
      go_ret
      exact ⟨_, rfl, by rw [← HE.out, ← List.append_assoc]; exact hb1, hB1⟩
end Go.Proofs.YtnclhjjhobbbjaaDoor
namespace Go.Proofs.YtnclhjjhobbbjaaDoor
open Go.RowKit
set_option linter.unusedVariables false      -- a walk need not use every condition

theorem ret_int {k : IntKind} {a b : Int} (h : a = b) : Ending.returned (.int k a) = .returned (.int k b) := by rw [h]
/-! ### Mathematics -/

theorem gv_snoc : ∀ (l : List UInt8) (c : UInt8), gv (l ++ [c]) = gv l + 128 ^ l.length * (c.toNat % 128)
  | [], c => by simp [gv]
  | d :: l, c => by
    simp only [List.cons_append, gv, List.length_cons, Nat.pow_succ]
    rw [gv_snoc l c, Nat.mul_add, Nat.mul_comm (128 ^ l.length) 128, Nat.mul_assoc]
    omega
theorem gv_less : ∀ (l : List UInt8), gv l < 128 ^ l.length
  | [] => by simp [gv]
  | d :: l => by
    have := gv_less l
    simp only [gv, List.length_cons, Nat.pow_succ]
    have hd := Nat.mod_lt d.toNat (show 128 > 0 by omega)
    omega
theorem gv_app : ∀ (l m : List UInt8), gv l ≤ gv (l ++ m)
  | [], m => by simp [gv]
  | d :: l, m => by
    have := gv_app l m
    simp only [gv, List.cons_append]
    omega
theorem gv_take (l : List UInt8) (k : Nat) : gv (l.take k) ≤ gv l := by
  have := gv_app (l.take k) (l.drop k)
  rwa [List.take_append_drop] at this
theorem gv_step {l : List UInt8} {k : Nat} (hk : k < l.length) : gv (l.take (k + 1)) = gv (l.take k) + 128 ^ k * ((l[k]).toNat % 128) := by
  rw [List.take_succ_eq_append_getElem hk, gv_snoc, List.length_take, Nat.min_eq_left (by omega)]
theorem or_grp (a k : Nat) (c : UInt8) (ha : a < 128 ^ k) (h : a + 128 ^ k * (c.toNat % 128) < 18446744073709551616) :
    bits .or .u64 (a : Int) (IntKind.u64.wrap ((c.toNat : Int) % 128 * 2 ^ (7 * k))) = ((a + 128 ^ k * (c.toNat % 128) : Nat) : Int) := by
  have ep : (2 : Nat) ^ (7 * k) = 128 ^ k := by rw [Nat.pow_mul]
  have e2 : (c.toNat : Int) % 128 * 2 ^ (7 * k) = ((128 ^ k * (c.toNat % 128) : Nat) : Int) := by
    have ei : (2 : Int) ^ (7 * k) = ((128 ^ k : Nat) : Int) := by rw [← ep]; simp
    rw [ei, Int.natCast_mul, Int.mul_comm]
    simp
  rw [e2]
  have ew : IntKind.u64.wrap ((128 ^ k * (c.toNat % 128) : Nat) : Int) = ((128 ^ k * (c.toNat % 128) : Nat) : Int) := by rw [IntKind.wrap_u64]; omega
  rw [ew, bits_or_u64_nat a _ (by omega) (by omega)]
  congr 1
  have := Nat.two_pow_add_eq_or_of_lt (i := 7 * k) (b := a) (by rw [ep]; exact ha) (c.toNat % 128)
  rw [ep] at this
  rw [Nat.or_comm, ← this, Nat.add_comm]
theorem fb_drop {t : List UInt8} {k : Nat} (hk : k < t.length) : fb (t.drop k) = if (t[k]).toNat < 128 then some 0 else (fb (t.drop (k + 1))).map (· + 1) := by
  rw [List.drop_eq_getElem_cons hk]; rfl
/-- Where the first byte below 128 stands, or -1. -/
def fbI (t : List UInt8) : Int := match fb t with | none => -1 | some i => i
theorem map_map (x : Option Nat) (k : Nat) : (x.map (· + 1)).map (· + k) = x.map (· + (k + 1)) := by
  cases x with
  | none => rfl
  | some i => simp; omega

/-! ### The walks -/

theorem below79 (c : UInt8) (w : World) : Calls Tryd.prog 79 #[.int .u8 c.toNat] w fun e w' => e = .returned (.bool (decide ((c.toNat : Int) < 128))) ∧ w' = w := by
  go_enter Tryd.func79, Tryd.ntmps79
  go_wp2
  go_ret
  exact ⟨rfl, rfl⟩
set_option maxHeartbeats 1000000 in
theorem index78 (w : World) (b : Value) (t : List UInt8) (hb : Bs w b t) :
    Calls Tryd.prog 78 #[b, .func (.func 79) #[] #[]] w fun e w' => e = .returned (.int .i64 (fbI t)) ∧ w' = w := by
  obtain ⟨p, cap, rfl, h1, h2, h3, h4⟩ := hb
  unfold maxLen at h2
  go_enter Tryd.func78, Tryd.ntmps78
  go_wp2
  go_loopg [8] t.length (fun g i wr => ∃ k : Nat, g + k = t.length ∧ i = .int .i64 k ∧ Hid (fb t = (fb (t.drop k)).map (· + k)) ∧ wr = w)
  case atStart => exact ⟨0, by omega, rfl, by show _ = _; simp, rfl⟩
  case round =>
    obtain ⟨k, hk, rfl, hsp, rfl⟩ := hrel
    by_cases hlt : k < t.length
    · obtain ⟨g, o, rfl, hc⟩ := h4.resolve_left (by intro e; rw [e] at hlt; simp at hlt)
      have hck := hc k _ (enc_get hlt)
      have hd := fb_drop hlt
      obtain ⟨c, hcc⟩ : ∃ c, Hid (t[k] = c) := ⟨t[k], (rfl : _ = _)⟩
      rw [hcc.out] at hck hd
      have c89 := below79 c
      have i1 : (k : Int) < (t.length : Int) := by omega
      by_cases hc1 : c.toNat < 128
      · rw [if_pos hc1] at hd
        have hE : Hid (fbI t = (k : Int)) := by show fbI t = _; unfold fbI; rw [hsp.out, hd]; simp
        rw [decide_eq_true (by omega)] at c89
        clear hsp hd hc h4 hcc hc1
        go_wp2_with (go_at_call 79; refine (c89 _).mono ?_; rintro e w' ⟨rfl, rfl⟩)
        go_ret
        exact ⟨ret_int hE.out.symm, rfl⟩
      · rw [if_neg hc1] at hd
        have hE : Hid (fb t = (fb (t.drop (k + 1))).map (· + (k + 1))) := by show _ = _; rw [hsp.out, hd, map_map]
        rw [decide_eq_false (by omega)] at c89
        clear hsp hd hc h4 hcc hc1
        go_wp2_with (go_at_call 79; refine (c89 _).mono ?_; rintro e w' ⟨rfl, rfl⟩)
        go_roundg (gk - 1)
        case rel => exact ⟨k + 1, by omega, by go_num, hE, rfl⟩
        case measure => omega
    · obtain rfl : k = t.length := by omega
      have hE : Hid (fbI t = -1) := by show fbI t = _; unfold fbI; rw [hsp.out, List.drop_length]; rfl
      clear hsp h4
      go_wp2
      go_ret
      exact ⟨ret_int hE.out.symm, rfl⟩
set_option maxHeartbeats 1000000 in
theorem inForm80 (w : World) (v : Value) (s : List UInt8) (n : Nat) (c : UInt8) (hb : Bs w v s) (hn : s.length = n + 1) (hc : s[n]'(by omega) = c) :
    Calls Tryd.prog 80 #[v] w fun e w' => e = .returned (.bool (inF (n + 1) c)) ∧ w' = w := by
  obtain ⟨g, o, cap, rfl, h1, h2, hcell⟩ := hb.cells (by intro e; rw [e] at hn; simp at hn)
  have hcn := hcell n (by omega)
  rw [hc] at hcn
  rw [hn] at h1 h2 ⊢
  have hc256 := c.toNat_lt
  clear hcell hb hc
  by_cases h10 : 10 < n + 1
  · have hE : Hid (inF (n + 1) c = false) := by show inF _ _ = _; unfold inF; rw [decide_eq_false (by omega)]; rfl
    rw [hE.out]
    go_enter Tryd.func80, Tryd.ntmps80
    go_wp2
    go_ret
    exact ⟨rfl, rfl⟩
  by_cases h10' : n + 1 = 10
  · have hn9 : n = 9 := by omega
    subst hn9
    by_cases hc1 : 1 < c.toNat
    · have hE : Hid (inF (9 + 1) c = false) := by show inF _ _ = _; unfold inF; rw [decide_eq_false (p := c.toNat ≤ 1) (by omega)]; rfl
      rw [hE.out]
      go_enter Tryd.func80, Tryd.ntmps80
      go_wp2
      go_ret
      exact ⟨rfl, rfl⟩
    · by_cases hc0 : c.toNat = 0
      · have hE : Hid (inF (9 + 1) c = false) := by show inF _ _ = _; unfold inF; rw [decide_eq_false (p := c.toNat ≠ 0) (by omega)]; simp
        rw [hE.out]
        have b1 : ((c.toNat : Int) != 0) = false := by simp; omega
        have b2 : ¬ ((c.toNat : Int) > 1) := by omega
        clear hc0 hc1
        go_enter Tryd.func80, Tryd.ntmps80
        go_wp2
        go_ret
        exact ⟨rfl, rfl⟩
      · have hE : Hid (inF (9 + 1) c = true) := by show inF _ _ = _; unfold inF; rw [decide_eq_true (p := c.toNat ≠ 0) (by omega), decide_eq_true (p := c.toNat ≤ 1) (by omega)]; simp
        rw [hE.out]
        have b1 : ((c.toNat : Int) != 0) = true := by simp; omega
        have b2 : ¬ ((c.toNat : Int) > 1) := by omega
        clear hc0 hc1
        go_enter Tryd.func80, Tryd.ntmps80
        go_wp2
        go_ret
        exact ⟨rfl, rfl⟩
  · have b3 : (((n : Int) + 1) == 10) = false := by simp; omega
    by_cases hc0 : c.toNat = 0
    · have b1 : ((c.toNat : Int) != 0) = false := by simp; omega
      by_cases hn0 : n = 0
      · subst hn0
        have hE : Hid (inF (0 + 1) c = true) := by show inF _ _ = _; unfold inF; simp
        rw [hE.out]
        rw [Nat.add_zero] at hcn
        clear hc0 b3 h10 h10'
        go_enter Tryd.func80, Tryd.ntmps80
        go_wp2
        go_ret
        exact ⟨rfl, rfl⟩
      · have hE : Hid (inF (n + 1) c = false) := by show inF _ _ = _; unfold inF; rw [decide_eq_false (p := c.toNat ≠ 0) (by omega), decide_eq_false (p := n + 1 = 1) (by omega)]; simp
        rw [hE.out]
        have b4 : (((n : Int) + 1) == 1) = false := by simp; omega
        clear hc0
        go_enter Tryd.func80, Tryd.ntmps80
        go_wp2
        go_ret
        exact ⟨rfl, rfl⟩
    · have b1 : ((c.toNat : Int) != 0) = true := by simp; omega
      have hE : Hid (inF (n + 1) c = true) := by show inF _ _ = _; unfold inF; rw [decide_eq_true (p := c.toNat ≠ 0) (by omega), decide_eq_true (p := n + 1 ≠ 10) (by omega), decide_eq_true (p := n + 1 ≤ 10) (by omega)]; simp
      rw [hE.out]
      clear hc0
      go_enter Tryd.func80, Tryd.ntmps80
      go_wp2
      go_ret
      exact ⟨rfl, rfl⟩
theorem ret_three {k k' k'' : IntKind} {a b c d x y : Int} (h : a = b) (h' : c = d) (h'' : x = y) : Ending.returned (.tuple #[.int k a, .int k' c, .int k'' x]) = .returned (.tuple #[.int k b, .int k' d, .int k'' y]) := by rw [h, h', h'']
set_option maxHeartbeats 1000000 in
theorem take_none (w : World) (b : Value) (t : List UInt8) (hb : Bs w b t) (hf : fb t = none) :
    Calls Tryd.prog 65 #[b] w fun e w' => e = .returned (.tuple #[.int .u64 0, .int .i64 0, .int .i64 11]) ∧ w' = w := by
  have c88 := index78 w b t hb
  have hI : fbI t = -1 := by unfold fbI; rw [hf]
  rw [hI] at c88
  obtain ⟨p, cap, rfl, h1, h2⟩ := hb.slice
  clear hI hf hb
  go_enter Tryd.func65, Tryd.ntmps65
  go_wp2_with (go_at_call 78; refine c88.mono ?_; rintro e w' ⟨rfl, rfl⟩)
  go_ret3
  exact ⟨rfl, rfl⟩
set_option maxHeartbeats 1000000 in
theorem take_bad (w : World) (b : Value) (t : List UInt8) (hb : Bs w b t) (i : Nat) (hf : fb t = some i) (hF : inF (i + 1) (t.getD i 0) = false) :
    Calls Tryd.prog 65 #[b] w fun e w' => e = .returned (.tuple #[.int .u64 0, .int .i64 0, .int .i64 12]) ∧ w' = w := by
  have c88 := index78 w b t hb
  have hI : fbI t = i := by unfold fbI; rw [hf]
  have hil := fb_lt hf
  rw [hI] at c88
  obtain ⟨p, cap, rfl, h1, h2⟩ := hb.slice
  have c90 := inForm80 w _ (t.take (i + 1)) i (t.getD i 0) (hb.take (n := i + 1) (by omega)) (by simp; omega) (by simp [hil])
  rw [hF] at c90
  clear hI hf hb hF
  go_enter Tryd.func65, Tryd.ntmps65
  go_wp2_with (first
    | (go_at_call 78; refine c88.mono ?_; rintro e w' ⟨rfl, rfl⟩)
    | (go_at_call 80; refine c90.mono ?_; rintro e w' ⟨rfl, rfl⟩))
  go_ret3
  exact ⟨rfl, rfl⟩
set_option maxHeartbeats 1000000 in
theorem take_ok (w : World) (b : Value) (t : List UInt8) (hb : Bs w b t) (i : Nat) (hf : fb t = some i) (hF : inF (i + 1) (t.getD i 0) = true) (hu : gv (t.take (i + 1)) < 18446744073709551616) :
    Calls Tryd.prog 65 #[b] w fun e w' => e = .returned (.tuple #[.int .u64 (gv (t.take (i + 1))), .int .i64 ((i + 1 : Nat) : Int), .int .i64 0]) ∧ w' = w := by
  have c88 := index78 w b t hb
  have hI : fbI t = i := by unfold fbI; rw [hf]
  have hil := fb_lt hf
  rw [hI] at c88
  obtain ⟨p, cap, rfl, h1, h2⟩ := hb.slice
  have hbs := hb.take (n := i + 1) (by omega)
  have hsl : (t.take (i + 1)).length = i + 1 := by simp; omega
  have c90 := inForm80 w _ (t.take (i + 1)) i (t.getD i 0) hbs (by simp; omega) (by simp [hil])
  rw [hF] at c90
  obtain ⟨g, o, cap', e1, -, -, hcell⟩ := hbs.cells (by intro e; rw [e] at hsl; simp at hsl)
  have hi10 : i + 1 ≤ 10 := by unfold inF at hF; simp only [Bool.and_eq_true, decide_eq_true_eq] at hF; exact hF.1.1
  injection e1 with e1 e2 e3
  subst e1
  clear hI hf hb hF hbs e2 e3
  generalize t.take (i + 1) = s at *
  go_enter Tryd.func65, Tryd.ntmps65
  go_wp2_with (first
    | (go_at_call 78; refine c88.mono ?_; rintro e w' ⟨rfl, rfl⟩)
    | (go_at_call 80; refine c90.mono ?_; rintro e w' ⟨rfl, rfl⟩))
  go_loopg [7, 23] (i + 1) (fun gg a j wr => ∃ (k v : Nat), gg + k = i + 1 ∧ j = .int .i64 k ∧ a = .int .u64 v ∧ Hid (v = gv (s.take k)) ∧ wr = w')
  case atStart => exact ⟨0, 0, by omega, rfl, rfl, (rfl : _ = _), rfl⟩
  case round =>
    obtain ⟨k, v, hk, rfl, rfl, hv, rfl⟩ := hrel
    by_cases hlt : k < i + 1
    · have hck := hcell k (by omega)
      have hst := gv_step (l := s) (k := k) (by omega)
      have hle := gv_take s (k + 1)
      have hal := gv_less (s.take k)
      rw [List.length_take, Nat.min_eq_left (by omega), ← hv.out] at hal
      rw [← hv.out] at hst
      rw [hst] at hle
      obtain ⟨c, hcc⟩ : ∃ c, Hid (s[k]'(by omega) = c) := ⟨s[k]'(by omega), (rfl : _ = _)⟩
      rw [hcc.out] at hck hst hle
      have hc := c.toNat_lt
      have ho := Lib.hid (or_grp v k c hal (by omega))
      have hst' := Lib.hid hst.symm
      clear hst hle hal hcc hcell hv
      go_wp2
      go_roundg (gk - 1)
      case rel => exact ⟨k + 1, v + 128 ^ k * (c.toNat % 128), by omega, by go_num, congrArg (Value.int .u64) ho.out, hst', rfl⟩
      case measure => omega
    · obtain rfl : k = i + 1 := by omega
      have hE : Hid ((v : Int) = (gv s : Int)) := by show _ = _; rw [hv.out, List.take_of_length_le (by omega)]
      clear hv hcell
      go_wp2
      go_ret3
      exact ⟨ret_three hE.out (by go_num) rfl, rfl⟩

end Go.Proofs.YtnclhjjhobbbjaaDoor
namespace Go.Proofs.YtnclhjjhobbbjaaDoor
open Go.RowKit Go.Maps
set_option linter.unusedVariables false      -- a walk need not use every condition

theorem down10 (w : World) (d pb mb : Nat) (s : Dsk) (h : At w d pb mb s) : Calls Tryd.prog 10 #[.pointer (some ⟨d, 0, none⟩)] w fun e w' => e = .returned (.bool s.down) ∧ w' = w := by
  obtain ⟨-, -, c2, -, -, -⟩ := five_of h.blk
  have c := made31 w d pb mb s h
  clear h
  go_enter Tryd.func10, Tryd.ntmps10
  go_wp2_with (first | (go_at_call 31; refine c.mono ?_; rintro e w' ⟨rfl, rfl⟩))
  go_ret
  exact ⟨rfl, rfl⟩
def Dsk.setFuse (s : Dsk) (n : Int) : Int × Dsk := if s.down then (9, s) else if n < 0 then (1, s) else (0, { s with fuse := n })
set_option maxHeartbeats 800000 in
theorem setFuse9 (w : World) (d pb mb : Nat) (s : Dsk) (h : At w d pb mb s) (n : Int) (hn : n ≤ 9223372036854775807) :
    Calls Tryd.prog 9 #[.pointer (some ⟨d, 0, none⟩), .int .i64 n] w fun e w' => e = .returned (.int .i64 (s.setFuse n).1) ∧ At w' d pb mb (s.setFuse n).2 ∧ Kept d pb mb w w' := by
  have c := ready30 w d pb mb s h
  obtain ⟨-, -, -, -, -, fr⟩ := five_of h.blk
  have f3 := fr 3
  have H : Hid (At w d pb mb s) := h
  obtain ⟨-, -, -, c3, -, -⟩ := five_of h.blk
  clear h fr
  unfold Dsk.setFuse
  unfold Dsk.ready at c
  by_cases hd : s.down = true
  · rw [if_pos hd]
    rw [if_pos hd] at c
    clear hd
    go_enter Tryd.func9, Tryd.ntmps9
    go_wp2_with (first | (go_at_call 30; refine c.mono ?_; rintro e w' ⟨rfl, rfl⟩))
    go_ret
    exact ⟨rfl, H.out, Kept.refl _ _ _ _⟩
  · rw [if_neg hd]
    rw [if_neg hd] at c
    clear hd
    by_cases h0 : n < 0
    · rw [if_pos h0]
      go_enter Tryd.func9, Tryd.ntmps9
      go_wp2_with (first | (go_at_call 30; refine c.mono ?_; rintro e w' ⟨rfl, rfl⟩))
      go_ret
      exact ⟨rfl, H.out, Kept.refl _ _ _ _⟩
    · rw [if_neg h0]
      go_enter Tryd.func9, Tryd.ntmps9
      go_wp2_with (first | (go_at_call 30; refine c.mono ?_; rintro e w' ⟨rfl, rfl⟩))
      go_ret
      refine ⟨rfl, ?_, ?_⟩
      · refine H.out.turn ?_ (gr_set w' d 3 _) rfl rfl rfl rfl ⟨by simp; omega, by simp; omega⟩ H.out.cl
        rw [blk_set H.out.blk _]
        rfl
      · exact Kept.grown (gr_set w' d 3 _) (fun k e => by injection e with e; exact .inl e.symm)
end Go.Proofs.YtnclhjjhobbbjaaDoor
