/-
  What slices.SortFunc does with pairs of values, by their keys.
-/
import Derived.Test.YtbicodlclmdgaaaGreatDoorCmp
import Derived.Test.YtbicodlclmdgaaaGreatDoorShelf
namespace Go.Proofs.YtbicodlclmdgaaaGreatDoor
open Go.RowKit Go.Shelf Go.Lib Go.Sort

/-- A key and its value, which lie in a world. -/
def Pr (w0 : World) := { x : (V × Value) × (V × Value) // x.1.1.In w0 0 x.1.2 ∧ x.2.1.In w0 0 x.2.2 }
theorem zero_in (w : World) (lo : Nat) : (V.mk 0 0 ⟨#[]⟩ []).In w lo (.slice none 0 0) := by
  rw [V.in_iff]
  exact ⟨by unfold I64; decide, by unfold I64; decide, by decide, none, 0, rfl, by simp [V.l], by decide, by simp [V.l], Or.inl rfl⟩
instance (w0 : World) : Inhabited (Pr w0) := ⟨⟨((.mk 0 0 ⟨#[]⟩ [], .slice none 0 0), (.mk 0 0 ⟨#[]⟩ [], .slice none 0 0)), zero_in w0 0, zero_in w0 0⟩⟩
def encP {w0 : World} (x : Pr w0) : List Value :=
  [.int .i64 x.1.1.1.k, .int .i64 x.1.1.1.n, .string x.1.1.1.s, x.1.1.2, .int .i64 x.1.2.1.k, .int .i64 x.1.2.1.n, .string x.1.2.1.s, x.1.2.2]
def keyCmp {w0 : World} (x y : Pr w0) : Int := x.1.1.1.cmp y.1.1.1

theorem lt_key {w0 : World} (x y : Pr w0) : ltOf keyCmp x y = decide (V.cmp x.1.1.1 y.1.1.1 < 0) := rfl
theorem swo_key (w0 : World) : SWO (ltOf (keyCmp (w0 := w0))) where
  irrefl x := by rw [lt_key, cmp_self]; rfl
  trans x y z h1 h2 := by
    rw [lt_key] at *
    have h1' := of_decide_eq_true h1
    have h2' := of_decide_eq_true h2
    have t := tri_cmp x.1.1.1 y.1.1.1 z.1.1.1 (by omega) (by omega)
    refine decide_eq_true ?_
    by_cases h : V.cmp x.1.1.1 z.1.1.1 = 0
    · have := t.2 h; omega
    · omega
  ntrans x y z h1 h2 := by
    rw [lt_key] at *
    have h1' := of_decide_eq_false h1
    have h2' := of_decide_eq_false h2
    have a1 := anti_cmp x.1.1.1 y.1.1.1
    have a2 := anti_cmp y.1.1.1 z.1.1.1
    have a3 := anti_cmp x.1.1.1 z.1.1.1
    have t := tri_cmp z.1.1.1 y.1.1.1 x.1.1.1 (by omega) (by omega)
    refine decide_eq_false ?_
    omega

set_option maxHeartbeats 1000000 in
theorem key65 (k v k' v' : V) (sk sv sk' sv' : Value) (W : World) (hk : k.In W 0 sk) (hk' : k'.In W 0 sk') :
    Calls Tryz.prog 65 #[.agg #[.int .i64 k.k, .int .i64 k.n, .string k.s, sk, .int .i64 v.k, .int .i64 v.n, .string v.s, sv], .agg #[.int .i64 k'.k, .int .i64 k'.n, .string k'.s, sk', .int .i64 v'.k, .int .i64 v'.n, .string v'.s, sv']] W
      fun e w' => e = .returned (.int .i64 (k.cmp k')) ∧ Gr W w' := by
  have c28 := fun w => cmpGr_any k k' sk sk' w
  unfold V.agg at c28
  obtain ⟨p1, n1, q1, rfl⟩ := hk.header
  obtain ⟨p2, n2, q2, rfl⟩ := hk'.header
  go_enter Tryz.func65, Tryz.ntmps65
  go_wp2_with (go_at_call 28; refine (c28 _ (hk.on (gr2 W _ _).bel) (hk'.on (gr2 W _ _).bel)).mono ?_; rintro e w1 ⟨rfl, hb1⟩)
  go_ret
  exact ⟨rfl, (gr2 W _ _).then hb1⟩

theorem below_sortK {α : Type} [Inhabited α] (enc : α → List Value) (k : Nat) (w : World) (blk off m : Nat) (dk : Array α) (os : Array Obj) (B : Nat) (hB : B ≤ blk) (hs : B ≤ w.heap.size) :
    Below B w (sortWorldK enc k w blk off m dk os) := by
  refine ⟨rfl, rfl, rfl, size_sortWorldK_c enc k w blk off m dk os, fun j hj => ?_⟩
  show (w.heap.modify blk _ ++ os)[j]? = _
  rw [Array.getElem?_append_left (by simp; omega), Array.getElem?_modify, if_neg (by omega)]

theorem sort_pairs {w0 : World} (w : World) (hB : Below w0.heap.size w0 w) (blk off cap : Nat) (hb : w0.heap.size ≤ blk) (hblk : blk < w.heap.size) (d : Array (Pr w0)) (hH : HoldsK encP 8 w blk off d) (hsz : d.size < 4611686018427387904) :
    Calls Tryz.prog 64 #[.slice (some ⟨blk, off, none⟩) d.size cap, .func (.func 65) #[] #[]] w fun e w' =>
      e = .returned (.tuple #[]) ∧ ∃ d' n os, PermIn 0 d.size d d' ∧ SortedIn (ltOf keyCmp) 0 d.size d' ∧ w' = sortWorldK encP 8 w blk off n d' os :=
  AnyQ.slices_SortFunc sort64 8 Tryz.isAgg51 Tryz.sizeOf51 encP (fun _ => rfl) (fun x v hv => by
      obtain ⟨p1, n1, q1, e1⟩ := x.2.1.header
      obtain ⟨p2, n2, q2, e2⟩ := x.2.2.header
      simp only [encP, e1, e2, List.mem_cons, List.not_mem_nil, or_false] at hv
      rcases hv with rfl | rfl | rfl | rfl | rfl | rfl | rfl | rfl <;> rfl)
    keyCmp (swo_key w0) 65 #[] blk off cap d w (enters_of Tryz.func65 (by kernel_rfl) rfl)
    (fun m os dk _ x y => key65 x.1.1.1 x.1.2.1 y.1.1.1 y.1.2.1 x.1.1.2 x.1.2.2 y.1.1.2 y.1.2.2 _
      (x.2.1.on (hB.trans (below_sortK encP 8 w blk off m dk os _ hb hB.size))) (y.2.1.on (hB.trans (below_sortK encP 8 w blk off m dk os _ hb hB.size))))
    hH hblk hsz
end Go.Proofs.YtbicodlclmdgaaaGreatDoor
