/-
  putForms, putFirst, Key, Out, In, Label of package keys; how values are made.
-/
import Derived.Test.YtbgikgeknnmelaaGreatAbs
import Derived.Test.YtbgikgeknnmelaaGreatKy
namespace Go.Proofs.YtbgikgeknnmelaaGreat
open Go.RowKit
set_option linter.unusedVariables false      -- a walk need not use every condition

set_option maxHeartbeats 400000 in
theorem str61 (s : ByteArray) (w : World) : Calls Tryz.prog 61 #[.string s] w fun e w' => e = .returned (.agg #[.int .i64 2, .int .i64 0, .string s, .slice none 0 0]) ∧ Below w.heap.size w w' := by
  go_enter Tryz.func61, Tryz.ntmps61
  go_wp2
  simp [bodyPost, results, Tryz.results61, go_sem]
  exact bel1 w _
set_option maxHeartbeats 400000 in
theorem vertex41 (n : Int) (w : World) : Calls Tryz.prog 41 #[.int .i64 n] w fun e w' => e = .returned (.agg #[.int .i64 6, .int .i64 n, .string ⟨#[]⟩, .slice none 0 0]) ∧ Below w.heap.size w w' := by
  go_enter Tryz.func41, Tryz.ntmps41
  go_wp2
  simp [bodyPost, results, Tryz.results41, go_sem]
  exact bel1 w _
set_option maxHeartbeats 400000 in
theorem edge49 (n : Int) (w : World) : Calls Tryz.prog 49 #[.int .i64 n] w fun e w' => e = .returned (.agg #[.int .i64 7, .int .i64 n, .string ⟨#[]⟩, .slice none 0 0]) ∧ Below w.heap.size w w' := by
  go_enter Tryz.func49, Tryz.ntmps49
  go_wp2
  simp [bodyPost, results, Tryz.results49, go_sem]
  exact bel1 w _
/-- What a call that makes bytes of one's own comes to. -/
def AppR (w0 : World) (t : List UInt8) (e : Ending) (w' : World) : Prop := ∃ b', e = .returned b' ∧ Bts w' w0.heap.size b' t ∧ Below w0.heap.size w0 w'
theorem sl_one (W : World) (v : V) (sl : Value) (h : v.In W 0 sl) : Sl (W.alloc (.cells #[.int .i64 v.k, .int .i64 v.n, .string v.s, sl] 29)) 0 [v] (.slice (some ⟨W.heap.size, 0, none⟩) 1 1) := by
  refine ⟨_, 1, rfl, Nat.le_refl _, by unfold maxLen; omega, by simp, .inr ⟨W.heap.size, 0, rfl, Nat.zero_le _, ?_⟩⟩
  have hc := cells_new W [.int .i64 v.k, .int .i64 v.n, .string v.s, sl] 29
  simp only [Go.WideShapes.add_plain, Nat.zero_add] at hc
  simp only [Ls]
  exact ⟨_, hc 0 _ rfl, hc 1 _ rfl, hc 2 _ rfl, hc 3 _ rfl, h.on (bel1 W _), trivial⟩
theorem keyL_one (v : V) : (keyL [v]).length ≤ 9 * v.many := by have := keyL_len [v]; simpa [manyL] using this
/-- Key of one value. -/
theorem keyOne76 (v : V) (sl : Value) (W : World) (g : Nat) (hg : W.heap.size = g) (h : v.In W 0 sl) (hm : v.many ≤ 1048576) :
    Calls Tryz.prog 76 #[.slice (some ⟨g, 0, none⟩) 1 1] (W.alloc (.cells #[.int .i64 v.k, .int .i64 v.n, .string v.s, sl] 29)) fun e w' => ∃ b n, e = .returned (.tuple #[b, .int .i64 n]) ∧ Bts w' W.heap.size b (kq v) ∧ Below W.heap.size W w' := by
  subst hg
  have hk := keyL_one v
  refine (key76 [v] _ _ (sl_one W v sl h) (by omega)).mono ?_
  rintro e w' ⟨b, rfl, hb, hB⟩
  exact ⟨b, _, rfl, hb.mono (by simp), bel_then (bel1 W _) hB⟩
/-- What is no row of bytes is kept. -/
def KT (w w' : World) : Prop := ∀ (g : Nat) (cs : Array Value) (ty : TypeId), ty ≠ 5 → w.heap[g]? = some (.cells cs ty) → w'.heap[g]? = some (.cells cs ty)
theorem KT.refl (w : World) : KT w w := fun _ _ _ _ h => h
theorem KT.trans {a b c : World} (h : KT a b) (k : KT b c) : KT a c := fun g cs ty h5 e => k g cs ty h5 (h g cs ty h5 e)
theorem kt_bel {w w' : World} (h : Below w.heap.size w w') : KT w w' := fun g cs ty _ e => blk_on h e
theorem kt_gr {w w' : World} {base : Nat} {v : Value} {t : List UInt8} (h : Bts w base v t) (hgr : w.grownBy w' v.ownBlock) : KT w w' := fun g cs ty hty hg => by
  refine (hgr.block g (Array.getElem?_eq_some_iff.1 hg).1 ?_).trans hg
  unfold Bts at h
  rcases h.2 with ⟨rfl, -⟩ | ⟨g', cap, cur, rfl, -, hg', -⟩
  · intro e; cases e
  · intro e
    simp only [Value.ownBlock, Option.some.injEq] at e
    subst e
    rw [hg] at hg'
    simp at hg'
    exact hty hg'.2
set_option maxHeartbeats 1000000 in
set_option maxRecDepth 20000 in
theorem putFormsK51 (v : V) (sl : Value) (w0 w : World) (b : Value) (t0 : List UInt8) (g : Nat) (hin : v.In w0 0 sl) (hm : v.many ≤ 1048576) (hg : w.heap[g]? = some (.cells #[.int .i64 v.k, .int .i64 v.n, .string v.s, sl] 29))
    (hB : Below w0.heap.size w0 w) (hb : Bts w w0.heap.size b t0) (ht : t0.length + 300 ≤ 140737488355328) :
    Calls Tryz.prog 51 #[b, .slice (some ⟨g, 0, none⟩) 1 1] w fun e w' => AppR w0 (t0 ++ kq v) e w' ∧ KT w w' := by
  obtain ⟨p1, n1, q1, rfl⟩ := hin.header
  have c76 := fun W g hg (h : Below w0.heap.size w0 W) => keyOne76 v _ W g hg (hin.on h) hm
  have hl := kq_len v
  generalize kq v = K at *
  obtain ⟨x0, x1, x2, x3, xf⟩ := four_of hg
  have hb1 := blk_new w (.cells #[.int .i64 v.k, .int .i64 v.n, .string v.s, .slice p1 n1 q1] 29)
  have hBa := hB.trans ((bel1 w (.cells #[.int .i64 v.k, .int .i64 v.n, .string v.s, .slice p1 n1 q1] 29)).mono hB.size)
  have hba := World.ownsRow.alloc hb (.cells #[.int .i64 v.k, .int .i64 v.n, .string v.s, .slice p1 n1 q1] 29)
  go_enter Tryz.func51, Tryz.ntmps51
  go_wp2
  go_loopg [0, 11] 1 (fun c u i wr => (c = 1 ∧ i = .int .i64 0 ∧ b = u ∧ w = wr) ∨ (c = 0 ∧ i = .int .i64 1 ∧ Hid (Bts wr w0.heap.size u (t0 ++ K)) ∧ Hid (Below w0.heap.size w0 wr) ∧ Hid (KT w wr)))
  case atStart => exact .inl ⟨rfl, rfl, rfl, rfl⟩
  case round =>
    rcases hrel with ⟨rfl, rfl, rfl, rfl⟩ | ⟨rfl, rfl, hbr, hBr, hKr⟩
    · go_wp2_with (first
        | (go_at_call 76; go_loud (refine (c76 _ _ (by simp) hBa).mono ?_; rintro e w1 ⟨b1, n2, rfl, hb2, hB2⟩; have hB3 := hBa.trans (hB2.mono hBa.size); have hO : Bts w1 w0.heap.size b t0 := own_bel hba hB2; have hbs := hb2.bs; have HK := Lib.hid ((kt_bel (bel1 w _)).trans (kt_bel hB2))))
        | (at_builtin; refine wpList_app_bs _ rfl _ _ rfl w0.heap.size _ t0 rfl hO _ K rfl hbs (by omega) hB3.size ?_; intro v3 w3 hb3 hg3; have hB4 := below_app hB3 hO hg3; have HK2 := Lib.hid (HK.out.trans (kt_gr hO hg3)); clear hg3))
      go_roundg 0
      case rel => exact .inr ⟨rfl, rfl, hb3, hB4, HK2⟩
      case measure => omega
    · go_wp2
      go_ret
      exact ⟨⟨_, rfl, hbr.out, hBr.out⟩, hKr.out⟩
theorem putForms51 (v : V) (sl : Value) (w0 w : World) (b : Value) (t0 : List UInt8) (g : Nat) (hin : v.In w0 0 sl) (hm : v.many ≤ 1048576) (hg : w.heap[g]? = some (.cells #[.int .i64 v.k, .int .i64 v.n, .string v.s, sl] 29))
    (hB : Below w0.heap.size w0 w) (hb : Bts w w0.heap.size b t0) (ht : t0.length + 300 ≤ 140737488355328) :
    Calls Tryz.prog 51 #[b, .slice (some ⟨g, 0, none⟩) 1 1] w (AppR w0 (t0 ++ kq v)) := (putFormsK51 v sl w0 w b t0 g hin hm hg hB hb ht).mono fun _ _ h => h.1
end Go.Proofs.YtbgikgeknnmelaaGreat
