/-
  What Parse of package value does, whatever the text.
-/
import Derived.Test.YtbicodlclmdgaaaGreatDoorRoN
namespace Go.Proofs.YtbicodlclmdgaaaGreatDoor
open Go.RowKit
set_option linter.unusedVariables false      -- a walk need not use every condition

set_option maxHeartbeats 1000000 in
set_option maxRecDepth 20000 in
theorem canGoOn82 (T : ByteArray) (hT : T.size ≤ 1073741824) (w : World) (hv : Ev w) :
    Calls Tryz.prog 82 #[.string T] w fun e w' => ∃ b, e = .returned (.bool b) ∧ Below w.heap.size w w' := by
  have c60 := read60o T hT true w hv
  unfold Rr V.agg at c60
  go_enter Tryz.func82, Tryz.ntmps82
  go_wp2_with (first
    | (go_at_call 60; refine c60.mono ?_; rintro e w2 (⟨v, sl, rfl, hin2, hb2, -⟩ | ⟨q2, hq2, rfl, hb2, -⟩); (try obtain ⟨p2, n2, m2, rfl⟩ := hin2.header))
    | (go_at_call 13; refine (check_any v (.slice p2 n2 m2) _ (V.In.on (bel1 w2 _) (V.In.keep (lo := w.heap.size) (fun _ _ _ hc => hc) (Nat.zero_le _) v _ hin2))).mono ?_; rintro e w3 ⟨rfl, hb3⟩))
  · go_ret
    exact ⟨_, rfl, (hb2.trans ((bel1 w2 _).mono hb2.size)).trans (hb3.mono (by have := hb2.size; simp; omega))⟩
  · go_ret
    exact ⟨_, rfl, hb2.trans ((bel1 w2 _).mono hb2.size)⟩
set_option maxHeartbeats 1000000 in
set_option maxRecDepth 20000 in
theorem closure84 (T : ByteArray) (hT : T.size ≤ 1073741824) (w : World) (hv : Ev w) (g i : Nat) (t : TypeId) (hg : w.heap[g]? = some (.cells #[.string T] t)) (hi : i < T.size) :
    Calls Tryz.prog 84 #[.int .i64 i, .pointer (some ⟨g, 0, none⟩)] w fun e w' => ∃ b, e = .returned (.bool b) ∧ Below w.heap.size w w' := by
  obtain ⟨b0, bf⟩ := one_of hg
  have c82 := canGoOn82 (T.extract 0 (i + 1)) (by simp; omega) w hv
  have j2 : (i : Int) + 1 ≤ (T.size : Int) := by omega
  have j3 : ((i : Int) + 1).toNat = i + 1 := by omega
  have j4 : IntKind.i64.wrap ((i : Int) + 1) = (i : Int) + 1 := by rw [IntKind.wrap_i64]; omega
  go_enter Tryz.func84, Tryz.ntmps84
  go_wp2_with (go_at_call 82; refine c82.mono ?_; rintro e w2 ⟨b, rfl, hb2⟩)
  go_ret
  exact ⟨_, rfl, hb2⟩
set_option maxHeartbeats 1000000 in
set_option maxRecDepth 20000 in
theorem search83 (T : ByteArray) (hT : T.size ≤ 1073741824) (w : World) (hv : Ev w) (g n : Nat) (t : TypeId) (hg : w.heap[g]? = some (.cells #[.string T] t)) (hn : n ≤ T.size) :
    Calls Tryz.prog 83 #[.int .i64 n, .func (.func 84) #[] #[.pointer (some ⟨g, 0, none⟩)]] w fun e w' => ∃ r : Nat, r ≤ n ∧ e = .returned (.int .i64 r) ∧ Below w.heap.size w w' := by
  have hgl := (Array.getElem?_eq_some_iff.1 hg).1
  go_enter Tryz.func83, Tryz.ntmps83
  go_wp2
  go_loopg [5, 6] n (fun kx s5 s6 wr => ∃ (lo hi : Nat), s5 = .int .i64 lo ∧ s6 = .int .i64 hi ∧ lo ≤ hi ∧ hi ≤ n ∧ hi - lo ≤ kx ∧ Hid (Below w.heap.size w wr))
  case atStart => exact ⟨0, n, rfl, rfl, Nat.zero_le _, Nat.le_refl _, by omega, Below.refl _ _⟩
  case round =>
    obtain ⟨lo, hi, rfl, rfl, hlh, hin, hk, hB⟩ := hrel
    by_cases hlt : lo < hi
    · have hc := closure84 T hT wr (hv.on hB.out) g ((lo + hi) / 2) t ((hB.out.block g hgl).trans hg) (by omega)
      rw [show (((lo + hi) / 2 : Nat) : Int) = ((lo : Int) + (hi : Int)) / 2 by omega] at hc
      go_wp2_with (go_at_call 84; refine hc.mono ?_; rintro e w' ⟨b, rfl, hb'⟩; cases b)
      · go_roundg (hi - ((lo + hi) / 2 + 1))
        case measure => omega
        case rel => exact ⟨(lo + hi) / 2 + 1, hi, by rw [show ((lo : Int) + (hi : Int)) / 2 + 1 = (((lo + hi) / 2 + 1 : Nat) : Int) by omega], rfl, by omega, hin, Nat.le_refl _, hB.out.trans (hb'.mono hB.out.size)⟩
      · go_roundg ((lo + hi) / 2 - lo)
        case measure => omega
        case rel => exact ⟨lo, (lo + hi) / 2, rfl, by rw [show ((lo : Int) + (hi : Int)) / 2 = (((lo + hi) / 2 : Nat) : Int) by omega], by omega, by omega, Nat.le_refl _, hB.out.trans (hb'.mono hB.out.size)⟩
    · obtain rfl : hi = lo := by omega
      go_wp2
      go_ret
      exact ⟨hi, hin, rfl, hB.out⟩
set_option maxHeartbeats 1000000 in
set_option maxRecDepth 20000 in
theorem firstWrong61 (T : ByteArray) (hT : T.size ≤ 1073741824) (w : World) (hv : Ev w) (n : Nat) (hn : n ≤ T.size) :
    Calls Tryz.prog 61 #[.string T, .int .i64 n] w fun e w' => ∃ r : Nat, r ≤ T.size ∧ e = .returned (.int .i64 r) ∧ Below w.heap.size w w' := by
  have hmf : ∀ (fn : Fn) (first cap : Array Value) (w : World), (Instr.makeFunc fn first cap).run Tryz.prog w = .ok (.func fn first cap) w := fun _ _ _ _ => rfl
  have hb1 := bel1 w (.cells #[.string T] 9)
  have k1 := blk_new w (.cells #[.string T] 9)
  have c82 := canGoOn82 (T.extract 0 n) (by simp; omega) (w.alloc (.cells #[.string T] 9)) (hv.on hb1)
  have j2 : (n : Int) ≤ (T.size : Int) := by omega
  go_enter Tryz.func61, Tryz.ntmps61
  go_wp2_with (first
    | (go_at_call 82; refine c82.mono ?_; rintro e w2 ⟨b, rfl, hb2⟩; cases b)
    | (go_at_call 83; refine (search83 T hT _ ((hv.on hb1).on hb2) w.heap.size n 9 (blk_on hb2 k1) hn).mono ?_; rintro e w3 ⟨r, hr, rfl, hb3⟩))
  · go_ret
    exact ⟨r, by omega, rfl, (hb1.trans (hb2.mono (by simp))).trans (hb3.mono (by have := hb2.size; simp at this; omega))⟩
  · go_ret
    exact ⟨n, hn, rfl, hb1.trans (hb2.mono (by simp))⟩

/-- What Parse comes to. -/
def Pz (T : ByteArray) (w : World) (e : Ending) (w' : World) : Prop :=
  Below w.heap.size w w' ∧
  ((∃ (v : V) (sl : Value), e = .returned (.tuple #[v.agg sl, .int .i64 0, .int .i64 0]) ∧ v.In w' w.heap.size sl ∧ Hid (pVal 8 (rest T 0) = some (v, []) ∧ v.may 1 = true)) ∨
    (∃ (q : Nat) (E : Int), q ≤ T.size ∧ E ≠ 0 ∧ e = .returned (.tuple #[.agg #[.int .i64 0, .int .i64 0, .string ⟨#[]⟩, .slice none 0 0], .int .i64 q, .int .i64 E]) ∧ Hid (∀ v, pVal 8 (rest T 0) = some (v, []) → v.may 1 = false)))
set_option maxHeartbeats 2000000 in
set_option maxRecDepth 20000 in
theorem parse40o (T : ByteArray) (hT : T.size ≤ 1073741824) (w : World) (hv : Ev w) :
    Calls Tryz.prog 40 #[.string T] w (Pz T w) := by
  have k0 := blk_new w (.cells #[.int .i64 0, .int .i64 0, .string ⟨#[]⟩, .slice none 0 0] 24)
  have hbw := bel1 w (.cells #[.int .i64 0, .int .i64 0, .string ⟨#[]⟩, .slice none 0 0] 24)
  have hsz : (w.alloc (.cells #[.int .i64 0, .int .i64 0, .string ⟨#[]⟩, .slice none 0 0] 24)).heap.size = w.heap.size + 1 := by simp
  have c60 := read60o T hT false (w.alloc (.cells #[.int .i64 0, .int .i64 0, .string ⟨#[]⟩, .slice none 0 0] 24)) (hv.on hbw)
  have c61 := fun w hv n hn => firstWrong61 T hT w hv n hn
  unfold Rr V.agg at c60
  go_enter Tryz.func40, Tryz.ntmps40
  go_wp2_with (go_at_call 60; refine c60.mono ?_; rintro e w2 (⟨v, sl, rfl, hin2, hb2, hs2⟩ | ⟨q2, hq2, rfl, hb2, hs2⟩); (try obtain ⟨p2, n2, m2, rfl⟩ := hin2.header))
  · rw [hsz] at hin2 hb2
    have hs2' := hb2.size
    have k2 := (hb2.block w.heap.size (by omega)).trans k0
    have hin0 : v.In (w2.alloc (.cells #[.int .i64 v.k, .int .i64 v.n, .string v.s, .slice p2 n2 m2] 24)) 0 (.slice p2 n2 m2) := V.In.on (bel1 w2 _) (V.In.keep (lo := w.heap.size + 1) (fun _ _ _ hc => hc) (Nat.zero_le _) v _ hin2)
    have c13 := check_any v (.slice p2 n2 m2) _ hin0
    unfold V.err V.agg at c13
    cases hm : v.may 1 with
    | true =>
      rw [hm] at c13
      simp only [if_true] at c13
      have hspec : Hid (pVal 8 (rest T 0) = some (v, []) ∧ v.may 1 = true) := ⟨hs2.out trivial, hm⟩
      clear hs2 hm c60 c61
      go_wp2_with (go_at_call 13; refine c13.mono ?_; rintro e w3 ⟨rfl, hb3⟩; obtain ⟨x0, x1, x2, x3, xf⟩ := four_of (blk_on hb3 (blk_new w2 _)); obtain ⟨y0, y1, y2, y3, yf⟩ := four_of (blk_on hb3 (blk_old k2)))
      have hin3 := (hin2.on (bel1 w2 _)).on hb3
      have hin5 := V.In.keep (lo := w.heap.size + 1) (lo' := w.heap.size) (w' := put4 w3 w.heap.size 0 (.int .i64 v.k) (.int .i64 v.n) (.string v.s) (.slice p2 n2 m2)) (fun a u ha hc => set_other (set_other (set_other (set_other hc (.inl (by omega))) (.inl (by omega))) (.inl (by omega))) (.inl (by omega))) (by omega) v _ hin3
      have hfin : Below w.heap.size w (put4 w3 w.heap.size 0 (.int .i64 v.k) (.int .i64 v.n) (.string v.s) (.slice p2 n2 m2)) := (((hbw.trans (hb2.mono (by omega))).alloc (by omega) _).trans (hb3.mono (by simp; omega))).trans (below_put4 (Nat.le_refl _) _ _ _ _)
      unfold put4 at hin5 hfin
      simp [bodyPost, results, Tryz.results40, go_sem, y0, y1, y2, y3]
      exact ⟨hfin, .inl ⟨v, _, rfl, hin5, hspec⟩⟩
    | false =>
      rw [hm] at c13
      simp only [Bool.false_eq_true, if_false] at c13
      have hspec : Hid (∀ u, pVal 8 (rest T 0) = some (u, []) → u.may 1 = false) := fun u hu => by
        rw [hs2.out trivial] at hu
        injection hu with hu; injection hu with hu
        rw [← hu]; exact hm
      clear hs2 hm c60 c61
      go_wp2_with (go_at_call 13; refine c13.mono ?_; rintro e w3 ⟨rfl, hb3⟩; obtain ⟨x0, x1, x2, x3, xf⟩ := four_of (blk_on hb3 (blk_new w2 _)); obtain ⟨y0, y1, y2, y3, yf⟩ := four_of (blk_on hb3 (blk_old k2)))
      have hfin : Below w.heap.size w (put4 w3 w.heap.size 0 (.int .i64 0) (.int .i64 0) (.string ⟨#[]⟩) (.slice none 0 0)) := (((hbw.trans (hb2.mono (by omega))).alloc (by omega) _).trans (hb3.mono (by simp; omega))).trans (below_put4 (Nat.le_refl _) _ _ _ _)
      unfold put4 at hfin
      simp [bodyPost, results, Tryz.results40, go_sem, y0, y1, y2, y3]
      exact ⟨hfin, .inr ⟨0, 20, Nat.zero_le _, by omega, rfl, hspec⟩⟩
  · rw [hsz] at hb2
    have hs2' := hb2.size
    have k2 := (hb2.block w.heap.size (by omega)).trans k0
    have hspec : Hid (∀ u, pVal 8 (rest T 0) = some (u, []) → u.may 1 = false) := fun u hu => absurd hu (hs2.out trivial u)
    have hB2 := hbw.trans (hb2.mono (by omega))
    have hB3 := hB2.alloc (by omega) (.cells #[.int .i64 0, .int .i64 0, .string ⟨#[]⟩, .slice none 0 0] 24)
    have c61' := c61 (w2.alloc (.cells #[.int .i64 0, .int .i64 0, .string ⟨#[]⟩, .slice none 0 0] 24)) (hv.on hB3) q2 hq2
    clear hs2 c60 c61
    go_wp2_with (go_at_call 61; refine c61'.mono ?_; rintro e w3 ⟨q3, hq3, rfl, hb3⟩; obtain ⟨y0, y1, y2, y3, yf⟩ := four_of (blk_on hb3 (blk_old k2)))
    have hfin : Below w.heap.size w (put4 w3 w.heap.size 0 (.int .i64 0) (.int .i64 0) (.string ⟨#[]⟩) (.slice none 0 0)) := (hB3.trans (hb3.mono (by simp; omega))).trans (below_put4 (Nat.le_refl _) _ _ _ _)
    unfold put4 at hfin
    simp [bodyPost, results, Tryz.results40, go_sem, y0, y1, y2, y3]
    exact ⟨hfin, .inr ⟨q3, 22, hq3, by omega, rfl, hspec⟩⟩
end Go.Proofs.YtbicodlclmdgaaaGreatDoor
