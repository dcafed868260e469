/-
  indexes of package keys.
-/
import Derived.Test.YtbgikgeknnmelaaGreatEnr
import Derived.Deep.RegionHeld3
import Derived.Deep.CutRange
namespace Go.Proofs.YtbgikgeknnmelaaGreat
open Go.RowKit
set_option linter.unusedVariables false      -- a walk need not use every condition

theorem bts_hdr {w : World} {base : Nat} {v : Value} {t : List UInt8} (h : Bts w base v t) : ∃ p n c, v = .slice p n c := by obtain ⟨p, c, rfl, -⟩ := h.bs.slice; exact ⟨_, _, _, rfl⟩
theorem blk_new' (W : World) (o : Obj) (g : Nat) (hg : W.heap.size = g) : (W.alloc o).heap[g]? = some o := by subst hg; exact blk_new W o
theorem ss_at {W : World} {g : Nat} {s : ByteArray} (hs : s.size ≤ 1048570) (h : W.heap[g]? = some (.cells #[.string s] 9)) : Ss W (.slice (some ⟨g, 0, none⟩) 1 1) [s] := by
  refine ⟨_, 1, rfl, Nat.le_refl _, by unfold maxLen; omega, by simpa using hs, .inr ⟨g, 0, rfl, fun i hi => ?_⟩⟩
  obtain rfl : i = 0 := by simpa using hi
  exact (one_of h).1
theorem four_S {u : World} {g : Nat} {a b c d : Value} {t : TypeId} (e : u.heap[g]? = some (.cells #[a, b, c, d] t)) : u.cell? ⟨g, 0, none⟩ = some a ∧ u.cell? ⟨g, 1, none⟩ = some b ∧ u.cell? ⟨g, 2, none⟩ = some c ∧ u.cell? ⟨g, 3, none⟩ = some d :=
  let ⟨h0, h1, h2, h3, _⟩ := four_of e; ⟨h0, h1, h2, h3⟩
theorem S_on {u u' : World} (hb : Below u.heap.size u u') {g : Nat} {a b c d : Value} (h : u.cell? ⟨g, 0, none⟩ = some a ∧ u.cell? ⟨g, 1, none⟩ = some b ∧ u.cell? ⟨g, 2, none⟩ = some c ∧ u.cell? ⟨g, 3, none⟩ = some d) : u'.cell? ⟨g, 0, none⟩ = some a ∧ u'.cell? ⟨g, 1, none⟩ = some b ∧ u'.cell? ⟨g, 2, none⟩ = some c ∧ u'.cell? ⟨g, 3, none⟩ = some d :=
  ⟨some_on hb h.1, some_on hb h.2.1, some_on hb h.2.2.1, some_on hb h.2.2.2⟩
theorem S_dr {u : World} {g : Nat} {a b c d : Value} (h : u.cell? ⟨g, 0, none⟩ = some a ∧ u.cell? ⟨g, 1, none⟩ = some b ∧ u.cell? ⟨g, 2, none⟩ = some c ∧ u.cell? ⟨g, 3, none⟩ = some d) : u.drew.cell? ⟨g, 0, none⟩ = some a ∧ u.drew.cell? ⟨g, 1, none⟩ = some b ∧ u.drew.cell? ⟨g, 2, none⟩ = some c ∧ u.drew.cell? ⟨g, 3, none⟩ = some d := h
theorem S_al {u : World} (o : Obj) {g : Nat} {a b c d : Value} (h : u.cell? ⟨g, 0, none⟩ = some a ∧ u.cell? ⟨g, 1, none⟩ = some b ∧ u.cell? ⟨g, 2, none⟩ = some c ∧ u.cell? ⟨g, 3, none⟩ = some d) : (u.alloc o).cell? ⟨g, 0, none⟩ = some a ∧ (u.alloc o).cell? ⟨g, 1, none⟩ = some b ∧ (u.alloc o).cell? ⟨g, 2, none⟩ = some c ∧ (u.alloc o).cell? ⟨g, 3, none⟩ = some d := S_on (bel1 u o) h
theorem nine_S {u : World} {A B : Nat} {a b c d p q r s t : Value} {ty ty' : TypeId} (hA : u.heap[A]? = some (.cells #[a, b, c, d] ty)) (hB : u.heap[B]? = some (.cells #[p, q, r, s, t] ty')) : u.cell? ⟨A, 0, none⟩ = some a ∧ u.cell? ⟨A, 1, none⟩ = some b ∧ u.cell? ⟨A, 2, none⟩ = some c ∧ u.cell? ⟨A, 3, none⟩ = some d ∧ u.cell? ⟨B, 0, none⟩ = some p ∧ u.cell? ⟨B, 1, none⟩ = some q ∧ u.cell? ⟨B, 2, none⟩ = some r ∧ u.cell? ⟨B, 3, none⟩ = some s ∧ u.cell? ⟨B, 4, none⟩ = some t :=
  let ⟨h0, h1, h2, h3, _⟩ := four_of hA; let ⟨k0, k1, k2, k3, k4, _⟩ := five_of hB; ⟨h0, h1, h2, h3, k0, k1, k2, k3, k4⟩
theorem nine_dr {u : World} {A B : Nat} {a b c d p q r s t : Value} (h : u.cell? ⟨A, 0, none⟩ = some a ∧ u.cell? ⟨A, 1, none⟩ = some b ∧ u.cell? ⟨A, 2, none⟩ = some c ∧ u.cell? ⟨A, 3, none⟩ = some d ∧ u.cell? ⟨B, 0, none⟩ = some p ∧ u.cell? ⟨B, 1, none⟩ = some q ∧ u.cell? ⟨B, 2, none⟩ = some r ∧ u.cell? ⟨B, 3, none⟩ = some s ∧ u.cell? ⟨B, 4, none⟩ = some t) : u.drew.cell? ⟨A, 0, none⟩ = some a ∧ u.drew.cell? ⟨A, 1, none⟩ = some b ∧ u.drew.cell? ⟨A, 2, none⟩ = some c ∧ u.drew.cell? ⟨A, 3, none⟩ = some d ∧ u.drew.cell? ⟨B, 0, none⟩ = some p ∧ u.drew.cell? ⟨B, 1, none⟩ = some q ∧ u.drew.cell? ⟨B, 2, none⟩ = some r ∧ u.drew.cell? ⟨B, 3, none⟩ = some s ∧ u.drew.cell? ⟨B, 4, none⟩ = some t := h
theorem nine_al {u : World} (o : Obj) {A B : Nat} {a b c d p q r s t : Value} (h : u.cell? ⟨A, 0, none⟩ = some a ∧ u.cell? ⟨A, 1, none⟩ = some b ∧ u.cell? ⟨A, 2, none⟩ = some c ∧ u.cell? ⟨A, 3, none⟩ = some d ∧ u.cell? ⟨B, 0, none⟩ = some p ∧ u.cell? ⟨B, 1, none⟩ = some q ∧ u.cell? ⟨B, 2, none⟩ = some r ∧ u.cell? ⟨B, 3, none⟩ = some s ∧ u.cell? ⟨B, 4, none⟩ = some t) : (u.alloc o).cell? ⟨A, 0, none⟩ = some a ∧ (u.alloc o).cell? ⟨A, 1, none⟩ = some b ∧ (u.alloc o).cell? ⟨A, 2, none⟩ = some c ∧ (u.alloc o).cell? ⟨A, 3, none⟩ = some d ∧ (u.alloc o).cell? ⟨B, 0, none⟩ = some p ∧ (u.alloc o).cell? ⟨B, 1, none⟩ = some q ∧ (u.alloc o).cell? ⟨B, 2, none⟩ = some r ∧ (u.alloc o).cell? ⟨B, 3, none⟩ = some s ∧ (u.alloc o).cell? ⟨B, 4, none⟩ = some t :=
  let ⟨h0, h1, h2, h3, k0, k1, k2, k3, k4⟩ := h; ⟨some_on (bel1 u o) h0, some_on (bel1 u o) h1, some_on (bel1 u o) h2, some_on (bel1 u o) h3, some_on (bel1 u o) k0, some_on (bel1 u o) k1, some_on (bel1 u o) k2, some_on (bel1 u o) k3, some_on (bel1 u o) k4⟩
theorem nine_bel {u u' : World} (hb : Below u.heap.size u u') {A B : Nat} {a b c d p q r s t : Value} (h : u.cell? ⟨A, 0, none⟩ = some a ∧ u.cell? ⟨A, 1, none⟩ = some b ∧ u.cell? ⟨A, 2, none⟩ = some c ∧ u.cell? ⟨A, 3, none⟩ = some d ∧ u.cell? ⟨B, 0, none⟩ = some p ∧ u.cell? ⟨B, 1, none⟩ = some q ∧ u.cell? ⟨B, 2, none⟩ = some r ∧ u.cell? ⟨B, 3, none⟩ = some s ∧ u.cell? ⟨B, 4, none⟩ = some t) : u'.cell? ⟨A, 0, none⟩ = some a ∧ u'.cell? ⟨A, 1, none⟩ = some b ∧ u'.cell? ⟨A, 2, none⟩ = some c ∧ u'.cell? ⟨A, 3, none⟩ = some d ∧ u'.cell? ⟨B, 0, none⟩ = some p ∧ u'.cell? ⟨B, 1, none⟩ = some q ∧ u'.cell? ⟨B, 2, none⟩ = some r ∧ u'.cell? ⟨B, 3, none⟩ = some s ∧ u'.cell? ⟨B, 4, none⟩ = some t :=
  let ⟨h0, h1, h2, h3, k0, k1, k2, k3, k4⟩ := h; ⟨some_on hb h0, some_on hb h1, some_on hb h2, some_on hb h3, some_on hb k0, some_on hb k1, some_on hb k2, some_on hb k3, some_on hb k4⟩
theorem sl_at {W : World} {g : Nat} {v : V} {sv : Value} (hv : v.In W 0 sv) (h : W.heap[g]? = some (.cells #[.int .i64 v.k, .int .i64 v.n, .string v.s, sv] 29)) : Sl W 0 [v] (.slice (some ⟨g, 0, none⟩) 1 1) := by
  obtain ⟨h0, h1, h2, h3, -⟩ := four_of h
  refine ⟨_, 1, rfl, Nat.le_refl _, by unfold maxLen; omega, by simp, .inr ⟨g, 0, rfl, Nat.zero_le _, ?_⟩⟩
  simp only [Ls]
  exact ⟨_, h0, h1, h2, h3, hv, trivial⟩
theorem ens_one {w : World} {k : Value} {e : En} (h : Bts w 0 k e.key) (hv : e.val = []) : Ens w [(k, .slice none 0 0)] [e] := ⟨h, by rw [hv]; exact World.ownsRow_nil _ _ _ _, trivial⟩
theorem Bts.zero {w : World} {base : Nat} {v : Value} {t : List UInt8} (h : Bts w base v t) : Bts w 0 v t := h.mono (Nat.zero_le _)
theorem bel_drew {w W : World} (h : Below w.heap.size w W) : Below w.heap.size w W.drew := bel_then h (Below.refl _ W).drew
theorem bel_al {w W : World} (h : Below w.heap.size w W) (o : Obj) : Below w.heap.size w (W.alloc o) := bel_then h (bel1 W o)
set_option maxHeartbeats 4000000 in
set_option maxRecDepth 20000 in
theorem ix_start (el : V) (sle : Value) (lb : ByteArray) (ps : List Pr) (sp : Value) (w : World) (hel : el.In w 0 sle) (hme : el.many ≤ 1048570) (hlb : lb.size ≤ 1048570) (hps : Sq RP w 0 ps sp) (hmp : manyP ps ≤ 1048570) :
    Calls Tryz.prog 44 #[el.agg sle, .string lb, sp] w fun e w' => ∃ v, e = .returned v ∧ RowE w' w.heap.size v (ixQ el lb ps) ∧ Below w.heap.size w w' := by
  obtain ⟨p1, n1, q1, rfl⟩ := hel.header
  have c25 := fun W sl h => label25 el.k [lb] sl W h
  have c51 := fun W b t g hg hB hb ht => putFormsK51 el (.slice p1 n1 q1) w W b t g hel (by omega) hg hB hb ht
  have hlq := labelQ_len el.k [lb]
  have hl2 := kq_len el
  obtain ⟨pp, cp, rfl, hpc, hpm, hp7, hpx⟩ := hps
  unfold V.agg
  have E0 := blk_new w (.cells #[.int .i64 el.k, .int .i64 el.n, .string el.s, .slice p1 n1 q1] 29)
  have hB0 := bel1 w (.cells #[.int .i64 el.k, .int .i64 el.n, .string el.s, .slice p1 n1 q1] 29)
  have hz0 : (w.alloc (.cells #[.int .i64 el.k, .int .i64 el.n, .string el.s, .slice p1 n1 q1] 29)).heap.size = w.heap.size + 1 := by simp
  have hixs : Hid (ixQ el lb ps = ⟨labelQ el.k [lb] ++ kq el, []⟩ :: ps.map (ixP el)) := (rfl : _ = _)
  generalize labelQ el.k [lb] = LQ at *
  obtain ⟨K, hK⟩ : ∃ K, Hid (kq el = K) := ⟨kq el, (rfl : _ = _)⟩
  rw [hK.out] at hl2 hixs
  have c51 : ∀ (W : World) (b : Value) (t : List UInt8) (g : Nat), W.heap[g]? = some (.cells #[.int .i64 el.k, .int .i64 el.n, .string el.s, .slice p1 n1 q1] 29) → Below w.heap.size w W → Bts W w.heap.size b t → t.length + 300 ≤ 140737488355328 → Calls Tryz.prog 51 #[b, .slice (some ⟨g, 0, none⟩) 1 1] W fun e w' => AppR w (t ++ K) e w' ∧ KT W w' := by rw [← hK.out]; exact c51
  go_enter Tryz.func44, Tryz.ntmps44
  go_wp2
  generalize w.alloc (.cells #[.int .i64 el.k, .int .i64 el.n, .string el.s, .slice p1 n1 q1] 29) = W0 at *
  have S0 := four_S E0
  have S1 := S0
  have S2 := S0
  have Q0 : Below w.heap.size w W0.drew := bel_drew hB0
  have E1 := Lib.hid E0
  have HZ0 := Lib.hid hz0
  have HZ1 : Hid (∀ o, (W0.alloc o).heap.size = w.heap.size + 1 + 1) := fun o => by rw [World.size_alloc, HZ0.out]
  have HB0 := Lib.hid hB0
  have HPX := Lib.hid hpx
  clear E0 hB0 hpx
  go_cut [7] from 10 to 20 (fun s7 wx => Hid (RowE wx w.heap.size s7 [⟨LQ ++ K, []⟩]) ∧ Hid (Below w.heap.size w wx) ∧ Hid (wx.heap[w.heap.size]? = some (.cells #[.int .i64 el.k, .int .i64 el.n, .string el.s, .slice p1 n1 q1] 29)))
  case first =>
    go_region_held3 (fun u => u.cell? ⟨w.heap.size, 0, none⟩ = some (.int .i64 el.k) ∧ u.cell? ⟨w.heap.size, 1, none⟩ = some (.int .i64 el.n) ∧ u.cell? ⟨w.heap.size, 2, none⟩ = some (.string el.s) ∧ u.cell? ⟨w.heap.size, 3, none⟩ = some (.slice p1 n1 q1))
      (first | with_reducible exact S_dr S0 | with_reducible exact S_dr (S_al _ S0) | with_reducible exact S_dr (S_al _ (S_al _ S0)) | with_reducible exact S1 | with_reducible exact S_al _ S1 | with_reducible exact S_dr (S_al _ S1) | with_reducible exact S2 | with_reducible exact S_al _ S2 | with_reducible exact S_dr (S_al _ S2))
      (first
        | (go_at_call 25; go_loud (refine (c25 _ _ (ss_at hlb (by first | exact blk_new' W0 _ _ HZ0.out | exact blk_old (blk_new' W0 _ _ HZ0.out) | exact blk_new' (W0.alloc _) _ _ (HZ1.out _)))).mono ?_; rintro e w1 ⟨b1, rfl, hb1, hB1⟩; have S1 := S_on hB1 (by first | exact S_dr (S_al _ S0) | exact S_dr (S_al _ (S_al _ S0))); have Q1 : Below w.heap.size w w1 := bel_then (by first | exact bel_drew (bel_al HB0.out _) | exact bel_drew (bel_al (bel_al HB0.out _) _)) hB1; have O1 : Bts w1 w.heap.size b1 LQ := hb1.mono (by have := Q0.size; simp at this ⊢; omega); have HB1 := Lib.hid hB1))
        | (go_at_call 51; go_loud (refine (c51 _ _ _ _ (by first | exact blk_new' w1 _ _ rfl | exact blk_on HB1.out (by first | exact blk_new' W0 _ _ HZ0.out | exact blk_old (blk_new' W0 _ _ HZ0.out) | exact blk_new' (W0.alloc _) _ _ (HZ1.out _))) (by first | with_reducible exact Q1 | exact bel_al Q1 _ | exact bel_drew (bel_al Q1 _)) (by first | with_reducible exact O1 | exact World.ownsRow.alloc O1 _) (by omega)).mono ?_; rintro e w2 ⟨⟨b2, rfl, hb2, hB2⟩, hK2⟩; obtain ⟨p2, n2, c2, rfl⟩ := bts_hdr hb2; have O2 := Lib.hid (And.intro hb2 hB2); clear hb2 hB2; have E2 := Lib.hid (hK2 w.heap.size _ 29 (by decide) (by first | exact blk_on HB1.out (by first | exact E1.out | exact blk_old E1.out | exact blk_old (blk_old E1.out)) | exact blk_old (blk_on HB1.out (by first | exact E1.out | exact blk_old E1.out | exact blk_old (blk_old E1.out))))); have S2 := four_S E2.out)))
    all_goals
      go_wp2_with (fail)
      go_meet
      exact ⟨rowE_lit w2 w.heap.size O2.out.2.size _ _ (ens_one (e := ⟨LQ ++ K, []⟩) O2.out.1.zero rfl) (by simp) _ rfl _ rfl, bel_al O2.out.2 _, blk_old E2.out⟩
  case rest =>
    obtain ⟨hr7, hb7, he7⟩ := hcut
    unfold maxLen at hpm
    have hmpl := manyP_len ps
    clear E1 HZ0 HZ1 HB0 Q0 S0 S1 S2 hz0 c25 hlq
    go_wp2
    go_loopg [7, 22] ps.length (fun c v i wr => ∃ (j : Nat), c + j = ps.length ∧ i = .int .i64 j ∧ Hid (RowE wr w.heap.size v (⟨LQ ++ K, []⟩ :: (ps.take j).map (ixP el))) ∧ Hid (Below w.heap.size w wr) ∧ Hid (wr.heap[w.heap.size]? = some (.cells #[.int .i64 el.k, .int .i64 el.n, .string el.s, .slice p1 n1 q1] 29)))
    case atStart => exact ⟨0, rfl, rfl, hr7, hb7, he7⟩
    case round =>
      clear hr7 hb7 he7
      obtain ⟨j, hj, rfl, hrr, hBr, hEr⟩ := hrel
      by_cases hlt : j < ps.length
      · obtain ⟨g, o, rfl, -, hcell⟩ := HPX.out.resolve_left (by intro e; rw [e] at hlt; simp at hlt)
        obtain ⟨sk, hats, hin⟩ := hcell.at j hlt
        rw [show RP.n = 5 from rfl] at hats
        obtain ⟨k0, k1, k2, k3, k4⟩ := ats5 hats
        have hma := manyP_at hlt
        have htk : Hid ((ps.take (j + 1)).map (ixP el) = (ps.take j).map (ixP el) ++ [ixP el ps[j]]) := by show _ = _; rw [List.take_succ_eq_append_getElem hlt, List.map_append]; rfl
        generalize ps[j] = P at *
        obtain ⟨nm, v⟩ := P
        obtain ⟨hnm, hvin⟩ := hin
        simp only at k0 k1 k2 k3 k4 hma hvin
        have hB := hBr.out
        have y0 := some_on hB k0
        have y1 := some_on hB k1
        have y2 := some_on hB k2
        have y3 := some_on hB k3
        have y4 := some_on hB k4
        obtain ⟨p3, n3, q3, rfl⟩ := hvin.header
        have c27 := fun W sl h => prop1_27 el.k nm (by omega) v (by omega) [] W sl h
        have hpl := propK_len el.k nm [v]
        have hen : Hid (ixP el ⟨nm, v⟩ = ⟨propK el.k nm [v] ++ K, []⟩) := by show _ = _; rw [← hK.out]; rfl
        have htl : Hid ((⟨LQ ++ K, []⟩ :: (ps.take j).map (ixP el)).length ≤ 10000000) := by show _ ≤ _; simp; omega
        have htk2 : Hid ((⟨LQ ++ K, []⟩ :: (ps.take j).map (ixP el)) ++ [⟨propK el.k nm [v] ++ K, []⟩] = ⟨LQ ++ K, []⟩ :: (ps.take (j + 1)).map (ixP el)) := by show _ = _; rw [htk.out, hen.out]; rfl
        generalize (⟨LQ ++ K, []⟩ :: (ps.take j).map (ixP el) : List En) = R at *
        generalize propK el.k nm [v] = PQ at *
        have EAx := blk_old (o' := .cells #[.string nm, .int .i64 v.k, .int .i64 v.n, .string v.s, .slice p3 n3 q3] 65) hEr.out
        have EBx := blk_new wr (.cells #[.string nm, .int .i64 v.k, .int .i64 v.n, .string v.s, .slice p3 n3 q3] 65)
        have hBx := hB.trans ((bel1 wr (.cells #[.string nm, .int .i64 v.k, .int .i64 v.n, .string v.s, .slice p3 n3 q3] 65)).mono hB.size)
        have hRx : RowE (wr.alloc (.cells #[.string nm, .int .i64 v.k, .int .i64 v.n, .string v.s, .slice p3 n3 q3] 65)) w.heap.size u7 R := hrr.out.on (bel1 wr _)
        have hzx : (wr.alloc (.cells #[.string nm, .int .i64 v.k, .int .i64 v.n, .string v.s, .slice p3 n3 q3] 65)).heap.size = wr.heap.size + 1 := by simp
        clear k0 k1 k2 k3 k4 hats hcell htk hma HPX hEr hrr hen
        have HY := Lib.hid (And.intro hBx hRx)
        clear hBx hRx
        go_wp2
        generalize wr.alloc (.cells #[.string nm, .int .i64 v.k, .int .i64 v.n, .string v.s, .slice p3 n3 q3] 65) = WX at *
        have N0 := nine_S EAx EBx
        have N1 := N0
        have N2 := N0
        have N4 := N0
        have HZ0 := Lib.hid hzx
        have HZ1 : Hid (∀ o, (WX.alloc o).heap.size = wr.heap.size + 1 + 1) := fun o => by rw [World.size_alloc, HZ0.out]
        have QX : Below WX.heap.size WX WX.drew := (Below.refl _ WX).drew
        have EA := Lib.hid EAx
        have EB := Lib.hid EBx
        have c51x : ∀ (W : World) (b : Value) (t : List UInt8) (g : Nat), W.heap[g]? = some (.cells #[.int .i64 el.k, .int .i64 el.n, .string el.s, .slice p1 n1 q1] 29) → Below WX.heap.size WX W → Bts W WX.heap.size b t → t.length + 300 ≤ 140737488355328 → Calls Tryz.prog 51 #[b, .slice (some ⟨g, 0, none⟩) 1 1] W (AppR WX (t ++ K)) := by
          rw [← hK.out]; exact fun W b t g hg hB hb ht => putForms51 el _ WX W b t g (hel.on HY.out.1) (by omega) hg hB hb ht
        clear EAx EBx c51
        go_region_held3 (fun u => u.cell? ⟨w.heap.size, 0, none⟩ = some (.int .i64 el.k) ∧ u.cell? ⟨w.heap.size, 1, none⟩ = some (.int .i64 el.n) ∧ u.cell? ⟨w.heap.size, 2, none⟩ = some (.string el.s) ∧ u.cell? ⟨w.heap.size, 3, none⟩ = some (.slice p1 n1 q1) ∧ u.cell? ⟨wr.heap.size, 0, none⟩ = some (.string nm) ∧ u.cell? ⟨wr.heap.size, 1, none⟩ = some (.int .i64 v.k) ∧ u.cell? ⟨wr.heap.size, 2, none⟩ = some (.int .i64 v.n) ∧ u.cell? ⟨wr.heap.size, 3, none⟩ = some (.string v.s) ∧ u.cell? ⟨wr.heap.size, 4, none⟩ = some (.slice p3 n3 q3))
          (first | with_reducible exact nine_dr N0 | with_reducible exact nine_dr (nine_al _ N0) | with_reducible exact nine_dr (nine_al _ (nine_al _ N0)) | with_reducible exact N1 | with_reducible exact nine_al _ N1 | with_reducible exact nine_dr (nine_al _ N1) | with_reducible exact N2 | with_reducible exact nine_al _ N2 | with_reducible exact nine_dr (nine_al _ N2) | with_reducible exact N4)
          (first
            | (go_at_call 27; (refine (c27 _ _ (sl_at (hvin.on (by first | exact bel_drew (bel_al HY.out.1 _) | exact bel_drew (bel_al (bel_al HY.out.1 _) _))) (by first | exact blk_new' WX _ _ HZ0.out | exact blk_old (blk_new' WX _ _ HZ0.out) | exact blk_new' (WX.alloc _) _ _ (HZ1.out _)))).mono ?_; rintro e w1 ⟨b1, rfl, hb1, hB1⟩; have N1 := nine_bel hB1 (by first | exact nine_dr (nine_al _ N0) | exact nine_dr (nine_al _ (nine_al _ N0))); have Q1 : Below WX.heap.size WX w1 := bel_then (by first | exact bel_drew (bel1 WX _) | exact bel_drew (bel_al (bel1 WX _) _)) hB1; have O1 : Bts w1 WX.heap.size b1 PQ := hb1.mono (by first | (simp; done) | (simp; omega)); have HB1 := Lib.hid hB1))
            | (go_at_call 51; (refine (c51x _ _ _ _ (by first | exact blk_new' w1 _ _ rfl | exact blk_on HB1.out (by first | exact blk_new' WX _ _ HZ0.out | exact blk_old (blk_new' WX _ _ HZ0.out) | exact blk_new' (WX.alloc _) _ _ (HZ1.out _))) (by first | with_reducible exact Q1 | exact bel_al Q1 _ | exact bel_drew (bel_al Q1 _)) (by first | with_reducible exact O1 | exact World.ownsRow.alloc O1 _) (by omega)).mono ?_; rintro e w2 ⟨b2, rfl, hb2, hB2⟩; obtain ⟨p2, n2, c2, rfl⟩ := bts_hdr hb2; have N2 := nine_bel hB2 N0; have O2 := Lib.hid (And.intro hb2 hB2); have R2 := Lib.hid (HY.out.2.on hB2); clear hb2 hB2))
            | (refine step_app_en _ (by rfl) (.tmp 26) (.tmp 39) (by rfl) w.heap.size _ R (by rfl) (R2.out.on (bel1 w2 _)) ⟨w2.heap.size, 0, none⟩ 1 [(.slice p2 n2 c2, .slice none 0 0)] [⟨PQ ++ K, []⟩] (by rfl) (cells_new w2 _ _) (Ens.on (bel1 w2 _) (ens_one (e := ⟨PQ ++ K, []⟩) O2.out.1.zero rfl)) (by simp) (by have := htl.out; simp; omega) (by have := (bel_al (HY.out.1.trans (O2.out.2.mono HY.out.1.size)) (.cells #[.slice p2 n2 c2, .slice none 0 0] 39)).size; simp at this ⊢; omega) ?_; intro g4 cap4 w4 hr4 hg4; have F4 := Lib.hid (And.intro hr4 (And.intro (belowE_app (bel_al (HY.out.1.trans (O2.out.2.mono HY.out.1.size)) _) (R2.out.on (bel1 w2 _)) hg4) (blkE_gr (R2.out.on (bel1 w2 _)) (by decide) (blk_old (blk_on O2.out.2 EA.out)) hg4))); have N4 := nine_S (blkE_gr (R2.out.on (bel1 w2 _)) (by decide) (blk_old (blk_on O2.out.2 EA.out)) hg4) (blkE_gr (R2.out.on (bel1 w2 _)) (by decide) (blk_old (blk_on O2.out.2 EB.out)) hg4); clear hr4 hg4))
        all_goals go_wp2
        all_goals (go_roundg (gk - 1))
        all_goals first
          | exact ⟨j + 1, by omega, by go_num, by rw [← htk2.out]; exact F4.out.1, F4.out.2.1, F4.out.2.2⟩
          | omega
      · obtain rfl : j = ps.length := by omega
        rw [List.take_length] at hrr
        go_wp2
        go_ret
        exact ⟨_, rfl, by rw [hixs.out]; exact hrr.out, hBr.out⟩
end Go.Proofs.YtbgikgeknnmelaaGreat
