/-
  The document's Values (rambleref03).
-/
import Derived.Test.YtekfbijkalamkaaRefO
namespace Go.Proofs.Ytekfbijkalamkaa
open Go.RowKit
set_option linter.unusedVariables false      -- a walk need not use every condition

set_option maxHeartbeats 1000000 in
set_option maxRecDepth 20000 in
theorem refValues16 (w : World) (b : Value) (t : List UInt8) (hb : Bs w b t) (ht : t.length ≤ 1073741824) : Calls Try.prog 16 #[b] w (ValsR t w) := by
  obtain ⟨i0, hi, hz0, hz1, hz2⟩ := info_parts info31
  have hbl := hb.low
  clear hb
  go_enter Try.func16, Try.ntmps16
  go_wp2
  go_loopg [0, 4] t.length (fun g b v wr => ∃ (f : Nat) (acc : List V) (tr : List UInt8), g = tr.length ∧ tr.length ≤ f ∧ acc.length + tr.length ≤ t.length ∧ Hid (pValues t.length t = vpre acc (pValues f tr)) ∧ Hid (Bl wr b tr w.heap.size) ∧ Hid (RowV wr w.heap.size v acc) ∧ Hid (Below w.heap.size w wr))
  case atStart => exact ⟨t.length, [], t, rfl, Nat.le_refl _, by simp, (vpre_nil _).symm, hbl, rowV_nil _ _, Below.refl _ _⟩
  case round =>
    clear hbl
    obtain ⟨f, acc, tr, hg, hf, hlen, hsp, hbl, hrow, hB⟩ := hrel
    obtain ⟨p, cap, rfl, hpc, htl⟩ := hbl.out.1.slice
    cases tr with
    | nil =>
      have hE : Hid (pValues t.length t = .ok acc) := by
        show _ = _
        rw [hsp.out]
        cases f <;> simp [pValues, vpre]
      obtain ⟨pv, cv, rfl, -, -⟩ := hrow.out.len
      have hSl := Lib.hid (hrow.out.sl (by omega))
      clear hsp hrow
      go_wp2
      go_ret2
      exact .inl ⟨acc, _, hE.out, rfl, hSl.out, hB.out⟩
    | cons c tr =>
      have c12 := refTake13 wr _ (c :: tr) hbl.out.1 (by omega)
      rw [List.length_cons] at hf hlen hg
      obtain ⟨f, rfl⟩ : ∃ f', f = f' + 1 := ⟨f - 1, by omega⟩
      cases hp : pTake (c :: tr) with
      | error n =>
        rw [hp] at c12
        have hE : Hid (pValues t.length t = .error n) := hsp.out.trans (vals_err hp)
        clear hsp hp hrow
        go_wp2_with (go_at_call 13; refine c12.mono ?_; rintro e w1 hrr; obtain ⟨hn0, rfl, hB1⟩ := takeR_err hrr; clear hrr; unfold zAgg; have hn' : (n != 0) = true := (by simp; omega))
        go_ret2
        exact .inr ⟨n, hE.out, hn0, rfl, bel_then (bel_then hB.out hB1) (bel1 w1 _)⟩
      | ok x =>
        obtain ⟨x, q⟩ := x
        rw [hp] at c12
        have hE : Hid (pValues t.length t = vpre (acc ++ [x]) (pValues f q)) := hsp.out.trans (vals_ok hp)
        obtain ⟨htb, -⟩ := take_back hp
        have hkp := kForm_pos x
        have hdr : (c :: tr).drop (kForm x).length = q := by rw [htb, List.drop_left]
        have hll : tr.length + 1 = (kForm x).length + q.length := by have := congrArg List.length htb; simpa using this
        generalize (kForm x).length = N at *
        have hNi : Hid ((((c :: tr).length : Nat) : Int) - (q.length : Int) = (N : Int)) := by show _ = _; rw [List.length_cons]; omega
        have hbq := hbl.out.drop (n := N) (by rw [List.length_cons]; omega)
        have hN1 : N ≤ tr.length + 1 := by omega
        have hLq : Hid (tr.length + 1 = N + q.length) := hll
        rw [hdr] at hbq
        obtain ⟨xs, hO, hEnc⟩ := hrow.out
        have hBs := hB.out.size
        clear hsp hp htb hdr hrow hll
        by_cases hcn : cap = N
        · subst hcn
          rw [if_pos rfl, Nat.sub_self] at hbq
          go_wp2_with (first
            | (go_at_call 13; refine c12.mono ?_; rintro e w1 hrr; obtain ⟨sx, rfl, hin, hB1⟩ := takeR_ok hrr; clear hrr; unfold V.agg; rw [hNi.out]; obtain ⟨pv, nv, cv, rfl⟩ := hin.header; have hbx := bel1 w1 (.cells #[.int .i64 x.k, .int .i64 x.n, .string x.s, .slice pv nv cv] 31); have hBx := bel_then hB1 hbx; have hsx := hB1.size)
            | (at_builtin; refine wpList_append_lies _ rfl _ _ 22 rfl w.heap.size 31 i0 zVal 4 56 Try.underlying22 hi hz0 hz1 hz2 rfl (by decide) u4 acc.length xs rfl ((own_bel hO hBx).alloc _) ⟨w1.heap.size + 1, 0, none⟩ 1 1 [.int .i64 x.k, .int .i64 x.n, .string x.s, .slice pv nv cv] rfl rfl (by have := cells_new (w1.alloc (.cells #[.int .i64 x.k, .int .i64 x.n, .string x.s, .slice pv nv cv] 31)) [.int .i64 x.k, .int .i64 x.n, .string x.s, .slice pv nv cv] 31; rw [World.size_alloc] at this; exact this) (by simp [Value.oneCell']) (by decide) (by unfold maxLen; omega) (by omega) (by simp; omega) _ rfl ?_; intro g cap' w7 hown hgrow hat hlt7))
          have hE2 : EncP ((w1.alloc (.cells #[.int .i64 x.k, .int .i64 x.n, .string x.s, .slice pv nv cv] 31)).alloc (.cells #[.int .i64 x.k, .int .i64 x.n, .string x.s, .slice pv nv cv] 31)) (Off w.heap.size u4) acc xs := hEnc.keep (fun a u _ hc => some_on (bel1 _ _) (some_on hBx hc)) (fun b hb _ => hb)
          have hx2 : x.InP ((w1.alloc (.cells #[.int .i64 x.k, .int .i64 x.n, .string x.s, .slice pv nv cv] 31)).alloc (.cells #[.int .i64 x.k, .int .i64 x.n, .string x.s, .slice pv nv cv] 31)) (Off w.heap.size u4) (.slice pv nv cv) := V.InP.keep (fun a u _ hc => some_on (bel1 _ _) (some_on hbx hc)) (fun b hb _ => hb) _ _ (in_off hO (Nat.le_refl _) hBs hin)
          have hRow := Lib.hid (RowV.push (v := u4) hE2 (enc_one hx2) hown (by simp) hgrow hat)
          have hbl7 := Lib.hid (((hbq.bel hBx).bel (bel1 _ (.cells #[.int .i64 x.k, .int .i64 x.n, .string x.s, .slice pv nv cv] 31))).grown hgrow fun j hj => (World.ownsRow.lt hO j hj).1)
          have hB7 : Hid (Below w.heap.size w w7) := ((bel_then hB.out hBx).alloc (by simp; omega) (.cells #[.int .i64 x.k, .int .i64 x.n, .string x.s, .slice pv nv cv] 31)).grown hgrow (by simp; omega) fun k e => (World.ownsRow.lt hO k e).1
          have hLq' := hLq.out
          clear hgrow hown hat hE2 hx2 hO hEnc hbq
          go_roundg q.length
          case rel => exact ⟨f, acc ++ [x], q, rfl, by omega, by simp; omega, hE, hbl7, hRow, hB7⟩
          case measure => omega
        · rw [if_neg hcn] at hbq
          go_wp2_with (first
            | (go_at_call 13; refine c12.mono ?_; rintro e w1 hrr; obtain ⟨sx, rfl, hin, hB1⟩ := takeR_ok hrr; clear hrr; unfold V.agg; rw [hNi.out]; obtain ⟨pv, nv, cv, rfl⟩ := hin.header; have hbx := bel1 w1 (.cells #[.int .i64 x.k, .int .i64 x.n, .string x.s, .slice pv nv cv] 31); have hBx := bel_then hB1 hbx; have hsx := hB1.size)
            | (at_builtin; refine wpList_append_lies _ rfl _ _ 22 rfl w.heap.size 31 i0 zVal 4 56 Try.underlying22 hi hz0 hz1 hz2 rfl (by decide) u4 acc.length xs rfl ((own_bel hO hBx).alloc _) ⟨w1.heap.size + 1, 0, none⟩ 1 1 [.int .i64 x.k, .int .i64 x.n, .string x.s, .slice pv nv cv] rfl rfl (by have := cells_new (w1.alloc (.cells #[.int .i64 x.k, .int .i64 x.n, .string x.s, .slice pv nv cv] 31)) [.int .i64 x.k, .int .i64 x.n, .string x.s, .slice pv nv cv] 31; rw [World.size_alloc] at this; exact this) (by simp [Value.oneCell']) (by decide) (by unfold maxLen; omega) (by omega) (by simp; omega) _ rfl ?_; intro g cap' w7 hown hgrow hat hlt7))
          have hE2 : EncP ((w1.alloc (.cells #[.int .i64 x.k, .int .i64 x.n, .string x.s, .slice pv nv cv] 31)).alloc (.cells #[.int .i64 x.k, .int .i64 x.n, .string x.s, .slice pv nv cv] 31)) (Off w.heap.size u4) acc xs := hEnc.keep (fun a u _ hc => some_on (bel1 _ _) (some_on hBx hc)) (fun b hb _ => hb)
          have hx2 : x.InP ((w1.alloc (.cells #[.int .i64 x.k, .int .i64 x.n, .string x.s, .slice pv nv cv] 31)).alloc (.cells #[.int .i64 x.k, .int .i64 x.n, .string x.s, .slice pv nv cv] 31)) (Off w.heap.size u4) (.slice pv nv cv) := V.InP.keep (fun a u _ hc => some_on (bel1 _ _) (some_on hbx hc)) (fun b hb _ => hb) _ _ (in_off hO (Nat.le_refl _) hBs hin)
          have hRow := Lib.hid (RowV.push (v := u4) hE2 (enc_one hx2) hown (by simp) hgrow hat)
          have hbl7 := Lib.hid (((hbq.bel hBx).bel (bel1 _ (.cells #[.int .i64 x.k, .int .i64 x.n, .string x.s, .slice pv nv cv] 31))).grown hgrow fun j hj => (World.ownsRow.lt hO j hj).1)
          have hB7 : Hid (Below w.heap.size w w7) := ((bel_then hB.out hBx).alloc (by simp; omega) (.cells #[.int .i64 x.k, .int .i64 x.n, .string x.s, .slice pv nv cv] 31)).grown hgrow (by simp; omega) fun k e => (World.ownsRow.lt hO k e).1
          have hLq' := hLq.out
          clear hgrow hown hat hE2 hx2 hO hEnc hbq
          go_roundg q.length
          case rel => exact ⟨f, acc ++ [x], q, rfl, by omega, by simp; omega, hE, hbl7, hRow, hB7⟩
          case measure => omega
end Go.Proofs.Ytekfbijkalamkaa
