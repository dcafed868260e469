/-
  The reader of plain bytes: lists.
-/
import Derived.Test.YtekfbijkalamkaaNumV
namespace Go.Proofs.Ytekfbijkalamkaa
open Go.RowKit
set_option linter.unusedVariables false      -- a walk need not use every condition

/-- What list comes to. -/
def pList (pe : List UInt8 → R V) (most : Nat) (t : List UInt8) : R (List V) := thn (pCount most t) fun u s => pItems pe u s
def LstR (spec : R (List V)) (r : Nat) (w : World) (e : Ending) (w' : World) : Prop :=
  (∃ l q sl, spec = .ok (l, q) ∧ e = .returned (.tuple #[sl, .int .i64 0]) ∧ RowV w' w.heap.size sl l ∧ l.length ≤ 512 ∧ Rq r q w w') ∨
    (∃ n, spec = .error n ∧ n ≠ 0 ∧ e = .returned (.tuple #[.slice none 0 0, .int .i64 n]) ∧ w.grownBy w' (some r))
def lpre (acc : List V) (x : R (List V)) : R (List V) := thn x fun l s => .ok (acc ++ l, s)
theorem lpre_nil (x : R (List V)) : lpre [] x = x := by
  cases x with
  | error e => rfl
  | ok y => obtain ⟨l, s⟩ := y; rfl
theorem lpre_ok {acc : List V} {pe : List UInt8 → R V} {k : Nat} {t q : List UInt8} {x : V} (h : pe t = .ok (x, q)) : lpre acc (pItems pe (k + 1) t) = lpre (acc ++ [x]) (pItems pe k q) := by
  simp only [pItems, h, thn_ok, lpre]
  cases pItems pe k q with
  | error e => rfl
  | ok y => obtain ⟨l, s⟩ := y; simp [thn_ok]
theorem lpre_err {acc : List V} {pe : List UInt8 → R V} {k : Nat} {t : List UInt8} {n : Int} (h : pe t = .error n) : lpre acc (pItems pe (k + 1) t) = .error n := by
  simp only [pItems, h, thn_err, lpre]
theorem lpre_end {acc : List V} {pe : List UInt8 → R V} {t : List UInt8} : lpre acc (pItems pe 0 t) = .ok (acc, t) := by
  simp [pItems, lpre, thn_ok]
theorem count_le {most u : Nat} {t q : List UInt8} (h : pCount most t = .ok (u, q)) : u ≤ most := by
  unfold pCount at h
  obtain ⟨a, s, h1, h2⟩ := thn_is h
  by_cases hl : most < a
  · rw [if_pos hl] at h2; cases h2
  · rw [if_neg hl] at h2
    have := congrArg Prod.fst (Except.ok.inj h2)
    simp at this
    omega
set_option maxHeartbeats 2000000 in
set_option maxRecDepth 20000 in
theorem list79 (pe : List UInt8 → R V) (d : Nat) (h60 : ∀ (w : World) (r : Nat) (t : List UInt8), Rd w r t → Calls Try.prog 60 #[.pointer (some ⟨r, 0, none⟩), .int .i64 d] w (ReadR (pe t) r w)) (most : Nat) (hmost : most ≤ 512)
    (w : World) (r : Nat) (t : List UInt8) (h : Rd w r t) : Calls Try.prog 79 #[.pointer (some ⟨r, 0, none⟩), .int .u64 most, .int .i64 d] w (LstR (pList pe most t) r w) := by
  obtain ⟨i0, hi, hz0, hz1, hz2⟩ := info_parts info31
  have c83 := count83 most hmost w r t h
  have hrl := h.lt
  unfold pList
  cases hp : pCount most t with
  | error n =>
    rw [hp] at c83
    clear h60 hp
    go_enter Try.func79, Try.ntmps79
    go_wp2_with (go_at_call 83; refine c83.mono ?_; rintro e w' hrr; obtain ⟨hn, rfl, hg⟩ := cntR_err hrr; clear hrr; have hn2 : (n != 0) = true := (by simp; omega))
    go_ret2
    exact .inr ⟨n, rfl, hn, rfl, hg⟩
  | ok x =>
    obtain ⟨u, s⟩ := x
    have hu512 : u ≤ 512 := Nat.le_trans (count_le hp) hmost
    rw [hp] at c83
    rw [thn_ok]
    clear hp
    go_enter Try.func79, Try.ntmps79
    go_wp2_with (go_at_call 83; refine c83.mono ?_; rintro e w0 hrr; obtain ⟨rfl, hq0⟩ := cntR_ok hrr; clear hrr)
    go_loopg [10, 23] u (fun gg v j wr => ∃ (k : Nat) (acc : List V) (tr : List UInt8), gg + k = u ∧ j = .int .i64 k ∧ Hid (acc.length = k) ∧ Hid (pItems pe u s = lpre acc (pItems pe gg tr)) ∧ Hid (RowV wr w.heap.size v acc) ∧ Hid (Rq r tr w wr))
    case atStart => exact ⟨0, [], s, rfl, rfl, (rfl : _ = _), (lpre_nil _).symm, rowV_nil _ _, hq0⟩
    case round =>
      obtain ⟨k, acc, tr, hk, rfl, hal, hsp, hrow, hq⟩ := hrel
      have hgs := hq.out.1.size
      by_cases hlt : k < u
      · obtain ⟨m, rfl⟩ : ∃ m, gk = m + 1 := ⟨gk - 1, by omega⟩
        have c60 := h60 wr r tr hq.out.2
        cases hpe : pe tr with
        | error n =>
          rw [hpe] at c60
          have hE : Hid (pItems pe u s = .error n) := hsp.out.trans (lpre_err hpe)
          clear hsp hpe hrow h60
          go_wp2_with (go_at_call 60; refine c60.mono ?_; rintro e w1 hrr; obtain ⟨hn0, a, b, sx, p', c', d', rfl, hg⟩ := readR_err hrr; clear hrr; have hn' : (n != 0) = true := (by simp; omega))
          go_ret2
          exact .inr ⟨n, hE.out, hn0, rfl, (hq.out.1.trans hg).trans (World.grownBy_alloc w1 _ (some r))⟩
        | ok x =>
          obtain ⟨x, q⟩ := x
          rw [hpe] at c60
          have hE : Hid (pItems pe u s = lpre (acc ++ [x]) (pItems pe m q)) := hsp.out.trans (lpre_ok hpe)
          obtain ⟨xs, hO, hEnc⟩ := hrow.out
          clear hsp hpe h60 hrow
          go_wp2_with (first
            | (go_at_call 60; refine c60.mono ?_; rintro e w1 hrr; obtain ⟨sx, rfl, hin, hq1⟩ := readR_ok hrr; clear hrr; unfold V.agg; obtain ⟨pv, nv, cv, rfl⟩ := hin.header; have hbx := bel1 w1 (.cells #[.int .i64 x.k, .int .i64 x.n, .string x.s, .slice pv nv cv] 31); have hsx := hq1.1.size; have hO1 := own_kept hO hq1.1 hrl; have hEnc1 := hEnc.keep (w' := w1) (Q := Off w.heap.size u10) (fun a u ha hc => hq1.1.cell hc (by intro e; injection e with e; have := ha.1; omega)) (fun b hb _ => hb))
            | (at_builtin; refine wpList_append_lies _ rfl _ _ 22 rfl w.heap.size 31 i0 zVal 4 56 Try.underlying22 hi hz0 hz1 hz2 rfl (by decide) u10 acc.length xs rfl ((own_bel hO1 hbx).alloc _) ⟨w1.heap.size + 1, 0, none⟩ 1 1 [.int .i64 x.k, .int .i64 x.n, .string x.s, .slice pv nv cv] rfl rfl (by have := cells_new (w1.alloc (.cells #[.int .i64 x.k, .int .i64 x.n, .string x.s, .slice pv nv cv] 31)) [.int .i64 x.k, .int .i64 x.n, .string x.s, .slice pv nv cv] 31; rw [World.size_alloc] at this; exact this) (by simp [Value.oneCell']) (by decide) (by have := hal.out; unfold maxLen; omega) (by have := hal.out; omega) (by simp; omega) _ rfl ?_; intro g cap' w7 hown hgrow hat hlt7))
          have hE2 : EncP ((w1.alloc (.cells #[.int .i64 x.k, .int .i64 x.n, .string x.s, .slice pv nv cv] 31)).alloc (.cells #[.int .i64 x.k, .int .i64 x.n, .string x.s, .slice pv nv cv] 31)) (Off w.heap.size u10) acc xs := hEnc1.keep (fun a u _ hc => some_on (bel1 _ _) (some_on hbx hc)) (fun b hb _ => hb)
          have hx2 : x.InP ((w1.alloc (.cells #[.int .i64 x.k, .int .i64 x.n, .string x.s, .slice pv nv cv] 31)).alloc (.cells #[.int .i64 x.k, .int .i64 x.n, .string x.s, .slice pv nv cv] 31)) (Off w.heap.size u10) (.slice pv nv cv) := V.InP.keep (fun a u _ hc => some_on (bel1 _ _) (some_on hbx hc)) (fun b hb _ => hb) _ _ (in_off hO (Nat.le_refl _) hgs hin)
          have hRow := Lib.hid (RowV.push (v := u10) hE2 (enc_one hx2) hown (by simp) hgrow hat)
          have hq7 := Lib.hid ((((hq.out.trans hq1).bel hbx).bel (bel1 _ (.cells #[.int .i64 x.k, .int .i64 x.n, .string x.s, .slice pv nv cv] 31))).far hgrow hrl fun j hj => (World.ownsRow.lt hO j hj).1)
          have hal' : Hid ((acc ++ [x]).length = k + 1) := by show _ = _; rw [List.length_append, hal.out]; rfl
          clear hgrow hown hat hE2 hx2 hO hEnc hO1 hEnc1
          go_roundg m
          case rel => exact ⟨k + 1, acc ++ [x], q, by omega, by go_num, hal', hE, hRow, hq7⟩
          case measure => omega
      · obtain rfl : k = u := by omega
        obtain rfl : gk = 0 := by omega
        have hE : Hid (pItems pe k s = .ok (acc, tr)) := hsp.out.trans lpre_end
        obtain ⟨pv, cv, rfl, -, -⟩ := hrow.out.len
        clear hsp h60
        go_wp2
        go_ret2
        exact .inl ⟨acc, tr, _, hE.out, rfl, hrow.out, by rw [hal.out]; exact hu512, hq.out⟩
end Go.Proofs.Ytekfbijkalamkaa
