/-
  The reader of package codec: strings and numbers in a key, a value's form.
-/
import Derived.Test.YtbgikgeknnmelaaGreatRdr
namespace Go.Proofs.YtbgikgeknnmelaaGreat
open Go.RowKit
set_option linter.unusedVariables false      -- a walk need not use every condition

/-- What marked comes to. -/
def MkR (t : List UInt8) (r : Nat) (w : World) (e : Ending) (w' : World) : Prop :=
  (∃ s q, pMarked t = .ok (s, q) ∧ e = .returned (.tuple #[.string ⟨s.toArray⟩, .int .i64 0]) ∧ Rq r q w w') ∨
    (∃ n x, pMarked t = .error n ∧ n ≠ 0 ∧ e = .returned (.tuple #[.string x, .int .i64 n]) ∧ w.grownBy w' (some r))
def pre (acc : List UInt8) (x : R (List UInt8)) : R (List UInt8) := thn x fun s z => .ok (acc ++ s, z)
theorem pre_ok {acc s q : List UInt8} : pre acc (.ok (s, q)) = .ok (acc ++ s, q) := rfl
theorem pre_err {acc : List UInt8} {n : Int} : pre acc (.error n) = .error n := rfl
theorem pre_step (acc : List UInt8) (c : UInt8) (x : R (List UInt8)) : pre acc (thn x fun s z => .ok (c :: s, z)) = pre (acc ++ [c]) x := by
  cases x with
  | error e => rfl
  | ok y =>
    obtain ⟨s, z⟩ := y
    simp only [pre, thn_ok]
    simp
theorem byte_zero {c : UInt8} : ((c.toNat : Int) == 0) = decide (c = 0) := by
  rw [Bool.eq_iff_iff]
  simp only [beq_iff_eq, decide_eq_true_eq]
  constructor
  · intro h; exact UInt8.toNat_inj.1 (by have e : (0 : UInt8).toNat = 0 := rfl; omega)
  · intro h; rw [h]; rfl
set_option maxHeartbeats 1000000 in
set_option maxRecDepth 20000 in
theorem marked129 (w : World) (r : Nat) (t : List UInt8) (h : Rd w r t) (ht : t.length ≤ 140737488355328) :
    Calls Tryz.prog 129 #[.pointer (some ⟨r, 0, none⟩)] w (MkR t r w) := by
  have hrl := h.lt
  go_enter Tryz.func129, Tryz.ntmps129
  go_wp2
  go_loopg [4] t.length (fun g v wr => ∃ acc tr, g = tr.length ∧ Hid (pMarked t = pre acc (pMarked tr)) ∧ Hid (Bts wr w.heap.size v acc) ∧ Hid (Rq r tr w wr) ∧ Hid (acc.length + tr.length ≤ t.length))
  case atStart => exact ⟨[], t, rfl, by show _ = _; unfold pre; cases pMarked t with | error e => rfl | ok y => obtain ⟨s, z⟩ := y; rfl, World.ownsRow_nil _ _ _ _, Rq.refl h, by show _ ≤ _; simp⟩
  case round =>
    obtain ⟨acc, tr, hg, hsp, hbr, hq, hlen⟩ := hrel
    have hle := hlen.out
    cases tr with
    | nil =>
      have c68 := one_no wr r hq.out.2
      have hE : Hid (pMarked t = .error 11) := hsp.out
      clear hsp hbr
      go_wp2_with (go_at_call 140; refine c68.mono ?_; rintro e w1 ⟨rfl, rfl⟩)
      go_ret2
      exact .inr ⟨11, _, hE.out, by decide, rfl, hq.out.1⟩
    | cons c tr =>
      have c68 := one_yes wr r c tr hq.out.2
      have hz := byte_zero (c := c)
      rw [List.length_cons] at hle hg
      by_cases hc : c = 0
      · rw [decide_eq_true hc] at hz
        subst hc
        cases tr with
        | nil =>
          have c71 := fun w h => mark_no w r h
          have hE : Hid (pMarked t = .error 11) := by show _ = _; rw [hsp.out, pMarked_end]; rfl
          clear hsp
          go_wp2_with (first
            | (go_at_call 140; refine c68.mono ?_; rintro e w1 ⟨rfl, hq1⟩; have hq1' := hq.out.trans hq1; have hcv := bts_str (own_kept hbr.out hq1.1 hrl))
            | (go_at_call 143; refine (c71 _ hq1.2).mono ?_; rintro e w2 ⟨rfl, rfl⟩))
          go_ret2
          exact .inr ⟨11, _, hE.out, by decide, rfl, hq1'.1⟩
        | cons d q =>
          have c71 := fun w h => mark_yes w r d q h
          rw [pMarked_zero] at hsp
          rw [List.length_cons] at hle hg
          by_cases h1 : d = 1
          · have e1 : markE d = 0 := by unfold markE; rw [if_pos h1]
            have e2 : decide (d = 255) = false := by rw [h1]; rfl
            rw [e1, e2] at c71
            have hE : Hid (pMarked t = .ok (acc, q)) := by show _ = _; rw [hsp.out, if_pos h1, pre_ok]; simp
            clear hsp h1 e1 e2
            go_wp2_with (first
              | (go_at_call 140; refine c68.mono ?_; rintro e w1 ⟨rfl, hq1⟩; have hq1' := hq.out.trans hq1; have hO1 : Bts w1 w.heap.size _ acc := own_kept hbr.out hq1.1 hrl)
              | (go_at_call 143; refine (c71 _ hq1.2).mono ?_; rintro e w2 ⟨rfl, hq2⟩; have hq2' := hq1'.trans hq2; have hcv := bts_str (own_kept hO1 hq2.1 hrl)))
            go_ret2
            exact .inl ⟨acc, q, hE.out, rfl, hq2'⟩
          · rw [if_neg h1] at hsp
            by_cases h2 : d = 255
            · have e1 : markE d = 0 := by unfold markE; rw [if_neg h1, if_pos h2]
              rw [e1, decide_eq_true h2] at c71
              have hE : Hid (pMarked t = pre (acc ++ [0]) (pMarked q)) := by show _ = _; rw [hsp.out, if_pos h2, pre_step]
              clear hsp h1 e1 h2
              go_wp2_with (first
                | (go_at_call 140; refine c68.mono ?_; rintro e w1 ⟨rfl, hq1⟩; have hq1' := hq.out.trans hq1; have hO1 : Bts w1 w.heap.size _ acc := own_kept hbr.out hq1.1 hrl)
                | (go_at_call 143; refine (c71 _ hq1.2).mono ?_; rintro e w2 ⟨rfl, hq2⟩; have hq2' := hq1'.trans hq2; have hO2 : Bts w2 w.heap.size _ acc := own_kept hO1 hq2.1 hrl; have hsw := hq2'.1.size)
                | (at_builtin; refine wpList_app_byts _ rfl _ _ rfl w.heap.size _ _ rfl (World.ownsRow.alloc hO2 _) ⟨w2.heap.size, 0, none⟩ 1 [0] rfl (cells_new _ [.int .u8 0] _) (by simp; omega) (by simp; omega) ?_; intro v3 w3 hb3 hg3))
              have hq3 := (hq2'.bel (bel1 w2 (.cells #[.int .u8 0] 5))).far hg3 hrl fun j hj => (World.ownsRow.lt hO2 j hj).1
              clear hg3
              go_roundg q.length
              case rel => exact ⟨acc ++ [0], q, rfl, hE, hb3, hq3, by show _ ≤ _; simp; omega⟩
              case measure => omega
            · have e1 : markE d = 30 := by unfold markE; rw [if_neg h1, if_neg h2]
              rw [e1, decide_eq_false h2] at c71
              have hE : Hid (pMarked t = .error 30) := by show _ = _; rw [hsp.out, if_neg h2, pre_err]
              clear hsp h1 e1 h2
              go_wp2_with (first
                | (go_at_call 140; refine c68.mono ?_; rintro e w1 ⟨rfl, hq1⟩; have hq1' := hq.out.trans hq1; have hO1 : Bts w1 w.heap.size _ acc := own_kept hbr.out hq1.1 hrl)
                | (go_at_call 143; refine (c71 _ hq1.2).mono ?_; rintro e w2 ⟨rfl, hq2⟩; have hq2' := hq1'.trans hq2; have hcv := bts_str (own_kept hO1 hq2.1 hrl)))
              go_ret2
              exact .inr ⟨30, _, hE.out, by decide, rfl, hq2'.1⟩
      · rw [decide_eq_false hc] at hz
        have hE : Hid (pMarked t = pre (acc ++ [c]) (pMarked tr)) := by show _ = _; rw [hsp.out, pMarked_more hc, pre_step]
        clear hsp hc
        go_wp2_with (first
          | (go_at_call 140; refine c68.mono ?_; rintro e w1 ⟨rfl, hq1⟩; have hq1' := hq.out.trans hq1; have hs1 := hq1.1.size; have hsw := hq.out.1.size; have hO1 : Bts w1 w.heap.size _ acc := own_kept hbr.out hq1.1 hrl)
          | (at_builtin; refine wpList_app_byts _ rfl _ _ rfl w.heap.size _ _ rfl (World.ownsRow.alloc hO1 _) ⟨w1.heap.size, 0, none⟩ 1 [c] rfl (cells_new _ [.int .u8 c.toNat] _) (by simp; omega) (by simp; omega) ?_; intro v3 w3 hb3 hg3))
        have hq3 := (hq1'.bel (bel1 w1 (.cells #[.int .u8 c.toNat] 5))).far hg3 hrl fun j hj => (World.ownsRow.lt hO1 j hj).1
        clear hg3
        go_roundg tr.length
        case rel => exact ⟨acc ++ [c], tr, rfl, hE, hb3, hq3, by show _ ≤ _; simp; omega⟩
        case measure => omega
/-- One more byte. -/
theorem or_byte (u : Nat) (c : UInt8) (hu : u < 72057594037927936) : bits .or .u64 ((u : Int) * 256) (c.toNat : Int) = ((u * 256 + c.toNat : Nat) : Int) := by
  have hc := c.toNat_lt
  have e1 : (u : Int) * 256 = ((u * 256 : Nat) : Int) := by omega
  rw [e1, bits_or_u64_nat (u * 256) c.toNat (by omega) (by omega)]
  have := Nat.two_pow_add_eq_or_of_lt (i := 8) (b := c.toNat) (by omega) u
  rw [show 2 ^ 8 * u = u * 256 by omega] at this
  rw [this]
/-- The byte at k of an array of eight. -/
theorem index8 (x0 x1 x2 x3 x4 x5 x6 x7 : UInt8) (k : Nat) (hk : k < 8) (w : World) : (Instr.index 142 (.agg #[.int .u8 x0.toNat, .int .u8 x1.toNat, .int .u8 x2.toNat, .int .u8 x3.toNat, .int .u8 x4.toNat, .int .u8 x5.toNat, .int .u8 x6.toNat, .int .u8 x7.toNat]) (.int .i64 k)).run Tryz.prog w = .ok (.int .u8 (([x0, x1, x2, x3, x4, x5, x6, x7] : List UInt8).getD k 0).toNat) w := by
  have h : k = 0 ∨ k = 1 ∨ k = 2 ∨ k = 3 ∨ k = 4 ∨ k = 5 ∨ k = 6 ∨ k = 7 := by omega
  have hu := run_underlying (w := w) Tryz.underlying142
  rcases h with rfl | rfl | rfl | rfl | rfl | rfl | rfl | rfl <;> simp [Instr.index, hu, part, go_sem]
theorem deN_take {l : List UInt8} {k : Nat} (hk : k < l.length) : deN (l.take (k + 1)) = deN (l.take k) * 256 + (l.getD k 0).toNat := by
  rw [List.take_succ_eq_append_getElem hk, show l.getD k 0 = l[k] by simp [hk]]
  unfold deN deF
  rw [List.foldl_append]
  rfl
set_option maxHeartbeats 1000000 in
set_option maxRecDepth 20000 in
theorem number142 (l : List UInt8) (hl : l.length = 8) (w : World) :
    Calls Tryz.prog 142 #[.agg (arr8 l)] w fun e w' => e = .returned (.int .i64 (wordI (deN l))) ∧ Below w.heap.size w w' := by
  obtain ⟨x0, x1, x2, x3, x4, x5, x6, x7, rfl⟩ : ∃ x0 x1 x2 x3 x4 x5 x6 x7 : UInt8, l = [x0, x1, x2, x3, x4, x5, x6, x7] := by
    match l, hl with
    | [x0, x1, x2, x3, x4, x5, x6, x7], _ => exact ⟨x0, x1, x2, x3, x4, x5, x6, x7, rfl⟩
  unfold arr8
  simp only [List.map_cons, List.map_nil]
  have hix := fun k hk w => index8 x0 x1 x2 x3 x4 x5 x6 x7 k hk w
  obtain ⟨L, hL⟩ : ∃ L : List UInt8, Hid (L = [x0, x1, x2, x3, x4, x5, x6, x7]) := ⟨[x0, x1, x2, x3, x4, x5, x6, x7], (rfl : _ = _)⟩
  simp only [← hL.out] at hix ⊢
  have hLl : L.length = 8 := by rw [hL.out]; rfl
  clear hL hl
  go_enter Tryz.func142, Tryz.ntmps142
  go_wp2
  go_loopg [3, 7] 8 (fun g u i wr => ∃ (k v : Nat), g + k = 8 ∧ i = .int .i64 k ∧ u = .int .u64 v ∧ Hid (v = deN (L.take k)) ∧ Hid (Below w.heap.size w wr))
  case atStart => exact ⟨0, 0, rfl, rfl, rfl, (rfl : _ = _), bel1 w _⟩
  case round =>
    obtain ⟨k, v, hk, rfl, rfl, hv, hB⟩ := hrel
    have hvl : v < 256 ^ k := by
      have := deN_lt (L.take k)
      rw [← hv.out, List.length_take, hLl] at this
      exact Nat.lt_of_lt_of_le this (Nat.pow_le_pow_right (by omega) (by omega))
    by_cases hlt : k < 8
    · have hi := hix k hlt wr
      have ht := deN_take (l := L) (k := k) (by omega)
      rw [← hv.out] at ht
      generalize L.getD k 0 = c at *
      have hv56 : v < 72057594037927936 := Nat.lt_of_lt_of_le hvl (by have : 256 ^ k ≤ 256 ^ 7 := Nat.pow_le_pow_right (by omega) (by omega); exact this)
      have ho := Lib.hid (or_byte v c hv56)
      have hc := c.toNat_lt
      have hv' : Hid (v * 256 + c.toNat = deN (L.take (k + 1))) := ht.symm
      clear ht hvl hv hix
      go_wp2
      go_roundg (gk - 1)
      case rel => exact ⟨k + 1, v * 256 + c.toNat, by omega, by go_num, congrArg (Value.int .u64) ho.out, hv', hB⟩
      case measure => omega
    · obtain rfl : k = 8 := by omega
      have hv' : Hid (v = deN L) := by have := hv.out; rwa [List.take_of_length_le (by omega)] at this
      have hv64 : v < 18446744073709551616 := hvl
      have hx := xor_top v hv64
      clear hix hv hvl
      go_wp2
      go_ret
      refine ⟨ret_int ?_, hB.out⟩
      rw [← hv'.out]
      unfold wordI wrap64
      omega
end Go.Proofs.YtbgikgeknnmelaaGreat
