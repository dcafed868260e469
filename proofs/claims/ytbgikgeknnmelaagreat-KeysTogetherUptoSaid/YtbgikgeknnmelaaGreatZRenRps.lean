/-
  The document's entries (rambleref11): num, label, id, beside.
  The document's entries (rambleref11): props.
-/
import Derived.Test.YtbgikgeknnmelaaGreatZRksRkp
namespace Go.Proofs.YtbgikgeknnmelaaGreat
open Go.RowKit
set_option linter.unusedVariables false      -- a walk need not use every condition

set_option maxHeartbeats 400000 in
theorem rnum52 (n : Int) (hn : I64 n) (w : World) (b : Value) (t0 : List UInt8) (hb : Bs w b t0) (ht : t0.length ≤ 140737478355328) : Calls Tryz.prog 52 #[b, .int .i64 n] w (AppR w (t0 ++ numQ n)) := by
  unfold I64 at hn
  have hq : numQ n = enc (max n 0).toNat := rfl
  have hle := enc_le (max n 0).toNat
  have c77 := rput77 (max n 0).toNat (by omega) w b t0 hb (by omega)
  rw [hq]
  clear hq hle
  by_cases h : 0 ≤ n
  · obtain ⟨u, rfl⟩ := Int.eq_ofNat_of_zero_le h
    have hm : max (u : Int) 0 = u := by omega
    rw [hm] at c77 ⊢
    simp only [Int.toNat_natCast] at c77 ⊢
    go_enter Tryz.func52, Tryz.ntmps52
    go_wp2_with (go_at_call 77; go_loud (refine c77.mono ?_); rintro e w1 ⟨b1, rfl, hb1, hB1⟩)
    go_ret
    exact ⟨b1, rfl, hb1, hB1⟩
  · have hm : max n 0 = 0 := by omega
    rw [hm] at c77 ⊢
    go_enter Tryz.func52, Tryz.ntmps52
    go_wp2_with (go_at_call 77; go_loud (refine c77.mono ?_); rintro e w1 ⟨b1, rfl, hb1, hB1⟩)
    go_ret
    exact ⟨b1, rfl, hb1, hB1⟩
set_option maxHeartbeats 400000 in
theorem rlabel47 (s : ByteArray) (hs : s.size ≤ 1048570) (w : World) (b : Value) (t0 : List UInt8) (hb : Bs w b t0) (ht : t0.length ≤ 140737468355328) : Calls Tryz.prog 47 #[b, .string s] w (AppR w (t0 ++ textQ s)) := by
  have c52 := rnum52 s.size (by unfold I64; omega) w b t0 hb (by omega)
  have hq : t0 ++ textQ s = t0 ++ numQ s.size ++ s.data.toList := by simp [textQ]
  have hl := numQ_len s.size
  have hp := numQ_pos s.size
  rw [hq]
  generalize numQ s.size = Q at *
  clear hq
  go_enter Tryz.func47, Tryz.ntmps47
  go_wp2_with (first
    | (go_at_call 52; go_loud (refine c52.mono ?_); rintro e w1 ⟨b1, rfl, hb1, hB1⟩)
    | (at_builtin; refine wpList_app_str _ rfl _ _ rfl rfl w.heap.size _ (t0 ++ Q) rfl hb1 s rfl (.inr (by simp; omega)) (by simp; omega) hB1.size ?_; intro v4 w4 hb4 hg4; have hB4 := below_app hB1 hb1 hg4; clear hg4))
  go_ret
  exact ⟨v4, rfl, hb4, hB4⟩
set_option maxHeartbeats 400000 in
theorem rid45 (n : Int) (w : World) : Calls Tryz.prog 45 #[.int .i64 n] w fun e w' => e = .returned (.bool (idB n)) ∧ w' = w := by
  unfold idB
  by_cases h1 : 1 ≤ n
  · by_cases h2 : n ≤ 281474976710656
    · rw [decide_eq_true h1, decide_eq_true h2]
      go_enter Tryz.func45, Tryz.ntmps45
      go_wp2
      go_ret
      exact ⟨rfl, rfl⟩
    · rw [decide_eq_true h1, decide_eq_false h2]
      go_enter Tryz.func45, Tryz.ntmps45
      go_wp2
      go_ret
      exact ⟨rfl, rfl⟩
  · rw [decide_eq_false h1, Bool.false_and]
    go_enter Tryz.func45, Tryz.ntmps45
    go_wp2
    go_ret
    exact ⟨rfl, rfl⟩
theorem rkE55 (n : Int) (hn : I64 n) (w : World) : Calls Tryz.prog 55 #[.agg #[.int .i64 7, .int .i64 n, .string ⟨#[]⟩, .slice none 0 0]] w (AppR w (kq (eEl n))) := by
  have h := rk55 (eEl n) (.slice none 0 0) w (in_plain (by unfold I64; omega) hn (by decide) w 0) (by simp [eEl, V.many, manyL]; exact Nat.zero_le _)
  exact h
set_option maxHeartbeats 1000000 in
set_option maxRecDepth 20000 in
theorem rbeside53 (c : UInt8) (v : Int) (hv : I64 v) (s : ByteArray) (hs : s.size ≤ 1048570) (n : Int) (hn : I64 n) (w : World) : Calls Tryz.prog 53 #[.int .u8 c.toNat, .int .i64 v, .string s, .int .i64 n] w (AppR w ([c] ++ kq (vEl v) ++ kq (strV s) ++ kq (eEl n))) := by
  have c55 := rkV55 v hv
  have c62 := rstr62 s hs
  have d55 := rkE55 n hn
  have l1 := kq_len (vEl v)
  have l2 := kq_len (strV s)
  have l3 := kq_len (eEl n)
  generalize kq (vEl v) = K at *
  generalize kq (strV s) = T at *
  generalize kq (eEl n) = L at *
  have hlit := bts_lit1 w w.heap.size (Nat.le_refl _) c
  have hB0 := bel1 w (.cells #[.int .u8 c.toNat] 5)
  have hc8 : ((c.toNat : Nat) : Int) < 256 := by have := c.toNat_lt; omega
  have tk : True := trivial
  go_enter Tryz.func53, Tryz.ntmps53
  go_wp2_with (first
    | (go_at_call 35; refine (refVertex35 v _).mono ?_; rintro e w1 ⟨rfl, hB1⟩; have hB2 := hB0.trans (hB1.mono hB0.size); have hO : Bts w1 w.heap.size _ [c] := own_bel hlit hB1)
    | (go_at_call 55; clear tk; go_loud (refine (c55 _).mono ?_; rintro e w2 ⟨b2, rfl, hb2, hB3⟩; have hB4 := hB2.trans (hB3.mono hB2.size); have hO2 : Bts w2 w.heap.size _ [c] := own_bel hO hB3; have hbs := hb2.bs))
    | (at_builtin; refine wpList_app_bs _ rfl _ _ rfl w.heap.size _ [c] rfl hO2 _ K rfl hbs (by simp; omega) hB4.size ?_; intro v4 w4 hb4 hg4; have hB5 := below_app hB4 hO2 hg4; clear hg4 hO2 hbs)
    | (go_at_call 62; refine (c62 _).mono ?_; rintro e w5 ⟨b5, rfl, hb5, hB6⟩; have hB7 := hB5.trans (hB6.mono hB5.size); have hO5 : Bts w5 w.heap.size _ ([c] ++ K) := own_bel hb4 hB6; have hbs5 := hb5.bs)
    | (at_builtin; refine wpList_app_bs _ rfl _ _ rfl w.heap.size _ ([c] ++ K) rfl hO5 _ T rfl hbs5 (by simp; omega) hB7.size ?_; intro v6 w6 hb6 hg6; have hB8 := below_app hB7 hO5 hg6; clear hg6 hO5 hbs5)
    | (go_at_call 36; refine (refEdge36 n _).mono ?_; rintro e w7 ⟨rfl, hB9⟩; have hB10 := hB8.trans (hB9.mono hB8.size); have hO7 : Bts w7 w.heap.size _ ([c] ++ K ++ T) := own_bel hb6 hB9)
    | (go_at_call 55; go_loud (refine (d55 _).mono ?_; rintro e w8 ⟨b8, rfl, hb8, hB11⟩; have hB12 := hB10.trans (hB11.mono hB10.size); have hO8 : Bts w8 w.heap.size _ ([c] ++ K ++ T) := own_bel hO7 hB11; have hbs8 := hb8.bs))
    | (at_builtin; refine wpList_app_bs _ rfl _ _ rfl w.heap.size _ ([c] ++ K ++ T) rfl hO8 _ L rfl hbs8 (by simp; omega) hB12.size ?_; intro v9 w9 hb9 hg9; have hB13 := below_app hB12 hO8 hg9; clear hg9))
  go_ret
  exact ⟨v9, rfl, hb9, hB13⟩
end Go.Proofs.YtbgikgeknnmelaaGreat
namespace Go.Proofs.YtbgikgeknnmelaaGreat
open Go.RowKit
set_option linter.unusedVariables false      -- a walk need not use every condition

theorem step_app_bs (w : World) {ops : Array Oper} {o : Oper} {a : Act} {K : Act → World → Prop} {Q : Exit → Act → World → Prop} {E : Prop} (hgd : o.guard = none) (s x : Operand)
    (ho : o.op = .call { callee := .builtin .append, args := #[s, x], argTypes := #[36, 36] }) (base : Nat) (v : Value) (t : List UInt8) (hs : a.eval s = v) (hb : Bts w base v t) (b : Value) (u : List UInt8)
    (hx : a.eval x = b) (hu : Bs w b u) (hp : u ≠ []) (hlen : t.length + u.length ≤ 140737488355328) (hbase : base ≤ w.heap.size)
    (h : ∀ v' w', Bts w' base v' (t ++ u) → w.grownBy w' v.ownBlock → K (a.put o.dst v') w') : if Region.wanted o (yielded ops a.tmps) = true then Oper.wp Tryz.prog o a w K Q else E := by
  obtain ⟨i, hi, hz0, hz1, hz2⟩ := info_parts info5
  obtain ⟨g, o', cap, rfl, h1, h2, hc⟩ := hu.cells hp
  have hl : 0 < u.length := List.length_pos_iff.2 hp
  refine step_append_lies w hgd s x 36 ho base 5 i (.int .u8 0) 1 1 Tryz.underlying36 hi hz0 hz1 hz2 rfl (by decide) v _ _ hs hb ⟨g, o', none⟩ u.length cap (u.map fun d => Value.int .u8 d.toNat) hx (by simp) ?_ (fun y hy => ?_) hl (by unfold maxLen; omega) (by omega) hbase _ rfl fun g cap w' k1 k2 _ _ => h _ w' (bts_app k1 rfl) k2
  · intro j y hy
    rw [Go.WideShapes.add_plain]
    have hjl : j < u.length := by have := (List.getElem?_eq_some_iff.1 hy).1; simpa using this
    rw [List.getElem?_map, List.getElem?_eq_getElem hjl] at hy
    simp only [Option.map_some, Option.some.injEq] at hy
    rw [← hy]
    exact hc j hjl
  · obtain ⟨d, -, rfl⟩ := List.mem_map.1 hy
    rfl
/-- Nothing is appended. -/
theorem step_app_none (w : World) {ops : Array Oper} {o : Oper} {a : Act} {K : Act → World → Prop} {Q : Exit → Act → World → Prop} {E : Prop} (hgd : o.guard = none) (s x : Operand)
    (ho : o.op = .call { callee := .builtin .append, args := #[s, x], argTypes := #[36, 36] }) (base : Nat) (v : Value) (t : List UInt8) (hs : a.eval s = v) (hb : Bts w base v t) (b : Value)
    (hx : a.eval x = b) (hu : Bs w b []) (h : K (a.put o.dst v) w) : if Region.wanted o (yielded ops a.tmps) = true then Oper.wp Tryz.prog o a w K Q else E := by
  have hw : Region.wanted o (yielded ops a.tmps) = true := by simp [Region.wanted, hgd]
  rw [if_pos hw]
  obtain ⟨i, hi, hz0, hz1, hz2⟩ := info_parts info5
  obtain ⟨p, cap, rfl, h1, -⟩ := hb.bs.slice
  obtain ⟨q, cap', rfl, -, -⟩ := hu.slice
  have hrun := run_append_zero (P := Tryz.prog) w 36 o.type 5 i Tryz.underlying36 hi p q t.length cap cap' h1
  unfold Oper.wp
  simp [execOp, ho, resolve, invoke, builtin, hs, hx, hrun, Result.andThen]
  exact h
theorem S5_on {u u' : World} (hb : Below u.heap.size u u') {g n : Nat} {a b c d e : Value} (h : u.cell? ⟨g, n, none⟩ = some a ∧ u.cell? ⟨g, n + 1, none⟩ = some b ∧ u.cell? ⟨g, n + 2, none⟩ = some c ∧ u.cell? ⟨g, n + 3, none⟩ = some d ∧ u.cell? ⟨g, n + 4, none⟩ = some e) : u'.cell? ⟨g, n, none⟩ = some a ∧ u'.cell? ⟨g, n + 1, none⟩ = some b ∧ u'.cell? ⟨g, n + 2, none⟩ = some c ∧ u'.cell? ⟨g, n + 3, none⟩ = some d ∧ u'.cell? ⟨g, n + 4, none⟩ = some e :=
  ⟨some_on hb h.1, some_on hb h.2.1, some_on hb h.2.2.1, some_on hb h.2.2.2.1, some_on hb h.2.2.2.2⟩
set_option maxHeartbeats 4000000 in
set_option maxRecDepth 20000 in
theorem rprops46 (ps : List Pr) (sp : Value) (w : World) (b : Value) (t0 : List UInt8) (hps : Sq RP w 0 ps sp) (hm : manyP ps ≤ 1048570) (hb : Bs w b t0) (ht : t0.length ≤ 10000000) :
    Calls Tryz.prog 46 #[b, sp] w (AppR w (t0 ++ propsQ ps)) := by
  have hlen0 := manyP_len ps
  have c52 := rnum52 ps.length (by unfold I64; omega) w b t0 hb (by omega)
  have hq : t0 ++ propsQ ps = t0 ++ (numQ ps.length ++ ps.flatMap propQ) := by simp [propsQ]
  rw [hq]
  have hl := numQ_len ps.length
  generalize numQ ps.length = Q at *
  have hall := props_len ps
  obtain ⟨p, cap, rfl, hc, hcm, h56, hx⟩ := hps
  unfold maxLen at hcm
  clear hq h56 hb
  go_enter Tryz.func46, Tryz.ntmps46
  go_wp2_with (first
    | (go_at_call 52; go_loud (refine c52.mono ?_); rintro e w1 ⟨b1, rfl, hb1, hB1⟩))
  clear c52
  go_loopg [0, 5] ps.length (fun c v i wr => ∃ (j : Nat) (tc : List UInt8), c + j = ps.length ∧ i = .int .i64 j ∧ Hid (tc = t0 ++ (Q ++ (ps.take j).flatMap propQ)) ∧ Hid (Bts wr w.heap.size v tc) ∧ Hid (Below w.heap.size w wr))
  case atStart => exact ⟨0, t0 ++ Q, rfl, rfl, by show _ = _; simp, hb1, hB1⟩
  case round =>
    clear hb1 hB1
    obtain ⟨j, tc, hj, rfl, htc, hbr, hBr⟩ := hrel
    by_cases hlt : j < ps.length
    · obtain ⟨g, o, rfl, -, hcell⟩ := hx.resolve_left (by intro e; rw [e] at hlt; simp at hlt)
      obtain ⟨sk, hats, hin⟩ := hcell.at j hlt
      rw [show RP.n = 5 from rfl] at hats
      obtain ⟨k0, k1, k2, k3, k4⟩ := ats5 hats
      have hpt := props_take hlt
      have hpsp := props_split hlt
      have hma := manyP_at hlt
      generalize ps[j] = P at *
      obtain ⟨nm, v⟩ := P
      obtain ⟨hnm, hvin⟩ := hin
      simp only at k0 k1 k2 k3 k4 hpt hpsp hma hvin
      have hB := hBr.out
      have SW := And.intro k0 (And.intro k1 (And.intro k2 (And.intro k3 k4)))
      have S0 := S5_on hB SW
      have SW := Lib.hid SW
      have hl1 := textQ_len nm
      have hl2 := plq_len v
      have hlen : tc.length + (textQ nm).length + (plq v).length ≤ 140737468355328 := by rw [htc.out]; simp at hpsp hall ⊢; omega
      have c56 := fun W h => rput56 v sk W h (by omega)
      have c47 := fun W b hb => rlabel47 nm (by omega) W b tc hb (by omega)
      have hnew : Hid (tc ++ textQ nm ++ plq v = t0 ++ (Q ++ (ps.take (j + 1)).flatMap propQ)) := by show _ = _; rw [hpt, htc.out]; simp
      obtain ⟨p1, n1, q1, rfl⟩ := hvin.header
      unfold V.agg at c56
      generalize textQ nm = T at *
      have hP0 : ∀ L : List UInt8, L ≠ [] ∨ L = [] := fun L => by by_cases h : L = [] <;> simp [h]
      have hPe := hP0 (plq v)
      generalize plq v = L at *
      have QX : Below wr.heap.size wr wr.drew := (Below.refl _ wr).drew
      have hBd : Below w.heap.size w wr.drew := hB.drew
      have hbd : Bts wr.drew w.heap.size u0 tc := hbr.out
      clear k0 k1 k2 k3 k4 hats hx hcell htc hpt hpsp hma hbr hBr hall hP0
      go_wp2
      rcases hPe with hPe | rfl
      · go_region_held3 (fun u => u.cell? ⟨g, o + j * 5, none⟩ = some (.string nm) ∧ u.cell? ⟨g, o + j * 5 + 1, none⟩ = some (.int .i64 v.k) ∧ u.cell? ⟨g, o + j * 5 + 2, none⟩ = some (.int .i64 v.n) ∧ u.cell? ⟨g, o + j * 5 + 3, none⟩ = some (.string v.s) ∧ u.cell? ⟨g, o + j * 5 + 4, none⟩ = some (.slice p1 n1 q1))
          (first | with_reducible exact S5_on QX S0 | with_reducible exact S1 | with_reducible exact S2 | with_reducible exact S3)
          (first
            | (go_at_call 47; go_loud (refine (c47 _ _ hbd.bs).mono ?_; rintro e w1 ⟨b1, rfl, hb1, hB1⟩; have S1 := S5_on hB1 (S5_on QX S0); have hB2 := bel_then hBd hB1; have hO1 : Bts w1 w.heap.size b1 (tc ++ T) := hb1.mono hBd.size; clear hb1))
            | (go_at_call 56; go_loud (refine (c56 _ (hvin.on hB2)).mono ?_; rintro e w2 ⟨b2, rfl, hb2, hB3⟩; have S2 := S5_on hB3 S1; have hB4 := bel_then hB2 hB3; have hO2 : Bts w2 w.heap.size b1 (tc ++ T) := own_bel hO1 hB3; have hbs2 := hb2.bs; clear hb2))
            | (refine step_app_bs _ (by rfl) (.tmp 22) (.tmp 28) (by rfl) w.heap.size b1 (tc ++ T) (by rfl) hO2 b2 L (by rfl) hbs2 hPe (by simp; omega) hB4.size ?_; intro v3 w3 hb3 hg3; have hB5 := below_app hB4 hO2 hg3; have S3 := S5_on hB5 SW.out))
        all_goals go_wp2
        all_goals (go_roundg (gk - 1))
        all_goals first
          | exact ⟨j + 1, tc ++ T ++ L, by omega, by go_num, hnew, hb3, hB5⟩
          | omega
      · go_region_held3 (fun u => u.cell? ⟨g, o + j * 5, none⟩ = some (.string nm) ∧ u.cell? ⟨g, o + j * 5 + 1, none⟩ = some (.int .i64 v.k) ∧ u.cell? ⟨g, o + j * 5 + 2, none⟩ = some (.int .i64 v.n) ∧ u.cell? ⟨g, o + j * 5 + 3, none⟩ = some (.string v.s) ∧ u.cell? ⟨g, o + j * 5 + 4, none⟩ = some (.slice p1 n1 q1))
          (first | with_reducible exact S5_on QX S0 | with_reducible exact S1 | with_reducible exact S2 | with_reducible exact S3)
          (first
            | (go_at_call 47; go_loud (refine (c47 _ _ hbd.bs).mono ?_; rintro e w1 ⟨b1, rfl, hb1, hB1⟩; have S1 := S5_on hB1 (S5_on QX S0); have hB2 := bel_then hBd hB1; have hO1 : Bts w1 w.heap.size b1 (tc ++ T) := hb1.mono hBd.size; clear hb1))
            | (go_at_call 56; go_loud (refine (c56 _ (hvin.on hB2)).mono ?_; rintro e w2 ⟨b2, rfl, hb2, hB3⟩; have S2 := S5_on hB3 S1; have hB4 := bel_then hB2 hB3; have hO2 : Bts w2 w.heap.size b1 (tc ++ T) := own_bel hO1 hB3; have hbs2 := hb2.bs; clear hb2))
            | (refine step_app_none _ (by rfl) (.tmp 22) (.tmp 28) (by rfl) w.heap.size b1 (tc ++ T) (by rfl) hO2 b2 (by rfl) hbs2 ?_; have S3 := S2))
        all_goals go_wp2
        all_goals (go_roundg (gk - 1))
        all_goals first
          | exact ⟨j + 1, tc ++ T, by omega, by go_num, by have := hnew.out; rw [List.append_nil] at this; exact this, hO2, hB4⟩
          | omega
    · obtain rfl : j = ps.length := by omega
      rw [List.take_length] at htc
      go_wp2
      go_ret
      exact ⟨_, rfl, by rw [← htc.out]; exact hbr.out, hBr.out⟩
end Go.Proofs.YtbgikgeknnmelaaGreat
