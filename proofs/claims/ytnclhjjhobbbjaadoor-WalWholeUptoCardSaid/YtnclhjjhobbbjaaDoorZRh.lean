/-
  What readHead of package wal does.
-/
import Derived.Test.YtnclhjjhobbbjaaDoorZRf
namespace Go.Proofs.YtnclhjjhobbbjaaDoor
open Go.RowKit Go.Maps
set_option linter.unusedVariables false      -- a walk need not use every condition
attribute [local go_sem ↓] Go.wp_at_zero Go.wp_at_succ

theorem bel_da (X : World) (o : Obj) : Below X.heap.size X (X.drew.alloc o) := (Below.refl X.heap.size X).drew.alloc (Nat.le_refl _) o
abbrev Hd := Int × Nat × List UInt8
/-- The head that a frame in the sector a is: its epoch, slots and note; the epoch 0: none. -/
def hdOf (f : Option (Int × Int × List UInt8)) (a N : Nat) : Hd := match f with
  | none => (0, 0, [])
  | some (K, n, P) => if K = 1 ∧ 1 ≤ n ∧ n ≤ 1099511627776 then (match tk P with
      | none => (0, 0, [])
      | some (m, k) => if (1 ≤ m ∧ m ≤ 4096 ∧ 2 + m ≤ N) ∧ n % 2 = a then (n, m, P.drop k) else (0, 0, [])) else (0, 0, [])
theorem results52 {fn : Func} {p : Tmp} (h : fn.results = #[.cell p 52]) (tmps : Array Value) (w : World) (g : Nat) (a b c : Value) (hp : tmps.getD p undef = .pointer (some ⟨g, 0, none⟩)) (hr : w.heap[g]? = some (.cells #[a, b, c] 52)) :
    (results fn tmps).run Tryd.prog w = .ok (.agg #[a, b, c]) w := by
  have hv := run_loadVar_mid (P := Tryd.prog) w g 0 52 [a, b, c] _ (by
    have := World.rangeAt_of_block hr 0 3
    simpa using this) Tryd.underlying52 rfl (by kernel_rfl)
  have e : (results fn tmps).run Tryd.prog w = ((asAddr (tmps.getD p undef)).run Tryd.prog w).andThen fun a w₁ => (loadVar 52 a).run Tryd.prog w₁ := by
    simp only [results, h]
    simp [Sem.run_bind, Result.andThen]
  rw [e, hp]
  simp only [asAddr, Sem.run_pure, Result.andThen, hv]
/-- What readHead answers. -/
def HdR (x : Hd) (w : World) (e : Ending) (w' : World) : Prop :=
  ∃ (p : Option Addr) (c : Nat), e = .returned (.agg #[.int .i64 x.1, .int .i64 x.2.1, .slice p x.2.2.length c]) ∧ Bs w' (.slice p x.2.2.length c) x.2.2 ∧ Fresh w.heap.size (.slice p x.2.2.length c) ∧ Below w.heap.size w w'
theorem hdR_none {w w' : World} (h : Below w.heap.size w w') : HdR (0, 0, []) w (.returned (.agg #[.int .i64 0, .int .i64 0, .slice none 0 0])) w' :=
  ⟨none, 0, rfl, bs_nil _, fun _ _ _ _ e => (by cases e), h⟩
set_option maxHeartbeats 4000000 in
set_option maxRecDepth 100000 in
theorem readHead55 (w : World) (d pb mb : Nat) (s : Dsk) (h : At w d pb mb s) (hT : TabOk w) (hd : s.down = false) (i : Nat) (hi2 : i < 2) (hi : i < s.N) :
    Calls Tryd.prog 55 #[.pointer (some ⟨d, 0, none⟩), .int .i64 i] w (HdR (hdOf (frO (s.con i)) i s.N) w) := by
  obtain ⟨W0, hW0⟩ : ∃ W0, w.alloc (.cells #[.int .i64 0, .int .i64 0, .slice none 0 0] 52) = W0 := ⟨_, rfl⟩
  have B0 : Below w.heap.size w W0 := by rw [← hW0]; exact bel1 w _
  have blk0 : W0.heap[w.heap.size]? = some (.cells #[.int .i64 0, .int .i64 0, .slice none 0 0] 52) := by rw [← hW0]; exact heap_alloc_last w _
  have cF := readFrame64 W0 d pb mb s (h.on B0) (tab_on hT B0) hd i hi
  have HB0 := Lib.hid B0
  have Hb0 := Lib.hid blk0
  have HA0 := Lib.hid (h.on B0)
  generalize frO (s.con i) = X at *
  clear h hT hd hi B0 blk0
  unfold FrmR at cF
  cases X with
  | none =>
    show Calls _ _ _ _ (HdR (0, 0, []) w)
    go_enter Tryd.func55, Tryd.ntmps55
    go_wp2_with (first
      | (go_at_call 64; refine cF.mono ?_; rintro e W1 ⟨K, N, P, p, c, rfl, hpv, hfr, hy, hb1⟩
         have k1 := blk_on hb1 Hb0.out
         have k2 := blk_on (bel1 W1 (.cells #[.int .i64 K, .int .i64 N, .slice p P.length c] 79)) k1
         obtain ⟨u0, u1, u2, uf⟩ := three_of k2
         have uf0 := uf 0
         have uf1 := uf 1
         have uf2 := uf 2
         have HB2 := Lib.hid ((HB0.out.trans (hb1.mono HB0.out.size)).alloc (Nat.le_trans HB0.out.size hb1.size) (.cells #[.int .i64 K, .int .i64 N, .slice p P.length c] 79))
         clear hpv hfr hy hb1 uf k1))
    refine bodyPost_ret (v := .agg #[.int .i64 0, .int .i64 0, .slice none 0 0]) (results52 Tryd.results55 _ _ w.heap.size _ _ _ rfl (blk_put3 k2 _ _ _)) rfl (hdR_none ?_)
    exact HB2.out.grown (gr_put3 _ _ _ _ _) HB2.out.size (fun k e => by injection e with e; omega)
  | some y =>
    obtain ⟨K0, N0, P0⟩ := y
    by_cases hK : K0 = 1
    · by_cases hN1 : 1 ≤ N0
      · by_cases hN2 : N0 ≤ 1099511627776
        · cases ht : tk P0 with
          | none =>
            have hTk := Lib.hid ht
            have hE : hdOf (some (K0, N0, P0)) i s.N = (0, 0, []) := by unfold hdOf; simp only; rw [if_pos ⟨hK, hN1, hN2⟩, ht]
            subst hK
            clear ht
            rw [hE]
            go_enter Tryd.func55, Tryd.ntmps55
            go_wp2_with (first
      | (go_at_call 64; refine cF.mono ?_; rintro e W1 ⟨K, N, P, p, c, rfl, hpv, hfr, hy, hb1⟩
         have hyy := hy _ rfl
         injection hyy with q1 q2
         injection q2 with q2 q3
         subst q1 q2 q3
         have k1 := blk_on hb1 Hb0.out
         have k2 := blk_on (bel1 W1 (.cells #[.int .i64 1, .int .i64 N0, .slice p P0.length c] 79)) k1
         have fr2 := heap_alloc_last W1 (.cells #[.int .i64 1, .int .i64 N0, .slice p P0.length c] 79)
         obtain ⟨u0, u1, u2, uf⟩ := three_of k2
         obtain ⟨v0, v1, v2, -⟩ := three_of fr2
         have uf0 := uf 0
         have uf1 := uf 1
         have uf2 := uf 2
         have HB1 := Lib.hid hb1
         have HB2 := Lib.hid ((HB0.out.trans (hb1.mono HB0.out.size)).alloc (Nat.le_trans HB0.out.size hb1.size) (.cells #[.int .i64 1, .int .i64 N0, .slice p P0.length c] 79))
         have HPV := Lib.hid (hpv.on (bel1 W1 (.cells #[.int .i64 1, .int .i64 N0, .slice p P0.length c] 79)))
         have HFR := Lib.hid hfr
         have HK2 := Lib.hid k2
         clear hpv hfr hy hb1 uf k1 fr2)
      | (go_at_call 65; refine (take65_no _ _ P0 HPV.out hTk.out).mono ?_; rintro e W5 ⟨n5, hn5, rfl, rfl⟩; have hn6 : (n5 != 0) = true := (by simp; exact hn5)))
            refine bodyPost_ret (v := .agg #[.int .i64 0, .int .i64 0, .slice none 0 0]) (results52 Tryd.results55 _ _ w.heap.size _ _ _ rfl (blk_put3 HK2.out _ _ _)) rfl (hdR_none ?_)
            exact HB2.out.grown (gr_put3 _ _ _ _ _) HB2.out.size (fun k e => by injection e with e; omega)
          | some x =>
            obtain ⟨m, k⟩ := x
            have hTk := Lib.hid ht
            obtain ⟨-, hm64, hk1, hk2, -⟩ := tk_back ht
            by_cases hm : m ≤ 4096
            · have hmz : ¬ ((4096 : Int) < (m : Int)) := by omega
              have hmw : IntKind.i64.wrap (m : Int) = (m : Int) := by rw [IntKind.wrap_i64]; omega
              cases hMy : s.may m with
              | false =>
                have hMay := Lib.hid hMy
                have hE : hdOf (some (K0, N0, P0)) i s.N = (0, 0, []) := by
                  unfold hdOf; simp only; rw [if_pos ⟨hK, hN1, hN2⟩, ht]; simp only; rw [if_neg]
                  rintro ⟨⟨a1, a2, a3⟩, a4⟩
                  unfold Dsk.may at hMy
                  simp at hMy
                  omega
                subst hK
                clear ht hMy
                rw [hE]
                go_enter Tryd.func55, Tryd.ntmps55
                go_wp2_with (first
      | (go_at_call 64; refine cF.mono ?_; rintro e W1 ⟨K, N, P, p, c, rfl, hpv, hfr, hy, hb1⟩
         have hyy := hy _ rfl
         injection hyy with q1 q2
         injection q2 with q2 q3
         subst q1 q2 q3
         have k1 := blk_on hb1 Hb0.out
         have k2 := blk_on (bel1 W1 (.cells #[.int .i64 1, .int .i64 N0, .slice p P0.length c] 79)) k1
         have fr2 := heap_alloc_last W1 (.cells #[.int .i64 1, .int .i64 N0, .slice p P0.length c] 79)
         obtain ⟨u0, u1, u2, uf⟩ := three_of k2
         obtain ⟨v0, v1, v2, -⟩ := three_of fr2
         have uf0 := uf 0
         have uf1 := uf 1
         have uf2 := uf 2
         have HB1 := Lib.hid hb1
         have HB2 := Lib.hid ((HB0.out.trans (hb1.mono HB0.out.size)).alloc (Nat.le_trans HB0.out.size hb1.size) (.cells #[.int .i64 1, .int .i64 N0, .slice p P0.length c] 79))
         have HPV := Lib.hid (hpv.on (bel1 W1 (.cells #[.int .i64 1, .int .i64 N0, .slice p P0.length c] 79)))
         have HFR := Lib.hid hfr
         have HK2 := Lib.hid k2
         clear hpv hfr hy hb1 uf k1 fr2)
      | (go_at_call 65; refine (take65_ok _ _ P0 HPV.out hTk.out).mono ?_; rintro e W5 ⟨rfl, rfl⟩)
      | (go_at_call 25; refine (maySlots25 _ d pb mb s (HA0.out.on (bel_then HB1.out (bel1 _ _))) m).mono ?_; rintro e W6 ⟨rfl, rfl⟩; rw [hMay.out]))
                refine bodyPost_ret (v := .agg #[.int .i64 0, .int .i64 0, .slice none 0 0]) (results52 Tryd.results55 _ _ w.heap.size _ _ _ rfl (blk_put3 HK2.out _ _ _)) rfl (hdR_none ?_)
                exact HB2.out.grown (gr_put3 _ _ _ _ _) HB2.out.size (fun k e => by injection e with e; omega)
              | true =>
                have hMay := Lib.hid hMy
                by_cases hp : N0 % 2 = (i : Int)
                · have hE : hdOf (some (K0, N0, P0)) i s.N = (N0, m, P0.drop k) := by
                    unfold hdOf; simp only; rw [if_pos ⟨hK, hN1, hN2⟩, ht]; simp only
                    unfold Dsk.may at hMy
                    simp at hMy
                    rw [if_pos ⟨by omega, hp⟩]
                  rw [hE]
                  have hN0 : Hid (0 ≤ N0) := by show _ ≤ _; omega
                  subst hK
                  clear ht hMy hE
                  go_enter Tryd.func55, Tryd.ntmps55
                  go_wp2_with (first
                    | (go_at_call 64; refine cF.mono ?_; rintro e W1 ⟨K, N, P, p, c, rfl, hpv, hfr, hy, hb1⟩
                       have hyy := hy _ rfl
                       injection hyy with q1 q2
                       injection q2 with q2 q3
                       subst q1 q2 q3
                       obtain ⟨W2, hW2⟩ : ∃ W2, W1.alloc (.cells #[.int .i64 1, .int .i64 N0, .slice p P0.length c] 79) = W2 := ⟨_, rfl⟩
                       have b2 : Below W1.heap.size W1 W2 := by rw [← hW2]; exact bel1 W1 _
                       have fr2 : W2.heap[W1.heap.size]? = some (.cells #[.int .i64 1, .int .i64 N0, .slice p P0.length c] 79) := by rw [← hW2]; exact heap_alloc_last W1 _
                       have k2 := blk_on b2 (blk_on hb1 Hb0.out)
                       obtain ⟨v0, v1, v2, -⟩ := three_of fr2
                       obtain ⟨x0, x1, x2, -⟩ := three_of (w := W2.drew) fr2
                       obtain ⟨y0, y1, y2, -⟩ := three_of (blk_on (bel1 W2 (.cells #[.int .i64 0, .int .i64 0, .slice none 0 0] 52)) fr2)
                       have HB2 := Lib.hid ((HB0.out.trans (hb1.mono HB0.out.size)).trans (b2.mono (Nat.le_trans HB0.out.size hb1.size)))
                       have HA2 := Lib.hid (HA0.out.on (bel_then hb1 b2))
                       have HPV := Lib.hid (hpv.on b2)
                       have HFR := Lib.hid (show Fresh (w.heap.size + 1) (.slice p P0.length c) from hfr.mono (Array.getElem?_eq_some_iff.1 Hb0.out).1)
                       have HK2 := Lib.hid k2
                       have hcc : P0.length ≤ c := by obtain ⟨_, _, e, h1, -⟩ := hpv; injection e with _ _ e; omega
                       have hc9 : c ≤ 9223372036854775807 := by obtain ⟨_, _, e, -, h1, -⟩ := hpv; injection e with _ _ e; unfold maxLen at h1; omega
                       clear hpv hfr hy hb1 fr2 b2 k2)
                    | (go_at_call 65; refine (take65_ok _ _ P0 HPV.out hTk.out).mono ?_; rintro e W5 ⟨rfl, hw5⟩; subst hw5)
                    | (go_at_call 25; refine (maySlots25 _ d pb mb s HA2.out m).mono ?_; rintro e W6 ⟨rfl, hw6⟩; subst hw6; rw [hMay.out]))
                  have hd2 := HPV.out.drop (n := k) hk2
                  by_cases hck : c = k
                  all_goals
                    first | rw [if_pos hck] at hd2 | rw [if_neg hck] at hd2
                    have HD2 := Lib.hid hd2
                    clear hd2
                    go_region
                  · have HFX : ∀ g o n c', Value.slice p (P0.length - k) 0 = .slice (some ⟨g, o, none⟩) n c' → w.heap.size + 1 ≤ g := fun g o n c' e => by
                      injection e with e
                      subst e
                      exact HFR.out _ _ _ _ rfl
                    have HD3 : Hid (Bs W6 (.slice p (P0.length - k) 0) (P0.drop k)) := by
                      show Bs _ _ _
                      have := HD2.out
                      first
                        | exact this
                        | (rw [show c - k = 0 by omega] at this; exact this)
                    have fr3 := heap_alloc_last W6 (.cells #[.int .i64 N0, .int .i64 m, .slice p (P0.length - k) 0] 52)
                    have k3 := blk_on (bel1 W6 (.cells #[.int .i64 N0, .int .i64 m, .slice p (P0.length - k) 0] 52)) HK2.out
                    have c47 := at47 (W6.alloc (.cells #[.int .i64 N0, .int .i64 m, .slice p (P0.length - k) 0] 52)).drew N0 hN0.out (.int .i64 m) (.slice p (P0.length - k) 0) rfl rfl
                    obtain ⟨a0, a1, a2, -⟩ := three_of fr3
                    obtain ⟨b0, b1, b2, -⟩ := three_of (w := (W6.alloc (.cells #[.int .i64 N0, .int .i64 m, .slice p (P0.length - k) 0] 52)).drew) fr3
                    have HF3 := Lib.hid fr3
                    have HK3 := Lib.hid k3
                    clear fr3 k3 HD2
                    have hpar : (N0 % 2 != (i : Int)) = false := by simp; exact hp
                    go_wp2_with (first
                      | (go_at_call 47; refine c47.mono ?_
                         rintro r w5 ⟨rfl, hw5⟩
                         have hb5 : Below (W6.alloc (.cells #[.int .i64 N0, .int .i64 m, .slice p (P0.length - k) 0] 52)).heap.size (W6.alloc (.cells #[.int .i64 N0, .int .i64 m, .slice p (P0.length - k) 0] 52)) w5 := by rw [hw5]; exact bel_da _ _
                         have k5 := blk_on hb5 HK3.out
                         obtain ⟨d0, d1, d2, -⟩ := three_of (blk_on hb5 HF3.out)
                         obtain ⟨e0, e1, e2, ef⟩ := three_of k5
                         have ef0 := ef 0
                         have ef1 := ef 1
                         have ef2 := ef 2
                         have HB5 := Lib.hid (bel_then (bel1 W6 (.cells #[.int .i64 N0, .int .i64 m, .slice p (P0.length - k) 0] 52)) hb5)
                         clear hw5 hb5 ef))
                    refine bodyPost_ret (v := .agg #[.int .i64 N0, .int .i64 m, .slice p (P0.length - k) 0]) (results52 Tryd.results55 _ _ w.heap.size _ _ _ rfl (blk_put3 k5 _ _ _)) rfl ?_
                    have hln : (P0.drop k).length = P0.length - k := by simp
                    have hres : HdR (N0, m, P0.drop k) w (.returned (.agg #[.int .i64 N0, .int .i64 m, .slice p (P0.length - k) 0])) (put3 w5 w.heap.size (.int .i64 N0) (.int .i64 m) (.slice p (P0.length - k) 0)) := by
                      refine ⟨_, _, by rw [hln], ?_, ?_, ?_⟩
                      · simp only [hln]
                        exact (HD3.out.on HB5.out).grownB (gr_put3 _ _ _ _ _) (fun g o n c' e => by have := HFX g o n c' e; omega)
                      · simp only [hln]
                        exact fun g o n c' e => Nat.le_of_succ_le (HFX g o n c' e)
                      · exact (HB2.out.trans (HB5.out.mono HB2.out.size)).grown (gr_put3 _ _ _ _ _) (Nat.le_trans HB2.out.size HB5.out.size) (fun j e => by injection e with e; omega)
                    exact hres
                  · have HFX : ∀ g o n c', Value.slice (p.map (·.add k)) (P0.length - k) (c - k) = .slice (some ⟨g, o, none⟩) n c' → w.heap.size + 1 ≤ g := fun g o n c' e => by
                      injection e with e
                      cases p with
                      | none => cases e
                      | some a =>
                        obtain ⟨ab, ao, ap⟩ := a
                        have hap : ap = none := by
                          obtain ⟨_, _, e1, -, -, -, h4⟩ := HPV.out
                          injection e1 with e1 e2 e3
                          rcases h4 with h4 | ⟨g1, o1, h5, -⟩
                          · rw [h4] at hk2; simp at hk2; omega
                          · rw [← e1] at h5; injection h5 with h5; injection h5 with _ _ h5
                        subst hap
                        rw [Option.map_some, Go.WideShapes.add_plain] at e
                        injection e with e
                        injection e with e
                        subst e
                        exact HFR.out _ _ _ _ rfl
                    have HD3 : Hid (Bs W6 (.slice (p.map (·.add k)) (P0.length - k) (c - k)) (P0.drop k)) := by
                      show Bs _ _ _
                      have := HD2.out
                      first
                        | exact this
                        | (rw [show c - k = 0 by omega] at this; exact this)
                    have fr3 := heap_alloc_last W6 (.cells #[.int .i64 N0, .int .i64 m, .slice (p.map (·.add k)) (P0.length - k) (c - k)] 52)
                    have k3 := blk_on (bel1 W6 (.cells #[.int .i64 N0, .int .i64 m, .slice (p.map (·.add k)) (P0.length - k) (c - k)] 52)) HK2.out
                    have c47 := at47 (W6.alloc (.cells #[.int .i64 N0, .int .i64 m, .slice (p.map (·.add k)) (P0.length - k) (c - k)] 52)).drew N0 hN0.out (.int .i64 m) (.slice (p.map (·.add k)) (P0.length - k) (c - k)) rfl rfl
                    obtain ⟨a0, a1, a2, -⟩ := three_of fr3
                    obtain ⟨b0, b1, b2, -⟩ := three_of (w := (W6.alloc (.cells #[.int .i64 N0, .int .i64 m, .slice (p.map (·.add k)) (P0.length - k) (c - k)] 52)).drew) fr3
                    have HF3 := Lib.hid fr3
                    have HK3 := Lib.hid k3
                    clear fr3 k3 HD2
                    have hpar : (N0 % 2 != (i : Int)) = false := by simp; exact hp
                    go_wp2_with (first
                      | (go_at_call 47; refine c47.mono ?_
                         rintro r w5 ⟨rfl, hw5⟩
                         have hb5 : Below (W6.alloc (.cells #[.int .i64 N0, .int .i64 m, .slice (p.map (·.add k)) (P0.length - k) (c - k)] 52)).heap.size (W6.alloc (.cells #[.int .i64 N0, .int .i64 m, .slice (p.map (·.add k)) (P0.length - k) (c - k)] 52)) w5 := by rw [hw5]; exact bel_da _ _
                         have k5 := blk_on hb5 HK3.out
                         obtain ⟨d0, d1, d2, -⟩ := three_of (blk_on hb5 HF3.out)
                         obtain ⟨e0, e1, e2, ef⟩ := three_of k5
                         have ef0 := ef 0
                         have ef1 := ef 1
                         have ef2 := ef 2
                         have HB5 := Lib.hid (bel_then (bel1 W6 (.cells #[.int .i64 N0, .int .i64 m, .slice (p.map (·.add k)) (P0.length - k) (c - k)] 52)) hb5)
                         clear hw5 hb5 ef))
                    refine bodyPost_ret (v := .agg #[.int .i64 N0, .int .i64 m, .slice (p.map (·.add k)) (P0.length - k) (c - k)]) (results52 Tryd.results55 _ _ w.heap.size _ _ _ rfl (blk_put3 k5 _ _ _)) rfl ?_
                    have hln : (P0.drop k).length = P0.length - k := by simp
                    have hres : HdR (N0, m, P0.drop k) w (.returned (.agg #[.int .i64 N0, .int .i64 m, .slice (p.map (·.add k)) (P0.length - k) (c - k)])) (put3 w5 w.heap.size (.int .i64 N0) (.int .i64 m) (.slice (p.map (·.add k)) (P0.length - k) (c - k))) := by
                      refine ⟨_, _, by rw [hln], ?_, ?_, ?_⟩
                      · simp only [hln]
                        exact (HD3.out.on HB5.out).grownB (gr_put3 _ _ _ _ _) (fun g o n c' e => by have := HFX g o n c' e; omega)
                      · simp only [hln]
                        exact fun g o n c' e => Nat.le_of_succ_le (HFX g o n c' e)
                      · exact (HB2.out.trans (HB5.out.mono HB2.out.size)).grown (gr_put3 _ _ _ _ _) (Nat.le_trans HB2.out.size HB5.out.size) (fun j e => by injection e with e; omega)
                    exact hres

                · have hE : hdOf (some (K0, N0, P0)) i s.N = (0, 0, []) := by
                    unfold hdOf; simp only; rw [if_pos ⟨hK, hN1, hN2⟩, ht]; simp only
                    unfold Dsk.may at hMy
                    simp at hMy
                    rw [if_neg (fun a => hp a.2)]
                  rw [hE]
                  have hN0 : Hid (0 ≤ N0) := by show _ ≤ _; omega
                  subst hK
                  clear ht hMy hE
                  go_enter Tryd.func55, Tryd.ntmps55
                  go_wp2_with (first
                    | (go_at_call 64; refine cF.mono ?_; rintro e W1 ⟨K, N, P, p, c, rfl, hpv, hfr, hy, hb1⟩
                       have hyy := hy _ rfl
                       injection hyy with q1 q2
                       injection q2 with q2 q3
                       subst q1 q2 q3
                       obtain ⟨W2, hW2⟩ : ∃ W2, W1.alloc (.cells #[.int .i64 1, .int .i64 N0, .slice p P0.length c] 79) = W2 := ⟨_, rfl⟩
                       have b2 : Below W1.heap.size W1 W2 := by rw [← hW2]; exact bel1 W1 _
                       have fr2 : W2.heap[W1.heap.size]? = some (.cells #[.int .i64 1, .int .i64 N0, .slice p P0.length c] 79) := by rw [← hW2]; exact heap_alloc_last W1 _
                       have k2 := blk_on b2 (blk_on hb1 Hb0.out)
                       obtain ⟨v0, v1, v2, -⟩ := three_of fr2
                       obtain ⟨x0, x1, x2, -⟩ := three_of (w := W2.drew) fr2
                       obtain ⟨y0, y1, y2, -⟩ := three_of (blk_on (bel1 W2 (.cells #[.int .i64 0, .int .i64 0, .slice none 0 0] 52)) fr2)
                       have HB2 := Lib.hid ((HB0.out.trans (hb1.mono HB0.out.size)).trans (b2.mono (Nat.le_trans HB0.out.size hb1.size)))
                       have HA2 := Lib.hid (HA0.out.on (bel_then hb1 b2))
                       have HPV := Lib.hid (hpv.on b2)
                       have HFR := Lib.hid (show Fresh (w.heap.size + 1) (.slice p P0.length c) from hfr.mono (Array.getElem?_eq_some_iff.1 Hb0.out).1)
                       have HK2 := Lib.hid k2
                       have hcc : P0.length ≤ c := by obtain ⟨_, _, e, h1, -⟩ := hpv; injection e with _ _ e; omega
                       have hc9 : c ≤ 9223372036854775807 := by obtain ⟨_, _, e, -, h1, -⟩ := hpv; injection e with _ _ e; unfold maxLen at h1; omega
                       clear hpv hfr hy hb1 fr2 b2 k2)
                    | (go_at_call 65; refine (take65_ok _ _ P0 HPV.out hTk.out).mono ?_; rintro e W5 ⟨rfl, hw5⟩; subst hw5)
                    | (go_at_call 25; refine (maySlots25 _ d pb mb s HA2.out m).mono ?_; rintro e W6 ⟨rfl, hw6⟩; subst hw6; rw [hMay.out]))
                  have hd2 := HPV.out.drop (n := k) hk2
                  by_cases hck : c = k
                  all_goals
                    first | rw [if_pos hck] at hd2 | rw [if_neg hck] at hd2
                    have HD2 := Lib.hid hd2
                    clear hd2
                    go_region
                  · have HD3 : Hid (Bs W6 (.slice p (P0.length - k) 0) (P0.drop k)) := by
                      show Bs _ _ _
                      have := HD2.out
                      first
                        | exact this
                        | (rw [show c - k = 0 by omega] at this; exact this)
                    have fr3 := heap_alloc_last W6 (.cells #[.int .i64 N0, .int .i64 m, .slice p (P0.length - k) 0] 52)
                    have k3 := blk_on (bel1 W6 (.cells #[.int .i64 N0, .int .i64 m, .slice p (P0.length - k) 0] 52)) HK2.out
                    have c47 := at47 (W6.alloc (.cells #[.int .i64 N0, .int .i64 m, .slice p (P0.length - k) 0] 52)).drew N0 hN0.out (.int .i64 m) (.slice p (P0.length - k) 0) rfl rfl
                    obtain ⟨a0, a1, a2, -⟩ := three_of fr3
                    obtain ⟨b0, b1, b2, -⟩ := three_of (w := (W6.alloc (.cells #[.int .i64 N0, .int .i64 m, .slice p (P0.length - k) 0] 52)).drew) fr3
                    have HF3 := Lib.hid fr3
                    have HK3 := Lib.hid k3
                    clear fr3 k3 HD2
                    have hpar : (N0 % 2 != (i : Int)) = true := by simp; exact hp
                    go_wp2_with (first
                      | (go_at_call 47; refine c47.mono ?_
                         rintro r w5 ⟨rfl, hw5⟩
                         have hb5 : Below (W6.alloc (.cells #[.int .i64 N0, .int .i64 m, .slice p (P0.length - k) 0] 52)).heap.size (W6.alloc (.cells #[.int .i64 N0, .int .i64 m, .slice p (P0.length - k) 0] 52)) w5 := by rw [hw5]; exact bel_da _ _
                         have k5 := blk_on hb5 HK3.out
                         obtain ⟨d0, d1, d2, -⟩ := three_of (blk_on hb5 HF3.out)
                         obtain ⟨e0, e1, e2, ef⟩ := three_of k5
                         have ef0 := ef 0
                         have ef1 := ef 1
                         have ef2 := ef 2
                         have HB5 := Lib.hid (bel_then (bel1 W6 (.cells #[.int .i64 N0, .int .i64 m, .slice p (P0.length - k) 0] 52)) hb5)
                         clear hw5 hb5 ef))
                    refine bodyPost_ret (v := .agg #[.int .i64 0, .int .i64 0, .slice none 0 0]) (results52 Tryd.results55 _ _ w.heap.size _ _ _ rfl (blk_put3 k5 _ _ _)) rfl (hdR_none ?_)
                    exact (HB2.out.trans (HB5.out.mono HB2.out.size)).grown (gr_put3 _ _ _ _ _) (Nat.le_trans HB2.out.size HB5.out.size) (fun j e => by injection e with e; omega)
                  · have HD3 : Hid (Bs W6 (.slice (p.map (·.add k)) (P0.length - k) (c - k)) (P0.drop k)) := by
                      show Bs _ _ _
                      have := HD2.out
                      first
                        | exact this
                        | (rw [show c - k = 0 by omega] at this; exact this)
                    have fr3 := heap_alloc_last W6 (.cells #[.int .i64 N0, .int .i64 m, .slice (p.map (·.add k)) (P0.length - k) (c - k)] 52)
                    have k3 := blk_on (bel1 W6 (.cells #[.int .i64 N0, .int .i64 m, .slice (p.map (·.add k)) (P0.length - k) (c - k)] 52)) HK2.out
                    have c47 := at47 (W6.alloc (.cells #[.int .i64 N0, .int .i64 m, .slice (p.map (·.add k)) (P0.length - k) (c - k)] 52)).drew N0 hN0.out (.int .i64 m) (.slice (p.map (·.add k)) (P0.length - k) (c - k)) rfl rfl
                    obtain ⟨a0, a1, a2, -⟩ := three_of fr3
                    obtain ⟨b0, b1, b2, -⟩ := three_of (w := (W6.alloc (.cells #[.int .i64 N0, .int .i64 m, .slice (p.map (·.add k)) (P0.length - k) (c - k)] 52)).drew) fr3
                    have HF3 := Lib.hid fr3
                    have HK3 := Lib.hid k3
                    clear fr3 k3 HD2
                    have hpar : (N0 % 2 != (i : Int)) = true := by simp; exact hp
                    go_wp2_with (first
                      | (go_at_call 47; refine c47.mono ?_
                         rintro r w5 ⟨rfl, hw5⟩
                         have hb5 : Below (W6.alloc (.cells #[.int .i64 N0, .int .i64 m, .slice (p.map (·.add k)) (P0.length - k) (c - k)] 52)).heap.size (W6.alloc (.cells #[.int .i64 N0, .int .i64 m, .slice (p.map (·.add k)) (P0.length - k) (c - k)] 52)) w5 := by rw [hw5]; exact bel_da _ _
                         have k5 := blk_on hb5 HK3.out
                         obtain ⟨d0, d1, d2, -⟩ := three_of (blk_on hb5 HF3.out)
                         obtain ⟨e0, e1, e2, ef⟩ := three_of k5
                         have ef0 := ef 0
                         have ef1 := ef 1
                         have ef2 := ef 2
                         have HB5 := Lib.hid (bel_then (bel1 W6 (.cells #[.int .i64 N0, .int .i64 m, .slice (p.map (·.add k)) (P0.length - k) (c - k)] 52)) hb5)
                         clear hw5 hb5 ef))
                    refine bodyPost_ret (v := .agg #[.int .i64 0, .int .i64 0, .slice none 0 0]) (results52 Tryd.results55 _ _ w.heap.size _ _ _ rfl (blk_put3 k5 _ _ _)) rfl (hdR_none ?_)
                    exact (HB2.out.trans (HB5.out.mono HB2.out.size)).grown (gr_put3 _ _ _ _ _) (Nat.le_trans HB2.out.size HB5.out.size) (fun j e => by injection e with e; omega)

            · have hmz : (4096 : Int) < (m : Int) := by omega
              have hE : hdOf (some (K0, N0, P0)) i s.N = (0, 0, []) := by
                unfold hdOf; simp only; rw [if_pos ⟨hK, hN1, hN2⟩, ht]; simp only; rw [if_neg (by omega)]
              subst hK
              clear ht
              rw [hE]
              go_enter Tryd.func55, Tryd.ntmps55
              go_wp2_with (first
      | (go_at_call 64; refine cF.mono ?_; rintro e W1 ⟨K, N, P, p, c, rfl, hpv, hfr, hy, hb1⟩
         have hyy := hy _ rfl
         injection hyy with q1 q2
         injection q2 with q2 q3
         subst q1 q2 q3
         have k1 := blk_on hb1 Hb0.out
         have k2 := blk_on (bel1 W1 (.cells #[.int .i64 1, .int .i64 N0, .slice p P0.length c] 79)) k1
         have fr2 := heap_alloc_last W1 (.cells #[.int .i64 1, .int .i64 N0, .slice p P0.length c] 79)
         obtain ⟨u0, u1, u2, uf⟩ := three_of k2
         obtain ⟨v0, v1, v2, -⟩ := three_of fr2
         have uf0 := uf 0
         have uf1 := uf 1
         have uf2 := uf 2
         have HB1 := Lib.hid hb1
         have HB2 := Lib.hid ((HB0.out.trans (hb1.mono HB0.out.size)).alloc (Nat.le_trans HB0.out.size hb1.size) (.cells #[.int .i64 1, .int .i64 N0, .slice p P0.length c] 79))
         have HPV := Lib.hid (hpv.on (bel1 W1 (.cells #[.int .i64 1, .int .i64 N0, .slice p P0.length c] 79)))
         have HFR := Lib.hid hfr
         have HK2 := Lib.hid k2
         clear hpv hfr hy hb1 uf k1 fr2)
      | (go_at_call 65; refine (take65_ok _ _ P0 HPV.out hTk.out).mono ?_; rintro e W5 ⟨rfl, rfl⟩))
              refine bodyPost_ret (v := .agg #[.int .i64 0, .int .i64 0, .slice none 0 0]) (results52 Tryd.results55 _ _ w.heap.size _ _ _ rfl (blk_put3 HK2.out _ _ _)) rfl (hdR_none ?_)
              exact HB2.out.grown (gr_put3 _ _ _ _ _) HB2.out.size (fun k e => by injection e with e; omega)
        · have hN3 : (1099511627776 : Int) < N0 := by omega
          have hE : hdOf (some (K0, N0, P0)) i s.N = (0, 0, []) := by unfold hdOf; simp only; rw [if_neg (by omega)]
          subst hK
          rw [hE]
          go_enter Tryd.func55, Tryd.ntmps55
          go_wp2_with (first
      | (go_at_call 64; refine cF.mono ?_; rintro e W1 ⟨K, N, P, p, c, rfl, hpv, hfr, hy, hb1⟩
         have hyy := hy _ rfl
         injection hyy with q1 q2
         injection q2 with q2 q3
         subst q1 q2 q3
         have k1 := blk_on hb1 Hb0.out
         have k2 := blk_on (bel1 W1 (.cells #[.int .i64 1, .int .i64 N0, .slice p P0.length c] 79)) k1
         have fr2 := heap_alloc_last W1 (.cells #[.int .i64 1, .int .i64 N0, .slice p P0.length c] 79)
         obtain ⟨u0, u1, u2, uf⟩ := three_of k2
         obtain ⟨v0, v1, v2, -⟩ := three_of fr2
         have uf0 := uf 0
         have uf1 := uf 1
         have uf2 := uf 2
         have HB1 := Lib.hid hb1
         have HB2 := Lib.hid ((HB0.out.trans (hb1.mono HB0.out.size)).alloc (Nat.le_trans HB0.out.size hb1.size) (.cells #[.int .i64 1, .int .i64 N0, .slice p P0.length c] 79))
         have HPV := Lib.hid (hpv.on (bel1 W1 (.cells #[.int .i64 1, .int .i64 N0, .slice p P0.length c] 79)))
         have HFR := Lib.hid hfr
         have HK2 := Lib.hid k2
         clear hpv hfr hy hb1 uf k1 fr2))
          refine bodyPost_ret (v := .agg #[.int .i64 0, .int .i64 0, .slice none 0 0]) (results52 Tryd.results55 _ _ w.heap.size _ _ _ rfl (blk_put3 HK2.out _ _ _)) rfl (hdR_none ?_)
          exact HB2.out.grown (gr_put3 _ _ _ _ _) HB2.out.size (fun k e => by injection e with e; omega)
      · have hN3 : N0 < (1 : Int) := by omega
        have hE : hdOf (some (K0, N0, P0)) i s.N = (0, 0, []) := by unfold hdOf; simp only; rw [if_neg (by omega)]
        subst hK
        rw [hE]
        go_enter Tryd.func55, Tryd.ntmps55
        go_wp2_with (first
      | (go_at_call 64; refine cF.mono ?_; rintro e W1 ⟨K, N, P, p, c, rfl, hpv, hfr, hy, hb1⟩
         have hyy := hy _ rfl
         injection hyy with q1 q2
         injection q2 with q2 q3
         subst q1 q2 q3
         have k1 := blk_on hb1 Hb0.out
         have k2 := blk_on (bel1 W1 (.cells #[.int .i64 1, .int .i64 N0, .slice p P0.length c] 79)) k1
         have fr2 := heap_alloc_last W1 (.cells #[.int .i64 1, .int .i64 N0, .slice p P0.length c] 79)
         obtain ⟨u0, u1, u2, uf⟩ := three_of k2
         obtain ⟨v0, v1, v2, -⟩ := three_of fr2
         have uf0 := uf 0
         have uf1 := uf 1
         have uf2 := uf 2
         have HB1 := Lib.hid hb1
         have HB2 := Lib.hid ((HB0.out.trans (hb1.mono HB0.out.size)).alloc (Nat.le_trans HB0.out.size hb1.size) (.cells #[.int .i64 1, .int .i64 N0, .slice p P0.length c] 79))
         have HPV := Lib.hid (hpv.on (bel1 W1 (.cells #[.int .i64 1, .int .i64 N0, .slice p P0.length c] 79)))
         have HFR := Lib.hid hfr
         have HK2 := Lib.hid k2
         clear hpv hfr hy hb1 uf k1 fr2))
        refine bodyPost_ret (v := .agg #[.int .i64 0, .int .i64 0, .slice none 0 0]) (results52 Tryd.results55 _ _ w.heap.size _ _ _ rfl (blk_put3 HK2.out _ _ _)) rfl (hdR_none ?_)
        exact HB2.out.grown (gr_put3 _ _ _ _ _) HB2.out.size (fun k e => by injection e with e; omega)
    · have hK2 : (K0 != 1) = true := by simp; exact hK
      have hE : hdOf (some (K0, N0, P0)) i s.N = (0, 0, []) := by unfold hdOf; simp only; rw [if_neg (by omega)]
      rw [hE]
      go_enter Tryd.func55, Tryd.ntmps55
      go_wp2_with (first
      | (go_at_call 64; refine cF.mono ?_; rintro e W1 ⟨K, N, P, p, c, rfl, hpv, hfr, hy, hb1⟩
         have hyy := hy _ rfl
         injection hyy with q1 q2
         injection q2 with q2 q3
         subst q1 q2 q3
         have k1 := blk_on hb1 Hb0.out
         have k2 := blk_on (bel1 W1 (.cells #[.int .i64 K0, .int .i64 N0, .slice p P0.length c] 79)) k1
         have fr2 := heap_alloc_last W1 (.cells #[.int .i64 K0, .int .i64 N0, .slice p P0.length c] 79)
         obtain ⟨u0, u1, u2, uf⟩ := three_of k2
         obtain ⟨v0, v1, v2, -⟩ := three_of fr2
         have uf0 := uf 0
         have uf1 := uf 1
         have uf2 := uf 2
         have HB1 := Lib.hid hb1
         have HB2 := Lib.hid ((HB0.out.trans (hb1.mono HB0.out.size)).alloc (Nat.le_trans HB0.out.size hb1.size) (.cells #[.int .i64 K0, .int .i64 N0, .slice p P0.length c] 79))
         have HPV := Lib.hid (hpv.on (bel1 W1 (.cells #[.int .i64 K0, .int .i64 N0, .slice p P0.length c] 79)))
         have HFR := Lib.hid hfr
         have HK2 := Lib.hid k2
         clear hpv hfr hy hb1 uf k1 fr2))
      refine bodyPost_ret (v := .agg #[.int .i64 0, .int .i64 0, .slice none 0 0]) (results52 Tryd.results55 _ _ w.heap.size _ _ _ rfl (blk_put3 HK2.out _ _ _)) rfl (hdR_none ?_)
      exact HB2.out.grown (gr_put3 _ _ _ _ _) HB2.out.size (fun k e => by injection e with e; omega)
end Go.Proofs.YtnclhjjhobbbjaaDoor
