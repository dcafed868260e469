/-
  PagerFormat: the walk.
-/
import Derived.Test.YtfakgfmgofblgaaGreatDoorZGtBgsBgnZpNil
namespace Go.Proofs.YtfakgfmgofblgaaGreatDoor
open Go.RowKit Go.Maps
set_option linter.unusedVariables false      -- a walk need not use every condition
attribute [local go_sem ↓] Go.wp_at_zero Go.wp_at_succ

theorem wpList_buildZ (Z : List Value) (hZ : Tryz.prog.built 69 [] = some Z.toArray) {ops : Array Oper} {rest : List Oper} {op : Oper} {act : Act} {w : World} {Q : Exit → Act → World → Prop} (hgd : op.guard = none) (ho : op.op = .build 69 #[])
    (h : wpList Tryz.prog ops Q rest (act.put op.dst (.agg Z.toArray)) w) : wpList Tryz.prog ops Q (op :: rest) act w := by
  have e : Tryz.prog.built 69 ((#[] : Array (Nat × Operand)).map fun (i, x) => (i, act.eval x)).toList = some Z.toArray := by simpa using hZ
  refine wpList_build hgd 69 _ ho (by rw [e]; rfl) ?_
  rw [e]
  exact h
theorem NoP.on {w w' : World} {a : Option Addr} (h : NoP w a) (hb : Below w.heap.size w w') : NoP w' a := by
  rcases h with h | ⟨p, h1, h2⟩
  · exact .inl h
  · exact .inr ⟨p, h1, cell_on hb h2⟩
theorem empty_count : Ba.empty.count = 1 := by decide +kernel
set_option maxHeartbeats 16000000 in
set_option maxRecDepth 100000 in
theorem format5 (w : World) (hT : TabOk w) (sectors slots pages pool : Int) : Calls Tryz.prog 5 #[.int .i64 sectors, .int .i64 slots, .int .i64 pages, .int .i64 pool] w fun e w' => e = .returned (.bool true) ∧ Below w.heap.size w w' := by
  have c8 := begun8 w hT
  obtain ⟨Z, hZ, hZ3⟩ := built69z
  have HT := Lib.hid hT
  clear hT
  go_enter Tryz.func5, Tryz.ntmps5
  go_wp2_with (first
    | (go_at_call 8; refine c8.mono ?_; rintro e w1 ⟨rfl, hb1⟩; have HB1 := Lib.hid hb1; clear hb1 c8)
    | (with_reducible show wpList _ _ _ (Oper.mk _ (Op.build 69 _) _ _ _ _ :: _) _ _
       refine wpList_buildZ Z hZ rfl rfl ?_)
    | (with_reducible show wpList _ _ _ (Oper.mk _ (Op.box 69 _) _ _ _ _ :: _) _ _
       refine wpList_boxZ 69 Z rfl _ rfl rfl ?_
       intro w2 B2 s2 L2
       have HN2 : Hid (NoP w2 (some ⟨w1.heap.size, 0, none⟩)) := .inr ⟨_, rfl, by have := L2.rg 3 _ hZ3; simpa using this⟩
       have HB2 : Hid (Below w.heap.size w w2) := bel_then HB1.out B2
       clear B2 L2))
  obtain ⟨W, hW⟩ : ∃ W, w2.alloc (.cells #[.pointer none, .pointer (some ⟨w1.heap.size, 0, none⟩)] 24) = W := ⟨_, rfl⟩
  have b3 : Below w2.heap.size w2 W := by rw [← hW]; exact bel1 w2 _
  have k3 : W.heap[w2.heap.size]? = some (.cells #[.pointer none, .pointer (some ⟨w1.heap.size, 0, none⟩)] 24) := by rw [← hW]; exact heap_alloc_last w2 _
  have x0 : W.cell? ⟨w2.heap.size, 0, none⟩ = some (.pointer none) := by simp [World.cell?, k3]
  have x1 : W.cell? ⟨w2.heap.size, 1, none⟩ = some (.pointer (some ⟨w1.heap.size, 0, none⟩)) := by simp [World.cell?, k3]
  have HN3 := Lib.hid (HN2.out.on b3)
  have HB3 := Lib.hid (bel_then HB2.out b3)
  have HT3 := Lib.hid (tab_on HT.out HB3.out)
  rw [hW]
  clear hW b3 k3
  go_loopg [29] 2 (fun gk s29 wr => ∃ i : Nat, i + gk = 2 ∧ s29 = .int .i64 i ∧ wr = W)
  case atStart => exact ⟨0, rfl, rfl, rfl⟩
  case round =>
    obtain ⟨i, hgi, rfl, rfl⟩ := hrel
    cases gk with
    | zero =>
      obtain rfl : i = 2 := by omega
      have c11 := openNil11 wr
      have c35 := formatNil35 wr
      have HTr := Lib.hid HT3.out
      clear x0 x1
      go_upto_region 15 with (first
        | (go_at_call 11; refine c11.mono ?_; rintro e w' ⟨rfl, ew⟩; rw [ew]; clear ew w')
        | (go_at_call 35; refine c35.mono ?_; rintro e w' ⟨rfl, ew⟩; rw [ew]; clear ew w'))
      clear c11 c35
      by_cases hs1 : sectors < 1
      · go_wp2
        go_ret
        exact ⟨rfl, HB3.out⟩
      by_cases hs2 : 16384 < sectors
      · go_wp2
        go_ret
        exact ⟨rfl, HB3.out⟩
      obtain ⟨N, rfl⟩ : ∃ N : Nat, sectors = N := ⟨sectors.toNat, by omega⟩
      have c36 := new36 N (by omega) (by omega) wr
      by_cases a1 : 1 ≤ slots
      · by_cases a2 : slots ≤ 4096
        · by_cases a3 : 2 ≤ pages
          · by_cases a4 : pages ≤ 2048
            · have e1 : IntKind.i64.wrap ((N : Int) - 2) = (N : Int) - 2 := by rw [IntKind.wrap_i64]; omega
              have e2 : IntKind.i64.wrap ((N : Int) - 2 - slots) = (N : Int) - 2 - slots := by rw [IntKind.wrap_i64]; omega
              have e3 : IntKind.i64.wrap (4 * pages) = 4 * pages := by rw [IntKind.wrap_i64]; omega
              by_cases a5 : 4 * pages ≤ (N : Int) - 2 - slots
              · obtain ⟨S, rfl⟩ : ∃ S : Nat, slots = S := ⟨slots.toNat, by omega⟩
                obtain ⟨Pn, rfl⟩ : ∃ Pn : Nat, pages = Pn := ⟨pages.toNat, by omega⟩
                have c35 := fun (W : World) (d pb mb : Nat) (hA : At W d pb mb (made N)) (hTW : TabOk W) => format35 W d pb mb _ N _ hA hTW (made_rdy _) frO_zer frO_zer S Pn (by omega) (by omega) (by omega) (by omega) (by omega)
                have e4 : IntKind.i64.wrap ((Pn : Int) - 1) = (Pn : Int) - 1 := by rw [IntKind.wrap_i64]; omega
                by_cases p1 : pool < 8
                · have hpr : pool < 8 ∨ 256 < pool := .inl p1
                  go_wp2_with (first
                    | (go_at_call 36; refine c36.mono ?_; rintro e w4 ⟨rfl, hA4, hb4⟩; have HA4 := Lib.hid hA4; have HT4 := Lib.hid (tab_on HTr.out hb4); have HB4 := Lib.hid (bel_then HB3.out hb4); clear hA4 hb4)
                    | (go_at_call 35; refine (c35 _ _ _ _ HA4.out HT4.out).mono ?_; rintro e w5 ⟨s5, rfl, hA5, hF5, hK5, hT5⟩; have HB5 : Hid (Below w.heap.size w w5) := HB4.out.trans (hK5.below (by have := HB3.out.size; omega) HB3.out.size (by have := HB3.out.size; omega) HB4.out.size); have HA5 := Lib.hid hA5; have HF5 := Lib.hid hF5; have HT5 := Lib.hid hT5; clear hA5 hF5 hT5 hK5)
                    | (go_at_call 11; refine (openArg11 _ _ _ _ _ HA5.out HF5.out.wl.cl.down pool hpr).mono ?_; rintro e w6 ⟨rfl, ew⟩; rw [ew]; clear ew w6))
                  go_ret
                  exact ⟨rfl, HB5.out⟩
                · by_cases p2 : 256 < pool
                  · have hpr : pool < 8 ∨ 256 < pool := .inr p2
                    go_wp2_with (first
                      | (go_at_call 36; refine c36.mono ?_; rintro e w4 ⟨rfl, hA4, hb4⟩; have HA4 := Lib.hid hA4; have HT4 := Lib.hid (tab_on HTr.out hb4); have HB4 := Lib.hid (bel_then HB3.out hb4); clear hA4 hb4)
                      | (go_at_call 35; refine (c35 _ _ _ _ HA4.out HT4.out).mono ?_; rintro e w5 ⟨s5, rfl, hA5, hF5, hK5, hT5⟩; have HB5 : Hid (Below w.heap.size w w5) := HB4.out.trans (hK5.below (by have := HB3.out.size; omega) HB3.out.size (by have := HB3.out.size; omega) HB4.out.size); have HA5 := Lib.hid hA5; have HF5 := Lib.hid hF5; have HT5 := Lib.hid hT5; clear hA5 hF5 hT5 hK5)
                      | (go_at_call 11; refine (openArg11 _ _ _ _ _ HA5.out HF5.out.wl.cl.down pool hpr).mono ?_; rintro e w6 ⟨rfl, ew⟩; rw [ew]; clear ew w6))
                    go_ret
                    exact ⟨rfl, HB5.out⟩
                  · obtain ⟨R, rfl⟩ : ∃ R : Nat, pool = R := ⟨pool.toNat, by omega⟩
                    go_wp2_with (first
                      | (go_at_call 36; refine c36.mono ?_; rintro e w4 ⟨rfl, hA4, hb4⟩; have HA4 := Lib.hid hA4; have HT4 := Lib.hid (tab_on HTr.out hb4); have HB4 := Lib.hid (bel_then HB3.out hb4); clear hA4 hb4)
                      | (go_at_call 35; refine (c35 _ _ _ _ HA4.out HT4.out).mono ?_; rintro e w5 ⟨s5, rfl, hA5, hF5, hK5, hT5⟩; have HB5 : Hid (Below w.heap.size w w5) := HB4.out.trans (hK5.below (by have := HB3.out.size; omega) HB3.out.size (by have := HB3.out.size; omega) HB4.out.size); have HA5 := Lib.hid hA5; have HF5 := Lib.hid hF5; have HT5 := Lib.hid hT5; clear hA5 hF5 hT5 hK5)
                      | (go_at_call 11; refine (openF11 _ _ _ _ _ HA5.out HT5.out R (by omega) (by omega) HF5.out (by omega) (by omega) (by omega) (by omega) (by omega)).mono ?_
                         rintro e w6 ⟨l, p, ms, mk, ml, base, s6, rfl, -, -, hS6, -, hK6⟩
                         have HB6 : Hid (Below w.heap.size w w6) := HB5.out.trans (hK6.below (by have := HB3.out.size; omega) HB3.out.size (by have := HB3.out.size; omega) HB5.out.size)
                         have c14 := pages14 w6 _ _ _ _ _ _ _ _ _ hS6.pg
                         have c15 := left15 w6 _ _ _ _ _ _ _ _ _ hS6.pg
                         rw [show (((Pgr.new S Pn Ba.empty R).pages : Int) - ((Pgr.new S Pn Ba.empty R).now.count : Int)) = (Pn : Int) - 1 by show (Pn : Int) - ((Ba.empty.count : Nat) : Int) = _; rw [empty_count]; rfl] at c15
                         rw [show (((Pgr.new S Pn Ba.empty R).pages : Nat) : Int) = (Pn : Int) from rfl] at c14
                         clear hS6 hK6)
                      | (go_at_call 14; refine c14.mono ?_; rintro e w' ⟨rfl, ew⟩; rw [ew]; clear ew w')
                      | (go_at_call 15; refine c15.mono ?_; rintro e w7 ⟨rfl, hb7⟩; have HB7 := Lib.hid (bel_then HB6.out hb7); clear hb7))
                    go_ret
                    exact ⟨rfl, HB7.out⟩
              · have hm : (made N).lmay slots pages = false := by
                  unfold Dsk.lmay made
                  simp
                  omega
                by_cases p1 : pool < 8
                · have hpr : pool < 8 ∨ 256 < pool := .inl p1
                  go_wp2_with (first
                    | (go_at_call 36; refine c36.mono ?_; rintro e w4 ⟨rfl, hA4, hb4⟩; have HA4 := Lib.hid hA4; have HT4 := Lib.hid (tab_on HTr.out hb4); have HB4 := Lib.hid (bel_then HB3.out hb4); clear hA4 hb4)
                    | (go_at_call 35; refine (format35_no _ _ _ _ _ HA4.out slots pages hm).mono ?_; rintro e w5 ⟨rfl, hb5⟩; have HA5 := Lib.hid (HA4.out.on hb5); have HT5 := Lib.hid (tab_on HT4.out hb5); have HB5 := Lib.hid (bel_then HB4.out hb5); clear hb5)
                    | (go_at_call 11; refine (openArg11 _ _ _ _ _ HA5.out rfl pool hpr).mono ?_; rintro e w6 ⟨rfl, ew⟩; rw [ew]; clear ew w6))
                  go_ret
                  exact ⟨rfl, HB5.out⟩
                · by_cases p2 : 256 < pool
                  · have hpr : pool < 8 ∨ 256 < pool := .inr p2
                    go_wp2_with (first
                      | (go_at_call 36; refine c36.mono ?_; rintro e w4 ⟨rfl, hA4, hb4⟩; have HA4 := Lib.hid hA4; have HT4 := Lib.hid (tab_on HTr.out hb4); have HB4 := Lib.hid (bel_then HB3.out hb4); clear hA4 hb4)
                      | (go_at_call 35; refine (format35_no _ _ _ _ _ HA4.out slots pages hm).mono ?_; rintro e w5 ⟨rfl, hb5⟩; have HA5 := Lib.hid (HA4.out.on hb5); have HT5 := Lib.hid (tab_on HT4.out hb5); have HB5 := Lib.hid (bel_then HB4.out hb5); clear hb5)
                      | (go_at_call 11; refine (openArg11 _ _ _ _ _ HA5.out rfl pool hpr).mono ?_; rintro e w6 ⟨rfl, ew⟩; rw [ew]; clear ew w6))
                    go_ret
                    exact ⟨rfl, HB5.out⟩
                  · go_wp2_with (first
                      | (go_at_call 36; refine c36.mono ?_; rintro e w4 ⟨rfl, hA4, hb4⟩; have HA4 := Lib.hid hA4; have HT4 := Lib.hid (tab_on HTr.out hb4); have HB4 := Lib.hid (bel_then HB3.out hb4); clear hA4 hb4)
                      | (go_at_call 35; refine (format35_no _ _ _ _ _ HA4.out slots pages hm).mono ?_; rintro e w5 ⟨rfl, hb5⟩; have HA5 := Lib.hid (HA4.out.on hb5); have HT5 := Lib.hid (tab_on HT4.out hb5); have HB5 := Lib.hid (bel_then HB4.out hb5); clear hb5)
                      | (go_at_call 11; refine (openLog11 _ _ _ _ _ HA5.out HT5.out rfl frO_zer frO_zer pool (by omega) (by omega)).mono ?_; rintro e w6 ⟨rfl, hb6⟩; have HB6 := Lib.hid (bel_then HB5.out hb6); clear hb6))
                    all_goals first
                      | (go_ret; exact ⟨rfl, HB6.out⟩)
                      | (exfalso; rename_i hq; simp at hq; omega)
            · have hm : (made N).lmay slots pages = false := by
                unfold Dsk.lmay made
                simp
                omega
              by_cases p1 : pool < 8
              · have hpr : pool < 8 ∨ 256 < pool := .inl p1
                go_wp2_with (first
                  | (go_at_call 36; refine c36.mono ?_; rintro e w4 ⟨rfl, hA4, hb4⟩; have HA4 := Lib.hid hA4; have HT4 := Lib.hid (tab_on HTr.out hb4); have HB4 := Lib.hid (bel_then HB3.out hb4); clear hA4 hb4)
                  | (go_at_call 35; refine (format35_no _ _ _ _ _ HA4.out slots pages hm).mono ?_; rintro e w5 ⟨rfl, hb5⟩; have HA5 := Lib.hid (HA4.out.on hb5); have HT5 := Lib.hid (tab_on HT4.out hb5); have HB5 := Lib.hid (bel_then HB4.out hb5); clear hb5)
                  | (go_at_call 11; refine (openArg11 _ _ _ _ _ HA5.out rfl pool hpr).mono ?_; rintro e w6 ⟨rfl, ew⟩; rw [ew]; clear ew w6))
                go_ret
                exact ⟨rfl, HB5.out⟩
              · by_cases p2 : 256 < pool
                · have hpr : pool < 8 ∨ 256 < pool := .inr p2
                  go_wp2_with (first
                    | (go_at_call 36; refine c36.mono ?_; rintro e w4 ⟨rfl, hA4, hb4⟩; have HA4 := Lib.hid hA4; have HT4 := Lib.hid (tab_on HTr.out hb4); have HB4 := Lib.hid (bel_then HB3.out hb4); clear hA4 hb4)
                    | (go_at_call 35; refine (format35_no _ _ _ _ _ HA4.out slots pages hm).mono ?_; rintro e w5 ⟨rfl, hb5⟩; have HA5 := Lib.hid (HA4.out.on hb5); have HT5 := Lib.hid (tab_on HT4.out hb5); have HB5 := Lib.hid (bel_then HB4.out hb5); clear hb5)
                    | (go_at_call 11; refine (openArg11 _ _ _ _ _ HA5.out rfl pool hpr).mono ?_; rintro e w6 ⟨rfl, ew⟩; rw [ew]; clear ew w6))
                  go_ret
                  exact ⟨rfl, HB5.out⟩
                · go_wp2_with (first
                    | (go_at_call 36; refine c36.mono ?_; rintro e w4 ⟨rfl, hA4, hb4⟩; have HA4 := Lib.hid hA4; have HT4 := Lib.hid (tab_on HTr.out hb4); have HB4 := Lib.hid (bel_then HB3.out hb4); clear hA4 hb4)
                    | (go_at_call 35; refine (format35_no _ _ _ _ _ HA4.out slots pages hm).mono ?_; rintro e w5 ⟨rfl, hb5⟩; have HA5 := Lib.hid (HA4.out.on hb5); have HT5 := Lib.hid (tab_on HT4.out hb5); have HB5 := Lib.hid (bel_then HB4.out hb5); clear hb5)
                    | (go_at_call 11; refine (openLog11 _ _ _ _ _ HA5.out HT5.out rfl frO_zer frO_zer pool (by omega) (by omega)).mono ?_; rintro e w6 ⟨rfl, hb6⟩; have HB6 := Lib.hid (bel_then HB5.out hb6); clear hb6))
                  all_goals first
                    | (go_ret; exact ⟨rfl, HB6.out⟩)
                    | (exfalso; rename_i hq; simp at hq; omega)
          · have hm : (made N).lmay slots pages = false := by
              unfold Dsk.lmay made
              simp
              omega
            by_cases p1 : pool < 8
            · have hpr : pool < 8 ∨ 256 < pool := .inl p1
              go_wp2_with (first
                | (go_at_call 36; refine c36.mono ?_; rintro e w4 ⟨rfl, hA4, hb4⟩; have HA4 := Lib.hid hA4; have HT4 := Lib.hid (tab_on HTr.out hb4); have HB4 := Lib.hid (bel_then HB3.out hb4); clear hA4 hb4)
                | (go_at_call 35; refine (format35_no _ _ _ _ _ HA4.out slots pages hm).mono ?_; rintro e w5 ⟨rfl, hb5⟩; have HA5 := Lib.hid (HA4.out.on hb5); have HT5 := Lib.hid (tab_on HT4.out hb5); have HB5 := Lib.hid (bel_then HB4.out hb5); clear hb5)
                | (go_at_call 11; refine (openArg11 _ _ _ _ _ HA5.out rfl pool hpr).mono ?_; rintro e w6 ⟨rfl, ew⟩; rw [ew]; clear ew w6))
              go_ret
              exact ⟨rfl, HB5.out⟩
            · by_cases p2 : 256 < pool
              · have hpr : pool < 8 ∨ 256 < pool := .inr p2
                go_wp2_with (first
                  | (go_at_call 36; refine c36.mono ?_; rintro e w4 ⟨rfl, hA4, hb4⟩; have HA4 := Lib.hid hA4; have HT4 := Lib.hid (tab_on HTr.out hb4); have HB4 := Lib.hid (bel_then HB3.out hb4); clear hA4 hb4)
                  | (go_at_call 35; refine (format35_no _ _ _ _ _ HA4.out slots pages hm).mono ?_; rintro e w5 ⟨rfl, hb5⟩; have HA5 := Lib.hid (HA4.out.on hb5); have HT5 := Lib.hid (tab_on HT4.out hb5); have HB5 := Lib.hid (bel_then HB4.out hb5); clear hb5)
                  | (go_at_call 11; refine (openArg11 _ _ _ _ _ HA5.out rfl pool hpr).mono ?_; rintro e w6 ⟨rfl, ew⟩; rw [ew]; clear ew w6))
                go_ret
                exact ⟨rfl, HB5.out⟩
              · go_wp2_with (first
                  | (go_at_call 36; refine c36.mono ?_; rintro e w4 ⟨rfl, hA4, hb4⟩; have HA4 := Lib.hid hA4; have HT4 := Lib.hid (tab_on HTr.out hb4); have HB4 := Lib.hid (bel_then HB3.out hb4); clear hA4 hb4)
                  | (go_at_call 35; refine (format35_no _ _ _ _ _ HA4.out slots pages hm).mono ?_; rintro e w5 ⟨rfl, hb5⟩; have HA5 := Lib.hid (HA4.out.on hb5); have HT5 := Lib.hid (tab_on HT4.out hb5); have HB5 := Lib.hid (bel_then HB4.out hb5); clear hb5)
                  | (go_at_call 11; refine (openLog11 _ _ _ _ _ HA5.out HT5.out rfl frO_zer frO_zer pool (by omega) (by omega)).mono ?_; rintro e w6 ⟨rfl, hb6⟩; have HB6 := Lib.hid (bel_then HB5.out hb6); clear hb6))
                all_goals first
                  | (go_ret; exact ⟨rfl, HB6.out⟩)
                  | (exfalso; rename_i hq; simp at hq; omega)
        · have hm : (made N).lmay slots pages = false := by
            unfold Dsk.lmay made
            simp
            omega
          by_cases p1 : pool < 8
          · have hpr : pool < 8 ∨ 256 < pool := .inl p1
            go_wp2_with (first
              | (go_at_call 36; refine c36.mono ?_; rintro e w4 ⟨rfl, hA4, hb4⟩; have HA4 := Lib.hid hA4; have HT4 := Lib.hid (tab_on HTr.out hb4); have HB4 := Lib.hid (bel_then HB3.out hb4); clear hA4 hb4)
              | (go_at_call 35; refine (format35_no _ _ _ _ _ HA4.out slots pages hm).mono ?_; rintro e w5 ⟨rfl, hb5⟩; have HA5 := Lib.hid (HA4.out.on hb5); have HT5 := Lib.hid (tab_on HT4.out hb5); have HB5 := Lib.hid (bel_then HB4.out hb5); clear hb5)
              | (go_at_call 11; refine (openArg11 _ _ _ _ _ HA5.out rfl pool hpr).mono ?_; rintro e w6 ⟨rfl, ew⟩; rw [ew]; clear ew w6))
            go_ret
            exact ⟨rfl, HB5.out⟩
          · by_cases p2 : 256 < pool
            · have hpr : pool < 8 ∨ 256 < pool := .inr p2
              go_wp2_with (first
                | (go_at_call 36; refine c36.mono ?_; rintro e w4 ⟨rfl, hA4, hb4⟩; have HA4 := Lib.hid hA4; have HT4 := Lib.hid (tab_on HTr.out hb4); have HB4 := Lib.hid (bel_then HB3.out hb4); clear hA4 hb4)
                | (go_at_call 35; refine (format35_no _ _ _ _ _ HA4.out slots pages hm).mono ?_; rintro e w5 ⟨rfl, hb5⟩; have HA5 := Lib.hid (HA4.out.on hb5); have HT5 := Lib.hid (tab_on HT4.out hb5); have HB5 := Lib.hid (bel_then HB4.out hb5); clear hb5)
                | (go_at_call 11; refine (openArg11 _ _ _ _ _ HA5.out rfl pool hpr).mono ?_; rintro e w6 ⟨rfl, ew⟩; rw [ew]; clear ew w6))
              go_ret
              exact ⟨rfl, HB5.out⟩
            · go_wp2_with (first
                | (go_at_call 36; refine c36.mono ?_; rintro e w4 ⟨rfl, hA4, hb4⟩; have HA4 := Lib.hid hA4; have HT4 := Lib.hid (tab_on HTr.out hb4); have HB4 := Lib.hid (bel_then HB3.out hb4); clear hA4 hb4)
                | (go_at_call 35; refine (format35_no _ _ _ _ _ HA4.out slots pages hm).mono ?_; rintro e w5 ⟨rfl, hb5⟩; have HA5 := Lib.hid (HA4.out.on hb5); have HT5 := Lib.hid (tab_on HT4.out hb5); have HB5 := Lib.hid (bel_then HB4.out hb5); clear hb5)
                | (go_at_call 11; refine (openLog11 _ _ _ _ _ HA5.out HT5.out rfl frO_zer frO_zer pool (by omega) (by omega)).mono ?_; rintro e w6 ⟨rfl, hb6⟩; have HB6 := Lib.hid (bel_then HB5.out hb6); clear hb6))
              all_goals first
                | (go_ret; exact ⟨rfl, HB6.out⟩)
                | (exfalso; rename_i hq; simp at hq; omega)
      · have hm : (made N).lmay slots pages = false := by
          unfold Dsk.lmay made
          simp
          omega
        by_cases p1 : pool < 8
        · have hpr : pool < 8 ∨ 256 < pool := .inl p1
          go_wp2_with (first
            | (go_at_call 36; refine c36.mono ?_; rintro e w4 ⟨rfl, hA4, hb4⟩; have HA4 := Lib.hid hA4; have HT4 := Lib.hid (tab_on HTr.out hb4); have HB4 := Lib.hid (bel_then HB3.out hb4); clear hA4 hb4)
            | (go_at_call 35; refine (format35_no _ _ _ _ _ HA4.out slots pages hm).mono ?_; rintro e w5 ⟨rfl, hb5⟩; have HA5 := Lib.hid (HA4.out.on hb5); have HT5 := Lib.hid (tab_on HT4.out hb5); have HB5 := Lib.hid (bel_then HB4.out hb5); clear hb5)
            | (go_at_call 11; refine (openArg11 _ _ _ _ _ HA5.out rfl pool hpr).mono ?_; rintro e w6 ⟨rfl, ew⟩; rw [ew]; clear ew w6))
          go_ret
          exact ⟨rfl, HB5.out⟩
        · by_cases p2 : 256 < pool
          · have hpr : pool < 8 ∨ 256 < pool := .inr p2
            go_wp2_with (first
              | (go_at_call 36; refine c36.mono ?_; rintro e w4 ⟨rfl, hA4, hb4⟩; have HA4 := Lib.hid hA4; have HT4 := Lib.hid (tab_on HTr.out hb4); have HB4 := Lib.hid (bel_then HB3.out hb4); clear hA4 hb4)
              | (go_at_call 35; refine (format35_no _ _ _ _ _ HA4.out slots pages hm).mono ?_; rintro e w5 ⟨rfl, hb5⟩; have HA5 := Lib.hid (HA4.out.on hb5); have HT5 := Lib.hid (tab_on HT4.out hb5); have HB5 := Lib.hid (bel_then HB4.out hb5); clear hb5)
              | (go_at_call 11; refine (openArg11 _ _ _ _ _ HA5.out rfl pool hpr).mono ?_; rintro e w6 ⟨rfl, ew⟩; rw [ew]; clear ew w6))
            go_ret
            exact ⟨rfl, HB5.out⟩
          · go_wp2_with (first
              | (go_at_call 36; refine c36.mono ?_; rintro e w4 ⟨rfl, hA4, hb4⟩; have HA4 := Lib.hid hA4; have HT4 := Lib.hid (tab_on HTr.out hb4); have HB4 := Lib.hid (bel_then HB3.out hb4); clear hA4 hb4)
              | (go_at_call 35; refine (format35_no _ _ _ _ _ HA4.out slots pages hm).mono ?_; rintro e w5 ⟨rfl, hb5⟩; have HA5 := Lib.hid (HA4.out.on hb5); have HT5 := Lib.hid (tab_on HT4.out hb5); have HB5 := Lib.hid (bel_then HB4.out hb5); clear hb5)
              | (go_at_call 11; refine (openLog11 _ _ _ _ _ HA5.out HT5.out rfl frO_zer frO_zer pool (by omega) (by omega)).mono ?_; rintro e w6 ⟨rfl, hb6⟩; have HB6 := Lib.hid (bel_then HB5.out hb6); clear hb6))
            all_goals first
              | (go_ret; exact ⟨rfl, HB6.out⟩)
              | (exfalso; rename_i hq; simp at hq; omega)
    | succ k =>
      obtain ⟨pa, hcell, hno⟩ : ∃ pa, wr.cell? ⟨w2.heap.size, i, none⟩ = some (.pointer pa) ∧ NoP wr pa := by
        have : i = 0 ∨ i = 1 := by omega
        rcases this with rfl | rfl
        · exact ⟨none, x0, .inl rfl⟩
        · exact ⟨_, x1, HN3.out⟩
      have hiz : (i : Int) < 2 := by omega
      have hi0 : (0 : Int) ≤ (i : Int) := by omega
      have c29 := allocNo29 wr pa hno
      have c26 := getNo26 wr pa hno 1
      have c30 := wordNo30 wr pa hno 0
      have c31 := freeNo31 wr pa hno 1
      have c32 := setNo32 wr pa hno 1 (.slice none 0 0)
      have c33 := setWordNo33 wr pa hno 0 1
      have c34 := commitNo34 wr pa hno
      have c23 := abortNo23 wr pa hno
      have c24 := checkpointNo24 wr pa hno
      have c14 := pagesNo14 wr pa hno
      have c15 := leftNo15 wr pa hno
      have c17 := stagedNo17 wr pa hno
      have c18 := poolNo18 wr pa hno
      have c19 := heldNo19 wr pa hno
      have c20 := brokenNo20 wr pa hno
      clear x0 x1
      go_wp2_with (first
        | (go_at_call 29; refine c29.mono ?_; rintro e w' ⟨rfl, ew⟩; rw [ew]; clear ew w')
        | (go_at_call 26; refine c26.mono ?_; rintro e w' ⟨rfl, ew⟩; rw [ew]; clear ew w')
        | (go_at_call 30; refine c30.mono ?_; rintro e w' ⟨rfl, ew⟩; rw [ew]; clear ew w')
        | (go_at_call 31; refine c31.mono ?_; rintro e w' ⟨rfl, ew⟩; rw [ew]; clear ew w')
        | (go_at_call 32; refine c32.mono ?_; rintro e w' ⟨rfl, ew⟩; rw [ew]; clear ew w')
        | (go_at_call 33; refine c33.mono ?_; rintro e w' ⟨rfl, ew⟩; rw [ew]; clear ew w')
        | (go_at_call 34; refine c34.mono ?_; rintro e w' ⟨rfl, ew⟩; rw [ew]; clear ew w')
        | (go_at_call 23; refine c23.mono ?_; rintro e w' ⟨rfl, ew⟩; rw [ew]; clear ew w')
        | (go_at_call 24; refine c24.mono ?_; rintro e w' ⟨rfl, ew⟩; rw [ew]; clear ew w')
        | (go_at_call 14; refine c14.mono ?_; rintro e w' ⟨rfl, ew⟩; rw [ew]; clear ew w')
        | (go_at_call 15; refine c15.mono ?_; rintro e w' ⟨rfl, ew⟩; rw [ew]; clear ew w')
        | (go_at_call 17; refine c17.mono ?_; rintro e w' ⟨rfl, ew⟩; rw [ew]; clear ew w')
        | (go_at_call 18; refine c18.mono ?_; rintro e w' ⟨rfl, ew⟩; rw [ew]; clear ew w')
        | (go_at_call 19; refine c19.mono ?_; rintro e w' ⟨rfl, ew⟩; rw [ew]; clear ew w')
        | (go_at_call 20; refine c20.mono ?_; rintro e w' ⟨rfl, ew⟩; rw [ew]; clear ew w'))
      go_roundg k
      case measure => omega
      case rel => exact ⟨i + 1, by omega, by first | rfl | simp, rfl⟩
end Go.Proofs.YtfakgfmgofblgaaGreatDoor
