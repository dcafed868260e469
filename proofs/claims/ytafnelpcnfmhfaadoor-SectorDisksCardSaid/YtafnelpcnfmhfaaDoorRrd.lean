/-
  What Read of the document's disk does.
-/
import Derived.Test.YtafnelpcnfmhfaaDoorRdk
import Derived.Deep.LoopGhost
namespace Go.Proofs.YtafnelpcnfmhfaaDoor
open Go.RowKit Go.Maps
set_option linter.unusedVariables false      -- a walk need not use every condition

theorem rread_refused (w : World) (X : Nat → Prop) (r sb sc tb tc : Nat) (cv : Value) (s : Dsk) (h : RAt w X r sb sc tb tc cv s) (n : Int) (hr : s.reach n ≠ 0) :
    Calls Tryd.prog 45 #[.pointer (some ⟨r, 0, none⟩), .int .i64 n] w fun e w' => e = .returned (.tuple #[.agg (encA zer), .int .i64 (s.reach n)]) ∧ Below w.heap.size w w' := by
  have cR := may49 (w.alloc (.cells (encA zer) 26)) X r sb sc tb tc cv s (h.on (bel1 w _)) n
  clear h
  generalize s.reach n = q at *
  have ht := there4 w
  go_enter Tryd.func45, Tryd.ntmps45
  go_wp2_with (first
    | (go_at_call 49; rw [zc]; refine cR.mono ?_; rintro e w' ⟨rfl, rfl⟩)
    | (show wpList _ _ _ (Oper.mk _ (Op.store 26 (Operand.tmp 4) _) _ _ _ _ :: _) _ _
       (try rw [zc]); refine wpList_store26 rfl _ _ rfl w.heap.size 0 zer rfl rfl ht len_zer ?_; intro w2 g2 r2 t2 z2))
  refine bodyPost_ret (v := .tuple #[.agg (encA zer), .int .i64 q]) (results_cell_tmp_mid Tryd.results45 _ _ w.heap.size zer rfl r2 len_zer) rfl ⟨rfl, ?_⟩
  exact Below.grown (bel1 w _) g2 (by simp) (fun k e => by injection e with e; omega)
theorem cons_head {w : World} {cb o : Nat} {v : Value} {l : List Value} (h : w.rangeAt cb o (v :: l)) : w.cell? ⟨cb, o, none⟩ = some v := h 0 v rfl
theorem cons_tail {w : World} {cb o : Nat} {v : Value} {l : List Value} (h : w.rangeAt cb o (v :: l)) : w.rangeAt cb (o + 1) l := fun j u hu => by
  have := h (j + 1) u (by simpa using hu)
  rw [show o + 1 + j = o + (j + 1) by omega]
  exact this
set_option maxHeartbeats 1600000 in
set_option maxRecDepth 100000 in
theorem rread_ok (w : World) (X : Nat → Prop) (r sb sc tb tc : Nat) (cv : Value) (s : Dsk) (h : RAt w X r sb sc tb tc cv s) (k : Nat) (hr : s.reach k = 0) (hk : k < s.N) :
    Calls Tryd.prog 45 #[.pointer (some ⟨r, 0, none⟩), .int .i64 k] w fun e w' => e = .returned (.tuple #[.agg (encA (s.read k).1), .int .i64 (s.read k).2]) ∧ Below w.heap.size w w' := by
  have h1 := h.on (bel1 w (.cells (encA zer) 26))
  have cR := may49 _ X r sb sc tb tc cv s h1 k
  rw [hr] at cR
  obtain ⟨c0, c1, c2, -, -, -, -⟩ := six_of h1.blk
  obtain ⟨p, cc, rfl, hca⟩ := h1.ca
  have HC : Hid (s.dirty = [] ∨ ∃ cb, p = some ⟨cb, 0, none⟩ ∧ ¬ X cb ∧ cb ≠ r ∧ ∀ i (hi : i < s.dirty.length), ∃ bs, s.ca s.dirty[i] = some bs ∧ (w.alloc (.cells (encA zer) 26)).rangeAt cb (i * 129) (.int .i64 (s.dirty[i] : Nat) :: enc bs)) := hca
  have hts := h1.ts k hk
  have hss := h1.ss k hk
  have hsl := h1.sl k hk
  have hle := h1.le
  have hLN : s.dirty.length ≤ 16384 := by have := dirty_len s; have := h.top; omega
  have hi : (Tryd.prog.info? 26).map (·.size) = some (enc (s.st k)).length := by rw [size26, len_enc, hsl]
  have ht4 := there4 w
  have hkz : (0 : Int) ≤ (k : Int) := by omega
  have hkN : (k : Int) < (s.N : Int) := by omega
  have HR : Hid (s.read k = match s.ca k with | some bs => (bs, 0) | none => if s.tn k then (zer, 40) else (s.st k, 0)) := by
    show s.read k = _
    unfold Dsk.read
    rw [hr]; simp only [ne_eq, not_true_eq_false, if_false, Int.toNat_natCast]
    cases s.ca k <;> rfl
  have hcb : sc = sc := rfl
  clear h h1 hca hr
  go_enter Tryd.func45, Tryd.ntmps45
  go_wp2_with (first
    | (go_at_call 49; rw [zc]; refine cR.mono ?_; rintro e w' ⟨rfl, ew⟩; rw [ew]; clear ew w'))
  go_loopg [7] s.dirty.length (fun g s7 wr => ∃ i : Nat, i + g = s.dirty.length ∧ s7 = .int .i64 i ∧ wr = w.alloc (.cells (encA zer) 26) ∧ ∀ j (hj : j < s.dirty.length), j < i → s.dirty[j] ≠ k)
  case atStart => exact ⟨0, by omega, rfl, rfl, fun j hj h0 => by omega⟩
  case round =>
    obtain ⟨i, hig, rfl, rfl, hno⟩ := hrel
    cases gk with
    | zero =>
      obtain rfl : i = s.dirty.length := by omega
      have hc : s.ca k = none := by
        cases hx : s.ca k with
        | none => rfl
        | some bs =>
          obtain ⟨j, hj, e⟩ := List.mem_iff_getElem.1 (mem_dirty.2 ⟨hk, by rw [hx]; rfl⟩ : k ∈ s.dirty)
          exact absurd e (hno j hj hj)
      have hread := HR.out
      rw [hc] at hread
      simp only at hread
      clear hno HC
      cases htt : s.tn k with
      | true =>
        rw [htt] at hts hread
        have HE : Hid (s.read k = (zer, 40)) := hread
        clear hread
        go_wp2_with (first
          | (show wpList _ _ _ (Oper.mk _ (Op.store 26 (Operand.tmp 4) _) _ _ _ _ :: _) _ _
             (try rw [zc]); refine wpList_store26 rfl _ _ rfl w.heap.size 0 zer rfl rfl ht4 len_zer ?_; intro w2 g2 r2 t2 z2))
        refine bodyPost_ret (v := .tuple #[.agg (encA zer), .int .i64 40]) (results_cell_tmp_mid Tryd.results45 _ _ w.heap.size zer rfl r2 len_zer) rfl ⟨by rw [HE.out], ?_⟩
        exact Below.grown (bel1 w _) g2 (by simp) (fun k e => by injection e with e; omega)
      | false =>
        rw [htt] at hts hread
        have HE : Hid (s.read k = (s.st k, 0)) := hread
        clear hread
        go_wp2_with (first
          | (show wpList _ _ _ (Oper.mk _ (Op.load 26 (Operand.tmp 55)) _ _ _ _ :: _) _ _
             refine wpList_load_mid rfl 26 _ rfl _ _ rfl _ _ hss Tryd.underlying26 rfl hi ?_)
          | (show wpList _ _ _ (Oper.mk _ (Op.store 26 (Operand.tmp 4) _) _ _ _ _ :: _) _ _
             refine wpList_store26 rfl _ _ rfl w.heap.size 0 (s.st k) rfl rfl ht4 hsl ?_; intro w2 g2 r2 t2 z2))
        refine bodyPost_ret (v := .tuple #[.agg (encA (s.st k)), .int .i64 0]) (results_cell_tmp_mid Tryd.results45 _ _ w.heap.size (s.st k) rfl r2 hsl) rfl ⟨by rw [HE.out], ?_⟩
        exact Below.grown (bel1 w _) g2 (by simp) (fun k e => by injection e with e; omega)
    | succ g =>
      have hiL : i < s.dirty.length := by omega
      have hiz : (i : Int) < (s.dirty.length : Int) := by omega
      have hiz0 : (0 : Int) ≤ (i : Int) := by omega
      obtain ⟨cb, rfl, -, hcr, hrow⟩ := HC.out.resolve_left (fun e => by rw [e] at hiL; simp at hiL)
      obtain ⟨bs, hb, hra⟩ := hrow i hiL
      have hcn := cons_head hra
      have hct := cons_tail hra
      have hbl := (hle _ _ hb).1
      have hib : (Tryd.prog.info? 26).map (·.size) = some (enc bs).length := by rw [size26, len_enc, hbl]
      by_cases he : s.dirty[i] = k
      · rw [he] at hb hcn
        have hread := HR.out
        rw [hb] at hread
        have HE : Hid (s.read k = (bs, 0)) := hread
        clear hrow hra hno HC hread
        go_wp2_with (first
          | (show wpList _ _ _ (Oper.mk _ (Op.load 26 (Operand.tmp 40)) _ _ _ _ :: _) _ _
             refine wpList_load_mid rfl 26 _ rfl _ _ rfl _ _ hct Tryd.underlying26 rfl hib ?_)
          | (show wpList _ _ _ (Oper.mk _ (Op.store 26 (Operand.tmp 4) _) _ _ _ _ :: _) _ _
             refine wpList_store26 rfl _ _ rfl w.heap.size 0 bs rfl rfl ht4 hbl ?_; intro w2 g2 r2 t2 z2))
        refine bodyPost_ret (v := .tuple #[.agg (encA bs), .int .i64 0]) (results_cell_tmp_mid Tryd.results45 _ _ w.heap.size bs rfl r2 hbl) rfl ⟨by rw [HE.out], ?_⟩
        exact Below.grown (bel1 w _) g2 (by simp) (fun k e => by injection e with e; omega)
      · have hez : ¬ ((s.dirty[i] : Nat) : Int) = (k : Int) := by omega
        have HN : Hid (∀ j (hj : j < s.dirty.length), j < i → s.dirty[j] ≠ k) := hno
        clear hno hrow hra
        go_wp2
        go_roundg g
        case measure => omega
        case rel =>
          refine ⟨i + 1, by omega, by first | rfl | simp, rfl, fun j hj hji => ?_⟩
          by_cases e : j = i
          · subst e; exact he
          · exact HN.out j hj (by omega)
theorem rread45 (w : World) (X : Nat → Prop) (r sb sc tb tc : Nat) (cv : Value) (s : Dsk) (h : RAt w X r sb sc tb tc cv s) (n : Int) :
    Calls Tryd.prog 45 #[.pointer (some ⟨r, 0, none⟩), .int .i64 n] w fun e w' => e = .returned (.tuple #[.agg (encA (s.read n).1), .int .i64 (s.read n).2]) ∧ Below w.heap.size w w' := by
  by_cases hr : s.reach n = 0
  · obtain ⟨hd, k, rfl, hk⟩ := reach_zero hr
    exact rread_ok w X r sb sc tb tc cv s h k hr hk
  · have : s.read n = (zer, s.reach n) := by unfold Dsk.read; rw [if_pos hr]
    rw [this]
    exact rread_refused w X r sb sc tb tc cv s h n hr
end Go.Proofs.YtafnelpcnfmhfaaDoor
