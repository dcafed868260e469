/-
  The statement on a disk that no call made: its walk.
-/
import Derived.Test.YtifnjidechbjlaaUn
import Derived.Test.YtifnjidechbjlaaBegun
import Derived.Lib.QuietBelow
import Derived.BigQuiet
namespace Go.Proofs.Ytifnjidechbjlaa
open Go.RowKit Go.Maps Go.Sort
set_option linter.unusedVariables false      -- a walk need not use every condition

def opObj (x n f : Int) (kv : Value) (a b : Int) : Obj := .cells #[.int .i64 x, .int .i64 n, .int .u8 f, kv, .int .i64 a, .int .u32 b] 34
theorem six_of {w : World} {g : Nat} {a b c d f h : Value} {t : TypeId} (e : w.heap[g]? = some (.cells #[a, b, c, d, f, h] t)) :
    w.cell? ⟨g, 0, none⟩ = some a ∧ w.cell? ⟨g, 1, none⟩ = some b ∧ w.cell? ⟨g, 2, none⟩ = some c ∧ w.cell? ⟨g, 3, none⟩ = some d ∧ w.cell? ⟨g, 4, none⟩ = some f ∧ w.cell? ⟨g, 5, none⟩ = some h := by
  refine ⟨?_, ?_, ?_, ?_, ?_, ?_⟩ <;> simp [World.cell?, e]
theorem two_of {w : World} {g : Nat} {a b : Value} {t : TypeId} (e : w.heap[g]? = some (.cells #[a, b] t)) : w.cell? ⟨g, 0, none⟩ = some a ∧ w.cell? ⟨g, 1, none⟩ = some b := by
  constructor <;> simp [World.cell?, e]
theorem same_below {f : FuncId} {args : Array Value} {w : World} {v : Value} (h : Calls Try.prog f args w fun e w' => e = .returned v ∧ w' = w) : Calls Try.prog f args w fun e w' => e = .returned v ∧ Below w.heap.size w w' :=
  h.mono fun e w' ⟨he, hw⟩ => ⟨he, by rw [hw]; exact Below.refl _ _⟩
set_option maxHeartbeats 3000000 in
set_option maxRecDepth 100000 in
theorem none6 (W : World) (x n f : Int) (p : Option Addr) (l c : Nat) (a b : Int) :
    Calls Try.prog 6 #[.agg #[.int .i64 x, .int .i64 n, .int .u8 f, .slice p l c, .int .i64 a, .int .u32 b]] W fun e W' => e = .returned (.bool true) ∧ Below W.heap.size W W' := by
  have cB := begun9 (W.alloc (.cells #[.int .i64 x, .int .i64 n, .int .u8 f, .slice p l c, .int .i64 a, .int .u32 b] 34))
  have hq := heap_alloc_last W (.cells #[.int .i64 x, .int .i64 n, .int .u8 f, .slice p l c, .int .i64 a, .int .u32 b] 34)
  have HQ : Hid ((W.alloc (.cells #[.int .i64 x, .int .i64 n, .int .u8 f, .slice p l c, .int .i64 a, .int .u32 b] 34)).heap[W.heap.size]? = some (.cells #[.int .i64 x, .int .i64 n, .int .u8 f, .slice p l c, .int .i64 a, .int .u32 b] 34)) := hq
  clear hq
  go_enter Try.func6, Try.ntmps6
  go_wp2_with (first
    | (go_at_call 9; refine cB.mono ?_; rintro e w1 ⟨rfl, B1⟩))
  have e1 : (W.alloc (.cells #[.int .i64 x, .int .i64 n, .int .u8 f, .slice p l c, .int .i64 a, .int .u32 b] 34)).heap.size = W.heap.size + 1 := by simp
  have qs := heap_alloc2_new w1 (.cells #[.slice none 0 0, .map none, .bool false, .int .i64 0, .int .i64 0] 63) (.cells #[.pointer none, .pointer (some ⟨w1.heap.size, 0, none⟩)] 23)
  have qz := blk_on (bel1 _ (.cells #[.pointer none, .pointer (some ⟨w1.heap.size, 0, none⟩)] 23)) (heap_alloc_last w1 (.cells #[.slice none 0 0, .map none, .bool false, .int .i64 0, .int .i64 0] 63))
  have B3 := bel_then B1 (bel_then (bel1 w1 (.cells #[.slice none 0 0, .map none, .bool false, .int .i64 0, .int .i64 0] 63)) (bel1 _ (.cells #[.pointer none, .pointer (some ⟨w1.heap.size, 0, none⟩)] 23)))
  have q0 := blk_on B3 HQ.out
  have B4 : Below W.heap.size W ((w1.alloc (.cells #[.slice none 0 0, .map none, .bool false, .int .i64 0, .int .i64 0] 63)).alloc (.cells #[.pointer none, .pointer (some ⟨w1.heap.size, 0, none⟩)] 23)) := bel_then (bel1 W _) B3
  clear B3 B1 HQ cB e1
  generalize (w1.alloc (.cells #[.slice none 0 0, .map none, .bool false, .int .i64 0, .int .i64 0] 63)).alloc (.cells #[.pointer none, .pointer (some ⟨w1.heap.size, 0, none⟩)] 23) = w3 at *
  have cf1 : ∀ w, Calls Try.prog 18 #[.int .u8 1] w fun e w' => e = .returned (.agg (encA (fil 1))) ∧ Below w.heap.size w w' := fun w => filled18 w 1
  generalize hF1 : fil 1 = F1 at *
  clear hF1
  go_loopg [13] 2 (fun g s13 wr => ∃ i : Nat, i + g = 2 ∧ s13 = .int .i64 i ∧ Below w3.heap.size w3 wr)
  case atStart => exact ⟨0, by omega, rfl, Below.refl _ _⟩
  case round =>
    obtain ⟨i, hig, rfl, HB⟩ := hrel
    cases gk with
    | zero =>
      obtain rfl : i = 2 := by omega
      clear qs qz q0 hig
      go_wp2
      go_ret
      exact ⟨rfl, B4.trans (HB.mono B4.size)⟩
    | succ gk =>
      have hi : i < 2 := by omega
      have hz : ∃ pp : Option Addr, wr.cell? ⟨w1.heap.size + 1, i, none⟩ = some (.pointer pp) ∧ Un wr (.pointer pp) := by
        have t := two_of (blk_on HB qs)
        have z := blk_on HB qz
        match i, hi with
        | 0, _ => exact ⟨none, t.1, .inl rfl⟩
        | 1, _ => exact ⟨_, t.2, .inr ⟨_, rfl, z⟩⟩
      obtain ⟨pp, ci, hU⟩ := hz
      have qo := blk_on HB q0
      obtain ⟨-, c1, -, c3, c4, c5⟩ := six_of qo
      have hiz : (i : Int) < 2 := by omega
      have hiz0 : (0 : Int) ≤ (i : Int) := by omega
      have HL : Hid (i + (gk + 1) = 2) := hig
      clear qs qz q0 hig hi
      go_wp2_with (first
      | (go_at_call 22; refine (un22 _ _ hU n).mono ?_; rintro e w5 ⟨rfl, hBi⟩; replace hU := hU.on hBi; replace qo := blk_on hBi qo; obtain ⟨-, c1, -, c3, c4, c5⟩ := six_of qo; replace HB := bel_then HB hBi)
      | (show wpList _ _ _ (Oper.mk _ (Op.store 48 (Operand.tmp 5) _) _ _ _ _ :: _) _ _
         rw [zc]; refine wpList_store48 rfl _ _ rfl w5.heap.size 0 zer rfl rfl (there4 w5) len_zer ?_; intro w6 g6 r6 t6 z6
         have hB6 : Below w5.heap.size w5 w6 := Below.grown (bel1 w5 (.cells (encA zer) 48)) g6 (by simp) (fun k e => by injection e with e; omega)
         replace hU := hU.on hB6; replace qo := blk_on hB6 qo; obtain ⟨-, c1, -, c3, c4, c5⟩ := six_of qo; replace HB := bel_then HB hB6))
      have mixed : Try.prog.follows .mixedOrders = true := by kernel_rfl
      have kc1 := cell_regrown c1
      have kc3 := cell_regrown c3
      have kc4 := cell_regrown c4
      have kc5 := cell_regrown c5
      have q18 : ∀ d os, Calls Try.prog 18 #[.int .u8 1] (grow (redrawn w6 d) os) fun e w'' => e = .returned (.agg (encA F1)) ∧ ∃ p : Regrown, w'' = grow (redrawn w6 p.d) p.os := fun d os => Calls.regrown_of (cf1 _)
      have q17 : ∀ d os, Calls Try.prog 17 #[.pointer pp, .int .i64 n, .agg (encA F1)] (grow (redrawn w6 d) os) fun e w'' => e = .returned (.int .i64 2) ∧ ∃ p : Regrown, w'' = grow (redrawn w6 p.d) p.os := fun d os => Calls.regrown_of (un17 _ _ (hU.on (below_regrown w6 d os)) n F1)
      have q19 : ∀ d os, Calls Try.prog 19 #[.pointer pp] (grow (redrawn w6 d) os) fun e w'' => e = .returned (.int .i64 2) ∧ ∃ p : Regrown, w'' = grow (redrawn w6 p.d) p.os := fun d os => Calls.regrown_of (same_below (un19 _ _ (hU.on (below_regrown w6 d os))))
      have q24 : ∀ d os, Calls Try.prog 24 #[.pointer pp, .int .i64 1] (grow (redrawn w6 d) os) fun e w'' => e = .returned (.int .i64 2) ∧ ∃ p : Regrown, w'' = grow (redrawn w6 p.d) p.os := fun d os => Calls.regrown_of (same_below (un24 _ _ (hU.on (below_regrown w6 d os)) 1))
      have q20 : ∀ d os, Calls Try.prog 20 #[.pointer pp, .int .i64 0, .slice p l c] (grow (redrawn w6 d) os) fun e w'' => e = .returned (.int .i64 2) ∧ ∃ p : Regrown, w'' = grow (redrawn w6 p.d) p.os := fun d os => Calls.regrown_of (same_below (un20 _ _ (hU.on (below_regrown w6 d os)) 0 _))
      have q21 : ∀ d os, Calls Try.prog 21 #[.pointer pp, .int .i64 0, .slice p l c] (grow (redrawn w6 d) os) fun e w'' => e = .returned (.int .i64 2) ∧ ∃ p : Regrown, w'' = grow (redrawn w6 p.d) p.os := fun d os => Calls.regrown_of (same_below (un21 _ _ (hU.on (below_regrown w6 d os)) 0 _))
      have q25 : ∀ d os, Calls Try.prog 25 #[.pointer pp, .int .i64 n, .int .i64 a, .int .u32 b] (grow (redrawn w6 d) os) fun e w'' => e = .returned (.int .i64 2) ∧ ∃ p : Regrown, w'' = grow (redrawn w6 p.d) p.os := fun d os => Calls.regrown_of (un25 _ _ (hU.on (below_regrown w6 d os)) n a b)
      have q11 : ∀ d os, Calls Try.prog 11 #[.pointer pp] (grow (redrawn w6 d) os) fun e w'' => e = .returned (.bool false) ∧ ∃ p : Regrown, w'' = grow (redrawn w6 p.d) p.os := fun d os => Calls.regrown_of (same_below (un11 _ _ (hU.on (below_regrown w6 d os))))
      have q16 : ∀ d os, Calls Try.prog 16 #[.pointer pp] (grow (redrawn w6 d) os) fun e w'' => e = .returned (.int .i64 0) ∧ ∃ p : Regrown, w'' = grow (redrawn w6 p.d) p.os := fun d os => Calls.regrown_of (same_below (un16 _ _ (hU.on (below_regrown w6 d os))))
      have q14 : ∀ d os, Calls Try.prog 14 #[.pointer pp] (grow (redrawn w6 d) os) fun e w'' => e = .returned (.slice none 0 0) ∧ ∃ p : Regrown, w'' = grow (redrawn w6 p.d) p.os := fun d os => Calls.regrown_of (same_below (un14 _ _ (hU.on (below_regrown w6 d os))))
      have q12 : ∀ d os, Calls Try.prog 12 #[.pointer pp] (grow (redrawn w6 d) os) fun e w'' => e = .returned (.int .i64 0) ∧ ∃ p : Regrown, w'' = grow (redrawn w6 p.d) p.os := fun d os => Calls.regrown_of (same_below (un12 _ _ (hU.on (below_regrown w6 d os))))
      have q26 : ∀ d os, Calls Try.prog 26 #[.pointer pp] (grow (redrawn w6 d) os) fun e w'' => e = .returned (.pointer none) ∧ ∃ p : Regrown, w'' = grow (redrawn w6 p.d) p.os := fun d os => Calls.regrown_of (same_below (un26 _ _ (hU.on (below_regrown w6 d os))))
      have HB6 : Hid (Below w3.heap.size w3 w6) := HB
      clear hU qo HB cf1 c1 c3 c4 c5 hBi g6 r6 t6 z6 hB6 ci
      simp only [List.append_eq, List.cons_append, List.nil_append]
      refine wp_region_quiet_below mixed (by kernel_rfl) ?_
      repeat (go_big_quiet_step (first | exact q18 _ _ | exact q17 _ _ | exact q19 _ _ | exact q24 _ _ | exact q20 _ _ | exact q21 _ _ | exact q25 _ _ | exact q11 _ _ | exact q16 _ _ | exact q14 _ _ | exact q12 _ _ | exact q26 _ _))
      refine wpQuiet_nil ?_
      intro _ hw'
      obtain ⟨⟨dq, osq⟩, hw''⟩ := hw'
      subst hw''
      have B7 : Below w3.heap.size w3 (grow (redrawn w6 dq) osq) := bel_then HB6.out (below_regrown w6 dq osq)
      generalize grow (redrawn w6 dq) osq = w7 at B7 ⊢
      clear q18 q17 q19 q24 q20 q21 q25 q11 q16 q14 q12 q26 kc1 kc3 kc4 kc5
      go_wp2
      go_roundg gk
      case measure => omega
      case rel => exact ⟨i + 1, by have := HL.out; omega, by first | rfl | simp, B7⟩
end Go.Proofs.Ytifnjidechbjlaa
