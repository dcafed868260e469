/-
  A disk that no call made: what each method answers.
-/
import Derived.Test.YtifnjidechbjlaaRead
namespace Go.Proofs.Ytifnjidechbjlaa
open Go.RowKit Go.Maps
set_option linter.unusedVariables false      -- a walk need not use every condition

/-- A disk that no call made: nil, or its zero. -/
def Un (w : World) (v : Value) : Prop := v = .pointer none ∨ ∃ g, v = .pointer (some ⟨g, 0, none⟩) ∧ w.heap[g]? = some (.cells #[.slice none 0 0, .map none, .bool false, .int .i64 0, .int .i64 0] 63)
theorem Un.on {w w' : World} {v : Value} (h : Un w v) (hB : Below w.heap.size w w') : Un w' v := by
  rcases h with rfl | ⟨g, rfl, hb⟩
  · exact .inl rfl
  · exact .inr ⟨g, rfl, blk_on hB hb⟩
theorem Un.alloc {w : World} {v : Value} (h : Un w v) (o : Obj) : Un (w.alloc o) v := h.on (bel1 w o)
/-- A nil pointer or one: so the walk sees a pointer. -/
theorem Un.ptr {w : World} {v : Value} (h : Un w v) : ∃ p, v = .pointer p := by
  rcases h with rfl | ⟨g, rfl, hb⟩ <;> exact ⟨_, rfl⟩
theorem un34 (w : World) (p : Option Addr) (h : Un w (.pointer p)) : Calls Try.prog 34 #[.pointer p] w fun e w' => e = .returned (.bool false) ∧ w' = w := by
  rcases h with h | ⟨g, h, hb⟩
  · injection h with h; subst h
    go_enter Try.func34, Try.ntmps34
    go_wp2
    go_ret
    exact ⟨rfl, rfl⟩
  · injection h with h; subst h
    obtain ⟨c0, -, -, -, -, -⟩ := five_of hb
    clear hb
    go_enter Try.func34, Try.ntmps34
    go_wp2
    go_ret
    exact ⟨rfl, rfl⟩
theorem un39 (w : World) (p : Option Addr) (h : Un w (.pointer p)) : Calls Try.prog 39 #[.pointer p] w fun e w' => e = .returned (.int .i64 2) ∧ w' = w := by
  have c := un34 w p h
  clear h
  go_enter Try.func39, Try.ntmps39
  go_wp2_with (first | (go_at_call 34; refine c.mono ?_; rintro e w' ⟨rfl, rfl⟩))
  go_ret
  exact ⟨rfl, rfl⟩
theorem un37 (w : World) (p : Option Addr) (h : Un w (.pointer p)) (n : Int) : Calls Try.prog 37 #[.pointer p, .int .i64 n] w fun e w' => e = .returned (.int .i64 2) ∧ w' = w := by
  have c := un39 w p h
  clear h
  go_enter Try.func37, Try.ntmps37
  go_wp2_with (first | (go_at_call 39; refine c.mono ?_; rintro e w' ⟨rfl, rfl⟩))
  go_ret
  exact ⟨rfl, rfl⟩
set_option maxHeartbeats 800000 in
set_option maxRecDepth 100000 in
theorem un22 (w : World) (p : Option Addr) (h : Un w (.pointer p)) (n : Int) : Calls Try.prog 22 #[.pointer p, .int .i64 n] w fun e w' => e = .returned (.tuple #[.agg (encA zer), .int .i64 2]) ∧ Below w.heap.size w w' := by
  have cR := un37 (w.alloc (.cells (encA zer) 48)) p (h.alloc _) n
  clear h
  have ht := there4 w
  go_enter Try.func22, Try.ntmps22
  go_wp2_with (first
    | (go_at_call 37; rw [zc]; refine cR.mono ?_; rintro e w' ⟨rfl, rfl⟩)
    | (show wpList _ _ _ (Oper.mk _ (Op.store 48 (Operand.tmp 4) _) _ _ _ _ :: _) _ _
       (try rw [zc]); refine wpList_store48 rfl _ _ rfl w.heap.size 0 zer rfl rfl ht len_zer ?_; intro w2 g2 r2 t2 z2))
  refine bodyPost_ret (v := .tuple #[.agg (encA zer), .int .i64 2]) (results_cell_tmp_mid Try.results22 _ _ w.heap.size zer rfl r2 len_zer) rfl ⟨rfl, ?_⟩
  exact Below.grown (bel1 w _) g2 (by simp) (fun k e => by injection e with e; omega)
set_option maxHeartbeats 800000 in
theorem un17 (w : World) (p : Option Addr) (h : Un w (.pointer p)) (n : Int) (bs : List UInt8) : Calls Try.prog 17 #[.pointer p, .int .i64 n, .agg (encA bs)] w fun e w' => e = .returned (.int .i64 2) ∧ Below w.heap.size w w' := by
  have cR := un37 (w.alloc (.cells (encA bs) 48)) p (h.alloc _) n
  clear h
  go_enter Try.func17, Try.ntmps17
  go_wp2_with (first
    | (go_at_call 37; refine cR.mono ?_; rintro e w' ⟨rfl, rfl⟩))
  go_ret
  exact ⟨rfl, bel1 w _⟩
theorem un19 (w : World) (p : Option Addr) (h : Un w (.pointer p)) : Calls Try.prog 19 #[.pointer p] w fun e w' => e = .returned (.int .i64 2) ∧ w' = w := by
  have c := un39 w p h
  clear h
  go_enter Try.func19, Try.ntmps19
  go_wp2_with (first | (go_at_call 39; refine c.mono ?_; rintro e w' ⟨rfl, rfl⟩))
  go_ret
  exact ⟨rfl, rfl⟩
theorem un24 (w : World) (p : Option Addr) (h : Un w (.pointer p)) (n : Int) : Calls Try.prog 24 #[.pointer p, .int .i64 n] w fun e w' => e = .returned (.int .i64 2) ∧ w' = w := by
  have c := un39 w p h
  clear h
  go_enter Try.func24, Try.ntmps24
  go_wp2_with (first | (go_at_call 39; refine c.mono ?_; rintro e w' ⟨rfl, rfl⟩))
  go_ret
  exact ⟨rfl, rfl⟩
theorem un20 (w : World) (p : Option Addr) (h : Un w (.pointer p)) (n : Int) (kv : Value) : Calls Try.prog 20 #[.pointer p, .int .i64 n, kv] w fun e w' => e = .returned (.int .i64 2) ∧ w' = w := by
  have c := un39 w p h
  clear h
  go_enter Try.func20, Try.ntmps20
  go_wp2_with (first | (go_at_call 39; refine c.mono ?_; rintro e w' ⟨rfl, rfl⟩))
  go_ret
  exact ⟨rfl, rfl⟩
theorem un21 (w : World) (p : Option Addr) (h : Un w (.pointer p)) (n : Int) (kv : Value) : Calls Try.prog 21 #[.pointer p, .int .i64 n, kv] w fun e w' => e = .returned (.int .i64 2) ∧ w' = w := by
  have c := un34 w p h
  clear h
  go_enter Try.func21, Try.ntmps21
  go_wp2_with (first | (go_at_call 34; refine c.mono ?_; rintro e w' ⟨rfl, rfl⟩))
  go_ret
  exact ⟨rfl, rfl⟩
set_option maxHeartbeats 800000 in
theorem un25 (w : World) (p : Option Addr) (h : Un w (.pointer p)) (n m : Int) (b : Int) : Calls Try.prog 25 #[.pointer p, .int .i64 n, .int .i64 m, .int .u32 b] w fun e w' => e = .returned (.int .i64 2) ∧ Below w.heap.size w w' := by
  have c := un34 w p h
  clear h
  go_enter Try.func25, Try.ntmps25
  go_wp2_with (first | (go_at_call 34; refine c.mono ?_; rintro e w' ⟨rfl, rfl⟩))
  go_ret
  exact ⟨rfl, Below.refl _ _⟩
theorem un11 (w : World) (p : Option Addr) (h : Un w (.pointer p)) : Calls Try.prog 11 #[.pointer p] w fun e w' => e = .returned (.bool false) ∧ w' = w := by
  have c := un34 w p h
  clear h
  go_enter Try.func11, Try.ntmps11
  go_wp2_with (first | (go_at_call 34; refine c.mono ?_; rintro e w' ⟨rfl, rfl⟩))
  go_ret
  exact ⟨rfl, rfl⟩
theorem un16 (w : World) (p : Option Addr) (h : Un w (.pointer p)) : Calls Try.prog 16 #[.pointer p] w fun e w' => e = .returned (.int .i64 0) ∧ w' = w := by
  have c := un34 w p h
  clear h
  go_enter Try.func16, Try.ntmps16
  go_wp2_with (first | (go_at_call 34; refine c.mono ?_; rintro e w' ⟨rfl, rfl⟩))
  go_ret
  exact ⟨rfl, rfl⟩
theorem un12 (w : World) (p : Option Addr) (h : Un w (.pointer p)) : Calls Try.prog 12 #[.pointer p] w fun e w' => e = .returned (.int .i64 0) ∧ w' = w := by
  have c := un34 w p h
  clear h
  go_enter Try.func12, Try.ntmps12
  go_wp2_with (first | (go_at_call 34; refine c.mono ?_; rintro e w' ⟨rfl, rfl⟩))
  go_ret
  exact ⟨rfl, rfl⟩
theorem un14 (w : World) (p : Option Addr) (h : Un w (.pointer p)) : Calls Try.prog 14 #[.pointer p] w fun e w' => e = .returned (.slice none 0 0) ∧ w' = w := by
  have c := un34 w p h
  clear h
  go_enter Try.func14, Try.ntmps14
  go_wp2_with (first | (go_at_call 34; refine c.mono ?_; rintro e w' ⟨rfl, rfl⟩))
  go_ret
  exact ⟨rfl, rfl⟩
theorem un26 (w : World) (p : Option Addr) (h : Un w (.pointer p)) : Calls Try.prog 26 #[.pointer p] w fun e w' => e = .returned (.pointer none) ∧ w' = w := by
  have c := un34 w p h
  clear h
  go_enter Try.func26, Try.ntmps26
  go_wp2_with (first | (go_at_call 34; refine c.mono ?_; rintro e w' ⟨rfl, rfl⟩))
  go_ret
  exact ⟨rfl, rfl⟩
end Go.Proofs.Ytifnjidechbjlaa
