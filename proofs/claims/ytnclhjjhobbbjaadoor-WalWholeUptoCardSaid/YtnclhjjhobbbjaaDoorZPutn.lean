/-
  What putN, bytesOf and takeN of package sector do; what bytes.Clone does.
-/
import Derived.Test.YtnclhjjhobbbjaaDoorZFrm
namespace Go.Proofs.YtnclhjjhobbbjaaDoor
open Go.RowKit
set_option linter.unusedVariables false      -- a walk need not use every condition

theorem div_step (n k : Nat) : n / 256 ^ k / 256 = n / 256 ^ (k + 1) := by rw [Nat.div_div_eq_div_mul, Nat.pow_succ]
theorem ofNat_val (x : Nat) : ((UInt8.ofNat x).toNat : Int) = (x : Int) % 256 := by
  rw [UInt8.toNat_ofNat']
  omega
set_option maxHeartbeats 1600000 in
theorem putN69 (w : World) (g : Nat) (l : List UInt8) (h : Sec w g l) (n : Nat) (hn : n < 9223372036854775808) :
    Calls Tryd.prog 69 #[.slice (some ⟨g, 2, none⟩) 8 126, .int .i64 n] w fun e w' => (∃ v, e = .returned v) ∧ Sec w' g (l.take 2 ++ (be8 n ++ l.drop 10)) ∧ w.grownBy w' (some g) ∧ w'.heap.size = w.heap.size := by
  have H : Hid (Sec w g l) := h
  have HL : Hid (l.length = 128) := h.len
  clear h
  go_enter Tryd.func69, Tryd.ntmps69
  go_wp2
  go_loopg [1, 4] 8 (fun gk s1 s4 wr => ∃ k : Nat, k + gk = 8 ∧ s4 = .int .i64 (7 - (k : Int)) ∧ s1 = .int .i64 (n / 256 ^ k : Nat) ∧ Hid (Sec wr g (pset l n k)) ∧ Hid (w.grownBy wr (some g) ∧ wr.heap.size = w.heap.size))
  case atStart => exact ⟨0, by omega, rfl, by simp, H, ⟨⟨rfl, rfl, rfl, Nat.le_refl _, fun _ _ _ => rfl⟩, rfl⟩⟩
  case round =>
    obtain ⟨k, hk, rfl, rfl, hS, hG⟩ := hrel
    cases gk with
    | zero =>
      obtain rfl : k = 8 := by omega
      go_wp2
      go_end0
      refine ⟨⟨_, rfl⟩, ?_, hG.out.1, hG.out.2⟩
      rw [← pset_all HL.out]; exact hS.out
    | succ q =>
      have hc := hS.out.cell (i := 9 - k) (by omega)
      obtain ⟨hc1, hc2⟩ := hc
      have h7 : (0 : Int) ≤ 7 - (k : Int) := by omega
      have h8 : (7 : Int) - (k : Int) < 8 := by omega
      have hz : (7 : Int) - (k : Int) = ((7 - k : Nat) : Int) := by omega
      have hoff : 2 + (7 - k) = 9 - k := by omega
      rw [← hoff] at hc1 hc2
      have hS2 := hS.out.set (i := 9 - k) (by omega) (UInt8.ofNat (n / 256 ^ k))
      have HS2 : Hid (Sec (wr.setCell ⟨g, 2 + (7 - k), none⟩ (.int .u8 (UInt8.ofNat (n / 256 ^ k)).toNat)) g (pset l n (k + 1))) := by
        rw [hoff]; exact hS2
      clear hS2
      have hv := ofNat_val (n / 256 ^ k)
      have hd := div_step n k
      have hm : Hid ((7 - k : Nat) = 7 - k) := rfl
      rw [hz]
      obtain ⟨m, hmm⟩ : ∃ m, n / 256 ^ k = m := ⟨_, rfl⟩
      obtain ⟨j, hj⟩ : ∃ j, 7 - k = j := ⟨_, rfl⟩
      rw [hmm] at hv hd HS2 ⊢
      rw [hj] at hc1 hc2 HS2 ⊢
      have hjz : ((j : Nat) : Int) < 8 := by omega
      rw [hv] at HS2
      clear h7 h8 hz hoff
      go_wp2
      go_roundg q
      case measure => omega
      case rel =>
        refine ⟨k + 1, by omega, by congr 1; omega, ?_, HS2.out, hG.out.1.trans (gr_set _ _ _ _), ?_⟩
        · rw [← hd]; simp
        · have := hG.out.2
          simpa [World.setCell] using this
/-- The number that eight bytes say, the highest first. -/
def be (l : List UInt8) : Nat := l.foldl (fun u c => u * 256 + c.toNat) 0
theorem be_app (l : List UInt8) (c : UInt8) : be (l ++ [c]) = be l * 256 + c.toNat := by simp [be, List.foldl_append]
theorem be_lt_of : ∀ (l : List UInt8) (u : Nat), l.foldl (fun u c => u * 256 + c.toNat) u < (u + 1) * 256 ^ l.length
  | [], u => by simp
  | c :: l, u => by
    have h := be_lt_of l (u * 256 + c.toNat)
    have hc := UInt8.toNat_lt c
    rw [List.foldl_cons, List.length_cons]
    refine Nat.lt_of_lt_of_le h ?_
    rw [Nat.pow_succ, Nat.mul_comm (256 ^ l.length) 256, ← Nat.mul_assoc]
    exact Nat.mul_le_mul_right _ (by omega)
theorem be_lt (l : List UInt8) : be l < 256 ^ l.length := by
  have := be_lt_of l 0
  unfold be
  omega
theorem or_u64 {a b : Nat} (ha : a < 18446744073709551616) (hb : b < 18446744073709551616) : bits .or .u64 (a : Int) (b : Int) = ((a ||| b : Nat) : Int) := by
  have e : bits .or .u64 (a : Int) (b : Int) = IntKind.u64.wrap ((BitVec.ofInt 64 (a : Int) ||| BitVec.ofInt 64 (b : Int)).toNat : Int) := rfl
  rw [e, BitVec.toNat_or, ofInt_toNat 64 a ha, ofInt_toNat 64 b hb]
  have := Nat.or_lt_two_pow (n := 64) ha hb
  simp only [IntKind.wrap_u64]
  omega
theorem or_low (a c : Nat) (hc : c < 256) : a * 256 ||| c = a * 256 + c := by
  have := Nat.two_pow_add_eq_or_of_lt (i := 8) (b := c) hc a
  rw [Nat.mul_comm a 256]
  exact this.symm
/-- A number as int64. -/
def sgn (u : Nat) : Int := wrap64 (u : Int)
set_option maxHeartbeats 1600000 in
theorem takeN85 (w : World) (g o : Nat) (cap : Nat) (l : List UInt8) (hl : l.length = 8) (hc : w.rangeAt g o (enc l)) :
    Calls Tryd.prog 85 #[.slice (some ⟨g, o, none⟩) 8 cap] w fun e w' => e = .returned (.int .i64 (sgn (be l))) ∧ w' = w := by
  go_enter Tryd.func85, Tryd.ntmps85
  go_wp2
  go_loopg [3, 8] 8 (fun gk s3 s8 wr => ∃ k : Nat, k + gk = 8 ∧ s8 = .int .i64 k ∧ s3 = .int .u64 (be (l.take k)) ∧ wr = w)
  case atStart => exact ⟨0, by omega, rfl, rfl, rfl⟩
  case round =>
    obtain ⟨k, hk, rfl, rfl, rfl⟩ := hrel
    cases gk with
    | zero =>
      obtain rfl : k = 8 := by omega
      rw [← hl, List.take_length]
      have hb : be l < 18446744073709551616 := by
        have := be_lt l
        rw [hl] at this; exact this
      go_wp2
      go_ret
      exact ⟨rfl, rfl⟩
    | succ q =>
      have hk8 : k < 8 := by omega
      have hkz : (k : Int) < 8 := by omega
      have hcell := bs_cell hc (i := k) (by omega)
      obtain ⟨c, hcc⟩ : ∃ c : UInt8, l.getD k 0 = c := ⟨_, rfl⟩
      rw [hcc] at hcell
      have hT : Hid (be (l.take (k + 1)) = be (l.take k) * 256 + c.toNat) := by
        show be (l.take (k + 1)) = _
        rw [List.take_succ_eq_append_getElem (by omega), be_app]
        congr 2
        rw [← hcc]; simp [show k < l.length by omega]
      have hb : be (l.take k) < 256 ^ k := by
        have := be_lt (l.take k)
        rwa [List.length_take, show min k l.length = k by omega] at this
      have hb7 : be (l.take k) < 72057594037927936 := Nat.lt_of_lt_of_le hb (by
        have : 256 ^ k ≤ 256 ^ 7 := Nat.pow_le_pow_right (by decide) (by omega)
        omega)
      generalize be (l.take k) = u at *
      have hc8 : c.toNat < 256 := UInt8.toNat_lt c
      have ho := or_u64 (a := u * 256) (b := c.toNat) (by omega) (by omega)
      rw [or_low u c.toNat hc8] at ho
      have ho' : bits .or .u64 ((u : Int) * 256) (c.toNat : Int) = ((u * 256 + c.toNat : Nat) : Int) := by
        rw [← ho]; simp
      clear ho hc hcc hb
      go_wp2
      go_roundg q
      case measure => omega
      case rel =>
        exact ⟨k + 1, by omega, by simp, by rw [hT.out]; simp, rfl⟩
/-- A sum's bytes, of which k are written. -/
def p4 (a b c d : Int) : Nat → List Value
  | 0 => [.int .u8 0, .int .u8 0, .int .u8 0, .int .u8 0]
  | 1 => [.int .u8 a, .int .u8 0, .int .u8 0, .int .u8 0]
  | 2 => [.int .u8 a, .int .u8 b, .int .u8 0, .int .u8 0]
  | 3 => [.int .u8 a, .int .u8 b, .int .u8 c, .int .u8 0]
  | _ => [.int .u8 a, .int .u8 b, .int .u8 c, .int .u8 d]
def by4 (x k : Nat) : Int := ((x / 256 ^ k : Nat) : Int) % 256
theorem p4_all (x : Nat) : encA (le4b x) = (p4 (by4 x 0) (by4 x 1) (by4 x 2) (by4 x 3) 4).toArray := by
  unfold p4 encA enc le4b by4
  simp only [List.map_cons, List.map_nil, ofNat_val]
theorem results_cell67 {fn : Func} {p : Tmp} (h : fn.results = #[.cell p 112]) (tmps : Array Value) (w : World) (g : Nat) (a b c d : Int) (t : TypeId) (hp : tmps.getD p undef = .pointer (some ⟨g, 0, none⟩)) (hr : w.heap[g]? = some (.cells #[.int .u8 a, .int .u8 b, .int .u8 c, .int .u8 d] t)) :
    (results fn tmps).run Tryd.prog w = .ok (.agg #[.int .u8 a, .int .u8 b, .int .u8 c, .int .u8 d]) w := by
  have hp' : tmps[p]?.getD undef = .pointer (some ⟨g, 0, none⟩) := by simpa using hp
  have hv := run_loadVar_mid (P := Tryd.prog) w g 0 112 [.int .u8 a, .int .u8 b, .int .u8 c, .int .u8 d] _ (by
    have := World.rangeAt_of_block hr 0 4
    simpa using this) Tryd.underlying112 rfl (by kernel_rfl)
  simp only [results, h]
  simp [hp', asAddr, hv]
set_option maxHeartbeats 1600000 in
theorem bytesOf70 (w : World) (x : Nat) (hx : x < 4294967296) :
    Calls Tryd.prog 70 #[.int .u32 x] w fun e w' => e = .returned (.agg (encA (le4b x))) ∧ Below w.heap.size w w' := by
  rw [p4_all]
  have h0 : Hid (by4 x 0 = ((x / 256 ^ 0 : Nat) : Int) % 256) := rfl
  have h1 : Hid (by4 x 1 = ((x / 256 ^ 1 : Nat) : Int) % 256) := rfl
  have h2 : Hid (by4 x 2 = ((x / 256 ^ 2 : Nat) : Int) % 256) := rfl
  have h3 : Hid (by4 x 3 = ((x / 256 ^ 3 : Nat) : Int) % 256) := rfl
  generalize by4 x 0 = a at *
  generalize by4 x 1 = b at *
  generalize by4 x 2 = c at *
  generalize by4 x 3 = d at *
  go_enter Tryd.func70, Tryd.ntmps70
  go_wp2
  go_loopg [0, 5] 4 (fun gk s0 s5 wr => ∃ k : Nat, k + gk = 4 ∧ s5 = .int .i64 k ∧ s0 = .int .u32 (x / 256 ^ k : Nat) ∧ wr = (w.alloc (.cells (p4 a b c d 0).toArray 112)).alloc (.cells (p4 a b c d k).toArray 112))
  case atStart => exact ⟨0, by omega, rfl, by simp, rfl⟩
  case round =>
    obtain ⟨k, hk, rfl, rfl, rfl⟩ := hrel
    cases gk with
    | zero =>
      obtain rfl : k = 4 := by omega
      unfold p4
      go_wp2
      refine bodyPost_ret (v := .agg #[.int .u8 a, .int .u8 b, .int .u8 c, .int .u8 d]) ?_ rfl ⟨rfl, ?_⟩
      · refine results_cell67 Tryd.results70 _ _ w.heap.size a b c d 112 rfl ?_
        exact blk_on (bel1 _ _) (heap_alloc_last w _)
      · exact (bel1 w _).alloc (by simp) _
    | succ q =>
      have hd := div_step x k
      have hu : x / 256 ^ k < 4294967296 := Nat.lt_of_le_of_lt (Nat.div_le_self _ _) hx
      obtain ⟨m, hmm⟩ : ∃ m, x / 256 ^ k = m := ⟨_, rfl⟩
      have hk4 : k = 0 ∨ k = 1 ∨ k = 2 ∨ k = 3 := by omega
      rcases hk4 with rfl | rfl | rfl | rfl
      all_goals
        rw [hmm] at hd hu ⊢
        (try rw [hmm] at h0); (try rw [hmm] at h1); (try rw [hmm] at h2); (try rw [hmm] at h3)
        clear hmm hx
        unfold p4
        go_wp2
        go_roundg q
        case measure => omega
        case rel => first
          | exact ⟨1, by omega, rfl, by rw [← hd]; simp, by rw [h0.out]; rfl⟩
          | exact ⟨2, by omega, rfl, by rw [← hd]; simp, by rw [h1.out]; rfl⟩
          | exact ⟨3, by omega, rfl, by rw [← hd]; simp, by rw [h2.out]; rfl⟩
          | exact ⟨4, by omega, rfl, by rw [← hd]; simp, by rw [h3.out]; rfl⟩
end Go.Proofs.YtnclhjjhobbbjaaDoor
