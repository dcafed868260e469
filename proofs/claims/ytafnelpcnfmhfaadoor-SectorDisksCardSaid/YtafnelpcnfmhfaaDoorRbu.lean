/-
  What Burst of the document's disk does.
-/
import Derived.Test.YtafnelpcnfmhfaaDoorRstay
import Derived.Test.YtafnelpcnfmhfaaDoorBurst
namespace Go.Proofs.YtafnelpcnfmhfaaDoor
open Go.RowKit Go.Maps
set_option linter.unusedVariables false      -- a walk need not use every condition

theorem turn1_even {l : List UInt8} {p v : Nat} (h : v % 2 = 0) : turn1 l p v = l := by
  unfold turn1 turnC
  rw [h, Nat.zero_mul, Nat.xor_zero, UInt8.ofNat_toNat]
  by_cases hp : p / 8 < l.length
  · rw [List.getD_eq_getElem?_getD, List.getElem?_eq_getElem hp]
    exact List.set_getElem_self hp
  · exact List.set_eq_of_length_le (by omega)
theorem burst_next {l cur : List UInt8} {p v p0 v0 : Nat} (h : burstL cur p v = burstL l p0 v0) (hp : p < 1024) : burstL (turn1 cur p v) (p + 1) (v / 2) = burstL l p0 v0 := by
  by_cases hv : v = 0
  · subst hv
    rw [turn1_even rfl, burstL_end (.inl rfl), ← h, burstL_end (.inl rfl)]
  · exact burstL_step h hv hp
theorem range_set {w : World} {g j : Nat} {l : List UInt8} (h : w.rangeAt g 0 (enc l)) (hj : j < l.length) (c : UInt8) : (w.setCell ⟨g, j, none⟩ (.int .u8 c.toNat)).rangeAt g 0 (enc (l.set j c)) := fun a v hv => by
  rw [Nat.zero_add]
  unfold enc at hv
  rw [List.map_set] at hv
  by_cases e : a = j
  · subst e
    rw [List.getElem?_set_self (by simpa using hj)] at hv
    have := h a _ (by unfold enc; rw [List.getElem?_map, List.getElem?_eq_getElem hj]; rfl)
    rw [Nat.zero_add] at this
    rw [World.cell?_setCell_same' _ _ _ (by rw [this]; rfl), ← hv]
  · rw [List.getElem?_set_ne (fun h => e h.symm)] at hv
    rw [World.cell?_setCell_other _ _ _ _ (fun e2 => e (by injection e2 with _ e2; exact e2.symm))]
    have := h a v hv
    rwa [Nat.zero_add] at this
theorem odd_val (l : List UInt8) (p v : Nat) (hv : v % 2 = 1) : bits .xor .u8 ((l[p / 8]?.getD 0).toNat : Int) (2 ^ (p % 8) % 256) = ((turnC l p v).toNat : Int) := by
  have h2 : 2 ^ (p % 8) < 256 := by
    have h8 : p % 8 < 8 := Nat.mod_lt _ (by decide)
    have : 2 ^ (p % 8) ≤ 2 ^ 7 := Nat.pow_le_pow_right (by decide) (by omega)
    omega
  have e : ((2 : Int) ^ (p % 8) % 256) = ((2 ^ (p % 8) : Nat) : Int) := by
    rw [show ((2 : Int) ^ (p % 8)) = ((2 ^ (p % 8) : Nat) : Int) by simp]
    generalize 2 ^ (p % 8) = y at h2
    omega
  rw [e, xor_u8 (UInt8.toNat_lt _) h2]
  unfold turnC
  rw [hv, Nat.one_mul, List.getD_eq_getElem?_getD, UInt8.toNat_ofNat_of_lt' (Nat.xor_lt_two_pow (n := 8) (UInt8.toNat_lt _) h2)]
set_option maxHeartbeats 3000000 in
set_option maxRecDepth 100000 in
theorem rburst_ok (w : World) (X : Nat → Prop) (hX : ∀ k, X k → k < w.heap.size) (r sb sc tb tc : Nat) (cv : Value) (s : Dsk) (h : RAt w X r sb sc tb tc cv s) (k p0 v0 : Nat) (hk : k < s.N) (hp0 : p0 < 1024) (hv0 : v0 < 4294967296) :
    Calls Tryd.prog 23 #[.pointer (some ⟨r, 0, none⟩), .int .i64 k, .int .i64 p0, .int .u32 v0] w fun e w' => e = .returned (.int .i64 0) ∧ (∃ sb' sc' tb' tc' cv', RAt w' X r sb' sc' tb' tc' cv' { s with st := upd s.st k (burstL (s.st k) p0 v0) }) ∧ KeptR r w w' := by
  obtain ⟨c0, -, -, -, -, -, -⟩ := six_of h.blk
  have l := h.lts
  have hss := h.ss k hk
  have hsl := h.sl k hk
  have hi : (Tryd.prog.info? 26).map (·.size) = some (enc (s.st k)).length := by rw [size26, len_enc, hsl]
  have ht4 := there4 w
  have hkz : (0 : Int) ≤ (k : Int) := by omega
  have hkN : (k : Int) < (s.N : Int) := by omega
  have hpz : ¬ (p0 : Int) < 0 := by omega
  have hpz2 : ¬ (1024 : Int) ≤ (p0 : Int) := by omega
  have HH := Lib.hid h
  have HX := Lib.hid hX
  clear h hX
  go_enter Tryd.func23, Tryd.ntmps23
  go_wp2_with (first
    | (show wpList _ _ _ (Oper.mk _ (Op.load 26 (Operand.tmp 34)) _ _ _ _ :: _) _ _
       refine wpList_load_mid rfl 26 _ rfl _ _ rfl _ _ hss Tryd.underlying26 rfl hi ?_)
    | (show wpList _ _ _ (Oper.mk _ (Op.store 26 (Operand.tmp 9) _) _ _ _ _ :: _) _ _
       (try rw [zc]); refine wpList_store26 rfl _ _ rfl w.heap.size 0 (s.st k) rfl rfl ht4 hsl ?_; intro w2 g2 r2 t2 z2))
  have hB2 : Below w.heap.size w w2 := Below.grown (bel1 w _) g2 (by simp) (fun k e => by injection e with e; omega)
  have HB2 := Lib.hid hB2
  have HR2 := Lib.hid r2
  have HT2 := Lib.hid (t2 _ _ _ ht4)
  clear hB2 g2 r2 t2 hss ht4 c0
  go_loopg [10] 32 (fun g s10 wr => ∃ (i : Nat) (cur : List UInt8), i + g = 32 ∧ p0 + i ≤ 1024 ∧ s10 = .int .i64 i ∧ cur.length = 128 ∧ burstL cur (p0 + i) (v0 / 2 ^ i) = burstL (s.st k) p0 v0 ∧ wr.rangeAt w.heap.size 0 (enc cur) ∧ wr.there w.heap.size 0 128 ∧ Below w.heap.size w wr)
  case atStart => exact ⟨0, s.st k, by omega, by omega, rfl, hsl, by simp, HR2.out, HT2.out, HB2.out⟩
  case round =>
    obtain ⟨i, cur, hig, hpi, rfl, hcl, hcur, hra, hth, hB⟩ := hrel
    by_cases hend : i = 32 ∨ p0 + i = 1024
    · have hcc : cur = burstL (s.st k) p0 v0 := by
        rw [← hcur]
        rcases hend with h | h
        · subst h; rw [burstL_end (.inl (Nat.div_eq_of_lt hv0))]
        · rw [burstL_end (.inr (by omega))]
      subst hcc
      have HA := Lib.hid (HH.out.on hB)
      obtain ⟨b0, -, -, -, -, -, -⟩ := six_of HA.out.blk
      obtain ⟨i0, hi0, hzz⟩ := Option.map_eq_some_iff.1 info26
      simp only [Prod.mk.injEq] at hzz
      obtain ⟨hz0, hs0, hy0⟩ := hzz
      have hzs0 : (Value.agg (encA zer)).cells.size = 128 := by show (encA zer).size = 128; rw [size_encA, len_zer]
      have hls : (secs s.st s.N).length = s.N * 128 := len_secs HH.out.sl
      have htop := HH.out.top
      have hpos := HH.out.pos
      have hnews : ∀ j u, (secs s.st s.N)[j]? = some u → wr.cell? ((⟨sb, 0, none⟩ : Addr).add j) = some u := fun j u hu => by
        have := HA.out.whole j u hu
        by_cases hj : j = 0 <;> simpa [Addr.add, hj] using this
      have hi48 : (Tryd.prog.info? 26).map (·.size) = some (enc (burstL (s.st k) p0 v0)).length := by rw [size26, len_enc, hcl]
      have HB := Lib.hid hB
      have HRA := Lib.hid hra
      have hse : (encA (burstL (s.st k) p0 v0)).size = 128 := by rw [size_encA, hcl]
      have hszr : w.heap.size < wr.heap.size := World.block_lt_of_cell? wr _ (hra 0 _ (by unfold enc; rw [List.getElem?_map, List.getElem?_eq_getElem (by omega)]; rfl))
      clear hcur hra hth hB
      generalize hbs : burstL (s.st k) p0 v0 = bs at *
      have HBS := Lib.hid hbs
      clear hbs
      by_cases hE : i = 32
      · have hi32 : ¬ (i : Int) < 32 := by omega
        clear hpi hig hE hend
        go_wp2_with (first
          | (show wpList _ _ _ (Oper.mk _ (Op.call { callee := .builtin .append, args := #[_, _], argTypes := #[77, 77] }) _ _ _ _ :: _) _ _
             refine wpList_append_lies _ rfl _ _ 77 rfl wr.heap.size 26 i0 (.agg (encA zer)) 128 128 Tryd.underlying77 hi0 hz0 hs0 hy0 hzs0 (by decide) (.slice none 0 0) 0 [] rfl (World.ownsRow_nil _ _ _ _) ⟨sb, 0, none⟩ s.N sc (secs s.st s.N) rfl hls hnews (one_secs _ _) hpos (by unfold maxLen; omega) (by omega) (Nat.le_refl _) wr.heap.size rfl ?_
             intro g cap W2 hown hgrow hat hlt
             obtain rfl : g = wr.heap.size := hat.resolve_left (fun e => by cases e)
             have hB2 : Below wr.heap.size wr W2 := ⟨hgrow.os, hgrow.tape, hgrow.output, hgrow.size, fun k hk => hgrow.block k hk (fun e => by cases e)⟩
             rw [Nat.zero_add, List.nil_append] at hown
             obtain ⟨-, hcap, hrow2, hth2⟩ := row_there hown
             rw [hls] at hth2
             have e1 := rangeAt_same HRA.out (hB2.block w.heap.size hszr)
             have ht2 : W2.there wr.heap.size (k * 128) 128 := fun j hj => by have := hth2 (k * 128 + j) (by omega); simpa using this
             obtain ⟨H4, K4, Z4, f0, fz⟩ := stay_S HA.out (fun k h => by have := HX.out k h; omega) hB2 rfl hlt hcap hrow2 hth2 hk hcl
             have H4H := Lib.hid H4
             have K4H := Lib.hid K4
             clear H4 K4 Z4 hown hgrow hat hB2 hrow2 hth2 hnews b0)
          | (show wpList _ _ _ (Oper.mk _ (Op.load 26 (Operand.tmp 9)) _ _ _ _ :: _) _ _
             refine wpList_load_mid rfl 26 _ rfl _ _ rfl _ _ e1 Tryd.underlying26 rfl hi48 ?_)
          | (show wpList _ _ _ (Oper.mk _ (Op.store 26 (Operand.tmp 72) _) _ _ _ _ :: _) _ _
             refine wpList_store_mid rfl 26 _ _ rfl wr.heap.size (k * 128) (encA bs) rfl rfl (by rw [hse]; exact ht2) (by rw [size26, hse]) (one_encA bs) ?_
             generalize W2.setCells wr.heap.size (k * 128) (encA bs).toList = W3 at *))
        go_ret
        exact ⟨rfl, ⟨_, _, _, _, _, by rw [HBS.out]; exact H4H.out⟩, (KeptR.bel HB.out).trans K4H.out⟩
      · have hi32 : (i : Int) < 32 := by omega
        have hip : ¬ (i : Int) < 1024 - (p0 : Int) := by omega
        clear hpi hig hE hend
        go_wp2_with (first
          | (show wpList _ _ _ (Oper.mk _ (Op.call { callee := .builtin .append, args := #[_, _], argTypes := #[77, 77] }) _ _ _ _ :: _) _ _
             refine wpList_append_lies _ rfl _ _ 77 rfl wr.heap.size 26 i0 (.agg (encA zer)) 128 128 Tryd.underlying77 hi0 hz0 hs0 hy0 hzs0 (by decide) (.slice none 0 0) 0 [] rfl (World.ownsRow_nil _ _ _ _) ⟨sb, 0, none⟩ s.N sc (secs s.st s.N) rfl hls hnews (one_secs _ _) hpos (by unfold maxLen; omega) (by omega) (Nat.le_refl _) wr.heap.size rfl ?_
             intro g cap W2 hown hgrow hat hlt
             obtain rfl : g = wr.heap.size := hat.resolve_left (fun e => by cases e)
             have hB2 : Below wr.heap.size wr W2 := ⟨hgrow.os, hgrow.tape, hgrow.output, hgrow.size, fun k hk => hgrow.block k hk (fun e => by cases e)⟩
             rw [Nat.zero_add, List.nil_append] at hown
             obtain ⟨-, hcap, hrow2, hth2⟩ := row_there hown
             rw [hls] at hth2
             have e1 := rangeAt_same HRA.out (hB2.block w.heap.size hszr)
             have ht2 : W2.there wr.heap.size (k * 128) 128 := fun j hj => by have := hth2 (k * 128 + j) (by omega); simpa using this
             obtain ⟨H4, K4, Z4, f0, fz⟩ := stay_S HA.out (fun k h => by have := HX.out k h; omega) hB2 rfl hlt hcap hrow2 hth2 hk hcl
             have H4H := Lib.hid H4
             have K4H := Lib.hid K4
             clear H4 K4 Z4 hown hgrow hat hB2 hrow2 hth2 hnews b0)
          | (show wpList _ _ _ (Oper.mk _ (Op.load 26 (Operand.tmp 9)) _ _ _ _ :: _) _ _
             refine wpList_load_mid rfl 26 _ rfl _ _ rfl _ _ e1 Tryd.underlying26 rfl hi48 ?_)
          | (show wpList _ _ _ (Oper.mk _ (Op.store 26 (Operand.tmp 72) _) _ _ _ _ :: _) _ _
             refine wpList_store_mid rfl 26 _ _ rfl wr.heap.size (k * 128) (encA bs) rfl rfl (by rw [hse]; exact ht2) (by rw [size26, hse]) (one_encA bs) ?_
             generalize W2.setCells wr.heap.size (k * 128) (encA bs).toList = W3 at *))
        go_ret
        exact ⟨rfl, ⟨_, _, _, _, _, by rw [HBS.out]; exact H4H.out⟩, (KeptR.bel HB.out).trans K4H.out⟩
    · have hi32 : (i : Int) < 32 := by omega
      have hip : (i : Int) < 1024 - (p0 : Int) := by omega
      have hj : (p0 + i) / 8 < 128 := by omega
      have hq : ((p0 : Int) + (i : Int)).tdiv 8 = (((p0 + i) / 8 : Nat) : Int) := by rw [Int.tdiv_eq_ediv_of_nonneg (by omega)]; omega
      have hr : ((p0 : Int) + (i : Int)).tmod 8 = (((p0 + i) % 8 : Nat) : Int) := by rw [Int.tmod_eq_emod_of_nonneg (by omega)]; omega
      have hcel : wr.cell? ⟨w.heap.size, (p0 + i) / 8, none⟩ = some (.int .u8 (cur.getD ((p0 + i) / 8) 0).toNat) := by
        have := hra ((p0 + i) / 8) (.int .u8 (cur.getD ((p0 + i) / 8) 0).toNat) (by unfold enc; rw [List.getElem?_map, List.getD_eq_getElem?_getD, List.getElem?_eq_getElem (by omega)]; rfl)
        rwa [Nat.zero_add] at this
      have hfz : wr.frozen? ⟨w.heap.size, (p0 + i) / 8, none⟩ = false := by have := (hth _ hj).2; rwa [Nat.zero_add] at this
      have hsh : (v0 : Int) / 2 ^ i = ((v0 / 2 ^ i : Nat) : Int) := by simp
      have hnext : v0 / 2 ^ (i + 1) = v0 / 2 ^ i / 2 := by rw [Nat.pow_succ, Nat.div_div_eq_div_mul]
      have hcur2 := burst_next hcur (by omega)
      rw [← hnext] at hcur2
      have hjz : (((p0 + i) / 8 : Nat) : Int) < 128 := by omega
      have hjz0 : (0 : Int) ≤ (((p0 + i) / 8 : Nat) : Int) := by omega
      have HRA := Lib.hid hra
      have HTH := Lib.hid hth
      have HB := Lib.hid hB
      clear hra hth hB hcur hend
      cases gk with
      | zero => omega
      | succ g =>
        rcases Nat.mod_two_eq_zero_or_one (v0 / 2 ^ i) with hm | hm
        · have hmz : ((v0 : Int) / 2 ^ i).tmod 2 = 0 := by rw [hsh]; generalize v0 / 2 ^ i = y at hm; rw [Int.tmod_eq_emod_of_nonneg (by omega)]; omega
          rw [turn1_even hm] at hcur2
          clear hsh
          go_wp2
          go_roundg g
          case measure => omega
          case rel => exact ⟨i + 1, cur, by omega, by omega, by simp, hcl, hcur2, HRA.out, HTH.out, HB.out⟩
        · have hmz : ((v0 : Int) / 2 ^ i).tmod 2 = 1 := by rw [hsh]; generalize v0 / 2 ^ i = y at hm; rw [Int.tmod_eq_emod_of_nonneg (by omega)]; omega
          have hov : bits .xor .u8 ((cur[(p0 + i) / 8]'(by omega)).toNat : Int) (2 ^ ((p0 + i) % 8) % 256) = ((turnC cur (p0 + i) (v0 / 2 ^ i)).toNat : Int) := by
            have := odd_val cur (p0 + i) (v0 / 2 ^ i) hm
            rwa [List.getElem?_eq_getElem (by omega)] at this
          have HOV := Lib.hid hov
          clear hsh hov
          go_wp2
          go_region
          rw [HOV.out]
          go_wp2
          go_roundg g
          case measure => omega
          case rel =>
            have hBn : Below w.heap.size w (wr.setCell ⟨w.heap.size, (p0 + i) / 8, none⟩ (.int .u8 (turnC cur (p0 + i) (v0 / 2 ^ i)).toNat)) := Below.grown HB.out (gr_set wr w.heap.size _ _) HB.out.size (fun k e => by injection e with e; omega)
            exact ⟨i + 1, turn1 cur (p0 + i) (v0 / 2 ^ i), by omega, by omega, by simp, by rw [turn1_len, hcl], hcur2, range_set HRA.out (by omega) _, World.there_setCells HTH.out w.heap.size ((p0 + i) / 8) [.int .u8 (turnC cur (p0 + i) (v0 / 2 ^ i)).toNat], ⟨hBn.os, hBn.tape, hBn.output, hBn.size, hBn.block⟩⟩
set_option maxHeartbeats 800000 in
theorem rburst23 (w : World) (X : Nat → Prop) (hX : ∀ k, X k → k < w.heap.size) (r sb sc tb tc : Nat) (cv : Value) (s : Dsk) (h : RAt w X r sb sc tb tc cv s) (n a : Int) (v : Nat) (hv : v < 4294967296) :
    Calls Tryd.prog 23 #[.pointer (some ⟨r, 0, none⟩), .int .i64 n, .int .i64 a, .int .u32 v] w fun e w' => e = .returned (.int .i64 (s.burst n a v).1) ∧ (∃ sb' sc' tb' tc' cv', RAt w' X r sb' sc' tb' tc' cv' (s.burst n a v).2) ∧ KeptR r w w' := by
  unfold Dsk.burst
  by_cases hb : s.hasB n = false
  · rw [if_pos hb]
    obtain ⟨c0, -, -, -, -, -, -⟩ := six_of h.blk
    have HH := Lib.hid h
    simp only [Dsk.hasB, Bool.and_eq_false_iff, decide_eq_false_iff_not] at hb
    clear h hX
    by_cases hn : n < 0
    · go_enter Tryd.func23, Tryd.ntmps23
      go_wp2
      go_ret
      exact ⟨rfl, ⟨_, _, _, _, _, HH.out⟩, KeptR.refl _ _⟩
    · have hn2 : (s.N : Int) ≤ n := by omega
      go_enter Tryd.func23, Tryd.ntmps23
      go_wp2
      go_ret
      exact ⟨rfl, ⟨_, _, _, _, _, HH.out⟩, KeptR.refl _ _⟩
  · rw [if_neg hb]
    have hb2 : s.hasB n = true := by simpa using hb
    simp only [Dsk.hasB, Bool.and_eq_true, decide_eq_true_eq] at hb2
    clear hb
    by_cases ha : a < 0 ∨ 1024 ≤ a
    · rw [if_pos ha]
      obtain ⟨c0, -, -, -, -, -, -⟩ := six_of h.blk
      have HH := Lib.hid h
      have hn1 : ¬ n < 0 := by omega
      have hn2 : ¬ (s.N : Int) ≤ n := by omega
      clear h hX hb2
      by_cases ha0 : a < 0
      · clear ha
        go_enter Tryd.func23, Tryd.ntmps23
        go_wp2
        go_ret
        exact ⟨rfl, ⟨_, _, _, _, _, HH.out⟩, KeptR.refl _ _⟩
      · have ha1 : 1024 ≤ a := by omega
        clear ha
        go_enter Tryd.func23, Tryd.ntmps23
        go_wp2
        go_ret
        exact ⟨rfl, ⟨_, _, _, _, _, HH.out⟩, KeptR.refl _ _⟩
    · rw [if_neg ha]
      obtain ⟨k, rfl⟩ : ∃ k : Nat, n = k := ⟨n.toNat, by omega⟩
      obtain ⟨p, rfl⟩ : ∃ p : Nat, a = p := ⟨a.toNat, by omega⟩
      exact rburst_ok w X hX r sb sc tb tc cv s h k p v (by omega) (by omega) hv
end Go.Proofs.YtafnelpcnfmhfaaDoor
