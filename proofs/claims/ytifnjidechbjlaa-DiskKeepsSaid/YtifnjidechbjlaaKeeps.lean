/-
  The statement on what stays behind a crash: its walk.
-/
import Derived.Test.YtifnjidechbjlaaArr
import Derived.Test.YtifnjidechbjlaaShl
namespace Go.Proofs.Ytifnjidechbjlaa
open Go.RowKit Go.Maps
set_option linter.unusedVariables false      -- a walk need not use every condition
attribute [local go_sem ↓] Go.wp_at_zero Go.wp_at_succ

set_option maxHeartbeats 10000000 in
set_option maxRecDepth 100000 in
theorem keeps4 (W : World) (v1 v2 : Value) (l1 l2 : List Opr) (hl1 : OpsAt W v1 l1) (hl2 : OpsAt W v2 l2) (hn1 : l1.length ≤ 140737488351232) (hn2 : l2.length ≤ 140737488351232) (torn : Int) (pk : Option Addr) (ck : Nat) (kb : List Bool) (hkl : kb.length ≤ 140737488351232)
    (hkb : kb = [] ∨ ∃ b o, pk = some ⟨b, o, none⟩ ∧ b < W.heap.size ∧ ∀ i (hi : i < kb.length), W.cell? ⟨b, o + i, none⟩ = some (.bool kb[i])) :
    Calls Try.prog 4 #[v1, v2, .int .i64 torn, .slice pk kb.length ck] W fun e W' => e = .returned (.bool true) ∧ Below W.heap.size W W' := by
  have cN := new7 8 (by omega) (by omega) W
  obtain ⟨p1, q1, rfl, hl1⟩ := hl1
  obtain ⟨p2, q2, rfl, hl2⟩ := hl2
  have HKB : Hid (kb = [] ∨ ∃ b o, pk = some ⟨b, o, none⟩ ∧ b < W.heap.size ∧ ∀ i (hi : i < kb.length), W.cell? ⟨b, o + i, none⟩ = some (.bool kb[i])) := hkb
  clear hkb
  go_enter Try.func4, Try.ntmps4
  go_wp2_with (first
    | (go_at_call 7; refine cN.mono ?_; rintro e w1 ⟨rfl, h1, B1⟩)
    | (go_at_call 9; refine (begun9 _).mono ?_; rintro e w2 ⟨rfl, B2⟩; have h2 := h1.on B2; replace B2 := bel_then B1 B2))
  have lt2 := h2.lts
  have h3 := (h2.alloc (.cells Try.zeroCells49 49)).alloc (.cells Try.zeroCells49 49)
  have hH3 := (Arr.new w2).on (bel1 _ (.cells Try.zeroCells49 49))
  have hO3 := Arr.new (w2.alloc (.cells Try.zeroCells49 49))
  rw [World.size_alloc] at hO3
  have B3 : Below W.heap.size W ((w2.alloc (.cells Try.zeroCells49 49)).alloc (.cells Try.zeroCells49 49)) := bel_then B2 (bel_then (bel1 _ _) (bel1 _ _))
  clear h1 h2 B1 B2 cN
  generalize (w2.alloc (.cells Try.zeroCells49 49)).alloc (.cells Try.zeroCells49 49) = w3 at *
  go_loopg [40] l1.length (fun g sc wr => ∃ (i : Nat) (s : Dsk) (f : Nat → List UInt8), i + g = l1.length ∧ sc = .int .i64 i ∧ At wr (W.heap.size + 2) W.heap.size (W.heap.size + 1) s ∧ Wr s f (fun _ => zer) ∧ Arr wr w2.heap.size f ∧ Arr wr (w2.heap.size + 1) (fun _ => zer) ∧ Below W.heap.size W wr)
  case atStart => exact ⟨0, made 8, fun _ => zer, by omega, rfl, h3, Wr.start, hH3, hO3, B3⟩
  case round =>
    obtain ⟨i, s, f, hig, rfl, hA, hWr, hH, hO, hB⟩ := hrel
    cases gk with
    | zero =>
      obtain rfl : i = l1.length := by omega
      clear hl1 hig
      have hfl := hWr.flush
      have HF2 : Hid (Wr s.flush.2 f f) := hfl.2
      have hE := hfl.1
      have lts := hA.lts
      have szH := hH.lt
      have szO := hO.lt
      have HA : Hid (At wr (W.heap.size + 2) W.heap.size (W.heap.size + 1) s) := hA
      clear hfl hWr
      go_wp2_with (first
        | (go_at_call 19; refine (flush19 _ _ _ _ s HA.out).mono ?_; rintro e w4 ⟨rfl, h4, k4⟩; rw [hE]
           have hH4 := hH.kept k4 (by omega) (by omega) (by omega)
           have hO4 := hO.kept k4 (by omega) (by omega) (by omega)
           have B4 := bel_kept hB k4 (by omega) (by omega) (by omega)
           have hlS : (secs f 8).length = 1024 := len_secs hH4.len
           clear hH hO hB)
        | (show wpList _ _ _ (Oper.mk _ (Op.load 49 _) _ _ _ _ :: _) _ _
           refine wpList_load_mid rfl 49 _ rfl _ _ rfl _ _ hH4.whole Try.underlying49 rfl (by rw [size49, hlS]) ?_)
        | (show wpList _ _ _ (Oper.mk _ (Op.store 49 _ _) _ _ _ _ :: _) _ _
           refine wpList_store_mid rfl 49 _ _ rfl (w2.heap.size + 1) 0 (secs f 8).toArray rfl rfl (by rw [show (secs f 8).toArray.size = 1024 from hlS]; exact hO4.th) (by rw [size49, show (secs f 8).toArray.size = 1024 from hlS]) (all_oneCell_toArray (one_secs f 8)) ?_))
      have hg5 := gr_sets (w2.heap.size + 1) (secs f 8) 0 w4
      have h3 := h4.grown hg5 (by omega) (by omega) (by omega)
      have hH3 := hH4.grown hg5 (by omega)
      have hL3 := hH4.copy hO4
      have B3 := Below.grown B4 hg5 B4.size (fun k e => by injection e with e; omega)
      have hW3 := HF2.out
      clear hg5 h4 hH4 hO4 B4 k4 HF2 hE HA
      show Code.wp _ _ _ _ (w4.setCells (w2.heap.size + 1) 0 (secs f 8))
      generalize w4.setCells (w2.heap.size + 1) 0 (secs f 8) = w3 at *
      generalize s.flush.2 = s3 at *
      generalize f = fh at *
      clear lts szH szO
      go_loopg [65] l2.length (fun g sc wr => ∃ (i : Nat) (s : Dsk) (f : Nat → List UInt8), i + g = l2.length ∧ sc = .int .i64 i ∧ At wr (W.heap.size + 2) W.heap.size (W.heap.size + 1) s ∧ Wr s f fh ∧ Arr wr (w2.heap.size + 1) f ∧ Arr wr w2.heap.size fh ∧ Below W.heap.size W wr)
      case atStart => exact ⟨0, s3, fh, by omega, rfl, h3, hW3, hL3, hH3, B3⟩
      case round =>
        obtain ⟨i, s, f, hig, rfl, hA, hWr, hH, hO, hB⟩ := hrel
        cases gk with
        | zero =>
          obtain rfl : i = l2.length := by omega
          clear hl2 hig
          have lts := hA.lts
          have szH := hH.lt
          have szO := hO.lt
          obtain ⟨e1, e2, T, hLf⟩ := hWr.crash kb torn
          have hbk : ∀ w', Below W.heap.size W w' → Bools w' (W.heap.size + 2) W.heap.size (W.heap.size + 1) (.slice pk kb.length ck) kb := fun w' hw => by
            refine ⟨⟨pk, ck, rfl, ?_⟩, by omega⟩
            rcases HKB.out with h | ⟨b, o, h1, h2, h3⟩
            · exact .inl h
            · exact .inr ⟨b, o, h1, Nat.lt_of_lt_of_le h2 hw.size, by omega, by omega, by omega, fun i hi => (hw.cell (p := ⟨b, o + i, none⟩) h2).trans (h3 i hi)⟩
          have hLN : s.dirty.length ≤ 16384 := by have := dirty_len s; have := hA.top; omega
          have HLf : Hid (Lf ((s.crash kb torn).2.start [] 0).2 f fh s.dirty T) := hLf
          clear hWr hLf
          go_wp2_with (first
            | (go_at_call 14; refine (dirty14 _ _ _ _ s hA).mono ?_; rintro e w4 ⟨vd, rfl, hrow, -, B4⟩
               obtain ⟨pd, capd, rfl, hRow⟩ := row_at hrow
               have h4 := hA.on B4
               have hH4 := hH.on B4
               have hO4 := hO.on B4
               have sz4 := B4.size
               have BB4 := bel_then hB B4)
            | (go_at_call 20; refine (crash20 _ _ _ _ s h4 torn _ kb (hbk _ BB4)).mono ?_; rintro e w5 ⟨rfl, h5, k5⟩; rw [e1]
               have hH5 := hH4.kept k5 (by omega) (by omega) (by omega)
               have hO5 := hO4.kept k5 (by omega) (by omega) (by omega)
               have BB5 := bel_kept BB4 k5 (by omega) (by omega) (by omega))
            | (go_at_call 21; refine (start21 _ _ _ _ (s.crash kb torn).2 h5 0 _ [] (bools_none _ _ _ _)).mono ?_; rintro e w6 ⟨rfl, h6, k6⟩; rw [e2]
               have hH6 := hH5.kept k6 (by omega) (by omega) (by omega)
               have hO6 := hO5.kept k6 (by omega) (by omega) (by omega)
               have BB6 := bel_kept BB5 k6 (by omega) (by omega) (by omega)))
          have hR6 : RowN w6 pd s.dirty := by
            rcases hRow with h | ⟨g, h1, h2, h3, h4⟩
            · exact .inl h
            · refine .inr ⟨g, h1, Nat.lt_of_lt_of_le h3 (Nat.le_trans k5.size k6.size), fun i hi => ?_⟩
              have hk := k5.trans k6
              exact (World.cell?_of_block (w := w4) (a := ⟨g, i, none⟩) (hk.block g h3 (by omega) (by omega) (by omega))).trans (h4 i hi)
          have hRne : s.dirty = [] ∨ ∃ g, pd = some ⟨g, 0, none⟩ ∧ W.heap.size + 3 ≤ g := by
            rcases hRow with h | ⟨g, h1, h2, h3, h4⟩
            · exact .inl h
            · exact .inr ⟨g, h1, by omega⟩
          have hRk : ∀ w', Kept (W.heap.size + 2) W.heap.size (W.heap.size + 1) w6 w' → RowN w' pd s.dirty := fun w' hk => by
            rcases hRne with h | ⟨g, h1, h2⟩
            · exact .inl h
            · rcases hR6 with h | ⟨g', h1', h3, h4⟩
              · exact .inl h
              · obtain rfl : g = g' := by rw [h1] at h1'; injection h1' with h1'; injection h1'
                exact .inr ⟨g, h1, Nat.lt_of_lt_of_le h3 hk.size, fun i hi => (World.cell?_of_block (w := w6) (a := ⟨g, i, none⟩) (hk.block g h3 (by omega) (by omega) (by omega))).trans (h4 i hi)⟩
          have HRk : Hid (∀ w', Kept (W.heap.size + 2) W.heap.size (W.heap.size + 1) w6 w' → RowN w' pd s.dirty) := hRk
          have HH6 : Hid (Arr w6 (w2.heap.size + 1) f) := hH6
          have HO6 : Hid (Arr w6 w2.heap.size fh) := hO6
          have HB6 : Hid (Below W.heap.size W w6) := BB6
          have lt6 := h6.lts
          have szH6 := hH6.lt
          have szO6 := hO6.lt
          clear hRow hrow hR6 hRne hRk hH hO hA hB h4 hH4 hO4 sz4 BB4 B4 h5 hH5 hO5 BB5 k5 k6 BB6 hbk hH6 hO6 e1 e2 lts szH szO
          generalize s.dirty = L at *
          generalize ((s.crash kb torn).2.start [] 0).2 = s0 at *
          go_loopg [18, 96] 8 (fun g s18 s96 wr => ∃ (n : Nat) (s : Dsk), n + g = 8 ∧ s96 = .int .i64 n ∧ s18 = .int .i64 (cnt T n) ∧ At wr (W.heap.size + 2) W.heap.size (W.heap.size + 1) s ∧ Rg s0 n s ∧ Kept (W.heap.size + 2) W.heap.size (W.heap.size + 1) w6 wr)
          case atStart => exact ⟨0, s0, by omega, rfl, by rw [cnt_zero]; rfl, h6, Rg.start HLf.out, Kept.refl _ _ _ _⟩
          case round =>
            obtain ⟨n, s, hng, rfl, rfl, hA, hRg, hK⟩ := hrel
            clear h6
            cases gk with
            | zero =>
              obtain rfl : n = 8 := by omega
              have hle := cnt_le T 8
              have hlez : ((cnt T 8 : Nat) : Int) ≤ 1 := by omega
              have HK : Hid (Below W.heap.size W wr) := bel_kept HB6.out hK (by omega) (by omega) (by omega)
              clear hA hRg hK hng
              generalize cnt T 8 = m at *
              go_wp2
              go_ret
              exact ⟨by simp, HK.out⟩
            | succ gk =>
              have hn : n < 8 := by omega
              have hnz : (0 : Int) ≤ (n : Int) := by omega
              have hn8 : (n : Int) < 8 := by omega
              have HL : Hid (n + (gk + 1) = 8) := hng
              have hrd := hRg.read hn
              have hlf := HLf.out
              have hlL : (f n).length = 128 := HH6.out.len n hn
              have hlH : (fh n).length = 128 := HO6.out.len n hn
              have hcz : ((cnt T n : Nat) : Int) ≤ 1 := by have := cnt_le T n; omega
              have hlS0 : (s0.st n).length = 128 := by
                have h1 := hRg.still n (Nat.le_refl _) hn
                have h2 := hA.sl n (by rw [hRg.N]; exact hn)
                rw [h1.1] at h2; exact h2
              cases htn : s0.tn n with
              | true =>
                have hT : T = some n := (hlf.tn n hn).1 htn
                have hnL : decide (n ∈ L) = true := decide_eq_true (hlf.dirty n hT)
                rw [htn, if_pos rfl] at hrd
                obtain ⟨hE, hRg2, hrd2⟩ := hRg.write hn (f n)
                have hcy := cnt_yes hT
                have HRg2 : Hid (Rg s0 (n + 1) (s.write n (f n)).2) := hRg2
                have HCY : Hid (cnt T (n + 1) = cnt T n + 1) := hcy
                have hi48 : (Try.prog.info? 48).map (·.size) = some (enc (f n)).length := by rw [size48, len_enc, hlL]
                have hq := fun w => eq48 (f n) (f n) hlL hlL w
                simp only [decide_true] at hq
                clear hlf hRg hRg2 hcy htn hng hT hlS0
                generalize cnt T n = cn at *
                generalize hFN : f n = FN at *
                have HFN : Hid (f n = FN) := hFN
                clear hFN
                have tk1 : True := trivial
                go_wp2_with (first
                  | (go_at_call 22; clear tk1; refine (read22 _ _ _ _ s hA n).mono ?_; rintro e w8 ⟨rfl, B8⟩; rw [hrd]
                     have h8 := hA.on B8
                     have K8 : Kept (W.heap.size + 2) W.heap.size (W.heap.size + 1) w6 w8 := hK.trans (Kept.bel B8)
                     clear hA hK)
                  | (show wpList _ _ _ (Oper.mk _ (Op.store 48 (Operand.tmp 20) _) _ _ _ _ :: _) _ _
                     rw [zc]; refine wpList_store48 rfl _ _ rfl w8.heap.size 0 zer rfl rfl (there4 w8) len_zer ?_; intro w9 g9 r9 t9 z9
                     have l8 := h8.lts
                     have h9 := (h8.alloc (.cells (encA zer) 48)).grown g9 (by omega) (by omega) (by omega)
                     have K9 : Kept (W.heap.size + 2) W.heap.size (W.heap.size + 1) w6 w9 := (K8.trans (Kept.bel (bel1 w8 (.cells (encA zer) 48)))).beyond g9 K8.size
                     have hL9 := (HH6.out.kept K9 (by omega) (by omega) (by omega)).at_ n hn
                     rw [HFN.out] at hL9)
                  | (go_at_call 23; refine (contains23 _ pd capd L n hLN (HRk.out _ K9)).mono ?_; rintro e w9' ⟨rfl, rfl⟩; rw [hnL])
                  | (show wpList _ _ _ (Oper.mk _ (Op.load 48 (Operand.tmp 118)) _ _ _ _ :: _) _ _
                     refine wpList_want rfl fun KK hKK => wp_load_mid 48 _ rfl _ _ rfl _ _ hL9 Try.underlying48 rfl hi48 (hKK _ _ ?_))
                  | (go_at_call 17; refine (write17 _ _ _ _ s h9 n FN hlL).mono ?_; rintro e w10 ⟨rfl, h10, k10⟩; rw [hE]
                     have K10 := K9.trans k10)
                  | (go_at_call 22; refine (read22 _ _ _ _ _ h10 n).mono ?_; rintro e w11 ⟨rfl, B11⟩; rw [hrd2]
                     have h11 := h10.on B11
                     have K11 : Kept (W.heap.size + 2) W.heap.size (W.heap.size + 1) w6 w11 := K10.trans (Kept.bel B11))
                  | (show wpList _ _ _ (Oper.mk _ (Op.store 48 (Operand.tmp 22) _) _ _ _ _ :: _) _ _
                     rw [zc]; refine wpList_store48 rfl _ _ rfl w11.heap.size 0 FN rfl rfl (there4 w11) hlL ?_; intro w12 g12 r12 t12 z12
                     have l11 := h11.lts
                     have h12 := (h11.alloc (.cells (encA zer) 48)).grown g12 (by omega) (by omega) (by omega)
                     have K12 : Kept (W.heap.size + 2) W.heap.size (W.heap.size + 1) w6 w12 := (K11.trans (Kept.bel (bel1 w11 (.cells (encA zer) 48)))).beyond g12 K11.size
                     have hL12 := (HH6.out.kept K12 (by omega) (by omega) (by omega)).at_ n hn
                     rw [HFN.out] at hL12))
                have hu := Try.underlying48
                have e1 : w12.drew.rangeAt w11.heap.size 0 (enc FN) := by simpa using r12
                obtain ⟨FG, hFG⟩ : ∃ FG, FG = FN := ⟨_, rfl⟩
                have e2 : w12.drew.rangeAt (w2.heap.size + 1) (n * 128) (enc FG) := by rw [hFG]; simpa using hL12
                have hi49 : (Try.prog.info? 48).map (·.size) = some (enc FG).length := by rw [hFG]; exact hi48
                have hq2 : ∀ w, (Op.equalIn 10000 48 (.agg (enc FN).toArray) (.agg (enc FG).toArray)).run Try.prog w = .ok true w := by rw [hFG]; exact hq
                clear hFG hq
                have HA12 : Hid (At w12 (W.heap.size + 2) W.heap.size (W.heap.size + 1) (s.write n FN).2) := h12
                have HK12 : Hid (Kept (W.heap.size + 2) W.heap.size (W.heap.size + 1) w6 w12) := K12
                clear h8 K8 g9 r9 t9 z9 h9 K9 hL9 h10 k10 K10 h11 K11 B11 g12 r12 t12 z12 h12 K12 hL12 l8 l11 B8
                refine wp_region_noPanic ?_
                refine wp_region_held_drew (S := fun w' => w'.rangeAt w11.heap.size 0 (enc FN) ∧ w'.rangeAt (w2.heap.size + 1) (n * 128) (enc FG)) (by kernel_rfl) ?_ (fun hHeld => ?_)
                · exact ⟨e1, e2⟩
                refine take_at (i := 0) (oi := _) (v := _) 129 rfl rfl (by kernel_rfl) (by kernel_rfl) (by kernel_rfl) (fun _ _ _ h => h) (yieldsIf_load_mid (by kernel_rfl) _ _ rfl _ _ rfl _ _ (fun w h => h.1) hu rfl hi48) hHeld ?_
                simp only [Act.put, List.setIfInBounds_toArray, List.set_cons_zero, List.set_cons_succ]
                refine take_at (i := 1) (oi := _) (v := ?_) 130 rfl rfl (by kernel_rfl) (by kernel_rfl) (by kernel_rfl) (fun _ _ _ h => h) (Or.inl ⟨by kernel_rfl, ?_⟩) hHeld ?_
                rotate_left
                · intro w hSw; go_simp
                  try with_reducible rfl
                simp only [Act.put, List.setIfInBounds_toArray, List.set_cons_zero, List.set_cons_succ]
                refine take_at (i := 2) (oi := _) (v := ?_) 131 rfl rfl (by kernel_rfl) (by kernel_rfl) (by kernel_rfl) (fun _ _ _ h => h) (Or.inl ⟨by kernel_rfl, ?_⟩) hHeld ?_
                rotate_left
                · intro w hSw; go_simp
                  try with_reducible rfl
                simp only [Act.put, List.setIfInBounds_toArray, List.set_cons_zero, List.set_cons_succ]
                refine take_at (i := 3) (oi := _) (v := _) 132 rfl rfl (by kernel_rfl) (by kernel_rfl) (by kernel_rfl) (fun _ _ _ h => h) (yieldsIf_load_mid (by kernel_rfl) _ _ rfl _ _ rfl _ _ (fun w h => h.2) hu rfl hi49) hHeld ?_
                simp only [Act.put, List.setIfInBounds_toArray, List.set_cons_zero, List.set_cons_succ]
                refine take_at (i := 4) (oi := _) (v := ?_) 133 rfl rfl (by kernel_rfl) (by kernel_rfl) (by kernel_rfl) (fun _ _ _ h => h) (Or.inl ⟨by kernel_rfl, ?_⟩) hHeld ?_
                rotate_left
                · intro w hSw; go_simp
                  try with_reducible rfl
                simp only [Act.put, List.setIfInBounds_toArray, List.set_cons_zero, List.set_cons_succ]
                refine take_at (i := 5) (oi := _) (v := ?_) 134 rfl rfl (by kernel_rfl) (by kernel_rfl) (by kernel_rfl) (fun _ _ _ h => h) (Or.inl ⟨by kernel_rfl, ?_⟩) hHeld ?_
                rotate_left
                · intro w hSw; go_simp
                  try with_reducible rfl
                simp only [Act.put, List.setIfInBounds_toArray, List.set_cons_zero, List.set_cons_succ]
                refine take_at (i := 6) (oi := _) (v := ?_) 135 rfl rfl (by kernel_rfl) (by kernel_rfl) (by kernel_rfl) (fun _ _ _ h => h) (Or.inl ⟨by kernel_rfl, ?_⟩) hHeld ?_
                rotate_left
                · intro w hSw; go_simp
                  try with_reducible rfl
                simp only [Act.put, List.setIfInBounds_toArray, List.set_cons_zero, List.set_cons_succ]
                refine take_at (i := 7) (oi := _) (v := ?_) 136 rfl rfl (by kernel_rfl) (by kernel_rfl) (by kernel_rfl) (fun _ _ _ h => h) (Or.inl ⟨by kernel_rfl, ?_⟩) hHeld ?_
                rotate_left
                · intro w hSw; go_simp
                  try with_reducible rfl
                simp only [Act.put, List.setIfInBounds_toArray, List.set_cons_zero, List.set_cons_succ]
                refine take_at (i := 8) (oi := _) (v := ?_) 137 rfl rfl (by kernel_rfl) (by kernel_rfl) (by kernel_rfl) (fun _ _ _ h => h) (Or.inl ⟨by kernel_rfl, ?_⟩) hHeld ?_
                rotate_left
                · intro w hSw; go_simp
                  try with_reducible rfl
                simp only [Act.put, List.setIfInBounds_toArray, List.set_cons_zero, List.set_cons_succ]
                refine wpAnyH_done (by kernel_rfl) ?_ _
                refine NoPanic.normal ?_
                clear hHeld e1 e2
                go_wp2
                go_roundg gk
                case measure => omega
                case rel => exact ⟨n + 1, _, by have := HL.out; omega, by first | rfl | simp, by rw [HCY.out]; first | rfl | simp, HA12.out.drew, HRg2.out, HK12.out.trans (Kept.bel (Below.refl _ _).drew)⟩
              | false =>
                have hT : T ≠ some n := fun e => by have := (hlf.tn n hn).2 e; rw [htn] at this; cases this
                have hst := hlf.st n hn htn
                rw [htn, if_neg (by decide)] at hrd
                have HCN : Hid (cnt T (n + 1) = cnt T n) := cnt_no hT
                have HRg2 : Hid (Rg s0 (n + 1) s) := hRg.next
                have hi48 : (Try.prog.info? 48).map (·.size) = some (enc (s0.st n)).length := by rw [size48, len_enc, hlS0]
                have hi49 : (Try.prog.info? 48).map (·.size) = some (enc (fh n)).length := by rw [size48, len_enc, hlH]
                have hi50 : (Try.prog.info? 48).map (·.size) = some (enc (f n)).length := by rw [size48, len_enc, hlL]
                have hqH := fun w => eq48 (s0.st n) (fh n) hlS0 hlH w
                have hqL := fun w => eq48 (s0.st n) (f n) hlS0 hlL w
                have hu := Try.underlying48
                clear hlf hRg htn hng hT
                generalize cnt T n = cn at *
                generalize hFN : f n = FN at *
                have HFN : Hid (f n = FN) := hFN
                clear hFN
                generalize hFH : fh n = FH at *
                have HFH : Hid (fh n = FH) := hFH
                clear hFH
                generalize s0.st n = SV at *
                go_wp2_with (first
                  | (go_at_call 22; refine (read22 _ _ _ _ s hA n).mono ?_; rintro e w8 ⟨rfl, B8⟩; rw [hrd]
                     have h8 := hA.on B8
                     have K8 : Kept (W.heap.size + 2) W.heap.size (W.heap.size + 1) w6 w8 := hK.trans (Kept.bel B8)
                     clear hA hK)
                  | (show wpList _ _ _ (Oper.mk _ (Op.store 48 (Operand.tmp 20) _) _ _ _ _ :: _) _ _
                     rw [zc]; refine wpList_store48 rfl _ _ rfl w8.heap.size 0 SV rfl rfl (there4 w8) hlS0 ?_; intro w9 g9 r9 t9 z9
                     have l8 := h8.lts
                     have h9 := (h8.alloc (.cells (encA zer) 48)).grown g9 (by omega) (by omega) (by omega)
                     have K9 : Kept (W.heap.size + 2) W.heap.size (W.heap.size + 1) w6 w9 := (K8.trans (Kept.bel (bel1 w8 (.cells (encA zer) 48)))).beyond g9 K8.size
                     have hL9 := (HH6.out.kept K9 (by omega) (by omega) (by omega)).at_ n hn
                     have hH9 := (HO6.out.kept K9 (by omega) (by omega) (by omega)).at_ n hn
                     rw [HFN.out] at hL9
                     rw [HFH.out] at hH9))
                have e1 : w9.drew.rangeAt w8.heap.size 0 (enc SV) := by simpa using r9
                have e2 : w9.drew.rangeAt w2.heap.size (n * 128) (enc FH) := by simpa using hH9
                have e3 : w9.drew.rangeAt (w2.heap.size + 1) (n * 128) (enc FN) := by simpa using hL9
                have K9d : Kept (W.heap.size + 2) W.heap.size (W.heap.size + 1) w6 w9.drew := K9.trans (Kept.bel (Below.refl _ _).drew)
                have HA9 : Hid (At w9.drew (W.heap.size + 2) W.heap.size (W.heap.size + 1) s) := h9.drew
                clear h8 K8 g9 r9 t9 z9 h9 K9 hL9 hH9 l8 B8
                by_cases hs1 : SV = FH
                · rw [decide_eq_true hs1] at hqH
                  by_cases hm : n ∈ L
                  · have hnL : decide (n ∈ L) = true := decide_eq_true hm
                    clear hst hqL hs1 hm
                    refine wp_region_noPanic ?_
                    refine wp_region_held_drew (S := fun w' => w'.rangeAt w8.heap.size 0 (enc SV) ∧ w'.rangeAt w2.heap.size (n * 128) (enc FH) ∧ w'.rangeAt (w2.heap.size + 1) (n * 128) (enc FN)) (by kernel_rfl) ?_ (fun hHeld => ?_)
                    · exact ⟨e1, e2, e3⟩
                    refine take_at (i := 0) (oi := _) (v := ?_) 139 rfl rfl (by kernel_rfl) (by kernel_rfl) (by kernel_rfl) (fun _ _ _ h => h) (Or.inl ⟨by kernel_rfl, ?_⟩) hHeld ?_
                    rotate_left
                    · intro w hSw; go_simp
                      try with_reducible rfl
                    simp only [Act.put, List.setIfInBounds_toArray, List.set_cons_zero, List.set_cons_succ]
                    refine take_at (i := 1) (oi := _) (v := ?_) 140 rfl rfl (by kernel_rfl) (by kernel_rfl) (by kernel_rfl) (fun _ _ _ h => h) (Or.inl ⟨by kernel_rfl, ?_⟩) hHeld ?_
                    rotate_left
                    · intro w hSw; go_simp
                      try with_reducible rfl
                    simp only [Act.put, List.setIfInBounds_toArray, List.set_cons_zero, List.set_cons_succ]
                    refine take_at (i := 2) (oi := _) (v := ?_) 141 rfl rfl (by kernel_rfl) (by kernel_rfl) (by kernel_rfl) (fun _ _ _ h => h) (Or.inl ⟨by kernel_rfl, ?_⟩) hHeld ?_
                    rotate_left
                    · intro w hSw; go_simp
                      try with_reducible rfl
                    simp only [Act.put, List.setIfInBounds_toArray, List.set_cons_zero, List.set_cons_succ]
                    refine take_at (i := 3) (oi := _) (v := _) 142 rfl rfl (by kernel_rfl) (by kernel_rfl) (by kernel_rfl) (fun _ _ _ h => h) (yieldsIf_load_mid (by kernel_rfl) _ _ rfl _ _ rfl _ _ (fun w h => h.1) hu rfl hi48) hHeld ?_
                    simp only [Act.put, List.setIfInBounds_toArray, List.set_cons_zero, List.set_cons_succ]
                    refine take_at (i := 4) (oi := _) (v := ?_) 143 rfl rfl (by kernel_rfl) (by kernel_rfl) (by kernel_rfl) (fun _ _ _ h => h) (Or.inl ⟨by kernel_rfl, ?_⟩) hHeld ?_
                    rotate_left
                    · intro w hSw; go_simp
                      try with_reducible rfl
                    simp only [Act.put, List.setIfInBounds_toArray, List.set_cons_zero, List.set_cons_succ]
                    refine take_at (i := 5) (oi := _) (v := ?_) 144 rfl rfl (by kernel_rfl) (by kernel_rfl) (by kernel_rfl) (fun _ _ _ h => h) (Or.inl ⟨by kernel_rfl, ?_⟩) hHeld ?_
                    rotate_left
                    · intro w hSw; go_simp
                      try with_reducible rfl
                    simp only [Act.put, List.setIfInBounds_toArray, List.set_cons_zero, List.set_cons_succ]
                    refine take_at (i := 6) (oi := _) (v := _) 145 rfl rfl (by kernel_rfl) (by kernel_rfl) (by kernel_rfl) (fun _ _ _ h => h) (yieldsIf_load_mid (by kernel_rfl) _ _ rfl _ _ rfl _ _ (fun w h => h.2.1) hu rfl hi49) hHeld ?_
                    simp only [Act.put, List.setIfInBounds_toArray, List.set_cons_zero, List.set_cons_succ]
                    refine take_at (i := 7) (oi := _) (v := ?_) 146 rfl rfl (by kernel_rfl) (by kernel_rfl) (by kernel_rfl) (fun _ _ _ h => h) (Or.inl ⟨by kernel_rfl, ?_⟩) hHeld ?_
                    rotate_left
                    · intro w hSw; go_simp
                      try with_reducible rfl
                    simp only [Act.put, List.setIfInBounds_toArray, List.set_cons_zero, List.set_cons_succ]
                    refine take_at (i := 8) (oi := _) (v := ?_) 147 rfl rfl (by kernel_rfl) (by kernel_rfl) (by kernel_rfl) (fun _ _ _ h => h) (Or.inl ⟨by kernel_rfl, ?_⟩) hHeld ?_
                    rotate_left
                    · intro w hSw; go_simp
                      try with_reducible rfl
                    simp only [Act.put, List.setIfInBounds_toArray, List.set_cons_zero, List.set_cons_succ]
                    refine take_at (i := 9) (oi := _) (v := undef) 148 rfl rfl (by kernel_rfl) (by kernel_rfl) (by kernel_rfl) (fun _ _ _ h => h) (Or.inr ⟨by kernel_rfl, rfl⟩) hHeld ?_
                    simp only [Act.put, List.setIfInBounds_toArray, List.set_cons_zero, List.set_cons_succ]
                    refine take_at (i := 10) (oi := _) (v := undef) 149 rfl rfl (by kernel_rfl) (by kernel_rfl) (by kernel_rfl) (fun _ _ _ h => h) (Or.inr ⟨by kernel_rfl, rfl⟩) hHeld ?_
                    simp only [Act.put, List.setIfInBounds_toArray, List.set_cons_zero, List.set_cons_succ]
                    refine take_at (i := 11) (oi := _) (v := undef) 150 rfl rfl (by kernel_rfl) (by kernel_rfl) (by kernel_rfl) (fun _ _ _ h => h) (Or.inr ⟨by kernel_rfl, rfl⟩) hHeld ?_
                    simp only [Act.put, List.setIfInBounds_toArray, List.set_cons_zero, List.set_cons_succ]
                    refine take_at (i := 12) (oi := _) (v := undef) 151 rfl rfl (by kernel_rfl) (by kernel_rfl) (by kernel_rfl) (fun _ _ _ h => h) (Or.inr ⟨by kernel_rfl, rfl⟩) hHeld ?_
                    simp only [Act.put, List.setIfInBounds_toArray, List.set_cons_zero, List.set_cons_succ]
                    refine take_at (i := 13) (oi := _) (v := undef) 152 rfl rfl (by kernel_rfl) (by kernel_rfl) (by kernel_rfl) (fun _ _ _ h => h) (Or.inr ⟨by kernel_rfl, rfl⟩) hHeld ?_
                    simp only [Act.put, List.setIfInBounds_toArray, List.set_cons_zero, List.set_cons_succ]
                    refine take_at (i := 14) (oi := _) (v := ?_) 153 rfl rfl (by kernel_rfl) (by kernel_rfl) (by kernel_rfl) (fun _ _ _ h => h) (Or.inl ⟨by kernel_rfl, ?_⟩) hHeld ?_
                    rotate_left
                    · intro w hSw; go_simp
                      try with_reducible rfl
                    simp only [Act.put, List.setIfInBounds_toArray, List.set_cons_zero, List.set_cons_succ]
                    refine take_at (i := 15) (oi := _) (v := ?_) 154 rfl rfl (by kernel_rfl) (by kernel_rfl) (by kernel_rfl) (fun _ _ _ h => h) (Or.inl ⟨by kernel_rfl, ?_⟩) hHeld ?_
                    rotate_left
                    · intro w hSw; go_simp
                      try with_reducible rfl
                    simp only [Act.put, List.setIfInBounds_toArray, List.set_cons_zero, List.set_cons_succ]
                    refine take_at (i := 16) (oi := _) (v := ?_) 155 rfl rfl (by kernel_rfl) (by kernel_rfl) (by kernel_rfl) (fun _ _ _ h => h) (Or.inl ⟨by kernel_rfl, ?_⟩) hHeld ?_
                    rotate_left
                    · intro w hSw; go_simp
                      try with_reducible rfl
                    simp only [Act.put, List.setIfInBounds_toArray, List.set_cons_zero, List.set_cons_succ]
                    refine take_at (i := 17) (oi := _) (v := ?_) 156 rfl rfl (by kernel_rfl) (by kernel_rfl) (by kernel_rfl) (fun _ _ _ h => h) (Or.inl ⟨by kernel_rfl, ?_⟩) hHeld ?_
                    rotate_left
                    · intro w hSw; go_simp
                      try with_reducible rfl
                    simp only [Act.put, List.setIfInBounds_toArray, List.set_cons_zero, List.set_cons_succ]
                    refine take_at (i := 18) (oi := _) (v := ?_) 157 rfl rfl (by kernel_rfl) (by kernel_rfl) (by kernel_rfl) (fun _ _ _ h => h) (Or.inl ⟨by kernel_rfl, ?_⟩) hHeld ?_
                    rotate_left
                    · intro w hSw; go_simp
                      try with_reducible rfl
                    simp only [Act.put, List.setIfInBounds_toArray, List.set_cons_zero, List.set_cons_succ]
                    refine wpAnyH_ready (rs := [19]) (by kernel_rfl) (by simp) ?_
                    refine AllReadyH.cons (o := _) rfl (fun K hK => ?_) AllReadyH.nil
                    go_simp
                    refine (contains23 _ pd capd L n hLN (HRk.out _ K9d)).mono ?_
                    rintro e w9' ⟨rfl, rfl⟩
                    rw [hnL]
                    go_wp2_with fail
                    refine hK.out _ _ hHeld (fun _ => ?_)
                    clear hK K
                    try simp only [Act.put, List.setIfInBounds_toArray, List.set_cons_zero, List.set_cons_succ]
                    refine take_at (i := 20) (oi := _) (v := ?_) 159 rfl rfl (by kernel_rfl) (by kernel_rfl) (by kernel_rfl) (fun _ _ _ h => h) (Or.inl ⟨by kernel_rfl, ?_⟩) hHeld ?_
                    rotate_left
                    · intro w hSw; go_simp
                      try with_reducible rfl
                    simp only [Act.put, List.setIfInBounds_toArray, List.set_cons_zero, List.set_cons_succ]
                    refine take_at (i := 21) (oi := _) (v := ?_) 160 rfl rfl (by kernel_rfl) (by kernel_rfl) (by kernel_rfl) (fun _ _ _ h => h) (Or.inl ⟨by kernel_rfl, ?_⟩) hHeld ?_
                    rotate_left
                    · intro w hSw; go_simp
                      try with_reducible rfl
                    simp only [Act.put, List.setIfInBounds_toArray, List.set_cons_zero, List.set_cons_succ]
                    refine take_at (i := 22) (oi := _) (v := undef) 161 rfl rfl (by kernel_rfl) (by kernel_rfl) (by kernel_rfl) (fun _ _ _ h => h) (Or.inr ⟨by kernel_rfl, rfl⟩) hHeld ?_
                    simp only [Act.put, List.setIfInBounds_toArray, List.set_cons_zero, List.set_cons_succ]
                    refine take_at (i := 23) (oi := _) (v := undef) 162 rfl rfl (by kernel_rfl) (by kernel_rfl) (by kernel_rfl) (fun _ _ _ h => h) (Or.inr ⟨by kernel_rfl, rfl⟩) hHeld ?_
                    simp only [Act.put, List.setIfInBounds_toArray, List.set_cons_zero, List.set_cons_succ]
                    refine take_at (i := 24) (oi := _) (v := undef) 163 rfl rfl (by kernel_rfl) (by kernel_rfl) (by kernel_rfl) (fun _ _ _ h => h) (Or.inr ⟨by kernel_rfl, rfl⟩) hHeld ?_
                    simp only [Act.put, List.setIfInBounds_toArray, List.set_cons_zero, List.set_cons_succ]
                    refine take_at (i := 25) (oi := _) (v := undef) 164 rfl rfl (by kernel_rfl) (by kernel_rfl) (by kernel_rfl) (fun _ _ _ h => h) (Or.inr ⟨by kernel_rfl, rfl⟩) hHeld ?_
                    simp only [Act.put, List.setIfInBounds_toArray, List.set_cons_zero, List.set_cons_succ]
                    refine take_at (i := 26) (oi := _) (v := undef) 165 rfl rfl (by kernel_rfl) (by kernel_rfl) (by kernel_rfl) (fun _ _ _ h => h) (Or.inr ⟨by kernel_rfl, rfl⟩) hHeld ?_
                    simp only [Act.put, List.setIfInBounds_toArray, List.set_cons_zero, List.set_cons_succ]
                    refine take_at (i := 27) (oi := _) (v := ?_) 166 rfl rfl (by kernel_rfl) (by kernel_rfl) (by kernel_rfl) (fun _ _ _ h => h) (Or.inl ⟨by kernel_rfl, ?_⟩) hHeld ?_
                    rotate_left
                    · intro w hSw; go_simp
                      try with_reducible rfl
                    simp only [Act.put, List.setIfInBounds_toArray, List.set_cons_zero, List.set_cons_succ]
                    refine take_at (i := 28) (oi := _) (v := ?_) 167 rfl rfl (by kernel_rfl) (by kernel_rfl) (by kernel_rfl) (fun _ _ _ h => h) (Or.inl ⟨by kernel_rfl, ?_⟩) hHeld ?_
                    rotate_left
                    · intro w hSw; go_simp
                      try with_reducible rfl
                    simp only [Act.put, List.setIfInBounds_toArray, List.set_cons_zero, List.set_cons_succ]
                    refine take_at (i := 29) (oi := _) (v := ?_) 138 rfl rfl (by kernel_rfl) (by kernel_rfl) (by kernel_rfl) (fun _ _ _ h => h) (Or.inl ⟨by kernel_rfl, ?_⟩) hHeld ?_
                    rotate_left
                    · intro w hSw; go_simp
                      try with_reducible rfl
                    simp only [Act.put, List.setIfInBounds_toArray, List.set_cons_zero, List.set_cons_succ]
                    refine wpAnyH_done (by kernel_rfl) ?_ _
                    refine NoPanic.normal ?_
                    clear hHeld e1 e2 e3
                    go_wp2
                    go_roundg gk
                    case measure => omega
                    case rel => exact ⟨n + 1, s, by have := HL.out; omega, by first | rfl | simp, by rw [HCN.out], HA9.out, HRg2.out, K9d⟩
                  · have hnL : decide (n ∈ L) = false := decide_eq_false hm
                    clear hst hqL hs1 hm
                    refine wp_region_noPanic ?_
                    refine wp_region_held_drew (S := fun w' => w'.rangeAt w8.heap.size 0 (enc SV) ∧ w'.rangeAt w2.heap.size (n * 128) (enc FH) ∧ w'.rangeAt (w2.heap.size + 1) (n * 128) (enc FN)) (by kernel_rfl) ?_ (fun hHeld => ?_)
                    · exact ⟨e1, e2, e3⟩
                    refine take_at (i := 0) (oi := _) (v := ?_) 139 rfl rfl (by kernel_rfl) (by kernel_rfl) (by kernel_rfl) (fun _ _ _ h => h) (Or.inl ⟨by kernel_rfl, ?_⟩) hHeld ?_
                    rotate_left
                    · intro w hSw; go_simp
                      try with_reducible rfl
                    simp only [Act.put, List.setIfInBounds_toArray, List.set_cons_zero, List.set_cons_succ]
                    refine take_at (i := 1) (oi := _) (v := ?_) 140 rfl rfl (by kernel_rfl) (by kernel_rfl) (by kernel_rfl) (fun _ _ _ h => h) (Or.inl ⟨by kernel_rfl, ?_⟩) hHeld ?_
                    rotate_left
                    · intro w hSw; go_simp
                      try with_reducible rfl
                    simp only [Act.put, List.setIfInBounds_toArray, List.set_cons_zero, List.set_cons_succ]
                    refine take_at (i := 2) (oi := _) (v := ?_) 141 rfl rfl (by kernel_rfl) (by kernel_rfl) (by kernel_rfl) (fun _ _ _ h => h) (Or.inl ⟨by kernel_rfl, ?_⟩) hHeld ?_
                    rotate_left
                    · intro w hSw; go_simp
                      try with_reducible rfl
                    simp only [Act.put, List.setIfInBounds_toArray, List.set_cons_zero, List.set_cons_succ]
                    refine take_at (i := 3) (oi := _) (v := _) 142 rfl rfl (by kernel_rfl) (by kernel_rfl) (by kernel_rfl) (fun _ _ _ h => h) (yieldsIf_load_mid (by kernel_rfl) _ _ rfl _ _ rfl _ _ (fun w h => h.1) hu rfl hi48) hHeld ?_
                    simp only [Act.put, List.setIfInBounds_toArray, List.set_cons_zero, List.set_cons_succ]
                    refine take_at (i := 4) (oi := _) (v := ?_) 143 rfl rfl (by kernel_rfl) (by kernel_rfl) (by kernel_rfl) (fun _ _ _ h => h) (Or.inl ⟨by kernel_rfl, ?_⟩) hHeld ?_
                    rotate_left
                    · intro w hSw; go_simp
                      try with_reducible rfl
                    simp only [Act.put, List.setIfInBounds_toArray, List.set_cons_zero, List.set_cons_succ]
                    refine take_at (i := 5) (oi := _) (v := ?_) 144 rfl rfl (by kernel_rfl) (by kernel_rfl) (by kernel_rfl) (fun _ _ _ h => h) (Or.inl ⟨by kernel_rfl, ?_⟩) hHeld ?_
                    rotate_left
                    · intro w hSw; go_simp
                      try with_reducible rfl
                    simp only [Act.put, List.setIfInBounds_toArray, List.set_cons_zero, List.set_cons_succ]
                    refine take_at (i := 6) (oi := _) (v := _) 145 rfl rfl (by kernel_rfl) (by kernel_rfl) (by kernel_rfl) (fun _ _ _ h => h) (yieldsIf_load_mid (by kernel_rfl) _ _ rfl _ _ rfl _ _ (fun w h => h.2.1) hu rfl hi49) hHeld ?_
                    simp only [Act.put, List.setIfInBounds_toArray, List.set_cons_zero, List.set_cons_succ]
                    refine take_at (i := 7) (oi := _) (v := ?_) 146 rfl rfl (by kernel_rfl) (by kernel_rfl) (by kernel_rfl) (fun _ _ _ h => h) (Or.inl ⟨by kernel_rfl, ?_⟩) hHeld ?_
                    rotate_left
                    · intro w hSw; go_simp
                      try with_reducible rfl
                    simp only [Act.put, List.setIfInBounds_toArray, List.set_cons_zero, List.set_cons_succ]
                    refine take_at (i := 8) (oi := _) (v := ?_) 147 rfl rfl (by kernel_rfl) (by kernel_rfl) (by kernel_rfl) (fun _ _ _ h => h) (Or.inl ⟨by kernel_rfl, ?_⟩) hHeld ?_
                    rotate_left
                    · intro w hSw; go_simp
                      try with_reducible rfl
                    simp only [Act.put, List.setIfInBounds_toArray, List.set_cons_zero, List.set_cons_succ]
                    refine take_at (i := 9) (oi := _) (v := undef) 148 rfl rfl (by kernel_rfl) (by kernel_rfl) (by kernel_rfl) (fun _ _ _ h => h) (Or.inr ⟨by kernel_rfl, rfl⟩) hHeld ?_
                    simp only [Act.put, List.setIfInBounds_toArray, List.set_cons_zero, List.set_cons_succ]
                    refine take_at (i := 10) (oi := _) (v := undef) 149 rfl rfl (by kernel_rfl) (by kernel_rfl) (by kernel_rfl) (fun _ _ _ h => h) (Or.inr ⟨by kernel_rfl, rfl⟩) hHeld ?_
                    simp only [Act.put, List.setIfInBounds_toArray, List.set_cons_zero, List.set_cons_succ]
                    refine take_at (i := 11) (oi := _) (v := undef) 150 rfl rfl (by kernel_rfl) (by kernel_rfl) (by kernel_rfl) (fun _ _ _ h => h) (Or.inr ⟨by kernel_rfl, rfl⟩) hHeld ?_
                    simp only [Act.put, List.setIfInBounds_toArray, List.set_cons_zero, List.set_cons_succ]
                    refine take_at (i := 12) (oi := _) (v := undef) 151 rfl rfl (by kernel_rfl) (by kernel_rfl) (by kernel_rfl) (fun _ _ _ h => h) (Or.inr ⟨by kernel_rfl, rfl⟩) hHeld ?_
                    simp only [Act.put, List.setIfInBounds_toArray, List.set_cons_zero, List.set_cons_succ]
                    refine take_at (i := 13) (oi := _) (v := undef) 152 rfl rfl (by kernel_rfl) (by kernel_rfl) (by kernel_rfl) (fun _ _ _ h => h) (Or.inr ⟨by kernel_rfl, rfl⟩) hHeld ?_
                    simp only [Act.put, List.setIfInBounds_toArray, List.set_cons_zero, List.set_cons_succ]
                    refine take_at (i := 14) (oi := _) (v := ?_) 153 rfl rfl (by kernel_rfl) (by kernel_rfl) (by kernel_rfl) (fun _ _ _ h => h) (Or.inl ⟨by kernel_rfl, ?_⟩) hHeld ?_
                    rotate_left
                    · intro w hSw; go_simp
                      try with_reducible rfl
                    simp only [Act.put, List.setIfInBounds_toArray, List.set_cons_zero, List.set_cons_succ]
                    refine take_at (i := 15) (oi := _) (v := ?_) 154 rfl rfl (by kernel_rfl) (by kernel_rfl) (by kernel_rfl) (fun _ _ _ h => h) (Or.inl ⟨by kernel_rfl, ?_⟩) hHeld ?_
                    rotate_left
                    · intro w hSw; go_simp
                      try with_reducible rfl
                    simp only [Act.put, List.setIfInBounds_toArray, List.set_cons_zero, List.set_cons_succ]
                    refine take_at (i := 16) (oi := _) (v := ?_) 155 rfl rfl (by kernel_rfl) (by kernel_rfl) (by kernel_rfl) (fun _ _ _ h => h) (Or.inl ⟨by kernel_rfl, ?_⟩) hHeld ?_
                    rotate_left
                    · intro w hSw; go_simp
                      try with_reducible rfl
                    simp only [Act.put, List.setIfInBounds_toArray, List.set_cons_zero, List.set_cons_succ]
                    refine take_at (i := 17) (oi := _) (v := ?_) 156 rfl rfl (by kernel_rfl) (by kernel_rfl) (by kernel_rfl) (fun _ _ _ h => h) (Or.inl ⟨by kernel_rfl, ?_⟩) hHeld ?_
                    rotate_left
                    · intro w hSw; go_simp
                      try with_reducible rfl
                    simp only [Act.put, List.setIfInBounds_toArray, List.set_cons_zero, List.set_cons_succ]
                    refine take_at (i := 18) (oi := _) (v := ?_) 157 rfl rfl (by kernel_rfl) (by kernel_rfl) (by kernel_rfl) (fun _ _ _ h => h) (Or.inl ⟨by kernel_rfl, ?_⟩) hHeld ?_
                    rotate_left
                    · intro w hSw; go_simp
                      try with_reducible rfl
                    simp only [Act.put, List.setIfInBounds_toArray, List.set_cons_zero, List.set_cons_succ]
                    refine wpAnyH_ready (rs := [19]) (by kernel_rfl) (by simp) ?_
                    refine AllReadyH.cons (o := _) rfl (fun K hK => ?_) AllReadyH.nil
                    go_simp
                    refine (contains23 _ pd capd L n hLN (HRk.out _ K9d)).mono ?_
                    rintro e w9' ⟨rfl, rfl⟩
                    rw [hnL]
                    go_wp2_with fail
                    refine hK.out _ _ hHeld (fun _ => ?_)
                    clear hK K
                    try simp only [Act.put, List.setIfInBounds_toArray, List.set_cons_zero, List.set_cons_succ]
                    refine take_at (i := 20) (oi := _) (v := ?_) 159 rfl rfl (by kernel_rfl) (by kernel_rfl) (by kernel_rfl) (fun _ _ _ h => h) (Or.inl ⟨by kernel_rfl, ?_⟩) hHeld ?_
                    rotate_left
                    · intro w hSw; go_simp
                      try with_reducible rfl
                    simp only [Act.put, List.setIfInBounds_toArray, List.set_cons_zero, List.set_cons_succ]
                    refine take_at (i := 21) (oi := _) (v := ?_) 160 rfl rfl (by kernel_rfl) (by kernel_rfl) (by kernel_rfl) (fun _ _ _ h => h) (Or.inl ⟨by kernel_rfl, ?_⟩) hHeld ?_
                    rotate_left
                    · intro w hSw; go_simp
                      try with_reducible rfl
                    simp only [Act.put, List.setIfInBounds_toArray, List.set_cons_zero, List.set_cons_succ]
                    refine take_at (i := 22) (oi := _) (v := _) 161 rfl rfl (by kernel_rfl) (by kernel_rfl) (by kernel_rfl) (fun _ _ _ h => h) (yieldsIf_load_mid (by kernel_rfl) _ _ rfl _ _ rfl _ _ (fun w h => h.1) hu rfl hi48) hHeld ?_
                    simp only [Act.put, List.setIfInBounds_toArray, List.set_cons_zero, List.set_cons_succ]
                    refine take_at (i := 23) (oi := _) (v := ?_) 162 rfl rfl (by kernel_rfl) (by kernel_rfl) (by kernel_rfl) (fun _ _ _ h => h) (Or.inl ⟨by kernel_rfl, ?_⟩) hHeld ?_
                    rotate_left
                    · intro w hSw; go_simp
                      try with_reducible rfl
                    simp only [Act.put, List.setIfInBounds_toArray, List.set_cons_zero, List.set_cons_succ]
                    refine take_at (i := 24) (oi := _) (v := ?_) 163 rfl rfl (by kernel_rfl) (by kernel_rfl) (by kernel_rfl) (fun _ _ _ h => h) (Or.inl ⟨by kernel_rfl, ?_⟩) hHeld ?_
                    rotate_left
                    · intro w hSw; go_simp
                      try with_reducible rfl
                    simp only [Act.put, List.setIfInBounds_toArray, List.set_cons_zero, List.set_cons_succ]
                    refine take_at (i := 25) (oi := _) (v := _) 164 rfl rfl (by kernel_rfl) (by kernel_rfl) (by kernel_rfl) (fun _ _ _ h => h) (yieldsIf_load_mid (by kernel_rfl) _ _ rfl _ _ rfl _ _ (fun w h => h.2.1) hu rfl hi49) hHeld ?_
                    simp only [Act.put, List.setIfInBounds_toArray, List.set_cons_zero, List.set_cons_succ]
                    refine take_at (i := 26) (oi := _) (v := ?_) 165 rfl rfl (by kernel_rfl) (by kernel_rfl) (by kernel_rfl) (fun _ _ _ h => h) (Or.inl ⟨by kernel_rfl, ?_⟩) hHeld ?_
                    rotate_left
                    · intro w hSw; go_simp
                      try with_reducible rfl
                    simp only [Act.put, List.setIfInBounds_toArray, List.set_cons_zero, List.set_cons_succ]
                    refine take_at (i := 27) (oi := _) (v := ?_) 166 rfl rfl (by kernel_rfl) (by kernel_rfl) (by kernel_rfl) (fun _ _ _ h => h) (Or.inl ⟨by kernel_rfl, ?_⟩) hHeld ?_
                    rotate_left
                    · intro w hSw; go_simp
                      try with_reducible rfl
                    simp only [Act.put, List.setIfInBounds_toArray, List.set_cons_zero, List.set_cons_succ]
                    refine take_at (i := 28) (oi := _) (v := ?_) 167 rfl rfl (by kernel_rfl) (by kernel_rfl) (by kernel_rfl) (fun _ _ _ h => h) (Or.inl ⟨by kernel_rfl, ?_⟩) hHeld ?_
                    rotate_left
                    · intro w hSw; go_simp
                      try with_reducible rfl
                    simp only [Act.put, List.setIfInBounds_toArray, List.set_cons_zero, List.set_cons_succ]
                    refine take_at (i := 29) (oi := _) (v := ?_) 138 rfl rfl (by kernel_rfl) (by kernel_rfl) (by kernel_rfl) (fun _ _ _ h => h) (Or.inl ⟨by kernel_rfl, ?_⟩) hHeld ?_
                    rotate_left
                    · intro w hSw; go_simp
                      try with_reducible rfl
                    simp only [Act.put, List.setIfInBounds_toArray, List.set_cons_zero, List.set_cons_succ]
                    refine wpAnyH_done (by kernel_rfl) ?_ _
                    refine NoPanic.normal ?_
                    clear hHeld e1 e2 e3
                    go_wp2
                    go_roundg gk
                    case measure => omega
                    case rel => exact ⟨n + 1, s, by have := HL.out; omega, by first | rfl | simp, by rw [HCN.out], HA9.out, HRg2.out, K9d⟩
                · obtain ⟨hs2, hm⟩ := hst.resolve_left hs1
                  have hnL : decide (n ∈ L) = true := decide_eq_true hm
                  rw [decide_eq_false hs1] at hqH
                  rw [decide_eq_true hs2] at hqL
                  clear hst hs1 hs2 hm
                  refine wp_region_noPanic ?_
                  refine wp_region_held_drew (S := fun w' => w'.rangeAt w8.heap.size 0 (enc SV) ∧ w'.rangeAt w2.heap.size (n * 128) (enc FH) ∧ w'.rangeAt (w2.heap.size + 1) (n * 128) (enc FN)) (by kernel_rfl) ?_ (fun hHeld => ?_)
                  · exact ⟨e1, e2, e3⟩
                  refine take_at (i := 0) (oi := _) (v := ?_) 139 rfl rfl (by kernel_rfl) (by kernel_rfl) (by kernel_rfl) (fun _ _ _ h => h) (Or.inl ⟨by kernel_rfl, ?_⟩) hHeld ?_
                  rotate_left
                  · intro w hSw; go_simp
                    try with_reducible rfl
                  simp only [Act.put, List.setIfInBounds_toArray, List.set_cons_zero, List.set_cons_succ]
                  refine take_at (i := 1) (oi := _) (v := ?_) 140 rfl rfl (by kernel_rfl) (by kernel_rfl) (by kernel_rfl) (fun _ _ _ h => h) (Or.inl ⟨by kernel_rfl, ?_⟩) hHeld ?_
                  rotate_left
                  · intro w hSw; go_simp
                    try with_reducible rfl
                  simp only [Act.put, List.setIfInBounds_toArray, List.set_cons_zero, List.set_cons_succ]
                  refine take_at (i := 2) (oi := _) (v := ?_) 141 rfl rfl (by kernel_rfl) (by kernel_rfl) (by kernel_rfl) (fun _ _ _ h => h) (Or.inl ⟨by kernel_rfl, ?_⟩) hHeld ?_
                  rotate_left
                  · intro w hSw; go_simp
                    try with_reducible rfl
                  simp only [Act.put, List.setIfInBounds_toArray, List.set_cons_zero, List.set_cons_succ]
                  refine take_at (i := 3) (oi := _) (v := _) 142 rfl rfl (by kernel_rfl) (by kernel_rfl) (by kernel_rfl) (fun _ _ _ h => h) (yieldsIf_load_mid (by kernel_rfl) _ _ rfl _ _ rfl _ _ (fun w h => h.1) hu rfl hi48) hHeld ?_
                  simp only [Act.put, List.setIfInBounds_toArray, List.set_cons_zero, List.set_cons_succ]
                  refine take_at (i := 4) (oi := _) (v := ?_) 143 rfl rfl (by kernel_rfl) (by kernel_rfl) (by kernel_rfl) (fun _ _ _ h => h) (Or.inl ⟨by kernel_rfl, ?_⟩) hHeld ?_
                  rotate_left
                  · intro w hSw; go_simp
                    try with_reducible rfl
                  simp only [Act.put, List.setIfInBounds_toArray, List.set_cons_zero, List.set_cons_succ]
                  refine take_at (i := 5) (oi := _) (v := ?_) 144 rfl rfl (by kernel_rfl) (by kernel_rfl) (by kernel_rfl) (fun _ _ _ h => h) (Or.inl ⟨by kernel_rfl, ?_⟩) hHeld ?_
                  rotate_left
                  · intro w hSw; go_simp
                    try with_reducible rfl
                  simp only [Act.put, List.setIfInBounds_toArray, List.set_cons_zero, List.set_cons_succ]
                  refine take_at (i := 6) (oi := _) (v := _) 145 rfl rfl (by kernel_rfl) (by kernel_rfl) (by kernel_rfl) (fun _ _ _ h => h) (yieldsIf_load_mid (by kernel_rfl) _ _ rfl _ _ rfl _ _ (fun w h => h.2.1) hu rfl hi49) hHeld ?_
                  simp only [Act.put, List.setIfInBounds_toArray, List.set_cons_zero, List.set_cons_succ]
                  refine take_at (i := 7) (oi := _) (v := ?_) 146 rfl rfl (by kernel_rfl) (by kernel_rfl) (by kernel_rfl) (fun _ _ _ h => h) (Or.inl ⟨by kernel_rfl, ?_⟩) hHeld ?_
                  rotate_left
                  · intro w hSw; go_simp
                    try with_reducible rfl
                  simp only [Act.put, List.setIfInBounds_toArray, List.set_cons_zero, List.set_cons_succ]
                  refine take_at (i := 8) (oi := _) (v := ?_) 147 rfl rfl (by kernel_rfl) (by kernel_rfl) (by kernel_rfl) (fun _ _ _ h => h) (Or.inl ⟨by kernel_rfl, ?_⟩) hHeld ?_
                  rotate_left
                  · intro w hSw; go_simp
                    try with_reducible rfl
                  simp only [Act.put, List.setIfInBounds_toArray, List.set_cons_zero, List.set_cons_succ]
                  refine take_at (i := 9) (oi := _) (v := _) 148 rfl rfl (by kernel_rfl) (by kernel_rfl) (by kernel_rfl) (fun _ _ _ h => h) (yieldsIf_load_mid (by kernel_rfl) _ _ rfl _ _ rfl _ _ (fun w h => h.1) hu rfl hi48) hHeld ?_
                  simp only [Act.put, List.setIfInBounds_toArray, List.set_cons_zero, List.set_cons_succ]
                  refine take_at (i := 10) (oi := _) (v := ?_) 149 rfl rfl (by kernel_rfl) (by kernel_rfl) (by kernel_rfl) (fun _ _ _ h => h) (Or.inl ⟨by kernel_rfl, ?_⟩) hHeld ?_
                  rotate_left
                  · intro w hSw; go_simp
                    try with_reducible rfl
                  simp only [Act.put, List.setIfInBounds_toArray, List.set_cons_zero, List.set_cons_succ]
                  refine take_at (i := 11) (oi := _) (v := ?_) 150 rfl rfl (by kernel_rfl) (by kernel_rfl) (by kernel_rfl) (fun _ _ _ h => h) (Or.inl ⟨by kernel_rfl, ?_⟩) hHeld ?_
                  rotate_left
                  · intro w hSw; go_simp
                    try with_reducible rfl
                  simp only [Act.put, List.setIfInBounds_toArray, List.set_cons_zero, List.set_cons_succ]
                  refine take_at (i := 12) (oi := _) (v := _) 151 rfl rfl (by kernel_rfl) (by kernel_rfl) (by kernel_rfl) (fun _ _ _ h => h) (yieldsIf_load_mid (by kernel_rfl) _ _ rfl _ _ rfl _ _ (fun w h => h.2.2) hu rfl hi50) hHeld ?_
                  simp only [Act.put, List.setIfInBounds_toArray, List.set_cons_zero, List.set_cons_succ]
                  refine take_at (i := 13) (oi := _) (v := ?_) 152 rfl rfl (by kernel_rfl) (by kernel_rfl) (by kernel_rfl) (fun _ _ _ h => h) (Or.inl ⟨by kernel_rfl, ?_⟩) hHeld ?_
                  rotate_left
                  · intro w hSw; go_simp
                    try with_reducible rfl
                  simp only [Act.put, List.setIfInBounds_toArray, List.set_cons_zero, List.set_cons_succ]
                  refine take_at (i := 14) (oi := _) (v := ?_) 153 rfl rfl (by kernel_rfl) (by kernel_rfl) (by kernel_rfl) (fun _ _ _ h => h) (Or.inl ⟨by kernel_rfl, ?_⟩) hHeld ?_
                  rotate_left
                  · intro w hSw; go_simp
                    try with_reducible rfl
                  simp only [Act.put, List.setIfInBounds_toArray, List.set_cons_zero, List.set_cons_succ]
                  refine take_at (i := 15) (oi := _) (v := ?_) 154 rfl rfl (by kernel_rfl) (by kernel_rfl) (by kernel_rfl) (fun _ _ _ h => h) (Or.inl ⟨by kernel_rfl, ?_⟩) hHeld ?_
                  rotate_left
                  · intro w hSw; go_simp
                    try with_reducible rfl
                  simp only [Act.put, List.setIfInBounds_toArray, List.set_cons_zero, List.set_cons_succ]
                  refine take_at (i := 16) (oi := _) (v := ?_) 155 rfl rfl (by kernel_rfl) (by kernel_rfl) (by kernel_rfl) (fun _ _ _ h => h) (Or.inl ⟨by kernel_rfl, ?_⟩) hHeld ?_
                  rotate_left
                  · intro w hSw; go_simp
                    try with_reducible rfl
                  simp only [Act.put, List.setIfInBounds_toArray, List.set_cons_zero, List.set_cons_succ]
                  refine take_at (i := 17) (oi := _) (v := ?_) 156 rfl rfl (by kernel_rfl) (by kernel_rfl) (by kernel_rfl) (fun _ _ _ h => h) (Or.inl ⟨by kernel_rfl, ?_⟩) hHeld ?_
                  rotate_left
                  · intro w hSw; go_simp
                    try with_reducible rfl
                  simp only [Act.put, List.setIfInBounds_toArray, List.set_cons_zero, List.set_cons_succ]
                  refine take_at (i := 18) (oi := _) (v := ?_) 157 rfl rfl (by kernel_rfl) (by kernel_rfl) (by kernel_rfl) (fun _ _ _ h => h) (Or.inl ⟨by kernel_rfl, ?_⟩) hHeld ?_
                  rotate_left
                  · intro w hSw; go_simp
                    try with_reducible rfl
                  simp only [Act.put, List.setIfInBounds_toArray, List.set_cons_zero, List.set_cons_succ]
                  refine wpAnyH_ready (rs := [19]) (by kernel_rfl) (by simp) ?_
                  refine AllReadyH.cons (o := _) rfl (fun K hK => ?_) AllReadyH.nil
                  go_simp
                  refine (contains23 _ pd capd L n hLN (HRk.out _ K9d)).mono ?_
                  rintro e w9' ⟨rfl, rfl⟩
                  rw [hnL]
                  go_wp2_with fail
                  refine hK.out _ _ hHeld (fun _ => ?_)
                  clear hK K
                  try simp only [Act.put, List.setIfInBounds_toArray, List.set_cons_zero, List.set_cons_succ]
                  refine take_at (i := 20) (oi := _) (v := ?_) 159 rfl rfl (by kernel_rfl) (by kernel_rfl) (by kernel_rfl) (fun _ _ _ h => h) (Or.inl ⟨by kernel_rfl, ?_⟩) hHeld ?_
                  rotate_left
                  · intro w hSw; go_simp
                    try with_reducible rfl
                  simp only [Act.put, List.setIfInBounds_toArray, List.set_cons_zero, List.set_cons_succ]
                  refine take_at (i := 21) (oi := _) (v := ?_) 160 rfl rfl (by kernel_rfl) (by kernel_rfl) (by kernel_rfl) (fun _ _ _ h => h) (Or.inl ⟨by kernel_rfl, ?_⟩) hHeld ?_
                  rotate_left
                  · intro w hSw; go_simp
                    try with_reducible rfl
                  simp only [Act.put, List.setIfInBounds_toArray, List.set_cons_zero, List.set_cons_succ]
                  refine take_at (i := 22) (oi := _) (v := undef) 161 rfl rfl (by kernel_rfl) (by kernel_rfl) (by kernel_rfl) (fun _ _ _ h => h) (Or.inr ⟨by kernel_rfl, rfl⟩) hHeld ?_
                  simp only [Act.put, List.setIfInBounds_toArray, List.set_cons_zero, List.set_cons_succ]
                  refine take_at (i := 23) (oi := _) (v := undef) 162 rfl rfl (by kernel_rfl) (by kernel_rfl) (by kernel_rfl) (fun _ _ _ h => h) (Or.inr ⟨by kernel_rfl, rfl⟩) hHeld ?_
                  simp only [Act.put, List.setIfInBounds_toArray, List.set_cons_zero, List.set_cons_succ]
                  refine take_at (i := 24) (oi := _) (v := undef) 163 rfl rfl (by kernel_rfl) (by kernel_rfl) (by kernel_rfl) (fun _ _ _ h => h) (Or.inr ⟨by kernel_rfl, rfl⟩) hHeld ?_
                  simp only [Act.put, List.setIfInBounds_toArray, List.set_cons_zero, List.set_cons_succ]
                  refine take_at (i := 25) (oi := _) (v := undef) 164 rfl rfl (by kernel_rfl) (by kernel_rfl) (by kernel_rfl) (fun _ _ _ h => h) (Or.inr ⟨by kernel_rfl, rfl⟩) hHeld ?_
                  simp only [Act.put, List.setIfInBounds_toArray, List.set_cons_zero, List.set_cons_succ]
                  refine take_at (i := 26) (oi := _) (v := undef) 165 rfl rfl (by kernel_rfl) (by kernel_rfl) (by kernel_rfl) (fun _ _ _ h => h) (Or.inr ⟨by kernel_rfl, rfl⟩) hHeld ?_
                  simp only [Act.put, List.setIfInBounds_toArray, List.set_cons_zero, List.set_cons_succ]
                  refine take_at (i := 27) (oi := _) (v := ?_) 166 rfl rfl (by kernel_rfl) (by kernel_rfl) (by kernel_rfl) (fun _ _ _ h => h) (Or.inl ⟨by kernel_rfl, ?_⟩) hHeld ?_
                  rotate_left
                  · intro w hSw; go_simp
                    try with_reducible rfl
                  simp only [Act.put, List.setIfInBounds_toArray, List.set_cons_zero, List.set_cons_succ]
                  refine take_at (i := 28) (oi := _) (v := ?_) 167 rfl rfl (by kernel_rfl) (by kernel_rfl) (by kernel_rfl) (fun _ _ _ h => h) (Or.inl ⟨by kernel_rfl, ?_⟩) hHeld ?_
                  rotate_left
                  · intro w hSw; go_simp
                    try with_reducible rfl
                  simp only [Act.put, List.setIfInBounds_toArray, List.set_cons_zero, List.set_cons_succ]
                  refine take_at (i := 29) (oi := _) (v := ?_) 138 rfl rfl (by kernel_rfl) (by kernel_rfl) (by kernel_rfl) (fun _ _ _ h => h) (Or.inl ⟨by kernel_rfl, ?_⟩) hHeld ?_
                  rotate_left
                  · intro w hSw; go_simp
                    try with_reducible rfl
                  simp only [Act.put, List.setIfInBounds_toArray, List.set_cons_zero, List.set_cons_succ]
                  refine wpAnyH_done (by kernel_rfl) ?_ _
                  refine NoPanic.normal ?_
                  clear hHeld e1 e2 e3
                  go_wp2
                  go_roundg gk
                  case measure => omega
                  case rel => exact ⟨n + 1, s, by have := HL.out; omega, by first | rfl | simp, by rw [HCN.out], HA9.out, HRg2.out, K9d⟩

        | succ gk =>
          have hi : i < l2.length := by omega
          obtain ⟨b, o, rfl, hb, hc⟩ := hl2.resolve_left (fun e => by rw [e] at hi; simp at hi)
          obtain ⟨c0, c1, c2, c3, c4, c5⟩ := op_cells (rangeAt_same (hc i hi) (hB.block b hb))
          generalize hxo : l2[i] = x at *
          have hiz : (i : Int) < (l2.length : Int) := by omega
          have hiz0 : (0 : Int) ≤ (i : Int) := by omega
          have HL : Hid (i + (gk + 1) = l2.length) := hig
          have lts := hA.lts
          have szH := hH.lt
          have szO := hO.lt
          have hA4 := (hA.alloc (.cells #[.int .i64 x.x, .int .i64 x.n, .int .u8 x.f.toNat, .slice x.kp x.kl x.kc, .int .i64 x.a, .int .u32 x.b] 34)).drew
          have q4 := heap_alloc_last wr (.cells #[.int .i64 x.x, .int .i64 x.n, .int .u8 x.f.toNat, .slice x.kp x.kl x.kc, .int .i64 x.a, .int .u32 x.b] 34)
          have z1 : (wr.alloc (.cells #[.int .i64 x.x, .int .i64 x.n, .int .u8 x.f.toNat, .slice x.kp x.kl x.kc, .int .i64 x.a, .int .u32 x.b] 34)).drew.cell? ⟨wr.heap.size, 1, none⟩ = some (.int .i64 x.n) := by simp
          have z2 : (wr.alloc (.cells #[.int .i64 x.x, .int .i64 x.n, .int .u8 x.f.toNat, .slice x.kp x.kl x.kc, .int .i64 x.a, .int .u32 x.b] 34)).drew.cell? ⟨wr.heap.size, 2, none⟩ = some (.int .u8 x.f.toNat) := by simp
          have lt4 : wr.heap.size < (wr.alloc (.cells #[.int .i64 x.x, .int .i64 x.n, .int .u8 x.f.toNat, .slice x.kp x.kl x.kc, .int .i64 x.a, .int .u32 x.b] 34)).drew.heap.size := by simp
          have hB4 : Below wr.heap.size wr (wr.alloc (.cells #[.int .i64 x.x, .int .i64 x.n, .int .u8 x.f.toNat, .slice x.kp x.kl x.kc, .int .i64 x.a, .int .u32 x.b] 34)).drew := (bel1 wr _).drew
          have cf : ∀ w, Calls Try.prog 18 #[.int .u8 x.f.toNat] w fun e w' => e = .returned (.agg (enc (fil x.f)).toArray) ∧ Below w.heap.size w w' := fun w => filled18 w x.f
          have hlF := len_fil x.f
          generalize fil x.f = FF at *
          have HB4 : Hid (Below wr.heap.size wr (wr.alloc (.cells #[.int .i64 x.x, .int .i64 x.n, .int .u8 x.f.toNat, .slice x.kp x.kl x.kc, .int .i64 x.a, .int .u32 x.b] 34)).drew) := hB4
          have HH4 : Hid (Arr (wr.alloc (.cells #[.int .i64 x.x, .int .i64 x.n, .int .u8 x.f.toNat, .slice x.kp x.kl x.kc, .int .i64 x.a, .int .u32 x.b] 34)).drew (w2.heap.size + 1) f) := hH.on hB4
          have HO4 : Hid (Arr (wr.alloc (.cells #[.int .i64 x.x, .int .i64 x.n, .int .u8 x.f.toNat, .slice x.kp x.kl x.kc, .int .i64 x.a, .int .u32 x.b] 34)).drew w2.heap.size fh) := hO.on hB4
          have HB : Hid (Below W.heap.size W wr) := hB
          have HWr : Hid (Wr s f fh) := hWr
          clear hc hl2 hig hxo q4 hH hO hB4 hB
          by_cases hn : 0 ≤ x.n ∧ x.n < 8
          · obtain ⟨k, hkx⟩ : ∃ k : Nat, x.n = k := ⟨x.n.toNat, by omega⟩
            have hk8 : k < 8 := by omega
            rw [hkx] at z1 c1 hA4 HB4 HH4 HO4
            rw [hkx] at z2 lt4
            have hhit := hWr.hit hk8 FF
            obtain ⟨hE, hW2⟩ := hhit
            have HW2 : Hid (Wr (s.write k FF).2 (upd f k FF) fh) := hW2
            have hkz : (0 : Int) ≤ (k : Int) := by omega
            have hk8z : (k : Int) < 8 := by omega
            clear hn hkx hWr hW2
            go_wp2
            go_region_held3 (fun w' => w'.cell? ⟨wr.heap.size, 1, none⟩ = some (.int .i64 (k : Int)) ∧ w'.cell? ⟨wr.heap.size, 2, none⟩ = some (.int .u8 x.f.toNat)) (first | exact ⟨z1, z2⟩ | exact ⟨(hb5.cell (p := ⟨wr.heap.size, 1, none⟩) lt4).trans z1, (hb5.cell (p := ⟨wr.heap.size, 2, none⟩) lt4).trans z2⟩ | exact ⟨u1, u2⟩) ((first
              | (go_at_call 18; refine (cf _).mono ?_; rintro e w5 ⟨rfl, hb5⟩)
              | (go_at_call 17; refine (write17 _ _ _ _ s (hA4.on hb5) (k : Int) FF hlF).mono ?_; rintro e w6 ⟨rfl, h6, k6⟩
                 have u1 := (World.cell?_of_block (w := w5) (a := ⟨wr.heap.size, 1, none⟩) (k6.block wr.heap.size (Nat.lt_of_lt_of_le lt4 hb5.size) (by omega) (by omega) (by omega))).trans ((hb5.cell (p := ⟨wr.heap.size, 1, none⟩) lt4).trans z1)
                 have u2 := (World.cell?_of_block (w := w5) (a := ⟨wr.heap.size, 2, none⟩) (k6.block wr.heap.size (Nat.lt_of_lt_of_le lt4 hb5.size) (by omega) (by omega) (by omega))).trans ((hb5.cell (p := ⟨wr.heap.size, 2, none⟩) lt4).trans z2)
                 rw [hE])))
            rename_i hHeld0
            clear hHeld0
            have hle : (enc FF).length = 128 := by rw [len_enc, hlF]
            have hA6d := h6.drew
            have v1 : w6.drew.cell? ⟨wr.heap.size, 1, none⟩ = some (.int .i64 (k : Int)) := by simpa using u1
            have v2 : w6.drew.cell? ⟨wr.heap.size, 2, none⟩ = some (.int .u8 x.f.toNat) := by simpa using u2
            have lt6 : wr.heap.size < w6.drew.heap.size := Nat.lt_of_lt_of_le lt4 (Nat.le_trans hb5.size k6.size)
            have hH6 : Arr w6.drew (w2.heap.size + 1) f := (((HH4.out.on hb5).kept k6 (by omega) (by omega) (by omega)).same rfl)
            have hO6 : Arr w6.drew w2.heap.size fh := (((HO4.out.on hb5).kept k6 (by omega) (by omega) (by omega)).same rfl)
            have B6 : Below W.heap.size W w6.drew := (bel_kept ((bel_then HB.out HB4.out).trans (hb5.mono (by have := (bel_then HB.out HB4.out).size; exact this))) k6 (by omega) (by omega) (by omega)).drew
            have v3 : w6.drew.there (w2.heap.size + 1) (k * 128) 128 := hH6.th_at hk8
            have hi48 : (Try.prog.info? 48).map (·.size) = some (enc FF).length := by rw [size48, hle]
            have hone := one_enc FF
            have HA6 : Hid (At w6.drew (W.heap.size + 2) W.heap.size (W.heap.size + 1) (s.write k FF).2) := hA6d
            have HH6 : Hid (Arr w6.drew (w2.heap.size + 1) f) := hH6
            have HO6 : Hid (Arr w6.drew w2.heap.size fh) := hO6
            have HB6 : Hid (Below W.heap.size W w6.drew) := B6
            clear hA6d hH6 hO6 B6 h6 k6 hb5 u1 u2 z1 z2
            go_wp2
            go_region_held3 (fun w' => w'.cell? ⟨wr.heap.size, 1, none⟩ = some (.int .i64 (k : Int)) ∧ w'.cell? ⟨wr.heap.size, 2, none⟩ = some (.int .u8 x.f.toNat) ∧ w'.there (w2.heap.size + 1) (k * 128) 128) (first | exact ⟨v1, v2, v3⟩ | exact ⟨x1, x2, x3⟩ | exact ⟨u1, u2, u3⟩) ((first
              | (go_at_call 18; refine (cf _).mono ?_; rintro e w7 ⟨rfl, hb7⟩
                 have u1 := (hb7.cell (p := ⟨wr.heap.size, 1, none⟩) lt6).trans v1
                 have u2 := (hb7.cell (p := ⟨wr.heap.size, 2, none⟩) lt6).trans v2
                 have hst7 : Sem.run Try.prog (storeCells ⟨(w2.heap.size + 1), k * 128, none⟩ (enc FF)) w7 = .ok () (w7.setCells (w2.heap.size + 1) (k * 128) (enc FF)) := store_run (by rw [hle]; exact (HH6.out.on hb7).th_at hk8) (one_enc FF)
                 have u3 : w7.there (w2.heap.size + 1) (k * 128) 128 := (HH6.out.on hb7).th_at hk8
                 have x3 : (w7.setCells (w2.heap.size + 1) (k * 128) (enc FF)).there (w2.heap.size + 1) (k * 128) 128 := World.there_setCells u3 _ _ _
                 have x1 : (w7.setCells (w2.heap.size + 1) (k * 128) (enc FF)).cell? ⟨wr.heap.size, 1, none⟩ = some (.int .i64 (k : Int)) := cell_sets u1 (by show wr.heap.size ≠ _; omega)
                 have x2 : (w7.setCells (w2.heap.size + 1) (k * 128) (enc FF)).cell? ⟨wr.heap.size, 2, none⟩ = some (.int .u8 x.f.toNat) := cell_sets u2 (by show wr.heap.size ≠ _; omega))))
            have hg8 := gr_sets (w2.heap.size + 1) (enc FF) (k * 128) w7
            have hA8 := (HA6.out.on hb7).grown hg8 (by omega) (by omega) (by omega)
            have hH8 := (HH6.out.on hb7).set hk8 hlF
            have hO8 := (HO6.out.on hb7).grown hg8 (by omega)
            have B8 := Below.grown (HB6.out.trans (hb7.mono HB6.out.size)) hg8 (Nat.le_trans HB6.out.size hb7.size) (fun k e => by injection e with e; omega)
            rename_i hHeld
            clear hHeld hst7 x1 x2 x3 u1 u2 u3 hg8
            generalize w7.setCells (w2.heap.size + 1) (k * 128) (enc FF) = w8 at *
            go_wp2
            go_roundg gk
            case measure => omega
            case rel => exact ⟨i + 1, _, _, by have := HL.out; omega, by first | rfl | simp, hA8, HW2.out, hH8, hO8, B8⟩
          · have hmiss := hWr.miss hn FF
            have h41 : ((41 : Int) == 0) = false := by decide
            clear hn hWr
            go_wp2
            go_region_held3 (fun w' => w'.cell? ⟨wr.heap.size, 1, none⟩ = some (.int .i64 x.n) ∧ w'.cell? ⟨wr.heap.size, 2, none⟩ = some (.int .u8 x.f.toNat)) (first | exact ⟨z1, z2⟩ | exact ⟨(hb5.cell (p := ⟨wr.heap.size, 1, none⟩) lt4).trans z1, (hb5.cell (p := ⟨wr.heap.size, 2, none⟩) lt4).trans z2⟩ | exact ⟨u1, u2⟩) ((first
              | (go_at_call 18; refine (cf _).mono ?_; rintro e w5 ⟨rfl, hb5⟩)
              | (go_at_call 17; refine (write17 _ _ _ _ s (hA4.on hb5) x.n FF hlF).mono ?_; rintro e w6 ⟨rfl, h6, k6⟩
                 have u1 := (World.cell?_of_block (w := w5) (a := ⟨wr.heap.size, 1, none⟩) (k6.block wr.heap.size (Nat.lt_of_lt_of_le lt4 hb5.size) (by omega) (by omega) (by omega))).trans ((hb5.cell (p := ⟨wr.heap.size, 1, none⟩) lt4).trans z1)
                 have u2 := (World.cell?_of_block (w := w5) (a := ⟨wr.heap.size, 2, none⟩) (k6.block wr.heap.size (Nat.lt_of_lt_of_le lt4 hb5.size) (by omega) (by omega) (by omega))).trans ((hb5.cell (p := ⟨wr.heap.size, 2, none⟩) lt4).trans z2)
                 rw [hmiss] at h6; rw [hmiss])))
            rename_i hHeld0
            clear hHeld0
            have hH6 : Arr w6 (w2.heap.size + 1) f := (HH4.out.on hb5).kept k6 (by omega) (by omega) (by omega)
            have hO6 : Arr w6 w2.heap.size fh := (HO4.out.on hb5).kept k6 (by omega) (by omega) (by omega)
            have B6 : Below W.heap.size W w6 := bel_kept ((bel_then HB.out HB4.out).trans (hb5.mono (by have := (bel_then HB.out HB4.out).size; exact this))) k6 (by omega) (by omega) (by omega)
            clear HH4 HO4 HB4 hb5 k6 u1 u2 z1 z2
            go_wp2
            go_roundg gk
            case measure => omega
            case rel => exact ⟨i + 1, s, f, by have := HL.out; omega, by first | rfl | simp, h6, HWr.out, hH6, hO6, B6⟩

    | succ gk =>
      have hi : i < l1.length := by omega
      obtain ⟨b, o, rfl, hb, hc⟩ := hl1.resolve_left (fun e => by rw [e] at hi; simp at hi)
      obtain ⟨c0, c1, c2, c3, c4, c5⟩ := op_cells (rangeAt_same (hc i hi) (hB.block b hb))
      generalize hxo : l1[i] = x at *
      have hiz : (i : Int) < (l1.length : Int) := by omega
      have hiz0 : (0 : Int) ≤ (i : Int) := by omega
      have HL : Hid (i + (gk + 1) = l1.length) := hig
      have lts := hA.lts
      have szH := hH.lt
      have szO := hO.lt
      have hA4 := (hA.alloc (.cells #[.int .i64 x.x, .int .i64 x.n, .int .u8 x.f.toNat, .slice x.kp x.kl x.kc, .int .i64 x.a, .int .u32 x.b] 34)).drew
      have q4 := heap_alloc_last wr (.cells #[.int .i64 x.x, .int .i64 x.n, .int .u8 x.f.toNat, .slice x.kp x.kl x.kc, .int .i64 x.a, .int .u32 x.b] 34)
      have z1 : (wr.alloc (.cells #[.int .i64 x.x, .int .i64 x.n, .int .u8 x.f.toNat, .slice x.kp x.kl x.kc, .int .i64 x.a, .int .u32 x.b] 34)).drew.cell? ⟨wr.heap.size, 1, none⟩ = some (.int .i64 x.n) := by simp
      have z2 : (wr.alloc (.cells #[.int .i64 x.x, .int .i64 x.n, .int .u8 x.f.toNat, .slice x.kp x.kl x.kc, .int .i64 x.a, .int .u32 x.b] 34)).drew.cell? ⟨wr.heap.size, 2, none⟩ = some (.int .u8 x.f.toNat) := by simp
      have lt4 : wr.heap.size < (wr.alloc (.cells #[.int .i64 x.x, .int .i64 x.n, .int .u8 x.f.toNat, .slice x.kp x.kl x.kc, .int .i64 x.a, .int .u32 x.b] 34)).drew.heap.size := by simp
      have hB4 : Below wr.heap.size wr (wr.alloc (.cells #[.int .i64 x.x, .int .i64 x.n, .int .u8 x.f.toNat, .slice x.kp x.kl x.kc, .int .i64 x.a, .int .u32 x.b] 34)).drew := (bel1 wr _).drew
      have cf : ∀ w, Calls Try.prog 18 #[.int .u8 x.f.toNat] w fun e w' => e = .returned (.agg (enc (fil x.f)).toArray) ∧ Below w.heap.size w w' := fun w => filled18 w x.f
      have hlF := len_fil x.f
      generalize fil x.f = FF at *
      have HB4 : Hid (Below wr.heap.size wr (wr.alloc (.cells #[.int .i64 x.x, .int .i64 x.n, .int .u8 x.f.toNat, .slice x.kp x.kl x.kc, .int .i64 x.a, .int .u32 x.b] 34)).drew) := hB4
      have HH4 : Hid (Arr (wr.alloc (.cells #[.int .i64 x.x, .int .i64 x.n, .int .u8 x.f.toNat, .slice x.kp x.kl x.kc, .int .i64 x.a, .int .u32 x.b] 34)).drew w2.heap.size f) := hH.on hB4
      have HO4 : Hid (Arr (wr.alloc (.cells #[.int .i64 x.x, .int .i64 x.n, .int .u8 x.f.toNat, .slice x.kp x.kl x.kc, .int .i64 x.a, .int .u32 x.b] 34)).drew (w2.heap.size + 1) (fun _ => zer)) := hO.on hB4
      have HB : Hid (Below W.heap.size W wr) := hB
      have HWr : Hid (Wr s f (fun _ => zer)) := hWr
      clear hc hl1 hig hxo q4 hH hO hB4 hB
      by_cases hn : 0 ≤ x.n ∧ x.n < 8
      · obtain ⟨k, hkx⟩ : ∃ k : Nat, x.n = k := ⟨x.n.toNat, by omega⟩
        have hk8 : k < 8 := by omega
        rw [hkx] at z1 c1 hA4 HB4 HH4 HO4
        rw [hkx] at z2 lt4
        have hhit := hWr.hit hk8 FF
        obtain ⟨hE, hW2⟩ := hhit
        have HW2 : Hid (Wr (s.write k FF).2 (upd f k FF) (fun _ => zer)) := hW2
        have hkz : (0 : Int) ≤ (k : Int) := by omega
        have hk8z : (k : Int) < 8 := by omega
        clear hn hkx hWr hW2
        go_wp2
        go_region_held3 (fun w' => w'.cell? ⟨wr.heap.size, 1, none⟩ = some (.int .i64 (k : Int)) ∧ w'.cell? ⟨wr.heap.size, 2, none⟩ = some (.int .u8 x.f.toNat)) (first | exact ⟨z1, z2⟩ | exact ⟨(hb5.cell (p := ⟨wr.heap.size, 1, none⟩) lt4).trans z1, (hb5.cell (p := ⟨wr.heap.size, 2, none⟩) lt4).trans z2⟩ | exact ⟨u1, u2⟩) ((first
          | (go_at_call 18; refine (cf _).mono ?_; rintro e w5 ⟨rfl, hb5⟩)
          | (go_at_call 17; refine (write17 _ _ _ _ s (hA4.on hb5) (k : Int) FF hlF).mono ?_; rintro e w6 ⟨rfl, h6, k6⟩
             have u1 := (World.cell?_of_block (w := w5) (a := ⟨wr.heap.size, 1, none⟩) (k6.block wr.heap.size (Nat.lt_of_lt_of_le lt4 hb5.size) (by omega) (by omega) (by omega))).trans ((hb5.cell (p := ⟨wr.heap.size, 1, none⟩) lt4).trans z1)
             have u2 := (World.cell?_of_block (w := w5) (a := ⟨wr.heap.size, 2, none⟩) (k6.block wr.heap.size (Nat.lt_of_lt_of_le lt4 hb5.size) (by omega) (by omega) (by omega))).trans ((hb5.cell (p := ⟨wr.heap.size, 2, none⟩) lt4).trans z2)
             rw [hE])))
        rename_i hHeld0
        clear hHeld0
        have hle : (enc FF).length = 128 := by rw [len_enc, hlF]
        have hA6d := h6.drew
        have v1 : w6.drew.cell? ⟨wr.heap.size, 1, none⟩ = some (.int .i64 (k : Int)) := by simpa using u1
        have v2 : w6.drew.cell? ⟨wr.heap.size, 2, none⟩ = some (.int .u8 x.f.toNat) := by simpa using u2
        have lt6 : wr.heap.size < w6.drew.heap.size := Nat.lt_of_lt_of_le lt4 (Nat.le_trans hb5.size k6.size)
        have hH6 : Arr w6.drew w2.heap.size f := (((HH4.out.on hb5).kept k6 (by omega) (by omega) (by omega)).same rfl)
        have hO6 : Arr w6.drew (w2.heap.size + 1) (fun _ => zer) := (((HO4.out.on hb5).kept k6 (by omega) (by omega) (by omega)).same rfl)
        have B6 : Below W.heap.size W w6.drew := (bel_kept ((bel_then HB.out HB4.out).trans (hb5.mono (by have := (bel_then HB.out HB4.out).size; exact this))) k6 (by omega) (by omega) (by omega)).drew
        have v3 : w6.drew.there w2.heap.size (k * 128) 128 := hH6.th_at hk8
        have hi48 : (Try.prog.info? 48).map (·.size) = some (enc FF).length := by rw [size48, hle]
        have hone := one_enc FF
        have HA6 : Hid (At w6.drew (W.heap.size + 2) W.heap.size (W.heap.size + 1) (s.write k FF).2) := hA6d
        have HH6 : Hid (Arr w6.drew w2.heap.size f) := hH6
        have HO6 : Hid (Arr w6.drew (w2.heap.size + 1) (fun _ => zer)) := hO6
        have HB6 : Hid (Below W.heap.size W w6.drew) := B6
        clear hA6d hH6 hO6 B6 h6 k6 hb5 u1 u2 z1 z2
        go_wp2
        go_region_held3 (fun w' => w'.cell? ⟨wr.heap.size, 1, none⟩ = some (.int .i64 (k : Int)) ∧ w'.cell? ⟨wr.heap.size, 2, none⟩ = some (.int .u8 x.f.toNat) ∧ w'.there w2.heap.size (k * 128) 128) (first | exact ⟨v1, v2, v3⟩ | exact ⟨x1, x2, x3⟩ | exact ⟨u1, u2, u3⟩) ((first
          | (go_at_call 18; refine (cf _).mono ?_; rintro e w7 ⟨rfl, hb7⟩
             have u1 := (hb7.cell (p := ⟨wr.heap.size, 1, none⟩) lt6).trans v1
             have u2 := (hb7.cell (p := ⟨wr.heap.size, 2, none⟩) lt6).trans v2
             have hst7 : Sem.run Try.prog (storeCells ⟨w2.heap.size, k * 128, none⟩ (enc FF)) w7 = .ok () (w7.setCells w2.heap.size (k * 128) (enc FF)) := store_run (by rw [hle]; exact (HH6.out.on hb7).th_at hk8) (one_enc FF)
             have u3 : w7.there w2.heap.size (k * 128) 128 := (HH6.out.on hb7).th_at hk8
             have x3 : (w7.setCells w2.heap.size (k * 128) (enc FF)).there w2.heap.size (k * 128) 128 := World.there_setCells u3 _ _ _
             have x1 : (w7.setCells w2.heap.size (k * 128) (enc FF)).cell? ⟨wr.heap.size, 1, none⟩ = some (.int .i64 (k : Int)) := cell_sets u1 (by show wr.heap.size ≠ _; omega)
             have x2 : (w7.setCells w2.heap.size (k * 128) (enc FF)).cell? ⟨wr.heap.size, 2, none⟩ = some (.int .u8 x.f.toNat) := cell_sets u2 (by show wr.heap.size ≠ _; omega))))
        have hg8 := gr_sets w2.heap.size (enc FF) (k * 128) w7
        have hA8 := (HA6.out.on hb7).grown hg8 (by omega) (by omega) (by omega)
        have hH8 := (HH6.out.on hb7).set hk8 hlF
        have hO8 := (HO6.out.on hb7).grown hg8 (by omega)
        have B8 := Below.grown (HB6.out.trans (hb7.mono HB6.out.size)) hg8 (Nat.le_trans HB6.out.size hb7.size) (fun k e => by injection e with e; omega)
        rename_i hHeld
        clear hHeld hst7 x1 x2 x3 u1 u2 u3 hg8
        generalize w7.setCells w2.heap.size (k * 128) (enc FF) = w8 at *
        go_wp2
        go_roundg gk
        case measure => omega
        case rel => exact ⟨i + 1, _, _, by have := HL.out; omega, by first | rfl | simp, hA8, HW2.out, hH8, hO8, B8⟩
      · have hmiss := hWr.miss hn FF
        have h41 : ((41 : Int) == 0) = false := by decide
        clear hn hWr
        go_wp2
        go_region_held3 (fun w' => w'.cell? ⟨wr.heap.size, 1, none⟩ = some (.int .i64 x.n) ∧ w'.cell? ⟨wr.heap.size, 2, none⟩ = some (.int .u8 x.f.toNat)) (first | exact ⟨z1, z2⟩ | exact ⟨(hb5.cell (p := ⟨wr.heap.size, 1, none⟩) lt4).trans z1, (hb5.cell (p := ⟨wr.heap.size, 2, none⟩) lt4).trans z2⟩ | exact ⟨u1, u2⟩) ((first
          | (go_at_call 18; refine (cf _).mono ?_; rintro e w5 ⟨rfl, hb5⟩)
          | (go_at_call 17; refine (write17 _ _ _ _ s (hA4.on hb5) x.n FF hlF).mono ?_; rintro e w6 ⟨rfl, h6, k6⟩
             have u1 := (World.cell?_of_block (w := w5) (a := ⟨wr.heap.size, 1, none⟩) (k6.block wr.heap.size (Nat.lt_of_lt_of_le lt4 hb5.size) (by omega) (by omega) (by omega))).trans ((hb5.cell (p := ⟨wr.heap.size, 1, none⟩) lt4).trans z1)
             have u2 := (World.cell?_of_block (w := w5) (a := ⟨wr.heap.size, 2, none⟩) (k6.block wr.heap.size (Nat.lt_of_lt_of_le lt4 hb5.size) (by omega) (by omega) (by omega))).trans ((hb5.cell (p := ⟨wr.heap.size, 2, none⟩) lt4).trans z2)
             rw [hmiss] at h6; rw [hmiss])))
        rename_i hHeld0
        clear hHeld0
        have hH6 : Arr w6 w2.heap.size f := (HH4.out.on hb5).kept k6 (by omega) (by omega) (by omega)
        have hO6 : Arr w6 (w2.heap.size + 1) (fun _ => zer) := (HO4.out.on hb5).kept k6 (by omega) (by omega) (by omega)
        have B6 : Below W.heap.size W w6 := bel_kept ((bel_then HB.out HB4.out).trans (hb5.mono (by have := (bel_then HB.out HB4.out).size; exact this))) k6 (by omega) (by omega) (by omega)
        clear HH4 HO4 HB4 hb5 k6 u1 u2 z1 z2
        go_wp2
        go_roundg gk
        case measure => omega
        case rel => exact ⟨i + 1, s, f, by have := HL.out; omega, by first | rfl | simp, h6, HWr.out, hH6, hO6, B6⟩

end Go.Proofs.Ytifnjidechbjlaa
