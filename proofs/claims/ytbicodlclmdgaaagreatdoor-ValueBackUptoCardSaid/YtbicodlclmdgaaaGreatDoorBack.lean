/-
  The walk of ValueBack.
-/
import Derived.Test.YtbicodlclmdgaaaGreatDoorBegun
import Derived.Test.YtbicodlclmdgaaaGreatDoorRoP
import Derived.Test.YtbicodlclmdgaaaGreatDoorTextI
import Derived.Lib.QuietBelow
import Derived.BigQuiet
namespace Go.Proofs.YtbicodlclmdgaaaGreatDoor
open Go.RowKit Go.Sort
set_option linter.unusedVariables false      -- a walk need not use every condition

/-- The two values in their boxes, and what the calls want of a world. -/
structure St (w : World) (A B : V) (sa sb : Value) (u : World) : Prop where
  a : u.heap[w.heap.size]? = some (.cells #[.int .i64 A.k, .int .i64 A.n, .string A.s, sa] 24)
  b : u.heap[w.heap.size + 1]? = some (.cells #[.int .i64 B.k, .int .i64 B.n, .string B.s, sb] 24)
  ia : A.In u 0 sa
  ib : B.In u 0 sb
  ev : Ev u
  tab : TabOk u
  bel : Below w.heap.size w u
theorem St.on {w : World} {A B : V} {sa sb : Value} {u u' : World} (h : St w A B sa sb u) (hb : Below u.heap.size u u') : St w A B sa sb u' :=
  ⟨blk_on hb h.a, blk_on hb h.b, h.ia.on hb, h.ib.on hb, h.ev.on hb, h.tab.on hb, h.bel.trans (hb.mono h.bel.size)⟩
theorem St.drew {w : World} {A B : V} {sa sb : Value} {u : World} (h : St w A B sa sb u) : St w A B sa sb u.drew := h.on (Below.refl _ _).drew
theorem St.new {w : World} {A B : V} {sa sb : Value} (ha : A.In w 0 sa) (hb : B.In w 0 sb) (hv : Ev w) (ht : TabOk w) :
    St w A B sa sb ((w.alloc (.cells #[.int .i64 A.k, .int .i64 A.n, .string A.s, sa] 24)).alloc (.cells #[.int .i64 B.k, .int .i64 B.n, .string B.s, sb] 24)) := by
  have h2 := bel2 w (.cells #[.int .i64 A.k, .int .i64 A.n, .string A.s, sa] 24) (.cells #[.int .i64 B.k, .int .i64 B.n, .string B.s, sb] 24)
  refine ⟨blk_old (blk_new w _), ?_, ha.on h2, hb.on h2, hv.on h2, ht.on h2, h2⟩
  have := blk_new (w.alloc (.cells #[.int .i64 A.k, .int .i64 A.n, .string A.s, sa] 24)) (.cells #[.int .i64 B.k, .int .i64 B.n, .string B.s, sb] 24)
  rw [World.size_alloc] at this
  exact this

theorem rest_zero (T : ByteArray) : rest T 0 = T.data.toList := rfl
/-- Parse of the text of a value that may be. -/
theorem parse_text (A : V) (hA : A.wide) (hm : A.may 1 = true) (hl : (A.txt 1).length ≤ 1073741824) (w : World) (hv : Ev w) :
    Calls Tryz.prog 40 #[.string ⟨(A.txt 1).toArray⟩] w fun e w' => ∃ sl, e = .returned (.tuple #[A.agg sl, .int .i64 0, .int .i64 0]) ∧ A.In w' 0 sl ∧ Below w.heap.size w w' := by
  have hp : pVal 8 (rest ⟨(A.txt 1).toArray⟩ 0) = some (A, []) := by
    have := val_there 8 1 rfl A hA hm [] stop_nil
    rw [List.append_nil] at this
    exact this
  refine (parse40o ⟨(A.txt 1).toArray⟩ (by show (A.txt 1).toArray.size ≤ _; simpa using hl) w hv).mono ?_
  rintro e w' ⟨hb, ⟨v, sl, rfl, hin, hs⟩ | ⟨q, E, hq, hE, rfl, hs⟩⟩
  · have h1 := hs.out.1
    rw [hp] at h1
    injection h1 with h1; injection h1 with h1
    subst h1
    exact ⟨sl, rfl, V.In.keep (lo := w.heap.size) (fun _ _ _ hc => hc) (Nat.zero_le _) A _ hin, hb⟩
  · have := hs.out A hp
    rw [hm] at this; cases this
/-- Parse of any text: a value whose text it is, or a place of the text. -/
theorem parse_any (s : ByteArray) (hs : s.size ≤ 1073741824) (w : World) (hv : Ev w) :
    Calls Tryz.prog 40 #[.string s] w fun e w' => Below w.heap.size w w' ∧ ((∃ (v : V) (sl : Value), e = .returned (.tuple #[v.agg sl, .int .i64 0, .int .i64 0]) ∧ v.In w' 0 sl ∧ v.may 1 = true ∧ Hid (v.txt 1 = s.data.toList)) ∨
      (∃ (q : Nat) (E : Int), q ≤ s.size ∧ E ≠ 0 ∧ e = .returned (.tuple #[.agg #[.int .i64 0, .int .i64 0, .string ⟨#[]⟩, .slice none 0 0], .int .i64 q, .int .i64 E]))) := by
  refine (parse40o s hs w hv).mono ?_
  rintro e w' ⟨hb, ⟨v, sl, rfl, hin, hs⟩ | ⟨q, E, hq, hE, rfl, hs⟩⟩
  · refine ⟨hb, .inl ⟨v, sl, rfl, V.In.keep (lo := w.heap.size) (fun _ _ _ hc => hc) (Nat.zero_le _) v _ hin, hs.out.2, ?_⟩⟩
    have := val_back 8 1 rfl _ _ _ hs.out.1
    rw [List.append_nil] at this
    exact this.symm
  · exact ⟨hb, .inr ⟨q, E, hq, hE, rfl⟩⟩
theorem same_txt {A B : V} (hA : A.wide) (hB : B.wide) (ma : A.may 1 = true) (mb : B.may 1 = true) : ((⟨(A.txt 1).toArray⟩ : ByteArray).toList == (⟨(B.txt 1).toArray⟩ : ByteArray).toList) = (A.cmp B == 0) := by
  rw [Go.Lib.toList_data, Go.Lib.toList_data, Bool.eq_iff_iff]
  simp only [beq_iff_eq]
  constructor
  · intro h
    rw [txt_inj hA hB ma mb h, cmp_self]
  · intro h
    rw [cmp_eq A B h]
set_option maxHeartbeats 600000 in
set_option maxRecDepth 20000 in
theorem back_no (A B : V) (sa sb : Value) (s : ByteArray) (w : World) (ha : A.In w 0 sa) (hb : B.In w 0 sb) (hs : s.size ≤ 1048576) (hA : A.many ≤ 1048576) (hB : B.many ≤ 1048576) (hv : Ev w) (ht : TabOk w) (hm : A.may 1 = false) :
    Calls Tryz.prog 7 #[A.agg sa, B.agg sb, .string s] w fun e w' => e = .returned (.bool true) ∧ Below w.heap.size w w' := by
  obtain ⟨pa, na, qa, rfl⟩ := ha.header
  obtain ⟨pb, nb, qb, rfl⟩ := hb.header
  have S0 := St.new ha hb hv ht
  have hszA : (A.txt 1).length ≤ 1073741824 := by have := txt_le A 1 (V.In.wide A _ ha); omega
  have hszB : (B.txt 1).length ≤ 1073741824 := by have := txt_le B 1 (V.In.wide B _ hb); omega
  have cA13 := fun u h => check_any A (.slice pa na qa) u h
  have cB13 := fun u h => check_any B (.slice pb nb qb) u h
  have c12 := fun u => begun12 u
  have c40s := fun u h => parse_any s (by omega) u h
  have c13 := fun v sl u h => check_any v sl u h
  have c41 := fun v sl u hm hl ht hin => text41g v hm hl sl u ht hin
  unfold V.err at cA13 cB13 c13
  unfold V.agg at cA13 cB13 c40s c13 c41
  rw [hm] at cA13
  simp only [Bool.false_eq_true, if_false] at cA13
  unfold V.agg
  clear hm
  go_enter Tryz.func7, Tryz.ntmps7
  go_wp2_with (first
    | (go_at_call 12; refine (c12 _).mono ?_; rintro e w1 ⟨rfl, hb1⟩; have S1 := S0.on hb1; obtain ⟨x0, x1, x2, x3, -⟩ := four_of S1.a)
    | (go_at_call 13; refine (cA13 _ S1.ia).mono ?_; rintro e w2 ⟨rfl, hb2⟩; have S2 := S1.on hb2)
    | (go_at_call 40; refine (c40s _ S2.ev).mono ?_; rintro e w3 ⟨hb3, ⟨v, sl, rfl, hin3, hm3, ht3⟩ | ⟨q3, E3, hq3, hE3, rfl⟩⟩; (try obtain ⟨p3, n3, m3, rfl⟩ := hin3.header)))
  · have S3 := S2.on hb3
    have hTxt : (⟨(v.txt 1).toArray⟩ : ByteArray) = s := by rw [ht3.out, Array.toArray_toList]
    have hl3 : (v.txt 1).length ≤ 140737488355328 := by
      rw [ht3.out, Array.length_toList]
      have : s.data.size = s.size := rfl
      omega
    have c13v := c13 v (.slice p3 n3 m3) _ (hin3.on (bel1 w3 (.cells #[.int .i64 v.k, .int .i64 v.n, .string v.s, .slice p3 n3 m3] 24)))
    rw [hm3] at c13v
    simp only [if_true] at c13v
    have c41v : ∀ u, TabOk u → v.In u 0 (.slice p3 n3 m3) → Calls Tryz.prog 41 #[.agg #[.int .i64 v.k, .int .i64 v.n, .string v.s, .slice p3 n3 m3]] u fun e w' => e = .returned (.string s) ∧ Below u.heap.size u w' := fun u htu hiu => by
      have := c41 v (.slice p3 n3 m3) u hm3 hl3 htu hiu
      rw [hTxt] at this
      exact this
    clear c13 c41 hTxt hl3 ht3 hm3 c12 cA13 cB13 c40s
    go_wp2_with (first
      | (go_at_call 13; refine c13v.mono ?_; rintro e w4 ⟨rfl, hb4⟩; obtain ⟨y0, y1, y2, y3, -⟩ := four_of (blk_on hb4 (blk_new w3 _)))
      | (go_at_call 41; refine (c41v _ ((S3.on (bel1 w3 _)).on hb4).tab ((hin3.on (bel1 w3 _)).on hb4)).mono ?_; rintro e w5 ⟨rfl, hb5⟩))
    go_ret
    exact ⟨rfl, (((S3.on (bel1 w3 _)).on hb4).on hb5).bel⟩
  · go_ret
    exact ⟨rfl, ((S2.on hb3).on (bel1 w3 _)).bel⟩
set_option maxHeartbeats 1500000 in
set_option maxRecDepth 20000 in
theorem back_one (A B : V) (sa sb : Value) (s : ByteArray) (w : World) (ha : A.In w 0 sa) (hb : B.In w 0 sb) (hs : s.size ≤ 1048576) (hA : A.many ≤ 1048576) (hB : B.many ≤ 1048576) (hv : Ev w) (ht : TabOk w) (hm : A.may 1 = true) (hm2 : B.may 1 = false) :
    Calls Tryz.prog 7 #[A.agg sa, B.agg sb, .string s] w fun e w' => e = .returned (.bool true) ∧ Below w.heap.size w w' := by
  obtain ⟨pa, na, qa, rfl⟩ := ha.header
  obtain ⟨pb, nb, qb, rfl⟩ := hb.header
  have S0 := St.new ha hb hv ht
  have hszA : (A.txt 1).length ≤ 1073741824 := by have := txt_le A 1 (V.In.wide A _ ha); omega
  have hszB : (B.txt 1).length ≤ 1073741824 := by have := txt_le B 1 (V.In.wide B _ hb); omega
  have cA13 := fun u h => check_any A (.slice pa na qa) u h
  have cB13 := fun u h => check_any B (.slice pb nb qb) u h
  have c12 := fun u => begun12 u
  have c40s := fun u h => parse_any s (by omega) u h
  have c13 := fun v sl u h => check_any v sl u h
  have c41 := fun v sl u hm hl ht hin => text41g v hm hl sl u ht hin
  unfold V.err at cA13 cB13 c13
  unfold V.agg at cA13 cB13 c40s c13 c41
  rw [hm] at cA13
  rw [hm2] at cB13
  simp only [Bool.false_eq_true, if_false] at cB13
  simp only [if_true] at cA13
  have c40A := fun u h => parse_text A (V.In.wide A _ ha) hm hszA u h
  have c41A := fun u ht hin => c41 A (.slice pa na qa) u hm (by omega) ht hin
  have c15 := fun sv u h1 h2 => refSame_any A A sv (.slice pa na qa) u h1 h2
  rw [cmp_self] at c15
  unfold V.agg at c40A c15 ⊢
  generalize (⟨(A.txt 1).toArray⟩ : ByteArray) = TA at *
  clear hm hm2
  have tk1 : True := trivial
  have tk2 : True := trivial
  go_enter Tryz.func7, Tryz.ntmps7
  go_wp2_with (first
    | (go_at_call 12; refine (c12 _).mono ?_; rintro e w1 ⟨rfl, hb1⟩; have S1 := S0.on hb1; obtain ⟨x0, x1, x2, x3, -⟩ := four_of S1.a)
    | (go_at_call 13; clear tk1; refine (cA13 _ S1.ia).mono ?_; rintro e w2 ⟨rfl, hb2⟩; have S2 := S1.on hb2; obtain ⟨x0, x1, x2, x3, -⟩ := four_of S2.a)
    | (go_at_call 41; clear tk2; refine (c41A _ S2.tab S2.ia).mono ?_; rintro e w3 ⟨rfl, hb3⟩; have S3 := S2.on hb3)
    | (go_at_call 40; refine (c40A _ S3.ev).mono ?_; rintro e w4 ⟨s4, rfl, hin4, hb4⟩; obtain ⟨p4, n4, m4, rfl⟩ := hin4.header; have S4 := (S3.on hb4).on (bel1 w4 (.cells #[.int .i64 A.k, .int .i64 A.n, .string A.s, .slice p4 n4 m4] 24)); have hin4' := hin4.on (bel1 w4 (.cells #[.int .i64 A.k, .int .i64 A.n, .string A.s, .slice p4 n4 m4] 24)); obtain ⟨x0, x1, x2, x3, -⟩ := four_of S4.a)
    | (go_at_call 15; refine (c15 _ _ hin4' S4.ia).mono ?_; rintro e w5 ⟨rfl, hb5⟩; have S5 := S4.on hb5))
  obtain ⟨x0, x1, x2, x3, -⟩ := four_of S5.a
  obtain ⟨z0, z1, z2, z3, -⟩ := four_of S5.b
  have mixed : Tryz.prog.follows .mixedOrders = true := by kernel_rfl
  have kx0 := cell_regrown x0
  have kx1 := cell_regrown x1
  have kx2 := cell_regrown x2
  have kx3 := cell_regrown x3
  have kz0 := cell_regrown z0
  have kz1 := cell_regrown z1
  have kz2 := cell_regrown z2
  have kz3 := cell_regrown z3
  have q13 : ∀ d os, Calls Tryz.prog 13 #[.agg #[.int .i64 B.k, .int .i64 B.n, .string B.s, .slice pb nb qb]] (grow (redrawn w5 d) os) fun e w'' => e = .returned (.int .i64 20) ∧ ∃ p : Regrown, w'' = grow (redrawn w5 p.d) p.os := fun d os => Calls.regrown_of (cB13 _ (S5.on (below_regrown w5 d os)).ib)
  refine wp_region_quiet_below mixed (by kernel_rfl) ?_
  repeat (go_big_quiet_step (first | exact q13 _ _))
  refine wpQuiet_nil ?_
  intro _ hw'
  obtain ⟨⟨dq, osq⟩, hw''⟩ := hw'
  subst hw''
  have S6 := S5.on (below_regrown w5 dq osq)
  generalize grow (redrawn w5 dq) osq = w6 at S6 ⊢
  clear kx0 kx1 kx2 kx3 kz0 kz1 kz2 kz3 q13 x0 x1 x2 x3 z0 z1 z2 z3
  go_wp2_with (first
    | (go_at_call 40; refine (c40s _ S6.ev).mono ?_; rintro e w3 ⟨hb3, ⟨v, sl, rfl, hin3, hm3, ht3⟩ | ⟨q3, E3, hq3, hE3, rfl⟩⟩; (try obtain ⟨p3, n3, m3, rfl⟩ := hin3.header)))
  · have S3 := S6.on hb3
    have hTxt : (⟨(v.txt 1).toArray⟩ : ByteArray) = s := by rw [ht3.out, Array.toArray_toList]
    have hl3 : (v.txt 1).length ≤ 140737488355328 := by
      rw [ht3.out, Array.length_toList]
      have : s.data.size = s.size := rfl
      omega
    have c13v := c13 v (.slice p3 n3 m3) _ (hin3.on (bel1 w3 (.cells #[.int .i64 v.k, .int .i64 v.n, .string v.s, .slice p3 n3 m3] 24)))
    rw [hm3] at c13v
    simp only [if_true] at c13v
    have c41v : ∀ u, TabOk u → v.In u 0 (.slice p3 n3 m3) → Calls Tryz.prog 41 #[.agg #[.int .i64 v.k, .int .i64 v.n, .string v.s, .slice p3 n3 m3]] u fun e w' => e = .returned (.string s) ∧ Below u.heap.size u w' := fun u htu hiu => by
      have := c41 v (.slice p3 n3 m3) u hm3 hl3 htu hiu
      rw [hTxt] at this
      exact this
    clear c13 c41 hTxt hl3 ht3 hm3 c12 cA13 cB13 c40s
    go_wp2_with (first
      | (go_at_call 13; refine c13v.mono ?_; rintro e w4 ⟨rfl, hb4⟩; obtain ⟨y0, y1, y2, y3, -⟩ := four_of (blk_on hb4 (blk_new w3 _)))
      | (go_at_call 41; refine (c41v _ ((S3.on (bel1 w3 _)).on hb4).tab ((hin3.on (bel1 w3 _)).on hb4)).mono ?_; rintro e w5 ⟨rfl, hb5⟩))
    go_ret
    exact ⟨rfl, (((S3.on (bel1 w3 _)).on hb4).on hb5).bel⟩
  · go_ret
    exact ⟨rfl, ((S6.on hb3).on (bel1 w3 _)).bel⟩
set_option maxHeartbeats 600000 in
set_option maxRecDepth 20000 in
theorem back_two (A B : V) (sa sb : Value) (s : ByteArray) (w : World) (ha : A.In w 0 sa) (hb : B.In w 0 sb) (hs : s.size ≤ 1048576) (hA : A.many ≤ 1048576) (hB : B.many ≤ 1048576) (hv : Ev w) (ht : TabOk w) (hm : A.may 1 = true) (hm2 : B.may 1 = true) :
    Calls Tryz.prog 7 #[A.agg sa, B.agg sb, .string s] w fun e w' => e = .returned (.bool true) ∧ Below w.heap.size w w' := by
  obtain ⟨pa, na, qa, rfl⟩ := ha.header
  obtain ⟨pb, nb, qb, rfl⟩ := hb.header
  have S0 := St.new ha hb hv ht
  have hszA : (A.txt 1).length ≤ 1073741824 := by have := txt_le A 1 (V.In.wide A _ ha); omega
  have hszB : (B.txt 1).length ≤ 1073741824 := by have := txt_le B 1 (V.In.wide B _ hb); omega
  have cA13 := fun u h => check_any A (.slice pa na qa) u h
  have cB13 := fun u h => check_any B (.slice pb nb qb) u h
  have c12 := fun u => begun12 u
  have c40s := fun u h => parse_any s (by omega) u h
  have c13 := fun v sl u h => check_any v sl u h
  have c41 := fun v sl u hm hl ht hin => text41g v hm hl sl u ht hin
  unfold V.err at cA13 cB13 c13
  unfold V.agg at cA13 cB13 c40s c13 c41
  rw [hm] at cA13
  rw [hm2] at cB13
  simp only [if_true] at cA13 cB13
  have c40A := fun u h => parse_text A (V.In.wide A _ ha) hm hszA u h
  have c41A := fun u ht hin => c41 A (.slice pa na qa) u hm (by omega) ht hin
  have c15 := fun sv u h1 h2 => refSame_any A A sv (.slice pa na qa) u h1 h2
  rw [cmp_self] at c15
  have c41B := fun u ht hin => c41 B (.slice pb nb qb) u hm2 (by omega) ht hin
  have c15B := fun u h1 h2 => refSame_any A B (.slice pa na qa) (.slice pb nb qb) u h1 h2
  have hsame := same_txt (V.In.wide A _ ha) (V.In.wide B _ hb) hm hm2
  unfold V.agg at c40A c15 c15B ⊢
  generalize (⟨(A.txt 1).toArray⟩ : ByteArray) = TA at *
  generalize (⟨(B.txt 1).toArray⟩ : ByteArray) = TB at *
  generalize (A.cmp B == 0) = eqb at *
  clear hm hm2
  have tk1 : True := trivial
  have tk2 : True := trivial
  go_enter Tryz.func7, Tryz.ntmps7
  go_wp2_with (first
    | (go_at_call 12; refine (c12 _).mono ?_; rintro e w1 ⟨rfl, hb1⟩; have S1 := S0.on hb1; obtain ⟨x0, x1, x2, x3, -⟩ := four_of S1.a)
    | (go_at_call 13; clear tk1; refine (cA13 _ S1.ia).mono ?_; rintro e w2 ⟨rfl, hb2⟩; have S2 := S1.on hb2; obtain ⟨x0, x1, x2, x3, -⟩ := four_of S2.a)
    | (go_at_call 41; clear tk2; refine (c41A _ S2.tab S2.ia).mono ?_; rintro e w3 ⟨rfl, hb3⟩; have S3 := S2.on hb3)
    | (go_at_call 40; refine (c40A _ S3.ev).mono ?_; rintro e w4 ⟨s4, rfl, hin4, hb4⟩; obtain ⟨p4, n4, m4, rfl⟩ := hin4.header; have S4 := (S3.on hb4).on (bel1 w4 (.cells #[.int .i64 A.k, .int .i64 A.n, .string A.s, .slice p4 n4 m4] 24)); have hin4' := hin4.on (bel1 w4 (.cells #[.int .i64 A.k, .int .i64 A.n, .string A.s, .slice p4 n4 m4] 24)); obtain ⟨x0, x1, x2, x3, -⟩ := four_of S4.a)
    | (go_at_call 15; refine (c15 _ _ hin4' S4.ia).mono ?_; rintro e w5 ⟨rfl, hb5⟩; have S5 := S4.on hb5))
  obtain ⟨x0, x1, x2, x3, -⟩ := four_of S5.a
  obtain ⟨z0, z1, z2, z3, -⟩ := four_of S5.b
  have mixed : Tryz.prog.follows .mixedOrders = true := by kernel_rfl
  have kx0 := cell_regrown x0
  have kx1 := cell_regrown x1
  have kx2 := cell_regrown x2
  have kx3 := cell_regrown x3
  have kz0 := cell_regrown z0
  have kz1 := cell_regrown z1
  have kz2 := cell_regrown z2
  have kz3 := cell_regrown z3
  have q13 : ∀ d os, Calls Tryz.prog 13 #[.agg #[.int .i64 B.k, .int .i64 B.n, .string B.s, .slice pb nb qb]] (grow (redrawn w5 d) os) fun e w'' => e = .returned (.int .i64 0) ∧ ∃ p : Regrown, w'' = grow (redrawn w5 p.d) p.os := fun d os => Calls.regrown_of (cB13 _ (S5.on (below_regrown w5 d os)).ib)
  have qTA : ∀ d os, Calls Tryz.prog 41 #[.agg #[.int .i64 A.k, .int .i64 A.n, .string A.s, .slice pa na qa]] (grow (redrawn w5 d) os) fun e w'' => e = .returned (.string TA) ∧ ∃ p : Regrown, w'' = grow (redrawn w5 p.d) p.os := fun d os => Calls.regrown_of (c41A _ (S5.on (below_regrown w5 d os)).tab (S5.on (below_regrown w5 d os)).ia)
  have qTB : ∀ d os, Calls Tryz.prog 41 #[.agg #[.int .i64 B.k, .int .i64 B.n, .string B.s, .slice pb nb qb]] (grow (redrawn w5 d) os) fun e w'' => e = .returned (.string TB) ∧ ∃ p : Regrown, w'' = grow (redrawn w5 p.d) p.os := fun d os => Calls.regrown_of (c41B _ (S5.on (below_regrown w5 d os)).tab (S5.on (below_regrown w5 d os)).ib)
  have q15 : ∀ d os, Calls Tryz.prog 15 #[.agg #[.int .i64 A.k, .int .i64 A.n, .string A.s, .slice pa na qa], .agg #[.int .i64 B.k, .int .i64 B.n, .string B.s, .slice pb nb qb]] (grow (redrawn w5 d) os) fun e w'' => e = .returned (.bool eqb) ∧ ∃ p : Regrown, w'' = grow (redrawn w5 p.d) p.os := fun d os => Calls.regrown_of (c15B _ (S5.on (below_regrown w5 d os)).ia (S5.on (below_regrown w5 d os)).ib)
  refine wp_region_quiet_below mixed (by kernel_rfl) ?_
  repeat (quiet_step (first | exact q13 _ _ | exact qTA _ _ | exact qTB _ _ | exact q15 _ _))
  refine wpQuiet_nil ?_
  intro _ hw'
  obtain ⟨⟨dq, osq⟩, hw''⟩ := hw'
  subst hw''
  have S6 := S5.on (below_regrown w5 dq osq)
  generalize grow (redrawn w5 dq) osq = w6 at S6 ⊢
  clear kx0 kx1 kx2 kx3 kz0 kz1 kz2 kz3 q13 qTA qTB q15 x0 x1 x2 x3 z0 z1 z2 z3
  go_wp2_with (first
    | (go_at_call 40; refine (c40s _ S6.ev).mono ?_; rintro e w3 ⟨hb3, ⟨v, sl, rfl, hin3, hm3, ht3⟩ | ⟨q3, E3, hq3, hE3, rfl⟩⟩; (try obtain ⟨p3, n3, m3, rfl⟩ := hin3.header)))
  · have S3 := S6.on hb3
    have hTxt : (⟨(v.txt 1).toArray⟩ : ByteArray) = s := by rw [ht3.out, Array.toArray_toList]
    have hl3 : (v.txt 1).length ≤ 140737488355328 := by
      rw [ht3.out, Array.length_toList]
      have : s.data.size = s.size := rfl
      omega
    have c13v := c13 v (.slice p3 n3 m3) _ (hin3.on (bel1 w3 (.cells #[.int .i64 v.k, .int .i64 v.n, .string v.s, .slice p3 n3 m3] 24)))
    rw [hm3] at c13v
    simp only [if_true] at c13v
    have c41v : ∀ u, TabOk u → v.In u 0 (.slice p3 n3 m3) → Calls Tryz.prog 41 #[.agg #[.int .i64 v.k, .int .i64 v.n, .string v.s, .slice p3 n3 m3]] u fun e w' => e = .returned (.string s) ∧ Below u.heap.size u w' := fun u htu hiu => by
      have := c41 v (.slice p3 n3 m3) u hm3 hl3 htu hiu
      rw [hTxt] at this
      exact this
    clear c13 c41 hTxt hl3 ht3 hm3 c12 cA13 cB13 c40s
    go_wp2_with (first
      | (go_at_call 13; refine c13v.mono ?_; rintro e w4 ⟨rfl, hb4⟩; obtain ⟨y0, y1, y2, y3, -⟩ := four_of (blk_on hb4 (blk_new w3 _)))
      | (go_at_call 41; refine (c41v _ ((S3.on (bel1 w3 _)).on hb4).tab ((hin3.on (bel1 w3 _)).on hb4)).mono ?_; rintro e w5 ⟨rfl, hb5⟩))
    go_ret
    exact ⟨rfl, (((S3.on (bel1 w3 _)).on hb4).on hb5).bel⟩
  · go_ret
    exact ⟨rfl, ((S6.on hb3).on (bel1 w3 _)).bel⟩
theorem back7 (A B : V) (sa sb : Value) (s : ByteArray) (w : World) (ha : A.In w 0 sa) (hb : B.In w 0 sb) (hs : s.size ≤ 1048576) (hA : A.many ≤ 1048576) (hB : B.many ≤ 1048576) (hv : Ev w) (ht : TabOk w) :
    Calls Tryz.prog 7 #[A.agg sa, B.agg sb, .string s] w fun e w' => e = .returned (.bool true) ∧ Below w.heap.size w w' := by
  cases hm : A.may 1 with
  | false => exact back_no A B sa sb s w ha hb hs hA hB hv ht hm
  | true =>
    cases hm2 : B.may 1 with
    | false => exact back_one A B sa sb s w ha hb hs hA hB hv ht hm hm2
    | true => exact back_two A B sa sb s w ha hb hs hA hB hv ht hm hm2
end Go.Proofs.YtbicodlclmdgaaaGreatDoor
