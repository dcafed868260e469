/-
  What pages write to a disk, as mathematics. No walk.
  wal.Open of a disk that has no log.
-/
import Derived.Test.YtfakgfmgofblgaaGreatDoorZWpRfRh
import Derived.Test.YtfakgfmgofblgaaGreatDoorZFoWdWgWlBa
import Derived.Test.YtfakgfmgofblgaaGreatDoorZBo
namespace Go.Proofs.YtfakgfmgofblgaaGreatDoor
open Go.RowKit

theorem write_is {s : Dsk} (h : 0 ≤ s.fuse) (hd : s.down = false) {a : Nat} (ha : a < s.N) (bs : List UInt8) :
    ((s.write a bs).1 = 9 ∧ s.fuse = 1 ∧ Sm s (s.write a bs).2 ∧ (s.write a bs).2.ca = s.ca ∧ (s.write a bs).2.down = true) ∨
    ((s.write a bs).1 = 0 ∧ Sm s (s.write a bs).2 ∧ (s.write a bs).2.ca = upd s.ca a (some bs) ∧ (s.write a bs).2.down = false ∧ 0 ≤ (s.write a bs).2.fuse ∧ (s.fuse = 0 → (s.write a bs).2.fuse = 0)) := by
  have hr : s.reach (a : Int) = 0 := by
    unfold Dsk.reach Dsk.hasB
    rw [hd]
    simp
    omega
  unfold Dsk.write
  rw [hr, if_neg (fun e => e rfl), Int.toNat_natCast]
  rcases call_is h hd with ⟨h1, h2, h3, h4, h5⟩ | ⟨h1, h2, h3, h4, h5, h6, h7⟩
  · rw [if_pos (by rw [h2]; decide)]
    exact .inl ⟨h2, h1, h3, h4, h5⟩
  · rw [if_neg (fun e => e h2)]
    refine .inr ⟨rfl, ⟨h3.N, h3.st, h3.tn⟩, ?_, h5, h6, h7⟩
    simp only [h4]
/-- The cache, with x sectors of a page. -/
def caP (a n : Nat) (b : List UInt8) (x : Nat) (ca : Nat → Option (List UInt8)) (i : Nat) : Option (List UInt8) :=
  if a ≤ i ∧ i < a + x then some (sealB 4 ((n + (i - a) : Nat) : Int) (pc b (i - a))) else ca i
theorem caP_zero (a n : Nat) (b : List UInt8) (ca : Nat → Option (List UInt8)) : caP a n b 0 ca = ca := by funext i; unfold caP; rw [if_neg (by omega)]
theorem caP_succ (a n : Nat) (b : List UInt8) (x : Nat) (ca : Nat → Option (List UInt8)) : caP a n b (x + 1) ca = upd (caP a n b x ca) (a + x) (some (sealB 4 ((n + x : Nat) : Int) (pc b x))) := by
  funext i
  unfold upd caP
  by_cases h : i = a + x
  · subst h
    rw [if_pos (by omega), if_pos rfl, show a + x - a = x by omega]
  · rw [if_neg h]
    by_cases h2 : a ≤ i ∧ i < a + x
    · rw [if_pos h2, if_pos (by omega)]
    · rw [if_neg h2, if_neg (by omega)]
theorem okF4 (n : Nat) (b : List UInt8) (x : Nat) : okF 4 (n : Int) (pc b x) = true := okF_of (by decide) (by decide) (by omega) (pc_le b x)
theorem wpf_is {s : Dsk} (h : 0 ≤ s.fuse) (hd : s.down = false) {a n : Nat} {b : List UInt8} : ∀ x, a + x ≤ s.N →
    ((s.wpf a n b x).1 = 0 ∧ Sm s (s.wpf a n b x).2 ∧ (s.wpf a n b x).2.ca = caP a n b x s.ca ∧ (s.wpf a n b x).2.down = false ∧ 0 ≤ (s.wpf a n b x).2.fuse ∧ (s.fuse = 0 → (s.wpf a n b x).2.fuse = 0)) ∨
    ((s.wpf a n b x).1 = 9 ∧ Sm s (s.wpf a n b x).2 ∧ (∃ y, y ≤ x ∧ (s.wpf a n b x).2.ca = caP a n b y s.ca) ∧ (s.wpf a n b x).2.down = true ∧ s.fuse ≠ 0)
  | 0, _ => .inl ⟨rfl, Sm.refl s, (caP_zero a n b s.ca).symm, hd, h, fun e => e⟩
  | x + 1, hN => by
    rcases wpf_is h hd (a := a) (n := n) (b := b) x (by omega) with ⟨h1, h2, h3, h4, h5, h6⟩ | ⟨h1, h2, ⟨y, hy, h3⟩, h4, h5⟩
    · have hp := put_is h5 h4 (a := a + x) (by rw [h2.N]; omega) (okF4 (n + x) b x)
      have ew : s.wpf a n b (x + 1) = (s.wpf a n b x).2.put ((a + x : Nat) : Int) 4 ((n + x : Nat) : Int) (pc b x) := by rw [Dsk.wpf, if_neg (fun e => e h1)]
      rw [← ew] at hp
      rcases hp with ⟨p1, p2, p3, p4, p5⟩ | ⟨p1, p2, p3, p4, p5, p6⟩
      · exact .inr ⟨p1, h2.trans p3, ⟨x, by omega, by rw [p4, h3]⟩, p5, fun e0 => by have := h6 e0; omega⟩
      · exact .inl ⟨p1, h2.trans p2, by rw [p3, h3, caP_succ], p4, p5, fun e0 => p6 (h6 e0)⟩
    · have ew : s.wpf a n b (x + 1) = s.wpf a n b x := by rw [Dsk.wpf, if_pos (by rw [h1]; decide)]
      rw [ew]
      exact .inr ⟨h1, h2, ⟨y, by omega, h3⟩, h4, h5⟩
/-- The power is there, and no fuse. -/
structure Qu (s : Dsk) : Prop where
  down : s.down = false
  fuse : s.fuse = 0
theorem wpg_is {s : Dsk} (h : Qu s) {slots page : Nat} {b : List UInt8} (hN : 2 + slots + 4 * page + 4 ≤ s.N) :
    (s.wpg slots page b).1 = 0 ∧ Qu (s.wpg slots page b).2 ∧ Sm s (s.wpg slots page b).2 ∧ (s.wpg slots page b).2.ca = caP (2 + slots + 4 * page) (4 * page) b 4 s.ca := by
  unfold Dsk.wpg
  rcases wpf_is (by rw [h.fuse]; decide) h.down (a := 2 + slots + 4 * page) (n := 4 * page) (b := b) 4 hN with ⟨h1, h2, h3, h4, h5, h6⟩ | ⟨h1, h2, h3, h4, h5⟩
  · exact ⟨h1, ⟨h4, h6 h.fuse⟩, h2, h3⟩
  · exact absurd h.fuse h5
theorem wr_is {s : Dsk} (h : Qu s) {a : Nat} (ha : a < s.N) (bs : List UInt8) : (s.write a bs).1 = 0 ∧ Qu (s.write a bs).2 ∧ Sm s (s.write a bs).2 ∧ (s.write a bs).2.ca = upd s.ca a (some bs) := by
  rcases write_is (by rw [h.fuse]; decide) h.down ha bs with ⟨h1, h2, -⟩ | ⟨h1, h2, h3, h4, h5, h6⟩
  · rw [h.fuse] at h2; cases h2
  · exact ⟨h1, ⟨h4, h6 h.fuse⟩, h2, h3⟩
theorem fl_is {s : Dsk} (h : Qu s) : s.flush.1 = 0 ∧ Cl s.flush.2 ∧ Qu s.flush.2 ∧ s.flush.2.N = s.N ∧ ∀ i, s.flush.2.con i = s.con i := by
  rcases flush_is (by rw [h.fuse]; decide) h.down with ⟨h1, h2, -⟩ | ⟨h1, h2, h3, h4, h5⟩
  · rw [h.fuse] at h2; cases h2
  · exact ⟨h1, h2, ⟨h2.down, h5 h.fuse⟩, h3, h4⟩
theorem Cl.qu {s : Dsk} (h : Cl s) (hf : s.fuse = 0) : Qu s := ⟨h.down, hf⟩
/-- What is read of a sector, where the cache is known over a clean disk. -/
theorem con_over {s s' : Dsk} (hc : ∀ i, s.ca i = none) (hS : Sm s s') (i : Nat) : s'.con i = (s'.ca i).or (s.con i) := by
  rw [con_bas (hc i), ← hS.bas]
  cases h : s'.ca i with
  | some b => rw [con_ca h]; rfl
  | none => rw [con_bas h]; rfl
/-- What stands on the disk of pages that are all free: the slots and the first m pages. -/
def caE (slots pages m i : Nat) : Option (List UInt8) :=
  if 2 ≤ i ∧ i < 2 + slots then some zer
  else if 2 + slots ≤ i ∧ i < 2 + slots + 4 * m then some (sealB 4 ((i - (2 + slots) : Nat) : Int) (pc (if (i - (2 + slots)) / 4 = 0 then Ba.empty.bytes pages else []) ((i - (2 + slots)) % 4)))
  else none
def caS (k i : Nat) : Option (List UInt8) := if 2 ≤ i ∧ i < 2 + k then some zer else none
theorem caS_succ (k : Nat) : caS (k + 1) = upd (caS k) (2 + k) (some zer) := by
  funext i
  unfold upd caS
  by_cases h : i = 2 + k
  · subst h; rw [if_pos (by omega), if_pos rfl]
  · rw [if_neg h]
    by_cases h2 : 2 ≤ i ∧ i < 2 + k
    · rw [if_pos h2, if_pos (by omega)]
    · rw [if_neg h2, if_neg (by omega)]
theorem caE_zero (slots pages : Nat) : caE slots pages 0 = caS slots := by
  funext i
  unfold caE caS
  by_cases h : 2 ≤ i ∧ i < 2 + slots
  · rw [if_pos h, if_pos h]
  · rw [if_neg h, if_neg h, if_neg (by omega)]
theorem caE_succ (slots pages m : Nat) : caE slots pages (m + 1) = caP (2 + slots + 4 * m) (4 * m) (if m = 0 then Ba.empty.bytes pages else []) 4 (caE slots pages m) := by
  funext i
  unfold caP
  by_cases h : 2 + slots + 4 * m ≤ i ∧ i < 2 + slots + 4 * m + 4
  · rw [if_pos h]
    unfold caE
    rw [if_neg (by omega), if_pos (by omega)]
    rw [show (i - (2 + slots)) / 4 = m by omega, show (i - (2 + slots)) % 4 = i - (2 + slots + 4 * m) by omega, show 4 * m + (i - (2 + slots + 4 * m)) = i - (2 + slots) by omega]
  · rw [if_neg h]
    unfold caE
    by_cases h1 : 2 ≤ i ∧ i < 2 + slots
    · rw [if_pos h1, if_pos h1]
    · rw [if_neg h1, if_neg h1]
      by_cases h2 : 2 + slots ≤ i ∧ i < 2 + slots + 4 * m
      · rw [if_pos h2, if_pos (by omega)]
      · rw [if_neg h2, if_neg (by omega)]
/-- What Format of a log comes to, over a disk that stands well. -/
theorem fmt_gen {s : Dsk} (hc : Cl s) (hf : s.fuse = 0) {slots : Nat} {note : List UInt8} (hs1 : 1 ≤ slots) (hs2 : slots ≤ 4096) (hsN : 2 + slots ≤ s.N) (hpl : (hpay slots note).length ≤ 112) (hz : ∀ i, i < slots → frO (s.con (2 + i)) = none) :
    (s.write 0 zer).1 = 0 ∧ ((s.write 0 zer).2.hwr 1 slots note).1 = 0 ∧ ((s.write 0 zer).2.hwr 1 slots note).2.N = s.N ∧ ((s.write 0 zer).2.hwr 1 slots note).2.fuse = 0 ∧ Wl ((s.write 0 zer).2.hwr 1 slots note).2 ⟨1, slots, note, 0, false, false⟩ [] ∧ ∀ i, 2 ≤ i → ((s.write 0 zer).2.hwr 1 slots note).2.con i = s.con i := by
  obtain ⟨w1, w2, w4, w5⟩ := wr_is (hc.qu hf) (a := 0) (by omega) zer
  rw [show (((0 : Nat) : Int)) = (0 : Int) by rfl] at w1 w2 w4 w5
  generalize (s.write 0 zer).2 = s1 at *
  have hN1 : s1.N = s.N := w4.N
  have hp := put_is (s := s1) (by rw [w2.fuse]; decide) w2.down (a := 1) (by omega) (k := 1) (n := 1) (pay := hpay slots note) (okF_of (by decide) (by decide) (by decide) hpl)
  rw [show (((1 : Nat) : Int)) = (1 : Int) % 2 by decide] at hp
  unfold Dsk.hwr
  generalize s1.put ((1 : Int) % 2) 1 1 (hpay slots note) = q at *
  rcases hp with ⟨p1, p2, -⟩ | ⟨p1, p2, p3, p4, p5, p6⟩
  · rw [w2.fuse] at p2; cases p2
  · rw [if_neg (fun e => e p1)]
    have hf2 := p6 w2.fuse
    rcases flush_is p5 p4 with ⟨f1, f2, -⟩ | ⟨f1, f2, f3, f4, f5⟩
    · rw [hf2] at f2; cases f2
    · have hcon : ∀ i, q.2.flush.2.con i = if i = 1 then some (sealB 1 1 (hpay slots note)) else if i = 0 then some zer else s.con i := fun i => by
        rw [f4, con_over hc.ca (w4.trans p2)]
        have hca : q.2.ca i = if i = 1 then some (sealB 1 1 (hpay slots note)) else if i = 0 then some zer else none := by
          rw [p3, w5]
          unfold upd
          by_cases h1 : i = 1
          · rw [if_pos h1, if_pos h1]
          · rw [if_neg h1, if_neg h1]
            by_cases h0 : i = 0
            · rw [if_pos h0, if_pos h0]
            · rw [if_neg h0, if_neg h0]; exact hc.ca i
        rw [hca]
        by_cases h1 : i = 1
        · rw [if_pos h1, if_pos h1]; rfl
        · rw [if_neg h1, if_neg h1]
          by_cases h0 : i = 0
          · rw [if_pos h0, if_pos h0]; rfl
          · rw [if_neg h0, if_neg h0]; rfl
      have hNN : q.2.flush.2.N = s.N := by rw [f3, p2.N, hN1]
      refine ⟨w1, f1, hNN, f5 hf2, ⟨f2, ?_, rfl⟩, fun i hi => by rw [hcon, if_neg (by omega), if_neg (by omega)]⟩
      refine { e1 := by show (1 : Int) ≤ 1; decide, e2 := by show (1 : Int) ≤ 1099511627776; decide, s1 := hs1, s2 := hs2, sN := by rw [hNN]; exact hsN, pl := hpl, hd := ?_, oth := ?_, lay := rfl, le := Nat.zero_le _, old := ?_, ok := fun c hc => (by cases hc) }
      · show frO (q.2.flush.2.con 1) = _
        rw [hcon, if_pos rfl]
        exact frO_seal (by decide) (okF_of (by decide) (by decide) (by decide) hpl)
      · intro K n P hx
        have hx : frO (q.2.flush.2.con 0) = some (K, n, P) := hx
        rw [hcon, if_neg (by decide), if_pos rfl, frO_zer] at hx
        cases hx
      · intro i _ hi K n P hx
        have hx : frO (q.2.flush.2.con (2 + i)) = some (K, n, P) := hx
        rw [hcon, if_neg (by omega), if_neg (by omega), hz i hi] at hx
        cases hx
end Go.Proofs.YtfakgfmgofblgaaGreatDoor
namespace Go.Proofs.YtfakgfmgofblgaaGreatDoor
open Go.RowKit Go.Maps
set_option linter.unusedVariables false      -- a walk need not use every condition
attribute [local go_sem ↓] Go.wp_at_zero Go.wp_at_succ

set_option maxHeartbeats 2000000 in
set_option maxRecDepth 100000 in
theorem readFrameOut (w : World) (d pb mb : Nat) (s : Dsk) (h : At w d pb mb s) (hd : s.down = false) (i : Nat) (hi : s.N ≤ i) :
    Calls Tryz.prog 175 #[.pointer (some ⟨d, 0, none⟩), .int .i64 i] w (FrmR none w) := by
  obtain ⟨W0, hW0⟩ : ∃ W0, w.alloc (.cells #[.int .i64 0, .int .i64 0, .slice none 0 0] 190) = W0 := ⟨_, rfl⟩
  have B0 : Below w.heap.size w W0 := by rw [← hW0]; exact bel1 w _
  have blk0 : W0.heap[w.heap.size]? = some (.cells #[.int .i64 0, .int .i64 0, .slice none 0 0] 190) := by rw [← hW0]; exact heap_alloc_last w _
  have cR := read152 W0 d pb mb s (h.on B0) i
  have HB0 := Lib.hid B0
  have Hb0 := Lib.hid blk0
  have hr : s.read (i : Int) = (zer, 41) := by
    have hre : s.reach (i : Int) = 41 := by
      unfold Dsk.reach Dsk.hasB
      rw [hd]
      simp
      omega
    unfold Dsk.read
    rw [if_pos (by rw [hre]; decide), hre]
  rw [hr] at cR
  simp only at cR
  clear h hd hi hr B0 blk0
  go_enter Tryz.func175, Tryz.ntmps175
  go_wp2_with (first
    | (go_at_call 152; refine cR.mono ?_; rintro e W1 ⟨rfl, hb1⟩)
    | (with_reducible show wpList _ _ _ (Oper.mk (some 6) (Op.alloc 118) _ _ _ _ :: _) _ _
       refine wpList_alloc26 rfl rfl ?_; intro W2 hW2 zW2 sW2)
    | (with_reducible show wpList _ _ _ (Oper.mk _ (Op.store 118 (Operand.tmp 6) _) _ _ _ _ :: _) _ _
       refine wpList_store26 rfl _ _ rfl W1.heap.size 0 zer rfl rfl sW2.th len_zer ?_; intro W3 g3 r3 t3 z3
       have HB3 : Hid (Below W0.heap.size W0 W3) := (bel_then hb1 hW2).grown g3 (by have := hb1.size; have := hW2.size; omega) (fun k e => by injection e with e; have := hb1.size; omega)
       have k4 := blk_on HB3.out Hb0.out
       obtain ⟨u0, u1, u2, uf⟩ := three_of k4
       have uf0 := uf 0
       have uf1 := uf 1
       have uf2 := uf 2
       clear hb1 hW2 sW2 g3 t3 uf))
  refine bodyPost_ret (v := .tuple #[.agg #[.int .i64 0, .int .i64 0, .slice none 0 0], .bool false]) (results24 Tryz.results175 _ _ w.heap.size _ _ _ rfl (blk_put3 k4 _ _ _)) rfl ?_
  refine ⟨0, 0, [], none, 0, rfl, bs_nil _, fun _ _ _ _ e => (by cases e), fun y e => (by cases e), ?_⟩
  exact (HB0.out.trans (HB3.out.mono HB0.out.size)).grown (gr_put3 _ _ _ _ _) (Nat.le_trans HB0.out.size HB3.out.size) (fun k e => by injection e with e; omega)
set_option maxHeartbeats 4000000 in
set_option maxRecDepth 100000 in
theorem readHeadNone (w : World) (d i : Nat) (cf : ∀ W, Below w.heap.size w W → Calls Tryz.prog 175 #[.pointer (some ⟨d, 0, none⟩), .int .i64 i] W (FrmR none W)) :
    Calls Tryz.prog 143 #[.pointer (some ⟨d, 0, none⟩), .int .i64 i] w (HdR (0, 0, []) w) := by
  obtain ⟨W0, hW0⟩ : ∃ W0, w.alloc (.cells #[.int .i64 0, .int .i64 0, .slice none 0 0] 141) = W0 := ⟨_, rfl⟩
  have B0 : Below w.heap.size w W0 := by rw [← hW0]; exact bel1 w _
  have blk0 : W0.heap[w.heap.size]? = some (.cells #[.int .i64 0, .int .i64 0, .slice none 0 0] 141) := by rw [← hW0]; exact heap_alloc_last w _
  have cF := cf W0 B0
  have HB0 := Lib.hid B0
  have Hb0 := Lib.hid blk0
  clear B0 blk0 cf
  unfold FrmR at cF
  show Calls _ _ _ _ (HdR (0, 0, []) w)
  go_enter Tryz.func143, Tryz.ntmps143
  go_wp2_with (first
    | (go_at_call 175; refine cF.mono ?_; rintro e W1 ⟨K, N, P, p, c, rfl, hpv, hfr, hy, hb1⟩
       have k1 := blk_on hb1 Hb0.out
       have k2 := blk_on (bel1 W1 (.cells #[.int .i64 K, .int .i64 N, .slice p P.length c] 190)) k1
       obtain ⟨u0, u1, u2, uf⟩ := three_of k2
       have uf0 := uf 0
       have uf1 := uf 1
       have uf2 := uf 2
       have HB2 := Lib.hid ((HB0.out.trans (hb1.mono HB0.out.size)).alloc (Nat.le_trans HB0.out.size hb1.size) (.cells #[.int .i64 K, .int .i64 N, .slice p P.length c] 190))
       clear hpv hfr hy hb1 uf k1))
  refine bodyPost_ret (v := .agg #[.int .i64 0, .int .i64 0, .slice none 0 0]) (results52 Tryz.results143 _ _ w.heap.size _ _ _ rfl (blk_put3 k2 _ _ _)) rfl (hdR_none ?_)
  exact HB2.out.grown (gr_put3 _ _ _ _ _) HB2.out.size (fun k e => by injection e with e; omega)
set_option maxHeartbeats 4000000 in
set_option maxRecDepth 100000 in
theorem newestP (w : World) (d : Nat) (H0 H1 : Hd) (c0 : ∀ W, Below w.heap.size w W → Calls Tryz.prog 143 #[.pointer (some ⟨d, 0, none⟩), .int .i64 (0 : Nat)] W (HdR H0 W)) (c1 : ∀ W, Below w.heap.size w W → Calls Tryz.prog 143 #[.pointer (some ⟨d, 0, none⟩), .int .i64 (1 : Nat)] W (HdR H1 W)) :
    Calls Tryz.prog 99 #[.pointer (some ⟨d, 0, none⟩)] w (HdR (newest H0 H1) w) := by
  have HS := Lib.hid (nh_start w)
  have C0 := Lib.hid c0
  have C1 := Lib.hid c1
  clear c0 c1
  go_enter Tryz.func99, Tryz.ntmps99
  go_wp2
  go_loopg [5] 2 (fun gk s5 wr => ∃ x : Nat, x + gk = 2 ∧ s5 = .int .i64 x ∧ Hid (NhI w wr (if 1 ≤ x then H0 else (0, 0, [])) (if 2 ≤ x then H1 else (0, 0, []))))
  case atStart => exact ⟨0, rfl, rfl, HS.out⟩
  case round =>
    obtain ⟨x, hx, rfl, hI⟩ := hrel
    have hx3 : x = 0 ∨ x = 1 ∨ x = 2 := by omega
    rcases hx3 with rfl | rfl | rfl
    · obtain rfl : gk = 2 := by omega
      simp only [show ¬ (1 ≤ 0) by decide, show ¬ (2 ≤ 0) by decide, if_false] at hI
      obtain ⟨k0, hB, p0, c0, p1, c1, k1, b0, b1, f0, f1⟩ := hI.out
      obtain ⟨z0, z1, z2, z3, z4, z5, zf⟩ := six_of k1
      have HB := Lib.hid hB
      have HK0 := Lib.hid k0
      have HK1 := Lib.hid k1
      have HB0 := Lib.hid b0
      have HB1 := Lib.hid b1
      have cR := C0.out wr hB
      clear k0 hB k1 b0 b1 z0 z1 z2 z3 z4 z5 zf
      go_wp2_with (first
        | (go_at_call 143; refine cR.mono ?_
           rintro e w2 ⟨p, c, rfl, hbs, hfr, hb2⟩
           have HBS := Lib.hid hbs
           have HFR := Lib.hid (show Fresh (w.heap.size + 2) (.slice p H0.2.2.length c) from hfr.mono (by have := (Array.getElem?_eq_some_iff.1 HK1.out).1; omega))
           have k3 := blk_on hb2 HK1.out
           obtain ⟨y0, y1, y2, y3, y4, y5, yf⟩ := six_of k3
           have yf0 := yf 0
           have yf1 := yf 1
           have yf2 := yf 2
           have Hb2 := Lib.hid hb2
           have HK3 := Lib.hid k3
           clear hbs hfr hb2 yf k3))
      go_roundg 1
      case measure => decide
      case rel =>
        refine ⟨1, by decide, by first | rfl | simp, ?_⟩
        show NhI w _ _ _
        have hg : w2.grownBy (((w2.setCell ⟨w.heap.size + 1, 0, none⟩ (.int .i64 H0.1)).setCell ⟨w.heap.size + 1, 1, none⟩ (.int .i64 H0.2.1)).setCell ⟨w.heap.size + 1, 2, none⟩ (.slice p H0.2.2.length c)) (some (w.heap.size + 1)) := ((gr_set _ _ _ _).trans (gr_set _ _ _ _)).trans (gr_set _ _ _ _)
        refine ⟨?_, ?_, p, c, p1, c1, ?_, ?_, ?_, ?_, ?_⟩
        · exact (hg.block _ (by have := (Array.getElem?_eq_some_iff.1 HK3.out).1; omega) (fun e => by injection e with e; omega)).trans (blk_on Hb2.out HK0.out)
        · exact (HB.out.trans (Hb2.out.mono HB.out.size)).grown hg (Nat.le_trans HB.out.size Hb2.out.size) (fun j e => by injection e with e; omega)
        · rw [blk_set (blk_set (blk_set HK3.out _) _) _]
          rfl
        · exact HBS.out.grownB hg (fun g o n c' e => by have := HFR.out g o n c' e; omega)
        · exact (HB1.out.on Hb2.out).grownB hg (fun g o n c' e => by have := f1 g o n c' e; omega)
        · exact HFR.out
        · exact f1
    · obtain rfl : gk = 1 := by omega
      simp only [show (1 ≤ 1) by decide, show ¬ (2 ≤ 1) by decide, if_false, if_true] at hI
      obtain ⟨k0, hB, p0, c0, p1, c1, k1, b0, b1, f0, f1⟩ := hI.out
      obtain ⟨z0, z1, z2, z3, z4, z5, zf⟩ := six_of k1
      have HB := Lib.hid hB
      have HK0 := Lib.hid k0
      have HK1 := Lib.hid k1
      have HB0 := Lib.hid b0
      have HB1 := Lib.hid b1
      have cR := C1.out wr hB
      clear k0 hB k1 b0 b1 z0 z1 z2 z3 z4 z5 zf
      go_wp2_with (first
        | (go_at_call 143; refine cR.mono ?_
           rintro e w2 ⟨p, c, rfl, hbs, hfr, hb2⟩
           have HBS := Lib.hid hbs
           have HFR := Lib.hid (show Fresh (w.heap.size + 2) (.slice p H1.2.2.length c) from hfr.mono (by have := (Array.getElem?_eq_some_iff.1 HK1.out).1; omega))
           have k3 := blk_on hb2 HK1.out
           obtain ⟨y0, y1, y2, y3, y4, y5, yf⟩ := six_of k3
           have yf0 := yf 3
           have yf1 := yf 4
           have yf2 := yf 5
           have Hb2 := Lib.hid hb2
           have HK3 := Lib.hid k3
           clear hbs hfr hb2 yf k3))
      go_roundg 0
      case measure => decide
      case rel =>
        refine ⟨2, by decide, by first | rfl | simp, ?_⟩
        show NhI w _ _ _
        have hg : w2.grownBy (((w2.setCell ⟨w.heap.size + 1, 3, none⟩ (.int .i64 H1.1)).setCell ⟨w.heap.size + 1, 4, none⟩ (.int .i64 H1.2.1)).setCell ⟨w.heap.size + 1, 5, none⟩ (.slice p H1.2.2.length c)) (some (w.heap.size + 1)) := ((gr_set _ _ _ _).trans (gr_set _ _ _ _)).trans (gr_set _ _ _ _)
        refine ⟨?_, ?_, p0, c0, p, c, ?_, ?_, ?_, ?_, ?_⟩
        · exact (hg.block _ (by have := (Array.getElem?_eq_some_iff.1 HK3.out).1; omega) (fun e => by injection e with e; omega)).trans (blk_on Hb2.out HK0.out)
        · exact (HB.out.trans (Hb2.out.mono HB.out.size)).grown hg (Nat.le_trans HB.out.size Hb2.out.size) (fun j e => by injection e with e; omega)
        · rw [blk_set (blk_set (blk_set HK3.out _) _) _]
          rfl
        · exact (HB0.out.on Hb2.out).grownB hg (fun g o n c' e => by have := f0 g o n c' e; omega)
        · exact HBS.out.grownB hg (fun g o n c' e => by have := HFR.out g o n c' e; omega)
        · exact f0
        · exact HFR.out
    · obtain rfl : gk = 0 := by omega
      simp only [show (1 ≤ 2) by decide, show (2 ≤ 2) by decide, if_true] at hI
      obtain ⟨k0, hB, p0, c0, p1, c1, k1, b0, b1, f0, f1⟩ := hI.out
      obtain ⟨z0, z1, z2, z3, z4, z5, zf⟩ := six_of k1
      obtain ⟨y0, y1, y2, yf⟩ := three_of k0
      have yf0 := yf 0
      have yf1 := yf 1
      have yf2 := yf 2
      have HB := Lib.hid hB
      have HK0 := Lib.hid k0
      have HB0 := Lib.hid b0
      have HB1 := Lib.hid b1
      clear k0 hB k1 b0 b1 zf yf
      by_cases hlt : H1.1 < H0.1
      · have hNw : newest H0 H1 = H0 := if_pos hlt
        go_wp2
        refine bodyPost_ret (v := .agg #[.int .i64 H0.1, .int .i64 H0.2.1, .slice p0 H0.2.2.length c0]) (results52 Tryz.results99 _ _ w.heap.size _ _ _ rfl (blk_put3 HK0.out _ _ _)) rfl ?_
        refine ⟨p0, c0, rfl, ?_, Fresh.mono (b := w.heap.size + 2) f0 (by omega), ?_⟩
        · exact HB0.out.grownB (gr_put3 _ _ _ _ _) (fun g o n c' e => by have := f0 g o n c' e; omega)
        · exact HB.out.grown (gr_put3 _ _ _ _ _) HB.out.size (fun j e => by injection e with e; omega)
      · have hNw : newest H0 H1 = H1 := if_neg hlt
        go_wp2
        refine bodyPost_ret (v := .agg #[.int .i64 H1.1, .int .i64 H1.2.1, .slice p1 H1.2.2.length c1]) (results52 Tryz.results99 _ _ w.heap.size _ _ _ rfl (blk_put3 HK0.out _ _ _)) rfl ?_
        refine ⟨p1, c1, rfl, ?_, Fresh.mono (b := w.heap.size + 2) f1 (by omega), ?_⟩
        · exact HB1.out.grownB (gr_put3 _ _ _ _ _) (fun g o n c' e => by have := f1 g o n c' e; omega)
        · exact HB.out.grown (gr_put3 _ _ _ _ _) HB.out.size (fun j e => by injection e with e; omega)
/-- A disk with no head in either place. -/
theorem headNone (w : World) (d pb mb : Nat) (s : Dsk) (h : At w d pb mb s) (hT : TabOk w) (hd : s.down = false) (i : Nat) (hi2 : i < 2) (hn : frO (s.con i) = none) :
    Calls Tryz.prog 143 #[.pointer (some ⟨d, 0, none⟩), .int .i64 i] w (HdR (0, 0, []) w) := by
  refine readHeadNone w d i fun W hb => ?_
  by_cases hi : i < s.N
  · have := readFrame175 W d pb mb s (h.on hb) (tab_on hT hb) hd i hi
    rw [hn] at this
    exact this
  · exact readFrameOut W d pb mb s (h.on hb) hd i (by omega)
set_option maxHeartbeats 2000000 in
theorem openNone44 (w : World) (d pb mb : Nat) (s : Dsk) (h : At w d pb mb s) (hT : TabOk w) (hd : s.down = false) (h0 : frO (s.con 0) = none) (h1 : frO (s.con 1) = none) :
    Calls Tryz.prog 44 #[.pointer (some ⟨d, 0, none⟩)] w fun e w' => e = .returned (.tuple #[.pointer none, .slice none 0 0, .slice none 0 0, .int .i64 60]) ∧ Below w.heap.size w w' := by
  have c98 := madeDisk98 w d pb mb s h
  have c38 := down38 w d pb mb s h
  rw [hd] at c38
  have c99 := newestP w d (0, 0, []) (0, 0, []) (fun W hb => headNone W d pb mb s (h.on hb) (tab_on hT hb) hd 0 (by decide) h0) (fun W hb => headNone W d pb mb s (h.on hb) (tab_on hT hb) hd 1 (by decide) h1)
  rw [show newest (0, 0, []) (0, 0, []) = ((0, 0, []) : Hd) from rfl] at c99
  unfold HdR at c99
  have c100 := fun W (p : Option Addr) (c : Nat) => isRight100 W 0 (.int .i64 0) (.slice p 0 c) rfl rfl
  rw [show decide ((0 : Int) < 0) = false by decide] at c100
  clear h hT hd h0 h1
  go_enter Tryz.func44, Tryz.ntmps44
  go_wp2_with (first
    | (go_at_call 98; refine c98.mono ?_; rintro e w' ⟨rfl, ew⟩; rw [ew]; clear ew w')
    | (go_at_call 38; refine c38.mono ?_; rintro e w' ⟨rfl, ew⟩; rw [ew]; clear ew w')
    | (go_at_call 99; refine c99.mono ?_; rintro e w1 ⟨p, c, rfl, hbs, hfr, hb1⟩; have HB1 := Lib.hid (hb1.alloc (Nat.le_trans (Nat.le_refl _) hb1.size) (.cells #[.int .i64 0, .int .i64 0, .slice p 0 c] 141)); clear hbs hfr hb1)
    | (go_at_call 100; refine (c100 _ p c).mono ?_; rintro e w2 ⟨rfl, ew⟩; rw [ew]; clear ew w2))
  refine bodyPost_ret (results_tmp4 Tryz.results44 _ _) rfl ?_
  exact ⟨rfl, HB1.out.alloc HB1.out.size _⟩
end Go.Proofs.YtfakgfmgofblgaaGreatDoor
