/-
  The statement on the power that is away: its walk.
-/
import Derived.Test.YtifnjidechbjlaaAwayM
import Derived.Test.YtifnjidechbjlaaShl
namespace Go.Proofs.Ytifnjidechbjlaa
open Go.RowKit Go.Maps
set_option linter.unusedVariables false      -- a walk need not use every condition
attribute [local go_sem ↓] Go.wp_at_zero Go.wp_at_succ

theorem and7 (n : Int) : 0 ≤ bits .and .i64 n 7 ∧ bits .and .i64 n 7 < 8 := by
  have h2 : (BitVec.ofInt 64 (7 : Int)).toNat = 7 := by decide
  have e : bits .and .i64 n 7 = IntKind.i64.wrap ((BitVec.ofInt 64 n &&& BitVec.ofInt 64 7).toNat : Int) := rfl
  rw [e, BitVec.toNat_and, h2, IntKind.wrap_i64]
  have : (BitVec.ofInt 64 n).toNat &&& 7 ≤ 7 := Nat.and_le_right
  omega
theorem down_reach {s : Dsk} (h : s.down = true) (n : Int) : s.reach n = 9 := by simp [Dsk.reach, h]
theorem down_read {s : Dsk} (h : s.down = true) (n : Int) : s.read n = (zer, 9) := by
  unfold Dsk.read
  rw [down_reach h, if_pos (by decide)]
theorem down_flush {s : Dsk} (h : s.down = true) : s.flush = (9, s) := by simp [Dsk.flush, h]
set_option maxHeartbeats 3000000 in
set_option maxRecDepth 100000 in
theorem away5 (W : World) (F : UInt8) (v : Value) (l : List Opr) (hl : OpsAt W v l) (hlen : l.length ≤ 140737488351232) :
    Calls Try.prog 5 #[.int .u8 F.toNat, v] W fun e W' => e = .returned (.bool true) ∧ Below W.heap.size W W' := by
  have cN := new7 8 (by omega) (by omega) W
  obtain ⟨p, c, rfl, hl⟩ := hl
  have hF0 : (0 : Int) ≤ (F.toNat : Int) := by omega
  have hF : (F.toNat : Int) ≤ 255 := by have := F.toNat_lt; omega
  have hst := inv_start hF0
  generalize (F.toNat : Int) = Fz at *
  have hFz : wrap64 Fz = Fz := by unfold wrap64; omega
  go_enter Try.func5, Try.ntmps5
  go_wp2_with (first
    | (go_at_call 7; refine cN.mono ?_; rintro e w1 ⟨rfl, h1, B1⟩)
    | (go_at_call 9; refine (begun9 _).mono ?_; rintro e w2 ⟨rfl, B2⟩; have h2 := h1.on B2; replace B2 := bel_then B1 B2)
    | (go_at_call 24; refine (setFuse24 _ _ _ _ _ h2 Fz (by omega)).mono ?_; rintro e w3 ⟨rfl, h3, k3⟩; rw [hst.2]; have B3 := bel_kept B2 k3 (by omega) (by omega) (by omega)))
  have hI0 := hst.1
  generalize ((made 8).setFuse Fz).2 = s0 at *
  clear h1 B1 h2 B2 k3 hst cN
  go_loopg [37] l.length (fun g s37 wr => ∃ (i : Nat) (s : Dsk), i + g = l.length ∧ s37 = .int .i64 i ∧ At wr (W.heap.size + 2) W.heap.size (W.heap.size + 1) s ∧ Inv Fz s ∧ Below W.heap.size W wr)
  case atStart => exact ⟨0, s0, by omega, rfl, h3, hI0, B3⟩
  case round =>
    obtain ⟨i, s, hig, rfl, hA, hI, hB⟩ := hrel
    clear h3 hI0 B3
    cases gk with
    | zero =>
      obtain rfl : i = l.length := by omega
      clear hl hig
      cases hsd : s.down with
      | true =>
        have e1 := down_read hsd 0
        have e2 := down_flush hsd
        have tk1 : True := trivial
        go_wp2_with (first
          | (go_at_call 11; clear tk1; refine (down11 _ _ _ _ s hA).mono ?_; rintro e w4 ⟨rfl, rfl⟩; rw [hsd])
          | (go_at_call 22; refine (read22 _ _ _ _ s hA 0).mono ?_; rintro e w5 ⟨rfl, B5⟩; rw [e1]; have h5 := hA.on B5; have l5 := h5.lts; replace B5 := bel_then hB B5)
          | (show wpList _ _ _ (Oper.mk _ (Op.store 48 (Operand.tmp 12) _) _ _ _ _ :: _) _ _
             rw [zc]; refine wpList_store48 rfl _ _ rfl w5.heap.size 0 zer rfl rfl (there4 w5) len_zer ?_; intro w6 g6 r6 t6 z6
             have h6 := (h5.alloc (.cells (encA zer) 48)).grown g6 (by omega) (by omega) (by omega)
             have B6 := Below.grown (bel_then B5 (bel1 w5 (.cells (encA zer) 48))) g6 (by simp; have := B5.size; omega) (fun k e => by injection e with e; have := B5.size; omega))
          | (go_at_call 19; refine (flush19 _ _ _ _ s h6).mono ?_; rintro e w7 ⟨rfl, h7, k7⟩; rw [e2]))
        go_ret
        exact ⟨rfl, bel_kept B6 k7 (by omega) (by omega) (by omega)⟩
      | false =>
        by_cases hz : Fz = 0
        · subst hz
          go_wp2_with (first
            | (go_at_call 11; refine (down11 _ _ _ _ s hA).mono ?_; rintro e w4 ⟨rfl, rfl⟩; rw [hsd]))
          go_ret
          exact ⟨rfl, hB⟩
        · have hlt : s.calls < Fz := by
            rcases hI.2 with ⟨h, -⟩ | ⟨-, -, h, -, h'⟩ | ⟨-, h, -⟩
            · exact absurd h hz
            · omega
            · rw [hsd] at h; cases h
          go_wp2_with (first
            | (go_at_call 11; refine (down11 _ _ _ _ s hA).mono ?_; rintro e w4 ⟨rfl, rfl⟩; rw [hsd])
            | (go_at_call 12; refine (calls12 _ _ _ _ s hA).mono ?_; rintro e w4 ⟨rfl, rfl⟩))
          go_ret
          exact ⟨by simp, hB⟩
    | succ gk =>
      have hi : i < l.length := by omega
      obtain ⟨b, o, rfl, hb, hc⟩ := hl.resolve_left (fun e => by rw [e] at hi; simp at hi)
      obtain ⟨c0, c1, c2, c3, c4, c5⟩ := op_cells (rangeAt_same (hc i hi) (hB.block b hb))
      generalize hxo : l[i] = x at *
      have hiz : (i : Int) < (l.length : Int) := by omega
      have hiz0 : (0 : Int) ≤ (i : Int) := by omega
      have HL : Hid (i + (gk + 1) = l.length) := hig
      have lts := hA.lts
      have sz := hB.size
      clear hc hl hig hxo
      by_cases hx2 : x.x = 2
      · rw [hx2] at c0
        cases hsd : s.down with
        | true =>
          have e2 := down_flush hsd
          go_wp2_with (first
            | (go_at_call 12; first | refine (calls12 _ _ _ _ s (hA.alloc _)).mono ?_ | refine (calls12 _ _ _ _ s h5).mono ?_
               rintro e w4 ⟨rfl, rfl⟩)
            | (go_at_call 11; first | refine (down11 _ _ _ _ s (hA.alloc _)).mono ?_ | refine (down11 _ _ _ _ s h5).mono ?_
               rintro e w4 ⟨rfl, rfl⟩; rw [hsd])
            | (go_at_call 19; refine (flush19 _ _ _ _ s (hA.alloc _)).mono ?_; rintro e w5 ⟨rfl, h5, k5⟩; rw [e2] at h5; rw [e2]; have B5 := bel_kept (bel_then hB (bel1 _ _)) k5 (by omega) (by omega) (by omega)))
          go_roundg gk
          case measure => omega
          case rel => exact ⟨i + 1, s, by have := HL.out; omega, by first | rfl | simp, h5, hI, B5⟩
        | false =>
          have hR := flush_res hF hI
          have hsub : wrap64 (wrap64 (s.calls + 1) - s.calls) = 1 := by have := hA.cl; unfold wrap64; omega
          go_wp2_with (first
            | (go_at_call 12; first | refine (calls12 _ _ _ _ s (hA.alloc _)).mono ?_ | refine (calls12 _ _ _ _ s' h5).mono ?_
               rintro e w4 ⟨rfl, rfl⟩; try rw [hcl])
            | (go_at_call 11; first | (refine (down11 _ _ _ _ s (hA.alloc _)).mono ?_; rintro e w4 ⟨rfl, rfl⟩; rw [hsd]) | (refine (down11 _ _ _ _ s' h5).mono ?_; rintro e w4 ⟨rfl, rfl⟩; rw [hdn]))
            | (go_at_call 19; refine (flush19 _ _ _ _ s (hA.alloc _)).mono ?_; rintro e w5 ⟨rfl, h5, k5⟩
               have B5 := bel_kept (bel_then hB (bel1 _ _)) k5 (by omega) (by omega) (by omega)
               generalize s.flush.1 = E at *
               generalize s.flush.2 = s' at *
               obtain ⟨hI', h | ⟨-, rfl, hdn, hcl, hFp, hcF⟩ | ⟨-, rfl, hdn, hcl⟩⟩ := hR
               · rw [hsd] at h; cases h.1))
          all_goals
            go_roundg gk
            case measure => omega
            case rel => exact ⟨i + 1, s', by have := HL.out; omega, by first | rfl | simp, h5, hI', B5⟩
      · have cf := filled18
        have hA4 := (hA.alloc (.cells #[.int .i64 x.x, .int .i64 x.n, .int .u8 x.f.toNat, .slice x.kp x.kl x.kc, .int .i64 x.a, .int .u32 x.b] 34)).drew
        have q4 := heap_alloc_last wr (.cells #[.int .i64 x.x, .int .i64 x.n, .int .u8 x.f.toNat, .slice x.kp x.kl x.kc, .int .i64 x.a, .int .u32 x.b] 34)
        obtain ⟨-, y1, y2, -, -, -⟩ := sixOf q4
        have z1 : (wr.alloc (.cells #[.int .i64 x.x, .int .i64 x.n, .int .u8 x.f.toNat, .slice x.kp x.kl x.kc, .int .i64 x.a, .int .u32 x.b] 34)).drew.cell? ⟨wr.heap.size, 1, none⟩ = some (.int .i64 x.n) := by simp
        have z2 : (wr.alloc (.cells #[.int .i64 x.x, .int .i64 x.n, .int .u8 x.f.toNat, .slice x.kp x.kl x.kc, .int .i64 x.a, .int .u32 x.b] 34)).drew.cell? ⟨wr.heap.size, 2, none⟩ = some (.int .u8 x.f.toNat) := by simp
        have lt4 : wr.heap.size < (wr.alloc (.cells #[.int .i64 x.x, .int .i64 x.n, .int .u8 x.f.toNat, .slice x.kp x.kl x.kc, .int .i64 x.a, .int .u32 x.b] 34)).drew.heap.size := by simp
        have hR := write_res hF hI (and7 x.n).1 (and7 x.n).2 (fil x.f)
        have hsub : wrap64 (wrap64 (s.calls + 1) - s.calls) = 1 := by have := hA.cl; unfold wrap64; omega
        have HB4 : Hid (Below W.heap.size W (wr.alloc (.cells #[.int .i64 x.x, .int .i64 x.n, .int .u8 x.f.toNat, .slice x.kp x.kl x.kc, .int .i64 x.a, .int .u32 x.b] 34)).drew) := (bel_then hB (bel1 _ _)).drew
        clear q4
        cases hsd : s.down with
        | true =>
          go_wp2_with (first
            | (go_at_call 12; refine (calls12 _ _ _ _ s (hA.alloc _)).mono ?_
               rintro e w4 ⟨rfl, rfl⟩)
            | (go_at_call 11; refine (down11 _ _ _ _ s (hA.alloc _)).mono ?_
               rintro e w4 ⟨rfl, rfl⟩; rw [hsd]))
          go_region_held3 (fun w' => w'.cell? ⟨wr.heap.size, 1, none⟩ = some (.int .i64 x.n) ∧ w'.cell? ⟨wr.heap.size, 2, none⟩ = some (.int .u8 x.f.toNat)) (first | exact ⟨z1, z2⟩ | exact ⟨(hb5.cell (p := ⟨wr.heap.size, 1, none⟩) lt4).trans z1, (hb5.cell (p := ⟨wr.heap.size, 2, none⟩) lt4).trans z2⟩ | exact ⟨u1, u2⟩) ((first
            | (go_at_call 18; refine (cf _ _).mono ?_; rintro e w5 ⟨rfl, hb5⟩)
            | (go_at_call 17; refine (write17 _ _ _ _ s (hA4.on hb5) _ (fil x.f) (len_fil _)).mono ?_; rintro e w6 ⟨rfl, h6, k6⟩
               have u1 := (World.cell?_of_block (w := w5) (a := ⟨wr.heap.size, 1, none⟩) (k6.block wr.heap.size (Nat.lt_of_lt_of_le lt4 hb5.size) (by omega) (by omega) (by omega))).trans ((hb5.cell (p := ⟨wr.heap.size, 1, none⟩) lt4).trans z1)
               have u2 := (World.cell?_of_block (w := w5) (a := ⟨wr.heap.size, 2, none⟩) (k6.block wr.heap.size (Nat.lt_of_lt_of_le lt4 hb5.size) (by omega) (by omega) (by omega))).trans ((hb5.cell (p := ⟨wr.heap.size, 2, none⟩) lt4).trans z2))))
          have B6 := bel_kept (HB4.out.trans (hb5.mono HB4.out.size)) k6 (by omega) (by omega) (by omega)
          generalize (s.write (bits .and .i64 x.n 7) (fil x.f)).1 = E at *
          generalize (s.write (bits .and .i64 x.n 7) (fil x.f)).2 = s' at *
          obtain ⟨hI', ⟨-, rfl, hdn, hcl⟩ | h | h⟩ := hR
          · go_wp2_with (first
              | (go_at_call 12; refine (calls12 _ _ _ _ s' h6).mono ?_; rintro e w4 ⟨rfl, rfl⟩; rw [hcl])
              | (go_at_call 11; refine (down11 _ _ _ _ s' h6).mono ?_; rintro e w4 ⟨rfl, rfl⟩; rw [hdn]))
            go_roundg gk
            case measure => omega
            case rel => exact ⟨i + 1, s', by have := HL.out; omega, by first | rfl | simp, h6, hI', B6⟩
          · rw [hsd] at h; cases h.1
          · rw [hsd] at h; cases h.1
        | false =>
          go_wp2_with (first
            | (go_at_call 12; refine (calls12 _ _ _ _ s (hA.alloc _)).mono ?_
               rintro e w4 ⟨rfl, rfl⟩)
            | (go_at_call 11; refine (down11 _ _ _ _ s (hA.alloc _)).mono ?_
               rintro e w4 ⟨rfl, rfl⟩; rw [hsd]))
          go_region_held3 (fun w' => w'.cell? ⟨wr.heap.size, 1, none⟩ = some (.int .i64 x.n) ∧ w'.cell? ⟨wr.heap.size, 2, none⟩ = some (.int .u8 x.f.toNat)) (first | exact ⟨z1, z2⟩ | exact ⟨(hb5.cell (p := ⟨wr.heap.size, 1, none⟩) lt4).trans z1, (hb5.cell (p := ⟨wr.heap.size, 2, none⟩) lt4).trans z2⟩ | exact ⟨u1, u2⟩) ((first
            | (go_at_call 18; refine (cf _ _).mono ?_; rintro e w5 ⟨rfl, hb5⟩)
            | (go_at_call 17; refine (write17 _ _ _ _ s (hA4.on hb5) _ (fil x.f) (len_fil _)).mono ?_; rintro e w6 ⟨rfl, h6, k6⟩
               have u1 := (World.cell?_of_block (w := w5) (a := ⟨wr.heap.size, 1, none⟩) (k6.block wr.heap.size (Nat.lt_of_lt_of_le lt4 hb5.size) (by omega) (by omega) (by omega))).trans ((hb5.cell (p := ⟨wr.heap.size, 1, none⟩) lt4).trans z1)
               have u2 := (World.cell?_of_block (w := w5) (a := ⟨wr.heap.size, 2, none⟩) (k6.block wr.heap.size (Nat.lt_of_lt_of_le lt4 hb5.size) (by omega) (by omega) (by omega))).trans ((hb5.cell (p := ⟨wr.heap.size, 2, none⟩) lt4).trans z2))))
          have B6 := bel_kept (HB4.out.trans (hb5.mono HB4.out.size)) k6 (by omega) (by omega) (by omega)
          generalize (s.write (bits .and .i64 x.n 7) (fil x.f)).1 = E at *
          generalize (s.write (bits .and .i64 x.n 7) (fil x.f)).2 = s' at *
          obtain ⟨hI', h | ⟨-, rfl, hdn, hcl, hFp, hcF⟩ | ⟨-, rfl, hdn, hcl⟩⟩ := hR
          · rw [hsd] at h; cases h.1
          · go_wp2_with (first
              | (go_at_call 12; refine (calls12 _ _ _ _ s' h6).mono ?_; rintro e w4 ⟨rfl, rfl⟩; rw [hcl])
              | (go_at_call 11; refine (down11 _ _ _ _ s' h6).mono ?_; rintro e w4 ⟨rfl, rfl⟩; rw [hdn]))
            go_roundg gk
            case measure => omega
            case rel => exact ⟨i + 1, s', by have := HL.out; omega, by first | rfl | simp, h6, hI', B6⟩
          · go_wp2_with (first
              | (go_at_call 12; refine (calls12 _ _ _ _ s' h6).mono ?_; rintro e w4 ⟨rfl, rfl⟩; rw [hcl])
              | (go_at_call 11; refine (down11 _ _ _ _ s' h6).mono ?_; rintro e w4 ⟨rfl, rfl⟩; rw [hdn]))
            go_roundg gk
            case measure => omega
            case rel => exact ⟨i + 1, s', by have := HL.out; omega, by first | rfl | simp, h6, hI', B6⟩
end Go.Proofs.Ytifnjidechbjlaa
