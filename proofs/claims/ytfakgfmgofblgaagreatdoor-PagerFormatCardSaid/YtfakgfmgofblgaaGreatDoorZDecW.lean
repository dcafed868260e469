/-
  What is decided when the power goes: the walk.
-/
import Derived.Test.YtfakgfmgofblgaaGreatDoorZRvShelfDirtyWDecMp
import Derived.RangeFuncBox
namespace Go.Proofs.YtfakgfmgofblgaaGreatDoor
open Go.RowKit Go.Maps Go.ChangeMaps Go.MapKept Go.WideShapes
set_option linter.unusedVariables false      -- a walk need not use every condition
attribute [local go_sem ↓] Go.wp_at_zero Go.wp_at_succ

theorem info3 : (Tryz.prog.info? 3).map (fun i => (i.zero, i.size, i.bytes)) = some (some (.int .i64 0), 1, 8) := by kernel_rfl
theorem torn76 : Tryz.zeroCells120.setIfInBounds 128 (.bool true) = (plc zer true).toArray := by
  rw [zc83]
  unfold plc
  apply Array.ext'
  rw [Array.toList_setIfInBounds, List.set_append_right _ _ (by rw [len_enc, len_zer]; exact Nat.le_refl _), len_enc, len_zer]
  rfl
theorem row_at {w : World} {base : Nat} {v : Value} {L : List Nat} (h : w.ownsRow base 3 1 v L.length (nums L)) : ∃ p cap, v = .slice p L.length cap ∧ (L = [] ∨ ∃ g, p = some ⟨g, 0, none⟩ ∧ base ≤ g ∧ g < w.heap.size ∧ ∀ i (hi : i < L.length), w.cell? ⟨g, i, none⟩ = some (.int .i64 (L[i] : Nat))) := by
  obtain ⟨-, h⟩ := h
  rcases h with ⟨rfl, h0⟩ | ⟨g, cap, cur, rfl, hb, hg, hn, hm, hs, ht⟩
  · have := List.eq_nil_of_length_eq_zero h0
    subst this
    exact ⟨none, 0, rfl, .inl rfl⟩
  · refine ⟨_, cap, rfl, .inr ⟨g, rfl, hb, (Array.getElem?_eq_some_iff.1 hg).1, fun i hi => ?_⟩⟩
    rw [cell_of_row _ _ i _ _ _ hg, ← Array.getElem?_toList]
    have : (cur.toList.take (L.length * 1))[i]? = (nums L)[i]? := by rw [ht]
    rw [List.getElem?_take_of_lt (by omega)] at this
    rw [this]
    simp [nums, hi]
theorem At.grownO {w w' : World} {d pb mb base : Nat} {s : Dsk} {r : Option Nat} (h : At w d pb mb s) (hg : w.grownBy w' r) (hr : ∀ g, r = some g → base ≤ g) (h1 : d < base) (h2 : pb < base) (h3 : mb < base) : At w' d pb mb s :=
  have l := h.lts
  h.same (hg.block _ l.1 (fun e => by have := hr d e.symm; omega)) (hg.block _ l.2.1 (fun e => by have := hr pb e.symm; omega)) (hg.block _ l.2.2.1 (fun e => by have := hr mb e.symm; omega))
theorem Kept.beyondO {d pb mb : Nat} {a b c : World} {r : Option Nat} (h : Kept d pb mb a b) (hg : b.grownBy c r) (hr : ∀ g, r = some g → a.heap.size ≤ g) : Kept d pb mb a c :=
  ⟨hg.os.trans h.os, hg.tape.trans h.tape, hg.output.trans h.output, Nat.le_trans h.size hg.size, fun i hi h1 h2 h3 =>
    (hg.block i (Nat.lt_of_lt_of_le hi h.size) (fun e => by have := hr i e.symm; omega)).trans (h.block i hi h1 h2 h3)⟩
theorem own_kept {w w' : World} {base : Nat} {e : TypeId} {size : Nat} {v : Value} {n : Nat} {xs : List Value} (h : w.ownsRow base e size v n xs) {r : Nat} (hg : w.grownBy w' (some r)) (hr : r < base) : w'.ownsRow base e size v n xs := by
  refine World.ownsRow.kept h hg ?_
  rcases hb : v.ownBlock with _ | g
  · exact .inl rfl
  · have := (World.ownsRow.lt h g hb).1
    exact .inr (fun e => by injection e with e; omega)
set_option maxHeartbeats 3000000 in
set_option maxRecDepth 100000 in
theorem decide41 (w : World) (d pb mb : Nat) (s : Dsk) (h : At w d pb mb s) (torn : Int) (kv : Value) (kb : List Bool) (hb : Bools w d pb mb kv kb) :
    Calls Tryz.prog 41 #[.pointer (some ⟨d, 0, none⟩), .int .i64 torn, kv] w fun e w' => (∃ v, e = .returned v) ∧ At w' d pb mb (s.decide kb torn) ∧ Kept d pb mb w w' := by
  have cD := dirty96 w d pb mb s h
  have lts := h.lts
  obtain ⟨⟨p, c, rfl, hkb⟩, hkl⟩ := hb
  have H : Hid (At w d pb mb s) := h
  have hLN : s.dirty.length ≤ 16384 := by have := dirty_len s; have := h.top; omega
  clear h
  go_enter Tryz.func41, Tryz.ntmps41
  go_wp2_with (first
    | (go_at_call 96; refine cD.mono ?_; rintro e w1 ⟨v, rfl, hrow, hnil, hB1⟩
       obtain ⟨q, cap, rfl, hL⟩ := row_at hrow))
  have lt1 : d < w1.heap.size ∧ pb < w1.heap.size ∧ mb < w1.heap.size := by have := hB1.size; omega
  have H1 : Hid (At w1 d pb mb s) := H.out.on hB1
  have HB1 : Hid (Below w.heap.size w w1) := hB1
  have hs1 := hB1.size
  clear hrow hnil hB1 cD
  go_loopg [6, 12] s.dirty.length (fun g s6 s12 wr => ∃ i : Nat, i + g = s.dirty.length ∧ s12 = .int .i64 i ∧ wr.ownsRow w1.heap.size 3 1 s6 (keptTo kb s.dirty i).length (nums (keptTo kb s.dirty i)) ∧ At wr d pb mb (s.dec kb i) ∧ Kept d pb mb w1 wr)
  case atStart =>
    refine ⟨0, by omega, rfl, World.ownsRow_nil _ _ _ _, ?_, Kept.refl _ _ _ _⟩
    rw [dec_zero]; exact H1.out
  case round =>
    obtain ⟨i, hig, rfl, hkr, hA, hK⟩ := hrel
    cases gk with
    | zero =>
      obtain rfl : i = s.dirty.length := by omega
      obtain ⟨q2, cap2, rfl, hKc⟩ := row_at hkr
      have hkm : ∀ k ∈ keptTo kb s.dirty s.dirty.length, k < s.N := fun k hk => (mem_dirty.1 (kept_mem hk (Nat.le_refl _))).1
      have HA : Hid (At wr d pb mb (s.dec kb s.dirty.length)) := hA
      have HD : Hid (s.decide kb torn = (s.dec kb s.dirty.length).tear (keptTo kb s.dirty s.dirty.length) torn) := rfl
      have hkl3 : (keptTo kb s.dirty s.dirty.length).length ≤ 16384 := by have := kept_len kb s.dirty s.dirty.length; omega
      have HK : Hid (Kept d pb mb w wr) := (Kept.bel HB1.out).trans hK
      clear hkr hA hL hkb hig hK
      have HS : Hid ((s.dec kb s.dirty.length).N = s.N) := rfl
      generalize s.dec kb s.dirty.length = sl at HA HD HS
      generalize keptTo kb s.dirty s.dirty.length = K at *
      by_cases htn : 0 ≤ torn ∧ torn < K.length
      · obtain ⟨m, rfl⟩ : ∃ m : Nat, torn = m := ⟨torn.toNat, by omega⟩
        have hm : m < K.length := by omega
        obtain ⟨g2, rfl, hg2, hg3, hKc⟩ := hKc.resolve_left (fun e => by rw [e] at hm; simp at hm)
        have hck := hKc m hm
        have hkN := hkm K[m] (List.getElem_mem hm)
        have HD2 : Hid (s.decide kb (m : Int) = { sl with st := upd sl.st K[m] zer, tn := upd sl.tn K[m] true }) := by
          refine HD.out.trans ?_
          unfold Dsk.tear
          rw [if_pos htn, Int.toNat_natCast, List.getD_eq_getElem?_getD, List.getElem?_eq_getElem hm]
          rfl
        have HN : Hid (sl.N = s.N) := HS.out
        generalize hk : K[m] = k at *
        have hkz : (0 : Int) ≤ (k : Int) := by omega
        have hkNz : (k : Int) < (s.N : Int) := by omega
        have hmz : (0 : Int) ≤ (m : Int) := by omega
        have hmK : (m : Int) < (K.length : Int) := by omega
        have p0 : wr.cell? ⟨d, 0, none⟩ = some (.slice (some ⟨pb, 0, none⟩) s.N s.N) := by rw [← HN.out]; exact (five_of HA.out.blk).1
        have tp := there_place HA.out (k := k) (by rw [HN.out]; exact hkN)
        have hA4 : At (wr.drew.setCells pb (k * 129) (plc zer true)) d pb mb { sl with st := upd sl.st k zer, tn := upd sl.tn k true } :=
          HA.out.drew.place (k := k) (by rw [HN.out]; exact hkN) len_zer rfl rfl rfl rfl rfl rfl ⟨upd_same _ _ _, upd_same _ _ _⟩ (fun i hi => ⟨upd_other _ _ hi, upd_other _ _ hi⟩)
        have p4 : (wr.drew.setCells pb (k * 129) (plc zer true)).cell? ⟨d, 0, none⟩ = some (.slice (some ⟨pb, 0, none⟩) s.N s.N) := by rw [← HN.out]; exact (five_of hA4.blk).1
        have c4 : (wr.drew.setCells pb (k * 129) (plc zer true)).cell? ⟨g2, m, none⟩ = some (.int .i64 (k : Int)) := cell_sets (w := wr.drew) (by simpa using hck) (by show g2 ≠ pb; omega)
        have t4 : (wr.drew.setCells pb (k * 129) (plc zer true)).there pb (k * 129) 129 := World.there_setCells (by simpa using tp) _ _ _
        have hfo := torn76
        have hlp := len_plc zer true len_zer
        have ho1 := one_plc zer true
        have hi76 : (Tryz.prog.info? 120).map (·.size) = some (plc zer true).length := by rw [size83, hlp]
        have hst : Sem.run Tryz.prog (storeCells ⟨pb, k * 129, none⟩ (plc zer true)) wr.drew = .ok () (wr.drew.setCells pb (k * 129) (plc zer true)) := store_run (by rw [hlp]; simpa using tp) ho1
        have HA4 : Hid (At (wr.drew.setCells pb (k * 129) (plc zer true)) d pb mb { sl with st := upd sl.st k zer, tn := upd sl.tn k true }) := hA4
        have h1c : wr.drew.cell? ⟨g2, m, none⟩ = some (.int .i64 (k : Int)) := by simpa using hck
        have h0c : wr.drew.cell? ⟨d, 0, none⟩ = some (.slice (some ⟨pb, 0, none⟩) s.N s.N) := by simpa using p0
        have h0t : wr.drew.there pb (k * 129) 129 := by simpa using tp
        clear hA4 htn hkm hKc
        generalize plc zer true = pz at *
        go_wp2
        go_region_held3 (fun w' => w'.cell? ⟨d, 0, none⟩ = some (.slice (some ⟨pb, 0, none⟩) s.N s.N) ∧ w'.cell? ⟨g2, m, none⟩ = some (.int .i64 (k : Int)) ∧ w'.there pb (k * 129) 129) (first | exact ⟨h0c, h1c, h0t⟩ | exact ⟨p4, c4, t4⟩) (fail)
        go_wp2
        go_end0
        refine ⟨⟨_, rfl⟩, ?_, ?_⟩
        · rw [HD2.out]; exact HA4.out
        · exact HK.out.trans (Kept.grown (gr_drew (gr_sets pb pz (k * 129) wr.drew)) (fun k e => by injection e with e; exact .inr (.inl e.symm)))
      · have HD2 : Hid (s.decide kb torn = sl) := by
          refine HD.out.trans ?_
          unfold Dsk.tear
          rw [if_neg htn]
        by_cases h0 : 0 ≤ torn
        · have h1 : ¬ (torn < K.length) := fun h => htn ⟨h0, h⟩
          clear htn hKc hkm
          go_wp2
          go_end0
          refine ⟨⟨_, rfl⟩, ?_, HK.out⟩
          rw [HD2.out]; exact HA.out
        · clear htn hKc hkm
          go_wp2
          go_end0
          refine ⟨⟨_, rfl⟩, ?_, HK.out⟩
          rw [HD2.out]; exact HA.out
    | succ gk =>
      have hi : i < s.dirty.length := by omega
      obtain ⟨g, rfl, hg0, hg1, hcl⟩ := hL.resolve_left (fun e => by rw [e] at hi; simp at hi)
      obtain ⟨bs, hbs, hca, hkN⟩ := dec_next s kb hi
      have ck := hcl i hi
      have hKi : Hid (keptTo kb s.dirty (i + 1) = if bit kb i then keptTo kb s.dirty i ++ [s.dirty[i]] else keptTo kb s.dirty i) := by
        cases hx : bit kb i with
        | true => rw [kept_yes hx, getD_dirty s hi]; rfl
        | false => rw [kept_no hx]; rfl
      have hno := dec_no s kb hi
      have hyes := fun hx => dec_yes s kb hi hx hbs
      generalize hk : s.dirty[i] = k at *
      have ckr : wr.cell? ⟨g, i, none⟩ = some (.int .i64 (k : Int)) := (World.cell?_of_block (w := w1) (a := ⟨g, i, none⟩) (hK.block g hg1 (by omega) (by omega) (by omega))).trans ck
      have hiz : (i : Int) < (s.dirty.length : Int) := by omega
      have hiz0 : (0 : Int) ≤ (i : Int) := by omega
      have c1 : wr.cell? ⟨d, 1, none⟩ = some (.map (some mb)) := (five_of hA.blk).2.1
      obtain ⟨n, D, ho, ht⟩ := hA.own
      have hkey := keyOf_int_mk (k := 3) Tryz.underlying3 (key_wf (k := k) (by have := H1.out.top; omega))
      have HKY : Hid (keyOf Tryz.prog 3 (.int .i64 (k : Int)) = some (.int .i64 (k : Int))) := hkey
      have HN : Hid (bit kb i = false → s.dec kb (i + 1) = { s.dec kb i with ca := upd (s.dec kb i).ca k none }) := hno
      have HY : Hid (bit kb i = true → s.dec kb (i + 1) = { s.dec kb i with st := upd (s.dec kb i).st k bs, tn := upd (s.dec kb i).tn k false, ca := upd (s.dec kb i).ca k none }) := hyes
      have HA : Hid (At wr d pb mb (s.dec kb i)) := hA
      have HT : Hid (Tied (s.dec kb i).N D (s.dec kb i).ca) := ht
      have HL : Hid (i + (gk + 1) = s.dirty.length) := hig
      have HC : Hid (s.ca k = some bs ∧ (s.dec kb i).ca k = some bs ∧ k < s.N) := ⟨hbs, hca, hkN⟩
      clear hno hyes hA ht hcl ck hkey hig hbs hca
      cases hx : bit kb i with
      | false =>
        by_cases hke : kb = []
        · subst hke
          clear hkb
          go_wp2_with (first
            | (at_delete; refine wpList_delete_own _ rfl _ _ 86 3 rfl 118 keyed3 Tryz.underlying86 _ mb n D rfl ho _ _ rfl HKY.out ?_; intro w2 ho2 ht2))
          go_roundg gk
          case measure => omega
          case rel =>
            refine ⟨i + 1, by have := HL.out; omega, by first | rfl | simp, ?_, ?_, hK.trans (Kept.grown ht2.grown (fun k e => by injection e with e; exact .inr (.inr e.symm)))⟩
            · rw [hKi.out, hx]; exact own_kept hkr ht2.grown lt1.2.2
            · rw [HN.out hx]; exact HA.out.cache ht2.grown ho2 (HT.out.del k)
        · obtain ⟨b, o, rfl, hb1, hb2, hb3, hb4, hbc⟩ := hkb.resolve_left hke
          obtain ⟨j, hj⟩ : ∃ j, i % kb.length = j := ⟨_, rfl⟩
          have hjl : j < kb.length := by rw [← hj]; exact Nat.mod_lt _ (List.length_pos_iff.2 hke)
          have hxj : kb[j] = false := by unfold bit at hx; rw [hj, List.getD_eq_getElem?_getD, List.getElem?_eq_getElem hjl] at hx; exact hx
          have cb : wr.cell? ⟨b, o + j, none⟩ = some (.bool false) := by
            have := hbc j hjl
            rw [hxj] at this
            rw [World.cell?_of_block (w := w1) (a := ⟨b, o + j, none⟩) (hK.block b (by omega) hb2 hb3 hb4), HB1.out.cell (p := ⟨b, o + j, none⟩) hb1]
            exact this
          have hn0 : (0 : Int) < (kb.length : Int) := by omega
          have hjz : (0 : Int) ≤ (j : Int) := by omega
          have hjn : (j : Int) < (kb.length : Int) := by omega
          have hrem : Int.tmod (i : Int) (kb.length : Int) = (j : Int) := by rw [Int.tmod_eq_emod_of_nonneg (by omega), ← hj]; omega
          clear hbc hL hj hkb
          go_wp2_with (first
            | (at_delete; refine wpList_delete_own _ rfl _ _ 86 3 rfl 118 keyed3 Tryz.underlying86 _ mb n D rfl ho _ _ rfl HKY.out ?_; intro w2 ho2 ht2))
          go_roundg gk
          case measure => omega
          case rel =>
            refine ⟨i + 1, by have := HL.out; omega, by first | rfl | simp, ?_, ?_, hK.trans (Kept.grown ht2.grown (fun k e => by injection e with e; exact .inr (.inr e.symm)))⟩
            · rw [hKi.out, hx]; exact own_kept hkr ht2.grown lt1.2.2
            · rw [HN.out hx]; exact HA.out.cache ht2.grown ho2 (HT.out.del k)
      | true =>
        have hke : kb ≠ [] := by rintro rfl; simp [bit] at hx
        obtain ⟨b, o, rfl, hb1, hb2, hb3, hb4, hbc⟩ := hkb.resolve_left hke
        obtain ⟨j, hj⟩ : ∃ j, i % kb.length = j := ⟨_, rfl⟩
        have hjl : j < kb.length := by rw [← hj]; exact Nat.mod_lt _ (List.length_pos_iff.2 hke)
        have hxj : kb[j] = true := by unfold bit at hx; rw [hj, List.getD_eq_getElem?_getD, List.getElem?_eq_getElem hjl] at hx; exact hx
        have cb : wr.cell? ⟨b, o + j, none⟩ = some (.bool true) := by
          have := hbc j hjl
          rw [hxj] at this
          rw [World.cell?_of_block (w := w1) (a := ⟨b, o + j, none⟩) (hK.block b (by omega) hb2 hb3 hb4), HB1.out.cell (p := ⟨b, o + j, none⟩) hb1]
          exact this
        have hn0 : (0 : Int) < (kb.length : Int) := by omega
        have hjz : (0 : Int) ≤ (j : Int) := by omega
        have hjn : (j : Int) < (kb.length : Int) := by omega
        have hrem : Int.tmod (i : Int) (kb.length : Int) = (j : Int) := by rw [Int.tmod_eq_emod_of_nonneg (by omega), ← hj]; omega
        obtain ⟨-, hca, -⟩ := HC.out
        have hl : bs.length = 128 := HT.out.len k bs hca
        have hkz : (0 : Int) ≤ (k : Int) := by omega
        have hkNz : (k : Int) < (s.N : Int) := by omega
        have p0 : wr.cell? ⟨d, 0, none⟩ = some (.slice (some ⟨pb, 0, none⟩) s.N s.N) := (five_of HA.out.blk).1
        have tp := there_place HA.out (k := k) hkN
        have hlk : (Instr.lookup 86 (.map (some mb)) (.int .i64 k) false).run Tryz.prog wr.drew = .ok (.agg (enc bs).toArray) wr.drew := look_some HA.out.drew hca false
        have hA4 : At (wr.drew.setCells pb (k * 129) (plc bs false)) d pb mb { s.dec kb i with st := upd (s.dec kb i).st k bs, tn := upd (s.dec kb i).tn k false } :=
          HA.out.drew.place (k := k) hkN hl rfl rfl rfl rfl rfl rfl ⟨upd_same _ _ _, upd_same _ _ _⟩ (fun i hi => ⟨upd_other _ _ hi, upd_other _ _ hi⟩)
        have p4 : (wr.drew.setCells pb (k * 129) (plc bs false)).cell? ⟨d, 0, none⟩ = some (.slice (some ⟨pb, 0, none⟩) s.N s.N) := (five_of hA4.blk).1
        have c4 : (wr.drew.setCells pb (k * 129) (plc bs false)).cell? ⟨d, 1, none⟩ = some (.map (some mb)) := (five_of hA4.blk).2.1
        have t4 : (wr.drew.setCells pb (k * 129) (plc bs false)).there pb (k * 129) 129 := World.there_setCells (by simpa using tp) _ _ _
        have hlk4 : (Instr.lookup 86 (.map (some mb)) (.int .i64 k) false).run Tryz.prog (wr.drew.setCells pb (k * 129) (plc bs false)) = .ok (.agg (enc bs).toArray) (wr.drew.setCells pb (k * 129) (plc bs false)) := look_some hA4 hca false
        have hle : (enc bs).length = 128 := by rw [len_enc, hl]
        have hfo := fold76 bs hl
        have hlp := len_plc bs false hl
        have ho1 := one_plc bs false
        have hi76 : (Tryz.prog.info? 120).map (·.size) = some (plc bs false).length := by rw [size83, hlp]
        have hst : Sem.run Tryz.prog (storeCells ⟨pb, k * 129, none⟩ (plc bs false)) wr.drew = .ok () (wr.drew.setCells pb (k * 129) (plc bs false)) := store_run (by rw [hlp]; simpa using tp) ho1
        have HA4 : Hid (At (wr.drew.setCells pb (k * 129) (plc bs false)) d pb mb { s.dec kb i with st := upd (s.dec kb i).st k bs, tn := upd (s.dec kb i).tn k false }) := hA4
        have h1c : wr.drew.cell? ⟨d, 1, none⟩ = some (.map (some mb)) := by simpa using c1
        have h0c : wr.drew.cell? ⟨d, 0, none⟩ = some (.slice (some ⟨pb, 0, none⟩) s.N s.N) := by simpa using p0
        have h0t : wr.drew.there pb (k * 129) 129 := by simpa using tp
        clear hbc hL hj hkb hA4 hca
        go_wp2
        go_region_held3 (fun w' => w'.cell? ⟨d, 0, none⟩ = some (.slice (some ⟨pb, 0, none⟩) s.N s.N) ∧ w'.cell? ⟨d, 1, none⟩ = some (.map (some mb)) ∧ w'.there pb (k * 129) 129 ∧ (Instr.lookup 86 (.map (some mb)) (.int .i64 k) false).run Tryz.prog w' = .ok (.agg (enc bs).toArray) w') (first | exact ⟨h0c, h1c, h0t, hlk⟩ | exact ⟨p4, c4, t4, hlk4⟩) (fail)
        have hg4 : wr.grownBy (wr.drew.setCells pb (k * 129) (plc bs false)) (some pb) := gr_drew (gr_sets pb (plc bs false) (k * 129) wr.drew)
        clear p4 t4 hlk4 hlk hst h0t h0c h1c tp p0 hfo hle ho1 hi76 hlp
        rename_i hHeld
        clear hHeld
        generalize wr.drew.setCells pb (k * 129) (plc bs false) = w4 at *
        have hkr4 := own_kept hkr hg4 lt1.2.1
        have hK4 : Kept d pb mb w1 w4 := hK.trans (Kept.grown hg4 (fun k e => by injection e with e; exact .inr (.inl e.symm)))
        obtain ⟨i0, hi3, hz0, hz1, hz2⟩ := info_parts info3
        have hkl2 := kept_len kb s.dirty i
        have h45 := hK4.size
        clear hg4 hkr hK ho cb ckr c1
        go_wp2_with (first
          | (at_builtin; refine wpList_append_own _ rfl _ _ 43 rfl w1.heap.size 3 i0 (.int .i64 0) 1 8 Tryz.underlying43 hi3 hz0 hz1 hz2 rfl (by decide) _ _ _ rfl (hkr4.alloc _) ⟨w4.heap.size, 0, none⟩ 1 1 [.int .i64 k] rfl rfl (cell_one_new _ _ _) (by simp [Value.oneCell']) (by unfold maxLen; omega) (by omega) (by simp; omega) ?_
             intro v5 w5 hrow5 hgr5 _
             have hA5 := (HA4.out.alloc (.cells #[.int .i64 (k : Int)] 3)).grownO (base := w1.heap.size) hgr5 (fun g e => (World.ownsRow.lt hkr4 g e).1) lt1.1 lt1.2.1 lt1.2.2
             have hK5 := (hK4.trans (Kept.bel (bel1 w4 (.cells #[.int .i64 (k : Int)] 3)))).beyondO hgr5 (fun g e => (World.ownsRow.lt hkr4 g e).1)
             have c5 : w5.cell? ⟨d, 1, none⟩ = some (.map (some mb)) := (five_of hA5.blk).2.1
             obtain ⟨n5, D5, ho5, ht5⟩ := hA5.own
             have HA5 : Hid (At w5 d pb mb { s.dec kb i with st := upd (s.dec kb i).st k bs, tn := upd (s.dec kb i).tn k false }) := hA5
             have HT5 : Hid (Tied (s.dec kb i).N D5 (s.dec kb i).ca) := ht5
             clear hA5 ht5)
          | (at_delete; refine wpList_delete_own _ rfl _ _ 86 3 rfl 118 keyed3 Tryz.underlying86 _ mb n5 D5 rfl ho5 _ _ rfl HKY.out ?_; intro w6 ho6 ht6))
        go_roundg gk
        case measure => omega
        case rel =>
          refine ⟨i + 1, by have := HL.out; omega, by first | rfl | simp, ?_, ?_, hK5.trans (Kept.grown ht6.grown (fun k e => by injection e with e; exact .inr (.inr e.symm)))⟩
          · rw [hKi.out, hx]
            have : (nums (keptTo kb s.dirty i ++ [k])) = nums (keptTo kb s.dirty i) ++ [.int .i64 (k : Int)] := by simp [nums]
            simp only [if_true]
            rw [this, List.length_append]
            exact own_kept hrow5 ht6.grown lt1.2.2
          · rw [HY.out hx]; exact HA5.out.cache ht6.grown ho6 (HT5.out.del k)
end Go.Proofs.YtfakgfmgofblgaaGreatDoor
