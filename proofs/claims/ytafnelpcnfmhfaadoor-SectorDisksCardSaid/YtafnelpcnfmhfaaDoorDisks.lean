/-
  The walk of SectorDisks.
-/
import Derived.Test.YtafnelpcnfmhfaaDoorGet
import Derived.Test.YtafnelpcnfmhfaaDoorOps
import Derived.Test.YtafnelpcnfmhfaaDoorRbu
namespace Go.Proofs.YtafnelpcnfmhfaaDoor
open Go.RowKit Go.Maps
set_option linter.unusedVariables false      -- a walk need not use every condition
attribute [local go_sem ↓] Go.wp_at_zero Go.wp_at_succ

/-- The blocks of the program's disk. -/
def DX (B : Nat) : Nat → Prop := fun j => j = B ∨ j = B + 1 ∨ j = B + 2
/-- The program's disk and the document's, each with its state. -/
structure Two (W wr : World) (r : Nat) (s t : Dsk) : Prop where
  at_ : At wr (W.heap.size + 2) W.heap.size (W.heap.size + 1) s
  rat : ∃ sb sc tb tc cv, RAt wr (DX W.heap.size) r sb sc tb tc cv t
  bel : Below W.heap.size W wr
  rge : W.heap.size + 3 ≤ r
  sz : W.heap.size + 3 ≤ wr.heap.size
theorem Two.hX {W wr : World} {r : Nat} {s t : Dsk} (h : Two W wr r s t) : ∀ k, DX W.heap.size k → k < wr.heap.size := fun k hk => by
  have := h.sz
  rcases hk with rfl | rfl | rfl <;> omega
theorem Two.on {W wr w' : World} {r : Nat} {s t : Dsk} (h : Two W wr r s t) (hb : Below wr.heap.size wr w') : Two W w' r s t := by
  obtain ⟨sb, sc, tb, tc, cv, hr⟩ := h.rat
  have hz := h.sz
  exact ⟨h.at_.on hb, ⟨sb, sc, tb, tc, cv, hr.on hb⟩, h.bel.trans (hb.mono (by omega)), h.rge, Nat.le_trans hz hb.size⟩
theorem Two.prog {W wr w' : World} {r : Nat} {s t s' : Dsk} (h : Two W wr r s t) (ha : At w' (W.heap.size + 2) W.heap.size (W.heap.size + 1) s') (hk : Kept (W.heap.size + 2) W.heap.size (W.heap.size + 1) wr w') : Two W w' r s' t := by
  obtain ⟨sb, sc, tb, tc, cv, hr⟩ := h.rat
  have hz := h.sz
  refine ⟨ha, ⟨sb, sc, tb, tc, cv, hr.same fun j hj hx => hk.block j hj (fun e => hx (.inr (.inr e))) (fun e => hx (.inl e)) (fun e => hx (.inr (.inl e)))⟩, h.bel.trans (hk.below (by omega) (by omega) (by omega) (by omega)), h.rge, Nat.le_trans hz hk.size⟩
theorem Two.docu {W wr w' : World} {r : Nat} {s t t' : Dsk} (h : Two W wr r s t) (ha : ∃ sb sc tb tc cv, RAt w' (DX W.heap.size) r sb sc tb tc cv t') (hk : KeptR r wr w') : Two W w' r s t' := by
  have hz := h.sz
  have hg := h.rge
  refine ⟨h.at_.same (hk.block _ (by omega) (by omega)) (hk.block _ (by omega) (by omega)) (hk.block _ (by omega) (by omega)), ha, h.bel.trans ⟨hk.os, hk.tape, hk.output, hk.size, fun j hj => hk.block j (by omega) (by omega)⟩, hg, Nat.le_trans hz hk.size⟩
def opO (x a k n : Int) (pv : Value) (bit : Int) (bits : Nat) : Obj := .cells #[.int .i64 x, .int .i64 a, .int .i64 k, .int .i64 n, pv, .int .i64 bit, .int .u32 bits] 45
theorem seven_of {w : World} {g : Nat} {x a k n : Int} {pv : Value} {bit : Int} {bits : Nat} (e : w.heap[g]? = some (opO x a k n pv bit bits)) :
    w.cell? ⟨g, 0, none⟩ = some (.int .i64 x) ∧ w.cell? ⟨g, 1, none⟩ = some (.int .i64 a) ∧ w.cell? ⟨g, 2, none⟩ = some (.int .i64 k) ∧ w.cell? ⟨g, 3, none⟩ = some (.int .i64 n) ∧ w.cell? ⟨g, 4, none⟩ = some pv ∧ w.cell? ⟨g, 5, none⟩ = some (.int .i64 bit) ∧ w.cell? ⟨g, 6, none⟩ = some (.int .u32 bits) := by
  unfold opO at e
  refine ⟨?_, ?_, ?_, ?_, ?_, ?_, ?_⟩ <;> simp [World.cell?, e]
theorem two_same {W wr : World} {r : Nat} {s t : Dsk} (h : Two W wr r s t) (e : s = t) : Two W wr r t t := e ▸ h
/-- What no block of either disk has changed. -/
def KeepB (B r : Nat) (w w' : World) : Prop := ∀ j, j < w.heap.size → B + 3 ≤ j → j ≠ r → w'.heap[j]? = w.heap[j]?
theorem two18 {W V : World} {r : Nat} {s t : Dsk} (h : Two W V r s t) (hT : TabOk W) (a k n : Int) (pv : Value) (pay : List UInt8) (hp : Bs W pv pay) (hn : n ≤ 9223372036854775807) :
    Calls Tryd.prog 18 #[.pointer (some ⟨W.heap.size + 2, 0, none⟩), .int .i64 a, frm k n pv] V fun e w' => e = .returned (.int .i64 (s.put a k n pay).1) ∧ Two W w' r (s.put a k n pay).2 t ∧ KeepB W.heap.size r V w' :=
  (put18 V _ _ _ s h.at_ a k n pv pay (hp.on h.bel) (tab_on hT h.bel) hn).mono fun e w' ⟨he, h1, h2⟩ => ⟨he, h.prog h1 h2, fun j hj h3 _ => h2.block j hj (by omega) (by omega) (by omega)⟩
theorem two19 {W V : World} {r : Nat} {s t : Dsk} (h : Two W V r s t) (hT : TabOk W) (a k n : Int) (pv : Value) (pay : List UInt8) (hp : Bs W pv pay) (hn : n ≤ 9223372036854775807) :
    Calls Tryd.prog 19 #[.pointer (some ⟨r, 0, none⟩), .int .i64 a, frm k n pv] V fun e w' => e = .returned (.int .i64 (t.put a k n pay).1) ∧ Two W w' r s (t.put a k n pay).2 ∧ KeepB W.heap.size r V w' := by
  obtain ⟨sb, sc, tb, tc, cv, hr⟩ := h.rat
  exact (put19 V _ h.hX r sb sc tb tc cv t hr a k n pv pay (hp.on h.bel) (tab_on hT h.bel) hn).mono fun e w' ⟨he, h1, h2⟩ => ⟨he, h.docu h1 h2, fun j hj _ h3 => h2.block j hj h3⟩
theorem two20 {W V : World} {r : Nat} {s t : Dsk} (h : Two W V r s t) :
    Calls Tryd.prog 20 #[.pointer (some ⟨W.heap.size + 2, 0, none⟩)] V fun e w' => e = .returned (.int .i64 s.flush.1) ∧ Two W w' r s.flush.2 t ∧ KeepB W.heap.size r V w' :=
  (flush20 V _ _ _ s h.at_).mono fun e w' ⟨he, h1, h2⟩ => ⟨he, h.prog h1 h2, fun j hj h3 _ => h2.block j hj (by omega) (by omega) (by omega)⟩
theorem two21 {W V : World} {r : Nat} {s t : Dsk} (h : Two W V r s t) :
    Calls Tryd.prog 21 #[.pointer (some ⟨r, 0, none⟩)] V fun e w' => e = .returned (.int .i64 t.flush.1) ∧ Two W w' r s t.flush.2 ∧ KeepB W.heap.size r V w' := by
  obtain ⟨sb, sc, tb, tc, cv, hr⟩ := h.rat
  exact (rflush21 V _ h.hX r sb sc tb tc cv t hr).mono fun e w' ⟨he, h1, h2⟩ => ⟨he, h.docu h1 h2, fun j hj _ h3 => h2.block j hj h3⟩
theorem two22 {W V : World} {r : Nat} {s t : Dsk} (h : Two W V r s t) (n a : Int) (v : Nat) (hv : v < 4294967296) :
    Calls Tryd.prog 22 #[.pointer (some ⟨W.heap.size + 2, 0, none⟩), .int .i64 n, .int .i64 a, .int .u32 v] V fun e w' => e = .returned (.int .i64 (s.burst n a v).1) ∧ Two W w' r (s.burst n a v).2 t ∧ KeepB W.heap.size r V w' :=
  (burst22 V _ _ _ s h.at_ n a v hv).mono fun e w' ⟨he, h1, h2⟩ => ⟨he, h.prog h1 h2, fun j hj h3 _ => h2.block j hj (by omega) (by omega) (by omega)⟩
theorem two23 {W V : World} {r : Nat} {s t : Dsk} (h : Two W V r s t) (n a : Int) (v : Nat) (hv : v < 4294967296) :
    Calls Tryd.prog 23 #[.pointer (some ⟨r, 0, none⟩), .int .i64 n, .int .i64 a, .int .u32 v] V fun e w' => e = .returned (.int .i64 (t.burst n a v).1) ∧ Two W w' r s (t.burst n a v).2 ∧ KeepB W.heap.size r V w' := by
  obtain ⟨sb, sc, tb, tc, cv, hr⟩ := h.rat
  exact (rburst23 V _ h.hX r sb sc tb tc cv t hr n a v hv).mono fun e w' ⟨he, h1, h2⟩ => ⟨he, h.docu h1 h2, fun j hj _ h3 => h2.block j hj h3⟩
theorem two24 {W V : World} {r : Nat} {s t : Dsk} (h : Two W V r s t) (hT : TabOk W) (a k n : Int) :
    Calls Tryd.prog 24 #[.pointer (some ⟨W.heap.size + 2, 0, none⟩), .int .i64 a, .int .i64 k, .int .i64 n] V fun e w' => ∃ pv, e = .returned (.tuple #[pv, .int .i64 (s.get a k n).2]) ∧ Bs w' pv (s.get a k n).1 ∧ Two W w' r s t ∧ Below V.heap.size V w' :=
  (get24 V _ _ _ s h.at_ a k n (tab_on hT h.bel)).mono fun e w' ⟨pv, he, h1, h2⟩ => ⟨pv, he, h1, h.on h2, h2⟩
theorem two25 {W V : World} {r : Nat} {s : Dsk} (h : Two W V r s s) (hT : TabOk W) (a k n : Int) :
    Calls Tryd.prog 25 #[.pointer (some ⟨r, 0, none⟩), .int .i64 a, .int .i64 k, .int .i64 n] V fun e w' => ∃ pv, e = .returned (.tuple #[pv, .int .i64 (s.get a k n).2]) ∧ Bs w' pv (s.get a k n).1 ∧ Two W w' r s s ∧ Below V.heap.size V w' := by
  obtain ⟨sb, sc, tb, tc, cv, hr⟩ := h.rat
  exact (get25 V _ r sb sc tb tc cv s hr a k n (len_read h.at_ a) (tab_on hT h.bel)).mono fun e w' ⟨pv, he, h1, h2⟩ => ⟨pv, he, h1, h.on h2, h2⟩
theorem Two.box {W wr V w' : World} {r : Nat} {s t s' t' : Dsk} {o : Obj} (h : Two W wr r s t) (hV : wr.heap.size < V.heap.size) (hk : KeepB W.heap.size r V w') (hb : V.heap[wr.heap.size]? = some o) : w'.heap[wr.heap.size]? = some o := by
  obtain ⟨sb, sc, tb, tc, cv, hr⟩ := h.rat
  have l := hr.lts
  exact (hk _ hV h.sz (by omega)).trans hb
set_option maxHeartbeats 6400000 in
set_option maxRecDepth 100000 in
theorem disks4 (W : World) (v0 : Value) (l : List Opr) (hl : OpsAt W v0 l) (hlen : l.length ≤ 140737488351232) (hT : TabOk W) :
    Calls Tryd.prog 4 #[v0] W fun e w' => e = .returned (.bool true) ∧ Below W.heap.size W w' := by
  obtain ⟨⟨p, c, rfl, hla⟩, hok⟩ := hl
  have HLA := Lib.hid hla
  have HOK := Lib.hid hok
  have HT := Lib.hid hT
  have hlz : (l.length : Int) ≤ 140737488351232 := by omega
  clear hla hok hT
  go_enter Tryd.func4, Tryd.ntmps4
  go_wp2_with (first
    | (go_at_call 16; refine (new16 6 (by decide) (by decide) _).mono ?_
       rintro e w1 ⟨rfl, h1, hb1⟩
       have HA1 := Lib.hid h1
       have HB1 := Lib.hid hb1
       clear h1 hb1)
    | (go_at_call 17; refine (rnew17 6 (by decide) (by decide) _ (DX W.heap.size) (fun k hk => by have := HA1.out.lts; rcases hk with rfl | rfl | rfl <;> omega)).mono ?_
       rintro e w2 ⟨r, sb, tb, hge, rfl, h2, hb2⟩
       have HTwo : Hid (Two W w2 r (made 6) (made 6)) := by
         have l1 := HA1.out.lts
         have z2 := hb2.size
         refine ⟨HA1.out.on hb2, ⟨_, _, _, _, _, h2⟩, bel_then HB1.out hb2, ?_, ?_⟩ <;> omega
       clear h2 hb2)
    | (go_at_call 12; refine (begun12 _ (tab_on HT.out HTwo.out.bel)).mono ?_
       rintro e w3 ⟨rfl, hb3⟩
       have HTwo3 := Lib.hid (HTwo.out.on hb3)
       clear hb3))
  go_loopg [37] l.length (fun g s37 wr => ∃ (i : Nat) (s : Dsk), i + g = l.length ∧ s37 = .int .i64 i ∧ Hid (Two W wr r s s))
  case atStart => exact ⟨0, made 6, by omega, rfl, HTwo3⟩
  case round =>
    obtain ⟨i, s, hig, rfl, HTw⟩ := hrel
    cases gk with
    | zero =>
      obtain rfl : i = l.length := by omega
      have cN := putNil wr (tab_on HT.out HTw.out.bel)
      unfold frm at cN
      go_wp2_with (first
        | (go_at_call 18; refine cN.mono ?_; rintro e w4 ⟨rfl, hb4⟩))
      go_ret
      exact ⟨rfl, bel_then HTw.out.bel hb4⟩
    | succ g =>
      have hi : i < l.length := by omega
      have hiz : (i : Int) < (l.length : Int) := by omega
      have hiz0 : (0 : Int) ≤ (i : Int) := by omega
      obtain ⟨b, o, rfl, hrow⟩ := HLA.out.resolve_left (fun e => by rw [e] at hi; simp at hi)
      have hra := range_on (hrow i hi) HTw.out.bel
      have hoki := HOK.out l[i] (List.getElem_mem hi)
      obtain ⟨op, hop⟩ : ∃ op, l[i] = op := ⟨_, rfl⟩
      rw [hop] at hra hoki
      obtain ⟨x, a, k, n, pv, pay, bit, bits⟩ := op
      obtain ⟨hbs, hn, hbits⟩ := hoki
      simp only at hbs hn hbits
      obtain ⟨pp, pc, epv, -⟩ := (show Bs W pv pay from hbs)
      subst epv
      have HBS : Hid (Bs W (.slice pp pay.length pc) pay) := hbs
      have q0 : wr.cell? ⟨b, o + i * 7, none⟩ = some (.int .i64 x) := hra 0 _ rfl
      have q1 : wr.cell? ⟨b, o + i * 7 + 1, none⟩ = some (.int .i64 a) := hra 1 _ rfl
      have q2 : wr.cell? ⟨b, o + i * 7 + 2, none⟩ = some (.int .i64 k) := hra 2 _ rfl
      have q3 : wr.cell? ⟨b, o + i * 7 + 3, none⟩ = some (.int .i64 n) := hra 3 _ rfl
      have q4 : wr.cell? ⟨b, o + i * 7 + 4, none⟩ = some (.slice pp pay.length pc) := hra 4 _ rfl
      have q5 : wr.cell? ⟨b, o + i * 7 + 5, none⟩ = some (.int .i64 bit) := hra 5 _ rfl
      have q6 : wr.cell? ⟨b, o + i * 7 + 6, none⟩ = some (.int .u32 bits) := hra 6 _ rfl
      have HX0 := Lib.hid (heap_alloc_last wr (opO x a k n (.slice pp pay.length pc) bit bits))
      have HTw0 := Lib.hid (HTw.out.on (bel1 wr (opO x a k n (.slice pp pay.length pc) bit bits)))
      unfold opO at HX0 HTw0
      clear hra hrow hop hbs
      by_cases hx0 : x = 0
      · subst hx0
        obtain ⟨V, hV⟩ : ∃ V, wr.alloc (.cells #[.int .i64 0, .int .i64 a, .int .i64 k, .int .i64 n, .slice pp pay.length pc, .int .i64 bit, .int .u32 bits] 45) = V := ⟨_, rfl⟩
        have HV := Lib.hid hV
        clear hV
        have c18 := fun V' (h : Two W V' r s s) => two18 h HT.out a k n _ pay HBS.out hn
        have c19 := fun V' (h : Two W V' r (s.put a k n pay).2 s) => two19 h HT.out a k n _ pay HBS.out hn
        generalize (s.put a k n pay).1 = PE at *
        generalize (s.put a k n pay).2 = s2 at *
        go_wp2
        rw [HV.out] at HX0 HTw0 ⊢
        have hzV : wr.heap.size < V.heap.size := (Array.getElem?_eq_some_iff.1 HX0.out).1
        clear HV q0 q1 q2 q3 q4 q5 q6
        obtain ⟨y0, y1, y2, y3, y4, y5, y6⟩ := seven_of HX0.out
        unfold frm at c18 c19
        go_region_held3 (fun u => u.cell? ⟨wr.heap.size, 1, none⟩ = some (.int .i64 a) ∧ u.cell? ⟨wr.heap.size, 2, none⟩ = some (.int .i64 k) ∧ u.cell? ⟨wr.heap.size, 3, none⟩ = some (.int .i64 n) ∧ u.cell? ⟨wr.heap.size, 4, none⟩ = some (.slice pp pay.length pc))
          (first | exact ⟨y1, y2, y3, y4⟩ | exact hv1S | exact hv2S)
          (first
            | (go_at_call 18; refine (c18 _ (HTw0.out.on (Below.refl _ _).drew)).mono ?_
               rintro e V1 ⟨rfl, hT1, hk1⟩
               have hx1 := HTw.out.box (V := V.drew) (s' := s) (t' := s) hzV hk1 HX0.out
               obtain ⟨z0, z1, z2, z3, z4, z5, z6⟩ := seven_of hx1
               have hv1S := And.intro z1 (And.intro z2 (And.intro z3 z4))
               have HTw1 := Lib.hid hT1
               have HX1 := Lib.hid hx1
               clear hT1 hk1 z0 z5 z6 hx1)
            | (go_at_call 19; refine (c19 _ HTw1.out).mono ?_
               rintro e V2 ⟨rfl, hT2, hk2⟩
               have hx2 := HTw.out.box (V := V1) (s' := s) (t' := s) ((Array.getElem?_eq_some_iff.1 HX1.out).1) hk2 HX1.out
               obtain ⟨z0', z1', z2', z3', z4', z5', z6'⟩ := seven_of hx2
               have hv2S := And.intro z1' (And.intro z2' (And.intro z3' z4'))
               have HTw2 := Lib.hid hT2
               clear hT2 hk2 z0' z5' z6' hx2))
        go_wp2
        go_roundg g
        case measure => omega
        case rel => exact ⟨i + 1, s2, by omega, by first | rfl | simp, HTw2⟩
      · have hx0b : (x == 0) = false := by simpa using hx0
        by_cases hx1 : x = 1
        · subst hx1
          obtain ⟨V, hV⟩ : ∃ V, wr.alloc (.cells #[.int .i64 1, .int .i64 a, .int .i64 k, .int .i64 n, .slice pp pay.length pc, .int .i64 bit, .int .u32 bits] 45) = V := ⟨_, rfl⟩
          have HV := Lib.hid hV
          clear hV
          have c20 := fun V' (h : Two W V' r s s) => two20 h
          have c21 := fun V' (h : Two W V' r s.flush.2 s) => two21 h
          have c22 := fun V' (h : Two W V' r s.flush.2 s.flush.2) => two22 h a bit bits hbits
          have c23 := fun V' (h : Two W V' r (s.flush.2.burst a bit bits).2 s.flush.2) => two23 h a bit bits hbits
          generalize s.flush.1 = FE at *
          generalize s.flush.2 = s2 at *
          generalize (s2.burst a bit bits).1 = BE at *
          generalize (s2.burst a bit bits).2 = s3 at *
          go_wp2
          rw [HV.out] at HX0 HTw0 ⊢
          have hzV : wr.heap.size < V.heap.size := (Array.getElem?_eq_some_iff.1 HX0.out).1
          clear HV q0 q1 q2 q3 q4 q5 q6
          obtain ⟨y0, y1, y2, y3, y4, y5, y6⟩ := seven_of HX0.out
          go_region_held3 (fun u => u.cell? ⟨wr.heap.size, 1, none⟩ = some (.int .i64 a) ∧ u.cell? ⟨wr.heap.size, 5, none⟩ = some (.int .i64 bit) ∧ u.cell? ⟨wr.heap.size, 6, none⟩ = some (.int .u32 bits))
            (first | exact ⟨y1, y5, y6⟩ | exact hv1S | exact hv2S | exact hv3S | exact hv4S)
            (first
              | (go_at_call 20; refine (c20 _ (HTw0.out.on (Below.refl _ _).drew)).mono ?_
                 rintro e V1 ⟨rfl, hT1, hk1⟩
                 have HX1 := Lib.hid (HTw.out.box (V := V.drew) (s' := s) (t' := s) hzV hk1 HX0.out)
                 have hv1S : V1.cell? ⟨wr.heap.size, 1, none⟩ = some (.int .i64 a) ∧ V1.cell? ⟨wr.heap.size, 5, none⟩ = some (.int .i64 bit) ∧ V1.cell? ⟨wr.heap.size, 6, none⟩ = some (.int .u32 bits) := by
                   obtain ⟨z0, z1, z2, z3, z4, z5, z6⟩ := seven_of HX1.out
                   exact ⟨z1, z5, z6⟩
                 have HTw1 := Lib.hid hT1
                 clear hT1 hk1)
              | (go_at_call 21; refine (c21 _ HTw1.out).mono ?_
                 rintro e V2 ⟨rfl, hT2, hk2⟩
                 have HX2 := Lib.hid (HTw.out.box (V := V1) (s' := s) (t' := s) ((Array.getElem?_eq_some_iff.1 HX1.out).1) hk2 HX1.out)
                 have hv2S : V2.cell? ⟨wr.heap.size, 1, none⟩ = some (.int .i64 a) ∧ V2.cell? ⟨wr.heap.size, 5, none⟩ = some (.int .i64 bit) ∧ V2.cell? ⟨wr.heap.size, 6, none⟩ = some (.int .u32 bits) := by
                   obtain ⟨z0, z1, z2, z3, z4, z5, z6⟩ := seven_of HX2.out
                   exact ⟨z1, z5, z6⟩
                 have HTw2 := Lib.hid hT2
                 clear hT2 hk2)
              | (go_at_call 22; refine (c22 _ HTw2.out).mono ?_
                 rintro e V3 ⟨rfl, hT3, hk3⟩
                 have HX3 := Lib.hid (HTw.out.box (V := V2) (s' := s) (t' := s) ((Array.getElem?_eq_some_iff.1 HX2.out).1) hk3 HX2.out)
                 have hv3S : V3.cell? ⟨wr.heap.size, 1, none⟩ = some (.int .i64 a) ∧ V3.cell? ⟨wr.heap.size, 5, none⟩ = some (.int .i64 bit) ∧ V3.cell? ⟨wr.heap.size, 6, none⟩ = some (.int .u32 bits) := by
                   obtain ⟨z0, z1, z2, z3, z4, z5, z6⟩ := seven_of HX3.out
                   exact ⟨z1, z5, z6⟩
                 have HTw3 := Lib.hid hT3
                 clear hT3 hk3)
              | (go_at_call 23; refine (c23 _ HTw3.out).mono ?_
                 rintro e V4 ⟨rfl, hT4, hk4⟩
                 have HX4 := Lib.hid (HTw.out.box (V := V3) (s' := s) (t' := s) ((Array.getElem?_eq_some_iff.1 HX3.out).1) hk4 HX3.out)
                 have hv4S : V4.cell? ⟨wr.heap.size, 1, none⟩ = some (.int .i64 a) ∧ V4.cell? ⟨wr.heap.size, 5, none⟩ = some (.int .i64 bit) ∧ V4.cell? ⟨wr.heap.size, 6, none⟩ = some (.int .u32 bits) := by
                   obtain ⟨z0, z1, z2, z3, z4, z5, z6⟩ := seven_of HX4.out
                   exact ⟨z1, z5, z6⟩
                 have HTw4 := Lib.hid hT4
                 clear hT4 hk4))
          go_wp2
          go_roundg g
          case measure => omega
          case rel => exact ⟨i + 1, s3, by omega, by first | rfl | simp, HTw4⟩
        · have hx1b : (x == 1) = false := by simpa using hx1
          obtain ⟨V, hV⟩ : ∃ V, wr.alloc (.cells #[.int .i64 x, .int .i64 a, .int .i64 k, .int .i64 n, .slice pp pay.length pc, .int .i64 bit, .int .u32 bits] 45) = V := ⟨_, rfl⟩
          have c24 := two24 HTw0.out HT.out a k n
          have c25 := fun V' (h : Two W V' r s s) => two25 h HT.out a k n
          generalize (s.get a k n).1 = GP at *
          generalize (s.get a k n).2 = GE at *
          rw [hV] at HX0 HTw0 c24
          have HV := Lib.hid hV
          clear hV
          go_wp2_with (first
            | (go_at_call 24; rw [HV.out]; refine c24.mono ?_
               rintro e V1 ⟨pv1, rfl, hB1, hT1, hb1⟩
               have HTw1 := Lib.hid hT1
               have HB1 := Lib.hid hB1
               obtain ⟨p1, c1, ep1, -⟩ := hB1
               subst ep1
               obtain ⟨y0, y1, y2, y3, y4, y5, y6⟩ := seven_of (blk_on hb1 HX0.out)
               clear hT1 hb1)
            | (go_at_call 25; refine (c25 _ HTw1.out).mono ?_
               rintro e V2 ⟨pv2, rfl, hB2, hT2, hb2⟩
               have HTw2 := Lib.hid hT2
               have HB2 := Lib.hid hB2
               have HB12 := Lib.hid (HB1.out.on hb2)
               obtain ⟨p2, c2, ep2, -⟩ := hB2
               subst ep2
               clear hT2 hb2)
            | (go_at_call 26; refine (equal26 _ _ _ _ _ HB12.out HB2.out).mono ?_
               rintro e V3 ⟨rfl, rfl⟩
               rw [beq_self_eq_true]))
          go_roundg g
          case measure => omega
          case rel => exact ⟨i + 1, s, by omega, by first | rfl | simp, HTw2⟩
end Go.Proofs.YtafnelpcnfmhfaaDoor
