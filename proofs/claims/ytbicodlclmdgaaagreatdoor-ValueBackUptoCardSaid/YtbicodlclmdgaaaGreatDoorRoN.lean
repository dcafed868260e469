/-
  What read of package value does, whatever the text.
-/
import Derived.Test.YtbicodlclmdgaaaGreatDoorRoL
import Derived.Test.YtbicodlclmdgaaaGreatDoorRdrF
namespace Go.Proofs.YtbicodlclmdgaaaGreatDoor
open Go.RowKit
set_option linter.unusedVariables false      -- a walk need not use every condition

theorem vzero_in (w : World) (lo : Nat) : vzero.In w lo (.slice none 0 0) := in_plain (by unfold I64; omega) (by unfold I64; omega) (by show (0 : Nat) ≤ _; omega) w lo
theorem vq {T : ByteArray} {n p : Nat} (hlt : p < T.size) (h : T[p].toNat = 63) : pVal n (rest T p) = some (vzero, rest T (p + 1)) := by
  rw [rest_cons hlt]
  cases n with
  | zero => simp only [pVal]; rw [if_pos h]
  | succ n => simp only [pVal]; rw [if_pos h]
theorem v0 {T : ByteArray} {p : Nat} (hlt : p < T.size) (h : T[p].toNat ≠ 63) : pVal 0 (rest T p) = none := by
  rw [rest_cons hlt]; simp only [pVal]; rw [if_neg h]
theorem vs {T : ByteArray} {n p : Nat} (hlt : p < T.size) (h : T[p].toNat ≠ 63) : pVal (n + 1) (rest T p) = pOne (pVal n) (rest T p) := by
  rw [rest_cons hlt]; simp only [pVal]; rw [if_neg h]
/-- What value does, so deep. -/
theorem rv_all (T : ByteArray) (hT : T.size ≤ 1073741824) : ∀ n d, d + n = 9 → RV T n d := by
  intro n
  induction n with
  | zero =>
    intro d hd w r p o k h hp hk
    by_cases hlt : p < T.size
    · by_cases h63 : T[p].toNat = 63
      · refine (val_q T d hT w r p o k h hlt (by omega) h63).mono ?_
        rintro e w' ⟨rfl, hR⟩
        exact .inl ⟨vzero, p + 1, by omega, ⟨_, rfl, vzero_in _ _, by omega, fun _ => by omega, hR⟩, fun _ => vq hlt h63⟩
      · exact (val_deep T d hT w r p o k h hlt (by omega) h63 (by omega)).mono fun e w' hf => .inr ⟨hf, fun _ => v0 hlt h63⟩
    · refine (val_end T d hT w r p o k h (by omega) (by omega)).mono ?_
      rintro e w' (⟨ho, hv⟩ | ⟨ho, hf⟩)
      · exact .inl ⟨vGreat, p, hp, hv, fun h => by rw [ho] at h; cases h⟩
      · exact .inr ⟨hf, fun _ => by rw [rest_nil (by omega)]; exact val_nil 0⟩
  | succ n ih =>
    intro d hd w r p o k h hp hk
    by_cases hlt : p < T.size
    · by_cases h63 : T[p].toNat = 63
      · refine (val_q T d hT w r p o k h hlt (by omega) h63).mono ?_
        rintro e w' ⟨rfl, hR⟩
        exact .inl ⟨vzero, p + 1, by omega, ⟨_, rfl, vzero_in _ _, by omega, fun _ => by omega, hR⟩, fun _ => vq hlt h63⟩
      rw [vs hlt h63]
      have hd8 : d ≤ 8 := by omega
      by_cases h39 : T[p].toNat = 39
      · have e : pOne (pVal n) (rest T p) = (pStr ((rest T (p + 1)).length + 1) (rest T (p + 1))).map fun x => (V.mk 2 0 ⟨x.1.toArray⟩ [], x.2) := by rw [rest_cons hlt]; simp only [pOne]; rw [if_pos h39]
        rw [e]
        exact val_s T d hT w r p o k h hlt (by omega) hd8 h39
      by_cases h116 : T[p].toNat = 116
      · have e : pOne (pVal n) (rest T p) = (strip [116, 114, 117, 101] (rest T p)).map fun x => (V.mk 3 1 ⟨#[]⟩ [], x) := by rw [rest_cons hlt]; simp only [pOne]; rw [if_neg h39, if_pos h116]
        rw [e]
        exact val_t T d hT w r p o k h hlt (by omega) hd8 h116
      by_cases h102 : T[p].toNat = 102
      · have e : pOne (pVal n) (rest T p) = (strip [102, 97, 108, 115, 101] (rest T p)).map fun x => (V.mk 3 0 ⟨#[]⟩ [], x) := by rw [rest_cons hlt]; simp only [pOne]; rw [if_neg h39, if_neg h116, if_pos h102]
        rw [e]
        exact val_f T d hT w r p o k h hlt (by omega) hd8 h102
      by_cases h91 : T[p].toNat = 91
      · have e : pOne (pVal n) (rest T p) = (pItems (pVal n) ((rest T (p + 1)).length + 1) false (rest T (p + 1))).map fun x => (V.mk 4 0 ⟨#[]⟩ x.1, x.2) := by rw [rest_cons hlt]; simp only [pOne]; rw [if_neg h39, if_neg h116, if_neg h102, if_pos h91]
        rw [e]
        exact val_l T d hT w r p o k h hlt (by omega) hd8 h91 _ fun w h => list100 T n d (by omega) (ih (d + 1) (by omega)) hT w r p o k h hlt (UInt8.toNat_inj.1 h91) (by omega)
      by_cases h123 : T[p].toNat = 123
      · have e : pOne (pVal n) (rest T p) = (pPairs (pVal n) ((rest T (p + 1)).length + 1) false (rest T (p + 1))).map fun x => (V.mk 5 0 ⟨#[]⟩ x.1, x.2) := by rw [rest_cons hlt]; simp only [pOne]; rw [if_neg h39, if_neg h116, if_neg h102, if_neg h91, if_pos h123]
        rw [e]
        exact val_m T d hT w r p o k h hlt (by omega) hd8 h123 _ fun w h => pairs101o T n d (by omega) (ih (d + 1) (by omega)) hT w r p o k h hlt (UInt8.toNat_inj.1 h123) (by omega)
      by_cases h118 : T[p].toNat = 118
      · have e : pOne (pVal n) (rest T p) = (pId [118, 91] (rest T p)).map fun x => (V.mk 6 x.1 ⟨#[]⟩ [], x.2) := by rw [rest_cons hlt]; simp only [pOne]; rw [if_neg h39, if_neg h116, if_neg h102, if_neg h91, if_neg h123, if_pos h118]
        rw [e]
        exact val_v T d hT w r p o k h hlt (by omega) hd8 h118
      by_cases h101 : T[p].toNat = 101
      · have e : pOne (pVal n) (rest T p) = (pId [101, 91] (rest T p)).map fun x => (V.mk 7 x.1 ⟨#[]⟩ [], x.2) := by rw [rest_cons hlt]; simp only [pOne]; rw [if_neg h39, if_neg h116, if_neg h102, if_neg h91, if_neg h123, if_neg h118, if_pos h101]
        rw [e]
        exact val_e T d hT w r p o k h hlt (by omega) hd8 h101
      · have e : pOne (pVal n) (rest T p) = (pNum (rest T p)).map fun x => (V.mk 1 x.1 ⟨#[]⟩ [], x.2) := by rw [rest_cons hlt]; simp only [pOne]; rw [if_neg h39, if_neg h116, if_neg h102, if_neg h91, if_neg h123, if_neg h118, if_neg h101]
        rw [e]
        exact val_n T d hT w r p o k h hlt (by omega) hd8 ⟨h63, h39, h116, h102, h91, h123, h118, h101⟩
    · refine (val_end T d hT w r p o k h (by omega) (by omega)).mono ?_
      rintro e w' (⟨ho, hv⟩ | ⟨ho, hf⟩)
      · exact .inl ⟨vGreat, p, hp, hv, fun h => by rw [ho] at h; cases h⟩
      · exact .inr ⟨hf, fun _ => by rw [rest_nil (by omega)]; exact val_nil (n + 1)⟩

theorem assert85_yes (q : Int) (w : World) : (Instr.typeAssert (.iface 85 (.int .i64 q)) 20 85 true).run Tryz.prog w = .ok (.tuple #[.int .i64 q, .bool true]) w := by
  simp [Instr.typeAssert, run_underlying Tryz.underlying85]
set_option maxRecDepth 20000 in
set_option maxHeartbeats 1000000 in
/-- The deferred closure, where the reader gave up. -/
theorem read1_caught (ga gb gc : Nat) (q : Int) (older : List PanicEntry) (w : World) (a0 a1 a2 a3 vb vc : Value) (ta tb tc : TypeId) (ka : w.heap[ga]? = some (.cells #[a0, a1, a2, a3] ta)) (kb : w.heap[gb]? = some (.cells #[vb] tb)) (kc : w.heap[gc]? = some (.cells #[vc] tc)) (hab : ga ≠ gb) (hac : ga ≠ gc) (hbc : gb ≠ gc) :
    CallsD Tryz.prog 78 #[.pointer (some ⟨ga, 0, none⟩), .pointer (some ⟨gb, 0, none⟩), .pointer (some ⟨gc, 0, none⟩)] (.panicking ({ v := .iface 85 (.int .i64 q), recovered := false } :: older)) w fun e u' w' =>
      e = .returned (.tuple #[]) ∧ u' = .panicking ({ v := .iface 85 (.int .i64 q), recovered := true } :: older) ∧
      w' = ((put4 w ga 0 (.int .i64 0) (.int .i64 0) (.string ⟨#[]⟩) (.slice none 0 0)).setCell ⟨gb, 0, none⟩ (.int .i64 q)).setCell ⟨gc, 0, none⟩ (.bool false) := by
  obtain ⟨y0, y1, y2, y3, yf⟩ := four_of ka
  obtain ⟨b0, bf⟩ := one_of kb
  obtain ⟨d0, df⟩ := one_of kc
  refine callsD_of_wpS Tryz.func78 rfl fun c₀ cs hu => ?_
  apply wpS_seq
  apply wpS_region
  simp [wpOpsS, go_sem, recoverD, hu, Tryz.ntmps78, Exit.thenS, assert85_yes]
  apply wpS_seq
  apply wpS_region
  simp [wpOpsS, go_sem, Exit.thenS]
  refine wpS_cond (t := true) (by simp [Act.eval, Array.replicate]) ?_
  simp only [if_true]
  apply wpS_region
  simp [wpOpsS, go_sem, y0, y1, y2, y3, yf, b0, bf, d0, df, bodyPostS, results, Tryz.results78, put4]
/-- strconv.ErrRange holds an error. -/
def Ev (w : World) : Prop := ∃ tp p, w.var? Tryz.prog "strconv.ErrRange" = some #[.iface tp p]
theorem Ev.lt {w : World} (h : Ev w) : 5 < w.heap.size := Er.lt (r := 6) ⟨by omega, h⟩
theorem Ev.on {w w' : World} (h : Ev w) (hb : Below w.heap.size w w') : Ev w' := (Er.on (r := 6) ⟨by omega, h⟩ (hb.block 5 h.lt)).2
/-- What read comes to. -/
def Rr (T : ByteArray) (o : Bool) (w : World) (e : Ending) (w' : World) : Prop :=
  (∃ (v : V) (sl : Value), e = .returned (.tuple #[v.agg sl, .int .i64 0, .bool true]) ∧ v.In w' w.heap.size sl ∧ Below w.heap.size w w' ∧ Hid (o = false → pVal 8 (rest T 0) = some (v, []))) ∨
    (∃ q : Nat, q ≤ T.size ∧ e = .returned (.tuple #[.agg #[.int .i64 0, .int .i64 0, .string ⟨#[]⟩, .slice none 0 0], .int .i64 q, .bool false]) ∧ Below w.heap.size w w' ∧ Hid (o = false → ∀ v, pVal 8 (rest T 0) ≠ some (v, [])))

set_option maxHeartbeats 2000000 in
set_option maxRecDepth 20000 in
theorem read60o (T : ByteArray) (hT : T.size ≤ 1073741824) (o : Bool) (w : World) (hv : Ev w) :
    Calls Tryz.prog 60 #[.string T, .bool o] w (Rr T o w) := by
  have hmf : ∀ (fn : Fn) (first cap : Array Value) (w : World), (Instr.makeFunc fn first cap).run Tryz.prog w = .ok (.func fn first cap) w := fun _ _ _ _ => rfl
  obtain ⟨W4, hW4⟩ : ∃ W4, W4 = (((w.alloc (.cells #[.int .i64 0, .int .i64 0, .string ⟨#[]⟩, .slice none 0 0] 24)).alloc (.cells #[.int .i64 0] 3)).alloc (.cells #[.bool false] 4)).alloc (.cells #[.string T, .int .i64 0, .bool o, .int .i64 0] 89) := ⟨_, rfl⟩
  have hsz : W4.heap.size = w.heap.size + 1 + 1 + 1 + 1 := by rw [hW4]; simp
  have hb4 : Below w.heap.size w W4 := by rw [hW4]; exact ((bel2 w _ _).alloc (by simp; omega) _).alloc (by simp; omega) _
  have kA : W4.heap[w.heap.size]? = some (.cells #[.int .i64 0, .int .i64 0, .string ⟨#[]⟩, .slice none 0 0] 24) := by
    rw [hW4]; exact blk_old (blk_old (blk_old (blk_new w _)))
  have kB : W4.heap[w.heap.size + 1]? = some (.cells #[.int .i64 0] 3) := by
    have := blk_new (w.alloc (.cells #[.int .i64 0, .int .i64 0, .string ⟨#[]⟩, .slice none 0 0] 24)) (.cells #[.int .i64 0] 3)
    rw [World.size_alloc] at this
    rw [hW4]; exact blk_old (blk_old this)
  have kC : W4.heap[w.heap.size + 1 + 1]? = some (.cells #[.bool false] 4) := by
    have := blk_new ((w.alloc (.cells #[.int .i64 0, .int .i64 0, .string ⟨#[]⟩, .slice none 0 0] 24)).alloc (.cells #[.int .i64 0] 3)) (.cells #[.bool false] 4)
    rw [World.size_alloc, World.size_alloc] at this
    rw [hW4]; exact blk_old this
  have kR : Ro W4 (w.heap.size + 1 + 1 + 1) T 0 o 0 := by
    refine ⟨?_, by have := hv.lt; omega, hv.on hb4⟩
    have := blk_new (((w.alloc (.cells #[.int .i64 0, .int .i64 0, .string ⟨#[]⟩, .slice none 0 0] 24)).alloc (.cells #[.int .i64 0] 3)).alloc (.cells #[.bool false] 4)) (.cells #[.string T, .int .i64 0, .bool o, .int .i64 0] 89)
    rw [World.size_alloc, World.size_alloc, World.size_alloc] at this
    rw [hW4]; exact this
  have c79 := rv_all T hT 8 1 rfl W4 (w.heap.size + 1 + 1 + 1) 0 o 0 kR (Nat.zero_le _) (by omega)
  unfold Vl V.agg at c79
  have hv5 := hv.lt
  go_enter_defers Tryz.func60, Tryz.ntmps60
  go_wp2_with (first
    | (go_at_call 79; rw [← hW4]; refine c79.mono ?_; rintro e w2 (⟨v, p2, hp2, ⟨sl, rfl, hin2, hle2, hlt2, h2⟩, hs2⟩ | ⟨⟨q2, hq2, rfl, hg⟩, hs2⟩); (try (obtain ⟨pp2, n2, qq2, rfl⟩ := hin2.header; have k2 := (h2.1.block w.heap.size (by omega) (by intro e; injection e with e; omega)).trans kA; obtain ⟨y0, y1, y2, y3, yf⟩ := four_of k2; have hs2' := h2.1.size; have hg3 := gr_put4 w2 w.heap.size 0 (.int .i64 v.k) (.int .i64 v.n) (.string v.s) (.slice pp2 n2 qq2); have k3 := blk_put4 k2 (.int .i64 v.k) (.int .i64 v.n) (.string v.s) (.slice pp2 n2 qq2); have hR3 := h2.2.grown hg3 (by intro e; injection e with e; omega) (by intro e; injection e with e; omega); unfold put4 at hg3 k3 hR3))))
  case inr =>
    have j1 := (hg.block w.heap.size (by omega) (by intro e; injection e with e; omega)).trans kA
    have j2 := (hg.block (w.heap.size + 1) (by omega) (by intro e; injection e with e; omega)).trans kB
    have j3 := (hg.block (w.heap.size + 1 + 1) (by omega) (by intro e; injection e with e; omega)).trans kC
    refine leaves_cons (f := 78) (args := #[.pointer (some ⟨w.heap.size, 0, none⟩), .pointer (some ⟨w.heap.size + 1, 0, none⟩), .pointer (some ⟨w.heap.size + 1 + 1, 0, none⟩)]) (by simp) (by simp [go_sem]) ?_
    refine (read1_caught _ _ _ q2 [] _ _ _ _ _ _ _ _ _ _ j1 j2 j3 (by omega) (by omega) (by omega)).mono ?_
    rintro e u' w'' ⟨rfl, rfl, rfl⟩
    have hb2 := hb4.grown hg (by omega) (fun k e => by injection e with e; omega)
    have hfin := ((hb2.trans (below_put4 (g := w.heap.size) (i := 0) (Nat.le_refl _) (.int .i64 0) (.int .i64 0) (.string ⟨#[]⟩) (.slice none 0 0))).setCell (p := ⟨w.heap.size + 1, 0, none⟩) (by show w.heap.size ≤ w.heap.size + 1; omega) (.int .i64 q2)).setCell (p := ⟨w.heap.size + 1 + 1, 0, none⟩) (by show w.heap.size ≤ w.heap.size + 1 + 1; omega) (.bool false)
    obtain ⟨x0, x1, x2, x3, xf⟩ := four_of j1
    obtain ⟨b0, bf⟩ := one_of j2
    obtain ⟨d0, df⟩ := one_of j3
    have hs2' : Hid (o = false → ∀ v, pVal 8 (rest T 0) ≠ some (v, [])) := fun ho v => by rw [hs2.out ho]; intro e; cases e
    clear hs2 c79 hb2
    unfold put4 at hfin ⊢
    simp [Leaves, settle, results, Tryz.results60, go_sem, x0, x1, x2, x3, b0, d0]
    exact .inr ⟨q2, hq2, rfl, hfin, hs2'⟩
  by_cases hend : p2 = T.size
  · have hspec : Hid (o = false → pVal 8 (rest T 0) = some (v, [])) := fun ho => by rw [hs2.out ho, rest_nil hend]
    have hR3' := hR3
    rw [hend] at hR3'
    clear hs2 c79
    go_wp2_with (go_at_call 80; refine (ended80_yes _ _ T T.size o 0 hR3' rfl).mono ?_; rintro e w3 ⟨rfl, h3⟩; have hs3 := h3.1.size; have hs3' := hg3.size; have k4 := (h3.1.block w.heap.size (by omega) (by intro e; injection e with e; omega)).trans k3; obtain ⟨x0, x1, x2, x3, xf⟩ := four_of k4; have kB4 := (h3.1.block (w.heap.size + 1) (by omega) (by intro e; injection e with e; omega)).trans ((hg3.block (w.heap.size + 1) (by omega) (by intro e; injection e with e; omega)).trans ((h2.1.block (w.heap.size + 1) (by omega) (by intro e; injection e with e; omega)).trans kB)); obtain ⟨b0, bf⟩ := one_of kB4; have kC4 := (h3.1.block (w.heap.size + 1 + 1) (by omega) (by intro e; injection e with e; omega)).trans ((hg3.block (w.heap.size + 1 + 1) (by omega) (by intro e; injection e with e; omega)).trans ((h2.1.block (w.heap.size + 1 + 1) (by omega) (by intro e; injection e with e; omega)).trans kC)); obtain ⟨d0, df⟩ := one_of kC4)
    have hb2 := hb4.grown h2.1 (by omega) (fun k e => by injection e with e; omega)
    have hb3 := hb2.grown hg3 (by omega) (fun k e => by injection e with e; omega)
    have hb5 := hb3.grown h3.1 (by omega) (fun k e => by injection e with e; omega)
    have hfin := ((hb5.trans (below_put4 (g := w.heap.size) (i := 0) (Nat.le_refl _) (.int .i64 v.k) (.int .i64 v.n) (.string v.s) (.slice pp2 n2 qq2))).setCell (p := ⟨w.heap.size + 1, 0, none⟩) (by show w.heap.size ≤ w.heap.size + 1; omega) (.int .i64 0)).setCell (p := ⟨w.heap.size + 1 + 1, 0, none⟩) (by show w.heap.size ≤ w.heap.size + 1 + 1; omega) (.bool true)
    have hin3 := V.In.keep (lo := w.heap.size + 1 + 1 + 1 + 1) (lo' := w.heap.size + 1 + 1 + 1 + 1) (w' := put4 w2 w.heap.size 0 (.int .i64 v.k) (.int .i64 v.n) (.string v.s) (.slice pp2 n2 qq2)) (fun a u ha hc => set_other (set_other (set_other (set_other hc (.inl (by omega))) (.inl (by omega))) (.inl (by omega))) (.inl (by omega))) (Nat.le_refl _) v _ (by rw [← hsz]; exact hin2)
    have hin4 := V.In.keep h3.keep (Nat.le_refl _) v _ hin3
    have hin5 := V.In.keep (lo := w.heap.size + 1 + 1 + 1 + 1) (lo' := w.heap.size) (w' := ((put4 w3 w.heap.size 0 (.int .i64 v.k) (.int .i64 v.n) (.string v.s) (.slice pp2 n2 qq2)).setCell ⟨w.heap.size + 1, 0, none⟩ (.int .i64 0)).setCell ⟨w.heap.size + 1 + 1, 0, none⟩ (.bool true)) (fun a u ha hc => set_other (set_other (set_other (set_other (set_other (set_other hc (.inl (by omega))) (.inl (by omega))) (.inl (by omega))) (.inl (by omega))) (.inl (by omega))) (.inl (by omega))) (by omega) v _ hin4
    unfold put4 at hfin hin5
    clear hin3 hin4 hb2 hb3 hb5 hg3 k3 hR3 hR3' h3 hin2 h2 kA kB kC kR k2 k4 kB4 kC4
    refine leaves_cons (f := 78) (args := #[.pointer (some ⟨w.heap.size, 0, none⟩), .pointer (some ⟨w.heap.size + 1, 0, none⟩), .pointer (some ⟨w.heap.size + 1 + 1, 0, none⟩)]) (by simp) (by simp [go_sem]) ?_
    refine (read1_idle _ _ _ _).mono ?_
    rintro e u' w'' ⟨rfl, rfl, rfl⟩
    simp [Leaves, settle, results, Tryz.results60, go_sem, x0, x1, x2, x3, b0, d0]
    exact .inl ⟨v, _, rfl, hin5, hfin, hspec⟩
  · have hlt : p2 < T.size := by omega
    have hspec : Hid (o = false → ∀ v, pVal 8 (rest T 0) ≠ some (v, [])) := fun ho u => by
      rw [hs2.out ho, rest_cons hlt]; intro e; injection e with e; injection e with e1 e2; cases e2
    clear hs2 c79
    go_wp2_with (first
      | (go_at_call 80; refine (ended80_no _ _ T p2 o 0 hR3 hlt).mono ?_; rintro e w3 ⟨rfl, h3⟩)
      | (go_at_call 81; refine (giveUp81 _ _ T p2 o 0 h3.2 (by omega)).mono ?_; rintro e w5 ⟨q2, hq2, rfl, hg⟩))
    have hg5 := h3.1.trans hg
    have hs3 := hg5.size
    have hs3' := hg3.size
    have j1 := (hg5.block w.heap.size (by omega) (by intro e; injection e with e; omega)).trans k3
    have j2 := (hg5.block (w.heap.size + 1) (by omega) (by intro e; injection e with e; omega)).trans ((hg3.block (w.heap.size + 1) (by omega) (by intro e; injection e with e; omega)).trans ((h2.1.block (w.heap.size + 1) (by omega) (by intro e; injection e with e; omega)).trans kB))
    have j3 := (hg5.block (w.heap.size + 1 + 1) (by omega) (by intro e; injection e with e; omega)).trans ((hg3.block (w.heap.size + 1 + 1) (by omega) (by intro e; injection e with e; omega)).trans ((h2.1.block (w.heap.size + 1 + 1) (by omega) (by intro e; injection e with e; omega)).trans kC))
    refine leaves_cons (f := 78) (args := #[.pointer (some ⟨w.heap.size, 0, none⟩), .pointer (some ⟨w.heap.size + 1, 0, none⟩), .pointer (some ⟨w.heap.size + 1 + 1, 0, none⟩)]) (by simp) (by simp [go_sem]) ?_
    refine (read1_caught _ _ _ q2 [] _ _ _ _ _ _ _ _ _ _ j1 j2 j3 (by omega) (by omega) (by omega)).mono ?_
    rintro e u' w'' ⟨rfl, rfl, rfl⟩
    have hb2 := ((hb4.grown h2.1 (by omega) (fun k e => by injection e with e; omega)).grown hg3 (by omega) (fun k e => by injection e with e; omega)).grown hg5 (by omega) (fun k e => by injection e with e; omega)
    have hfin := ((hb2.trans (below_put4 (g := w.heap.size) (i := 0) (Nat.le_refl _) (.int .i64 0) (.int .i64 0) (.string ⟨#[]⟩) (.slice none 0 0))).setCell (p := ⟨w.heap.size + 1, 0, none⟩) (by show w.heap.size ≤ w.heap.size + 1; omega) (.int .i64 q2)).setCell (p := ⟨w.heap.size + 1 + 1, 0, none⟩) (by show w.heap.size ≤ w.heap.size + 1 + 1; omega) (.bool false)
    obtain ⟨x0, x1, x2, x3, xf⟩ := four_of j1
    obtain ⟨b0, bf⟩ := one_of j2
    obtain ⟨d0, df⟩ := one_of j3
    clear hb2 hg5 hg h3 hg3 k3 hR3 h2 hin2 kA kB kC kR k2
    unfold put4 at hfin ⊢
    simp [Leaves, settle, results, Tryz.results60, go_sem, x0, x1, x2, x3, b0, d0]
    exact .inr ⟨q2, hq2, rfl, hfin, hspec⟩
end Go.Proofs.YtbicodlclmdgaaaGreatDoor
