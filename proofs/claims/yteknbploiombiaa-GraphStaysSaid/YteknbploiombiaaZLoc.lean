/-
  Where an element's properties stand in a graph of one's own, and what a write there leaves: no walk.
-/
import Derived.Test.YteknbploiombiaaZSepClsCgs
import Derived.Test.YteknbploiombiaaZPsm
import Derived.Test.YteknbploiombiaaZGroGrw
namespace Go.Proofs.Yteknbploiombiaa
open Go.RowKit
set_option linter.unusedVariables false
variable {α : Type}

theorem below_cells {w w' : World} (h : Below w.heap.size w w') : ∀ (a : Addr) v, w.cell? a = some v → w'.cell? a = some v := fun a v hc => some_on h hc
/-- The values of a property written anew. -/
def pvL (v : V) (sl : Value) : List Value := [.int .i64 v.k, .int .i64 v.n, .string v.s, sl]
theorem row_put {u W5 : World} {bb at' N : Nat} {ps : List Pr} {v : V} {sl : Value} {lo : Nat} (hl : Lq RP u (bb + 1) ps bb 0) (hR : Rowt W5 bb 84 (ps.length * 5)) (hk : ∀ (a : Addr) c, bb ≤ a.block → u.cell? a = some c → W5.cell? a = some c) (hat : at' < ps.length) (hv : v.In W5 (bb + 1) sl) (hlo : lo ≤ bb + 1) :
    Lq RP (putL W5 bb (at' * 5 + 1) (pvL v sl)) lo (ps.set at' ⟨ps[at'].nm, v⟩) bb 0 := by
  refine Lq.of_at fun j hj => ?_
  rw [List.length_set] at hj
  obtain ⟨sj, haj, hvj⟩ := hl.at j hj
  have hin : ∀ {y : V} {sl : Value}, y.In W5 (bb + 1) sl → y.In (putL W5 bb (at' * 5 + 1) (pvL v sl)) lo sl := fun {y sl} h =>
    V.In.keep (lo := bb + 1) (fun a c ha hc => putL_other hc (.inl (by omega))) hlo y sl h
  by_cases e : j = at'
  · subst e
    have hg : (ps.set j ⟨ps[j].nm, v⟩)[j]'(by simpa using hj) = ⟨ps[j].nm, v⟩ := by simp
    rw [hg]
    refine ⟨sl, fun i c hi => ?_, ?_⟩
    · have h5 : Ats (putL W5 bb (j * 5 + 1) (pvL v sl)) bb (j * 5 + 1) (pvL v sl) := putL_ats hR (by show j * 5 + 1 + 4 ≤ _; omega)
      rw [Nat.zero_add]
      cases i with
      | zero =>
        have h0 := haj 0 (.string ps[j].nm) rfl
        rw [Nat.zero_add] at h0
        have h1 := hk _ _ (by show bb ≤ bb; omega) h0
        have h2 := putL_other (l := pvL v sl) (i := j * 5 + 1) (g := bb) h1 (.inr (.inl (by show j * 5 + 0 < j * 5 + 1; omega)))
        simp [RP] at hi
        rw [← hi]
        exact h2
      | succ i =>
        have hi' : (pvL v sl)[i]? = some c := by simpa [RP, pvL] using hi
        have := h5 i c hi'
        rwa [show j * 5 + 1 + i = j * 5 + (i + 1) by omega] at this
    · exact ⟨hvj.1, V.In.keep (lo := bb + 1) (fun a c ha hc => putL_other hc (.inl (by omega))) hlo _ _ hv⟩
  · have hg : (ps.set at' ⟨ps[at'].nm, v⟩)[j]'(by simpa using hj) = ps[j] := by
      rw [List.getElem_set_ne (by omega)]
    rw [hg]
    refine ⟨sj, fun i c hi => ?_, hvj.1, V.In.keep (lo := bb + 1) (fun a c ha hc => putL_other (hk a c (by omega) hc) (.inl (by omega))) hlo _ _ hvj.2⟩
    have hil := (List.getElem?_eq_some_iff.1 hi).1
    rw [len_RP] at hil
    have hil : i < 5 := hil
    have h1 := hk _ _ (by show bb ≤ bb; omega) (haj i c hi)
    refine putL_other h1 (.inr ?_)
    show 0 + j * 5 + i < at' * 5 + 1 ∨ at' * 5 + 1 + 4 ≤ 0 + j * 5 + i
    omega
/-- An element's properties in a row: where they stand, and what a write leaves. -/
theorem SpR.loc {E : Ep α} {t : TypeId} {W : World} {lo : Nat} {l : List α} {sl : Value} (h : SpR E t W lo l sl) (i : Nat) (hi : i < l.length) :
    ∃ b hdr, sl = .slice (some ⟨b, 0, none⟩) l.length l.length ∧ lo ≤ b ∧ b < W.heap.size ∧ W.cell? ⟨b, i * E.R.n + (E.hd l[i]).length, none⟩ = some hdr ∧ W.frozen? ⟨b, i * E.R.n + (E.hd l[i]).length, none⟩ = false ∧
      OwR RP 84 W (b + 1) (E.P l[i]) hdr ∧ l.length * E.R.bytes ≤ 140737488351232 ∧ l.length ≤ maxLen ∧
      (∀ W5 h' ps', Below W.heap.size W W5 → Sq RP W5 (b + 1) ps' h' → Lq E.R (W5.setCell ⟨b, i * E.R.n + (E.hd l[i]).length, none⟩ h') lo (l.set i (E.S l[i] ps')) b 0) ∧
      (∀ bb m m', hdr = .slice (some ⟨bb, 0, none⟩) m m' → b < bb ∧ bb < W.heap.size ∧ Rowt W bb 84 ((E.P l[i]).length * 5) ∧ ∀ W5 at' (hat : at' < (E.P l[i]).length) v sv, Below W.heap.size W W5 → v.In W5 W.heap.size sv →
        Lq E.R (putL W5 bb (at' * 5 + 1) (pvL v sv)) lo (l.set i (E.S l[i] ((E.P l[i]).set at' ⟨(E.P l[i])[at'].nm, v⟩))) b 0) := by
  rcases h with ⟨rfl, _⟩ | ⟨b, hi2, hb, rfl, h0, hby, hm, hR, hS⟩
  · exact absurd hi (by simp)
  have hO := hS.lq (w' := W) (lo0 := b + 1) (Nat.le_refl _) (fun _ _ _ h => h) (fun _ _ _ h => h)
  obtain ⟨hdr, u, a, k1, k2, k3, k4, k5, k6, k7⟩ := hS.upd i hi
  have hhd := E.hd_len l[i]
  have hlast : (E.R.cs l[i] hdr)[(E.hd l[i]).length]? = some hdr := by rw [E.cs_eq]; simp
  have hcell := k4 _ _ hlast
  rw [Nat.zero_add] at hcell
  have hlt : i * E.R.n + (E.hd l[i]).length < l.length * E.R.n := by
    have : (i + 1) * E.R.n ≤ l.length * E.R.n := Nat.mul_le_mul_right _ hi
    rw [Nat.succ_mul] at this; omega
  have hpW : OwR RP 84 W (b + 1) (E.P l[i]) hdr := k6.keep k3 (by omega)
  refine ⟨b, hdr, rfl, hb, hR.lt, hcell, hR.frozen _, hpW, hby, hm, fun W5 h' ps' hB hq => ?_, fun bb m m' he => ?_⟩
  · -- a header
    have hR5 := hR.on hB
    refine Lq.of_at fun j hj => ?_
    rw [List.length_set] at hj
    obtain ⟨sj, haj, hvj⟩ := hO.at j hj
    by_cases e : j = i
    · subst e
      have hg : (l.set j (E.S l[j] ps'))[j]'(by simpa using hj) = E.S l[j] ps' := by simp
      rw [hg]
      refine ⟨h', fun q c hq' => ?_, (E.in_iff _ _ _ _).2 ⟨E.B_S _ _ k5, ?_⟩⟩
      · rw [E.cs_eq, E.hd_S] at hq'
        rw [Nat.zero_add]
        by_cases hqe : q = (E.hd l[j]).length
        · subst hqe
          rw [List.getElem?_append_right (Nat.le_refl _)] at hq'
          simp at hq'
          rw [← hq']
          exact hR5.get _ hlt h'
        · have hql := (List.getElem?_eq_some_iff.1 hq').1
          rw [List.length_append, List.length_singleton] at hql
          rw [List.getElem?_append_left (by omega)] at hq'
          have hc : (E.R.cs l[j] sj)[q]? = some c := by rw [E.cs_eq, List.getElem?_append_left (by omega)]; exact hq'
          have := some_on hB (haj q c hc)
          rw [Nat.zero_add] at this
          exact set_other this (.inr (by show j * E.R.n + q ≠ _; omega))
      · rw [E.P_S]
        exact hq.keep (lo := b + 1) (fun a c ha hc => set_other hc (.inl (by show a.block ≠ b; omega))) (by omega)
    · have hg : (l.set i (E.S l[i] ps'))[j]'(by simpa using hj) = l[j] := by rw [List.getElem_set_ne (by omega)]
      rw [hg]
      refine ⟨sj, fun q c hq' => ?_, E.R.keep (lo := b + 1) (fun a c ha hc => set_other (some_on hB hc) (.inl (by show a.block ≠ b; omega))) (by omega) _ _ hvj⟩
      have hql := (List.getElem?_eq_some_iff.1 hq').1
      rw [E.len] at hql
      refine set_other (some_on hB (haj q c hq')) (.inr ?_)
      show 0 + j * E.R.n + q ≠ i * E.R.n + (E.hd l[i]).length
      intro e2
      rcases Nat.lt_or_gt_of_ne e with h1 | h1
      · have : (j + 1) * E.R.n ≤ i * E.R.n := Nat.mul_le_mul_right _ h1
        rw [Nat.succ_mul] at this; omega
      · have : (i + 1) * E.R.n ≤ j * E.R.n := Nat.mul_le_mul_right _ h1
        rw [Nat.succ_mul] at this; omega
  · -- a value
    subst he
    have k6' := k6
    rcases k6 with ⟨_, e⟩ | ⟨g6, hg6, e, h06, hb6, hm6, hr6, hl6⟩
    · cases e
    injection e with e1 e2 e3
    injection e1 with e1
    injection e1 with e1
    subst e1
    have hrW := hr6.keepB k3 hg6
    refine ⟨by omega, hrW.lt, hrW, fun W5 at' hat v sv hB hv => ?_⟩
    have hr5 := hrW.on hB
    have hbu := hr6.lt
    have hbw := hrW.lt
    refine k7 (putL W5 bb (at' * 5 + 1) (pvL v sv)) lo (E.S l[i] ((E.P l[i]).set at' ⟨(E.P l[i])[at'].nm, v⟩)) (.slice (some ⟨bb, 0, none⟩) m m') (by omega) ?_ ?_ ?_ ?_
    · intro c x hc1 hc2 hx
      exact putL_other (some_on hB hx) (.inl (by omega))
    · intro j c _ _ hx
      exact putL_other (some_on hB hx) (.inl (by show b ≠ bb; omega))
    · intro j c hj
      rw [E.cs_eq, E.hd_S, ← E.cs_eq] at hj
      exact putL_other (some_on hB (k4 j c hj)) (.inl (by show b ≠ bb; omega))
    · refine (E.in_iff _ _ _ _).2 ⟨E.B_S _ _ k5, ?_⟩
      rw [E.P_S]
      refine ⟨_, (E.P l[i]).length, by rw [List.length_set, e2, e3], by rw [List.length_set]; exact Nat.le_refl _, hm6, by rw [List.length_set]; exact hb6, .inr ⟨bb, 0, rfl, by omega, ?_⟩⟩
      refine row_put (N := 0) hl6 hr5 (fun c x hc hx => some_on hB (k3.keep c x (by omega) hx)) hat (hv.low (by omega)) (by omega)
/-- An element's properties in a graph. -/
def LocG (W : World) (lo : Nat) (Ab Ao : Nat) (ps : List Pr) (G : List Pr → Gg) (sv se : Value) : Prop :=
  ∃ hdr, lo ≤ Ab ∧ Ab < W.heap.size ∧ W.cell? ⟨Ab, Ao, none⟩ = some hdr ∧ W.frozen? ⟨Ab, Ao, none⟩ = false ∧ OwR RP 84 W (Ab + 1) ps hdr ∧
    (∀ W5 h' ps', Below W.heap.size W W5 → Sq RP W5 (Ab + 1) ps' h' → Gg.In (W5.setCell ⟨Ab, Ao, none⟩ h') lo (G ps') sv se) ∧
    (∀ bb m m', hdr = .slice (some ⟨bb, 0, none⟩) m m' → Ab < bb ∧ Rowt W bb 84 (ps.length * 5) ∧ ∀ W5 at' (hat : at' < ps.length) v s, Below W.heap.size W W5 → v.In W5 W.heap.size s →
      Gg.In (putL W5 bb (at' * 5 + 1) (pvL v s)) lo (G (ps.set at' ⟨ps[at'].nm, v⟩)) sv se)
theorem loc_v {g : Gg} {W : World} {lo : Nat} {sv se : Value} (h : SpGr g W lo sv se) (i : Nat) (hi : i < g.vs.length) :
    ∃ b, sv = .slice (some ⟨b, 0, none⟩) g.vs.length g.vs.length ∧ LocG W lo b (i * 3 + 2) g.vs[i].ps (fun ps => { g with vs := g.vs.set i { g.vs[i] with ps := ps } }) sv se := by
  obtain ⟨h0, lo0, u, h1, h2, h3, h4, h5⟩ := h
  have h3W := h3.keep h4 (Nat.le_refl _)
  obtain ⟨b, hdr, rfl, k1, k2, k3, k4, k5, k6, k6', k7, k8⟩ := h3W.loc i hi
  obtain ⟨b', hdr', e, -, j2, j3, -, j5, -, -, -, j8⟩ := h3.loc i hi
  injection e with e1
  injection e1 with e1
  injection e1 with e1
  subst e1
  have ehd : hdr' = hdr := by
    have := h4.keep _ _ (by show lo0 ≤ b; exact k1) j3
    rw [k3] at this
    injection this with this
    exact this.symm
  subst ehd
  refine ⟨b, rfl, hdr', by omega, k2, k3, k4, k5, fun W5 h' ps' hB hq => ⟨h0, ?_, ?_⟩, fun bb m m' he => ?_⟩
  · have hL := k7 W5 h' ps' hB hq
    refine ⟨_, g.vs.length, by rw [List.length_set], by rw [List.length_set]; exact Nat.le_refl _, k6', by rw [List.length_set]; exact k6, .inr ⟨b, 0, rfl, by omega, hL.low h1⟩⟩
  · exact h5.ow.sq.keep (lo := u.heap.size) (fun a c ha hc => set_other (some_on hB hc) (.inl (by show a.block ≠ b; omega))) (by omega)
  · obtain ⟨m1, -, m3, m4⟩ := k8 bb m m' he
    obtain ⟨-, m2', -, -⟩ := j8 bb m m' he
    refine ⟨m1, m3, fun W5 at' hat v s hB hv => ⟨h0, ?_, ?_⟩⟩
    · have hL := m4 W5 at' hat v s hB hv
      refine ⟨_, g.vs.length, by rw [List.length_set], by rw [List.length_set]; exact Nat.le_refl _, k6', by rw [List.length_set]; exact k6, .inr ⟨b, 0, rfl, by omega, hL.low h1⟩⟩
    · exact h5.ow.sq.keep (lo := u.heap.size) (fun a c ha hc => putL_other (some_on hB hc) (.inl (by omega))) (by omega)
theorem loc_e {g : Gg} {W : World} {lo : Nat} {sv se : Value} (h : SpGr g W lo sv se) (i : Nat) (hi : i < g.es.length) :
    ∃ b, se = .slice (some ⟨b, 0, none⟩) g.es.length g.es.length ∧ LocG W lo b (i * 5 + 4) g.es[i].ps (fun ps => { g with es := g.es.set i { g.es[i] with ps := ps } }) sv se := by
  obtain ⟨h0, lo0, u, h1, h2, h3, h4, h5⟩ := h
  obtain ⟨b, hdr, rfl, k1, k2, k3, k4, k5, k6, k6', k7, k8⟩ := h5.loc i hi
  refine ⟨b, rfl, hdr, by omega, k2, k3, k4, k5, fun W5 h' ps' hB hq => ⟨h0, ?_, ?_⟩, fun bb m m' he => ?_⟩
  · exact h3.ow.sq.keep (lo := lo0) (fun a c ha hc => by
      have := cell_lt hc
      exact set_other (some_on hB (h4.keep a c ha hc)) (.inl (by show a.block ≠ b; omega))) (by omega)
  · have hL := k7 W5 h' ps' hB hq
    refine ⟨_, g.es.length, by rw [List.length_set], by rw [List.length_set]; exact Nat.le_refl _, k6', by rw [List.length_set]; exact k6, .inr ⟨b, 0, rfl, by omega, hL.low (by omega)⟩⟩
  · obtain ⟨m1, -, m3, m4⟩ := k8 bb m m' he
    refine ⟨m1, m3, fun W5 at' hat v s hB hv => ⟨h0, ?_, ?_⟩⟩
    · exact h3.ow.sq.keep (lo := lo0) (fun a c ha hc => by
        have := cell_lt hc
        exact putL_other (some_on hB (h4.keep a c ha hc)) (.inl (by omega))) (by omega)
    · have hL := m4 W5 at' hat v s hB hv
      refine ⟨_, g.es.length, by rw [List.length_set], by rw [List.length_set]; exact Nat.le_refl _, k6', by rw [List.length_set]; exact k6, .inr ⟨b, 0, rfl, by omega, hL.low (by omega)⟩⟩
end Go.Proofs.Yteknbploiombiaa
