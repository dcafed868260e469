/-
  A write of one element's properties in a row that grew: no walk.
-/
import Derived.Test.YteknbploiombiaaZRcvRcpRcgRcs
import Derived.Test.YteknbploiombiaaZLoc
namespace Go.Proofs.Yteknbploiombiaa
open Go.RowKit
set_option linter.unusedVariables false
variable {α : Type}

theorem GrR.upd {E : Ep α} {t : TypeId} {w : World} {lo base : Nat} {l : List α} {v : Value} (h : GrR E.R t w lo base l v) (hlb : lo ≤ base) (i : Nat) (hi : i < l.length) :
    ∃ b cap hdr, v = .slice (some ⟨b, 0, none⟩) l.length cap ∧ base ≤ b ∧ b < w.heap.size ∧ l.length ≤ cap ∧ cap ≤ maxLen ∧ w.cell? ⟨b, i * E.R.n + (E.hd l[i]).length, none⟩ = some hdr ∧ (∀ j, w.frozen? ⟨b, j, none⟩ = false) ∧
      ∀ (W5 : World) h' ps', KeepB lo w W5 → Sq RP W5 (b + 1) ps' h' → Lq E.R (W5.setCell ⟨b, i * E.R.n + (E.hd l[i]).length, none⟩ h') lo (l.set i (E.S l[i] ps')) b 0 := by
  obtain ⟨xs, ho, he⟩ := h
  have hxl := ho.1
  have ho' := ho
  rcases ho.2 with ⟨rfl, h0⟩ | ⟨b, cap, cur, rfl, hb, hg, hc, hm, hs, ht⟩
  · omega
  obtain ⟨hdr, u0, hcs0, hin0, -⟩ := he i hi
  have hhd := E.hd_len l[i]
  have hlast : (E.R.cs l[i] hdr)[(E.hd l[i]).length]? = some hdr := by rw [E.cs_eq]; simp
  have hcellsW : ∀ j c, xs[j]? = some c → w.cell? ⟨b, j, none⟩ = some c := fun j c hj => by
    obtain ⟨g', hp', hcell⟩ := own_cells ho' rfl hj
    injection hp' with hp'
    injection hp' with hp'
    subst hp'
    exact hcell
  have hlt : i * E.R.n + (E.hd l[i]).length < l.length * E.R.n := by
    have : (i + 1) * E.R.n ≤ l.length * E.R.n := Nat.mul_le_mul_right _ hi
    rw [Nat.succ_mul] at this; omega
  have hcl : l.length * E.R.n ≤ cap * E.R.n := Nat.mul_le_mul_right _ hc
  refine ⟨b, cap, hdr, rfl, hb, (Array.getElem?_eq_some_iff.1 hg).1, hc, hm, hcellsW _ _ (hcs0 _ _ hlast), fun j => by simp [World.frozen?, hg], fun W5 h' ps' hk hq => ?_⟩
  have hR5 : Rowt W5 b t (cap * E.R.n) := ⟨cur, hk b _ (by omega) hg, hs⟩
  refine Lq.of_at fun j hj => ?_
  rw [List.length_set] at hj
  obtain ⟨sj, uj, hcsj, hinj, huj⟩ := he j hj
  by_cases e : j = i
  · subst e
    have hg' : (l.set j (E.S l[j] ps'))[j]'(by simpa using hj) = E.S l[j] ps' := by simp
    rw [hg']
    refine ⟨h', fun q c hq' => ?_, (E.in_iff _ _ _ _).2 ⟨E.B_S _ _ ((E.in_iff _ _ _ _).1 hinj).1, ?_⟩⟩
    · rw [E.cs_eq, E.hd_S] at hq'
      rw [Nat.zero_add]
      by_cases hqe : q = (E.hd l[j]).length
      · subst hqe
        rw [List.getElem?_append_right (Nat.le_refl _)] at hq'
        simp at hq'
        rw [← hq']
        exact hR5.get _ (by omega) h'
      · have hql := (List.getElem?_eq_some_iff.1 hq').1
        rw [List.length_append, List.length_singleton] at hql
        rw [List.getElem?_append_left (by omega)] at hq'
        have hcc : (E.R.cs l[j] sj)[q]? = some c := by rw [E.cs_eq, List.getElem?_append_left (by omega)]; exact hq'
        have := hk.keep _ _ (by show lo ≤ b; omega) (hcellsW _ _ (hcsj q c hcc))
        exact set_other this (.inr (by show j * E.R.n + q ≠ _; omega))
    · rw [E.P_S]
      exact hq.keep (lo := b + 1) (fun a c ha hc => set_other hc (.inl (by show a.block ≠ b; omega))) (by omega)
  · have hg' : (l.set i (E.S l[i] ps'))[j]'(by simpa using hj) = l[j] := by rw [List.getElem_set_ne (by omega)]
    rw [hg']
    refine ⟨sj, fun q c hq' => ?_, E.R.keep (lo := lo) (fun a c ha hc => set_other (hk.keep _ _ ha (huj a c hc).1) (.inl (fun e' => (huj a c hc).2 (by rw [e']; rfl)))) (Nat.le_refl _) _ _ hinj⟩
    have hql := (List.getElem?_eq_some_iff.1 hq').1
    rw [E.len] at hql
    rw [Nat.zero_add]
    refine set_other (hk.keep _ _ (by show lo ≤ b; omega) (hcellsW _ _ (hcsj q c hq'))) (.inr ?_)
    show j * E.R.n + q ≠ i * E.R.n + (E.hd l[i]).length
    intro e2
    rcases Nat.lt_or_gt_of_ne e with h1 | h1
    · have : (j + 1) * E.R.n ≤ i * E.R.n := Nat.mul_le_mul_right _ h1
      rw [Nat.succ_mul] at this; omega
    · have : (i + 1) * E.R.n ≤ j * E.R.n := Nat.mul_le_mul_right _ h1
      rw [Nat.succ_mul] at this; omega
/-- One vertex's properties anew. -/
theorem gw_v {g : Gg} {w : World} {lo : Nat} {s1 s2 : Value} (h : GwGr g w lo s1 s2) (h64 : I64 g.last) (hbv : g.vs.length * 48 ≤ 140737488351232) (hbe : g.es.length * 64 ≤ 140737488351232) (i : Nat) (hi : i < g.vs.length) :
    ∃ b cap hdr, s1 = .slice (some ⟨b, 0, none⟩) g.vs.length cap ∧ lo ≤ b ∧ b < w.heap.size ∧ g.vs.length ≤ cap ∧ cap ≤ maxLen ∧ w.cell? ⟨b, i * 3 + 2, none⟩ = some hdr ∧ w.frozen? ⟨b, i * 3 + 2, none⟩ = false ∧
      ∀ (W5 : World) h' ps', KeepB lo w W5 → Sq RP W5 w.heap.size ps' h' → Gg.In (W5.setCell ⟨b, i * 3 + 2, none⟩ h') lo { g with vs := g.vs.set i { g.vs[i] with ps := ps' } } s1 s2 := by
  obtain ⟨wv, hlw, hkv, hsz, hV, hE⟩ := h
  obtain ⟨b, cap, hdr, rfl, hb, hbl, hc, hm, hcell, hfz, hup⟩ := GrR.upd (E := EV) hV (Nat.le_refl _) i hi
  have hblW : b < w.heap.size := by omega
  obtain ⟨o, ho⟩ : ∃ o, wv.heap[b]? = some o := ⟨_, Array.getElem?_eq_getElem hbl⟩
  refine ⟨b, cap, hdr, rfl, hb, hblW, hc, hm, hkv.keep _ _ hb hcell, ?_, fun W5 h' ps' hk hq => ⟨h64, ?_, ?_⟩⟩
  · have h1 := hfz (i * 3 + 2)
    have h2 := hkv b o hb ho
    simp only [World.frozen?, ho] at h1
    simp only [World.frozen?, h2]
    exact h1
  · refine ⟨_, cap, by rw [List.length_set], by rw [List.length_set]; exact hc, hm, by rw [List.length_set]; exact hbv, .inr ⟨b, 0, rfl, hb, ?_⟩⟩
    exact hup W5 h' ps' (hkv.trans hk) (hq.low (by omega))
  · have hES := hE.sq (Nat.le_refl _) hbe
    have hlo : lo ≤ wv.heap.size := by omega
    exact hES.keep (lo := wv.heap.size) (fun a c ha hc => set_other (hk.keep a c (by omega) hc) (.inl (by show a.block ≠ b; omega))) hlo
/-- One edge's properties anew. -/
theorem gw_e {g : Gg} {w : World} {lo : Nat} {s1 s2 : Value} (h : GwGr g w lo s1 s2) (h64 : I64 g.last) (hbv : g.vs.length * 48 ≤ 140737488351232) (hbe : g.es.length * 64 ≤ 140737488351232) (i : Nat) (hi : i < g.es.length) :
    ∃ b cap hdr, s2 = .slice (some ⟨b, 0, none⟩) g.es.length cap ∧ lo ≤ b ∧ b < w.heap.size ∧ g.es.length ≤ cap ∧ cap ≤ maxLen ∧ w.cell? ⟨b, i * 5 + 4, none⟩ = some hdr ∧ w.frozen? ⟨b, i * 5 + 4, none⟩ = false ∧
      ∀ (W5 : World) h' ps', KeepB lo w W5 → Sq RP W5 w.heap.size ps' h' → Gg.In (W5.setCell ⟨b, i * 5 + 4, none⟩ h') lo { g with es := g.es.set i { g.es[i] with ps := ps' } } s1 s2 := by
  obtain ⟨wv, hlw, hkv, hsz, hV, hE⟩ := h
  obtain ⟨b, cap, hdr, rfl, hb, hbl, hc, hm, hcell, hfz, hup⟩ := GrR.upd (E := ELk) hE (Nat.le_refl _) i hi
  refine ⟨b, cap, hdr, rfl, by omega, hbl, hc, hm, hcell, hfz _, fun W5 h' ps' hk hq => ⟨h64, ?_, ?_⟩⟩
  · have hVS := hV.sq (Nat.le_refl _) hbv
    have hVl : Sq RV (W5.setCell ⟨b, i * 5 + 4, none⟩ h') lo g.vs s1 := hVS.keep (lo := lo) (fun a c ha hc => by
      have hl := cell_lt hc
      exact set_other (hk.keep a c ha (hkv.keep a c ha hc)) (.inl (by show a.block ≠ b; omega))) (Nat.le_refl _)
    exact hVl
  · refine ⟨_, cap, by rw [List.length_set], by rw [List.length_set]; exact hc, hm, by rw [List.length_set]; exact hbe, .inr ⟨b, 0, rfl, by omega, ?_⟩⟩
    exact (hup W5 h' ps' (hk.mono hlw) (hq.low (by omega))).low hlw
end Go.Proofs.Yteknbploiombiaa
