/-
  The document's reader of nodes, as plain functions: it reads what the program's reads. No walk.
-/
import Derived.Test.YtbkpgppaahpalaaRdm
namespace Go.Proofs.Ytbkpgppaahpalaa
set_option linter.unusedVariables false      -- a walk need not use every condition

/-- It is none: what is left stays. -/
def qBad (s : RS) : RS := (s.1, true)
def qNum (most : Nat) (s : RS) : Nat × RS := if s.2 then (0, s) else match tk s.1 with
  | some (u, k) => if u ≤ most then (u, (s.1.drop k, false)) else (0, qBad s)
  | none => (0, qBad s)
def qTake (n : Nat) (s : RS) : List UInt8 × RS := if s.2 || decide (s.1.length < n) then ([], qBad s) else (s.1.take n, (s.1.drop n, false))
def qBytes (s : RS) : List UInt8 × RS := qTake (qNum 448 s).1 (qNum 448 s).2
def qOne (s : RS) : Nat × RS := if (qTake 1 s).2.2 then (0, (qTake 1 s).2) else (((qTake 1 s).1.getD 0 0).toNat, (qTake 1 s).2)
def qVal (k : List UInt8) (s : RS) : C × RS :=
  if (qOne s).1 = 0 then (⟨k, (qBytes (qOne s).2).1, 0, 0⟩, (qBytes (qOne s).2).2)
  else if (qOne s).1 = 1 then (⟨k, [], ((qNum 2048 (qNum 1099511627776 (qOne s).2).2).1 : Nat), ((qNum 1099511627776 (qOne s).2).1 : Nat)⟩, if (qNum 2048 (qNum 1099511627776 (qOne s).2).2).1 = 0 then qBad (qNum 2048 (qNum 1099511627776 (qOne s).2).2).2 else (qNum 2048 (qNum 1099511627776 (qOne s).2).2).2)
  else (⟨k, [], 0, 0⟩, qBad (qOne s).2)
def qCell (s : RS) : C × RS := qVal (qBytes s).1 (qBytes s).2
def qKid (s : RS) : Int × RS := ((qNum 2048 s).1, (qNum 2048 s).2)
def qLeaf (s : RS) : Nd × RS := (⟨true, (rMany qCell (qNum 448 s).1 (qNum 448 s).2).1, [], []⟩, (rMany qCell (qNum 448 s).1 (qNum 448 s).2).2)
def qKeys (s : RS) : List (List UInt8) × RS := rMany qBytes (qNum 448 s).1 (qNum 448 s).2
def qInner (s : RS) : Nd × RS := (⟨false, [], (qKeys s).1, (rMany qKid ((qNum 448 s).1 + 1) (qKeys s).2).1⟩, (rMany qKid ((qNum 448 s).1 + 1) (qKeys s).2).2)
def qNode (s : RS) : Nd × RS := if (qOne s).1 = 1 then qLeaf (qOne s).2 else if (qOne s).1 = 2 then qInner (qOne s).2 else (nd0, qBad (qOne s).2)
def okQ (b : List UInt8) : Bool := decide (b.length ≤ 448) && !(qNode (b, false)).2.2 && decide ((qNode (b, false)).2.1.length = 0) && may (qNode (b, false)).1

theorem qNum_le (m : Nat) (s : RS) : (qNum m s).1 ≤ m := by
  unfold qNum
  split
  · simp
  · split
    · split
      · assumption
      · simp
    · simp
theorem qNum_back {m : Nat} (hm : m < 18446744073709551616) {s : RS} (h : (qNum m s).2.2 = false) : s.2 = false ∧ s.1 = vnt (qNum m s).1 ++ (qNum m s).2.1 := by
  unfold qNum at *
  by_cases hs : s.2 = true
  · rw [if_pos hs, hs] at h; cases h
  · rw [if_neg hs] at h ⊢
    cases hk : tk s.1 with
    | none => rw [hk] at h; cases h
    | some x =>
      obtain ⟨u, k⟩ := x
      rw [hk] at h
      simp only at h ⊢
      by_cases hu : u ≤ m
      · rw [if_pos hu] at h ⊢
        exact ⟨by simpa using hs, (tk_back hk).1⟩
      · rw [if_neg hu] at h; cases h
theorem qNum_there {m : Nat} (u : Nat) (hu : u ≤ m) (hm : m < 18446744073709551616) (r : List UInt8) : qNum m (vnt u ++ r, false) = (u, (r, false)) := by
  unfold qNum
  simp only
  rw [tk_there u (by omega) r]
  simp [hu]
theorem qTake_back {n : Nat} {s : RS} (h : (qTake n s).2.2 = false) : s.2 = false ∧ s.1 = (qTake n s).1 ++ (qTake n s).2.1 ∧ (qTake n s).1.length = n := by
  unfold qTake at *
  by_cases hs : (s.2 || decide (s.1.length < n)) = true
  · rw [if_pos hs] at h; cases h
  · rw [if_neg hs] at h ⊢
    simp only [Bool.or_eq_true, decide_eq_true_eq, not_or, Bool.not_eq_true] at hs
    refine ⟨hs.1, by simp, ?_⟩
    simp only [List.length_take]
    omega
theorem qTake_there (k r : List UInt8) : qTake k.length (k ++ r, false) = (k, (r, false)) := by
  unfold qTake
  rw [if_neg (by simp)]
  simp
theorem qBytes_back {s : RS} (h : (qBytes s).2.2 = false) : s.2 = false ∧ s.1 = keyF (qBytes s).1 ++ (qBytes s).2.1 := by
  obtain ⟨t1, t2, t3⟩ := qTake_back h
  obtain ⟨n1, n2⟩ := qNum_back (by omega) t1
  refine ⟨n1, ?_⟩
  have e : (qBytes s).1.length = (qNum 448 s).1 := t3
  have t2' : (qNum 448 s).2.1 = (qBytes s).1 ++ (qBytes s).2.1 := t2
  unfold keyF
  rw [e, List.append_assoc, ← t2']
  exact n2
theorem qBytes_there (k r : List UInt8) (hk : k.length ≤ 448) : qBytes (keyF k ++ r, false) = (k, (r, false)) := by
  unfold qBytes keyF
  rw [List.append_assoc, qNum_there _ hk (by omega)]
  exact qTake_there k r
theorem qOne_back {s : RS} (h : (qOne s).2.2 = false) : s.2 = false ∧ s.1 = UInt8.ofNat (qOne s).1 :: (qOne s).2.1 := by
  unfold qOne at *
  by_cases hs : (qTake 1 s).2.2 = true
  · rw [if_pos hs, hs] at h; cases h
  · rw [if_neg hs] at h ⊢
    obtain ⟨t1, t2, t3⟩ := qTake_back (by simpa using hs)
    refine ⟨t1, ?_⟩
    match hq : (qTake 1 s).1, t3 with
    | [c], _ =>
      rw [hq] at t2
      simp only [List.getD_cons_zero, UInt8.ofNat_toNat]
      exact t2
theorem qOne_lt (s : RS) : (qOne s).1 < 256 := by
  unfold qOne
  split
  · simp
  · exact UInt8.toNat_lt _
theorem qOne_there (c : UInt8) (r : List UInt8) : qOne (c :: r, false) = (c.toNat, (r, false)) := by
  unfold qOne
  have := qTake_there [c] r
  simp only [List.length_cons, List.length_nil, List.cons_append, List.nil_append] at this
  rw [this]
  simp
theorem qVal_back {s : RS} {k : List UInt8} (h : (qVal k s).2.2 = false) : s.2 = false ∧ s.1 = valF (qVal k s).1 ++ (qVal k s).2.1 := by
  unfold qVal at *
  by_cases h0 : (qOne s).1 = 0
  · rw [if_pos h0] at h ⊢
    obtain ⟨b1, b2⟩ := qBytes_back h
    obtain ⟨n1, n2⟩ := qOne_back b1
    refine ⟨n1, ?_⟩
    rw [n2, h0, b2]
    simp [valF]
  · rw [if_neg h0] at h ⊢
    by_cases h1 : (qOne s).1 = 1
    · rw [if_pos h1] at h ⊢
      simp only at h ⊢
      by_cases hz : (qNum 2048 (qNum 1099511627776 (qOne s).2).2).1 = 0
      · rw [if_pos hz] at h; cases h
      · rw [if_neg hz] at h ⊢
        obtain ⟨b1, b2⟩ := qNum_back (by omega) h
        obtain ⟨c1, c2⟩ := qNum_back (by omega) b1
        obtain ⟨n1, n2⟩ := qOne_back c1
        have l1 := qNum_le 1099511627776 (qOne s).2
        have l2 := qNum_le 2048 (qNum 1099511627776 (qOne s).2).2
        refine ⟨n1, ?_⟩
        unfold valF
        simp only
        rw [if_neg (by omega), nI_nat (by omega), nI_nat (by omega), n2, h1, c2, b2]
        simp
    · rw [if_neg h1] at h; cases h
theorem qCell_key (s : RS) : (qCell s).1.key = (qBytes s).1 := by
  unfold qCell qVal
  split
  · rfl
  · split <;> rfl
theorem qCell_back {s : RS} (h : (qCell s).2.2 = false) : s.2 = false ∧ s.1 = cellF (qCell s).1 ++ (qCell s).2.1 := by
  obtain ⟨v1, v2⟩ := qVal_back h
  obtain ⟨b1, b2⟩ := qBytes_back v1
  refine ⟨b1, ?_⟩
  have v2' : (qBytes s).2.1 = valF (qCell s).1 ++ (qCell s).2.1 := v2
  unfold cellF
  rw [qCell_key, List.append_assoc, ← v2']
  exact b2
theorem qVal_there (c : C) (hv : valOk c = true) (r : List UInt8) : qVal c.key (valF c ++ r, false) = (c, (r, false)) := by
  obtain ⟨ck, cv, co, cl⟩ := c
  unfold valOk at hv
  unfold valF
  by_cases ho : co = 0
  · subst ho
    simp only [if_true, Bool.and_eq_true, decide_eq_true_eq] at hv ⊢
    obtain ⟨h1, rfl⟩ := hv
    unfold qVal
    rw [List.cons_append, qOne_there, qBytes_there cv r (by omega)]
    rfl
  · simp only [ho, if_false, Bool.and_eq_true, decide_eq_true_eq] at hv ⊢
    obtain ⟨⟨⟨h1, h2⟩, h3⟩, h4⟩ := hv
    unfold pageOk at h1
    simp only [Bool.and_eq_true, decide_eq_true_eq] at h1
    obtain ⟨o, rfl⟩ := Int.eq_ofNat_of_zero_le (show 0 ≤ co by omega)
    obtain ⟨l, rfl⟩ := Int.eq_ofNat_of_zero_le (show 0 ≤ cl by omega)
    have hv0 : cv = [] := List.eq_nil_of_length_eq_zero h2
    subst hv0
    rw [nI_nat (by omega), nI_nat (by omega)]
    unfold qVal
    rw [List.cons_append, qOne_there, List.append_assoc]
    simp only [show (1 : UInt8).toNat = 1 by decide]
    rw [qNum_there l (by omega) (by omega)]
    simp only
    rw [qNum_there o (by omega) (by omega)]
    simp only [show ¬ (1 : Nat) = 0 by decide, if_false, if_true, show ¬ o = 0 by omega]
theorem qCell_there (c : C) (hk : c.key.length ≤ 96) (hv : valOk c = true) (r : List UInt8) : qCell (cellF c ++ r, false) = (c, (r, false)) := by
  unfold qCell cellF
  rw [List.append_assoc, qBytes_there _ _ (by omega)]
  exact qVal_there c hv r
theorem qKid_back {s : RS} (h : (qKid s).2.2 = false) : s.2 = false ∧ s.1 = nI (qKid s).1 ++ (qKid s).2.1 := by
  obtain ⟨h1, h2⟩ := qNum_back (m := 2048) (by omega) h
  have := qNum_le 2048 s
  refine ⟨h1, ?_⟩
  unfold qKid
  simp only
  rw [nI_nat (by omega)]
  exact h2
theorem qKid_there (x : Int) (hx : pageOk x = true) (r : List UInt8) : qKid (nI x ++ r, false) = (x, (r, false)) := by
  unfold pageOk at hx
  simp only [Bool.and_eq_true, decide_eq_true_eq] at hx
  obtain ⟨o, rfl⟩ := Int.eq_ofNat_of_zero_le (show 0 ≤ x by omega)
  unfold qKid
  rw [nI_nat (by omega), qNum_there _ (by omega) (by omega)]
theorem okQ_back {b : List UInt8} (h : okQ b = true) : form (qNode (b, false)).1 = b ∧ may (qNode (b, false)).1 = true ∧ b.length ≤ 448 := by
  unfold okQ at h
  simp only [Bool.and_eq_true, decide_eq_true_eq, Bool.not_eq_true'] at h
  obtain ⟨⟨⟨h1, h2⟩, h3⟩, h4⟩ := h
  refine ⟨?_, h4, h1⟩
  have h3' : (qNode (b, false)).2.1 = [] := List.eq_nil_of_length_eq_zero h3
  unfold qNode at h2 h3' ⊢
  by_cases hm : (qOne (b, false)).1 = 1
  · rw [if_pos hm] at h2 h3' ⊢
    obtain ⟨m1, m2, m3⟩ := rMany_back (f := qCell) (F := cellF) (fun s hs => qCell_back hs) _ _ h2
    obtain ⟨n1, n2⟩ := qNum_back (by omega) m1
    obtain ⟨k1, k2⟩ := qOne_back n1
    have h3'' : (rMany qCell (qNum 448 (qOne (b, false)).2).1 (qNum 448 (qOne (b, false)).2).2).2.1 = [] := h3'
    rw [h3'', List.append_nil] at m2
    rw [m2] at n2
    rw [n2, hm] at k2
    have k3 : b = _ := k2
    unfold form qLeaf
    simp only [if_true, m3]
    exact k3.symm
  · rw [if_neg hm] at h2 h3' ⊢
    by_cases hm2 : (qOne (b, false)).1 = 2
    · rw [if_pos hm2] at h2 h3' ⊢
      obtain ⟨a1, a2, a3⟩ := rMany_back (f := qKid) (F := nI) (fun s hs => qKid_back hs) _ _ h2
      obtain ⟨m1, m2, m3⟩ := rMany_back (f := qBytes) (F := keyF) (fun s hs => qBytes_back hs) _ _ a1
      obtain ⟨n1, n2⟩ := qNum_back (by omega) m1
      obtain ⟨k1, k2⟩ := qOne_back n1
      have h3'' : (rMany qKid ((qNum 448 (qOne (b, false)).2).1 + 1) (qKeys (qOne (b, false)).2).2).2.1 = [] := h3'
      rw [h3'', List.append_nil] at a2
      have m2' : (qNum 448 (qOne (b, false)).2).2.1 = (qKeys (qOne (b, false)).2).1.flatMap keyF ++ (qKeys (qOne (b, false)).2).2.1 := m2
      rw [a2] at m2'
      rw [m2'] at n2
      rw [n2, hm2] at k2
      have k3 : b = _ := k2
      have m3' : (qKeys (qOne (b, false)).2).1.length = (qNum 448 (qOne (b, false)).2).1 := m3
      unfold form qInner
      simp only [Bool.false_eq_true, if_false]
      rw [m3']
      exact k3.symm
    · rw [if_neg hm2] at h2; cases h2
theorem okQ_there {n : Nd} (hm : may n = true) (hl : (form n).length ≤ 448) : okQ (form n) = true ∧ (qNode (form n, false)).1 = n := by
  have key : qNode (form n, false) = (n, ([], false)) := by
    obtain ⟨leaf, cells, keys, kids⟩ := n
    cases leaf with
    | true =>
      unfold may leafOk at hm
      simp only [if_true, Bool.and_eq_true, List.isEmpty_iff] at hm
      obtain ⟨⟨h1, h2⟩, h3⟩ := hm
      subst h1 h2
      have hc : cells.length ≤ 448 := by
        unfold form at hl
        simp only [if_true, List.length_cons, List.length_append] at hl
        have : cells.length ≤ (cells.flatMap cellF).length := by
          clear hl h3
          induction cells with
          | nil => simp
          | cons c L ih =>
            rw [List.flatMap_cons, List.length_append, List.length_cons]
            have : 0 < (cellF c).length := by unfold cellF keyF; have := vnt_pos c.key.length; simp; omega
            omega
        omega
      unfold form
      simp only [if_true]
      have e : (vnt cells.length ++ cells.flatMap cellF) = (vnt cells.length ++ (cells.flatMap cellF ++ [])) := by simp
      rw [e]
      unfold qNode
      rw [qOne_there]
      simp only [show (1 : UInt8).toNat = 1 by decide, if_true]
      unfold qLeaf
      rw [qNum_there _ hc (by omega)]
      simp only
      rw [rMany_there cells [] (fun c hc r => qCell_there c (mayC_mem h3 c hc).1 (mayC_mem h3 c hc).2 r)]
    | false =>
      unfold may innerOk at hm
      simp only [Bool.false_eq_true, if_false, Bool.and_eq_true, List.isEmpty_iff, decide_eq_true_eq, List.all_eq_true] at hm
      obtain ⟨⟨⟨h1, h2⟩, h3⟩, h4⟩ := hm
      subst h1
      have hc : keys.length ≤ 448 := by
        unfold form at hl
        simp only [Bool.false_eq_true, if_false, List.length_cons, List.length_append] at hl
        have : keys.length ≤ (keys.flatMap keyF).length := by
          clear hl h3 h2
          induction keys with
          | nil => simp
          | cons c L ih =>
            rw [List.flatMap_cons, List.length_append, List.length_cons]
            have : 0 < (keyF c).length := by unfold keyF; have := vnt_pos c.length; simp; omega
            omega
        omega
      unfold form
      simp only [Bool.false_eq_true, if_false]
      have e : (vnt keys.length ++ (keys.flatMap keyF ++ kids.flatMap nI)) = (vnt keys.length ++ (keys.flatMap keyF ++ (kids.flatMap nI ++ []))) := by simp
      rw [e]
      unfold qNode
      rw [qOne_there]
      simp only [show (2 : UInt8).toNat = 2 by decide, show ¬ (2 : Nat) = 1 by decide, if_false, if_true]
      have hk : qKeys (vnt keys.length ++ (keys.flatMap keyF ++ (kids.flatMap nI ++ [])), false) = (keys, (kids.flatMap nI ++ [], false)) := by
        unfold qKeys
        rw [qNum_there _ hc (by omega)]
        simp only
        rw [rMany_there keys _ (fun c hc r => qBytes_there c r (by have := mayK_mem h3 c hc; omega))]
      unfold qInner
      rw [hk, qNum_there _ hc (by omega)]
      simp only
      rw [← h2, rMany_there kids [] (fun c hc r => qKid_there c (h4 c hc) r)]
  unfold okQ
  rw [key]
  simp [hl, hm]
/-- Both read the same. -/
theorem okQ_okP (b : List UInt8) : okQ b = okP b := by
  cases hp : okP b with
  | true =>
    obtain ⟨h1, h2, h3⟩ := okP_back hp
    have := (okQ_there h2 (by rw [h1]; exact h3)).1
    rwa [h1] at this
  | false =>
    cases hq : okQ b with
    | false => rfl
    | true =>
      obtain ⟨h1, h2, h3⟩ := okQ_back hq
      have := (okP_there h2 (by rw [h1]; exact h3)).1
      rw [h1, hp] at this
      cases this
theorem node_same {b : List UInt8} (h : okP b = true) : (qNode (b, false)).1 = (rNode (b, false)).1 := by
  obtain ⟨h1, h2, h3⟩ := okP_back h
  have := (okQ_there h2 (by rw [h1]; exact h3)).2
  rwa [h1] at this
end Go.Proofs.Ytbkpgppaahpalaa
