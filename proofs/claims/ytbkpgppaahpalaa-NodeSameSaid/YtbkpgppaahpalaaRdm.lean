/-
  What the reader of package node comes to, on bytes; there and back. No walk.
-/
import Derived.Test.YtbkpgppaahpalaaSiz
namespace Go.Proofs.Ytbkpgppaahpalaa
open Go.RowKit

/-- What is left, and whether it has failed. -/
abbrev RS := List UInt8 × Bool
def bad : RS := ([], true)
def rNum (s : RS) : Nat × RS := match tk s.1 with
  | some (u, k) => if u ≤ 1099511627776 then (u, (s.1.drop k, s.2)) else (0, bad)
  | none => (0, bad)
def rBytes (s : RS) : List UInt8 × RS := if (rNum s).2.1.length < (rNum s).1 then ([], bad) else ((rNum s).2.1.take (rNum s).1, ((rNum s).2.1.drop (rNum s).1, (rNum s).2.2))
def rVal (k : List UInt8) (s : RS) : C × RS :=
  if (rNum s).1 = 0 then (⟨k, (rBytes (rNum s).2).1, 0, 0⟩, (rBytes (rNum s).2).2)
  else if (rNum s).1 = 1 then (⟨k, [], ((rNum (rNum (rNum s).2).2).1 : Nat), ((rNum (rNum s).2).1 : Nat)⟩, if (rNum (rNum (rNum s).2).2).1 = 0 then bad else (rNum (rNum (rNum s).2).2).2)
  else (⟨k, [], 0, 0⟩, bad)
def rCell (s : RS) : C × RS := rVal (rBytes s).1 (rBytes s).2
/-- As long as it has not failed, so often. -/
def rMany {α : Type} (f : RS → α × RS) : Nat → RS → List α × RS
  | 0, s => ([], s)
  | n + 1, s => if s.2 then ([], s) else ((f s).1 :: (rMany f n (f s).2).1, (rMany f n (f s).2).2)
/-- So often. -/
def rAll {α : Type} (f : RS → α × RS) : Nat → RS → List α × RS
  | 0, s => ([], s)
  | n + 1, s => ((f s).1 :: (rAll f n (f s).2).1, (rAll f n (f s).2).2)
def rKid (s : RS) : Int × RS := ((rNum s).1, (rNum s).2)
def rLeaf (s : RS) : Nd × RS := (⟨true, (rMany rCell (rNum s).1 (rNum s).2).1, [], []⟩, (rMany rCell (rNum s).1 (rNum s).2).2)
def rKeys (s : RS) : List (List UInt8) × RS := rMany rBytes (rNum s).1 (rNum s).2
def rInner (s : RS) : Nd × RS := (⟨false, [], (rKeys s).1, (rAll rKid ((rKeys s).1.length + 1) (rKeys s).2).1⟩, (rAll rKid ((rKeys s).1.length + 1) (rKeys s).2).2)
def nd0 : Nd := ⟨false, [], [], []⟩
def rNode (s : RS) : Nd × RS := if (rNum s).1 = 1 then rLeaf (rNum s).2 else if (rNum s).1 = 2 then rInner (rNum s).2 else (nd0, bad)
def okP (b : List UInt8) : Bool := decide (b.length ≤ 448) && !(rNode (b, false)).2.2 && decide ((rNode (b, false)).2.1.length = 0) && may (rNode (b, false)).1

/-! ### Once it has failed it has failed -/

def Ok (s : RS) : Prop := s.2 = true → s.1 = []
theorem ok_bad : Ok bad := fun _ => rfl
theorem tk_nil : tk [] = none := by decide
theorem rNum_ok {s : RS} (h : Ok s) : Ok (rNum s).2 := by
  unfold rNum
  split
  · split
    · intro h2
      have := h h2
      show s.1.drop _ = []
      rw [this]; simp
    · exact ok_bad
  · exact ok_bad
theorem rNum_bad {s : RS} (h : Ok s) (hf : s.2 = true) : rNum s = (0, bad) := by
  unfold rNum
  rw [h hf, tk_nil]
theorem rNum_le (s : RS) : (rNum s).1 ≤ 1099511627776 := by
  unfold rNum
  split
  · split
    · assumption
    · simp
  · simp
/-- A number that was read stood there. -/
theorem rNum_back {s : RS} (h : (rNum s).2.2 = false) : s.2 = false ∧ s.1 = vnt (rNum s).1 ++ (rNum s).2.1 := by
  unfold rNum at *
  cases hk : tk s.1 with
  | none => rw [hk] at h; cases h
  | some x =>
    obtain ⟨u, k⟩ := x
    rw [hk] at h
    simp only at h ⊢
    by_cases hu : u ≤ 1099511627776
    · rw [if_pos hu] at h
      simp only [hu, if_true]
      exact ⟨h, (tk_back hk).1⟩
    · rw [if_neg hu] at h; cases h
theorem rNum_there (u : Nat) (hu : u ≤ 1099511627776) (r : List UInt8) (f : Bool) : rNum (vnt u ++ r, f) = (u, (r, f)) := by
  unfold rNum
  simp only
  rw [tk_there u (by omega) r]
  simp [hu]
theorem rBytes_ok {s : RS} (h : Ok s) : Ok (rBytes s).2 := by
  unfold rBytes
  split
  · exact ok_bad
  · intro h2
    have := rNum_ok h h2
    show (rNum s).2.1.drop _ = []
    rw [this]; simp
theorem rBytes_bad {s : RS} (h : Ok s) (hf : s.2 = true) : rBytes s = ([], bad) := by
  unfold rBytes
  rw [rNum_bad h hf]
  simp [bad]
theorem rBytes_back {s : RS} (h : (rBytes s).2.2 = false) : s.2 = false ∧ s.1 = keyF (rBytes s).1 ++ (rBytes s).2.1 := by
  unfold rBytes at *
  by_cases hl : (rNum s).2.1.length < (rNum s).1
  · rw [if_pos hl] at h; cases h
  · rw [if_neg hl] at h ⊢
    obtain ⟨h1, h2⟩ := rNum_back h
    refine ⟨h1, ?_⟩
    have e : ((rNum s).2.1.take (rNum s).1).length = (rNum s).1 := by rw [List.length_take]; omega
    simp only [keyF, e, List.append_assoc, List.take_append_drop]
    exact h2
theorem rBytes_there (k r : List UInt8) (hk : k.length ≤ 1099511627776) (f : Bool) : rBytes (keyF k ++ r, f) = (k, (r, f)) := by
  unfold rBytes keyF
  rw [List.append_assoc, rNum_there _ hk]
  simp
  intro h
  omega
theorem rVal_ok {s : RS} (k : List UInt8) (h : Ok s) : Ok (rVal k s).2 := by
  unfold rVal
  split
  · exact rBytes_ok (rNum_ok h)
  · split
    · simp only
      split
      · exact ok_bad
      · exact rNum_ok (rNum_ok (rNum_ok h))
    · exact ok_bad
theorem rVal_back {s : RS} {k : List UInt8} (h : (rVal k s).2.2 = false) : s.2 = false ∧ s.1 = valF (rVal k s).1 ++ (rVal k s).2.1 := by
  unfold rVal at *
  by_cases h0 : (rNum s).1 = 0
  · rw [if_pos h0] at h ⊢
    obtain ⟨b1, b2⟩ := rBytes_back h
    obtain ⟨n1, n2⟩ := rNum_back b1
    refine ⟨n1, ?_⟩
    rw [n2, h0, b2]
    simp [valF, show vnt 0 = [0] by decide]
  · rw [if_neg h0] at h ⊢
    by_cases h1 : (rNum s).1 = 1
    · rw [if_pos h1] at h ⊢
      simp only at h ⊢
      by_cases hz : (rNum (rNum (rNum s).2).2).1 = 0
      · rw [if_pos hz] at h; cases h
      · rw [if_neg hz] at h ⊢
        obtain ⟨b1, b2⟩ := rNum_back h
        obtain ⟨c1, c2⟩ := rNum_back b1
        obtain ⟨n1, n2⟩ := rNum_back c1
        have l1 := rNum_le (rNum s).2
        have l2 := rNum_le (rNum (rNum s).2).2
        refine ⟨n1, ?_⟩
        unfold valF
        simp only
        rw [if_neg (by omega), nI_nat (by omega), nI_nat (by omega), n2, h1, c2, b2]
        simp [show vnt 1 = [1] by decide]
    · rw [if_neg h1] at h; cases h
theorem rCell_ok {s : RS} (h : Ok s) : Ok (rCell s).2 := rVal_ok _ (rBytes_ok h)
theorem rCell_key (s : RS) : (rCell s).1.key = (rBytes s).1 := by
  unfold rCell rVal
  split
  · rfl
  · split <;> rfl
theorem rCell_back {s : RS} (h : (rCell s).2.2 = false) : s.2 = false ∧ s.1 = cellF (rCell s).1 ++ (rCell s).2.1 := by
  obtain ⟨v1, v2⟩ := rVal_back h
  obtain ⟨b1, b2⟩ := rBytes_back v1
  refine ⟨b1, ?_⟩
  unfold cellF
  rw [rCell_key, List.append_assoc]
  rw [b2]
  congr 1
theorem rVal_there (c : C) (hv : valOk c = true) (r : List UInt8) (f : Bool) : rVal c.key (valF c ++ r, f) = (c, (r, f)) := by
  obtain ⟨key, val, over, len⟩ := c
  unfold valOk at hv
  unfold valF
  simp only at hv ⊢
  by_cases h0 : over = 0
  · rw [if_pos h0] at hv ⊢
    simp only [Bool.and_eq_true, decide_eq_true_eq] at hv
    have e : (0 :: keyF val) ++ r = vnt 0 ++ (keyF val ++ r) := by simp [show vnt 0 = [0] by decide]
    have hn := rNum_there 0 (by omega) (keyF val ++ r) f
    unfold rVal
    rw [e, hn]
    simp only [if_true]
    rw [rBytes_there _ _ (by omega)]
    simp [h0, hv.2]
  · rw [if_neg h0] at hv ⊢
    unfold pageOk at hv
    simp only [Bool.and_eq_true, decide_eq_true_eq] at hv
    obtain ⟨⟨⟨⟨p1, p2⟩, p3⟩, p4⟩, p5⟩ := hv
    obtain ⟨o, rfl⟩ := Int.eq_ofNat_of_zero_le (show 0 ≤ over by omega)
    obtain ⟨l, rfl⟩ := Int.eq_ofNat_of_zero_le (show 0 ≤ len by omega)
    have hv0 : val = [] := List.eq_nil_of_length_eq_zero p3
    subst hv0
    rw [nI_nat (by omega), nI_nat (by omega)]
    have e : (1 :: (vnt l ++ vnt o)) ++ r = vnt 1 ++ (vnt l ++ (vnt o ++ r)) := by simp [show vnt 1 = [1] by decide]
    have hn := rNum_there 1 (by omega) (vnt l ++ (vnt o ++ r)) f
    have hn1 := rNum_there l (by omega) (vnt o ++ r) f
    have hn2 := rNum_there o (by omega) r f
    unfold rVal
    rw [e, hn]
    simp only [hn1, hn2]
    have : ¬ o = 0 := by omega
    simp [this]
theorem rCell_there (c : C) (hk : c.key.length ≤ 96) (hv : valOk c = true) (r : List UInt8) (f : Bool) : rCell (cellF c ++ r, f) = (c, (r, f)) := by
  unfold rCell cellF
  rw [List.append_assoc, rBytes_there _ _ (by omega)]
  exact rVal_there c hv r f
/-! ### Many of them -/
theorem rMany_ok {α : Type} {f : RS → α × RS} (hf : ∀ s, Ok s → Ok (f s).2) : ∀ (n : Nat) (s : RS), Ok s → Ok (rMany f n s).2
  | 0, s, h => h
  | n + 1, s, h => by
    unfold rMany
    split
    · exact h
    · exact rMany_ok hf n _ (hf s h)
theorem rMany_back {α : Type} {f : RS → α × RS} {F : α → List UInt8} (hf : ∀ s, (f s).2.2 = false → s.2 = false ∧ s.1 = F (f s).1 ++ (f s).2.1) : ∀ (n : Nat) (s : RS), (rMany f n s).2.2 = false → s.2 = false ∧ s.1 = (rMany f n s).1.flatMap F ++ (rMany f n s).2.1 ∧ (rMany f n s).1.length = n
  | 0, s, h => ⟨h, rfl, rfl⟩
  | n + 1, s, h => by
    unfold rMany at h ⊢
    by_cases hs : s.2 = true
    · rw [if_pos hs] at h; rw [h] at hs; cases hs
    · rw [if_neg hs] at h ⊢
      obtain ⟨h1, h2, h3⟩ := rMany_back hf n _ h
      obtain ⟨h4, h5⟩ := hf s h1
      refine ⟨h4, ?_, by simp [h3]⟩
      rw [h5, h2]
      simp
theorem rMany_there {α : Type} {f : RS → α × RS} {F : α → List UInt8} : ∀ (L : List α) (r : List UInt8), (∀ a ∈ L, ∀ r, f (F a ++ r, false) = (a, (r, false))) → rMany f L.length (L.flatMap F ++ r, false) = (L, (r, false))
  | [], r, _ => rfl
  | a :: L, r, h => by
    have ha := h a (by simp) (L.flatMap F ++ r)
    have ih := rMany_there L r (fun b hb => h b (by simp [hb]))
    rw [List.length_cons, rMany, List.flatMap_cons, List.append_assoc, ha]
    simp [ih]
theorem rAll_ok {α : Type} {f : RS → α × RS} (hf : ∀ s, Ok s → Ok (f s).2) : ∀ (n : Nat) (s : RS), Ok s → Ok (rAll f n s).2
  | 0, s, h => h
  | n + 1, s, h => by
    unfold rAll
    exact rAll_ok hf n _ (hf s h)
theorem rAll_len {α : Type} (f : RS → α × RS) : ∀ (n : Nat) (s : RS), (rAll f n s).1.length = n
  | 0, s => rfl
  | n + 1, s => by unfold rAll; simp [rAll_len f n]
theorem rAll_back {α : Type} {f : RS → α × RS} {F : α → List UInt8} (hf : ∀ s, (f s).2.2 = false → s.2 = false ∧ s.1 = F (f s).1 ++ (f s).2.1) : ∀ (n : Nat) (s : RS), (rAll f n s).2.2 = false → s.2 = false ∧ s.1 = (rAll f n s).1.flatMap F ++ (rAll f n s).2.1
  | 0, s, h => ⟨h, rfl⟩
  | n + 1, s, h => by
    unfold rAll at h ⊢
    obtain ⟨h1, h2⟩ := rAll_back hf n _ h
    obtain ⟨h4, h5⟩ := hf s h1
    refine ⟨h4, ?_⟩
    rw [h5, h2]
    simp
theorem rAll_there {α : Type} {f : RS → α × RS} {F : α → List UInt8} : ∀ (L : List α) (r : List UInt8), (∀ a ∈ L, ∀ r, f (F a ++ r, false) = (a, (r, false))) → rAll f L.length (L.flatMap F ++ r, false) = (L, (r, false))
  | [], r, _ => rfl
  | a :: L, r, h => by
    have ha := h a (by simp) (L.flatMap F ++ r)
    have ih := rAll_there L r (fun b hb => h b (by simp [hb]))
    rw [List.length_cons, rAll, List.flatMap_cons, List.append_assoc, ha]
    simp [ih]
theorem rKid_back {s : RS} (h : (rKid s).2.2 = false) : s.2 = false ∧ s.1 = nI (rKid s).1 ++ (rKid s).2.1 := by
  obtain ⟨h1, h2⟩ := rNum_back h
  have := rNum_le s
  refine ⟨h1, ?_⟩
  unfold rKid
  simp only
  rw [nI_nat (by omega)]
  exact h2
theorem rKid_there (x : Int) (hx : pageOk x = true) (r : List UInt8) : rKid (nI x ++ r, false) = (x, (r, false)) := by
  unfold pageOk at hx
  simp only [Bool.and_eq_true, decide_eq_true_eq] at hx
  obtain ⟨o, rfl⟩ := Int.eq_ofNat_of_zero_le (show 0 ≤ x by omega)
  unfold rKid
  rw [nI_nat (by omega), rNum_there _ (by omega)]
theorem mayC_mem : ∀ {l : List UInt8} {L : List C}, mayC l L = true → ∀ c ∈ L, c.key.length ≤ 96 ∧ valOk c = true
  | _, [], _, c, h => by cases h
  | l, c :: L, h, d, hd => by
    unfold mayC fol at h
    simp only [Bool.and_eq_true, decide_eq_true_eq] at h
    obtain ⟨⟨⟨⟨h1, h2⟩, h3⟩, h4⟩, h5⟩ := h
    rcases List.mem_cons.1 hd with rfl | hd
    · exact ⟨h2, h4⟩
    · exact mayC_mem h5 d hd
theorem mayK_mem : ∀ {l : List UInt8} {L : List (List UInt8)}, mayK l L = true → ∀ c ∈ L, c.length ≤ 96
  | _, [], _, c, h => by cases h
  | l, c :: L, h, d, hd => by
    unfold mayK fol at h
    simp only [Bool.and_eq_true, decide_eq_true_eq] at h
    obtain ⟨⟨⟨h1, h2⟩, h3⟩, h5⟩ := h
    rcases List.mem_cons.1 hd with rfl | hd
    · exact h2
    · exact mayK_mem h5 d hd
/-- What is read has those bytes. -/
theorem okP_back {b : List UInt8} (h : okP b = true) : form (rNode (b, false)).1 = b ∧ may (rNode (b, false)).1 = true ∧ b.length ≤ 448 := by
  unfold okP at h
  simp only [Bool.and_eq_true, decide_eq_true_eq, Bool.not_eq_true'] at h
  obtain ⟨⟨⟨h1, h2⟩, h3⟩, h4⟩ := h
  refine ⟨?_, h4, h1⟩
  have h3' : (rNode (b, false)).2.1 = [] := List.eq_nil_of_length_eq_zero h3
  unfold rNode at h2 h3' ⊢
  by_cases hm : (rNum (b, false)).1 = 1
  · rw [if_pos hm] at h2 h3' ⊢
    obtain ⟨m1, m2, m3⟩ := rMany_back (f := rCell) (F := cellF) (fun s hs => rCell_back hs) _ _ h2
    obtain ⟨n1, n2⟩ := rNum_back m1
    obtain ⟨k1, k2⟩ := rNum_back n1
    have h3'' : (rMany rCell (rNum (rNum (b, false)).2).1 (rNum (rNum (b, false)).2).2).2.1 = [] := h3'
    rw [h3'', List.append_nil] at m2
    rw [m2] at n2
    rw [n2, hm] at k2
    have k3 : b = vnt 1 ++ _ := k2
    unfold form rLeaf
    simp only [if_true, m3]
    simp only [show vnt 1 = [1] by decide, List.cons_append, List.nil_append] at k3
    exact k3.symm
  · rw [if_neg hm] at h2 h3' ⊢
    by_cases hm2 : (rNum (b, false)).1 = 2
    · rw [if_pos hm2] at h2 h3' ⊢
      obtain ⟨a1, a2⟩ := rAll_back (f := rKid) (F := nI) (fun s hs => rKid_back hs) _ _ h2
      obtain ⟨m1, m2, m3⟩ := rMany_back (f := rBytes) (F := keyF) (fun s hs => rBytes_back hs) _ _ a1
      obtain ⟨n1, n2⟩ := rNum_back m1
      obtain ⟨k1, k2⟩ := rNum_back n1
      have h3'' : (rAll rKid ((rKeys (rNum (b, false)).2).1.length + 1) (rKeys (rNum (b, false)).2).2).2.1 = [] := h3'
      rw [h3'', List.append_nil] at a2
      have m2' : (rNum (rNum (b, false)).2).2.1 = (rKeys (rNum (b, false)).2).1.flatMap keyF ++ (rKeys (rNum (b, false)).2).2.1 := m2
      rw [a2] at m2'
      rw [m2'] at n2
      rw [n2, hm2] at k2
      have k3 : b = vnt 2 ++ _ := k2
      have m3' : (rKeys (rNum (b, false)).2).1.length = (rNum (rNum (b, false)).2).1 := m3
      unfold form rInner
      simp only [Bool.false_eq_true, if_false]
      rw [m3']
      rw [m3'] at k3
      simp only [show vnt 2 = [2] by decide, List.cons_append, List.nil_append] at k3
      exact k3.symm
    · rw [if_neg hm2] at h2; cases h2
/-- A node's form is read as it was. -/
theorem okP_there {n : Nd} (hm : may n = true) (hl : (form n).length ≤ 448) : okP (form n) = true ∧ (rNode (form n, false)).1 = n := by
  have key : rNode (form n, false) = (n, ([], false)) := by
    obtain ⟨leaf, cells, keys, kids⟩ := n
    cases leaf with
    | true =>
      unfold may leafOk at hm
      simp only [if_true, Bool.and_eq_true, List.isEmpty_iff] at hm
      obtain ⟨⟨h1, h2⟩, h3⟩ := hm
      subst h1 h2
      have hc : cells.length ≤ 448 := by
        unfold form at hl
        simp only [if_true, List.length_cons, List.length_append] at hl
        have : cells.length ≤ (cells.flatMap cellF).length := by
          clear hl h3
          induction cells with
          | nil => simp
          | cons c L ih =>
            rw [List.flatMap_cons, List.length_append, List.length_cons]
            have : 0 < (cellF c).length := by unfold cellF keyF; have := vnt_pos c.key.length; simp; omega
            omega
        omega
      unfold form
      simp only [if_true]
      have e : (1 :: (vnt cells.length ++ cells.flatMap cellF)) = vnt 1 ++ (vnt cells.length ++ (cells.flatMap cellF ++ [])) := by simp [show vnt 1 = [1] by decide]
      rw [e]
      unfold rNode
      rw [rNum_there 1 (by omega)]
      simp only [if_true]
      unfold rLeaf
      rw [rNum_there _ (by omega)]
      simp only
      rw [rMany_there cells [] (fun c hc r => rCell_there c (mayC_mem h3 c hc).1 (mayC_mem h3 c hc).2 r false)]
    | false =>
      unfold may innerOk at hm
      simp only [Bool.false_eq_true, if_false, Bool.and_eq_true, List.isEmpty_iff, decide_eq_true_eq, List.all_eq_true] at hm
      obtain ⟨⟨⟨h1, h2⟩, h3⟩, h4⟩ := hm
      subst h1
      have hc : keys.length ≤ 448 := by
        unfold form at hl
        simp only [Bool.false_eq_true, if_false, List.length_cons, List.length_append] at hl
        have : keys.length ≤ (keys.flatMap keyF).length := by
          clear hl h3 h2
          induction keys with
          | nil => simp
          | cons c L ih =>
            rw [List.flatMap_cons, List.length_append, List.length_cons]
            have : 0 < (keyF c).length := by unfold keyF; have := vnt_pos c.length; simp; omega
            omega
        omega
      unfold form
      simp only [Bool.false_eq_true, if_false]
      have e : (2 :: (vnt keys.length ++ (keys.flatMap keyF ++ kids.flatMap nI))) = vnt 2 ++ (vnt keys.length ++ (keys.flatMap keyF ++ (kids.flatMap nI ++ []))) := by simp [show vnt 2 = [2] by decide]
      rw [e]
      unfold rNode
      rw [rNum_there 2 (by omega)]
      simp only [show ¬ (2 : Nat) = 1 by decide, if_false, if_true]
      have hk : rKeys (vnt keys.length ++ (keys.flatMap keyF ++ (kids.flatMap nI ++ [])), false) = (keys, (kids.flatMap nI ++ [], false)) := by
        unfold rKeys
        rw [rNum_there _ (by omega)]
        simp only
        rw [rMany_there keys _ (fun c hc r => rBytes_there c r (by have := mayK_mem h3 c hc; omega) false)]
      unfold rInner
      rw [hk]
      simp only
      rw [← h2, rAll_there kids [] (fun c hc r => rKid_there c (h4 c hc) r)]
  unfold okP
  rw [key]
  simp [hl, hm]
end Go.Proofs.Ytbkpgppaahpalaa
