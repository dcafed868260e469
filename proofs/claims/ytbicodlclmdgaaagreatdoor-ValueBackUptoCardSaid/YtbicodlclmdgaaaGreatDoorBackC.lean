/-
  A value that may be is read from its text; unlike values have unlike texts; how long a text is: plain lists, no Go text in it.
-/
import Derived.Test.YtbicodlclmdgaaaGreatDoorBackM
namespace Go.Proofs.YtbicodlclmdgaaaGreatDoor

/-- It goes on with no digit. -/
def stop (r : List UInt8) : Prop := ∀ c s, r = c :: s → isDig c = false
theorem stop_nil : stop [] := fun _ _ h => by cases h
theorem stop_cons {c : UInt8} {s : List UInt8} (h : isDig c = false) : stop (c :: s) := fun _ _ e => by injection e with e; rw [← e]; exact h

theorem chr_there (c : UInt8) (r : List UInt8) : pChr (chT c ++ r) = some (c, r) := by
  unfold chT
  split
  · rename_i h
    simp only [List.cons_append, List.nil_append, pChr, pEsc]
    rw [if_neg (by decide), if_neg (by decide), if_pos h]
  · rename_i h
    split
    · rename_i hno
      have hb := UInt8.toNat_lt c
      simp only [List.cons_append, List.nil_append, pChr, pEsc]
      rw [if_neg (by decide), if_neg (by decide), if_neg (by decide), if_pos (by decide)]
      have h1 : c.toNat / 16 < 16 := by omega
      have h2 : c.toNat % 16 < 16 := by omega
      have e : 16 * (c.toNat / 16) + c.toNat % 16 = c.toNat := by omega
      have hno' : c.toNat < 32 ∨ 126 < c.toNat := by simpa [noSg] using hno
      have hor : (noSg (UInt8.ofNat (16 * (c.toNat / 16))) || noSg (UInt8.ofNat (16 * (c.toNat / 16) + 15))) = true := by
        simp only [noSg, UInt8.toNat_ofNat', Bool.or_eq_true, decide_eq_true_eq]
        rw [Nat.mod_eq_of_lt (by omega), Nat.mod_eq_of_lt (by omega)]
        omega
      simp only [pHid, hex_there h1, hex_there h2, hor, if_true, e, UInt8.ofNat_toNat, hno]
    · rename_i hno
      simp only [List.cons_append, List.nil_append, pChr]
      rw [if_neg hno, if_pos (by omega)]
theorem chT_head (c : UInt8) : ∃ a s, chT c = a :: s ∧ a.toNat ≠ 39 := by
  unfold chT
  split
  · exact ⟨92, [c], rfl, by decide⟩
  · split
    · exact ⟨92, _, rfl, by decide⟩
    · rename_i h _
      exact ⟨c, [], rfl, by omega⟩
theorem str_there : ∀ (l r : List UInt8) (f : Nat), l.length < f → pStr f (l.flatMap chT ++ 39 :: r) = some (l, r)
  | _, _, 0, h => absurd h (Nat.not_lt_zero _)
  | [], r, f + 1, _ => by simp [pStr]
  | c :: l, r, f + 1, h => by
    obtain ⟨a, s, e, ha⟩ := chT_head c
    have h1 := chr_there c (l.flatMap chT ++ 39 :: r)
    rw [e] at h1
    rw [List.flatMap_cons, List.append_assoc, e]
    simp only [List.cons_append] at h1 ⊢
    simp only [pStr, if_neg ha, h1, str_there l r f (by simpa using h)]
theorem flat_len : ∀ l : List UInt8, l.length ≤ (l.flatMap chT).length
  | [] => Nat.le_refl _
  | c :: l => by
    obtain ⟨a, s, e, -⟩ := chT_head c
    rw [List.flatMap_cons, List.length_append, e]
    have := flat_len l
    simp only [List.length_cons]; omega

theorem dig_there {r : List UInt8} (hr : stop r) : ∀ (x pre : List UInt8) (n : Int), x.all isDig = true → (∀ y z, x = y ++ z → y ≠ [] → form (pre ++ y) = true ∧ fits (sval (pre ++ y)) = true) →
    pDig pre n (x ++ r) = some (if x = [] then n else sval (pre ++ x), r)
  | [], pre, n, _, _ => by
    cases r with
    | nil => simp [pDig]
    | cons c s => simp [pDig, hr c s rfl]
  | c :: x, pre, n, hx, hp => by
    simp only [List.all_cons, Bool.and_eq_true] at hx
    obtain ⟨h1, h2⟩ := hp [c] x rfl (by simp)
    simp only [List.cons_append, pDig, hx.1, if_true, h1, h2, Bool.and_self]
    rw [dig_there hr x (pre ++ [c]) _ hx.2 fun y z e hy => by
      have := hp (c :: y) z (by rw [e]; rfl) (by simp)
      simpa using this]
    simp only [List.append_assoc, List.cons_append, List.nil_append]
    by_cases h0 : x = []
    · subst h0; simp
    · simp [h0]
theorem body_neg (x : List UInt8) : negl (45 :: x) = true ∧ body (45 :: x) = x := ⟨rfl, rfl⟩
theorem fits_pre {a b : Nat} (h : a ≤ b) : (fits (b : Int) = true → fits (a : Int) = true) ∧ (fits (-(b : Int)) = true → fits (-(a : Int)) = true) := by
  simp only [fits_iff]; omega
/-- Beginnings of digits in the one form are in it. -/
theorem pre_form {y z : List UInt8} (hy : y ≠ []) (ng : Bool) (hx : (y ++ z).all isDig = true) (hf : form ((if ng then [45] else []) ++ (y ++ z)) = true) (hs : fits (sval ((if ng then [45] else []) ++ (y ++ z))) = true) :
    form ((if ng then [45] else []) ++ y) = true ∧ fits (sval ((if ng then [45] else []) ++ y)) = true := by
  have hm : mag 0 y ≤ mag 0 (y ++ z) := by rw [mag_append]; exact mag_ge _ _
  rw [List.all_append, Bool.and_eq_true] at hx
  have notneg : ∀ u : List UInt8, u.all isDig = true → negl u = false := by
    intro u hu
    cases u with
    | nil => rfl
    | cons c r =>
      simp only [List.all_cons, Bool.and_eq_true] at hu
      have hc : 48 ≤ c.toNat ∧ c.toNat ≤ 57 := by simpa [isDig] using hu.1
      simp only [negl, decide_eq_false_iff_not]; omega
  obtain ⟨c, y', rfl⟩ : ∃ c y', y = c :: y' := by cases y with | nil => exact absurd rfl hy | cons c y' => exact ⟨c, y', rfl⟩
  cases ng with
  | true =>
    simp only [if_true, List.cons_append, List.nil_append] at hf hs ⊢
    unfold form at hf ⊢
    unfold sval at hs ⊢
    rw [(body_neg _).1, (body_neg _).2] at hf hs ⊢
    simp only [List.cons_append] at hm
    refine ⟨?_, (fits_pre hm).2 (by simpa using hs)⟩
    rw [hx.1]
    simp only [dig0, Bool.not_true, Bool.and_false, Bool.or_false, Bool.and_eq_true, Bool.not_eq_true'] at hf ⊢
    exact ⟨⟨trivial, rfl⟩, hf.2⟩
  | false =>
    simp only [Bool.false_eq_true, if_false, List.nil_append] at hf hs ⊢
    have n1 := notneg (c :: y' ++ z) (by rw [List.all_append, hx.1, hx.2]; rfl)
    have n2 := notneg (c :: y') hx.1
    have b1 : body (c :: y' ++ z) = c :: y' ++ z := by unfold body; rw [n1]; rfl
    have b2 : body (c :: y') = c :: y' := by unfold body; rw [n2]; rfl
    unfold form at hf ⊢
    unfold sval at hs ⊢
    rw [n1, b1] at hf hs
    rw [n2, b2]
    refine ⟨?_, by simpa using (fits_pre hm).1 (by simpa using hs)⟩
    rw [hx.1]
    simp only [List.cons_append, dig0, Bool.not_false, Bool.and_true, List.isEmpty_cons, Bool.true_and, Bool.and_eq_true, Bool.or_eq_true, Bool.not_eq_true', decide_eq_true_eq, List.length_cons] at hf ⊢
    rcases hf.2 with h | h
    · exact .inl h
    · refine .inr ?_
      rw [List.length_append] at h
      omega
theorem num_there (n : Int) (hn : fits n = true) {r : List UInt8} (hr : stop r) : pNum (Lib.itoa n ++ r) = some (n, r) := by
  obtain ⟨hf, hs⟩ := form_itoa n
  have hfs : fits (sval (Lib.itoa n)) = true := by rw [hs]; exact hn
  have hb : (body (Lib.itoa n)).all isDig = true ∧ body (Lib.itoa n) ≠ [] := by
    unfold form at hf
    simp only [Bool.and_eq_true, Bool.not_eq_true'] at hf
    exact ⟨hf.1.1, fun e => by rw [e] at hf; simp at hf⟩
  obtain ⟨hb1, hb2⟩ := hb
  rcases Bool.eq_false_or_eq_true (negl (Lib.itoa n)) with hng | hng
  · cases e : Lib.itoa n with
    | nil => rw [e] at hng; cases hng
    | cons c x =>
      have hc : c = 45 := UInt8.toNat_inj.1 (by rw [e] at hng; simpa [negl] using hng)
      subst hc
      rw [e] at hb1 hb2 hf hfs hs
      rw [(body_neg x).2] at hb1 hb2
      obtain ⟨a, x', rfl⟩ : ∃ a x', x = a :: x' := by cases x with | nil => exact absurd rfl hb2 | cons a x' => exact ⟨a, x', rfl⟩
      have h1 := dig_there hr (a :: x') [45] 0 hb1 fun y z ey hy => by
        rw [ey] at hb1 hf hfs
        exact pre_form hy true hb1 hf hfs
      have ha : isDig a = true := by simp only [List.all_cons, Bool.and_eq_true] at hb1; exact hb1.1
      simp only [List.cons_append] at h1 ⊢
      simp only [pNum, pNum1, ha, if_true]
      rw [if_pos (by decide), h1, if_neg (by simp)]
      exact congrArg some (by rw [Prod.mk.injEq]; exact ⟨hs, rfl⟩)
  · have hbb : body (Lib.itoa n) = Lib.itoa n := by unfold body; rw [hng]; rfl
    rw [hbb] at hb1 hb2
    cases e : Lib.itoa n with
    | nil => exact absurd e hb2
    | cons a x =>
      rw [e] at hb1 hf hfs hs hng
      have h1 := dig_there hr (a :: x) [] 0 hb1 fun y z ey hy => by
        rw [ey] at hb1 hf hfs
        exact pre_form hy false hb1 hf hfs
      have ha : isDig a = true := by simp only [List.all_cons, Bool.and_eq_true] at hb1; exact hb1.1
      have hc : ¬ a.toNat = 45 := by simpa [negl] using hng
      simp only [List.cons_append] at h1 ⊢
      simp only [pNum, pNum1, ha, if_true]
      rw [if_neg hc, h1, if_neg (by simp)]
      exact congrArg some (by rw [Prod.mk.injEq]; exact ⟨hs, rfl⟩)
theorem id_there (hd : List UInt8) (n : Int) (hn : fits n = true) (r : List UInt8) : pId hd (hd ++ Lib.itoa n ++ [93] ++ r) = some (n, r) := by
  unfold pId
  rw [List.append_assoc, List.append_assoc, strip_app]
  simp only
  rw [num_there n hn (r := [93] ++ r) (stop_cons (by decide))]
  simp only [strip_app]

theorem itoa_head (n : Int) : ∃ c s, Lib.itoa n = c :: s ∧ (isDig c = true ∨ c.toNat = 45) := by
  unfold Lib.itoa
  split
  · exact ⟨45, _, rfl, .inr rfl⟩
  · have h := all_digits n.toNat
    cases e : Lib.decDigits n.toNat with
    | nil => exact absurd e (digits_ne _)
    | cons c r =>
      rw [e] at h
      simp only [List.all_cons, Bool.and_eq_true] at h
      exact ⟨c, r, rfl, .inl h.1⟩
theorem dig_rng {c : UInt8} (h : isDig c = true ∨ c.toNat = 45) : 45 ≤ c.toNat ∧ c.toNat ≤ 57 := by
  rcases h with h | h
  · have hc : 48 ≤ c.toNat ∧ c.toNat ≤ 57 := by simpa [isDig] using h
    omega
  · omega
theorem txt_head (v : V) (d : Nat) : ∃ c s, v.txt d = c :: s ∧ c ≠ 93 ∧ c ≠ 125 := by
  obtain ⟨k, n, s, l⟩ := v
  simp only [V.txt, oneT]
  split
  · exact ⟨_, _, rfl, by decide, by decide⟩
  split
  · obtain ⟨c, s, e, h⟩ := itoa_head n
    have := dig_rng h
    exact ⟨c, s, e, fun e => by subst e; simp at this, fun e => by subst e; simp at this⟩
  split
  · exact ⟨_, _, rfl, by decide, by decide⟩
  split
  · unfold boolT; split
    · exact ⟨_, _, rfl, by decide, by decide⟩
    · exact ⟨_, _, rfl, by decide, by decide⟩
  repeat' split
  all_goals exact ⟨_, _, rfl, by decide, by decide⟩

theorem next_there_close (cl : UInt8) (more : Bool) (r : List UInt8) : pNext cl more (cl :: r) = some (true, r) := by simp [pNext]
theorem next_there_more {cl c : UInt8} {s : List UInt8} (f : Bool) (hcl : cl ≠ 44) (hc : c ≠ cl) : pNext cl (!f) (sep f ++ c :: s) = some (false, c :: s) := by
  cases f with
  | true => simp [pNext, sep, hc, strip]
  | false => simp [pNext, sep, hcl.symm, strip]
theorem items_there {pe : List UInt8 → Option (V × List UInt8)} {d : Nat} : ∀ (l : List V) (_ : ∀ v ∈ l, ∀ r, stop r → pe (v.txt d ++ r) = some (v, r)) (f : Nat) (fst : Bool) (r : List UInt8), l.length < f →
    pItems pe f (!fst) (txtL l d fst ++ 93 :: r) = some (l, r)
  | _, _, 0, _, _, h => absurd h (Nat.not_lt_zero _)
  | [], _, f + 1, fst, r, _ => by
    simp only [txtL, List.nil_append, pItems, next_there_close]
  | v :: l, hpe, f + 1, fst, r, h => by
    obtain ⟨c, s, e, h93, -⟩ := txt_head v d
    have h1 : stop (txtL l d false ++ 93 :: r) := by
      cases l with
      | nil => exact stop_cons (by decide)
      | cons a l => exact stop_cons (c := 44) (by decide)
    have h2 := hpe v (by simp) _ h1
    have h3 := items_there l (fun x hx => hpe x (by simp [hx])) f false r (by simpa using h)
    rw [e] at h2
    simp only [txtL, pItems, List.append_assoc, e, List.cons_append] at h2 ⊢
    rw [next_there_more fst (by decide) h93]
    simp only [h2]
    simp only [Bool.not_false] at h3
    simp only [h3]
theorem pairs_there {pe : List UInt8 → Option (V × List UInt8)} {d : Nat} : ∀ (l : List V) (_ : ∀ v ∈ l, ∀ r, stop r → pe (v.txt d ++ r) = some (v, r)) (_ : l.length % 2 = 0) (f : Nat) (fst : Bool) (r : List UInt8), l.length < f →
    pPairs pe f (!fst) (txtM l d fst ++ 125 :: r) = some (l, r)
  | _, _, _, 0, _, _, h => absurd h (Nat.not_lt_zero _)
  | [], _, _, f + 1, fst, r, _ => by
    simp only [txtM, List.nil_append, pPairs, next_there_close]
  | [_], _, h2, _, _, _, _ => by simp at h2
  | a :: b :: l, hpe, hl2, f + 1, fst, r, h => by
    obtain ⟨c, s, e, -, h125⟩ := txt_head a d
    have h1 : stop (txtM l d false ++ 125 :: r) := by
      match l with
      | [] => exact stop_cons (by decide)
      | [_] => exact stop_cons (by decide)
      | _ :: _ :: _ => exact stop_cons (c := 44) (by decide)
    have k1 := hpe a (by simp) ([58, 32] ++ (b.txt d ++ (txtM l d false ++ 125 :: r))) (stop_cons (by decide))
    have k2 := hpe b (by simp) _ h1
    have h3 := pairs_there l (fun x hx => hpe x (by simp [hx])) (by simp only [List.length_cons] at hl2; omega) f false r (by simp at h; omega)
    have kp : pPair pe (a.txt d ++ ([58, 32] ++ (b.txt d ++ (txtM l d false ++ 125 :: r)))) = some ((a, b), txtM l d false ++ 125 :: r) := by
      unfold pPair
      rw [k1]
      simp only [strip_app]
      rw [k2]
    simp only [txtM, pPairs, List.append_assoc, e] at kp ⊢
    simp only [List.cons_append] at kp ⊢
    rw [next_there_more fst (by decide) h125]
    simp only [kp]
    simp only [Bool.not_false] at h3
    simp only [h3]
theorem txtL_len : ∀ (l : List V) (d : Nat) (f : Bool), l.length ≤ (txtL l d f).length
  | [], _, _ => Nat.zero_le _
  | v :: l, d, f => by
    obtain ⟨c, s, e, -⟩ := txt_head v d
    have := txtL_len l d false
    simp only [txtL, e, List.length_append, List.length_cons]; omega
theorem txtM_len : ∀ (l : List V) (d : Nat) (f : Bool), l.length ≤ (txtM l d f).length + 1
  | [], _, _ => Nat.zero_le _
  | [_], _, _ => by simp
  | a :: b :: l, d, f => by
    obtain ⟨c, s, e, -⟩ := txt_head a d
    obtain ⟨c', s', e', -⟩ := txt_head b d
    have := txtM_len l d false
    simp only [txtM, e, e', List.length_append, List.length_cons]; omega
theorem empty_arr {s : ByteArray} (h : s.size = 0) : s = ⟨#[]⟩ := by
  obtain ⟨⟨l⟩⟩ := s
  cases l with
  | nil => rfl
  | cons a l => simp [ByteArray.size] at h
theorem empty_eq {s : ByteArray} (h : s = ByteArray.empty) : s = ⟨#[]⟩ := h
theorem allMay_mem {l : List V} {d : Int} (h : allMay l d = true) : ∀ v ∈ l, v.may d = true := by
  induction l with
  | nil => intro v hv; cases hv
  | cons a l ih =>
    simp only [allMay, Bool.and_eq_true] at h
    intro v hv
    rcases List.mem_cons.1 hv with rfl | hv
    · exact h.1
    · exact ih h.2 v hv
mutual
/-- Every number in it has room. -/
def V.wide : V → Prop
  | .mk _ n _ l => I64 n ∧ wideL l
def wideL : List V → Prop
  | [] => True
  | v :: l => V.wide v ∧ wideL l
end
mutual
theorem V.In.wide {w : World} {lo : Nat} : ∀ (v : V) (sl : Value), v.In w lo sl → v.wide
  | .mk k n s l, sl, h => by
    simp only [V.In] at h
    obtain ⟨h1, h2, h3, p, cap, e, hc, hm, h56, hx⟩ := h
    simp only [V.wide]
    refine ⟨h2, ?_⟩
    rcases hx with hx | ⟨b, o, hp, hb, hx⟩
    · subst hx; simp only [wideL]
    · exact Ls.wide l b o hx
theorem Ls.wide {w : World} {lo : Nat} : ∀ (l : List V) (b o : Nat), Ls w lo l b o → wideL l
  | [], _, _, _ => by simp only [wideL]
  | v :: l, b, o, h => by
    simp only [Ls] at h
    obtain ⟨sl, c0, c1, c2, c3, hv, hr⟩ := h
    simp only [wideL]
    exact ⟨V.In.wide v sl hv, Ls.wide l b (o + 4) hr⟩
end
theorem wideL_mem {l : List V} (h : wideL l) : ∀ v ∈ l, v.wide := by
  induction l with
  | nil => intro v hv; cases hv
  | cons a l ih =>
    simp only [wideL] at h
    intro v hv
    rcases List.mem_cons.1 hv with rfl | hv
    · exact h.1
    · exact ih h.2 v hv
theorem i64_fits {n : Int} (h : I64 n) : fits n = true := (fits_iff n).2 h
/-- A value that may be is read from its text. -/
theorem val_there : ∀ (n d : Nat), d + n = 9 → ∀ v : V, v.wide → v.may d = true → ∀ r, stop r → pVal n (v.txt d ++ r) = some (v, r)
  | 0, d, hd, v, _, hm, r, _ => by
    obtain ⟨k, n, s, l⟩ := v
    have h9 : ¬ ((d : Int) ≤ 8) := by omega
    simp [V.may, h9] at hm
  | N + 1, d, hd, v, hw, hm, r, hr => by
    obtain ⟨k, n, s, l⟩ := v
    have h8 : ¬ 8 < d := by omega
    simp only [V.wide] at hw
    simp only [V.may, Bool.and_eq_true] at hm
    obtain ⟨⟨-, ho⟩, hk⟩ := hm
    simp only [V.txt, oneT, if_neg h8]
    by_cases k1 : k = 1
    · subst k1
      simp [onlyB] at ho
      obtain ⟨hs, rfl⟩ := ho
      rw [empty_eq hs]
      obtain ⟨c, x, e, hc⟩ := itoa_head n
      have hcr := dig_rng hc
      have h1 := num_there n (i64_fits hw.1) hr
      rw [e] at h1 ⊢
      simp only [if_true, List.cons_append, pVal, pOne] at h1 ⊢
      rw [if_neg (by omega), if_neg (by omega), if_neg (by omega), if_neg (by omega), if_neg (by omega), if_neg (by omega), if_neg (by omega), if_neg (by omega), h1]
      rfl
    rw [if_neg k1] at hk ⊢
    by_cases k2 : k = 2
    · subst k2
      simp [onlyB] at ho
      obtain ⟨rfl, rfl⟩ := ho
      have h1 := str_there s.data.toList r ((s.data.toList.flatMap chT ++ 39 :: r).length + 1) (by have := flat_len s.data.toList; simp only [List.length_append]; omega)
      simp only [if_true, strT, List.cons_append, pVal, pOne, List.append_assoc, List.nil_append]
      rw [if_neg (by decide), if_pos (by decide), h1]
      rfl
    rw [if_neg k2] at hk ⊢
    by_cases k3 : k = 3
    · subst k3
      simp [onlyB] at ho
      obtain ⟨hs, rfl⟩ := ho
      rw [empty_eq hs]
      simp only [if_true, Bool.or_eq_true, decide_eq_true_eq] at hk ⊢
      rcases hk with rfl | rfl
      · simp [boolT, pVal, pOne, strip]
      · simp [boolT, pVal, pOne, strip]
    rw [if_neg k3] at hk ⊢
    by_cases k6 : k = 6 ∨ k = 7
    · have h4 : ¬ k = 4 := by omega
      have h5 : ¬ k = 5 := by omega
      have ho' : s.size = 0 ∧ l = [] := by
        unfold onlyB at ho
        rw [if_neg k2, if_neg (by omega)] at ho
        simpa using ho
      obtain ⟨hs, rfl⟩ := ho'
      rw [empty_arr hs, if_neg h4, if_neg h5]
      rcases k6 with rfl | rfl
      · have h1 := id_there [118, 91] n (i64_fits hw.1) r
        simp only [if_true, List.cons_append, List.nil_append, pVal, pOne, List.append_assoc] at h1 ⊢
        rw [if_neg (by decide), if_neg (by decide), if_neg (by decide), if_neg (by decide), if_neg (by decide), if_neg (by decide), if_pos (by decide), h1]
        rfl
      · have h1 := id_there [101, 91] n (i64_fits hw.1) r
        rw [if_neg (by decide)]
        simp only [if_true, List.cons_append, List.nil_append, pVal, pOne, List.append_assoc] at h1 ⊢
        rw [if_neg (by decide), if_neg (by decide), if_neg (by decide), if_neg (by decide), if_neg (by decide), if_neg (by decide), if_neg (by decide), if_pos (by decide), h1]
        rfl
    rw [if_neg k6] at hk
    by_cases k4 : k = 4
    · subst k4
      simp [onlyB] at ho
      obtain ⟨rfl, hs⟩ := ho
      rw [empty_eq hs]
      simp only [if_true, Bool.and_eq_true, decide_eq_true_eq] at hk ⊢
      have h1 := items_there (pe := pVal N) (d := d + 1) l (fun v hv r hr => val_there N (d + 1) (by omega) v (wideL_mem hw.2 v hv) (by have := allMay_mem hk.2 v hv; rwa [show ((d + 1 : Nat) : Int) = (d : Int) + 1 by omega]) r hr)
        ((txtL l (d + 1) true ++ 93 :: r).length + 1) true r (by have := txtL_len l (d + 1) true; simp only [List.length_append]; omega)
      simp only [Bool.not_true] at h1
      simp only [List.cons_append, List.nil_append, pVal, pOne, List.append_assoc]
      rw [if_neg (by decide), if_neg (by decide), if_neg (by decide), if_neg (by decide), if_pos (by decide), h1]
      rfl
    rw [if_neg k4] at hk ⊢
    by_cases k5 : k = 5
    · subst k5
      simp [onlyB] at ho
      obtain ⟨rfl, hs⟩ := ho
      rw [empty_eq hs]
      simp only [if_true, Bool.and_eq_true, decide_eq_true_eq] at hk ⊢
      have h1 := pairs_there (pe := pVal N) (d := d + 1) l (fun v hv r hr => val_there N (d + 1) (by omega) v (wideL_mem hw.2 v hv) (by have := allMay_mem hk.1.2 v hv; rwa [show ((d + 1 : Nat) : Int) = (d : Int) + 1 by omega]) r hr) hk.1.1.2
        ((txtM l (d + 1) true ++ 125 :: r).length + 1) true r (by have := txtM_len l (d + 1) true; simp only [List.length_append, List.length_cons]; omega)
      simp only [Bool.not_true] at h1
      simp only [List.cons_append, List.nil_append, pVal, pOne, List.append_assoc]
      rw [if_neg (by decide), if_neg (by decide), if_neg (by decide), if_neg (by decide), if_neg (by decide), if_pos (by decide), h1]
      rfl
    rw [if_neg k5] at hk
    exact absurd hk (by simp)
/-- Unlike values that may be have unlike texts. -/
theorem txt_inj {a b : V} (ha : a.wide) (hb : b.wide) (ma : a.may 1 = true) (mb : b.may 1 = true) (h : a.txt 1 = b.txt 1) : a = b := by
  have h1 := val_there 8 1 rfl a ha ma [] stop_nil
  have h2 := val_there 8 1 rfl b hb mb [] stop_nil
  rw [h, h2] at h1
  injection h1 with h1; injection h1 with h1
  exact h1.symm
theorem bytes_eq : ∀ x y : List UInt8, Lib.compareBytes x y = 0 → x = y
  | [], [], _ => rfl
  | [], _ :: _, h => by simp [Lib.compareBytes] at h
  | _ :: _, [], h => by simp [Lib.compareBytes] at h
  | a :: x, b :: y, h => by
    simp only [Lib.compareBytes, UInt8.lt_iff_toNat_lt] at h
    split at h
    · simp at h
    · split at h
      · simp at h
      · rw [bytes_eq x y h, show a = b from UInt8.toNat_inj.1 (by omega)]
mutual
theorem cmp_eq : ∀ a b : V, a.cmp b = 0 → a = b
  | .mk k n s l, .mk k' n' s' l', h => by
    simp only [V.cmp] at h
    have l0 : ∀ {c d : Int}, lex c d = 0 → c = 0 ∧ d = 0 := by intro c d h; unfold lex at h; split at h <;> omega
    obtain ⟨h1, h⟩ := l0 h
    obtain ⟨h2, h⟩ := l0 h
    obtain ⟨h3, h4⟩ := l0 h
    have i0 : ∀ {x y : Int}, icmp x y = 0 → x = y := by intro x y h; unfold icmp at h; split at h <;> (try split at h) <;> omega
    have e3 : s = s' := by
      have := bytes_eq _ _ h3
      obtain ⟨⟨x⟩⟩ := s
      obtain ⟨⟨y⟩⟩ := s'
      exact congrArg (fun z => (⟨⟨z⟩⟩ : ByteArray)) this
    rw [i0 h1, i0 h2, e3, cmpL_eq l l' h4]
theorem cmpL_eq : ∀ a b : List V, cmpL a b = 0 → a = b
  | [], [], _ => rfl
  | [], _ :: _, h => by simp [cmpL] at h
  | _ :: _, [], h => by simp [cmpL] at h
  | a :: l, b :: m, h => by
    simp only [cmpL] at h
    have l0 : ∀ {c d : Int}, lex c d = 0 → c = 0 ∧ d = 0 := by intro c d h; unfold lex at h; split at h <;> omega
    rw [cmp_eq a b (l0 h).1, cmpL_eq l m (l0 h).2]
end

/-! ### How long a text is -/

mutual
/-- How many values and letters it holds. -/
def V.many : V → Nat
  | .mk _ _ s l => s.size + manyL l + 1
def manyL : List V → Nat
  | [] => 0
  | v :: l => V.many v + manyL l
end
theorem chT_len (c : UInt8) : (chT c).length ≤ 4 := by
  unfold chT; repeat' split
  all_goals simp
theorem flat_le : ∀ l : List UInt8, (l.flatMap chT).length ≤ 4 * l.length
  | [] => Nat.le_refl _
  | c :: l => by
    have h1 := chT_len c
    have h2 := flat_le l
    rw [List.flatMap_cons, List.length_append, List.length_cons]; omega
theorem sep_len (f : Bool) : (sep f).length ≤ 2 := by cases f <;> simp [sep]
mutual
theorem txt_le : ∀ (v : V) (d : Nat), v.wide → (v.txt d).length + 4 ≤ 30 * v.many
  | .mk k n s l, d, h => by
    simp only [V.wide] at h
    have h1 := txtL_le l (d + 1) true h.2
    have h2 := txtM_le l (d + 1) true h.2
    have h3 := Lib.itoa_length_le n h.1.1 h.1.2
    have h4 := flat_le s.data.toList
    have h5 : s.data.toList.length = s.size := Array.length_toList
    simp only [V.txt, oneT, V.many]
    repeat' split
    all_goals (try simp only [List.length_cons, List.length_nil, List.length_append, strT])
    all_goals (try (unfold boolT; split <;> simp only [List.length_cons, List.length_nil]))
    all_goals omega
theorem txtL_le : ∀ (l : List V) (d : Nat) (f : Bool), wideL l → (txtL l d f).length ≤ 30 * manyL l
  | [], _, _, _ => Nat.zero_le _
  | v :: l, d, f, h => by
    simp only [wideL] at h
    have h1 := txt_le v d h.1
    have h2 := txtL_le l d false h.2
    have h3 := sep_len f
    simp only [txtL, manyL, List.length_append]; omega
theorem txtM_le : ∀ (l : List V) (d : Nat) (f : Bool), wideL l → (txtM l d f).length ≤ 30 * manyL l
  | [], _, _, _ => Nat.zero_le _
  | [_], _, _, _ => by simp [txtM]
  | a :: b :: l, d, f, h => by
    simp only [wideL] at h
    have h1 := txt_le a d h.1
    have h1' := txt_le b d h.2.1
    have h2 := txtM_le l d false h.2.2
    have h3 := sep_len f
    simp only [txtM, manyL, List.length_append, List.length_cons, List.length_nil]; omega
end
end Go.Proofs.YtbicodlclmdgaaaGreatDoor
