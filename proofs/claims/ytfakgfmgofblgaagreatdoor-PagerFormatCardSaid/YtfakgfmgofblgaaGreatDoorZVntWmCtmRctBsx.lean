/-
  Numbers in groups of 7 bits, as mathematics: there and back. No walk.
  A commit as bytes, its frames, and what is read of frames one behind the other, as mathematics. No walk.
  Pieces of bytes, and a row of them of one's own.
  A beginning and an end of bytes, wherever they lie. No walk.
  Bytes wherever they lie: their cells, a beginning, an end; one byte that was just laid. No walk.
-/
import Derived.WalkKit
import Derived.Test.YtfakgfmgofblgaaGreatDoorZFrmPutnClnAppJn
import Derived.RangeFuncBox
namespace Go.Proofs.YtfakgfmgofblgaaGreatDoor

theorem toNat_of {n : Nat} (h : n < 256) : (UInt8.ofNat n).toNat = n := by rw [UInt8.toNat_ofNat', Nat.mod_eq_of_lt (by omega)]
/-! ### Numbers in groups of 7 bits -/

/-- The bytes of u, of at most f + 1 groups. -/
def vntF : Nat → Nat → List UInt8
  | 0, u => [UInt8.ofNat u]
  | f + 1, u => if u < 128 then [UInt8.ofNat u] else UInt8.ofNat (u % 128 + 128) :: vntF f (u / 128)
/-- The bytes of a number of 64 bits. -/
def vnt (u : Nat) : List UInt8 := vntF 9 u
theorem vntF_pos (f u : Nat) : 0 < (vntF f u).length := by
  cases f with
  | zero => simp [vntF]
  | succ f => unfold vntF; split <;> simp
theorem vntF_le (f u : Nat) : (vntF f u).length ≤ f + 1 := by
  induction f generalizing u with
  | zero => simp [vntF]
  | succ f ih => unfold vntF; split <;> simp; exact ih _
theorem vntF_low (f u : Nat) (h : u < 128) : vntF f u = [UInt8.ofNat u] := by
  cases f with
  | zero => rfl
  | succ f => unfold vntF; rw [if_pos h]
theorem vntF_high (f u : Nat) (h : 128 ≤ u) : vntF (f + 1) u = UInt8.ofNat (u % 128 + 128) :: vntF f (u / 128) := by
  rw [vntF, if_neg (by omega)]
theorem vnt_le (u : Nat) : (vnt u).length ≤ 10 := vntF_le 9 u
theorem vnt_pos (u : Nat) : 0 < (vnt u).length := vntF_pos 9 u

/-- The first byte below 128. -/
def fb : List UInt8 → Option Nat
  | [] => none
  | c :: r => if c.toNat < 128 then some 0 else (fb r).map (· + 1)
/-- The number that groups say. -/
def gv : List UInt8 → Nat
  | [] => 0
  | c :: r => c.toNat % 128 + 128 * gv r
/-- So many groups, with that last one, are in the one form. -/
def inF (n : Nat) (c : UInt8) : Bool := decide (n ≤ 10) && (decide (n ≠ 10) || decide (c.toNat ≤ 1)) && (decide (c.toNat ≠ 0) || decide (n = 1))
theorem fb_lt : ∀ {l : List UInt8} {i : Nat}, fb l = some i → i < l.length
  | [], _, h => by cases h
  | c :: r, i, h => by
    simp only [fb] at h
    split at h
    · injection h with h; subst h; simp
    · cases hr : fb r with
      | none => rw [hr] at h; cases h
      | some j =>
        rw [hr] at h
        injection h with h
        have := fb_lt hr
        subst h
        simp; omega
theorem fb_app : ∀ {l : List UInt8} {i : Nat} (r : List UInt8), fb l = some i → fb (l ++ r) = some i
  | [], _, _, h => by cases h
  | c :: l, i, r, h => by
    simp only [fb, List.cons_append] at h ⊢
    split at h
    · rw [if_pos (by assumption)]; exact h
    · rw [if_neg (by assumption)]
      cases hr : fb l with
      | none => rw [hr] at h; cases h
      | some j => rw [fb_app r hr]; rw [hr] at h; exact h
/-- Groups: all but the last from 128 on. -/
theorem vntF_spec : ∀ (f u : Nat), u < 128 ^ (f + 1) → fb (vntF f u) = some ((vntF f u).length - 1) ∧ gv (vntF f u) = u ∧ ∃ c, (vntF f u)[(vntF f u).length - 1]? = some c ∧ (1 < (vntF f u).length → c.toNat ≠ 0) ∧ c.toNat < 128 ∧ 128 ^ ((vntF f u).length - 1) * c.toNat ≤ u := by
  intro f
  induction f with
  | zero =>
    intro u hu
    have hu' : u < 128 := by simpa using hu
    have e := toNat_of (show u < 256 by omega)
    simp only [vntF, List.length_cons, List.length_nil, fb, gv]
    refine ⟨by rw [if_pos (by omega)], by omega, UInt8.ofNat u, rfl, fun h => by omega, by omega, by rw [e]; simp⟩
  | succ f ih =>
    intro u hu
    by_cases h : u < 128
    · rw [vntF_low _ _ h]
      have e := toNat_of (show u < 256 by omega)
      simp only [List.length_cons, List.length_nil, fb, gv]
      refine ⟨by rw [if_pos (by omega)], by omega, UInt8.ofNat u, rfl, fun h => by omega, by omega, by rw [e]; simp⟩
    · rw [vntF_high _ _ (by omega)]
      have e := toNat_of (show u % 128 + 128 < 256 by omega)
      obtain ⟨h1, h2, c, h3, h4, h5, h6⟩ := ih (u / 128) (by rw [Nat.pow_succ] at hu; omega)
      have hp := vntF_pos f (u / 128)
      generalize vntF f (u / 128) = l at *
      simp only [List.length_cons, fb, gv]
      rw [if_neg (by omega), h1, h2]
      refine ⟨by simp; omega, by omega, c, ?_, fun _ => ?_, h5, ?_⟩
      · rw [show l.length + 1 - 1 = (l.length - 1) + 1 by omega, List.getElem?_cons_succ]; exact h3
      · by_cases hl : 1 < l.length
        · exact h4 hl
        · have hl1 : l.length = 1 := by omega
          match l, hl1 with
          | [d], _ =>
            simp at h3
            simp [gv] at h2
            subst h3
            omega
      · rw [show l.length + 1 - 1 = (l.length - 1) + 1 by omega, Nat.pow_succ]
        have : 128 ^ (l.length - 1) * 128 * c.toNat = 128 * (128 ^ (l.length - 1) * c.toNat) := by
          rw [Nat.mul_comm (128 ^ (l.length - 1)) 128, Nat.mul_assoc]
        omega
theorem gv_lt : ∀ (l : List UInt8) (c : UInt8), gv (l ++ [c]) < 128 ^ l.length * (c.toNat % 128 + 1)
  | [], c => by simp [gv]
  | d :: l, c => by
    have h := gv_lt l c
    simp only [List.cons_append, gv, List.length_cons, Nat.pow_succ]
    have hd := Nat.mod_lt d.toNat (show 128 > 0 by omega)
    have : 128 ^ l.length * 128 * (c.toNat % 128 + 1) = 128 * (128 ^ l.length * (c.toNat % 128 + 1)) := by
      rw [Nat.mul_comm (128 ^ l.length) 128, Nat.mul_assoc]
    omega
theorem gv_pos : ∀ (l : List UInt8) (c : UInt8), c.toNat % 128 ≠ 0 → 0 < gv (l ++ [c])
  | [], c, h => by simp [gv]; omega
  | d :: l, c, h => by
    have := gv_pos l c h
    simp only [List.cons_append, gv]; omega
/-- Groups in the one form are those of the number that they say. -/
theorem vnt_gv : ∀ (l : List UInt8) (c : UInt8) (f : Nat), (∀ d ∈ l, 128 ≤ d.toNat) → c.toNat < 128 → (l ≠ [] → c.toNat ≠ 0) → l.length ≤ f → vntF f (gv (l ++ [c])) = l ++ [c]
  | [], c, f, _, hc, _, _ => by
    simp only [List.nil_append, gv]
    rw [Nat.mod_eq_of_lt hc, Nat.mul_zero, Nat.add_zero, vntF_low _ _ hc, UInt8.ofNat_toNat]
  | d :: l, c, f, hl, hc, hne, hf => by
    have hc0 := hne (by simp)
    obtain ⟨f, rfl⟩ : ∃ g, f = g + 1 := ⟨f - 1, by simp at hf; omega⟩
    have hp := gv_pos l c (by omega)
    have ih := vnt_gv l c f (fun x hx => hl x (by simp [hx])) hc (fun _ => hc0) (by simpa using hf)
    have hd := hl d (by simp)
    have hd2 := d.toNat_lt
    simp only [List.cons_append, gv]
    rw [vntF_high _ _ (by omega), show (d.toNat % 128 + 128 * gv (l ++ [c])) / 128 = gv (l ++ [c]) by omega, ih, show (d.toNat % 128 + 128 * gv (l ++ [c])) % 128 + 128 = d.toNat by omega, UInt8.ofNat_toNat]
theorem fb_split : ∀ {t : List UInt8} {i : Nat}, fb t = some i → ∃ (l : List UInt8) (c : UInt8) (r : List UInt8), t = l ++ c :: r ∧ l.length = i ∧ (∀ d ∈ l, 128 ≤ d.toNat) ∧ c.toNat < 128
  | [], _, h => by cases h
  | c :: t, i, h => by
    simp only [fb] at h
    by_cases hc : c.toNat < 128
    · rw [if_pos hc] at h
      injection h with h
      exact ⟨[], c, t, rfl, h, fun _ h => (by cases h), hc⟩
    · rw [if_neg hc] at h
      cases hr : fb t with
      | none => rw [hr] at h; cases h
      | some j =>
        rw [hr] at h
        injection h with h
        obtain ⟨l, d, r, e, h1, h2, h3⟩ := fb_split hr
        exact ⟨c :: l, d, r, by rw [e]; rfl, by rw [List.length_cons, h1]; exact h, fun x hx => by
          rcases List.mem_cons.1 hx with rfl | hx
          · omega
          · exact h2 x hx, h3⟩

/-- The number with which bytes begin, and how many bytes it has. -/
def tk (t : List UInt8) : Option (Nat × Nat) := match fb t with
  | none => none
  | some i => if inF (i + 1) (t.getD i 0) then some (gv (t.take (i + 1)), i + 1) else none
theorem tk_there (u : Nat) (hu : u < 18446744073709551616) (r : List UInt8) : tk (vnt u ++ r) = some (u, (vnt u).length) := by
  obtain ⟨h1, h2, c, h3, h4, h5, h6⟩ := vntF_spec 9 u (by omega)
  have hl := vntF_le 9 u
  have hp := vntF_pos 9 u
  unfold tk vnt
  generalize vntF 9 u = l at *
  rw [fb_app r h1]
  have hi : l.length - 1 + 1 = l.length := by omega
  have hg : (l ++ r).getD (l.length - 1) 0 = c := by
    rw [List.getD_eq_getElem?_getD, List.getElem?_append_left (by omega), h3]; rfl
  have hF : inF (l.length - 1 + 1) c = true := by
    unfold inF
    rw [hi]
    have a1 : l.length ≤ 10 := by omega
    have a2 : l.length ≠ 10 ∨ c.toNat ≤ 1 := by
      by_cases h : l.length = 10
      · right
        rw [h] at h6
        have e : 128 ^ (10 - 1) = 9223372036854775808 := by decide
        rw [e] at h6
        omega
      · exact .inl h
    have a3 : c.toNat ≠ 0 ∨ l.length = 1 := by
      by_cases h : 1 < l.length
      · exact .inl (h4 h)
      · exact .inr (by omega)
    simp only [decide_eq_true a1, Bool.true_and, Bool.and_eq_true, Bool.or_eq_true, decide_eq_true_eq]
    exact ⟨a2, a3⟩
  simp only [hg, hF, if_true]
  rw [hi, List.take_left, h2]
theorem tk_back {t : List UInt8} {u k : Nat} (h : tk t = some (u, k)) : t = vnt u ++ t.drop k ∧ u < 18446744073709551616 ∧ 1 ≤ k ∧ k ≤ t.length ∧ k = (vnt u).length := by
  unfold tk at h
  cases hf : fb t with
  | none => rw [hf] at h; cases h
  | some i =>
    rw [hf] at h
    obtain ⟨l, c, s, rfl, h1, h2, h3⟩ := fb_split hf
    subst h1
    have hg : (l ++ c :: s).getD l.length 0 = c := by
      rw [List.getD_eq_getElem?_getD, List.getElem?_append_right (Nat.le_refl _)]; simp
    simp only [hg] at h
    by_cases hF : inF (l.length + 1) c = true
    · rw [if_pos hF] at h
      injection h with h
      injection h with e1 e2
      have hq : l ++ c :: s = (l ++ [c]) ++ s := by simp
      have hn : l.length + 1 = (l ++ [c]).length := by simp
      have ht : (l ++ c :: s).take (l.length + 1) = l ++ [c] := by rw [hq, hn, List.take_left]
      have hd : (l ++ c :: s).drop (l.length + 1) = s := by rw [hq, hn, List.drop_left]
      rw [ht] at e1
      subst e2
      rw [hd]
      unfold inF at hF
      simp only [Bool.and_eq_true, Bool.or_eq_true, decide_eq_true_eq] at hF
      obtain ⟨⟨a1, a2⟩, a3⟩ := hF
      have he := vnt_gv l c 9 h2 h3 (fun hne => by
        rcases a3 with a3 | a3
        · exact a3
        · exact absurd (List.eq_nil_of_length_eq_zero (by omega)) hne) (by omega)
      rw [e1] at he
      refine ⟨?_, ?_, by omega, by simp, by unfold vnt; rw [he]; simp⟩
      · unfold vnt; rw [he]; simp
      · have hlt := gv_lt l c
        rw [e1, Nat.mod_eq_of_lt h3] at hlt
        by_cases h9 : l.length = 9
        · have hc1 : c.toNat ≤ 1 := by omega
          rw [h9] at hlt
          have : 128 ^ 9 * (c.toNat + 1) ≤ 128 ^ 9 * 2 := Nat.mul_le_mul_left _ (by omega)
          omega
        · have h8 : 128 ^ l.length ≤ 128 ^ 8 := Nat.pow_le_pow_right (by omega) (by omega)
          have : 128 ^ l.length * (c.toNat + 1) ≤ 128 ^ 8 * 128 := Nat.mul_le_mul h8 (by omega)
          omega
    · rw [if_neg hF] at h; cases h
end Go.Proofs.YtfakgfmgofblgaaGreatDoor
namespace Go.Proofs.YtfakgfmgofblgaaGreatDoor

/-! ### Bytes in pieces -/

/-- The piece x. -/
def pc (t : List UInt8) (x : Nat) : List UInt8 := (t.drop (112 * x)).take 112
/-- How many pieces. -/
def pn (t : List UInt8) : Nat := (t.length + 111) / 112
def cutL (t : List UInt8) : List (List UInt8) := (List.range (pn t)).map (pc t)
theorem cut_len (t : List UInt8) : (cutL t).length = pn t := by simp [cutL]
theorem pc_len (t : List UInt8) (x : Nat) : (pc t x).length = min 112 (t.length - 112 * x) := by simp [pc]
theorem pc_le (t : List UInt8) (x : Nat) : (pc t x).length ≤ 112 := by rw [pc_len]; omega
theorem pcs_take (t : List UInt8) : ∀ k, ((List.range k).map (pc t)).flatten = t.take (112 * k)
  | 0 => by simp
  | k + 1 => by
    rw [List.range_succ, List.map_append, List.flatten_append, pcs_take t k, show 112 * (k + 1) = 112 * k + 112 by omega, List.take_add]
    simp [pc]
theorem cut_flat (t : List UInt8) : (cutL t).flatten = t := by
  unfold cutL
  rw [pcs_take, List.take_of_length_le (by unfold pn; omega)]
theorem cut_at (t : List UInt8) {x : Nat} (h : x < (cutL t).length) : (cutL t)[x] = pc t x := by simp [cutL]

/-! ### A commit's bytes -/

abbrev Rs := List (List UInt8)
abbrev Cs := List Rs
def rby (r : List UInt8) : List UInt8 := vnt r.length ++ r
def rsb (rs : Rs) : List UInt8 := (rs.map rby).flatten
/-- A commit's bytes. -/
def cby (rs : Rs) : List UInt8 := vnt rs.length ++ rsb rs
/-- So many records, and what is left. -/
def rcN : Nat → List UInt8 → Option (Rs × List UInt8)
  | 0, t => some ([], t)
  | n + 1, t => match tk t with
    | none => none
    | some (m, k) => if m ≤ t.length - k then (rcN n (t.drop (k + m))).map (fun x => ((t.drop k).take m :: x.1, x.2)) else none
/-- What is left of all. -/
def rcE : Option (Rs × List UInt8) → Option Rs
  | some (l, []) => some l
  | _ => none
/-- The records whose bytes these are. -/
def rc (t : List UInt8) : Option Rs := match tk t with
  | none => none
  | some (n, k) => rcE (rcN n (t.drop k))
/-- Numbers in it have room. -/
def okC (c : Rs) : Prop := c.length < 18446744073709551616 ∧ ∀ r ∈ c, r.length < 18446744073709551616
theorem rsb_cons (r : List UInt8) (rs : Rs) : rsb (r :: rs) = vnt r.length ++ (r ++ rsb rs) := by simp [rsb, rby]
theorem rsb_nil : rsb [] = [] := rfl
theorem rsb_app (a b : Rs) : rsb (a ++ b) = rsb a ++ rsb b := by simp [rsb]
theorem rcN_there : ∀ (rs : Rs) (t : List UInt8), (∀ r ∈ rs, r.length < 18446744073709551616) → rcN rs.length (rsb rs ++ t) = some (rs, t)
  | [], t, _ => rfl
  | r :: rs, t, h => by
    have ih := rcN_there rs t (fun x hx => h x (List.mem_cons_of_mem _ hx))
    have hr := h r (by simp)
    rw [rsb_cons, List.length_cons, rcN, List.append_assoc, tk_there _ hr]
    have h1 : r.length ≤ (vnt r.length ++ (r ++ rsb rs ++ t)).length - (vnt r.length).length := by simp
    simp only [if_pos h1]
    have h2 : (vnt r.length ++ (r ++ rsb rs ++ t)).drop ((vnt r.length).length + r.length) = rsb rs ++ t := by
      rw [← List.drop_drop, List.drop_left, List.append_assoc, List.drop_left]
    have h3 : ((vnt r.length ++ (r ++ rsb rs ++ t)).drop (vnt r.length).length).take r.length = r := by
      rw [List.drop_left, List.append_assoc, List.take_left]
    rw [h2, h3, ih]
    rfl
theorem rc_cby {rs : Rs} (h : okC rs) : rc (cby rs) = some rs := by
  unfold rc cby
  rw [tk_there _ h.1]
  simp only
  rw [List.drop_left]
  have := rcN_there rs [] h.2
  rw [List.append_nil] at this
  rw [this]
  rfl
theorem rc_nil : rc [] = none := rfl
theorem cby_pos (rs : Rs) : 0 < (cby rs).length := by
  unfold cby
  have := vnt_pos rs.length
  rw [List.length_append]
  omega
theorem pn_pos (rs : Rs) : 0 < pn (cby rs) := by
  have := cby_pos rs
  unfold pn
  omega

/-! ### What is read of frames -/

abbrev Fra := Nat → Option (Int × Int × List UInt8)
/-- What the frames from i on have, up to the next one that ends a commit. -/
def pcs (F : Fra) (e : Int) : Nat → Nat → Option (List (List UInt8))
  | 0, _ => none
  | k + 1, i => match F i with
    | none => none
    | some (K, N, P) => if N = e * 65536 + i then (if K = 3 then some [P] else if K = 2 then (pcs F e k (i + 1)).map (P :: ·) else none) else none
def rdc (F : Fra) (e : Int) (left i : Nat) : Option (Rs × Nat) := match pcs F e left i with
  | none => none
  | some ps => (rc ps.flatten).map fun r => (r, ps.length)
/-- All commits from u on, and where they end. -/
def rds (F : Fra) (e : Int) (slots : Nat) : Nat → Nat → Cs × Nat
  | 0, u => ([], u)
  | g + 1, u => match rdc F e (slots - u) u with
    | none => ([], u)
    | some (r, n) => (r :: (rds F e slots g (u + n)).1, (rds F e slots g (u + n)).2)
/-- The frame x of a commit whose first one stands in the slot i. -/
def fof (e : Int) (t : List UInt8) (i x : Nat) : Int × Int × List UInt8 := (if x + 1 = pn t then 3 else 2, e * 65536 + ((i + x : Nat) : Int), pc t x)
theorem fof_last (e : Int) {t : List UInt8} (i : Nat) {x : Nat} (h : x + 1 = pn t) : fof e t i x = (3, e * 65536 + ((i + x : Nat) : Int), pc t x) := by unfold fof; rw [if_pos h]
theorem fof_mid (e : Int) {t : List UInt8} (i : Nat) {x : Nat} (h : ¬ x + 1 = pn t) : fof e t i x = (2, e * 65536 + ((i + x : Nat) : Int), pc t x) := by unfold fof; rw [if_neg h]
def laidC (F : Fra) (e : Int) (i : Nat) (c : Rs) : Prop := ∀ x, x < pn (cby c) → F (i + x) = some (fof e (cby c) i x)
/-- Commits that stand from i on to j. -/
def laid (F : Fra) (e : Int) : Nat → Cs → Nat → Prop
  | i, [], j => i = j
  | i, c :: cs, j => laidC F e i c ∧ laid F e (i + pn (cby c)) cs j
def unfit (F : Fra) (e : Int) (j : Nat) : Prop := ∀ K N P, F j = some (K, N, P) → N ≠ e * 65536 + j
theorem pcs_from {F : Fra} {e : Int} {t : List UInt8} {i : Nat} (h : ∀ x, x < pn t → F (i + x) = some (fof e t i x)) :
    ∀ (d x k : Nat), x + d + 1 = pn t → d + 1 ≤ k → pcs F e k (i + x) = some ((cutL t).drop x)
  | d, x, 0, _, hk => by omega
  | d, x, k + 1, hx, hk => by
    have hl : x < (cutL t).length := by rw [cut_len]; omega
    rw [pcs, h x (by omega), List.drop_eq_getElem_cons hl, cut_at]
    cases d with
    | zero =>
      rw [fof_last e i (show x + 1 = pn t by omega), List.drop_eq_nil_of_le (by rw [cut_len]; omega)]
      simp
    | succ d =>
      rw [fof_mid e i (show ¬ x + 1 = pn t by omega)]
      simp only [if_true, show ¬ (2 : Int) = 3 by decide, if_false]
      have := pcs_from h d (x + 1) k (by omega) (by omega)
      rw [show i + x + 1 = i + (x + 1) by omega, this]
      rfl
theorem rdc_laid {F : Fra} {e : Int} {c : Rs} {i k : Nat} (h : laidC F e i c) (hk : pn (cby c) ≤ k) (ho : okC c) : rdc F e k i = some (c, pn (cby c)) := by
  have hp := pn_pos c
  have := pcs_from h (pn (cby c) - 1) 0 k (by omega) (by omega)
  unfold rdc
  rw [Nat.add_zero, List.drop_zero] at this
  rw [this]
  simp only
  rw [cut_flat, rc_cby ho, cut_len]
  rfl
theorem pcs_unfit {F : Fra} {e : Int} {j : Nat} (h : unfit F e j) (k : Nat) : pcs F e k j = none := by
  cases k with
  | zero => rfl
  | succ k =>
    rw [pcs]
    cases hF : F j with
    | none => rfl
    | some y =>
      obtain ⟨K, N, P⟩ := y
      simp only
      rw [if_neg (h K N P hF)]
theorem rdc_unfit {F : Fra} {e : Int} {j : Nat} (h : unfit F e j) (k : Nat) : rdc F e k j = none := by
  unfold rdc
  rw [pcs_unfit h]
theorem pcs_part {F : Fra} {e : Int} {t : List UInt8} {i x0 : Nat} (hx : x0 < pn t) (h : ∀ y, y < x0 → F (i + y) = some (fof e t i y)) (hu : unfit F e (i + x0)) :
    ∀ (d y k : Nat), y + d = x0 → pcs F e k (i + y) = none
  | 0, y, k, hy => by
    obtain rfl : y = x0 := by omega
    exact pcs_unfit hu k
  | d + 1, y, 0, hy => rfl
  | d + 1, y, k + 1, hy => by
    rw [pcs, h y (by omega)]
    rw [fof_mid e i (show ¬ y + 1 = pn t by omega)]
    simp only [if_true, show ¬ (2 : Int) = 3 by decide, if_false]
    have := pcs_part hx h hu d (y + 1) k (by omega)
    rw [show i + y + 1 = i + (y + 1) by omega, this]
    rfl
theorem rdc_part {F : Fra} {e : Int} {t : List UInt8} {i x0 : Nat} (hx : x0 < pn t) (h : ∀ y, y < x0 → F (i + y) = some (fof e t i y)) (hu : unfit F e (i + x0)) (k : Nat) : rdc F e k i = none := by
  have := pcs_part hx h hu x0 0 k (by omega)
  rw [Nat.add_zero] at this
  unfold rdc
  rw [this]
theorem rdc_zero (F : Fra) (e : Int) (i : Nat) : rdc F e 0 i = none := rfl
theorem rds_laid {F : Fra} {e : Int} {slots j : Nat} (hj : j ≤ slots) (hs : rdc F e (slots - j) j = none) : ∀ (cs : Cs) (i g : Nat), laid F e i cs j → cs.length < g → (∀ c ∈ cs, okC c) → rds F e slots g i = (cs, j)
  | [], i, g, h, hg, _ => by
    obtain rfl : i = j := h
    obtain ⟨g, rfl⟩ : ∃ k, g = k + 1 := ⟨g - 1, by simp at hg; omega⟩
    rw [rds, hs]
  | c :: cs, i, g, h, hg, ho => by
    obtain ⟨h1, h2⟩ := h
    obtain ⟨g, rfl⟩ : ∃ k, g = k + 1 := ⟨g - 1, by simp at hg; omega⟩
    have hle : ∀ (cs : Cs) (i : Nat), laid F e i cs j → i ≤ j := by
      intro cs
      induction cs with
      | nil => intro i h; exact Nat.le_of_eq h
      | cons c cs ih => intro i h; have := ih _ h.2; omega
    have := hle cs _ h2
    rw [rds, rdc_laid h1 (by omega) (ho c (by simp))]
    simp only
    rw [rds_laid hj hs cs _ g h2 (by simp at hg; omega) (fun c hc => ho c (List.mem_cons_of_mem _ hc))]
theorem laid_le {F : Fra} {e : Int} {j : Nat} : ∀ (cs : Cs) (i : Nat), laid F e i cs j → i + cs.length ≤ j
  | [], i, h => Nat.le_of_eq h
  | c :: cs, i, h => by
    have := laid_le cs _ h.2
    have := pn_pos c
    simp
    omega
theorem laid_snoc {F : Fra} {e : Int} {j : Nat} {c : Rs} (hc : laidC F e j c) : ∀ (cs : Cs) (i : Nat), laid F e i cs j → laid F e i (cs ++ [c]) (j + pn (cby c))
  | [], i, h => by
    obtain rfl : i = j := h
    exact ⟨hc, rfl⟩
  | d :: cs, i, h => ⟨h.1, laid_snoc hc cs _ h.2⟩
/-- What is laid says so of each slot. -/
theorem laid_at {F : Fra} {e : Int} {j : Nat} : ∀ (cs : Cs) (i : Nat), laid F e i cs j → ∀ y, i ≤ y → y < j → ∃ K P, F y = some (K, e * 65536 + y, P)
  | [], i, h, y, h1, h2 => by have : i = j := h; omega
  | c :: cs, i, h, y, h1, h2 => by
    by_cases hy : y < i + pn (cby c)
    · have := h.1 (y - i) (by omega)
      rw [show i + (y - i) = y by omega] at this
      refine ⟨(fof e (cby c) i (y - i)).1, (fof e (cby c) i (y - i)).2.2, this.trans ?_⟩
      simp only [fof, show i + (y - i) = y by omega]
    · exact laid_at cs _ h.2 y (by omega) h2
theorem laid_same {F G : Fra} {e : Int} {j : Nat} : ∀ (cs : Cs) (i : Nat), laid F e i cs j → (∀ y, i ≤ y → y < j → G y = F y) → laid G e i cs j
  | [], i, h, _ => h
  | c :: cs, i, h, hG => by
    have hl := laid_le cs _ h.2
    exact ⟨fun x hx => (hG _ (by omega) (by omega)).trans (h.1 x hx), laid_same cs _ h.2 (fun y h1 h2 => hG y (by omega) h2)⟩
end Go.Proofs.YtfakgfmgofblgaaGreatDoor
namespace Go.Proofs.YtfakgfmgofblgaaGreatDoor
open Go.RowKit
set_option linter.unusedVariables false      -- a walk need not use every condition

theorem info22 : (Tryz.prog.info? 29).map (fun i => (i.zero, i.size, i.bytes)) = some (some (.slice none 0 0), 1, 24) := by kernel_rfl
/-- A row of one's own of bytes of one's own. -/
def RowB (w : World) (base : Nat) (v : Value) (L : List (List UInt8)) : Prop :=
  ∃ vs : List Value, w.ownsRow base 29 1 v L.length vs ∧ ∀ i (h : i < L.length), ∃ x, vs[i]? = some x ∧ Bts w base x L[i]
theorem rowB_nil (w : World) (base : Nat) : RowB w base (.slice none 0 0) [] := ⟨[], World.ownsRow_nil _ _ _ _, fun i h => absurd h (Nat.not_lt_zero _)⟩
theorem RowB.bss {w : World} {base : Nat} {v : Value} {L : List (List UInt8)} (h : RowB w base v L) : Bss w v L := by
  obtain ⟨vs, ho, he⟩ := h
  rcases ho.2 with ⟨rfl, h0⟩ | ⟨g, cap, cur, rfl, hbg, hg, hnc, hcm, hcs, htake⟩
  · have : L = [] := List.eq_nil_of_length_eq_zero h0
    subst this
    exact ⟨none, 0, rfl, .inl rfl⟩
  · refine ⟨_, cap, rfl, .inr ⟨g, 0, rfl, fun i hi => ?_⟩⟩
    obtain ⟨x, hx, hB⟩ := he i hi
    have := ho.cells (g := g) rfl i x hx
    rw [Go.WideShapes.add_plain] at this
    exact ⟨x, this, hB.bs⟩
theorem own_bel {w w' : World} {base : Nat} {e : TypeId} {size : Nat} {v : Value} {n : Nat} {xs : List Value} (h : w.ownsRow base e size v n xs) (hb : Below w.heap.size w w') : w'.ownsRow base e size v n xs := by
  refine World.ownsRow.kept h (gr_bel hb none) ?_
  cases hv : v.ownBlock with
  | none => exact .inl rfl
  | some g => exact .inr (by simp)
theorem RowB.on {w w' : World} {base : Nat} {v : Value} {L : List (List UInt8)} (h : RowB w base v L) (hb : Below w.heap.size w w') : RowB w' base v L := by
  obtain ⟨vs, ho, he⟩ := h
  refine ⟨vs, own_bel ho hb, fun i hi => ?_⟩
  obtain ⟨x, hx, hB⟩ := he i hi
  exact ⟨x, hx, hB.on hb⟩
/-- Rows of two types are not one. -/
theorem own_types {w : World} {b1 b2 : Nat} {e1 e2 : TypeId} {s1 s2 : Nat} {v1 v2 : Value} {n1 n2 : Nat} {x1 x2 : List Value} (h1 : w.ownsRow b1 e1 s1 v1 n1 x1) (h2 : w.ownsRow b2 e2 s2 v2 n2 x2) (hne : e1 ≠ e2) : v1.ownBlock = none ∨ v1.ownBlock ≠ v2.ownBlock := by
  rcases h1.2 with ⟨rfl, -⟩ | ⟨g, cap, cur, rfl, -, hg, -⟩
  · exact .inl rfl
  · refine .inr fun e => ?_
    rcases h2.2 with ⟨rfl, -⟩ | ⟨g2, cap2, cur2, rfl, -, hg2, -⟩
    · cases e
    · injection e with e
      have e : g = g2 := e
      subst e
      rw [hg] at hg2
      injection hg2 with hg2
      injection hg2 with _ hg2
      exact hne hg2
theorem own_nc {X Y : World} {base : Nat} {e : TypeId} {size : Nat} {v : Value} {n : Nat} {xs : List Value} {row : Option Nat} (h : X.ownsRow base e size v n xs) (hg : X.grownBy Y row) (hrow : ∀ r, row = some r → ∃ o : Obj, X.heap[r]? = some o ∧ o.isCells = false) : Y.ownsRow base e size v n xs := by
  refine h.kept hg ?_
  rcases h.2 with ⟨rfl, _⟩ | ⟨g, cap, cur, rfl, _, hgb, _⟩
  · exact .inl rfl
  · refine .inr fun e' => ?_
    obtain ⟨o, ho, hc⟩ := hrow g (by simpa [Value.ownBlock] using e'.symm)
    rw [hgb] at ho; cases ho; cases hc
theorem RowB.nc {X Y : World} {base : Nat} {v : Value} {L : List (List UInt8)} {row : Option Nat} (h : RowB X base v L) (hg : X.grownBy Y row) (hrow : ∀ r, row = some r → ∃ o : Obj, X.heap[r]? = some o ∧ o.isCells = false) : RowB Y base v L := by
  obtain ⟨vs, ho, he⟩ := h
  refine ⟨vs, own_nc ho hg hrow, fun i hi => ?_⟩
  obtain ⟨x, hx, hB⟩ := he i hi
  exact ⟨x, hx, own_nc hB hg hrow⟩
/-- A box of another type is set. -/
theorem RowB.set {X : World} {base B : Nat} {v u : Value} {L : List (List UInt8)} (h : RowB X base v L) (hb : Boxed X B 127 u) (u' : Value) : RowB (X.setCell ⟨B, 0, none⟩ u') base v L := by
  obtain ⟨vs, ho, he⟩ := h
  refine ⟨vs, ho.kept (grownBy_setCell' X B u') (.inr (hb.not_row (by decide) ho).symm), fun i hi => ?_⟩
  obtain ⟨x, hx, hB⟩ := he i hi
  exact ⟨x, hx, World.ownsRow.kept hB (grownBy_setCell' X B u') (.inr (hb.not_row (by decide) hB).symm)⟩
theorem row_app (w : World) (base g0 : Nat) (v y : Value) (L : List (List UInt8)) (u : List UInt8) (h : RowB w base v L) (hu : Bts w base y u) (hy : w.cell? ⟨g0, 0, none⟩ = some y) (hbase : base ≤ w.heap.size) (hlen : L.length + 1 ≤ 4398046511104) (ty : TypeId) :
    ∃ v' w', (Builtin.append_ #[127, 127] ty #[v, .slice (some ⟨g0, 0, none⟩) 1 1]).run Tryz.prog w = .ok v' w' ∧ RowB w' base v' (L ++ [u]) ∧ w.grownBy w' v.ownBlock ∧ (∃ g cap, v' = .slice (some ⟨g, 0, none⟩) (L.length + 1) cap) := by
  obtain ⟨i0, hi, hz0, hz1, hz2⟩ := info_parts info22
  obtain ⟨vs, ho, he⟩ := h
  have hy1 : y.oneCell' = true := by obtain ⟨p, c, rfl, -⟩ := hu.bs; rfl
  have hvs : vs.length = L.length := by have := ho.1; omega
  obtain ⟨v', w', hr, hown, hg, -⟩ := run_append_own (P := Tryz.prog) w base 127 ty 29 i0 (.slice none 0 0) 1 24 Tryz.underlying127 hi hz0 hz1 hz2 rfl (by decide) v L.length vs ho ⟨g0, 0, none⟩ 1 1 [y] rfl
    (fun j z hz => by
      cases j with
      | zero => simp at hz; subst hz; rw [Go.WideShapes.add_plain]; exact hy
      | succ j => simp at hz)
    (fun z hz => by simp at hz; subst hz; exact hy1) (by unfold maxLen; omega) (by omega) hbase
  refine ⟨v', w', hr, ⟨vs ++ [y], by rw [List.length_append]; exact hown, fun i hi => ?_⟩, hg, ownsRow_succ hown⟩
  have kp : ∀ {x : Value} {t : List UInt8}, Bts w base x t → Bts w' base x t := fun hB => World.ownsRow.kept hB hg (own_types hB ho (by decide))
  rw [List.length_append, List.length_singleton] at hi
  by_cases hl : i < L.length
  · obtain ⟨x, hx, hB⟩ := he i hl
    exact ⟨x, by rw [List.getElem?_append_left (by omega)]; exact hx, by rw [List.getElem_append_left hl]; exact kp hB⟩
  · obtain rfl : i = L.length := by omega
    exact ⟨y, by rw [List.getElem?_append_right (by omega), hvs, Nat.sub_self]; rfl, by simpa using kp hu⟩
theorem Bts.mono {w : World} {b b' : Nat} {v : Value} {t : List UInt8} (h : Bts w b' v t) (hb : b ≤ b') : Bts w b v t := by
  refine ⟨h.1, ?_⟩
  rcases h.2 with h | ⟨g, cap, cur, rfl, hbg, r⟩
  · exact .inl h
  · exact .inr ⟨g, cap, cur, rfl, Nat.le_trans hb hbg, r⟩
end Go.Proofs.YtfakgfmgofblgaaGreatDoor
namespace Go.Proofs.YtfakgfmgofblgaaGreatDoor
open Go.RowKit
set_option linter.unusedVariables false      -- a walk need not use every condition
attribute [local go_sem ↓] Go.wp_at_zero Go.wp_at_succ

theorem range_take {w : World} {g o : Nat} {t : List UInt8} (h : w.rangeAt g o (enc t)) (n : Nat) : w.rangeAt g o (enc (t.take n)) := fun j v hv => by
  refine h j v ?_
  unfold enc at *
  rw [List.map_take, List.getElem?_take] at hv
  split at hv
  · exact hv
  · cases hv
theorem range_drop {w : World} {g o : Nat} {t : List UInt8} (h : w.rangeAt g o (enc t)) (n : Nat) : w.rangeAt g (o + n) (enc (t.drop n)) := fun j v hv => by
  unfold enc at *
  rw [List.map_drop, List.getElem?_drop] at hv
  have := h (n + j) v hv
  rwa [← Nat.add_assoc] at this
/-- A piece that is sliced off, of whatever room. -/
theorem bs_take {w : World} {g o cap n c : Nat} {t : List UInt8} (h : Bs w (.slice (some ⟨g, o, none⟩) t.length cap) t) (hn : n ≤ t.length) (hc : n ≤ c) (hc2 : c ≤ cap) : Bs w (.slice (some ⟨g, o, none⟩) n c) (t.take n) := by
  obtain ⟨p, cap', e, h1, h2, h3, h4⟩ := h
  injection e with e1 e2 e3
  subst e1 e3
  refine ⟨_, c, by rw [List.length_take, Nat.min_eq_left hn], by rw [List.length_take]; omega, by omega, fun e => (by cases e), ?_⟩
  rcases h4 with rfl | ⟨g', o', e, hr⟩
  · exact .inl (by simp)
  · injection e with e
    injection e with e1 e2
    subst e1 e2
    exact .inr ⟨_, _, rfl, range_take hr n⟩
theorem bs_drop {w : World} {g o cap n : Nat} {t : List UInt8} (h : Bs w (.slice (some ⟨g, o, none⟩) t.length cap) t) (hn : n ≤ t.length) : Bs w (.slice (some ⟨g, o + n, none⟩) (t.length - n) (cap - n)) (t.drop n) := by
  obtain ⟨p, cap', e, h1, h2, h3, h4⟩ := h
  injection e with e1 e2 e3
  subst e1 e3
  refine ⟨_, cap - n, by rw [List.length_drop], by rw [List.length_drop]; omega, by omega, fun e => (by cases e), ?_⟩
  rcases h4 with rfl | ⟨g', o', e, hr⟩
  · exact .inl (by simp)
  · injection e with e
    injection e with e1 e2
    subst e1 e2
    exact .inr ⟨_, _, rfl, range_drop hr n⟩
/-- Bytes, one of them at least, lie at an address. -/
theorem bs_some {w : World} {v : Value} {t : List UInt8} (h : Bs w v t) (h0 : 0 < t.length) : ∃ g o cap, v = .slice (some ⟨g, o, none⟩) t.length cap ∧ t.length ≤ cap ∧ cap ≤ maxLen := by
  obtain ⟨p, cap, rfl, h1, h2, h3, h4⟩ := h
  obtain ⟨g, o, rfl, -⟩ := h4.resolve_left (fun e => by rw [e] at h0; simp at h0)
  exact ⟨g, o, cap, rfl, h1, h2⟩
theorem cell_new (w : World) (y : Value) (t : TypeId) : (w.alloc (.cells #[y] t)).cell? ⟨w.heap.size, 0, none⟩ = some y := (Boxed.new w t y).cell
theorem RowB.bel {w1 w2 : World} {base : Nat} {v : Value} {L : List (List UInt8)} {o : Obj} (h : RowB w1 base v L) (hg : (w1.alloc o).grownBy w2 v.ownBlock) (hbase : base ≤ w1.heap.size) : Below base w1 w2 := by
  obtain ⟨vs, ho, -⟩ := h
  exact ((Below.refl base w1).alloc hbase o).grown hg (by simp; omega) (fun j e => (World.ownsRow.lt ho j e).1)
end Go.Proofs.YtfakgfmgofblgaaGreatDoor
namespace Go.Proofs.YtfakgfmgofblgaaGreatDoor
open Go.RowKit

theorem Bs.slice {w : World} {v : Value} {t : List UInt8} (h : Bs w v t) : ∃ p cap, v = .slice p t.length cap ∧ t.length ≤ cap ∧ t.length ≤ 9223372036854775807 := by
  obtain ⟨p, cap, e, h1, h2, -⟩ := h
  unfold maxLen at h2
  exact ⟨p, cap, e, h1, by omega⟩
theorem enc_get {t : List UInt8} {i : Nat} (h : i < t.length) : (enc t)[i]? = some (.int .u8 t[i].toNat) := by simp [enc, h]
theorem Bs.cells {w : World} {v : Value} {t : List UInt8} (h : Bs w v t) (h0 : t ≠ []) : ∃ g o cap, v = .slice (some ⟨g, o, none⟩) t.length cap ∧ t.length ≤ cap ∧ t.length ≤ 9223372036854775807 ∧ ∀ i (hi : i < t.length), w.cell? ⟨g, o + i, none⟩ = some (.int .u8 t[i].toNat) := by
  obtain ⟨p, cap, rfl, h1, h2, h3, h4⟩ := h
  unfold maxLen at h2
  rcases h4 with h4 | ⟨g, o, rfl, hc⟩
  · exact absurd h4 h0
  · exact ⟨g, o, cap, rfl, h1, by omega, fun i hi => hc i _ (enc_get hi)⟩
/-- The first n of them. -/
theorem Bs.take {w : World} {p : Option Addr} {t : List UInt8} {cap n : Nat} (h : Bs w (.slice p t.length cap) t) (hn : n ≤ t.length) : Bs w (.slice p n cap) (t.take n) := by
  obtain ⟨p', cap', e, h1, h2, h3, h4⟩ := h
  injection e with e1 e2 e3
  subst e1 e3
  have hl : (t.take n).length = n := by simp; omega
  refine ⟨p, cap, by rw [hl], by omega, h2, h3, ?_⟩
  rcases h4 with rfl | ⟨g, o, rfl, hc⟩
  · exact .inl (by simp)
  · exact .inr ⟨g, o, rfl, range_take hc n⟩
/-- All but the first n. -/
theorem Bs.drop {w : World} {p : Option Addr} {t : List UInt8} {cap n : Nat} (h : Bs w (.slice p t.length cap) t) (hn : n ≤ t.length) : Bs w (.slice (if cap = n then p else p.map (·.add n)) (t.length - n) (cap - n)) (t.drop n) := by
  obtain ⟨p', cap', e, h1, h2, h3, h4⟩ := h
  injection e with e1 e2 e3
  subst e1 e3
  refine ⟨_, cap - n, by rw [List.length_drop], by rw [List.length_drop]; omega, by omega, fun e => ?_, ?_⟩
  · by_cases hcn : cap = n
    · omega
    · rw [if_neg hcn] at e
      have : p = none := by simpa using e
      have := h3 this
      omega
  · by_cases hd : t.length = n
    · exact .inl (List.drop_eq_nil_of_le (by omega))
    · rcases h4 with rfl | ⟨g, o, rfl, hc⟩
      · exact .inl (by simp)
      · refine .inr ⟨g, o + n, by rw [if_neg (by omega)]; simp [go_sem], range_drop hc n⟩
/-- A byte that was just laid. -/
theorem bs_one (w : World) (c : UInt8) {x : Int} (hx : x = c.toNat) : Bs (w.alloc (.cells #[.int .u8 x] 5)) (.slice (some ⟨w.heap.size, 0, none⟩) 1 1) [c] := by
  subst hx
  refine ⟨_, 1, rfl, by simp, by unfold maxLen; omega, fun e => (by cases e), .inr ⟨_, _, rfl, fun j v hv => ?_⟩⟩
  cases j with
  | zero =>
    simp [enc] at hv
    subst hv
    exact cell_new w _ _
  | succ j => simp [enc] at hv
end Go.Proofs.YtfakgfmgofblgaaGreatDoor
