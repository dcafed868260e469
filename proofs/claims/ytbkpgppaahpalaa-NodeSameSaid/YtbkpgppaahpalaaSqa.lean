/-
  Same of package node, of any two nodes.
-/
import Derived.Test.YtbkpgppaahpalaaBeg
import Derived.BigQuiet
namespace Go.Proofs.Ytbkpgppaahpalaa
open Go.RowKit
set_option linter.unusedVariables false      -- a walk need not use every condition

/-- Two lists are as long and the same, place by place. -/
def lEq {α : Type} (f : α → α → Bool) : List α → List α → Bool
  | [], [] => true
  | a :: l, b :: m => f a b && lEq f l m
  | _, _ => false
theorem lEq_len {α : Type} {f : α → α → Bool} : ∀ {l m : List α}, lEq f l m = true → l.length = m.length
  | [], [], _ => rfl
  | a :: l, b :: m, h => by
    unfold lEq at h
    simp only [Bool.and_eq_true] at h
    simp [lEq_len h.2]
  | [], b :: m, h => by simp [lEq] at h
  | a :: l, [], h => by simp [lEq] at h
theorem lEq_at {α : Type} {f : α → α → Bool} : ∀ {l m : List α}, lEq f l m = true → ∀ i (hl : i < l.length) (hm : i < m.length), f l[i] m[i] = true
  | [], _, _, i, hl, _ => absurd hl (Nat.not_lt_zero _)
  | a :: l, [], h, i, _, hm => absurd hm (Nat.not_lt_zero _)
  | a :: l, b :: m, h, 0, _, _ => by
    unfold lEq at h
    simp only [Bool.and_eq_true] at h
    exact h.1
  | a :: l, b :: m, h, i + 1, hl, hm => by
    unfold lEq at h
    simp only [Bool.and_eq_true] at h
    exact lEq_at h.2 i (by simpa using hl) (by simpa using hm)
theorem lEq_true {α : Type} {f : α → α → Bool} : ∀ {l m : List α}, l.length = m.length → (∀ i (hl : i < l.length) (hm : i < m.length), f l[i] m[i] = true) → lEq f l m = true
  | [], [], _, _ => rfl
  | [], b :: m, h, _ => by simp at h
  | a :: l, [], h, _ => by simp at h
  | a :: l, b :: m, h, hi => by
    unfold lEq
    simp only [Bool.and_eq_true]
    exact ⟨hi 0 (by simp) (by simp), lEq_true (by simpa using h) fun i hl hm => hi (i + 1) (by simpa using hl) (by simpa using hm)⟩
theorem lEq_no_len {α : Type} {f : α → α → Bool} {l m : List α} (h : l.length ≠ m.length) : lEq f l m = false := by
  cases e : lEq f l m with
  | false => rfl
  | true => exact absurd (lEq_len e) h
theorem lEq_no_at {α : Type} {f : α → α → Bool} {l m : List α} {i : Nat} (hl : i < l.length) (hm : i < m.length) (h : f l[i] m[i] = false) : lEq f l m = false := by
  cases e : lEq f l m with
  | false => rfl
  | true => rw [lEq_at e i hl hm] at h; cases h
theorem lEq_self {α : Type} {f : α → α → Bool} (hf : ∀ a, f a a = true) : ∀ (l : List α), lEq f l l = true
  | [] => rfl
  | a :: l => by unfold lEq; simp only [Bool.and_eq_true]; exact ⟨hf a, lEq_self hf l⟩
def cEq (x y : C) : Bool := (x.key == y.key) && (x.val == y.val) && decide (x.over = y.over) && decide (x.len = y.len)
def kEq (x y : List UInt8) : Bool := x == y
def iEq (x y : Int) : Bool := decide (x = y)
def nEq (a b : Nd) : Bool := (a.leaf == b.leaf) && lEq cEq a.cells b.cells && lEq kEq a.keys b.keys && lEq iEq a.kids b.kids
theorem cEq_self (x : C) : cEq x x = true := by simp [cEq]
theorem nEq_self (a : Nd) : nEq a a = true := by
  unfold nEq
  rw [lEq_self cEq_self, lEq_self (fun x => by simp [kEq]), lEq_self (fun x => by simp [iEq])]
  simp
set_option maxHeartbeats 4000000 in
set_option maxRecDepth 100000 in
theorem equal59 (w : World) (v u : Value) (L M : List Int) (hv : Is w v L) (hu : Is w u M) :
    Calls Try.prog 59 #[v, u] w fun e w' => e = .returned (.bool (lEq iEq L M)) ∧ Below w.heap.size w w' := by
  have HV := Lib.hid hv
  have HU := Lib.hid hu
  obtain ⟨p, cp, rfl, -, lp⟩ := hv.hdr
  obtain ⟨q, cq, rfl, -, lq⟩ := hu.hdr
  clear hv hu
  obtain ⟨r, hr⟩ : ∃ r, lEq iEq L M = r := ⟨_, rfl⟩
  rw [hr]
  have HR := Lib.hid hr
  clear hr
  by_cases hlen : L.length = M.length
  case neg =>
    have hr := HR.out
    rw [lEq_no_len hlen] at hr
    subst hr
    have hz : ¬ (L.length : Int) = (M.length : Int) := by omega
    go_enter Try.func59, Try.ntmps59
    go_wp2
    go_ret
    exact ⟨rfl, Below.refl _ _⟩
  case pos =>
    have HL := Lib.hid hlen
    rw [← hlen] at HU ⊢
    obtain ⟨N, hN⟩ : ∃ N, L.length = N := ⟨_, rfl⟩
    rw [hN] at HV HU lp ⊢
    have HN := Lib.hid hN
    clear hlen hN lq
    go_enter Try.func59, Try.ntmps59
    go_wp2
    go_loopg [13] N (fun g s13 wr => ∃ i : Nat, i + g = N ∧ s13 = .int .i64 i ∧ Hid (Below w.heap.size w wr) ∧ Hid (∀ j (hj : j < i) (h1 : j < L.length) (h2 : j < M.length), iEq L[j] M[j] = true))
    case atStart => exact ⟨0, by omega, rfl, Below.refl _ _, fun j hj => absurd hj (Nat.not_lt_zero _)⟩
    case round =>
      obtain ⟨i, hig, rfl, hb, hall⟩ := hrel
      cases gk with
      | zero =>
        obtain rfl : i = N := by omega
        have hr : r = true := HR.out.symm.trans (lEq_true HL.out (fun j h1 h2 => hall.out j (by have := HN.out; omega) h1 h2))
        subst hr
        clear hall
        go_wp2
        go_ret
        exact ⟨rfl, hb.out⟩
      | succ g =>
        have hi : i < L.length := by have := HN.out; omega
        have hi2 : i < M.length := by have := HN.out; have := HL.out; omega
        have hiz : (i : Int) < (N : Int) := by omega
        have hi0 : (0 : Int) ≤ (i : Int) := by omega
        obtain ⟨b, o, c0, e, hx, hI⟩ := (HV.out.on hb.out).at hi
        obtain ⟨b', o', c0', e', hx', hI'⟩ := (HU.out.on hb.out).at hi2
        injection e with e1 e2 e3
        injection e' with e1' e2' e3'
        subst e1 e3 e1' e3'
        by_cases hq : L[i] = M[i]
        case pos =>
          have hall' := Lib.hid (show ∀ j (hj : j < i + 1) (h1 : j < L.length) (h2 : j < M.length), iEq L[j] M[j] = true from fun j hj h1 h2 => by
            by_cases h : j < i
            · exact hall.out j h h1 h2
            · obtain rfl : j = i := by omega
              simp [iEq, hq])
          clear hall e2 e2'
          rw [hq] at hx
          generalize M[i] = U at *
          clear hI' hI hq
          go_wp2
          go_region_with (fail)
          all_goals
            go_wp2
            go_roundg g
            case measure => omega
            case rel => exact ⟨i + 1, by omega, by first | rfl | simp, hb.out.drew, hall'.out⟩
        case neg =>
          have hr : r = false := HR.out.symm.trans (lEq_no_at hi hi2 (show iEq L[i] M[i] = false by simp [iEq, hq]))
          subst hr
          clear hall e2 e2'
          generalize M[i] = U at *
          generalize L[i] = V at *
          go_wp2
          go_region_with (fail)
          all_goals
            go_wp2
            go_ret
            exact ⟨rfl, hb.out.drew⟩
set_option maxHeartbeats 4000000 in
set_option maxRecDepth 100000 in
theorem eqf58 (w : World) (v u : Value) (L M : List (List UInt8)) (hv : Ks w v L) (hu : Ks w u M) :
    Calls Try.prog 58 #[v, u, .func (.func 17) #[] #[]] w fun e w' => e = .returned (.bool (lEq kEq L M)) ∧ Below w.heap.size w w' := by
  have c17 := equal17
  have HV := Lib.hid hv
  have HU := Lib.hid hu
  obtain ⟨p, cp, rfl, -, lp⟩ := hv.hdr
  obtain ⟨q, cq, rfl, -, lq⟩ := hu.hdr
  clear hv hu
  obtain ⟨r, hr⟩ : ∃ r, lEq kEq L M = r := ⟨_, rfl⟩
  rw [hr]
  have HR := Lib.hid hr
  clear hr
  by_cases hlen : L.length = M.length
  case neg =>
    have hr := HR.out
    rw [lEq_no_len hlen] at hr
    subst hr
    have hz : ¬ (L.length : Int) = (M.length : Int) := by omega
    go_enter Try.func58, Try.ntmps58
    go_wp2
    go_ret
    exact ⟨rfl, Below.refl _ _⟩
  case pos =>
    have HL := Lib.hid hlen
    rw [← hlen] at HU ⊢
    obtain ⟨N, hN⟩ : ∃ N, L.length = N := ⟨_, rfl⟩
    rw [hN] at HV HU lp ⊢
    have HN := Lib.hid hN
    clear hlen hN lq
    go_enter Try.func58, Try.ntmps58
    go_wp2
    go_loopg [17] N (fun g s17 wr => ∃ i : Nat, i + g = N ∧ s17 = .int .i64 i ∧ Hid (Below w.heap.size w wr) ∧ Hid (∀ j (hj : j < i) (h1 : j < L.length) (h2 : j < M.length), kEq L[j] M[j] = true))
    case atStart => exact ⟨0, by omega, rfl, Below.refl _ _, fun j hj => absurd hj (Nat.not_lt_zero _)⟩
    case round =>
      obtain ⟨i, hig, rfl, hb, hall⟩ := hrel
      cases gk with
      | zero =>
        obtain rfl : i = N := by omega
        have hr : r = true := HR.out.symm.trans (lEq_true HL.out (fun j h1 h2 => hall.out j (by have := HN.out; omega) h1 h2))
        subst hr
        clear hall
        go_wp2
        go_ret
        exact ⟨rfl, hb.out⟩
      | succ g =>
        have hi : i < L.length := by have := HN.out; omega
        have hi2 : i < M.length := by have := HN.out; have := HL.out; omega
        have hiz : (i : Int) < (N : Int) := by omega
        have hi0 : (0 : Int) ≤ (i : Int) := by omega
        obtain ⟨b, o, c0, k, e, hx, hk⟩ := (HV.out.on hb.out).at hi
        obtain ⟨b', o', c0', k', e', hx', hk'⟩ := (HU.out.on hb.out).at hi2
        injection e with e1 e2 e3
        injection e' with e1' e2' e3'
        subst e1 e3 e1' e3'
        have hq := lEq_no_at (f := kEq) hi hi2
        have hall' := fun (hq : kEq L[i] M[i] = true) => (show ∀ j (hj : j < i + 1) (h1 : j < L.length) (h2 : j < M.length), kEq L[j] M[j] = true from fun j hj h1 h2 => by
            by_cases h : j < i
            · exact hall.out j h h1 h2
            · obtain rfl : j = i := by omega
              exact hq)
        have HQ := Lib.hid hq
        replace hall' := Lib.hid hall'
        clear hall e2 e2' hq
        have HK := Lib.hid hk
        have HK' := Lib.hid hk'
        unfold kEq at HQ hall'
        generalize L[i] = X at *
        generalize M[i] = Y at *
        obtain ⟨xp, xc, rfl, -⟩ := hk
        obtain ⟨yp, yc, rfl, -⟩ := hk'
        cases hqq : X == Y with
        | true =>
          have h9 := hall'.out hqq
          clear HQ hall'
          have HA := Lib.hid h9
          clear h9
          go_wp2_with (go_at_call 17; refine (c17 _ _ _ _ _ HK.out HK'.out).mono ?_; rintro e w1 ⟨rfl, rfl⟩; rw [hqq])
          go_roundg g
          case measure => omega
          case rel => exact ⟨i + 1, by omega, by first | rfl | simp, hb.out, fun j hj h1 h2 => HA.out j hj h1 h2⟩
        | false =>
          have hr : r = false := HR.out.symm.trans (HQ.out hqq)
          subst hr
          clear HQ hall'
          go_wp2_with (go_at_call 17; refine (c17 _ _ _ _ _ HK.out HK'.out).mono ?_; rintro e w1 ⟨rfl, rfl⟩; rw [hqq])
          go_ret
          exact ⟨rfl, hb.out⟩
set_option maxHeartbeats 4000000 in
set_option maxRecDepth 100000 in
theorem sameCell57 (w : World) (a b : Value) (x y : C) (ha : CeS w a x) (hb : CeS w b y) :
    Calls Try.prog 57 #[a, b] w fun e w' => e = .returned (.bool (cEq x y)) ∧ Below w.heap.size w w' := by
  have c17 := equal17
  obtain ⟨k, v, rfl, hk, hv, ho, hl⟩ := ha
  obtain ⟨k', v', rfl, hk', hv', ho', hl'⟩ := hb
  have HK := Lib.hid hk
  have HK' := Lib.hid hk'
  have HV := Lib.hid hv
  have HV' := Lib.hid hv'
  obtain ⟨p1, d1, rfl, -⟩ := hk
  obtain ⟨p2, d2, rfl, -⟩ := hk'
  obtain ⟨p3, d3, rfl, -⟩ := hv
  obtain ⟨p4, d4, rfl, -⟩ := hv'
  obtain ⟨A, hA⟩ : ∃ A, A = Obj.cells #[.slice p1 x.key.length d1, .slice p3 x.val.length d3, .int .i64 x.over, .int .i64 x.len] 44 := ⟨_, rfl⟩
  obtain ⟨B, hB⟩ : ∃ B, B = Obj.cells #[.slice p2 y.key.length d2, .slice p4 y.val.length d4, .int .i64 y.over, .int .i64 y.len] 44 := ⟨_, rfl⟩
  have HB0 : Hid (Below w.heap.size w ((w.alloc A).alloc B)) := bel_then (bel1 _ _) (bel1 _ _)
  rw [hA, hB] at HB0
  clear hA hB A B
  unfold cEq
  cases h1 : x.key == y.key with
  | false =>
    go_enter Try.func57, Try.ntmps57
    go_wp2_with (go_at_call 17; refine (c17 _ _ _ _ _ (HK.out.on HB0.out) (HK'.out.on HB0.out)).mono ?_; rintro e w1 ⟨rfl, rfl⟩; rw [h1])
    go_ret
    exact ⟨rfl, HB0.out⟩
  | true =>
    cases h2 : x.val == y.val with
    | false =>
      have tk : True := trivial
      go_enter Try.func57, Try.ntmps57
      go_wp2_with (first
        | (go_at_call 17; clear tk; refine (c17 _ _ _ _ _ (HK.out.on HB0.out) (HK'.out.on HB0.out)).mono ?_; rintro e w1 ⟨rfl, rfl⟩; rw [h1])
        | (go_at_call 17; refine (c17 _ _ _ _ _ (HV.out.on HB0.out) (HV'.out.on HB0.out)).mono ?_; rintro e w1 ⟨rfl, rfl⟩; rw [h2]))
      go_ret
      exact ⟨rfl, HB0.out⟩
    | true =>
      generalize x.over = X3 at *
      generalize y.over = Y3 at *
      generalize x.len = X4 at *
      generalize y.len = Y4 at *
      by_cases h3 : X3 = Y3
      case neg =>
        have tk : True := trivial
        go_enter Try.func57, Try.ntmps57
        go_wp2_with (first
          | (go_at_call 17; clear tk; refine (c17 _ _ _ _ _ (HK.out.on HB0.out) (HK'.out.on HB0.out)).mono ?_; rintro e w1 ⟨rfl, rfl⟩; rw [h1])
          | (go_at_call 17; refine (c17 _ _ _ _ _ (HV.out.on HB0.out) (HV'.out.on HB0.out)).mono ?_; rintro e w1 ⟨rfl, rfl⟩; rw [h2]))
        go_ret
        exact ⟨by simp [h3], HB0.out⟩
      case pos =>
        subst h3
        by_cases h4 : X4 = Y4
        case neg =>
          have tk : True := trivial
          go_enter Try.func57, Try.ntmps57
          go_wp2_with (first
            | (go_at_call 17; clear tk; refine (c17 _ _ _ _ _ (HK.out.on HB0.out) (HK'.out.on HB0.out)).mono ?_; rintro e w1 ⟨rfl, rfl⟩; rw [h1])
            | (go_at_call 17; refine (c17 _ _ _ _ _ (HV.out.on HB0.out) (HV'.out.on HB0.out)).mono ?_; rintro e w1 ⟨rfl, rfl⟩; rw [h2]))
          go_ret
          exact ⟨by simp [h4], HB0.out⟩
        case pos =>
          subst h4
          have tk : True := trivial
          go_enter Try.func57, Try.ntmps57
          go_wp2_with (first
            | (go_at_call 17; clear tk; refine (c17 _ _ _ _ _ (HK.out.on HB0.out) (HK'.out.on HB0.out)).mono ?_; rintro e w1 ⟨rfl, rfl⟩; rw [h1])
            | (go_at_call 17; refine (c17 _ _ _ _ _ (HV.out.on HB0.out) (HV'.out.on HB0.out)).mono ?_; rintro e w1 ⟨rfl, rfl⟩; rw [h2]))
          go_ret
          exact ⟨by simp, HB0.out⟩
end Go.Proofs.Ytbkpgppaahpalaa
