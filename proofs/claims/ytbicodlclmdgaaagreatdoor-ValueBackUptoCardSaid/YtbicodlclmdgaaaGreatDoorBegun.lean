/-
  begun is true.
-/
import Derived.Test.YtbicodlclmdgaaaGreatDoorMapD
import Derived.Test.YtbicodlclmdgaaaGreatDoorRdrF
import Derived.Test.YtbicodlclmdgaaaGreatDoorText
import Derived.Test.YtbicodlclmdgaaaGreatDoorRef
namespace Go.Proofs.YtbicodlclmdgaaaGreatDoor
open Go.RowKit

def vA : V := .mk 2 0 ⟨#[97]⟩ []
def vB : V := .mk 2 0 ⟨#[98]⟩ []
def vOne : V := .mk 1 1 ⟨#[]⟩ []
def vTrue : V := .mk 3 1 ⟨#[]⟩ []
def mAB : V := .mk 5 0 ⟨#[]⟩ [vA, vTrue, vB, vOne]
theorem cmp_AB : V.cmp vA vB = -1 := by
  unfold vA vB V.cmp
  simp [icmp, lex, Lib.compareBytes]
theorem cmp_BA : V.cmp vB vA = 1 := by rw [anti_cmp, cmp_AB]; rfl
theorem may_AB : mAB.may 1 = true := by
  unfold mAB vA vB vOne vTrue
  simp [V.may, allMay, rise, onlyB, V.cmp, icmp, lex, Lib.compareBytes]
  exact ⟨rfl, by decide, rfl, by decide, rfl⟩
theorem perm_two {α : Type} {l : List α} {a b : α} (h : l.Perm [a, b]) : l = [a, b] ∨ l = [b, a] := by
  match l, h.length_eq with
  | [x, y], _ =>
    have hx : x ∈ [a, b] := h.subset (by simp)
    simp only [List.mem_cons, List.not_mem_nil, or_false] at hx
    rcases hx with rfl | rfl
    · have := h.cons_inv
      rw [List.perm_singleton] at this
      injection this with e
      exact .inl (by rw [e])
    · have := (h.trans (List.Perm.swap x a [])).cons_inv
      rw [List.perm_singleton] at this
      injection this with e
      exact .inr (by rw [e])

/-- Map of begun's four values. -/
theorem map_four (w : World) (sl : Value) (hS : Sl w 0 [vB, vOne, vA, vTrue] sl) :
    Calls Tryz.prog 10 #[sl] w fun e w' => ∃ s', e = .returned (.tuple #[mAB.agg s', .int .i64 0]) ∧ mAB.In w' w.heap.size s' ∧ Below w.heap.size w w' := by
  refine (map_any _ sl 2 w hS rfl).mono ?_
  rintro e w' ⟨L, hP, hSo, hb, -, h⟩
  simp only [pairsOf] at hP
  have hL : L = [(vA, vTrue), (vB, vOne)] := by
    rcases perm_two hP with rfl | rfl
    · rw [List.pairwise_cons] at hSo
      have := hSo.1 (vA, vTrue) (by simp)
      simp only [cmp_AB] at this
      omega
    · rfl
  subst hL
  have ht : twiceP [(vA, vTrue), (vB, vOne)] = false := by simp [twiceP, cmp_AB]
  obtain ⟨s', he, hin⟩ := (h ht).1 may_AB
  exact ⟨s', he, hin, hb⟩

def theT : ByteArray := ⟨#[123, 39, 97, 39, 58, 32, 116, 114, 117, 101, 44, 32, 39, 98, 39, 58, 32, 49, 125]⟩
theorem hasT (p : Nat) (s : List UInt8) (h : s = (theT.data.toList.drop p).take s.length) : Has theT p s := by
  intro i hi
  have h1 : i < ((theT.data.toList.drop p).take s.length).length := by rw [← h]; exact hi
  rw [List.length_take, List.length_drop] at h1
  have h2 : p + i < theT.data.toList.length := by omega
  refine ⟨by simpa using h2, ?_⟩
  have h3 : s[i]? = some (theT.data.toList[p + i]'h2) := by
    rw [h, List.getElem?_take, if_pos hi, List.getElem?_drop, List.getElem?_eq_getElem h2]
  rw [List.getElem?_eq_getElem hi] at h3
  injection h3 with h3
  rw [h3]; rfl

theorem reads_A : Reads theT 2 1 vA 4 := reads_str theT 2 1 (by decide) [97] (by intro c hc; simp at hc; subst hc; decide) (hasT 1 _ rfl) (by decide)
theorem reads_B : Reads theT 2 12 vB 15 := reads_str theT 2 12 (by decide) [98] (by intro c hc; simp at hc; subst hc; decide) (hasT 12 _ rfl) (by decide)
theorem reads_T : Reads theT 2 6 vTrue 10 := reads_true theT 2 6 (by decide) (hasT 6 _ rfl) (by decide)
theorem reads_1 : Reads theT 2 17 vOne 18 := by
  have h := reads_num theT 2 17 1 (by decide) (by decide) (fun j hj => by
    obtain rfl : j = 0 := by omega
    exact ⟨by decide, by decide, by decide⟩) (fun j hj => by
    obtain rfl : j = 0 := by omega
    exact ⟨by decide, by decide⟩) ⟨by decide, by decide⟩ (by decide)
  rw [show sval (sub theT 17 (17 + 1)) = 1 by decide] at h
  exact h

theorem reads_AB (w : World) (r : Nat) (h : Rd w r theT 0 0) : Calls Tryz.prog 79 #[.pointer (some ⟨r, 0, none⟩), .int .i64 1] w fun e w' => ∃ sl, e = .returned (mAB.agg sl) ∧ mAB.In w' w.heap.size sl ∧ Rp r theT theT.size 0 w w' :=
  reads_map theT 1 0 theT.size mAB (by decide) (by decide) (by decide) (by decide)
    (fun w r k h hk => pairs101 theT 1 0 [(vA, vTrue), (vB, vOne)] (fun j => if j = 0 then 1 else if j = 1 then 12 else 19) (by decide) (by decide) (hasT 0 _ rfl) rfl (by decide) (by decide) ⟨by decide, by decide⟩
      (fun j hj => by
        have : j = 0 ∨ j = 1 := by simp at hj; omega
        rcases this with rfl | rfl
        · exact ⟨10, ⟨4, reads_A, hasT 4 _ rfl, reads_T⟩, .inl ⟨by decide, hasT 10 _ rfl, rfl⟩⟩
        · exact ⟨18, ⟨15, reads_B, hasT 15 _ rfl, reads_1⟩, .inr ⟨rfl, ⟨by decide, by decide⟩, rfl⟩⟩)
      (fun x hx => by
        simp only [List.mem_cons, List.not_mem_nil, or_false] at hx
        rcases hx with rfl | rfl <;> exact ⟨rfl, rfl⟩)
      (by decide) w r k h hk) w r 0 h (by omega)
theorem parse_AB (w : World) : Calls Tryz.prog 40 #[.string theT] w fun e w' => ∃ sl, e = .returned (.tuple #[mAB.agg sl, .int .i64 0, .int .i64 0]) ∧ mAB.In w' w.heap.size sl ∧ Below w.heap.size w w' :=
  parse40 theT mAB may_AB reads_AB w

def txtAB (v : V) : List UInt8 := if v.k = 2 then 39 :: (v.s.data.toList ++ [39]) else if v.k = 1 then [49] else [116, 114, 117, 101]
theorem text_AB (sl : Value) (w : World) (hin : mAB.In w 0 sl) : Calls Tryz.prog 41 #[mAB.agg sl] w fun e w' => e = .returned (.string theT) ∧ Below w.heap.size w w' :=
  text41 mAB theT.data.toList (pt_map txtAB [vA, vTrue, vB, vOne] 2 rfl 1 (by decide) (by decide) fun x hx => by
    simp only [List.mem_cons, List.not_mem_nil, or_false] at hx
    rcases hx with rfl | rfl | rfl | rfl
    · exact pt_str ⟨#[97]⟩ (by intro c hc; simp at hc; subst hc; decide) 2 (by decide)
    · exact pt_true 2 (by decide)
    · exact pt_str ⟨#[98]⟩ (by intro c hc; simp at hc; subst hc; decide) 2 (by decide)
    · have h := pt_small 1 (by decide) 2 (by decide)
      rw [show Lib.decDigits 1 = [49] by rw [Lib.decDigits]; rfl] at h
      exact h) (by decide) sl w hin

theorem sl_four (W : World) : Sl (W.alloc (.cells #[.int .i64 2, .int .i64 0, .string ⟨#[98]⟩, .slice none 0 0, .int .i64 1, .int .i64 1, .string ⟨#[]⟩, .slice none 0 0, .int .i64 2, .int .i64 0, .string ⟨#[97]⟩, .slice none 0 0, .int .i64 3, .int .i64 1, .string ⟨#[]⟩, .slice none 0 0] 24)) 0 [vB, vOne, vA, vTrue] (.slice (some ⟨W.heap.size, 0, none⟩) 4 4) := by
  refine ⟨_, _, rfl, Nat.le_refl _, by unfold maxLen; omega, by decide, .inr ⟨W.heap.size, 0, rfl, Nat.zero_le _, ?_⟩⟩
  refine Cs.ls (xs := [.int .i64 2, .int .i64 0, .string ⟨#[98]⟩, .slice none 0 0, .int .i64 1, .int .i64 1, .string ⟨#[]⟩, .slice none 0 0, .int .i64 2, .int .i64 0, .string ⟨#[97]⟩, .slice none 0 0, .int .i64 3, .int .i64 1, .string ⟨#[]⟩, .slice none 0 0]) 0 ?_ ?_
  · exact ⟨rfl, rfl, rfl, fun w lo => in_plain (by unfold I64; decide) (by unfold I64; decide) (by decide) w lo, rfl, rfl, rfl, fun w lo => in_plain (by unfold I64; decide) (by unfold I64; decide) (by decide) w lo,
      rfl, rfl, rfl, fun w lo => in_plain (by unfold I64; decide) (by unfold I64; decide) (by decide) w lo, rfl, rfl, rfl, fun w lo => in_plain (by unfold I64; decide) (by unfold I64; decide) (by decide) w lo, trivial⟩
  · intro i x hx
    have := cells_new W _ 24 i x hx
    have hadd : (⟨W.heap.size, 0, none⟩ : Addr).add i = ⟨W.heap.size, i, none⟩ := by unfold Addr.add; split <;> simp_all
    rw [Nat.zero_add, ← hadd]; exact this

set_option maxHeartbeats 4000000 in
theorem begun12 (w : World) : Calls Tryz.prog 12 #[] w fun e w' => e = .returned (.bool true) ∧ Below w.heap.size w w' := by
  have c10 := fun w sl h => map_four w sl h
  have c41 := fun sl w h => text_AB sl w h
  have c40 := fun w => parse_AB w
  have c15 := fun sx sy w hx hy => refSame_any mAB mAB sx sy w hx hy
  rw [cmp_self] at c15
  have k18 := fun s w => str18 s w
  have k16 := fun n w => int16 n w
  have k24 := fun b w => bool24 b w
  unfold V.agg at c10 c41 c40 c15
  have e1 : mAB.k = 5 := rfl
  have e2 : mAB.n = 0 := rfl
  have e3 : mAB.s = ⟨#[]⟩ := rfl
  rw [e1, e2, e3] at c10 c41 c40 c15
  clear e1 e2 e3
  unfold theT at c41 c40
  have tok1 : Hid True := trivial
  go_enter Tryz.func12, Tryz.ntmps12
  go_wp2_with (first
    | (go_at_call 18; clear tok1; refine (k18 ⟨#[98]⟩ _).mono ?_; rintro e w1 ⟨rfl, hb1⟩)
    | (go_at_call 16; refine (k16 1 _).mono ?_; rintro e w2 ⟨rfl, hb2⟩)
    | (go_at_call 18; refine (k18 ⟨#[97]⟩ _).mono ?_; rintro e w3 ⟨rfl, hb3⟩)
    | (go_at_call 24; refine (k24 true _).mono ?_; rintro e w4 ⟨rfl, hb4⟩)
    | (go_at_call 10; refine (c10 _ _ (sl_four w4)).mono ?_; rintro e w5 ⟨s5, rfl, hin5, hb5⟩; obtain ⟨p5, n5, q5, rfl⟩ := hin5.header)
    | (go_at_call 40; refine (c40 _).mono ?_; rintro e w6 ⟨s6, rfl, hin6, hb6⟩; obtain ⟨p6, n6, q6, rfl⟩ := hin6.header; have kM := blk_on hb6 (blk_new w5 _); have hl6 := (Array.getElem?_eq_some_iff.1 kM).1; obtain ⟨x0, x1, x2, x3, -⟩ := four_of kM; have hm6 := (hin5.low (Nat.zero_le _)).on (bel_then (bel1 w5 _) hb6); have hv6 := hin6.low (Nat.zero_le _))
    | (go_at_call 41; refine (c41 _ _ (hm6.on (bel1 w6 _))).mono ?_; rintro e w7 ⟨rfl, hb7⟩; obtain ⟨y0, y1, y2, y3, -⟩ := four_of (blk_on hb7 (blk_old kM)); obtain ⟨z0, z1, z2, z3, -⟩ := four_of (blk_on hb7 (blk_new w6 _)); have hm7 := (hm6.on (bel1 w6 _)).on hb7; have hv7 := (hv6.on (bel1 w6 _)).on hb7)
    | (go_at_call 15; refine (c15 _ _ _ hm7 hv7).mono ?_; rintro e w8 ⟨rfl, hb8⟩))
  have hfin : Below w.heap.size w w8 := bel_then (bel_then (bel_then (bel_then (bel_then (bel_then (bel_then (bel_then (bel_then (bel_then hb1 hb2) hb3) hb4) (bel1 w4 _)) hb5) (bel1 w5 _)) hb6) (bel1 w6 _)) hb7) hb8
  go_ret
  exact ⟨rfl, hfin⟩
end Go.Proofs.YtbicodlclmdgaaaGreatDoor
