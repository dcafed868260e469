/-
  Keys and entries of elements as plain data: no walk.
-/
import Derived.Test.YtbgikgeknnmelaaGreatPlainB
import Derived.Test.YtbgikgeknnmelaaGreatRw
namespace Go.Proofs.YtbgikgeknnmelaaGreat
open Go.RowKit
set_option linter.unusedVariables false

/-- K of one value. -/
def kq (v : V) : List UInt8 := if bads [v] = 0 then keyL [v] else []
/-- What codec.Put puts of a value. -/
def plq (v : V) : List UInt8 := if v.may 1 = true then v.pl else []
def stemF (v : V) : List UInt8 := if v.k = 4 ∨ v.k = 5 then plq v else kq v
def stem (v : V) : List UInt8 := (stemF v).take 40
def sgn (v : V) : List UInt8 := UInt8.ofNat (stem v).length :: stem v
def numQ (n : Int) : List UInt8 := enc (max n 0).toNat
def numsQ (l : List Int) : List UInt8 := l.flatMap numQ
def textQ (s : ByteArray) : List UInt8 := numQ s.size ++ s.data.toList
def propQ (p : Pr) : List UInt8 := textQ p.nm ++ plq p.v
def propsQ (ps : List Pr) : List UInt8 := numQ ps.length ++ ps.flatMap propQ
def idB (n : Int) : Bool := decide (1 ≤ n) && decide (n ≤ 281474976710656)
def vEl (n : Int) : V := .mk 6 n ⟨#[]⟩ []
def eEl (n : Int) : V := .mk 7 n ⟨#[]⟩ []
def strV (s : ByteArray) : V := .mk 2 0 s []
def byteB (k : Int) : UInt8 := UInt8.ofNat (k % 256).toNat
def keyQ (v : V) : List UInt8 := if v.may 1 = true then (if v.k = 6 then 1 :: kq v else if v.k = 7 then 2 :: kq v else []) else []
def firstQ : List ByteArray → List UInt8
  | [] => []
  | s :: _ => kq (strV s)
def outQ (n : Int) (l : List ByteArray) : List UInt8 := 3 :: kq (vEl n) ++ firstQ l
def inQ (n : Int) (l : List ByteArray) : List UInt8 := 4 :: kq (vEl n) ++ firstQ l
def labelQ (k : Int) (l : List ByteArray) : List UInt8 := 5 :: byteB k :: firstQ l
def firstS : List V → List UInt8
  | [] => []
  | v :: _ => sgn v
def propK (k : Int) (nm : ByteArray) (vs : List V) : List UInt8 := 6 :: byteB k :: kq (strV nm) ++ firstS vs
structure En where
  key : List UInt8
  val : List UInt8
def metaQ (last v e : Int) : En := ⟨[0], numsQ [last, v, e]⟩
def ixP (el : V) (p : Pr) : En := ⟨propK el.k p.nm [p.v] ++ kq el, []⟩
def ixQ (el : V) (lb : ByteArray) (ps : List Pr) : List En := ⟨labelQ el.k [lb] ++ kq el, []⟩ :: ps.map (ixP el)
def vxQ (x : Vx) : List En := if idB x.id = true then ⟨keyQ (vEl x.id), textQ x.lb ++ propsQ x.ps⟩ :: ixQ (vEl x.id) x.lb x.ps else []
def lkQ (x : Lk) : List En := if idB x.id = true ∧ idB x.out = true ∧ idB x.inn = true then
    [⟨keyQ (eEl x.id), numsQ [x.out, x.inn] ++ textQ x.lb ++ propsQ x.ps⟩, ⟨outQ x.out [x.lb] ++ kq (eEl x.id), numsQ [x.inn]⟩, ⟨inQ x.inn [x.lb] ++ kq (eEl x.id), numsQ [x.out]⟩] ++ ixQ (eEl x.id) x.lb x.ps else []

/-! ### Lengths -/
def manyP (ps : List Pr) : Nat := (ps.map fun p => p.nm.size + p.v.many + 1).sum
theorem kq_len (v : V) : (kq v).length ≤ 300 := by
  unfold kq
  split
  · rename_i h
    have hb := bads_mem h v (by simp)
    cases kk_of hb with
    | num k n hk => simp [keyL, kForm, V.k]; rcases hk with rfl | rfl | rfl <;> simp [beN_length]
    | bool n hn => simp [keyL, kForm, V.k]
    | str s hs => have := marked_len s.data.toList; simp [keyL, kForm, V.k, V.s] at this ⊢; have e : s.data.size = s.size := rfl; omega
  · simp
theorem plq_len (v : V) : (plq v).length ≤ 11 * v.many := by
  unfold plq
  split
  · exact pl_len v
  · simp
theorem stem_len (v : V) : (stem v).length ≤ 40 := by unfold stem; simp; omega
theorem sgn_len (v : V) : (sgn v).length ≤ 41 := by have := stem_len v; simp [sgn]; omega
theorem numQ_len (n : Int) : (numQ n).length ≤ 10 := enc_le _
theorem numQ_pos (n : Int) : 0 < (numQ n).length := enc_pos _
theorem numsQ_len (l : List Int) : (numsQ l).length ≤ 10 * l.length := by
  unfold numsQ
  induction l with
  | nil => simp
  | cons a l ih => have := numQ_len a; simp at ih ⊢; omega
theorem textQ_len (s : ByteArray) : (textQ s).length ≤ 10 + s.size := by
  have := numQ_len s.size
  have e : s.data.size = s.size := rfl
  simp [textQ]; omega
theorem props_len (ps : List Pr) : (ps.flatMap propQ).length ≤ 21 * manyP ps := by
  unfold manyP
  induction ps with
  | nil => simp
  | cons p ps ih =>
    have h1 := textQ_len p.nm
    have h2 := plq_len p.v
    simp [propQ] at ih ⊢
    omega
theorem propsQ_len (ps : List Pr) : (propsQ ps).length ≤ 10 + 21 * manyP ps := by
  have h1 := props_len ps
  have h2 := numQ_len ps.length
  simp only [propsQ, List.length_append]; omega
theorem manyP_len (ps : List Pr) : ps.length ≤ manyP ps := by
  unfold manyP
  induction ps with
  | nil => simp
  | cons p ps ih => simp at ih ⊢; omega
theorem firstQ_len (l : List ByteArray) : (firstQ l).length ≤ 300 := by
  cases l with
  | nil => simp [firstQ]
  | cons s l => exact kq_len _
theorem outQ_len (n : Int) (l : List ByteArray) : (outQ n l).length ≤ 601 := by have h1 := kq_len (vEl n); have h2 := firstQ_len l; simp [outQ]; omega
theorem inQ_len (n : Int) (l : List ByteArray) : (inQ n l).length ≤ 601 := by have h1 := kq_len (vEl n); have h2 := firstQ_len l; simp [inQ]; omega
theorem labelQ_len (k : Int) (l : List ByteArray) : (labelQ k l).length ≤ 302 := by have h2 := firstQ_len l; simp [labelQ]; omega
theorem propK_len (k : Int) (nm : ByteArray) (l : List V) : (propK k nm l).length ≤ 400 := by
  have h1 := kq_len (strV nm)
  have h2 : (firstS l).length ≤ 41 := by
    cases l with
    | nil => simp [firstS]
    | cons v l => exact sgn_len v
  simp [propK]; omega
theorem keyQ_len (v : V) : (keyQ v).length ≤ 301 := by
  have := kq_len v
  unfold keyQ
  split
  · split
    · simp; omega
    · split <;> simp; omega
  · simp
theorem byteB_of (k : Int) : k % 256 = ((byteB k).toNat : Int) := by
  unfold byteB; rw [toNat_of (by omega)]; omega
end Go.Proofs.YtbgikgeknnmelaaGreat
