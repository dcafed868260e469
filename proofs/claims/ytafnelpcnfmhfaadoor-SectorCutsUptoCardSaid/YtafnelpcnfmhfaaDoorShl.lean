/-
  What the statements' shells share: the table that is listed, the witness's heap, arguments that are frames, bytes and numbers.
-/
import Derived.Test.YtafnelpcnfmhfaaDoorRows
import Derived.Test.YtafnelpcnfmhfaaDoorTie
import Derived.Test.YtafnelpcnfmhfaaDoorCards
import Derived.Test.YtafnelpcnfmhfaaDoorSum
import Derived.Stop.LaidErr
import Derived.LaidMore
import Derived.MakeChecks
import Derived.SevenTiedAt
import Derived.Stop.Joined
import Derived.ChangeArms
import Derived.ChangeSlices
import Derived.SizedLaws
import Derived.ProofKit
import Derived.OpenShut
namespace Go.Proofs.YtafnelpcnfmhfaaDoor
open Go.ChangeShapes Go.WideShapes Go.ChangeAt Go.RowKit

theorem own : ownKnob Tryd.prog.godebug = none := by kernel_rfl
theorem laidOut : laidOutB Tryd.prog = true := by kernel_rfl
def laid1 : List (String × DataW Unit) := [("ramble/sector.fours", Rows.laid_ramble_sector_fours)]
theorem tFours : (Tryd.prog.globals[0]?).map (·.type) = some 72 := by kernel_rfl
theorem cells34 : Tryd.prog.cellsOf 34 = 1 := by kernel_rfl
theorem cells72 : Tryd.prog.cellsOf 72 = 16 := by kernel_rfl
theorem fours_data : (Rows.laid_ramble_sector_fours : DataW Unit) = Lib.tabData .u32 foursI := by kernel_rfl
theorem of_laid {W : World} (h : laidMetH Tryd.prog laid1 W) : TabOk W := by
  rw [MakeChecks.laidMetH_plain _ _ _ (by kernel_rfl)] at h
  have h2 : laidMet Tryd.prog [("ramble/sector.fours", Rows.laid_ramble_sector_fours)] W := h
  rw [fours_data] at h2
  exact Lib.tabIs_of_head gFours tFours Tryd.underlying72 Tryd.underlying34 cells34 cells72 h2
/-- The door's own heap meets the condition. -/
theorem door_met (os : Os) (args : Array Value) : laidMetH Tryd.prog laid1 ((World.doorLaid Tryd.prog 400 os).forCall (fun _ _ => 0) ⟨#[], args, []⟩).memory :=
  laidMetH_of_parts3 (fuel := 8) (laidMet_of_run' 8 (by kernel_rfl) (by kernel_rfl)) (by kernel_rfl) (by kernel_rfl)

theorem cells24 : Tryd.prog.cellsOf 24 = 3 := by kernel_rfl
theorem cells5' : Tryd.prog.cellsOf 5 = 1 := by kernel_rfl
theorem bytes5 : Tryd.prog.bytesOf 5 = 1 := by kernel_rfl
theorem rdbl24 : Tryd.prog.readableRec 24 = true := by kernel_rfl
theorem lt24 : 24 < Tryd.prog.types.size := of_decide_eq_true (by kernel_rfl)
theorem weigh {H : Type} {ts : List TypeId} {ds : List (DataW H)} (hsz : (DataW.weightsEach Tryd.prog ts ds).all (· ≤ reachBytes) = true) {j : Nat} {t : TypeId} {d : DataW H} (ht : ts[j]? = some t) (hd : ds[j]? = some d) : ∀ k ∈ d.weights Tryd.prog t, k ≤ reachBytes := fun k hk => by
  simpa using List.all_eq_true.1 hsz _ (DataW.weights_mem_each ht hd k hk)
theorem agg_of {P : Program} {W : World} {r : Reach} {base : Nat} {t : TypeId} {fs : Array Field} {v : Value} (ht : P.underlying t = some (.struct fs)) (h : Value.okWide P W r base t v) : ∃ cs, v = .agg cs := by
  unfold Value.okWide at h
  rw [ht] at h
  obtain ⟨cs, h1, -⟩ := h
  exact ⟨cs, h1⟩
theorem three_list {α : Type} {l : List α} (h : l.length = 3) : ∃ a b c, l = [a, b, c] := by
  match l, h with
  | [a, b, c], _ => exact ⟨a, b, c, rfl⟩
theorem mapM_at {α β : Type} {f : α → Option β} : ∀ {l : List α} {r : List β}, l.mapM f = some r → r.length = l.length ∧ ∀ i (hi : i < l.length) (hr : i < r.length), f l[i] = some r[i]
  | [], r, h => by
    simp at h
    subst h
    exact ⟨rfl, fun i hi => (by simp at hi)⟩
  | x :: l, r, h => by
    simp only [List.mapM_cons, Option.bind_eq_bind, Option.bind_eq_some_iff, Option.pure_def, Option.some.injEq] at h
    obtain ⟨y, hy, r', hr', rfl⟩ := h
    obtain ⟨h1, h2⟩ := mapM_at hr'
    refine ⟨by simp [h1], fun i hi hr => ?_⟩
    cases i with
    | zero => exact hy
    | succ i => exact h2 i (by simpa using hi) (by simpa using hr)
theorem cells_range {w : World} {n : Nat} {a : Addr} {cs : List Value} (h : w.cells? 0 a n = some cs) (hn : 0 < n) : a.spot = none ∧ w.rangeAt a.block a.off cs ∧ cs.length = n := by
  obtain ⟨b, o, sp⟩ := a
  unfold World.cells? at h
  rw [if_pos (Nat.zero_le _)] at h
  have hl : cs.length = n := by
    have := (mapM_at h).1
    simpa using this
  have hc : ∀ j v, cs[j]? = some v → w.cell? ((⟨b, o, sp⟩ : Addr).add j) = some v := by
    intro j v hv
    have hj : j < n := by rw [← hl]; exact (List.getElem?_eq_some_iff.1 hv).1
    obtain ⟨hj', rfl⟩ := List.getElem?_eq_some_iff.1 hv
    have := (mapM_at h).2 j (by simpa using hj) hj'
    simpa using this
  have hs : sp = none := by
    have h0 := hc 0 (cs[0]'(by omega)) (by simp)
    simpa [Addr.add] using World.cell?_spot h0
  subst hs
  refine ⟨rfl, fun j v hv => ?_, hl⟩
  have := hc j v hv
  rwa [Addr.add_mid] at this
/-- A byte as data. -/
theorem byte_of {k : Int} (h : (Lit.int .u8 k).wf = true) : ∃ c : UInt8, k = c.toNat := by
  have hb : 0 ≤ k ∧ k ≤ 255 := by simpa [Lit.wf, IntKind.min, IntKind.max, IntKind.signed, IntKind.bits] using h
  exact ⟨UInt8.ofNat k.toNat, by rw [UInt8.toNat_ofNat']; omega⟩
theorem i64_of {k : Int} (h : (Lit.int .i64 k).wf = true) : -9223372036854775808 ≤ k ∧ k ≤ 9223372036854775807 := by
  simpa [Lit.wf, IntKind.min, IntKind.max, IntKind.signed, IntKind.bits] using h
/-- Bytes that were handed in. -/
def Byt (W : World) (v : Value) (t : List UInt8) : Prop := Bs W v t ∧ t.length ≤ 140737488351232
set_option maxRecDepth 100000 in
theorem open_bytes {H : Type} {enc : TypeId × Value → H} {W : World} (n : Nat) (cs : List Value) (x : DataW H × List MemPlace) (h : DataW.trod enc Tryd.prog W 0 (fun _ => true) true n 22 cs = some x) (hw : ∀ k ∈ x.1.weights Tryd.prog 22, k ≤ reachBytes) :
    ∃ (v : Value) (t : List UInt8), cs = [v] ∧ Byt W v t := by
  rcases DataW.trod_slice Tryd.underlying22 h with ⟨hcs, -⟩ | ⟨a, len, cap, elems, rest, m, rfl, hcs, hx, hb, hl, hm, hlen, hel, hsp, hns⟩
  · exact ⟨_, [], hcs, bs_nil W, by simp⟩
  · subst hx
    rw [cells5'] at hel
    have hr : len ≤ 140737488351232 := by
      simp only [DataW.weights, Tryd.underlying22, bytes5, List.length_map] at hw
      have hreach := hw _ (List.mem_cons.2 (.inl rfl))
      unfold reachBytes at hreach
      rw [hlen] at hreach
      omega
    have hadd : ∀ n, (a.add n).block = a.block ∧ (a.add n).off = a.off + n := by
      intro n; unfold Addr.add; split <;> simp_all
    have each : ∀ i, i < len → ∃ c : UInt8, (i = 0 → a.spot = none) ∧ W.cell? ⟨a.block, a.off + i, none⟩ = some (.int .u8 c.toNat) := by
      intro i hi
      have he := hel i hi
      rw [List.getElem?_eq_getElem (by omega), Option.bind_eq_some_iff] at he
      obtain ⟨ci, hci, htr⟩ := he
      obtain ⟨x, rfl, -, hwf⟩ := DataW.trod_int Tryd.underlying5 htr
      obtain ⟨c, rfl⟩ := byte_of hwf
      obtain ⟨h1, h2, -⟩ := cells_range hci (by omega)
      rw [(hadd (i * 1)).1, (hadd (i * 1)).2] at h2
      refine ⟨c, fun hi0 => ?_, ?_⟩
      · subst hi0
        simpa [Addr.add] using h1
      · have := h2 0 _ rfl
        simpa using this
    by_cases h0 : len = 0
    · subst h0
      exact ⟨_, [], hcs, ⟨some a, cap, rfl, by simp, hm, fun e => (by cases e), .inl rfl⟩, by simp⟩
    · obtain ⟨o0, hs0, hr0⟩ := each 0 (by omega)
      have hsn := hs0 rfl
      let g : Nat → UInt8 := fun i => if h : i < len then (each i h).choose else o0
      have hg : ∀ i (h : i < len), W.cell? ⟨a.block, a.off + i, none⟩ = some (.int .u8 (g i).toNat) := fun i h => by
        show W.cell? ⟨a.block, a.off + i, none⟩ = some (.int .u8 (if h : i < len then (each i h).choose else o0).toNat)
        rw [dif_pos h]; exact (each i h).choose_spec.2
      refine ⟨_, (List.range len).map g, hcs, ⟨some a, cap, by simp, by simpa using hl, hm, fun e => (by cases e), .inr ⟨a.block, a.off, ?_, fun j v hv => ?_⟩⟩, by simpa using hr⟩
      · obtain ⟨b, o, sp⟩ := a
        have : sp = none := hsn
        subst this
        rfl
      · unfold YtafnelpcnfmhfaaDoor.enc at hv
        simp only [List.map_map, List.getElem?_map, Option.map_eq_some_iff] at hv
        obtain ⟨i, hi, rfl⟩ := hv
        obtain ⟨hj, e⟩ := List.getElem?_eq_some_iff.1 hi
        simp at hj e
        subst e
        exact hg j hj
set_option maxRecDepth 100000 in
theorem open_frame {H : Type} {enc : TypeId × Value → H} {W : World} (n : Nat) (cs : List Value) (x : DataW H × List MemPlace) (h : DataW.trod enc Tryd.prog W 0 (fun _ => true) true n 24 cs = some x) (hw : ∀ k ∈ x.1.weights Tryd.prog 24, k ≤ reachBytes) :
    ∃ (k N : Int) (pv : Value) (pay : List UInt8), cs = [.int .i64 k, .int .i64 N, pv] ∧ Byt W pv pay ∧ (-9223372036854775808 ≤ N ∧ N ≤ 9223372036854775807) := by
  obtain ⟨xs, m, rfl, rfl, hl, hxl, hf⟩ := DataW.trod_struct Tryd.underlying24 h
  rw [cells24] at hl
  obtain ⟨c0, c1, c2, rfl⟩ := three_list hl
  obtain ⟨x0, x1, x2, rfl⟩ := three_list (show xs.length = 3 from hxl)
  have f0 := hf 0 _ rfl
  have f1 := hf 1 _ rfl
  have f2 := hf 2 _ rfl
  simp only [List.getElem?_cons_zero, List.getElem?_cons_succ] at f0 f1 f2
  obtain ⟨k0, h0, rfl, w0⟩ := DataW.trod_int Tryd.underlying3 f0
  obtain ⟨k1, h1, rfl, w1⟩ := DataW.trod_int Tryd.underlying2 f1
  obtain ⟨v, t, h2, hb⟩ := open_bytes _ _ _ f2 (fun k hk => hw k (by
    simp only [DataW.weights, Tryd.underlying24]
    simp [DataW.weightsEach, hk]))
  injection h0 with h0; injection h1 with h1; injection h2 with h2
  subst h0 h1 h2
  exact ⟨k0, k1, _, t, rfl, hb, i64_of w1⟩
set_option maxRecDepth 100000 in
theorem arg_frame {H : Type} {enc : TypeId × Value → H} {W : World} {base : Nat} {v : Value} {d : DataW H} {ps : List MemPlace} (hval : Value.okWide Tryd.prog W .any base 24 v) (h : DataW.Trod enc Tryd.prog W 0 (fun _ => true) true 24 v d ps) (hw : ∀ k ∈ d.weights Tryd.prog 24, k ≤ reachBytes) :
    ∃ (k N : Int) (pv : Value) (pay : List UInt8), v = .agg #[.int .i64 k, .int .i64 N, pv] ∧ Byt W pv pay ∧ (-9223372036854775808 ≤ N ∧ N ≤ 9223372036854775807) := by
  obtain ⟨n, hn⟩ := h
  obtain ⟨k, N, pv, pay, hcs, hb, hN⟩ := open_frame n _ _ hn hw
  obtain ⟨cs, rfl⟩ := agg_of Tryd.underlying24 hval
  exact ⟨k, N, pv, pay, congrArg Value.agg (Array.ext' hcs), hb, hN⟩
theorem int_of {P : Program} {w : World} {r : Reach} {base : Nat} {t : TypeId} {k : IntKind} {v : Value} (ht : P.underlying t = some (.int k)) (h : Value.okWide P w r base t v) : ∃ z, v = .int k z := by
  simp only [Value.okWide, ht, Cell.okWide] at h
  cases v <;> simp_all [Cell.ok]
set_option maxRecDepth 100000 in
theorem arg_u32 {H : Type} {enc : TypeId × Value → H} {W : World} {base : Nat} {v : Value} {d : DataW H} {ps : List MemPlace} (hval : Value.okWide Tryd.prog W .any base 34 v) (h : DataW.Trod enc Tryd.prog W 0 (fun _ => true) true 34 v d ps) : ∃ z : Nat, v = .int .u32 z ∧ z < 4294967296 := by
  obtain ⟨n, hn⟩ := h
  obtain ⟨k, hk, -, wk⟩ := DataW.trod_int Tryd.underlying34 hn
  obtain ⟨z, rfl⟩ := int_of Tryd.underlying34 hval
  simp [Value.cells] at hk
  subst hk
  have hb : 0 ≤ z ∧ z ≤ 4294967295 := by simpa [Lit.wf, IntKind.min, IntKind.max, IntKind.signed, IntKind.bits] using wk
  exact ⟨z.toNat, by congr 1; omega, by omega⟩
set_option maxRecDepth 100000 in
theorem arg_u16 {H : Type} {enc : TypeId × Value → H} {W : World} {base : Nat} {v : Value} {d : DataW H} {ps : List MemPlace} (hval : Value.okWide Tryd.prog W .any base 62 v) (h : DataW.Trod enc Tryd.prog W 0 (fun _ => true) true 62 v d ps) : ∃ z : Nat, v = .int .u16 z ∧ z < 65536 := by
  obtain ⟨n, hn⟩ := h
  obtain ⟨k, hk, -, wk⟩ := DataW.trod_int Tryd.underlying62 hn
  obtain ⟨z, rfl⟩ := int_of Tryd.underlying62 hval
  simp [Value.cells] at hk
  subst hk
  have hb : 0 ≤ z ∧ z ≤ 65535 := by simpa [Lit.wf, IntKind.min, IntKind.max, IntKind.signed, IntKind.bits] using wk
  exact ⟨z.toNat, by congr 1; omega, by omega⟩
end Go.Proofs.YtafnelpcnfmhfaaDoor
