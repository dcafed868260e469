/-
  Sectors one behind the other as cells; two steps of walks.
-/
import Derived.Test.YtfakgfmgofblgaaGreatDoorZDirtyWriteReadNewFlush
namespace Go.Proofs.YtfakgfmgofblgaaGreatDoor
open Go.RowKit Go.Maps

def secs (f : Nat → List UInt8) : Nat → List Value
  | 0 => []
  | n + 1 => secs f n ++ enc (f n)
theorem len_secs {f : Nat → List UInt8} : ∀ {n : Nat}, (∀ k, k < n → (f k).length = 128) → (secs f n).length = n * 128
  | 0, _ => by simp [secs]
  | n + 1, h => by
    rw [secs, List.length_append, len_secs (fun k hk => h k (by omega)), len_enc, h n (by omega)]
    omega
theorem secs_at {f : Nat → List UInt8} : ∀ {n : Nat}, (∀ k, k < n → (f k).length = 128) → ∀ k, k < n → ∀ r, r < 128 → (secs f n)[k * 128 + r]? = (enc (f k))[r]?
  | 0, _, k, hk, _, _ => by omega
  | n + 1, h, k, hk, r, hr => by
    have hl := len_secs (f := f) (n := n) (fun k hk => h k (by omega))
    rw [secs]
    by_cases e : k = n
    · subst e
      rw [List.getElem?_append_right (by omega), hl]
      congr 1; omega
    · rw [List.getElem?_append_left (by omega)]
      exact secs_at (fun k hk => h k (by omega)) k (by omega) r hr
theorem one_secs (f : Nat → List UInt8) : ∀ (n : Nat), ∀ v ∈ secs f n, v.oneCell' = true
  | 0, v, hv => by simp [secs] at hv
  | n + 1, v, hv => by
    rw [secs] at hv
    rcases List.mem_append.1 hv with h | h
    · exact one_secs f n v h
    · exact one_enc _ v h
theorem wpList_want {P : Program} {ops : Array Oper} {Q : Exit → Act → World → Prop} {a : Act} {w : World} {rest : List Oper} {o : Oper} (hw : Region.wanted o (yielded ops a.tmps) = true)
    (h : ∀ K : Act → World → Prop, (∀ a w, wpList P ops Q rest a w → K a w) → o.wp P a w K Q) : wpList P ops Q (o :: rest) a w :=
  wpList_step fun K hK => by rw [if_pos hw]; exact h K hK

/-- A step of a region that draws its order, the place that it fills written out. -/
theorem take_at {P : Program} {md : Region.Mode} {ops : Array Oper} {Q : Exit → Act → World → Prop} {S : World → Prop} {i : Nat} {oi : Oper} {v : Value} {fuel : Nat} {listed : Array Bool} {a : Act} {w : World} (t : Tmp) (hi : ops[i]? = some oi) (hd : oi.dst = some t)
    (hs : Region.noSelect ops = true) (hf : Region.free md ops listed i = true) (hr : (Region.ready md ops listed).contains i = true)
    (hQ : ∀ c a w, Q (.panic c) (a.put (some t) v) w → Q (.panic c) a w) (hy : YieldsIf P ops S oi v a) (hS : S w)
    (h : wpAnyH P md ops Q S fuel (listed.setIfInBounds i true) (a.put (some t) v) w) : wpAnyH P md ops Q S (fuel + 1) listed a w :=
  wpAnyH_take hi hs hf hr (by rw [hd]; exact hQ) hy hS (by rw [hd]; exact h)

end Go.Proofs.YtfakgfmgofblgaaGreatDoor
