/-
  What an element's kind comes to: of a value with other fields no kind of an element.
-/
import Derived.Test.YteknbploiombiaaZGup
import Derived.Test.YteknbploiombiaaZTha
namespace Go.Proofs.Yteknbploiombiaa
open Go.RowKit
set_option linter.unusedVariables false

def ek (k : Int) (s : ByteArray) (l : List V) : Int := if plain s l = true then k else 0
theorem ek_yes {k : Int} {s : ByteArray} {l : List V} (h : plain s l = true) : ek k s l = k := if_pos h
theorem ek_no {k : Int} {s : ByteArray} {l : List V} (h : plain s l = false) : ek k s l = 0 := if_neg (by rw [h]; simp)
theorem elPs_zero (g : Gg) (id : Int) : elPs g 0 id = none := by unfold elPs; rw [if_neg (by decide), if_neg (by decide)]
theorem elv_yes {g : Gg} {id : Int} {s : ByteArray} {l : List V} {ps : List Pr} (h : plain s l = true) (hp : vPs g.vs id = some ps) : elPs g (ek 6 s l) id = some ps := by
  rw [ek_yes h]; unfold elPs; rw [if_pos rfl]; exact hp
theorem elv_no {g : Gg} {id : Int} {s : ByteArray} {l : List V} (hp : plain s l = true → vPs g.vs id = none) : elPs g (ek 6 s l) id = none := by
  cases h : plain s l with
  | true => rw [ek_yes h]; unfold elPs; rw [if_pos rfl]; exact hp h
  | false => rw [ek_no h]; exact elPs_zero g id
theorem ele_yes {g : Gg} {id : Int} {s : ByteArray} {l : List V} {ps : List Pr} (h : plain s l = true) (hp : ePs g.es id = some ps) : elPs g (ek 7 s l) id = some ps := by
  rw [ek_yes h]; unfold elPs; rw [if_neg (by decide), if_pos rfl]; exact hp
theorem ele_no {g : Gg} {id : Int} {s : ByteArray} {l : List V} (hp : plain s l = true → ePs g.es id = none) : elPs g (ek 7 s l) id = none := by
  cases h : plain s l with
  | true => rw [ek_yes h]; unfold elPs; rw [if_neg (by decide), if_pos rfl]; exact hp h
  | false => rw [ek_no h]; exact elPs_zero g id
theorem elo_no {g : Gg} {k id : Int} {s : ByteArray} {l : List V} (h6 : k ≠ 6) (h7 : k ≠ 7) : elPs g (ek k s l) id = none := by
  cases h : plain s l with
  | true => rw [ek_yes h]; unfold elPs; rw [if_neg h6, if_neg h7]
  | false => rw [ek_no h]; exact elPs_zero g id
theorem ek_six {g : Gg} {k id : Int} {s : ByteArray} {l : List V} (h6 : ek k s l = 6) : k = 6 ∧ plain s l = true := by
  cases h : plain s l with
  | true => rw [ek_yes h] at h6; exact ⟨h6, rfl⟩
  | false => rw [ek_no h] at h6; exact absurd h6 (by decide)
theorem ek_seven {k : Int} {s : ByteArray} {l : List V} (h6 : ek k s l = 7) : k = 7 ∧ plain s l = true := by
  cases h : plain s l with
  | true => rw [ek_yes h] at h6; exact ⟨h6, rfl⟩
  | false => rw [ek_no h] at h6; exact absurd h6 (by decide)
end Go.Proofs.Yteknbploiombiaa
