/-
  The zero values of more than 64 cells: a sector's, a place's, an entry's of the document's cache. No walk.
-/
import Derived.WalkKit
import Derived.Test.YtafnelpcnfmhfaaDoorChecked
namespace Go.Proofs.YtafnelpcnfmhfaaDoor
open Go.RowKit

theorem ne_of_size {a : Array Value} {n : Nat} (h : a.size = n + 1) : a ≠ #[] := fun e => by rw [e] at h; cases h
def Tryd.zeroCells26 : Array Value := (List.replicate 128 (Value.int .u8 0)).toArray
def Tryd.zeroCells83 : Array Value := (List.replicate 128 (Value.int .u8 0) ++ [Value.bool false]).toArray
def Tryd.zeroCells86 : Array Value := (Value.int .i64 0 :: List.replicate 128 (Value.int .u8 0)).toArray
set_option maxRecDepth 100000 in
@[simp] theorem Tryd.zeroValue26 (w : World) : (zeroValue 26).run Tryd.prog w = .ok (.agg Tryd.zeroCells26) w := by kernel_rfl
set_option maxRecDepth 100000 in
@[simp] theorem Tryd.zeroValue83 (w : World) : (zeroValue 83).run Tryd.prog w = .ok (.agg Tryd.zeroCells83) w := by kernel_rfl
set_option maxRecDepth 100000 in
@[simp] theorem Tryd.zeroValue86 (w : World) : (zeroValue 86).run Tryd.prog w = .ok (.agg Tryd.zeroCells86) w := by kernel_rfl
@[simp] theorem Tryd.zeroCells26_size : Tryd.zeroCells26.size = 128 := by simp [Tryd.zeroCells26]
@[simp] theorem Tryd.zeroCells83_size : Tryd.zeroCells83.size = 129 := by simp [Tryd.zeroCells83]
@[simp] theorem Tryd.zeroCells86_size : Tryd.zeroCells86.size = 129 := by simp [Tryd.zeroCells86]
@[simp] theorem Tryd.zeroCells26_ne : Tryd.zeroCells26 ≠ #[] := ne_of_size (n := 127) Tryd.zeroCells26_size
@[simp] theorem Tryd.zeroCells83_ne : Tryd.zeroCells83 ≠ #[] := ne_of_size (n := 128) Tryd.zeroCells83_size
@[simp] theorem Tryd.zeroCells86_ne : Tryd.zeroCells86 ≠ #[] := ne_of_size (n := 128) Tryd.zeroCells86_size
end Go.Proofs.YtafnelpcnfmhfaaDoor
