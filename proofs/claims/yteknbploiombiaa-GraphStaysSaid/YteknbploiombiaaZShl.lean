/-
  What the statements' shells share.
-/
import Derived.Test.YteknbploiombiaaRows
import Derived.Test.YteknbploiombiaaZReadRea
import Derived.JoinedCond
import Derived.Deep.CondSized
import Derived.OpenShut
import Derived.ShutString
namespace Go.Proofs.Yteknbploiombiaa
open Go.ChangeShapes Go.WideShapes Go.ChangeAt Go.RowKit

theorem own : ownKnob Try.prog.godebug = none := by kernel_rfl
theorem laidOut : laidOutB Try.prog = true := by kernel_rfl
theorem read25 : Try.prog.readableRec 27 = true := by kernel_rfl
theorem lt25 : 27 < Try.prog.types.size := of_decide_eq_true (by kernel_rfl)
theorem weigh {H : Type} {ts : List TypeId} {ds : List (DataW H)} (hsz : (DataW.weightsEach Try.prog ts ds).all (· ≤ reachBytes) = true) {j : Nat} {t : TypeId} {d : DataW H} (ht : ts[j]? = some t) (hd : ds[j]? = some d) : ∀ k ∈ d.weights Try.prog t, k ≤ reachBytes := fun k hk => by
  simpa using List.all_eq_true.1 hsz _ (DataW.weights_mem_each ht hd k hk)
end Go.Proofs.Yteknbploiombiaa
