/-
  DERIVED. GIVEN WITH THE SEED: THE CARDS: each row of YtnclhjjhobbbjaaDoorRows.lean that lists a variable, with what it lists TIED to the program's text (the seventh form; the later family's looks); each row that meets fmt, with fmt's text TOLD by the authors' own Lean function (tested against real Go, not proved from fmt's source: count such statements apart). THE CARD IS WHAT COUNTS. Prove the row's statement (the work); the ties are given (YtnclhjjhobbbjaaDoorTie.lean); close each card by the builder's one call (the guide's Derived/Test/ToyasCard.lean, 'card_holds'). Laid BY PROGRAM, IN A SANDBOX (cutbox-door.mjs). By AI agents, Wed Nov 11 2026. No macro, syntax, notation, axiom, sorry.
-/
import Derived.Test.YtnclhjjhobbbjaaDoorRows
import GoSem.ClaimSeven
namespace Go.Proofs.YtnclhjjhobbbjaaDoor
namespace Rows

/-- THE TIED CARD OF 'ramblelaw06.WalWhole'. -/
def walWholeCard : Claim7 := { stood := { row := walWholeRow, standIns := [], harness := (true, "d6538dc527bf923e5271eb2b262043d6babd84da4685f65dd47200239ed627a1"), looks := false }, kinds := [], alts := [], laidByText := true, laidKinds := [.data], laidTests := true, laidLooks := .later }
def WalWholeCardSaid : Prop := Claim7.holds Tryd.pinned (.plain (OpenSpec.ofChange walWholeSpec)) walWholeCard

/-- THE TIED CARD OF 'ramblelaw06.WalOld'. -/
def walOldCard : Claim7 := { stood := { row := walOldRow, standIns := [], harness := (true, "d6538dc527bf923e5271eb2b262043d6babd84da4685f65dd47200239ed627a1"), looks := false }, kinds := [], alts := [], laidByText := true, laidKinds := [.data], laidTests := true, laidLooks := .later }
def WalOldCardSaid : Prop := Claim7.holds Tryd.pinned (.plain (OpenSpec.ofChange walOldSpec)) walOldCard

/-- THE TIED CARD OF 'ramblelaw06.WalNone'. -/
def walNoneCard : Claim7 := { stood := { row := walNoneRow, standIns := [], harness := (true, "d6538dc527bf923e5271eb2b262043d6babd84da4685f65dd47200239ed627a1"), looks := false }, kinds := [], alts := [], laidByText := true, laidKinds := [.data], laidTests := true, laidLooks := .later }
def WalNoneCardSaid : Prop := Claim7.holds Tryd.pinned (.plain (OpenSpec.ofChange walNoneSpec)) walNoneCard

/-- THE SECOND FORM's CARD OF 'ramblelaw06.WalWhole'. -/
def walWholeUptoCard : Claim7 := { stood := { row := walWholeUptoRow, standIns := [], harness := (true, "d6538dc527bf923e5271eb2b262043d6babd84da4685f65dd47200239ed627a1"), looks := false }, kinds := [], alts := [], laidByText := true, laidKinds := [.data], laidTests := true, laidLooks := .later }
def WalWholeUptoCardSaid : Prop := Claim7.holds Tryd.pinned (.plain (OpenSpec.upto walWholeSpec)) walWholeUptoCard

/-- THE SECOND FORM's CARD OF 'ramblelaw06.WalOld'. -/
def walOldUptoCard : Claim7 := { stood := { row := walOldUptoRow, standIns := [], harness := (true, "d6538dc527bf923e5271eb2b262043d6babd84da4685f65dd47200239ed627a1"), looks := false }, kinds := [], alts := [], laidByText := true, laidKinds := [.data], laidTests := true, laidLooks := .later }
def WalOldUptoCardSaid : Prop := Claim7.holds Tryd.pinned (.plain (OpenSpec.upto walOldSpec)) walOldUptoCard

/-- THE SECOND FORM's CARD OF 'ramblelaw06.WalNone'. -/
def walNoneUptoCard : Claim7 := { stood := { row := walNoneUptoRow, standIns := [], harness := (true, "d6538dc527bf923e5271eb2b262043d6babd84da4685f65dd47200239ed627a1"), looks := false }, kinds := [], alts := [], laidByText := true, laidKinds := [.data], laidTests := true, laidLooks := .later }
def WalNoneUptoCardSaid : Prop := Claim7.holds Tryd.pinned (.plain (OpenSpec.upto walNoneSpec)) walNoneUptoCard
end Rows
end Go.Proofs.YtnclhjjhobbbjaaDoor
