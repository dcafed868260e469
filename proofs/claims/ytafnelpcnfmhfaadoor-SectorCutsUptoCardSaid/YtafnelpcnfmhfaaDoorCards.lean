/-
  DERIVED. GIVEN WITH THE SEED: THE CARDS: each row of YtafnelpcnfmhfaaDoorRows.lean that lists a variable, with what it lists TIED to the program's text (the seventh form; the later family's looks); each row that meets fmt, with fmt's text TOLD by the authors' own Lean function (tested against real Go, not proved from fmt's source: count such statements apart). THE CARD IS WHAT COUNTS. Prove the row's statement (the work); the ties are given (YtafnelpcnfmhfaaDoorTie.lean); close each card by the builder's one call (the guide's Derived/Test/ToyasCard.lean, 'card_holds'). Laid BY PROGRAM, IN A SANDBOX (cutbox-door.mjs). By AI agents, Wed Nov 11 2026. No macro, syntax, notation, axiom, sorry.
-/
import Derived.Test.YtafnelpcnfmhfaaDoorRows
import GoSem.ClaimSeven
namespace Go.Proofs.YtafnelpcnfmhfaaDoor
namespace Rows

/-- THE TIED CARD OF 'ramblelaw05.SectorFrames'. -/
def sectorFramesCard : Claim7 := { stood := { row := sectorFramesRow, standIns := [], harness := (true, "801ec99d4da7b37eb308cbb7a67e419d1705a678b9ff37b701c452e625d4f4f1"), looks := false }, kinds := [], alts := [], laidByText := true, laidKinds := [.data], laidTests := true, laidLooks := .later }
def SectorFramesCardSaid : Prop := Claim7.holds Tryd.pinned (.plain (OpenSpec.ofChange sectorFramesSpec)) sectorFramesCard

/-- THE TIED CARD OF 'ramblelaw05.SectorDisks'. -/
def sectorDisksCard : Claim7 := { stood := { row := sectorDisksRow, standIns := [], harness := (true, "801ec99d4da7b37eb308cbb7a67e419d1705a678b9ff37b701c452e625d4f4f1"), looks := false }, kinds := [], alts := [], laidByText := true, laidKinds := [.data], laidTests := true, laidLooks := .later }
def SectorDisksCardSaid : Prop := Claim7.holds Tryd.pinned (.plain (OpenSpec.ofChange sectorDisksSpec)) sectorDisksCard

/-- THE TIED CARD OF 'ramblelaw05.SectorCuts'. -/
def sectorCutsCard : Claim7 := { stood := { row := sectorCutsRow, standIns := [], harness := (true, "801ec99d4da7b37eb308cbb7a67e419d1705a678b9ff37b701c452e625d4f4f1"), looks := false }, kinds := [], alts := [], laidByText := true, laidKinds := [.data], laidTests := true, laidLooks := .later }
def SectorCutsCardSaid : Prop := Claim7.holds Tryd.pinned (.plain (OpenSpec.ofChange sectorCutsSpec)) sectorCutsCard

/-- THE TIED CARD OF 'ramblelaw05.SectorBack'. -/
def sectorBackCard : Claim7 := { stood := { row := sectorBackRow, standIns := [], harness := (true, "801ec99d4da7b37eb308cbb7a67e419d1705a678b9ff37b701c452e625d4f4f1"), looks := false }, kinds := [], alts := [], laidByText := true, laidKinds := [.data], laidTests := true, laidLooks := .later }
def SectorBackCardSaid : Prop := Claim7.holds Tryd.pinned (.plain (OpenSpec.ofChange sectorBackSpec)) sectorBackCard

/-- THE TIED CARD OF 'ramblelaw05.SectorDamage'. -/
def sectorDamageCard : Claim7 := { stood := { row := sectorDamageRow, standIns := [], harness := (true, "801ec99d4da7b37eb308cbb7a67e419d1705a678b9ff37b701c452e625d4f4f1"), looks := false }, kinds := [], alts := [], laidByText := true, laidKinds := [.data], laidTests := true, laidLooks := .later }
def SectorDamageCardSaid : Prop := Claim7.holds Tryd.pinned (.plain (OpenSpec.ofChange sectorDamageSpec)) sectorDamageCard

/-- THE SECOND FORM's CARD OF 'ramblelaw05.SectorFrames'. -/
def sectorFramesUptoCard : Claim7 := { stood := { row := sectorFramesUptoRow, standIns := [], harness := (true, "801ec99d4da7b37eb308cbb7a67e419d1705a678b9ff37b701c452e625d4f4f1"), looks := false }, kinds := [], alts := [], laidByText := true, laidKinds := [.data], laidTests := true, laidLooks := .later }
def SectorFramesUptoCardSaid : Prop := Claim7.holds Tryd.pinned (.plain (OpenSpec.upto sectorFramesSpec)) sectorFramesUptoCard

/-- THE SECOND FORM's CARD OF 'ramblelaw05.SectorDisks'. -/
def sectorDisksUptoCard : Claim7 := { stood := { row := sectorDisksUptoRow, standIns := [], harness := (true, "801ec99d4da7b37eb308cbb7a67e419d1705a678b9ff37b701c452e625d4f4f1"), looks := false }, kinds := [], alts := [], laidByText := true, laidKinds := [.data], laidTests := true, laidLooks := .later }
def SectorDisksUptoCardSaid : Prop := Claim7.holds Tryd.pinned (.plain (OpenSpec.upto sectorDisksSpec)) sectorDisksUptoCard

/-- THE SECOND FORM's CARD OF 'ramblelaw05.SectorCuts'. -/
def sectorCutsUptoCard : Claim7 := { stood := { row := sectorCutsUptoRow, standIns := [], harness := (true, "801ec99d4da7b37eb308cbb7a67e419d1705a678b9ff37b701c452e625d4f4f1"), looks := false }, kinds := [], alts := [], laidByText := true, laidKinds := [.data], laidTests := true, laidLooks := .later }
def SectorCutsUptoCardSaid : Prop := Claim7.holds Tryd.pinned (.plain (OpenSpec.upto sectorCutsSpec)) sectorCutsUptoCard

/-- THE SECOND FORM's CARD OF 'ramblelaw05.SectorBack'. -/
def sectorBackUptoCard : Claim7 := { stood := { row := sectorBackUptoRow, standIns := [], harness := (true, "801ec99d4da7b37eb308cbb7a67e419d1705a678b9ff37b701c452e625d4f4f1"), looks := false }, kinds := [], alts := [], laidByText := true, laidKinds := [.data], laidTests := true, laidLooks := .later }
def SectorBackUptoCardSaid : Prop := Claim7.holds Tryd.pinned (.plain (OpenSpec.upto sectorBackSpec)) sectorBackUptoCard

/-- THE SECOND FORM's CARD OF 'ramblelaw05.SectorDamage'. -/
def sectorDamageUptoCard : Claim7 := { stood := { row := sectorDamageUptoRow, standIns := [], harness := (true, "801ec99d4da7b37eb308cbb7a67e419d1705a678b9ff37b701c452e625d4f4f1"), looks := false }, kinds := [], alts := [], laidByText := true, laidKinds := [.data], laidTests := true, laidLooks := .later }
def SectorDamageUptoCardSaid : Prop := Claim7.holds Tryd.pinned (.plain (OpenSpec.upto sectorDamageSpec)) sectorDamageUptoCard
end Rows
end Go.Proofs.YtafnelpcnfmhfaaDoor
