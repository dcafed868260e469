/-
  DERIVED. GIVEN WITH THE SEED: THE CARDS: each row of YtfakgfmgofblgaaGreatDoorRows.lean that lists a variable, with what it lists TIED to the program's text (the seventh form; the later family's looks); each row that meets fmt, with fmt's text TOLD by the authors' own Lean function (tested against real Go, not proved from fmt's source: count such statements apart). THE CARD IS WHAT COUNTS. Prove the row's statement (the work); the ties are given (YtfakgfmgofblgaaGreatDoorTie.lean); close each card by the builder's one call (the guide's Derived/Test/ToyasCard.lean, 'card_holds'). Laid BY PROGRAM, IN A SANDBOX (cutbox-door.mjs). By AI agents, Wed Nov 11 2026. No macro, syntax, notation, axiom, sorry.
-/
import Derived.Test.YtfakgfmgofblgaaGreatDoorRows
import GoSem.ClaimSeven
namespace Go.Proofs.YtfakgfmgofblgaaGreatDoor
namespace Rows

/-- THE TIED CARD OF 'ramblelaw07.PagerDoes'. -/
def pagerDoesCard : Claim7 := { stood := { row := pagerDoesRow, standIns := [], harness := (true, "228fdc6cb2c9a06d099ac938d3ec0572edf00d34f3b64079e324c5ed1815e1d1"), looks := false }, kinds := [], alts := [], laidByText := true, laidKinds := [.data], laidTests := true, laidLooks := .later }
def PagerDoesCardSaid : Prop := Claim7.holds Tryz.pinned (.plain (OpenSpec.ofChange pagerDoesSpec)) pagerDoesCard

/-- THE TIED CARD OF 'ramblelaw07.PagerDamage'. -/
def pagerDamageCard : Claim7 := { stood := { row := pagerDamageRow, standIns := [], harness := (true, "228fdc6cb2c9a06d099ac938d3ec0572edf00d34f3b64079e324c5ed1815e1d1"), looks := false }, kinds := [], alts := [], laidByText := true, laidKinds := [.data], laidTests := true, laidLooks := .later }
def PagerDamageCardSaid : Prop := Claim7.holds Tryz.pinned (.plain (OpenSpec.ofChange pagerDamageSpec)) pagerDamageCard

/-- THE TIED CARD OF 'ramblelaw07.PagerFormat'. -/
def pagerFormatCard : Claim7 := { stood := { row := pagerFormatRow, standIns := [], harness := (true, "228fdc6cb2c9a06d099ac938d3ec0572edf00d34f3b64079e324c5ed1815e1d1"), looks := false }, kinds := [], alts := [], laidByText := true, laidKinds := [.data], laidTests := true, laidLooks := .later }
def PagerFormatCardSaid : Prop := Claim7.holds Tryz.pinned (.plain (OpenSpec.ofChange pagerFormatSpec)) pagerFormatCard

/-- THE TIED CARD OF 'ramblelaw07.PagerAway'. -/
def pagerAwayCard : Claim7 := { stood := { row := pagerAwayRow, standIns := [], harness := (true, "228fdc6cb2c9a06d099ac938d3ec0572edf00d34f3b64079e324c5ed1815e1d1"), looks := false }, kinds := [], alts := [], laidByText := true, laidKinds := [.data], laidTests := true, laidLooks := .later }
def PagerAwayCardSaid : Prop := Claim7.holds Tryz.pinned (.plain (OpenSpec.ofChange pagerAwaySpec)) pagerAwayCard

/-- THE SECOND FORM's CARD OF 'ramblelaw07.PagerDoes'. -/
def pagerDoesUptoCard : Claim7 := { stood := { row := pagerDoesUptoRow, standIns := [], harness := (true, "228fdc6cb2c9a06d099ac938d3ec0572edf00d34f3b64079e324c5ed1815e1d1"), looks := false }, kinds := [], alts := [], laidByText := true, laidKinds := [.data], laidTests := true, laidLooks := .later }
def PagerDoesUptoCardSaid : Prop := Claim7.holds Tryz.pinned (.plain (OpenSpec.upto pagerDoesSpec)) pagerDoesUptoCard

/-- THE SECOND FORM's CARD OF 'ramblelaw07.PagerDamage'. -/
def pagerDamageUptoCard : Claim7 := { stood := { row := pagerDamageUptoRow, standIns := [], harness := (true, "228fdc6cb2c9a06d099ac938d3ec0572edf00d34f3b64079e324c5ed1815e1d1"), looks := false }, kinds := [], alts := [], laidByText := true, laidKinds := [.data], laidTests := true, laidLooks := .later }
def PagerDamageUptoCardSaid : Prop := Claim7.holds Tryz.pinned (.plain (OpenSpec.upto pagerDamageSpec)) pagerDamageUptoCard

/-- THE SECOND FORM's CARD OF 'ramblelaw07.PagerFormat'. -/
def pagerFormatUptoCard : Claim7 := { stood := { row := pagerFormatUptoRow, standIns := [], harness := (true, "228fdc6cb2c9a06d099ac938d3ec0572edf00d34f3b64079e324c5ed1815e1d1"), looks := false }, kinds := [], alts := [], laidByText := true, laidKinds := [.data], laidTests := true, laidLooks := .later }
def PagerFormatUptoCardSaid : Prop := Claim7.holds Tryz.pinned (.plain (OpenSpec.upto pagerFormatSpec)) pagerFormatUptoCard

/-- THE SECOND FORM's CARD OF 'ramblelaw07.PagerAway'. -/
def pagerAwayUptoCard : Claim7 := { stood := { row := pagerAwayUptoRow, standIns := [], harness := (true, "228fdc6cb2c9a06d099ac938d3ec0572edf00d34f3b64079e324c5ed1815e1d1"), looks := false }, kinds := [], alts := [], laidByText := true, laidKinds := [.data], laidTests := true, laidLooks := .later }
def PagerAwayUptoCardSaid : Prop := Claim7.holds Tryz.pinned (.plain (OpenSpec.upto pagerAwaySpec)) pagerAwayUptoCard
end Rows
end Go.Proofs.YtfakgfmgofblgaaGreatDoor
