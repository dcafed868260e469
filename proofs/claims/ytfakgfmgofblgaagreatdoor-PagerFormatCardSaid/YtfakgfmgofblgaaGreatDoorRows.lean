/-
  NARROWER THAN 'FOR EVERY INPUT', by the rows' own cells (each row's printed sentence says how): PagerDoes: laid · PagerDamage: laid · PagerFormat: laid · PagerAway: laid.
  DERIVED. THE GIVEN ROWS OF THIS SEAT. 4 by the template 'for every input the law returns true; each argument reads behind the call as it read before'; 0 by the template 'total and deterministic' (their statements: YtfakgfmgofblgaaGreatDoorTotals.lean).
  GIVEN WITH THE SEED: the statements are not yours to turn. If you find one false, say at which input.
  Laid BY PROGRAM, IN A SANDBOX (cutbox-rows.mjs): the forced cells as the released guide's own fill.sh prints them over the translation a4fc792d1a2f54aa… (all of the seat's roots in one cut). By AI agents, Wed Nov 11 2026. No macro, syntax, notation, axiom, sorry.
-/
import Derived.Test.YtfakgfmgofblgaaGreatDoorChecked
import GoSem.Claim
import GoSem.ClaimJoined
import GoSem.ClaimMapViews
import Derived.JoinedTies
import Derived.KernelRfl
namespace Go.Proofs.YtfakgfmgofblgaaGreatDoor
/- THE CELL 'sum', in the pinned program and in every row, IS THE sha256 OF THE DUMP (.gsa) THAT YtfakgfmgofblgaaGreatDoorProg.lean LOADS. Nothing in Lean hashes anything: it is a label: what it is worth is what the hold of that sum in a sandbox is worth. -/
noncomputable def Tryz.pinned : Pinned := { name := "ytfakgfmgofblgaagreatdoor", sum := "a4fc792d1a2f54aafd9a6da08679d2e8c3e772bcdb03b5e6f6f65a711d3d9cc5", checked := Tryz.checked }
namespace Rows
def none {H : Type} : Left H := { results := [], args := [] }

/- WHAT THE LISTED PACKAGE-LEVEL VARIABLES READ AS WHEN THE CALL BEGINS. Each datum BY PROGRAM (the guide's laid-datum.mjs) off the statement by which the dump's own 'gosem.cut.vars' lays the variable. In a bare row this is a premise. The card (YtfakgfmgofblgaaGreatDoorCards.lean) ties it to the program's text. -/
def laid_ramble_sector_fours {H : Type} : DataW H := .agg [.lit (.int .u32 0), .lit (.int .u32 498536548), .lit (.int .u32 997073096), .lit (.int .u32 651767980), .lit (.int .u32 1994146192), .lit (.int .u32 1802195444), .lit (.int .u32 1303535960), .lit (.int .u32 1342533948), .lit (.int .u32 3988292384), .lit (.int .u32 4027552580), .lit (.int .u32 3604390888), .lit (.int .u32 3412177804), .lit (.int .u32 2607071920), .lit (.int .u32 2262029012), .lit (.int .u32 2685067896), .lit (.int .u32 3183342108)]

/-- 'ramblelaw07.PagerDoes': WHATEVER THE INPUT: true; the input reads as it did. -/
def pagerDoesSpec : ChangeSpec := { name := "pagerDoes", fn := fun _ => fun
  | [d1, d2, d3, d4] => { results := [.lit (.bool true)], args := [d1, d2, d3, d4] }
  | _ => none }
def pagerDoesRow : OpenClaim := { program := "ytfakgfmgofblgaagreatdoor", sum := "a4fc792d1a2f54aafd9a6da08679d2e8c3e772bcdb03b5e6f6f65a711d3d9cc5", func := "ramble/ramblelaw07.PagerDoes", spec := "pagerDoes", unfollowed := true, recurses := true, named := ["ramble/sector.fours"], apart := false, laid := [("ramble/sector.fours", laid_ramble_sector_fours)] }
def PagerDoesSaid : Prop := pagerDoesRow.holds Tryz.pinned (OpenSpec.ofChange pagerDoesSpec)

/-- ITS FALSE NEIGHBOUR: 'it returns false'. Refute it at one input. -/
def pagerDoesWrong : ChangeSpec := { name := "pagerDoes", fn := fun _ => fun
  | [d1, d2, d3, d4] => { results := [.lit (.bool false)], args := [d1, d2, d3, d4] }
  | _ => none }
def PagerDoesWrongFalsely : Prop := pagerDoesRow.holds Tryz.pinned (OpenSpec.ofChange pagerDoesWrong)

/-- 'ramblelaw07.PagerDamage': WHATEVER THE INPUT: true; the input reads as it did. -/
def pagerDamageSpec : ChangeSpec := { name := "pagerDamage", fn := fun _ => fun
  | [d1, d2, d3, d4, d5] => { results := [.lit (.bool true)], args := [d1, d2, d3, d4, d5] }
  | _ => none }
def pagerDamageRow : OpenClaim := { program := "ytfakgfmgofblgaagreatdoor", sum := "a4fc792d1a2f54aafd9a6da08679d2e8c3e772bcdb03b5e6f6f65a711d3d9cc5", func := "ramble/ramblelaw07.PagerDamage", spec := "pagerDamage", unfollowed := true, recurses := true, named := ["ramble/sector.fours"], apart := false, laid := [("ramble/sector.fours", laid_ramble_sector_fours)] }
def PagerDamageSaid : Prop := pagerDamageRow.holds Tryz.pinned (OpenSpec.ofChange pagerDamageSpec)

/-- ITS FALSE NEIGHBOUR: 'it returns false'. Refute it at one input. -/
def pagerDamageWrong : ChangeSpec := { name := "pagerDamage", fn := fun _ => fun
  | [d1, d2, d3, d4, d5] => { results := [.lit (.bool false)], args := [d1, d2, d3, d4, d5] }
  | _ => none }
def PagerDamageWrongFalsely : Prop := pagerDamageRow.holds Tryz.pinned (OpenSpec.ofChange pagerDamageWrong)

/-- 'ramblelaw07.PagerFormat': WHATEVER THE INPUT: true; the input reads as it did. -/
def pagerFormatSpec : ChangeSpec := { name := "pagerFormat", fn := fun _ => fun
  | [d1, d2, d3, d4] => { results := [.lit (.bool true)], args := [d1, d2, d3, d4] }
  | _ => none }
def pagerFormatRow : OpenClaim := { program := "ytfakgfmgofblgaagreatdoor", sum := "a4fc792d1a2f54aafd9a6da08679d2e8c3e772bcdb03b5e6f6f65a711d3d9cc5", func := "ramble/ramblelaw07.PagerFormat", spec := "pagerFormat", unfollowed := true, recurses := true, named := ["ramble/sector.fours"], apart := false, laid := [("ramble/sector.fours", laid_ramble_sector_fours)] }
def PagerFormatSaid : Prop := pagerFormatRow.holds Tryz.pinned (OpenSpec.ofChange pagerFormatSpec)

/-- ITS FALSE NEIGHBOUR: 'it returns false'. Refute it at one input. -/
def pagerFormatWrong : ChangeSpec := { name := "pagerFormat", fn := fun _ => fun
  | [d1, d2, d3, d4] => { results := [.lit (.bool false)], args := [d1, d2, d3, d4] }
  | _ => none }
def PagerFormatWrongFalsely : Prop := pagerFormatRow.holds Tryz.pinned (OpenSpec.ofChange pagerFormatWrong)

/-- 'ramblelaw07.PagerAway': WHATEVER THE INPUT: true; the input reads as it did. -/
def pagerAwaySpec : ChangeSpec := { name := "pagerAway", fn := fun _ => fun
  | [d1, d2, d3] => { results := [.lit (.bool true)], args := [d1, d2, d3] }
  | _ => none }
def pagerAwayRow : OpenClaim := { program := "ytfakgfmgofblgaagreatdoor", sum := "a4fc792d1a2f54aafd9a6da08679d2e8c3e772bcdb03b5e6f6f65a711d3d9cc5", func := "ramble/ramblelaw07.PagerAway", spec := "pagerAway", unfollowed := true, recurses := true, named := ["ramble/sector.fours"], apart := false, laid := [("ramble/sector.fours", laid_ramble_sector_fours)] }
def PagerAwaySaid : Prop := pagerAwayRow.holds Tryz.pinned (OpenSpec.ofChange pagerAwaySpec)

/-- ITS FALSE NEIGHBOUR: 'it returns false'. Refute it at one input. -/
def pagerAwayWrong : ChangeSpec := { name := "pagerAway", fn := fun _ => fun
  | [d1, d2, d3] => { results := [.lit (.bool false)], args := [d1, d2, d3] }
  | _ => none }
def PagerAwayWrongFalsely : Prop := pagerAwayRow.holds Tryz.pinned (OpenSpec.ofChange pagerAwayWrong)

/- THE SECOND FORM. 'bulk': how many values and letters a reading holds, each counted each time it is reached (what is shared counts as often as it is met; a slice's spare places count too). A statement '..UptoSaid' is the law's where the arguments, and the package variables that the reading takes, are together of bulk at most 1048576: NARROWER than '..Said'. Prove '..Said' where nothing that the law and all that it calls make is longer than what came in: it says more and counts as full. Else prove '..UptoSaid'. A law counts once. -/
mutual
def uptoBulk {H : Type} : DataW H → Nat
  | .lit (.string bytes) => bytes.length + 1
  | .lit _ => 1
  | .nil => 1
  | .ptr d => uptoBulk d + 1
  | .slice elems spare => uptoBulkAll elems + uptoBulkAll spare + 1
  | .agg parts => uptoBulkAll parts + 1
  | .iface _ d => uptoBulk d + 1
  | .map entries => uptoBulkEntries entries + 1
  | .held _ => 1
def uptoBulkAll {H : Type} : List (DataW H) → Nat
  | [] => 0
  | d :: r => uptoBulk d + uptoBulkAll r
def uptoBulkEntries {H : Type} : List (Lit × DataW H) → Nat
  | [] => 0
  | x :: r => uptoBulkEntry x + uptoBulkEntries r
def uptoBulkEntry {H : Type} : Lit × DataW H → Nat
  | (.string bytes, d) => bytes.length + uptoBulk d + 1
  | (_, d) => uptoBulk d + 1
 end
def uptoSmall : (H : Type) → List (DataW H) → Bool := fun _ ds => decide (uptoBulkAll ds ≤ 1048576)
def OpenSpec.upto (s : _root_.Go.ChangeSpec) : _root_.Go.OpenSpec := { _root_.Go.OpenSpec.ofChange s with cond := some uptoSmall }

/-- 'ramblelaw07.PagerDoes', WHERE WHAT IT READS IS OF BULK AT MOST 1048576: true; the input reads as it did. -/
def pagerDoesUptoRow : OpenClaim := { program := "ytfakgfmgofblgaagreatdoor", sum := "a4fc792d1a2f54aafd9a6da08679d2e8c3e772bcdb03b5e6f6f65a711d3d9cc5", func := "ramble/ramblelaw07.PagerDoes", spec := "pagerDoes", unfollowed := true, recurses := true, named := ["ramble/sector.fours"], apart := false, laid := [("ramble/sector.fours", laid_ramble_sector_fours)], narrowed := true }
def PagerDoesUptoSaid : Prop := pagerDoesUptoRow.holds Tryz.pinned (OpenSpec.upto pagerDoesSpec)

/-- 'ramblelaw07.PagerDamage', WHERE WHAT IT READS IS OF BULK AT MOST 1048576: true; the input reads as it did. -/
def pagerDamageUptoRow : OpenClaim := { program := "ytfakgfmgofblgaagreatdoor", sum := "a4fc792d1a2f54aafd9a6da08679d2e8c3e772bcdb03b5e6f6f65a711d3d9cc5", func := "ramble/ramblelaw07.PagerDamage", spec := "pagerDamage", unfollowed := true, recurses := true, named := ["ramble/sector.fours"], apart := false, laid := [("ramble/sector.fours", laid_ramble_sector_fours)], narrowed := true }
def PagerDamageUptoSaid : Prop := pagerDamageUptoRow.holds Tryz.pinned (OpenSpec.upto pagerDamageSpec)

/-- 'ramblelaw07.PagerFormat', WHERE WHAT IT READS IS OF BULK AT MOST 1048576: true; the input reads as it did. -/
def pagerFormatUptoRow : OpenClaim := { program := "ytfakgfmgofblgaagreatdoor", sum := "a4fc792d1a2f54aafd9a6da08679d2e8c3e772bcdb03b5e6f6f65a711d3d9cc5", func := "ramble/ramblelaw07.PagerFormat", spec := "pagerFormat", unfollowed := true, recurses := true, named := ["ramble/sector.fours"], apart := false, laid := [("ramble/sector.fours", laid_ramble_sector_fours)], narrowed := true }
def PagerFormatUptoSaid : Prop := pagerFormatUptoRow.holds Tryz.pinned (OpenSpec.upto pagerFormatSpec)

/-- 'ramblelaw07.PagerAway', WHERE WHAT IT READS IS OF BULK AT MOST 1048576: true; the input reads as it did. -/
def pagerAwayUptoRow : OpenClaim := { program := "ytfakgfmgofblgaagreatdoor", sum := "a4fc792d1a2f54aafd9a6da08679d2e8c3e772bcdb03b5e6f6f65a711d3d9cc5", func := "ramble/ramblelaw07.PagerAway", spec := "pagerAway", unfollowed := true, recurses := true, named := ["ramble/sector.fours"], apart := false, laid := [("ramble/sector.fours", laid_ramble_sector_fours)], narrowed := true }
def PagerAwayUptoSaid : Prop := pagerAwayUptoRow.holds Tryz.pinned (OpenSpec.upto pagerAwaySpec)

end Rows
end Go.Proofs.YtfakgfmgofblgaaGreatDoor
