/-
  NARROWER THAN 'FOR EVERY INPUT', by the rows' own cells (each row's printed sentence says how): SectorFrames: laid · SectorDisks: laid · SectorCuts: laid · SectorBack: laid · SectorDamage: laid.
  DERIVED. THE GIVEN ROWS OF THIS SEAT. 5 by the template 'for every input the law returns true; each argument reads behind the call as it read before'; 0 by the template 'total and deterministic' (their statements: YtafnelpcnfmhfaaDoorTotals.lean).
  GIVEN WITH THE SEED: the statements are not yours to turn. If you find one false, say at which input.
  Laid BY PROGRAM, IN A SANDBOX (cutbox-rows.mjs): the forced cells as the released guide's own fill.sh prints them over the translation bde78ed9763d0fef… (all of the seat's roots in one cut). By AI agents, Wed Nov 11 2026. No macro, syntax, notation, axiom, sorry.
-/
import Derived.Test.YtafnelpcnfmhfaaDoorChecked
import GoSem.Claim
import GoSem.ClaimJoined
import GoSem.ClaimMapViews
import Derived.JoinedTies
import Derived.KernelRfl
namespace Go.Proofs.YtafnelpcnfmhfaaDoor
/- THE CELL 'sum', in the pinned program and in every row, IS THE sha256 OF THE DUMP (.gsa) THAT YtafnelpcnfmhfaaDoorProg.lean LOADS. Nothing in Lean hashes anything: it is a label: what it is worth is what the hold of that sum in a sandbox is worth. -/
noncomputable def Tryd.pinned : Pinned := { name := "ytafnelpcnfmhfaadoor", sum := "bde78ed9763d0fefd64600d44b5a518368e151bb3c3405312b8b2f76e10fe3e1", checked := Tryd.checked }
namespace Rows
def none {H : Type} : Left H := { results := [], args := [] }

/- WHAT THE LISTED PACKAGE-LEVEL VARIABLES READ AS WHEN THE CALL BEGINS. Each datum BY PROGRAM (the guide's laid-datum.mjs) off the statement by which the dump's own 'gosem.cut.vars' lays the variable. In a bare row this is a premise. The card (YtafnelpcnfmhfaaDoorCards.lean) ties it to the program's text. -/
def laid_ramble_sector_fours {H : Type} : DataW H := .agg [.lit (.int .u32 0), .lit (.int .u32 498536548), .lit (.int .u32 997073096), .lit (.int .u32 651767980), .lit (.int .u32 1994146192), .lit (.int .u32 1802195444), .lit (.int .u32 1303535960), .lit (.int .u32 1342533948), .lit (.int .u32 3988292384), .lit (.int .u32 4027552580), .lit (.int .u32 3604390888), .lit (.int .u32 3412177804), .lit (.int .u32 2607071920), .lit (.int .u32 2262029012), .lit (.int .u32 2685067896), .lit (.int .u32 3183342108)]

/-- 'ramblelaw05.SectorFrames': WHATEVER THE INPUT: true; the input reads as it did. -/
def sectorFramesSpec : ChangeSpec := { name := "sectorFrames", fn := fun _ => fun
  | [d1, d2] => { results := [.lit (.bool true)], args := [d1, d2] }
  | _ => none }
def sectorFramesRow : OpenClaim := { program := "ytafnelpcnfmhfaadoor", sum := "bde78ed9763d0fefd64600d44b5a518368e151bb3c3405312b8b2f76e10fe3e1", func := "ramble/ramblelaw05.SectorFrames", spec := "sectorFrames", named := ["ramble/sector.fours"], apart := false, laid := [("ramble/sector.fours", laid_ramble_sector_fours)] }
def SectorFramesSaid : Prop := sectorFramesRow.holds Tryd.pinned (OpenSpec.ofChange sectorFramesSpec)

/-- ITS FALSE NEIGHBOUR: 'it returns false'. Refute it at one input. -/
def sectorFramesWrong : ChangeSpec := { name := "sectorFrames", fn := fun _ => fun
  | [d1, d2] => { results := [.lit (.bool false)], args := [d1, d2] }
  | _ => none }
def SectorFramesWrongFalsely : Prop := sectorFramesRow.holds Tryd.pinned (OpenSpec.ofChange sectorFramesWrong)

/-- 'ramblelaw05.SectorDisks': WHATEVER THE INPUT: true; the input reads as it did. -/
def sectorDisksSpec : ChangeSpec := { name := "sectorDisks", fn := fun _ => fun
  | [d] => { results := [.lit (.bool true)], args := [d] }
  | _ => none }
def sectorDisksRow : OpenClaim := { program := "ytafnelpcnfmhfaadoor", sum := "bde78ed9763d0fefd64600d44b5a518368e151bb3c3405312b8b2f76e10fe3e1", func := "ramble/ramblelaw05.SectorDisks", spec := "sectorDisks", named := ["ramble/sector.fours"], apart := false, laid := [("ramble/sector.fours", laid_ramble_sector_fours)] }
def SectorDisksSaid : Prop := sectorDisksRow.holds Tryd.pinned (OpenSpec.ofChange sectorDisksSpec)

/-- ITS FALSE NEIGHBOUR: 'it returns false'. Refute it at one input. -/
def sectorDisksWrong : ChangeSpec := { name := "sectorDisks", fn := fun _ => fun
  | [d] => { results := [.lit (.bool false)], args := [d] }
  | _ => none }
def SectorDisksWrongFalsely : Prop := sectorDisksRow.holds Tryd.pinned (OpenSpec.ofChange sectorDisksWrong)

/-- 'ramblelaw05.SectorCuts': WHATEVER THE INPUT: true; the input reads as it did. -/
def sectorCutsSpec : ChangeSpec := { name := "sectorCuts", fn := fun _ => fun
  | [d1, d2] => { results := [.lit (.bool true)], args := [d1, d2] }
  | _ => none }
def sectorCutsRow : OpenClaim := { program := "ytafnelpcnfmhfaadoor", sum := "bde78ed9763d0fefd64600d44b5a518368e151bb3c3405312b8b2f76e10fe3e1", func := "ramble/ramblelaw05.SectorCuts", spec := "sectorCuts", unfollowed := true, recurses := true, named := ["ramble/sector.fours"], apart := false, laid := [("ramble/sector.fours", laid_ramble_sector_fours)] }
def SectorCutsSaid : Prop := sectorCutsRow.holds Tryd.pinned (OpenSpec.ofChange sectorCutsSpec)

/-- ITS FALSE NEIGHBOUR: 'it returns false'. Refute it at one input. -/
def sectorCutsWrong : ChangeSpec := { name := "sectorCuts", fn := fun _ => fun
  | [d1, d2] => { results := [.lit (.bool false)], args := [d1, d2] }
  | _ => none }
def SectorCutsWrongFalsely : Prop := sectorCutsRow.holds Tryd.pinned (OpenSpec.ofChange sectorCutsWrong)

/-- 'ramblelaw05.SectorBack': WHATEVER THE INPUT: true; the input reads as it did. -/
def sectorBackSpec : ChangeSpec := { name := "sectorBack", fn := fun _ => fun
  | [d] => { results := [.lit (.bool true)], args := [d] }
  | _ => none }
def sectorBackRow : OpenClaim := { program := "ytafnelpcnfmhfaadoor", sum := "bde78ed9763d0fefd64600d44b5a518368e151bb3c3405312b8b2f76e10fe3e1", func := "ramble/ramblelaw05.SectorBack", spec := "sectorBack", named := ["ramble/sector.fours"], apart := false, laid := [("ramble/sector.fours", laid_ramble_sector_fours)] }
def SectorBackSaid : Prop := sectorBackRow.holds Tryd.pinned (OpenSpec.ofChange sectorBackSpec)

/-- ITS FALSE NEIGHBOUR: 'it returns false'. Refute it at one input. -/
def sectorBackWrong : ChangeSpec := { name := "sectorBack", fn := fun _ => fun
  | [d] => { results := [.lit (.bool false)], args := [d] }
  | _ => none }
def SectorBackWrongFalsely : Prop := sectorBackRow.holds Tryd.pinned (OpenSpec.ofChange sectorBackWrong)

/-- 'ramblelaw05.SectorDamage': WHATEVER THE INPUT: true; the input reads as it did. -/
def sectorDamageSpec : ChangeSpec := { name := "sectorDamage", fn := fun _ => fun
  | [d1, d2, d3] => { results := [.lit (.bool true)], args := [d1, d2, d3] }
  | _ => none }
def sectorDamageRow : OpenClaim := { program := "ytafnelpcnfmhfaadoor", sum := "bde78ed9763d0fefd64600d44b5a518368e151bb3c3405312b8b2f76e10fe3e1", func := "ramble/ramblelaw05.SectorDamage", spec := "sectorDamage", named := ["ramble/sector.fours"], apart := false, laid := [("ramble/sector.fours", laid_ramble_sector_fours)] }
def SectorDamageSaid : Prop := sectorDamageRow.holds Tryd.pinned (OpenSpec.ofChange sectorDamageSpec)

/-- ITS FALSE NEIGHBOUR: 'it returns false'. Refute it at one input. -/
def sectorDamageWrong : ChangeSpec := { name := "sectorDamage", fn := fun _ => fun
  | [d1, d2, d3] => { results := [.lit (.bool false)], args := [d1, d2, d3] }
  | _ => none }
def SectorDamageWrongFalsely : Prop := sectorDamageRow.holds Tryd.pinned (OpenSpec.ofChange sectorDamageWrong)

/- THE SECOND FORM. 'bulk': how many values and letters a reading holds, each counted each time it is reached (what is shared counts as often as it is met; a slice's spare places count too). A statement '..UptoSaid' is the law's where the arguments, and the package variables that the reading takes, are together of bulk at most 1048576: NARROWER than '..Said'. Prove '..Said' where nothing that the law and all that it calls make is longer than what came in: it says more and counts as full. Else prove '..UptoSaid'. A law counts once. -/
mutual
def uptoBulk {H : Type} : DataW H → Nat
  | .lit (.string bytes) => bytes.length + 1
  | .lit _ => 1
  | .nil => 1
  | .ptr d => uptoBulk d + 1
  | .slice elems spare => uptoBulkAll elems + uptoBulkAll spare + 1
  | .agg parts => uptoBulkAll parts + 1
  | .iface _ d => uptoBulk d + 1
  | .map entries => uptoBulkEntries entries + 1
  | .held _ => 1
def uptoBulkAll {H : Type} : List (DataW H) → Nat
  | [] => 0
  | d :: r => uptoBulk d + uptoBulkAll r
def uptoBulkEntries {H : Type} : List (Lit × DataW H) → Nat
  | [] => 0
  | x :: r => uptoBulkEntry x + uptoBulkEntries r
def uptoBulkEntry {H : Type} : Lit × DataW H → Nat
  | (.string bytes, d) => bytes.length + uptoBulk d + 1
  | (_, d) => uptoBulk d + 1
 end
def uptoSmall : (H : Type) → List (DataW H) → Bool := fun _ ds => decide (uptoBulkAll ds ≤ 1048576)
def OpenSpec.upto (s : _root_.Go.ChangeSpec) : _root_.Go.OpenSpec := { _root_.Go.OpenSpec.ofChange s with cond := some uptoSmall }

/-- 'ramblelaw05.SectorFrames', WHERE WHAT IT READS IS OF BULK AT MOST 1048576: true; the input reads as it did. -/
def sectorFramesUptoRow : OpenClaim := { program := "ytafnelpcnfmhfaadoor", sum := "bde78ed9763d0fefd64600d44b5a518368e151bb3c3405312b8b2f76e10fe3e1", func := "ramble/ramblelaw05.SectorFrames", spec := "sectorFrames", named := ["ramble/sector.fours"], apart := false, laid := [("ramble/sector.fours", laid_ramble_sector_fours)], narrowed := true }
def SectorFramesUptoSaid : Prop := sectorFramesUptoRow.holds Tryd.pinned (OpenSpec.upto sectorFramesSpec)

/-- 'ramblelaw05.SectorDisks', WHERE WHAT IT READS IS OF BULK AT MOST 1048576: true; the input reads as it did. -/
def sectorDisksUptoRow : OpenClaim := { program := "ytafnelpcnfmhfaadoor", sum := "bde78ed9763d0fefd64600d44b5a518368e151bb3c3405312b8b2f76e10fe3e1", func := "ramble/ramblelaw05.SectorDisks", spec := "sectorDisks", named := ["ramble/sector.fours"], apart := false, laid := [("ramble/sector.fours", laid_ramble_sector_fours)], narrowed := true }
def SectorDisksUptoSaid : Prop := sectorDisksUptoRow.holds Tryd.pinned (OpenSpec.upto sectorDisksSpec)

/-- 'ramblelaw05.SectorCuts', WHERE WHAT IT READS IS OF BULK AT MOST 1048576: true; the input reads as it did. -/
def sectorCutsUptoRow : OpenClaim := { program := "ytafnelpcnfmhfaadoor", sum := "bde78ed9763d0fefd64600d44b5a518368e151bb3c3405312b8b2f76e10fe3e1", func := "ramble/ramblelaw05.SectorCuts", spec := "sectorCuts", unfollowed := true, recurses := true, named := ["ramble/sector.fours"], apart := false, laid := [("ramble/sector.fours", laid_ramble_sector_fours)], narrowed := true }
def SectorCutsUptoSaid : Prop := sectorCutsUptoRow.holds Tryd.pinned (OpenSpec.upto sectorCutsSpec)

/-- 'ramblelaw05.SectorBack', WHERE WHAT IT READS IS OF BULK AT MOST 1048576: true; the input reads as it did. -/
def sectorBackUptoRow : OpenClaim := { program := "ytafnelpcnfmhfaadoor", sum := "bde78ed9763d0fefd64600d44b5a518368e151bb3c3405312b8b2f76e10fe3e1", func := "ramble/ramblelaw05.SectorBack", spec := "sectorBack", named := ["ramble/sector.fours"], apart := false, laid := [("ramble/sector.fours", laid_ramble_sector_fours)], narrowed := true }
def SectorBackUptoSaid : Prop := sectorBackUptoRow.holds Tryd.pinned (OpenSpec.upto sectorBackSpec)

/-- 'ramblelaw05.SectorDamage', WHERE WHAT IT READS IS OF BULK AT MOST 1048576: true; the input reads as it did. -/
def sectorDamageUptoRow : OpenClaim := { program := "ytafnelpcnfmhfaadoor", sum := "bde78ed9763d0fefd64600d44b5a518368e151bb3c3405312b8b2f76e10fe3e1", func := "ramble/ramblelaw05.SectorDamage", spec := "sectorDamage", named := ["ramble/sector.fours"], apart := false, laid := [("ramble/sector.fours", laid_ramble_sector_fours)], narrowed := true }
def SectorDamageUptoSaid : Prop := sectorDamageUptoRow.holds Tryd.pinned (OpenSpec.upto sectorDamageSpec)

end Rows
end Go.Proofs.YtafnelpcnfmhfaaDoor
