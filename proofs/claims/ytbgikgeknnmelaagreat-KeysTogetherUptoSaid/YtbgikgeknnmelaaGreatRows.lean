/-
  NARROWER THAN 'FOR EVERY INPUT', by the rows' own cells (each row's printed sentence says how): KeysEntries: loops · KeysBegins: loops · KeysBack: loops · KeysApart: loops · KeysTogether: loops.
  DERIVED. THE GIVEN ROWS OF THIS SEAT. 5 by the template 'for every input the law returns true; each argument reads behind the call as it read before'; 0 by the template 'total and deterministic' (their statements: YtbgikgeknnmelaaGreatTotals.lean).
  GIVEN WITH THE SEED: the statements are not yours to turn. If you find one false, say at which input.
  Laid BY PROGRAM, IN A SANDBOX (cutbox-rows.mjs): the forced cells as the released guide's own fill.sh prints them over the translation 6816ccc80a6eacd6… (all of the seat's roots in one cut). By AI agents, Wed Nov 11 2026. No macro, syntax, notation, axiom, sorry.
-/
import Derived.Test.YtbgikgeknnmelaaGreatChecked
import GoSem.Claim
import GoSem.ClaimJoined
import GoSem.ClaimMapViews
import Derived.JoinedTies
import Derived.KernelRfl
namespace Go.Proofs.YtbgikgeknnmelaaGreat
/- THE CELL 'sum', in the pinned program and in every row, IS THE sha256 OF THE DUMP (.gsa) THAT YtbgikgeknnmelaaGreatProg.lean LOADS. Nothing in Lean hashes anything: it is a label: what it is worth is what the hold of that sum in a sandbox is worth. -/
noncomputable def Tryz.pinned : Pinned := { name := "ytbgikgeknnmelaagreat", sum := "6816ccc80a6eacd67b41c881ed83a00dc889256f43659648e2c9ebdb0ed8f865", checked := Tryz.checked }
namespace Rows
def none {H : Type} : Left H := { results := [], args := [] }

/-- 'ramblelaw11.KeysEntries': WHATEVER THE INPUT: true; the input reads as it did. -/
def keysEntriesSpec : ChangeSpec := { name := "keysEntries", fn := fun _ => fun
  | [d1, d2, d3, d4, d5] => { results := [.lit (.bool true)], args := [d1, d2, d3, d4, d5] }
  | _ => none }
def keysEntriesRow : OpenClaim := { program := "ytbgikgeknnmelaagreat", sum := "6816ccc80a6eacd67b41c881ed83a00dc889256f43659648e2c9ebdb0ed8f865", func := "ramble/ramblelaw11.KeysEntries", spec := "keysEntries", inPlace := ["internal/bytealg.abigen_runtime_cmpstring", "internal/abi.NoEscape", "internal/bytealg.MakeNoZero"], unfollowed := true, recurses := true, loops := true, apart := false }
def KeysEntriesSaid : Prop := keysEntriesRow.holds Tryz.pinned (OpenSpec.ofChange keysEntriesSpec)

/-- ITS FALSE NEIGHBOUR: 'it returns false'. Refute it at one input. -/
def keysEntriesWrong : ChangeSpec := { name := "keysEntries", fn := fun _ => fun
  | [d1, d2, d3, d4, d5] => { results := [.lit (.bool false)], args := [d1, d2, d3, d4, d5] }
  | _ => none }
def KeysEntriesWrongFalsely : Prop := keysEntriesRow.holds Tryz.pinned (OpenSpec.ofChange keysEntriesWrong)

/-- 'ramblelaw11.KeysBegins': WHATEVER THE INPUT: true; the input reads as it did. -/
def keysBeginsSpec : ChangeSpec := { name := "keysBegins", fn := fun _ => fun
  | [d1, d2, d3] => { results := [.lit (.bool true)], args := [d1, d2, d3] }
  | _ => none }
def keysBeginsRow : OpenClaim := { program := "ytbgikgeknnmelaagreat", sum := "6816ccc80a6eacd67b41c881ed83a00dc889256f43659648e2c9ebdb0ed8f865", func := "ramble/ramblelaw11.KeysBegins", spec := "keysBegins", inPlace := ["internal/bytealg.abigen_runtime_cmpstring", "internal/abi.NoEscape", "internal/bytealg.MakeNoZero"], unfollowed := true, recurses := true, loops := true, apart := false }
def KeysBeginsSaid : Prop := keysBeginsRow.holds Tryz.pinned (OpenSpec.ofChange keysBeginsSpec)

/-- ITS FALSE NEIGHBOUR: 'it returns false'. Refute it at one input. -/
def keysBeginsWrong : ChangeSpec := { name := "keysBegins", fn := fun _ => fun
  | [d1, d2, d3] => { results := [.lit (.bool false)], args := [d1, d2, d3] }
  | _ => none }
def KeysBeginsWrongFalsely : Prop := keysBeginsRow.holds Tryz.pinned (OpenSpec.ofChange keysBeginsWrong)

/-- 'ramblelaw11.KeysBack': WHATEVER THE INPUT: true; the input reads as it did. -/
def keysBackSpec : ChangeSpec := { name := "keysBack", fn := fun _ => fun
  | [d1, d2] => { results := [.lit (.bool true)], args := [d1, d2] }
  | _ => none }
def keysBackRow : OpenClaim := { program := "ytbgikgeknnmelaagreat", sum := "6816ccc80a6eacd67b41c881ed83a00dc889256f43659648e2c9ebdb0ed8f865", func := "ramble/ramblelaw11.KeysBack", spec := "keysBack", inPlace := ["internal/bytealg.abigen_runtime_cmpstring", "internal/abi.NoEscape", "internal/bytealg.MakeNoZero"], unfollowed := true, recurses := true, loops := true, apart := false }
def KeysBackSaid : Prop := keysBackRow.holds Tryz.pinned (OpenSpec.ofChange keysBackSpec)

/-- ITS FALSE NEIGHBOUR: 'it returns false'. Refute it at one input. -/
def keysBackWrong : ChangeSpec := { name := "keysBack", fn := fun _ => fun
  | [d1, d2] => { results := [.lit (.bool false)], args := [d1, d2] }
  | _ => none }
def KeysBackWrongFalsely : Prop := keysBackRow.holds Tryz.pinned (OpenSpec.ofChange keysBackWrong)

/-- 'ramblelaw11.KeysApart': WHATEVER THE INPUT: true; the input reads as it did. -/
def keysApartSpec : ChangeSpec := { name := "keysApart", fn := fun _ => fun
  | [d1, d2, d3] => { results := [.lit (.bool true)], args := [d1, d2, d3] }
  | _ => none }
def keysApartRow : OpenClaim := { program := "ytbgikgeknnmelaagreat", sum := "6816ccc80a6eacd67b41c881ed83a00dc889256f43659648e2c9ebdb0ed8f865", func := "ramble/ramblelaw11.KeysApart", spec := "keysApart", inPlace := ["internal/bytealg.abigen_runtime_cmpstring", "internal/abi.NoEscape", "internal/bytealg.MakeNoZero"], unfollowed := true, recurses := true, loops := true, apart := false }
def KeysApartSaid : Prop := keysApartRow.holds Tryz.pinned (OpenSpec.ofChange keysApartSpec)

/-- ITS FALSE NEIGHBOUR: 'it returns false'. Refute it at one input. -/
def keysApartWrong : ChangeSpec := { name := "keysApart", fn := fun _ => fun
  | [d1, d2, d3] => { results := [.lit (.bool false)], args := [d1, d2, d3] }
  | _ => none }
def KeysApartWrongFalsely : Prop := keysApartRow.holds Tryz.pinned (OpenSpec.ofChange keysApartWrong)

/-- 'ramblelaw11.KeysTogether': WHATEVER THE INPUT: true; the input reads as it did. -/
def keysTogetherSpec : ChangeSpec := { name := "keysTogether", fn := fun _ => fun
  | [d1, d2] => { results := [.lit (.bool true)], args := [d1, d2] }
  | _ => none }
def keysTogetherRow : OpenClaim := { program := "ytbgikgeknnmelaagreat", sum := "6816ccc80a6eacd67b41c881ed83a00dc889256f43659648e2c9ebdb0ed8f865", func := "ramble/ramblelaw11.KeysTogether", spec := "keysTogether", inPlace := ["internal/bytealg.abigen_runtime_cmpstring", "internal/abi.NoEscape", "internal/bytealg.MakeNoZero"], unfollowed := true, recurses := true, loops := true, apart := false }
def KeysTogetherSaid : Prop := keysTogetherRow.holds Tryz.pinned (OpenSpec.ofChange keysTogetherSpec)

/-- ITS FALSE NEIGHBOUR: 'it returns false'. Refute it at one input. -/
def keysTogetherWrong : ChangeSpec := { name := "keysTogether", fn := fun _ => fun
  | [d1, d2] => { results := [.lit (.bool false)], args := [d1, d2] }
  | _ => none }
def KeysTogetherWrongFalsely : Prop := keysTogetherRow.holds Tryz.pinned (OpenSpec.ofChange keysTogetherWrong)

/- THE SECOND FORM. 'bulk': how many values and letters a reading holds, each counted each time it is reached (what is shared counts as often as it is met; a slice's spare places count too). A statement '..UptoSaid' is the law's where the arguments, and the package variables that the reading takes, are together of bulk at most 1048576: NARROWER than '..Said'. Prove '..Said' where nothing that the law and all that it calls make is longer than what came in: it says more and counts as full. Else prove '..UptoSaid'. A law counts once. -/
mutual
def uptoBulk {H : Type} : DataW H → Nat
  | .lit (.string bytes) => bytes.length + 1
  | .lit _ => 1
  | .nil => 1
  | .ptr d => uptoBulk d + 1
  | .slice elems spare => uptoBulkAll elems + uptoBulkAll spare + 1
  | .agg parts => uptoBulkAll parts + 1
  | .iface _ d => uptoBulk d + 1
  | .map entries => uptoBulkEntries entries + 1
  | .held _ => 1
def uptoBulkAll {H : Type} : List (DataW H) → Nat
  | [] => 0
  | d :: r => uptoBulk d + uptoBulkAll r
def uptoBulkEntries {H : Type} : List (Lit × DataW H) → Nat
  | [] => 0
  | x :: r => uptoBulkEntry x + uptoBulkEntries r
def uptoBulkEntry {H : Type} : Lit × DataW H → Nat
  | (.string bytes, d) => bytes.length + uptoBulk d + 1
  | (_, d) => uptoBulk d + 1
 end
def uptoSmall : (H : Type) → List (DataW H) → Bool := fun _ ds => decide (uptoBulkAll ds ≤ 1048576)
def OpenSpec.upto (s : _root_.Go.ChangeSpec) : _root_.Go.OpenSpec := { _root_.Go.OpenSpec.ofChange s with cond := some uptoSmall }

/-- 'ramblelaw11.KeysEntries', WHERE WHAT IT READS IS OF BULK AT MOST 1048576: true; the input reads as it did. -/
def keysEntriesUptoRow : OpenClaim := { program := "ytbgikgeknnmelaagreat", sum := "6816ccc80a6eacd67b41c881ed83a00dc889256f43659648e2c9ebdb0ed8f865", func := "ramble/ramblelaw11.KeysEntries", spec := "keysEntries", inPlace := ["internal/bytealg.abigen_runtime_cmpstring", "internal/abi.NoEscape", "internal/bytealg.MakeNoZero"], unfollowed := true, recurses := true, loops := true, apart := false, narrowed := true }
def KeysEntriesUptoSaid : Prop := keysEntriesUptoRow.holds Tryz.pinned (OpenSpec.upto keysEntriesSpec)

/-- 'ramblelaw11.KeysBegins', WHERE WHAT IT READS IS OF BULK AT MOST 1048576: true; the input reads as it did. -/
def keysBeginsUptoRow : OpenClaim := { program := "ytbgikgeknnmelaagreat", sum := "6816ccc80a6eacd67b41c881ed83a00dc889256f43659648e2c9ebdb0ed8f865", func := "ramble/ramblelaw11.KeysBegins", spec := "keysBegins", inPlace := ["internal/bytealg.abigen_runtime_cmpstring", "internal/abi.NoEscape", "internal/bytealg.MakeNoZero"], unfollowed := true, recurses := true, loops := true, apart := false, narrowed := true }
def KeysBeginsUptoSaid : Prop := keysBeginsUptoRow.holds Tryz.pinned (OpenSpec.upto keysBeginsSpec)

/-- 'ramblelaw11.KeysBack', WHERE WHAT IT READS IS OF BULK AT MOST 1048576: true; the input reads as it did. -/
def keysBackUptoRow : OpenClaim := { program := "ytbgikgeknnmelaagreat", sum := "6816ccc80a6eacd67b41c881ed83a00dc889256f43659648e2c9ebdb0ed8f865", func := "ramble/ramblelaw11.KeysBack", spec := "keysBack", inPlace := ["internal/bytealg.abigen_runtime_cmpstring", "internal/abi.NoEscape", "internal/bytealg.MakeNoZero"], unfollowed := true, recurses := true, loops := true, apart := false, narrowed := true }
def KeysBackUptoSaid : Prop := keysBackUptoRow.holds Tryz.pinned (OpenSpec.upto keysBackSpec)

/-- 'ramblelaw11.KeysApart', WHERE WHAT IT READS IS OF BULK AT MOST 1048576: true; the input reads as it did. -/
def keysApartUptoRow : OpenClaim := { program := "ytbgikgeknnmelaagreat", sum := "6816ccc80a6eacd67b41c881ed83a00dc889256f43659648e2c9ebdb0ed8f865", func := "ramble/ramblelaw11.KeysApart", spec := "keysApart", inPlace := ["internal/bytealg.abigen_runtime_cmpstring", "internal/abi.NoEscape", "internal/bytealg.MakeNoZero"], unfollowed := true, recurses := true, loops := true, apart := false, narrowed := true }
def KeysApartUptoSaid : Prop := keysApartUptoRow.holds Tryz.pinned (OpenSpec.upto keysApartSpec)

/-- 'ramblelaw11.KeysTogether', WHERE WHAT IT READS IS OF BULK AT MOST 1048576: true; the input reads as it did. -/
def keysTogetherUptoRow : OpenClaim := { program := "ytbgikgeknnmelaagreat", sum := "6816ccc80a6eacd67b41c881ed83a00dc889256f43659648e2c9ebdb0ed8f865", func := "ramble/ramblelaw11.KeysTogether", spec := "keysTogether", inPlace := ["internal/bytealg.abigen_runtime_cmpstring", "internal/abi.NoEscape", "internal/bytealg.MakeNoZero"], unfollowed := true, recurses := true, loops := true, apart := false, narrowed := true }
def KeysTogetherUptoSaid : Prop := keysTogetherUptoRow.holds Tryz.pinned (OpenSpec.upto keysTogetherSpec)

end Rows
end Go.Proofs.YtbgikgeknnmelaaGreat
