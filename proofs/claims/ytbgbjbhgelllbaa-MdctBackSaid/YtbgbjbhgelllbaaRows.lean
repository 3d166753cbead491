/-
  No cell of these rows narrows 'for every input' (looked for: loops, veiled, ifaces, maps, wideKeys, modest, calm, conditions, laid).
  DERIVED. THE GIVEN ROWS OF THIS SEAT. 6 by the template 'for every input the law returns true; each argument reads behind the call as it read before'; 0 by the template 'total and deterministic' (their statements: YtbgbjbhgelllbaaTotals.lean).
  GIVEN WITH THE SEED: the statements are not yours to turn. If you find one false, say at which input.
  Laid BY PROGRAM, IN A SANDBOX (cutbox-rows.mjs): the forced cells as the released guide's own fill.sh prints them over the translation 12afc780e8013125… (all of the seat's roots in one cut). By AI agents, Wed Nov 11 2026. No macro, syntax, notation, axiom, sorry.
-/
import Derived.Test.YtbgbjbhgelllbaaChecked
import GoSem.Claim
import GoSem.ClaimJoined
import GoSem.ClaimMapViews
import Derived.JoinedTies
import Derived.KernelRfl
namespace Go.Proofs.Ytbgbjbhgelllbaa
/- THE CELL 'sum', in the pinned program and in every row, IS THE sha256 OF THE DUMP (.gsa) THAT YtbgbjbhgelllbaaProg.lean LOADS. Nothing in Lean hashes anything: it is a label: what it is worth is what the hold of that sum in a sandbox is worth. -/
noncomputable def Try.pinned : Pinned := { name := "ytbgbjbhgelllbaa", sum := "12afc780e8013125ec7735ee740069b107aa180d87161408f3a153bdf8f13a75", checked := Try.checked }
namespace Rows
def none {H : Type} : Left H := { results := [], args := [] }

/-- 'reedpipelaw11.MdctNames': WHATEVER THE INPUT: true; the input reads as it did. -/
def mdctNamesSpec : ChangeSpec := { name := "mdctNames", fn := fun _ => fun
  | [] => { results := [.lit (.bool true)], args := [] }
  | _ => none }
def mdctNamesRow : OpenClaim := { program := "ytbgbjbhgelllbaa", sum := "12afc780e8013125ec7735ee740069b107aa180d87161408f3a153bdf8f13a75", func := "reedpipe/reedpipelaw11.MdctNames", spec := "mdctNames", unfollowed := true, recurses := true, apart := false }
def MdctNamesSaid : Prop := mdctNamesRow.holds Try.pinned (OpenSpec.ofChange mdctNamesSpec)

/-- ITS FALSE NEIGHBOUR: 'it returns false'. Refute it at one input. -/
def mdctNamesWrong : ChangeSpec := { name := "mdctNames", fn := fun _ => fun
  | [] => { results := [.lit (.bool false)], args := [] }
  | _ => none }
def MdctNamesWrongFalsely : Prop := mdctNamesRow.holds Try.pinned (OpenSpec.ofChange mdctNamesWrong)

/-- 'reedpipelaw11.MdctDoes': WHATEVER THE INPUT: true; the input reads as it did. -/
def mdctDoesSpec : ChangeSpec := { name := "mdctDoes", fn := fun _ => fun
  | [d1, d2] => { results := [.lit (.bool true)], args := [d1, d2] }
  | _ => none }
def mdctDoesRow : OpenClaim := { program := "ytbgbjbhgelllbaa", sum := "12afc780e8013125ec7735ee740069b107aa180d87161408f3a153bdf8f13a75", func := "reedpipe/reedpipelaw11.MdctDoes", spec := "mdctDoes", unfollowed := true, recurses := true, apart := false }
def MdctDoesSaid : Prop := mdctDoesRow.holds Try.pinned (OpenSpec.ofChange mdctDoesSpec)

/-- ITS FALSE NEIGHBOUR: 'it returns false'. Refute it at one input. -/
def mdctDoesWrong : ChangeSpec := { name := "mdctDoes", fn := fun _ => fun
  | [d1, d2] => { results := [.lit (.bool false)], args := [d1, d2] }
  | _ => none }
def MdctDoesWrongFalsely : Prop := mdctDoesRow.holds Try.pinned (OpenSpec.ofChange mdctDoesWrong)

/-- 'reedpipelaw11.MdctFolds': WHATEVER THE INPUT: true; the input reads as it did. -/
def mdctFoldsSpec : ChangeSpec := { name := "mdctFolds", fn := fun _ => fun
  | [d] => { results := [.lit (.bool true)], args := [d] }
  | _ => none }
def mdctFoldsRow : OpenClaim := { program := "ytbgbjbhgelllbaa", sum := "12afc780e8013125ec7735ee740069b107aa180d87161408f3a153bdf8f13a75", func := "reedpipe/reedpipelaw11.MdctFolds", spec := "mdctFolds", unfollowed := true, recurses := true, apart := false }
def MdctFoldsSaid : Prop := mdctFoldsRow.holds Try.pinned (OpenSpec.ofChange mdctFoldsSpec)

/-- ITS FALSE NEIGHBOUR: 'it returns false'. Refute it at one input. -/
def mdctFoldsWrong : ChangeSpec := { name := "mdctFolds", fn := fun _ => fun
  | [d] => { results := [.lit (.bool false)], args := [d] }
  | _ => none }
def MdctFoldsWrongFalsely : Prop := mdctFoldsRow.holds Try.pinned (OpenSpec.ofChange mdctFoldsWrong)

/-- 'reedpipelaw11.MdctSums': WHATEVER THE INPUT: true; the input reads as it did. -/
def mdctSumsSpec : ChangeSpec := { name := "mdctSums", fn := fun _ => fun
  | [d1, d2] => { results := [.lit (.bool true)], args := [d1, d2] }
  | _ => none }
def mdctSumsRow : OpenClaim := { program := "ytbgbjbhgelllbaa", sum := "12afc780e8013125ec7735ee740069b107aa180d87161408f3a153bdf8f13a75", func := "reedpipe/reedpipelaw11.MdctSums", spec := "mdctSums", unfollowed := true, recurses := true, apart := false }
def MdctSumsSaid : Prop := mdctSumsRow.holds Try.pinned (OpenSpec.ofChange mdctSumsSpec)

/-- ITS FALSE NEIGHBOUR: 'it returns false'. Refute it at one input. -/
def mdctSumsWrong : ChangeSpec := { name := "mdctSums", fn := fun _ => fun
  | [d1, d2] => { results := [.lit (.bool false)], args := [d1, d2] }
  | _ => none }
def MdctSumsWrongFalsely : Prop := mdctSumsRow.holds Try.pinned (OpenSpec.ofChange mdctSumsWrong)

/-- 'reedpipelaw11.MdctTurns': WHATEVER THE INPUT: true; the input reads as it did. -/
def mdctTurnsSpec : ChangeSpec := { name := "mdctTurns", fn := fun _ => fun
  | [d1, d2] => { results := [.lit (.bool true)], args := [d1, d2] }
  | _ => none }
def mdctTurnsRow : OpenClaim := { program := "ytbgbjbhgelllbaa", sum := "12afc780e8013125ec7735ee740069b107aa180d87161408f3a153bdf8f13a75", func := "reedpipe/reedpipelaw11.MdctTurns", spec := "mdctTurns", unfollowed := true, recurses := true, apart := false }
def MdctTurnsSaid : Prop := mdctTurnsRow.holds Try.pinned (OpenSpec.ofChange mdctTurnsSpec)

/-- ITS FALSE NEIGHBOUR: 'it returns false'. Refute it at one input. -/
def mdctTurnsWrong : ChangeSpec := { name := "mdctTurns", fn := fun _ => fun
  | [d1, d2] => { results := [.lit (.bool false)], args := [d1, d2] }
  | _ => none }
def MdctTurnsWrongFalsely : Prop := mdctTurnsRow.holds Try.pinned (OpenSpec.ofChange mdctTurnsWrong)

/-- 'reedpipelaw11.MdctBack': WHATEVER THE INPUT: true; the input reads as it did. -/
def mdctBackSpec : ChangeSpec := { name := "mdctBack", fn := fun _ => fun
  | [d] => { results := [.lit (.bool true)], args := [d] }
  | _ => none }
def mdctBackRow : OpenClaim := { program := "ytbgbjbhgelllbaa", sum := "12afc780e8013125ec7735ee740069b107aa180d87161408f3a153bdf8f13a75", func := "reedpipe/reedpipelaw11.MdctBack", spec := "mdctBack", unfollowed := true, recurses := true, apart := false }
def MdctBackSaid : Prop := mdctBackRow.holds Try.pinned (OpenSpec.ofChange mdctBackSpec)

/-- ITS FALSE NEIGHBOUR: 'it returns false'. Refute it at one input. -/
def mdctBackWrong : ChangeSpec := { name := "mdctBack", fn := fun _ => fun
  | [d] => { results := [.lit (.bool false)], args := [d] }
  | _ => none }
def MdctBackWrongFalsely : Prop := mdctBackRow.holds Try.pinned (OpenSpec.ofChange mdctBackWrong)

/- THE SECOND FORM. 'bulk': how many values and letters a reading holds, each counted each time it is reached (what is shared counts as often as it is met; a slice's spare places count too). A statement '..UptoSaid' is the law's where the arguments, and the package variables that the reading takes, are together of bulk at most 1048576: NARROWER than '..Said'. Prove '..Said' where nothing that the law and all that it calls make is longer than what came in: it says more and counts as full. Else prove '..UptoSaid'. A law counts once. -/
mutual
def uptoBulk {H : Type} : DataW H → Nat
  | .lit (.string bytes) => bytes.length + 1
  | .lit _ => 1
  | .nil => 1
  | .ptr d => uptoBulk d + 1
  | .slice elems spare => uptoBulkAll elems + uptoBulkAll spare + 1
  | .agg parts => uptoBulkAll parts + 1
  | .iface _ d => uptoBulk d + 1
  | .map entries => uptoBulkEntries entries + 1
  | .held _ => 1
def uptoBulkAll {H : Type} : List (DataW H) → Nat
  | [] => 0
  | d :: r => uptoBulk d + uptoBulkAll r
def uptoBulkEntries {H : Type} : List (Lit × DataW H) → Nat
  | [] => 0
  | x :: r => uptoBulkEntry x + uptoBulkEntries r
def uptoBulkEntry {H : Type} : Lit × DataW H → Nat
  | (.string bytes, d) => bytes.length + uptoBulk d + 1
  | (_, d) => uptoBulk d + 1
 end
def uptoSmall : (H : Type) → List (DataW H) → Bool := fun _ ds => decide (uptoBulkAll ds ≤ 1048576)
def OpenSpec.upto (s : _root_.Go.ChangeSpec) : _root_.Go.OpenSpec := { _root_.Go.OpenSpec.ofChange s with cond := some uptoSmall }

/-- 'reedpipelaw11.MdctNames', WHERE WHAT IT READS IS OF BULK AT MOST 1048576: true; the input reads as it did. -/
def mdctNamesUptoRow : OpenClaim := { program := "ytbgbjbhgelllbaa", sum := "12afc780e8013125ec7735ee740069b107aa180d87161408f3a153bdf8f13a75", func := "reedpipe/reedpipelaw11.MdctNames", spec := "mdctNames", unfollowed := true, recurses := true, apart := false, narrowed := true }
def MdctNamesUptoSaid : Prop := mdctNamesUptoRow.holds Try.pinned (OpenSpec.upto mdctNamesSpec)

/-- 'reedpipelaw11.MdctDoes', WHERE WHAT IT READS IS OF BULK AT MOST 1048576: true; the input reads as it did. -/
def mdctDoesUptoRow : OpenClaim := { program := "ytbgbjbhgelllbaa", sum := "12afc780e8013125ec7735ee740069b107aa180d87161408f3a153bdf8f13a75", func := "reedpipe/reedpipelaw11.MdctDoes", spec := "mdctDoes", unfollowed := true, recurses := true, apart := false, narrowed := true }
def MdctDoesUptoSaid : Prop := mdctDoesUptoRow.holds Try.pinned (OpenSpec.upto mdctDoesSpec)

/-- 'reedpipelaw11.MdctFolds', WHERE WHAT IT READS IS OF BULK AT MOST 1048576: true; the input reads as it did. -/
def mdctFoldsUptoRow : OpenClaim := { program := "ytbgbjbhgelllbaa", sum := "12afc780e8013125ec7735ee740069b107aa180d87161408f3a153bdf8f13a75", func := "reedpipe/reedpipelaw11.MdctFolds", spec := "mdctFolds", unfollowed := true, recurses := true, apart := false, narrowed := true }
def MdctFoldsUptoSaid : Prop := mdctFoldsUptoRow.holds Try.pinned (OpenSpec.upto mdctFoldsSpec)

/-- 'reedpipelaw11.MdctSums', WHERE WHAT IT READS IS OF BULK AT MOST 1048576: true; the input reads as it did. -/
def mdctSumsUptoRow : OpenClaim := { program := "ytbgbjbhgelllbaa", sum := "12afc780e8013125ec7735ee740069b107aa180d87161408f3a153bdf8f13a75", func := "reedpipe/reedpipelaw11.MdctSums", spec := "mdctSums", unfollowed := true, recurses := true, apart := false, narrowed := true }
def MdctSumsUptoSaid : Prop := mdctSumsUptoRow.holds Try.pinned (OpenSpec.upto mdctSumsSpec)

/-- 'reedpipelaw11.MdctTurns', WHERE WHAT IT READS IS OF BULK AT MOST 1048576: true; the input reads as it did. -/
def mdctTurnsUptoRow : OpenClaim := { program := "ytbgbjbhgelllbaa", sum := "12afc780e8013125ec7735ee740069b107aa180d87161408f3a153bdf8f13a75", func := "reedpipe/reedpipelaw11.MdctTurns", spec := "mdctTurns", unfollowed := true, recurses := true, apart := false, narrowed := true }
def MdctTurnsUptoSaid : Prop := mdctTurnsUptoRow.holds Try.pinned (OpenSpec.upto mdctTurnsSpec)

/-- 'reedpipelaw11.MdctBack', WHERE WHAT IT READS IS OF BULK AT MOST 1048576: true; the input reads as it did. -/
def mdctBackUptoRow : OpenClaim := { program := "ytbgbjbhgelllbaa", sum := "12afc780e8013125ec7735ee740069b107aa180d87161408f3a153bdf8f13a75", func := "reedpipe/reedpipelaw11.MdctBack", spec := "mdctBack", unfollowed := true, recurses := true, apart := false, narrowed := true }
def MdctBackUptoSaid : Prop := mdctBackUptoRow.holds Try.pinned (OpenSpec.upto mdctBackSpec)

end Rows
end Go.Proofs.Ytbgbjbhgelllbaa
