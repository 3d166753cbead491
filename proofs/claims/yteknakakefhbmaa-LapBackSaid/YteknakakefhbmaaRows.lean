/-
  No cell of these rows narrows 'for every input' (looked for: loops, veiled, ifaces, maps, wideKeys, modest, calm, conditions, laid).
  DERIVED. THE GIVEN ROWS OF THIS SEAT. 10 by the template 'for every input the law returns true; each argument reads behind the call as it read before'; 0 by the template 'total and deterministic' (their statements: YteknakakefhbmaaTotals.lean).
  GIVEN WITH THE SEED: the statements are not yours to turn. If you find one false, say at which input.
  Laid BY PROGRAM, IN A SANDBOX (cutbox-rows.mjs): the forced cells as the released guide's own fill.sh prints them over the translation 6fb6578f565bb8c5… (all of the seat's roots in one cut). By AI agents, Wed Nov 11 2026. No macro, syntax, notation, axiom, sorry.
-/
import Derived.Test.YteknakakefhbmaaChecked
import GoSem.Claim
import GoSem.ClaimJoined
import GoSem.ClaimMapViews
import Derived.JoinedTies
import Derived.KernelRfl
namespace Go.Proofs.Yteknakakefhbmaa
/- THE CELL 'sum', in the pinned program and in every row, IS THE sha256 OF THE DUMP (.gsa) THAT YteknakakefhbmaaProg.lean LOADS. Nothing in Lean hashes anything: it is a label: what it is worth is what the hold of that sum in a sandbox is worth. -/
noncomputable def Try.pinned : Pinned := { name := "yteknakakefhbmaa", sum := "6fb6578f565bb8c5807c14cdd9093be1e9613972b66069b7c4d50b23c5f8ff78", checked := Try.checked }
namespace Rows
def none {H : Type} : Left H := { results := [], args := [] }

/-- 'reedpipelaw12.BlockNames': WHATEVER THE INPUT: true; the input reads as it did. -/
def blockNamesSpec : ChangeSpec := { name := "blockNames", fn := fun _ => fun
  | [] => { results := [.lit (.bool true)], args := [] }
  | _ => none }
def blockNamesRow : OpenClaim := { program := "yteknakakefhbmaa", sum := "6fb6578f565bb8c5807c14cdd9093be1e9613972b66069b7c4d50b23c5f8ff78", func := "reedpipe/reedpipelaw12.BlockNames", spec := "blockNames", unfollowed := true, recurses := true, apart := false }
def BlockNamesSaid : Prop := blockNamesRow.holds Try.pinned (OpenSpec.ofChange blockNamesSpec)

/-- ITS FALSE NEIGHBOUR: 'it returns false'. Refute it at one input. -/
def blockNamesWrong : ChangeSpec := { name := "blockNames", fn := fun _ => fun
  | [] => { results := [.lit (.bool false)], args := [] }
  | _ => none }
def BlockNamesWrongFalsely : Prop := blockNamesRow.holds Try.pinned (OpenSpec.ofChange blockNamesWrong)

/-- 'reedpipelaw12.BlockDoes': WHATEVER THE INPUT: true; the input reads as it did. -/
def blockDoesSpec : ChangeSpec := { name := "blockDoes", fn := fun _ => fun
  | [d1, d2, d3, d4, d5] => { results := [.lit (.bool true)], args := [d1, d2, d3, d4, d5] }
  | _ => none }
def blockDoesRow : OpenClaim := { program := "yteknakakefhbmaa", sum := "6fb6578f565bb8c5807c14cdd9093be1e9613972b66069b7c4d50b23c5f8ff78", func := "reedpipe/reedpipelaw12.BlockDoes", spec := "blockDoes", unfollowed := true, recurses := true, apart := false }
def BlockDoesSaid : Prop := blockDoesRow.holds Try.pinned (OpenSpec.ofChange blockDoesSpec)

/-- ITS FALSE NEIGHBOUR: 'it returns false'. Refute it at one input. -/
def blockDoesWrong : ChangeSpec := { name := "blockDoes", fn := fun _ => fun
  | [d1, d2, d3, d4, d5] => { results := [.lit (.bool false)], args := [d1, d2, d3, d4, d5] }
  | _ => none }
def BlockDoesWrongFalsely : Prop := blockDoesRow.holds Try.pinned (OpenSpec.ofChange blockDoesWrong)

/-- 'reedpipelaw12.BlockPower': WHATEVER THE INPUT: true; the input reads as it did. -/
def blockPowerSpec : ChangeSpec := { name := "blockPower", fn := fun _ => fun
  | [] => { results := [.lit (.bool true)], args := [] }
  | _ => none }
def blockPowerRow : OpenClaim := { program := "yteknakakefhbmaa", sum := "6fb6578f565bb8c5807c14cdd9093be1e9613972b66069b7c4d50b23c5f8ff78", func := "reedpipe/reedpipelaw12.BlockPower", spec := "blockPower", unfollowed := true, recurses := true, apart := false }
def BlockPowerSaid : Prop := blockPowerRow.holds Try.pinned (OpenSpec.ofChange blockPowerSpec)

/-- ITS FALSE NEIGHBOUR: 'it returns false'. Refute it at one input. -/
def blockPowerWrong : ChangeSpec := { name := "blockPower", fn := fun _ => fun
  | [] => { results := [.lit (.bool false)], args := [] }
  | _ => none }
def BlockPowerWrongFalsely : Prop := blockPowerRow.holds Try.pinned (OpenSpec.ofChange blockPowerWrong)

/-- 'reedpipelaw12.BlockUnder': WHATEVER THE INPUT: true; the input reads as it did. -/
def blockUnderSpec : ChangeSpec := { name := "blockUnder", fn := fun _ => fun
  | [d1, d2, d3, d4, d5, d6] => { results := [.lit (.bool true)], args := [d1, d2, d3, d4, d5, d6] }
  | _ => none }
def blockUnderRow : OpenClaim := { program := "yteknakakefhbmaa", sum := "6fb6578f565bb8c5807c14cdd9093be1e9613972b66069b7c4d50b23c5f8ff78", func := "reedpipe/reedpipelaw12.BlockUnder", spec := "blockUnder", unfollowed := true, recurses := true, apart := false }
def BlockUnderSaid : Prop := blockUnderRow.holds Try.pinned (OpenSpec.ofChange blockUnderSpec)

/-- ITS FALSE NEIGHBOUR: 'it returns false'. Refute it at one input. -/
def blockUnderWrong : ChangeSpec := { name := "blockUnder", fn := fun _ => fun
  | [d1, d2, d3, d4, d5, d6] => { results := [.lit (.bool false)], args := [d1, d2, d3, d4, d5, d6] }
  | _ => none }
def BlockUnderWrongFalsely : Prop := blockUnderRow.holds Try.pinned (OpenSpec.ofChange blockUnderWrong)

/-- 'reedpipelaw12.BlockShorts': WHATEVER THE INPUT: true; the input reads as it did. -/
def blockShortsSpec : ChangeSpec := { name := "blockShorts", fn := fun _ => fun
  | [d1, d2, d3, d4, d5] => { results := [.lit (.bool true)], args := [d1, d2, d3, d4, d5] }
  | _ => none }
def blockShortsRow : OpenClaim := { program := "yteknakakefhbmaa", sum := "6fb6578f565bb8c5807c14cdd9093be1e9613972b66069b7c4d50b23c5f8ff78", func := "reedpipe/reedpipelaw12.BlockShorts", spec := "blockShorts", unfollowed := true, recurses := true, apart := false }
def BlockShortsSaid : Prop := blockShortsRow.holds Try.pinned (OpenSpec.ofChange blockShortsSpec)

/-- ITS FALSE NEIGHBOUR: 'it returns false'. Refute it at one input. -/
def blockShortsWrong : ChangeSpec := { name := "blockShorts", fn := fun _ => fun
  | [d1, d2, d3, d4, d5] => { results := [.lit (.bool false)], args := [d1, d2, d3, d4, d5] }
  | _ => none }
def BlockShortsWrongFalsely : Prop := blockShortsRow.holds Try.pinned (OpenSpec.ofChange blockShortsWrong)

/-- 'reedpipelaw13.LapNames': WHATEVER THE INPUT: true; the input reads as it did. -/
def lapNamesSpec : ChangeSpec := { name := "lapNames", fn := fun _ => fun
  | [] => { results := [.lit (.bool true)], args := [] }
  | _ => none }
def lapNamesRow : OpenClaim := { program := "yteknakakefhbmaa", sum := "6fb6578f565bb8c5807c14cdd9093be1e9613972b66069b7c4d50b23c5f8ff78", func := "reedpipe/reedpipelaw13.LapNames", spec := "lapNames", unfollowed := true, recurses := true, apart := false }
def LapNamesSaid : Prop := lapNamesRow.holds Try.pinned (OpenSpec.ofChange lapNamesSpec)

/-- ITS FALSE NEIGHBOUR: 'it returns false'. Refute it at one input. -/
def lapNamesWrong : ChangeSpec := { name := "lapNames", fn := fun _ => fun
  | [] => { results := [.lit (.bool false)], args := [] }
  | _ => none }
def LapNamesWrongFalsely : Prop := lapNamesRow.holds Try.pinned (OpenSpec.ofChange lapNamesWrong)

/-- 'reedpipelaw13.LapDoes': WHATEVER THE INPUT: true; the input reads as it did. -/
def lapDoesSpec : ChangeSpec := { name := "lapDoes", fn := fun _ => fun
  | [d1, d2, d3, d4] => { results := [.lit (.bool true)], args := [d1, d2, d3, d4] }
  | _ => none }
def lapDoesRow : OpenClaim := { program := "yteknakakefhbmaa", sum := "6fb6578f565bb8c5807c14cdd9093be1e9613972b66069b7c4d50b23c5f8ff78", func := "reedpipe/reedpipelaw13.LapDoes", spec := "lapDoes", unfollowed := true, recurses := true, apart := false }
def LapDoesSaid : Prop := lapDoesRow.holds Try.pinned (OpenSpec.ofChange lapDoesSpec)

/-- ITS FALSE NEIGHBOUR: 'it returns false'. Refute it at one input. -/
def lapDoesWrong : ChangeSpec := { name := "lapDoes", fn := fun _ => fun
  | [d1, d2, d3, d4] => { results := [.lit (.bool false)], args := [d1, d2, d3, d4] }
  | _ => none }
def LapDoesWrongFalsely : Prop := lapDoesRow.holds Try.pinned (OpenSpec.ofChange lapDoesWrong)

/-- 'reedpipelaw13.LapBack': WHATEVER THE INPUT: true; the input reads as it did. -/
def lapBackSpec : ChangeSpec := { name := "lapBack", fn := fun _ => fun
  | [d1, d2] => { results := [.lit (.bool true)], args := [d1, d2] }
  | _ => none }
def lapBackRow : OpenClaim := { program := "yteknakakefhbmaa", sum := "6fb6578f565bb8c5807c14cdd9093be1e9613972b66069b7c4d50b23c5f8ff78", func := "reedpipe/reedpipelaw13.LapBack", spec := "lapBack", unfollowed := true, recurses := true, apart := false }
def LapBackSaid : Prop := lapBackRow.holds Try.pinned (OpenSpec.ofChange lapBackSpec)

/-- ITS FALSE NEIGHBOUR: 'it returns false'. Refute it at one input. -/
def lapBackWrong : ChangeSpec := { name := "lapBack", fn := fun _ => fun
  | [d1, d2] => { results := [.lit (.bool false)], args := [d1, d2] }
  | _ => none }
def LapBackWrongFalsely : Prop := lapBackRow.holds Try.pinned (OpenSpec.ofChange lapBackWrong)

/-- 'reedpipelaw13.LapForgets': WHATEVER THE INPUT: true; the input reads as it did. -/
def lapForgetsSpec : ChangeSpec := { name := "lapForgets", fn := fun _ => fun
  | [d1, d2, d3, d4, d5, d6] => { results := [.lit (.bool true)], args := [d1, d2, d3, d4, d5, d6] }
  | _ => none }
def lapForgetsRow : OpenClaim := { program := "yteknakakefhbmaa", sum := "6fb6578f565bb8c5807c14cdd9093be1e9613972b66069b7c4d50b23c5f8ff78", func := "reedpipe/reedpipelaw13.LapForgets", spec := "lapForgets", unfollowed := true, recurses := true, apart := false }
def LapForgetsSaid : Prop := lapForgetsRow.holds Try.pinned (OpenSpec.ofChange lapForgetsSpec)

/-- ITS FALSE NEIGHBOUR: 'it returns false'. Refute it at one input. -/
def lapForgetsWrong : ChangeSpec := { name := "lapForgets", fn := fun _ => fun
  | [d1, d2, d3, d4, d5, d6] => { results := [.lit (.bool false)], args := [d1, d2, d3, d4, d5, d6] }
  | _ => none }
def LapForgetsWrongFalsely : Prop := lapForgetsRow.holds Try.pinned (OpenSpec.ofChange lapForgetsWrong)

/-- 'reedpipelaw13.LapQuiet': WHATEVER THE INPUT: true; the input reads as it did. -/
def lapQuietSpec : ChangeSpec := { name := "lapQuiet", fn := fun _ => fun
  | [d1, d2, d3, d4] => { results := [.lit (.bool true)], args := [d1, d2, d3, d4] }
  | _ => none }
def lapQuietRow : OpenClaim := { program := "yteknakakefhbmaa", sum := "6fb6578f565bb8c5807c14cdd9093be1e9613972b66069b7c4d50b23c5f8ff78", func := "reedpipe/reedpipelaw13.LapQuiet", spec := "lapQuiet", unfollowed := true, recurses := true, apart := false }
def LapQuietSaid : Prop := lapQuietRow.holds Try.pinned (OpenSpec.ofChange lapQuietSpec)

/-- ITS FALSE NEIGHBOUR: 'it returns false'. Refute it at one input. -/
def lapQuietWrong : ChangeSpec := { name := "lapQuiet", fn := fun _ => fun
  | [d1, d2, d3, d4] => { results := [.lit (.bool false)], args := [d1, d2, d3, d4] }
  | _ => none }
def LapQuietWrongFalsely : Prop := lapQuietRow.holds Try.pinned (OpenSpec.ofChange lapQuietWrong)

/- THE SECOND FORM. 'bulk': how many values and letters a reading holds, each counted each time it is reached (what is shared counts as often as it is met; a slice's spare places count too). A statement '..UptoSaid' is the law's where the arguments, and the package variables that the reading takes, are together of bulk at most 1048576: NARROWER than '..Said'. Prove '..Said' where nothing that the law and all that it calls make is longer than what came in: it says more and counts as full. Else prove '..UptoSaid'. A law counts once. -/
mutual
def uptoBulk {H : Type} : DataW H → Nat
  | .lit (.string bytes) => bytes.length + 1
  | .lit _ => 1
  | .nil => 1
  | .ptr d => uptoBulk d + 1
  | .slice elems spare => uptoBulkAll elems + uptoBulkAll spare + 1
  | .agg parts => uptoBulkAll parts + 1
  | .iface _ d => uptoBulk d + 1
  | .map entries => uptoBulkEntries entries + 1
  | .held _ => 1
def uptoBulkAll {H : Type} : List (DataW H) → Nat
  | [] => 0
  | d :: r => uptoBulk d + uptoBulkAll r
def uptoBulkEntries {H : Type} : List (Lit × DataW H) → Nat
  | [] => 0
  | x :: r => uptoBulkEntry x + uptoBulkEntries r
def uptoBulkEntry {H : Type} : Lit × DataW H → Nat
  | (.string bytes, d) => bytes.length + uptoBulk d + 1
  | (_, d) => uptoBulk d + 1
 end
def uptoSmall : (H : Type) → List (DataW H) → Bool := fun _ ds => decide (uptoBulkAll ds ≤ 1048576)
def OpenSpec.upto (s : _root_.Go.ChangeSpec) : _root_.Go.OpenSpec := { _root_.Go.OpenSpec.ofChange s with cond := some uptoSmall }

/-- 'reedpipelaw12.BlockNames', WHERE WHAT IT READS IS OF BULK AT MOST 1048576: true; the input reads as it did. -/
def blockNamesUptoRow : OpenClaim := { program := "yteknakakefhbmaa", sum := "6fb6578f565bb8c5807c14cdd9093be1e9613972b66069b7c4d50b23c5f8ff78", func := "reedpipe/reedpipelaw12.BlockNames", spec := "blockNames", unfollowed := true, recurses := true, apart := false, narrowed := true }
def BlockNamesUptoSaid : Prop := blockNamesUptoRow.holds Try.pinned (OpenSpec.upto blockNamesSpec)

/-- 'reedpipelaw12.BlockDoes', WHERE WHAT IT READS IS OF BULK AT MOST 1048576: true; the input reads as it did. -/
def blockDoesUptoRow : OpenClaim := { program := "yteknakakefhbmaa", sum := "6fb6578f565bb8c5807c14cdd9093be1e9613972b66069b7c4d50b23c5f8ff78", func := "reedpipe/reedpipelaw12.BlockDoes", spec := "blockDoes", unfollowed := true, recurses := true, apart := false, narrowed := true }
def BlockDoesUptoSaid : Prop := blockDoesUptoRow.holds Try.pinned (OpenSpec.upto blockDoesSpec)

/-- 'reedpipelaw12.BlockPower', WHERE WHAT IT READS IS OF BULK AT MOST 1048576: true; the input reads as it did. -/
def blockPowerUptoRow : OpenClaim := { program := "yteknakakefhbmaa", sum := "6fb6578f565bb8c5807c14cdd9093be1e9613972b66069b7c4d50b23c5f8ff78", func := "reedpipe/reedpipelaw12.BlockPower", spec := "blockPower", unfollowed := true, recurses := true, apart := false, narrowed := true }
def BlockPowerUptoSaid : Prop := blockPowerUptoRow.holds Try.pinned (OpenSpec.upto blockPowerSpec)

/-- 'reedpipelaw12.BlockUnder', WHERE WHAT IT READS IS OF BULK AT MOST 1048576: true; the input reads as it did. -/
def blockUnderUptoRow : OpenClaim := { program := "yteknakakefhbmaa", sum := "6fb6578f565bb8c5807c14cdd9093be1e9613972b66069b7c4d50b23c5f8ff78", func := "reedpipe/reedpipelaw12.BlockUnder", spec := "blockUnder", unfollowed := true, recurses := true, apart := false, narrowed := true }
def BlockUnderUptoSaid : Prop := blockUnderUptoRow.holds Try.pinned (OpenSpec.upto blockUnderSpec)

/-- 'reedpipelaw12.BlockShorts', WHERE WHAT IT READS IS OF BULK AT MOST 1048576: true; the input reads as it did. -/
def blockShortsUptoRow : OpenClaim := { program := "yteknakakefhbmaa", sum := "6fb6578f565bb8c5807c14cdd9093be1e9613972b66069b7c4d50b23c5f8ff78", func := "reedpipe/reedpipelaw12.BlockShorts", spec := "blockShorts", unfollowed := true, recurses := true, apart := false, narrowed := true }
def BlockShortsUptoSaid : Prop := blockShortsUptoRow.holds Try.pinned (OpenSpec.upto blockShortsSpec)

/-- 'reedpipelaw13.LapNames', WHERE WHAT IT READS IS OF BULK AT MOST 1048576: true; the input reads as it did. -/
def lapNamesUptoRow : OpenClaim := { program := "yteknakakefhbmaa", sum := "6fb6578f565bb8c5807c14cdd9093be1e9613972b66069b7c4d50b23c5f8ff78", func := "reedpipe/reedpipelaw13.LapNames", spec := "lapNames", unfollowed := true, recurses := true, apart := false, narrowed := true }
def LapNamesUptoSaid : Prop := lapNamesUptoRow.holds Try.pinned (OpenSpec.upto lapNamesSpec)

/-- 'reedpipelaw13.LapDoes', WHERE WHAT IT READS IS OF BULK AT MOST 1048576: true; the input reads as it did. -/
def lapDoesUptoRow : OpenClaim := { program := "yteknakakefhbmaa", sum := "6fb6578f565bb8c5807c14cdd9093be1e9613972b66069b7c4d50b23c5f8ff78", func := "reedpipe/reedpipelaw13.LapDoes", spec := "lapDoes", unfollowed := true, recurses := true, apart := false, narrowed := true }
def LapDoesUptoSaid : Prop := lapDoesUptoRow.holds Try.pinned (OpenSpec.upto lapDoesSpec)

/-- 'reedpipelaw13.LapBack', WHERE WHAT IT READS IS OF BULK AT MOST 1048576: true; the input reads as it did. -/
def lapBackUptoRow : OpenClaim := { program := "yteknakakefhbmaa", sum := "6fb6578f565bb8c5807c14cdd9093be1e9613972b66069b7c4d50b23c5f8ff78", func := "reedpipe/reedpipelaw13.LapBack", spec := "lapBack", unfollowed := true, recurses := true, apart := false, narrowed := true }
def LapBackUptoSaid : Prop := lapBackUptoRow.holds Try.pinned (OpenSpec.upto lapBackSpec)

/-- 'reedpipelaw13.LapForgets', WHERE WHAT IT READS IS OF BULK AT MOST 1048576: true; the input reads as it did. -/
def lapForgetsUptoRow : OpenClaim := { program := "yteknakakefhbmaa", sum := "6fb6578f565bb8c5807c14cdd9093be1e9613972b66069b7c4d50b23c5f8ff78", func := "reedpipe/reedpipelaw13.LapForgets", spec := "lapForgets", unfollowed := true, recurses := true, apart := false, narrowed := true }
def LapForgetsUptoSaid : Prop := lapForgetsUptoRow.holds Try.pinned (OpenSpec.upto lapForgetsSpec)

/-- 'reedpipelaw13.LapQuiet', WHERE WHAT IT READS IS OF BULK AT MOST 1048576: true; the input reads as it did. -/
def lapQuietUptoRow : OpenClaim := { program := "yteknakakefhbmaa", sum := "6fb6578f565bb8c5807c14cdd9093be1e9613972b66069b7c4d50b23c5f8ff78", func := "reedpipe/reedpipelaw13.LapQuiet", spec := "lapQuiet", unfollowed := true, recurses := true, apart := false, narrowed := true }
def LapQuietUptoSaid : Prop := lapQuietUptoRow.holds Try.pinned (OpenSpec.upto lapQuietSpec)

end Rows
end Go.Proofs.Yteknakakefhbmaa
