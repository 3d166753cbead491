/-
  No cell of these rows narrows 'for every input' (looked for: loops, veiled, ifaces, maps, wideKeys, modest, calm, conditions, laid).
  DERIVED. THE GIVEN ROWS OF THIS SEAT. 5 by the template 'for every input the law returns true; each argument reads behind the call as it read before'; 0 by the template 'total and deterministic' (their statements: YtmjgjgkclebljaaTotals.lean).
  GIVEN WITH THE SEED: the statements are not yours to turn. If you find one false, say at which input.
  Laid BY PROGRAM, IN A SANDBOX (cutbox-rows.mjs): the forced cells as the released guide's own fill.sh prints them over the translation 42d20ca770a9d47f… (all of the seat's roots in one cut). By AI agents, Wed Nov 11 2026. No macro, syntax, notation, axiom, sorry.
-/
import Derived.Test.YtmjgjgkclebljaaChecked
import GoSem.Claim
import GoSem.ClaimJoined
import GoSem.ClaimMapViews
import Derived.JoinedTies
import Derived.KernelRfl
namespace Go.Proofs.Ytmjgjgkclebljaa
/- THE CELL 'sum', in the pinned program and in every row, IS THE sha256 OF THE DUMP (.gsa) THAT YtmjgjgkclebljaaProg.lean LOADS. Nothing in Lean hashes anything: it is a label: what it is worth is what the hold of that sum in a sandbox is worth. -/
noncomputable def Try.pinned : Pinned := { name := "ytmjgjgkclebljaa", sum := "42d20ca770a9d47f9c02137e5cc2fd5c0a12bd1d4a426088db77e6a8835b0e97", checked := Try.checked }
namespace Rows
def none {H : Type} : Left H := { results := [], args := [] }

/-- 'reedpipelaw18.LaneSame': WHATEVER THE INPUT: true; the input reads as it did. -/
def laneSameSpec : ChangeSpec := { name := "laneSame", fn := fun _ => fun
  | [d1, d2] => { results := [.lit (.bool true)], args := [d1, d2] }
  | _ => none }
def laneSameRow : OpenClaim := { program := "ytmjgjgkclebljaa", sum := "42d20ca770a9d47f9c02137e5cc2fd5c0a12bd1d4a426088db77e6a8835b0e97", func := "reedpipe/reedpipelaw18.LaneSame", spec := "laneSame", unfollowed := true, recurses := true, apart := false }
def LaneSameSaid : Prop := laneSameRow.holds Try.pinned (OpenSpec.ofChange laneSameSpec)

/-- ITS FALSE NEIGHBOUR: 'it returns false'. Refute it at one input. -/
def laneSameWrong : ChangeSpec := { name := "laneSame", fn := fun _ => fun
  | [d1, d2] => { results := [.lit (.bool false)], args := [d1, d2] }
  | _ => none }
def LaneSameWrongFalsely : Prop := laneSameRow.holds Try.pinned (OpenSpec.ofChange laneSameWrong)

/-- 'reedpipelaw19.SectNames': WHATEVER THE INPUT: true; the input reads as it did. -/
def sectNamesSpec : ChangeSpec := { name := "sectNames", fn := fun _ => fun
  | [] => { results := [.lit (.bool true)], args := [] }
  | _ => none }
def sectNamesRow : OpenClaim := { program := "ytmjgjgkclebljaa", sum := "42d20ca770a9d47f9c02137e5cc2fd5c0a12bd1d4a426088db77e6a8835b0e97", func := "reedpipe/reedpipelaw19.SectNames", spec := "sectNames", unfollowed := true, recurses := true, apart := false }
def SectNamesSaid : Prop := sectNamesRow.holds Try.pinned (OpenSpec.ofChange sectNamesSpec)

/-- ITS FALSE NEIGHBOUR: 'it returns false'. Refute it at one input. -/
def sectNamesWrong : ChangeSpec := { name := "sectNames", fn := fun _ => fun
  | [] => { results := [.lit (.bool false)], args := [] }
  | _ => none }
def SectNamesWrongFalsely : Prop := sectNamesRow.holds Try.pinned (OpenSpec.ofChange sectNamesWrong)

/-- 'reedpipelaw19.SectTells': WHATEVER THE INPUT: true; the input reads as it did. -/
def sectTellsSpec : ChangeSpec := { name := "sectTells", fn := fun _ => fun
  | [d1, d2, d3, d4] => { results := [.lit (.bool true)], args := [d1, d2, d3, d4] }
  | _ => none }
def sectTellsRow : OpenClaim := { program := "ytmjgjgkclebljaa", sum := "42d20ca770a9d47f9c02137e5cc2fd5c0a12bd1d4a426088db77e6a8835b0e97", func := "reedpipe/reedpipelaw19.SectTells", spec := "sectTells", unfollowed := true, recurses := true, apart := false }
def SectTellsSaid : Prop := sectTellsRow.holds Try.pinned (OpenSpec.ofChange sectTellsSpec)

/-- ITS FALSE NEIGHBOUR: 'it returns false'. Refute it at one input. -/
def sectTellsWrong : ChangeSpec := { name := "sectTells", fn := fun _ => fun
  | [d1, d2, d3, d4] => { results := [.lit (.bool false)], args := [d1, d2, d3, d4] }
  | _ => none }
def SectTellsWrongFalsely : Prop := sectTellsRow.holds Try.pinned (OpenSpec.ofChange sectTellsWrong)

/-- 'reedpipelaw19.SectBack': WHATEVER THE INPUT: true; the input reads as it did. -/
def sectBackSpec : ChangeSpec := { name := "sectBack", fn := fun _ => fun
  | [d1, d2, d3, d4, d5] => { results := [.lit (.bool true)], args := [d1, d2, d3, d4, d5] }
  | _ => none }
def sectBackRow : OpenClaim := { program := "ytmjgjgkclebljaa", sum := "42d20ca770a9d47f9c02137e5cc2fd5c0a12bd1d4a426088db77e6a8835b0e97", func := "reedpipe/reedpipelaw19.SectBack", spec := "sectBack", unfollowed := true, recurses := true, apart := false }
def SectBackSaid : Prop := sectBackRow.holds Try.pinned (OpenSpec.ofChange sectBackSpec)

/-- ITS FALSE NEIGHBOUR: 'it returns false'. Refute it at one input. -/
def sectBackWrong : ChangeSpec := { name := "sectBack", fn := fun _ => fun
  | [d1, d2, d3, d4, d5] => { results := [.lit (.bool false)], args := [d1, d2, d3, d4, d5] }
  | _ => none }
def SectBackWrongFalsely : Prop := sectBackRow.holds Try.pinned (OpenSpec.ofChange sectBackWrong)

/-- 'reedpipelaw19.SectNothing': WHATEVER THE INPUT: true; the input reads as it did. -/
def sectNothingSpec : ChangeSpec := { name := "sectNothing", fn := fun _ => fun
  | [d1, d2] => { results := [.lit (.bool true)], args := [d1, d2] }
  | _ => none }
def sectNothingRow : OpenClaim := { program := "ytmjgjgkclebljaa", sum := "42d20ca770a9d47f9c02137e5cc2fd5c0a12bd1d4a426088db77e6a8835b0e97", func := "reedpipe/reedpipelaw19.SectNothing", spec := "sectNothing", unfollowed := true, recurses := true, apart := false }
def SectNothingSaid : Prop := sectNothingRow.holds Try.pinned (OpenSpec.ofChange sectNothingSpec)

/-- ITS FALSE NEIGHBOUR: 'it returns false'. Refute it at one input. -/
def sectNothingWrong : ChangeSpec := { name := "sectNothing", fn := fun _ => fun
  | [d1, d2] => { results := [.lit (.bool false)], args := [d1, d2] }
  | _ => none }
def SectNothingWrongFalsely : Prop := sectNothingRow.holds Try.pinned (OpenSpec.ofChange sectNothingWrong)

/- THE SECOND FORM. 'bulk': how many values and letters a reading holds, each counted each time it is reached (what is shared counts as often as it is met; a slice's spare places count too). A statement '..UptoSaid' is the law's where the arguments, and the package variables that the reading takes, are together of bulk at most 1048576: NARROWER than '..Said'. Prove '..Said' where nothing that the law and all that it calls make is longer than what came in: it says more and counts as full. Else prove '..UptoSaid'. A law counts once. -/
mutual
def uptoBulk {H : Type} : DataW H → Nat
  | .lit (.string bytes) => bytes.length + 1
  | .lit _ => 1
  | .nil => 1
  | .ptr d => uptoBulk d + 1
  | .slice elems spare => uptoBulkAll elems + uptoBulkAll spare + 1
  | .agg parts => uptoBulkAll parts + 1
  | .iface _ d => uptoBulk d + 1
  | .map entries => uptoBulkEntries entries + 1
  | .held _ => 1
def uptoBulkAll {H : Type} : List (DataW H) → Nat
  | [] => 0
  | d :: r => uptoBulk d + uptoBulkAll r
def uptoBulkEntries {H : Type} : List (Lit × DataW H) → Nat
  | [] => 0
  | x :: r => uptoBulkEntry x + uptoBulkEntries r
def uptoBulkEntry {H : Type} : Lit × DataW H → Nat
  | (.string bytes, d) => bytes.length + uptoBulk d + 1
  | (_, d) => uptoBulk d + 1
 end
def uptoSmall : (H : Type) → List (DataW H) → Bool := fun _ ds => decide (uptoBulkAll ds ≤ 1048576)
def OpenSpec.upto (s : _root_.Go.ChangeSpec) : _root_.Go.OpenSpec := { _root_.Go.OpenSpec.ofChange s with cond := some uptoSmall }

/-- 'reedpipelaw18.LaneSame', WHERE WHAT IT READS IS OF BULK AT MOST 1048576: true; the input reads as it did. -/
def laneSameUptoRow : OpenClaim := { program := "ytmjgjgkclebljaa", sum := "42d20ca770a9d47f9c02137e5cc2fd5c0a12bd1d4a426088db77e6a8835b0e97", func := "reedpipe/reedpipelaw18.LaneSame", spec := "laneSame", unfollowed := true, recurses := true, apart := false, narrowed := true }
def LaneSameUptoSaid : Prop := laneSameUptoRow.holds Try.pinned (OpenSpec.upto laneSameSpec)

/-- 'reedpipelaw19.SectNames', WHERE WHAT IT READS IS OF BULK AT MOST 1048576: true; the input reads as it did. -/
def sectNamesUptoRow : OpenClaim := { program := "ytmjgjgkclebljaa", sum := "42d20ca770a9d47f9c02137e5cc2fd5c0a12bd1d4a426088db77e6a8835b0e97", func := "reedpipe/reedpipelaw19.SectNames", spec := "sectNames", unfollowed := true, recurses := true, apart := false, narrowed := true }
def SectNamesUptoSaid : Prop := sectNamesUptoRow.holds Try.pinned (OpenSpec.upto sectNamesSpec)

/-- 'reedpipelaw19.SectTells', WHERE WHAT IT READS IS OF BULK AT MOST 1048576: true; the input reads as it did. -/
def sectTellsUptoRow : OpenClaim := { program := "ytmjgjgkclebljaa", sum := "42d20ca770a9d47f9c02137e5cc2fd5c0a12bd1d4a426088db77e6a8835b0e97", func := "reedpipe/reedpipelaw19.SectTells", spec := "sectTells", unfollowed := true, recurses := true, apart := false, narrowed := true }
def SectTellsUptoSaid : Prop := sectTellsUptoRow.holds Try.pinned (OpenSpec.upto sectTellsSpec)

/-- 'reedpipelaw19.SectBack', WHERE WHAT IT READS IS OF BULK AT MOST 1048576: true; the input reads as it did. -/
def sectBackUptoRow : OpenClaim := { program := "ytmjgjgkclebljaa", sum := "42d20ca770a9d47f9c02137e5cc2fd5c0a12bd1d4a426088db77e6a8835b0e97", func := "reedpipe/reedpipelaw19.SectBack", spec := "sectBack", unfollowed := true, recurses := true, apart := false, narrowed := true }
def SectBackUptoSaid : Prop := sectBackUptoRow.holds Try.pinned (OpenSpec.upto sectBackSpec)

/-- 'reedpipelaw19.SectNothing', WHERE WHAT IT READS IS OF BULK AT MOST 1048576: true; the input reads as it did. -/
def sectNothingUptoRow : OpenClaim := { program := "ytmjgjgkclebljaa", sum := "42d20ca770a9d47f9c02137e5cc2fd5c0a12bd1d4a426088db77e6a8835b0e97", func := "reedpipe/reedpipelaw19.SectNothing", spec := "sectNothing", unfollowed := true, recurses := true, apart := false, narrowed := true }
def SectNothingUptoSaid : Prop := sectNothingUptoRow.holds Try.pinned (OpenSpec.upto sectNothingSpec)

end Rows
end Go.Proofs.Ytmjgjgkclebljaa
