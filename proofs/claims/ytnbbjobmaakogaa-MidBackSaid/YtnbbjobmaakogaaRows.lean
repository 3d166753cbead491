/-
  No cell of these rows narrows 'for every input' (looked for: loops, veiled, ifaces, maps, wideKeys, modest, calm, conditions, laid).
  DERIVED. THE GIVEN ROWS OF THIS SEAT. 11 by the template 'for every input the law returns true; each argument reads behind the call as it read before'; 0 by the template 'total and deterministic' (their statements: YtnbbjobmaakogaaTotals.lean).
  GIVEN WITH THE SEED: the statements are not yours to turn. If you find one false, say at which input.
  Laid BY PROGRAM, IN A SANDBOX (cutbox-rows.mjs): the forced cells as the released guide's own fill.sh prints them over the translation d6c04a532fbf9b67… (all of the seat's roots in one cut). By AI agents, Wed Nov 11 2026. No macro, syntax, notation, axiom, sorry.
-/
import Derived.Test.YtnbbjobmaakogaaChecked
import GoSem.Claim
import GoSem.ClaimJoined
import GoSem.ClaimMapViews
import Derived.JoinedTies
import Derived.KernelRfl
namespace Go.Proofs.Ytnbbjobmaakogaa
/- THE CELL 'sum', in the pinned program and in every row, IS THE sha256 OF THE DUMP (.gsa) THAT YtnbbjobmaakogaaProg.lean LOADS. Nothing in Lean hashes anything: it is a label: what it is worth is what the hold of that sum in a sandbox is worth. -/
noncomputable def Try.pinned : Pinned := { name := "ytnbbjobmaakogaa", sum := "d6c04a532fbf9b672204420b89b4e477e8ac208f785d31ad70636e173af8c8e6", checked := Try.checked }
namespace Rows
def none {H : Type} : Left H := { results := [], args := [] }

/-- 'reedpipelaw06.BandTells': WHATEVER THE INPUT: true; the input reads as it did. -/
def bandTellsSpec : ChangeSpec := { name := "bandTells", fn := fun _ => fun
  | [d1, d2, d3] => { results := [.lit (.bool true)], args := [d1, d2, d3] }
  | _ => none }
def bandTellsRow : OpenClaim := { program := "ytnbbjobmaakogaa", sum := "d6c04a532fbf9b672204420b89b4e477e8ac208f785d31ad70636e173af8c8e6", func := "reedpipe/reedpipelaw06.BandTells", spec := "bandTells", apart := false }
def BandTellsSaid : Prop := bandTellsRow.holds Try.pinned (OpenSpec.ofChange bandTellsSpec)

/-- ITS FALSE NEIGHBOUR: 'it returns false'. Refute it at one input. -/
def bandTellsWrong : ChangeSpec := { name := "bandTells", fn := fun _ => fun
  | [d1, d2, d3] => { results := [.lit (.bool false)], args := [d1, d2, d3] }
  | _ => none }
def BandTellsWrongFalsely : Prop := bandTellsRow.holds Try.pinned (OpenSpec.ofChange bandTellsWrong)

/-- 'reedpipelaw06.BandRises': WHATEVER THE INPUT: true; the input reads as it did. -/
def bandRisesSpec : ChangeSpec := { name := "bandRises", fn := fun _ => fun
  | [d1, d2] => { results := [.lit (.bool true)], args := [d1, d2] }
  | _ => none }
def bandRisesRow : OpenClaim := { program := "ytnbbjobmaakogaa", sum := "d6c04a532fbf9b672204420b89b4e477e8ac208f785d31ad70636e173af8c8e6", func := "reedpipe/reedpipelaw06.BandRises", spec := "bandRises", apart := false }
def BandRisesSaid : Prop := bandRisesRow.holds Try.pinned (OpenSpec.ofChange bandRisesSpec)

/-- ITS FALSE NEIGHBOUR: 'it returns false'. Refute it at one input. -/
def bandRisesWrong : ChangeSpec := { name := "bandRises", fn := fun _ => fun
  | [d1, d2] => { results := [.lit (.bool false)], args := [d1, d2] }
  | _ => none }
def BandRisesWrongFalsely : Prop := bandRisesRow.holds Try.pinned (OpenSpec.ofChange bandRisesWrong)

/-- 'reedpipelaw06.BandLines': WHATEVER THE INPUT: true; the input reads as it did. -/
def bandLinesSpec : ChangeSpec := { name := "bandLines", fn := fun _ => fun
  | [d1, d2, d3] => { results := [.lit (.bool true)], args := [d1, d2, d3] }
  | _ => none }
def bandLinesRow : OpenClaim := { program := "ytnbbjobmaakogaa", sum := "d6c04a532fbf9b672204420b89b4e477e8ac208f785d31ad70636e173af8c8e6", func := "reedpipe/reedpipelaw06.BandLines", spec := "bandLines", apart := false }
def BandLinesSaid : Prop := bandLinesRow.holds Try.pinned (OpenSpec.ofChange bandLinesSpec)

/-- ITS FALSE NEIGHBOUR: 'it returns false'. Refute it at one input. -/
def bandLinesWrong : ChangeSpec := { name := "bandLines", fn := fun _ => fun
  | [d1, d2, d3] => { results := [.lit (.bool false)], args := [d1, d2, d3] }
  | _ => none }
def BandLinesWrongFalsely : Prop := bandLinesRow.holds Try.pinned (OpenSpec.ofChange bandLinesWrong)

/-- 'reedpipelaw06.BandRates': WHATEVER THE INPUT: true; the input reads as it did. -/
def bandRatesSpec : ChangeSpec := { name := "bandRates", fn := fun _ => fun
  | [d1, d2, d3] => { results := [.lit (.bool true)], args := [d1, d2, d3] }
  | _ => none }
def bandRatesRow : OpenClaim := { program := "ytnbbjobmaakogaa", sum := "d6c04a532fbf9b672204420b89b4e477e8ac208f785d31ad70636e173af8c8e6", func := "reedpipe/reedpipelaw06.BandRates", spec := "bandRates", apart := false }
def BandRatesSaid : Prop := bandRatesRow.holds Try.pinned (OpenSpec.ofChange bandRatesSpec)

/-- ITS FALSE NEIGHBOUR: 'it returns false'. Refute it at one input. -/
def bandRatesWrong : ChangeSpec := { name := "bandRates", fn := fun _ => fun
  | [d1, d2, d3] => { results := [.lit (.bool false)], args := [d1, d2, d3] }
  | _ => none }
def BandRatesWrongFalsely : Prop := bandRatesRow.holds Try.pinned (OpenSpec.ofChange bandRatesWrong)

/-- 'reedpipelaw17.MidDoes': WHATEVER THE INPUT: true; the input reads as it did. -/
def midDoesSpec : ChangeSpec := { name := "midDoes", fn := fun _ => fun
  | [d1, d2] => { results := [.lit (.bool true)], args := [d1, d2] }
  | _ => none }
def midDoesRow : OpenClaim := { program := "ytnbbjobmaakogaa", sum := "d6c04a532fbf9b672204420b89b4e477e8ac208f785d31ad70636e173af8c8e6", func := "reedpipe/reedpipelaw17.MidDoes", spec := "midDoes", unfollowed := true, recurses := true, apart := false }
def MidDoesSaid : Prop := midDoesRow.holds Try.pinned (OpenSpec.ofChange midDoesSpec)

/-- ITS FALSE NEIGHBOUR: 'it returns false'. Refute it at one input. -/
def midDoesWrong : ChangeSpec := { name := "midDoes", fn := fun _ => fun
  | [d1, d2] => { results := [.lit (.bool false)], args := [d1, d2] }
  | _ => none }
def MidDoesWrongFalsely : Prop := midDoesRow.holds Try.pinned (OpenSpec.ofChange midDoesWrong)

/-- 'reedpipelaw17.MidBack': WHATEVER THE INPUT: true; the input reads as it did. -/
def midBackSpec : ChangeSpec := { name := "midBack", fn := fun _ => fun
  | [d1, d2] => { results := [.lit (.bool true)], args := [d1, d2] }
  | _ => none }
def midBackRow : OpenClaim := { program := "ytnbbjobmaakogaa", sum := "d6c04a532fbf9b672204420b89b4e477e8ac208f785d31ad70636e173af8c8e6", func := "reedpipe/reedpipelaw17.MidBack", spec := "midBack", unfollowed := true, recurses := true, apart := false }
def MidBackSaid : Prop := midBackRow.holds Try.pinned (OpenSpec.ofChange midBackSpec)

/-- ITS FALSE NEIGHBOUR: 'it returns false'. Refute it at one input. -/
def midBackWrong : ChangeSpec := { name := "midBack", fn := fun _ => fun
  | [d1, d2] => { results := [.lit (.bool false)], args := [d1, d2] }
  | _ => none }
def MidBackWrongFalsely : Prop := midBackRow.holds Try.pinned (OpenSpec.ofChange midBackWrong)

/-- 'reedpipelaw17.MidTurns': WHATEVER THE INPUT: true; the input reads as it did. -/
def midTurnsSpec : ChangeSpec := { name := "midTurns", fn := fun _ => fun
  | [d1, d2, d3] => { results := [.lit (.bool true)], args := [d1, d2, d3] }
  | _ => none }
def midTurnsRow : OpenClaim := { program := "ytnbbjobmaakogaa", sum := "d6c04a532fbf9b672204420b89b4e477e8ac208f785d31ad70636e173af8c8e6", func := "reedpipe/reedpipelaw17.MidTurns", spec := "midTurns", unfollowed := true, recurses := true, apart := false }
def MidTurnsSaid : Prop := midTurnsRow.holds Try.pinned (OpenSpec.ofChange midTurnsSpec)

/-- ITS FALSE NEIGHBOUR: 'it returns false'. Refute it at one input. -/
def midTurnsWrong : ChangeSpec := { name := "midTurns", fn := fun _ => fun
  | [d1, d2, d3] => { results := [.lit (.bool false)], args := [d1, d2, d3] }
  | _ => none }
def MidTurnsWrongFalsely : Prop := midTurnsRow.holds Try.pinned (OpenSpec.ofChange midTurnsWrong)

/-- 'reedpipelaw30.LoseFollows': WHATEVER THE INPUT: true; the input reads as it did. -/
def loseFollowsSpec : ChangeSpec := { name := "loseFollows", fn := fun _ => fun
  | [d] => { results := [.lit (.bool true)], args := [d] }
  | _ => none }
def loseFollowsRow : OpenClaim := { program := "ytnbbjobmaakogaa", sum := "d6c04a532fbf9b672204420b89b4e477e8ac208f785d31ad70636e173af8c8e6", func := "reedpipe/reedpipelaw30.LoseFollows", spec := "loseFollows", unfollowed := true, recurses := true, apart := false }
def LoseFollowsSaid : Prop := loseFollowsRow.holds Try.pinned (OpenSpec.ofChange loseFollowsSpec)

/-- ITS FALSE NEIGHBOUR: 'it returns false'. Refute it at one input. -/
def loseFollowsWrong : ChangeSpec := { name := "loseFollows", fn := fun _ => fun
  | [d] => { results := [.lit (.bool false)], args := [d] }
  | _ => none }
def LoseFollowsWrongFalsely : Prop := loseFollowsRow.holds Try.pinned (OpenSpec.ofChange loseFollowsWrong)

/-- 'reedpipelaw30.LoseBetween': WHATEVER THE INPUT: true; the input reads as it did. -/
def loseBetweenSpec : ChangeSpec := { name := "loseBetween", fn := fun _ => fun
  | [d1, d2, d3, d4] => { results := [.lit (.bool true)], args := [d1, d2, d3, d4] }
  | _ => none }
def loseBetweenRow : OpenClaim := { program := "ytnbbjobmaakogaa", sum := "d6c04a532fbf9b672204420b89b4e477e8ac208f785d31ad70636e173af8c8e6", func := "reedpipe/reedpipelaw30.LoseBetween", spec := "loseBetween", unfollowed := true, recurses := true, apart := false }
def LoseBetweenSaid : Prop := loseBetweenRow.holds Try.pinned (OpenSpec.ofChange loseBetweenSpec)

/-- ITS FALSE NEIGHBOUR: 'it returns false'. Refute it at one input. -/
def loseBetweenWrong : ChangeSpec := { name := "loseBetween", fn := fun _ => fun
  | [d1, d2, d3, d4] => { results := [.lit (.bool false)], args := [d1, d2, d3, d4] }
  | _ => none }
def LoseBetweenWrongFalsely : Prop := loseBetweenRow.holds Try.pinned (OpenSpec.ofChange loseBetweenWrong)

/-- 'reedpipelaw30.LoseEach': WHATEVER THE INPUT: true; the input reads as it did. -/
def loseEachSpec : ChangeSpec := { name := "loseEach", fn := fun _ => fun
  | [d1, d2, d3, d4, d5] => { results := [.lit (.bool true)], args := [d1, d2, d3, d4, d5] }
  | _ => none }
def loseEachRow : OpenClaim := { program := "ytnbbjobmaakogaa", sum := "d6c04a532fbf9b672204420b89b4e477e8ac208f785d31ad70636e173af8c8e6", func := "reedpipe/reedpipelaw30.LoseEach", spec := "loseEach", unfollowed := true, recurses := true, apart := false }
def LoseEachSaid : Prop := loseEachRow.holds Try.pinned (OpenSpec.ofChange loseEachSpec)

/-- ITS FALSE NEIGHBOUR: 'it returns false'. Refute it at one input. -/
def loseEachWrong : ChangeSpec := { name := "loseEach", fn := fun _ => fun
  | [d1, d2, d3, d4, d5] => { results := [.lit (.bool false)], args := [d1, d2, d3, d4, d5] }
  | _ => none }
def LoseEachWrongFalsely : Prop := loseEachRow.holds Try.pinned (OpenSpec.ofChange loseEachWrong)

/-- 'reedpipelaw30.LoseDoes': WHATEVER THE INPUT: true; the input reads as it did. -/
def loseDoesSpec : ChangeSpec := { name := "loseDoes", fn := fun _ => fun
  | [d1, d2, d3, d4, d5] => { results := [.lit (.bool true)], args := [d1, d2, d3, d4, d5] }
  | _ => none }
def loseDoesRow : OpenClaim := { program := "ytnbbjobmaakogaa", sum := "d6c04a532fbf9b672204420b89b4e477e8ac208f785d31ad70636e173af8c8e6", func := "reedpipe/reedpipelaw30.LoseDoes", spec := "loseDoes", unfollowed := true, recurses := true, apart := false }
def LoseDoesSaid : Prop := loseDoesRow.holds Try.pinned (OpenSpec.ofChange loseDoesSpec)

/-- ITS FALSE NEIGHBOUR: 'it returns false'. Refute it at one input. -/
def loseDoesWrong : ChangeSpec := { name := "loseDoes", fn := fun _ => fun
  | [d1, d2, d3, d4, d5] => { results := [.lit (.bool false)], args := [d1, d2, d3, d4, d5] }
  | _ => none }
def LoseDoesWrongFalsely : Prop := loseDoesRow.holds Try.pinned (OpenSpec.ofChange loseDoesWrong)

/- THE SECOND FORM. 'bulk': how many values and letters a reading holds, each counted each time it is reached (what is shared counts as often as it is met; a slice's spare places count too). A statement '..UptoSaid' is the law's where the arguments, and the package variables that the reading takes, are together of bulk at most 1048576: NARROWER than '..Said'. Prove '..Said' where nothing that the law and all that it calls make is longer than what came in: it says more and counts as full. Else prove '..UptoSaid'. A law counts once. -/
mutual
def uptoBulk {H : Type} : DataW H → Nat
  | .lit (.string bytes) => bytes.length + 1
  | .lit _ => 1
  | .nil => 1
  | .ptr d => uptoBulk d + 1
  | .slice elems spare => uptoBulkAll elems + uptoBulkAll spare + 1
  | .agg parts => uptoBulkAll parts + 1
  | .iface _ d => uptoBulk d + 1
  | .map entries => uptoBulkEntries entries + 1
  | .held _ => 1
def uptoBulkAll {H : Type} : List (DataW H) → Nat
  | [] => 0
  | d :: r => uptoBulk d + uptoBulkAll r
def uptoBulkEntries {H : Type} : List (Lit × DataW H) → Nat
  | [] => 0
  | x :: r => uptoBulkEntry x + uptoBulkEntries r
def uptoBulkEntry {H : Type} : Lit × DataW H → Nat
  | (.string bytes, d) => bytes.length + uptoBulk d + 1
  | (_, d) => uptoBulk d + 1
 end
def uptoSmall : (H : Type) → List (DataW H) → Bool := fun _ ds => decide (uptoBulkAll ds ≤ 1048576)
def OpenSpec.upto (s : _root_.Go.ChangeSpec) : _root_.Go.OpenSpec := { _root_.Go.OpenSpec.ofChange s with cond := some uptoSmall }

/-- 'reedpipelaw06.BandTells', WHERE WHAT IT READS IS OF BULK AT MOST 1048576: true; the input reads as it did. -/
def bandTellsUptoRow : OpenClaim := { program := "ytnbbjobmaakogaa", sum := "d6c04a532fbf9b672204420b89b4e477e8ac208f785d31ad70636e173af8c8e6", func := "reedpipe/reedpipelaw06.BandTells", spec := "bandTells", apart := false, narrowed := true }
def BandTellsUptoSaid : Prop := bandTellsUptoRow.holds Try.pinned (OpenSpec.upto bandTellsSpec)

/-- 'reedpipelaw06.BandRises', WHERE WHAT IT READS IS OF BULK AT MOST 1048576: true; the input reads as it did. -/
def bandRisesUptoRow : OpenClaim := { program := "ytnbbjobmaakogaa", sum := "d6c04a532fbf9b672204420b89b4e477e8ac208f785d31ad70636e173af8c8e6", func := "reedpipe/reedpipelaw06.BandRises", spec := "bandRises", apart := false, narrowed := true }
def BandRisesUptoSaid : Prop := bandRisesUptoRow.holds Try.pinned (OpenSpec.upto bandRisesSpec)

/-- 'reedpipelaw06.BandLines', WHERE WHAT IT READS IS OF BULK AT MOST 1048576: true; the input reads as it did. -/
def bandLinesUptoRow : OpenClaim := { program := "ytnbbjobmaakogaa", sum := "d6c04a532fbf9b672204420b89b4e477e8ac208f785d31ad70636e173af8c8e6", func := "reedpipe/reedpipelaw06.BandLines", spec := "bandLines", apart := false, narrowed := true }
def BandLinesUptoSaid : Prop := bandLinesUptoRow.holds Try.pinned (OpenSpec.upto bandLinesSpec)

/-- 'reedpipelaw06.BandRates', WHERE WHAT IT READS IS OF BULK AT MOST 1048576: true; the input reads as it did. -/
def bandRatesUptoRow : OpenClaim := { program := "ytnbbjobmaakogaa", sum := "d6c04a532fbf9b672204420b89b4e477e8ac208f785d31ad70636e173af8c8e6", func := "reedpipe/reedpipelaw06.BandRates", spec := "bandRates", apart := false, narrowed := true }
def BandRatesUptoSaid : Prop := bandRatesUptoRow.holds Try.pinned (OpenSpec.upto bandRatesSpec)

/-- 'reedpipelaw17.MidDoes', WHERE WHAT IT READS IS OF BULK AT MOST 1048576: true; the input reads as it did. -/
def midDoesUptoRow : OpenClaim := { program := "ytnbbjobmaakogaa", sum := "d6c04a532fbf9b672204420b89b4e477e8ac208f785d31ad70636e173af8c8e6", func := "reedpipe/reedpipelaw17.MidDoes", spec := "midDoes", unfollowed := true, recurses := true, apart := false, narrowed := true }
def MidDoesUptoSaid : Prop := midDoesUptoRow.holds Try.pinned (OpenSpec.upto midDoesSpec)

/-- 'reedpipelaw17.MidBack', WHERE WHAT IT READS IS OF BULK AT MOST 1048576: true; the input reads as it did. -/
def midBackUptoRow : OpenClaim := { program := "ytnbbjobmaakogaa", sum := "d6c04a532fbf9b672204420b89b4e477e8ac208f785d31ad70636e173af8c8e6", func := "reedpipe/reedpipelaw17.MidBack", spec := "midBack", unfollowed := true, recurses := true, apart := false, narrowed := true }
def MidBackUptoSaid : Prop := midBackUptoRow.holds Try.pinned (OpenSpec.upto midBackSpec)

/-- 'reedpipelaw17.MidTurns', WHERE WHAT IT READS IS OF BULK AT MOST 1048576: true; the input reads as it did. -/
def midTurnsUptoRow : OpenClaim := { program := "ytnbbjobmaakogaa", sum := "d6c04a532fbf9b672204420b89b4e477e8ac208f785d31ad70636e173af8c8e6", func := "reedpipe/reedpipelaw17.MidTurns", spec := "midTurns", unfollowed := true, recurses := true, apart := false, narrowed := true }
def MidTurnsUptoSaid : Prop := midTurnsUptoRow.holds Try.pinned (OpenSpec.upto midTurnsSpec)

/-- 'reedpipelaw30.LoseFollows', WHERE WHAT IT READS IS OF BULK AT MOST 1048576: true; the input reads as it did. -/
def loseFollowsUptoRow : OpenClaim := { program := "ytnbbjobmaakogaa", sum := "d6c04a532fbf9b672204420b89b4e477e8ac208f785d31ad70636e173af8c8e6", func := "reedpipe/reedpipelaw30.LoseFollows", spec := "loseFollows", unfollowed := true, recurses := true, apart := false, narrowed := true }
def LoseFollowsUptoSaid : Prop := loseFollowsUptoRow.holds Try.pinned (OpenSpec.upto loseFollowsSpec)

/-- 'reedpipelaw30.LoseBetween', WHERE WHAT IT READS IS OF BULK AT MOST 1048576: true; the input reads as it did. -/
def loseBetweenUptoRow : OpenClaim := { program := "ytnbbjobmaakogaa", sum := "d6c04a532fbf9b672204420b89b4e477e8ac208f785d31ad70636e173af8c8e6", func := "reedpipe/reedpipelaw30.LoseBetween", spec := "loseBetween", unfollowed := true, recurses := true, apart := false, narrowed := true }
def LoseBetweenUptoSaid : Prop := loseBetweenUptoRow.holds Try.pinned (OpenSpec.upto loseBetweenSpec)

/-- 'reedpipelaw30.LoseEach', WHERE WHAT IT READS IS OF BULK AT MOST 1048576: true; the input reads as it did. -/
def loseEachUptoRow : OpenClaim := { program := "ytnbbjobmaakogaa", sum := "d6c04a532fbf9b672204420b89b4e477e8ac208f785d31ad70636e173af8c8e6", func := "reedpipe/reedpipelaw30.LoseEach", spec := "loseEach", unfollowed := true, recurses := true, apart := false, narrowed := true }
def LoseEachUptoSaid : Prop := loseEachUptoRow.holds Try.pinned (OpenSpec.upto loseEachSpec)

/-- 'reedpipelaw30.LoseDoes', WHERE WHAT IT READS IS OF BULK AT MOST 1048576: true; the input reads as it did. -/
def loseDoesUptoRow : OpenClaim := { program := "ytnbbjobmaakogaa", sum := "d6c04a532fbf9b672204420b89b4e477e8ac208f785d31ad70636e173af8c8e6", func := "reedpipe/reedpipelaw30.LoseDoes", spec := "loseDoes", unfollowed := true, recurses := true, apart := false, narrowed := true }
def LoseDoesUptoSaid : Prop := loseDoesUptoRow.holds Try.pinned (OpenSpec.upto loseDoesSpec)

end Rows
end Go.Proofs.Ytnbbjobmaakogaa
