/-
  NARROWER THAN 'FOR EVERY INPUT', by the rows' own cells (each row's printed sentence says how): LaneNames: laid · LaneTells: laid · LaneZero: laid · LaneTurns: laid · LaneBooks: laid · LaneSplits: laid.
  DERIVED. THE GIVEN ROWS OF THIS SEAT. 6 by the template 'for every input the law returns true; each argument reads behind the call as it read before'; 0 by the template 'total and deterministic' (their statements: YtmjgjgkclebljaaDoorTotals.lean).
  GIVEN WITH THE SEED: the statements are not yours to turn. If you find one false, say at which input.
  Laid BY PROGRAM, IN A SANDBOX (cutbox-rows.mjs): the forced cells as the released guide's own fill.sh prints them over the translation 8a3d87a3f9403f51… (all of the seat's roots in one cut). By AI agents, Wed Nov 11 2026. No macro, syntax, notation, axiom, sorry.
-/
import Derived.Test.YtmjgjgkclebljaaDoorChecked
import GoSem.Claim
import GoSem.ClaimJoined
import GoSem.ClaimMapViews
import Derived.JoinedTies
import Derived.KernelRfl
namespace Go.Proofs.YtmjgjgkclebljaaDoor
/- THE CELL 'sum', in the pinned program and in every row, IS THE sha256 OF THE DUMP (.gsa) THAT YtmjgjgkclebljaaDoorProg.lean LOADS. Nothing in Lean hashes anything: it is a label: what it is worth is what the hold of that sum in a sandbox is worth. -/
noncomputable def Tryd.pinned : Pinned := { name := "ytmjgjgkclebljaadoor", sum := "8a3d87a3f9403f51ee944fabc618325168823373e97bed2ff7974fc73b8ac6e6", checked := Tryd.checked }
namespace Rows
def none {H : Type} : Left H := { results := [], args := [] }

/- WHAT THE LISTED PACKAGE-LEVEL VARIABLES READ AS WHEN THE CALL BEGINS. Each datum BY PROGRAM (the guide's laid-datum.mjs) off the statement by which the dump's own 'gosem.cut.vars' lays the variable. In a bare row this is a premise. The card (YtmjgjgkclebljaaDoorCards.lean) ties it to the program's text. -/
def laid_reedpipe_huff_limits {H : Type} : DataW H := .agg [.lit (.int .i64 1), .lit (.int .i64 1), .lit (.int .i64 2), .lit (.int .i64 2), .lit (.int .i64 4), .lit (.int .i64 4), .lit (.int .i64 7), .lit (.int .i64 7), .lit (.int .i64 12), .lit (.int .i64 12), .lit (.int .i64 8191)]

/-- 'reedpipelaw18.LaneNames': WHATEVER THE INPUT: true; the input reads as it did. -/
def laneNamesSpec : ChangeSpec := { name := "laneNames", fn := fun _ => fun
  | [] => { results := [.lit (.bool true)], args := [] }
  | _ => none }
def laneNamesRow : OpenClaim := { program := "ytmjgjgkclebljaadoor", sum := "8a3d87a3f9403f51ee944fabc618325168823373e97bed2ff7974fc73b8ac6e6", func := "reedpipe/reedpipelaw18.LaneNames", spec := "laneNames", unfollowed := true, recurses := true, named := ["reedpipe/huff.limits"], apart := false, laid := [("reedpipe/huff.limits", laid_reedpipe_huff_limits)] }
def LaneNamesSaid : Prop := laneNamesRow.holds Tryd.pinned (OpenSpec.ofChange laneNamesSpec)

/-- ITS FALSE NEIGHBOUR: 'it returns false'. Refute it at one input. -/
def laneNamesWrong : ChangeSpec := { name := "laneNames", fn := fun _ => fun
  | [] => { results := [.lit (.bool false)], args := [] }
  | _ => none }
def LaneNamesWrongFalsely : Prop := laneNamesRow.holds Tryd.pinned (OpenSpec.ofChange laneNamesWrong)

/-- 'reedpipelaw18.LaneTells': WHATEVER THE INPUT: true; the input reads as it did. -/
def laneTellsSpec : ChangeSpec := { name := "laneTells", fn := fun _ => fun
  | [d1, d2, d3, d4] => { results := [.lit (.bool true)], args := [d1, d2, d3, d4] }
  | _ => none }
def laneTellsRow : OpenClaim := { program := "ytmjgjgkclebljaadoor", sum := "8a3d87a3f9403f51ee944fabc618325168823373e97bed2ff7974fc73b8ac6e6", func := "reedpipe/reedpipelaw18.LaneTells", spec := "laneTells", unfollowed := true, recurses := true, named := ["reedpipe/huff.limits"], apart := false, laid := [("reedpipe/huff.limits", laid_reedpipe_huff_limits)] }
def LaneTellsSaid : Prop := laneTellsRow.holds Tryd.pinned (OpenSpec.ofChange laneTellsSpec)

/-- ITS FALSE NEIGHBOUR: 'it returns false'. Refute it at one input. -/
def laneTellsWrong : ChangeSpec := { name := "laneTells", fn := fun _ => fun
  | [d1, d2, d3, d4] => { results := [.lit (.bool false)], args := [d1, d2, d3, d4] }
  | _ => none }
def LaneTellsWrongFalsely : Prop := laneTellsRow.holds Tryd.pinned (OpenSpec.ofChange laneTellsWrong)

/-- 'reedpipelaw18.LaneZero': WHATEVER THE INPUT: true; the input reads as it did. -/
def laneZeroSpec : ChangeSpec := { name := "laneZero", fn := fun _ => fun
  | [d1, d2] => { results := [.lit (.bool true)], args := [d1, d2] }
  | _ => none }
def laneZeroRow : OpenClaim := { program := "ytmjgjgkclebljaadoor", sum := "8a3d87a3f9403f51ee944fabc618325168823373e97bed2ff7974fc73b8ac6e6", func := "reedpipe/reedpipelaw18.LaneZero", spec := "laneZero", unfollowed := true, recurses := true, named := ["reedpipe/huff.limits"], apart := false, laid := [("reedpipe/huff.limits", laid_reedpipe_huff_limits)] }
def LaneZeroSaid : Prop := laneZeroRow.holds Tryd.pinned (OpenSpec.ofChange laneZeroSpec)

/-- ITS FALSE NEIGHBOUR: 'it returns false'. Refute it at one input. -/
def laneZeroWrong : ChangeSpec := { name := "laneZero", fn := fun _ => fun
  | [d1, d2] => { results := [.lit (.bool false)], args := [d1, d2] }
  | _ => none }
def LaneZeroWrongFalsely : Prop := laneZeroRow.holds Tryd.pinned (OpenSpec.ofChange laneZeroWrong)

/-- 'reedpipelaw18.LaneTurns': WHATEVER THE INPUT: true; the input reads as it did. -/
def laneTurnsSpec : ChangeSpec := { name := "laneTurns", fn := fun _ => fun
  | [d1, d2, d3] => { results := [.lit (.bool true)], args := [d1, d2, d3] }
  | _ => none }
def laneTurnsRow : OpenClaim := { program := "ytmjgjgkclebljaadoor", sum := "8a3d87a3f9403f51ee944fabc618325168823373e97bed2ff7974fc73b8ac6e6", func := "reedpipe/reedpipelaw18.LaneTurns", spec := "laneTurns", unfollowed := true, recurses := true, named := ["reedpipe/huff.limits"], apart := false, laid := [("reedpipe/huff.limits", laid_reedpipe_huff_limits)] }
def LaneTurnsSaid : Prop := laneTurnsRow.holds Tryd.pinned (OpenSpec.ofChange laneTurnsSpec)

/-- ITS FALSE NEIGHBOUR: 'it returns false'. Refute it at one input. -/
def laneTurnsWrong : ChangeSpec := { name := "laneTurns", fn := fun _ => fun
  | [d1, d2, d3] => { results := [.lit (.bool false)], args := [d1, d2, d3] }
  | _ => none }
def LaneTurnsWrongFalsely : Prop := laneTurnsRow.holds Tryd.pinned (OpenSpec.ofChange laneTurnsWrong)

/-- 'reedpipelaw18.LaneBooks': WHATEVER THE INPUT: true; the input reads as it did. -/
def laneBooksSpec : ChangeSpec := { name := "laneBooks", fn := fun _ => fun
  | [d1, d2, d3] => { results := [.lit (.bool true)], args := [d1, d2, d3] }
  | _ => none }
def laneBooksRow : OpenClaim := { program := "ytmjgjgkclebljaadoor", sum := "8a3d87a3f9403f51ee944fabc618325168823373e97bed2ff7974fc73b8ac6e6", func := "reedpipe/reedpipelaw18.LaneBooks", spec := "laneBooks", unfollowed := true, recurses := true, named := ["reedpipe/huff.limits"], apart := false, laid := [("reedpipe/huff.limits", laid_reedpipe_huff_limits)] }
def LaneBooksSaid : Prop := laneBooksRow.holds Tryd.pinned (OpenSpec.ofChange laneBooksSpec)

/-- ITS FALSE NEIGHBOUR: 'it returns false'. Refute it at one input. -/
def laneBooksWrong : ChangeSpec := { name := "laneBooks", fn := fun _ => fun
  | [d1, d2, d3] => { results := [.lit (.bool false)], args := [d1, d2, d3] }
  | _ => none }
def LaneBooksWrongFalsely : Prop := laneBooksRow.holds Tryd.pinned (OpenSpec.ofChange laneBooksWrong)

/-- 'reedpipelaw18.LaneSplits': WHATEVER THE INPUT: true; the input reads as it did. -/
def laneSplitsSpec : ChangeSpec := { name := "laneSplits", fn := fun _ => fun
  | [d1, d2, d3, d4, d5] => { results := [.lit (.bool true)], args := [d1, d2, d3, d4, d5] }
  | _ => none }
def laneSplitsRow : OpenClaim := { program := "ytmjgjgkclebljaadoor", sum := "8a3d87a3f9403f51ee944fabc618325168823373e97bed2ff7974fc73b8ac6e6", func := "reedpipe/reedpipelaw18.LaneSplits", spec := "laneSplits", unfollowed := true, recurses := true, named := ["reedpipe/huff.limits"], apart := false, laid := [("reedpipe/huff.limits", laid_reedpipe_huff_limits)] }
def LaneSplitsSaid : Prop := laneSplitsRow.holds Tryd.pinned (OpenSpec.ofChange laneSplitsSpec)

/-- ITS FALSE NEIGHBOUR: 'it returns false'. Refute it at one input. -/
def laneSplitsWrong : ChangeSpec := { name := "laneSplits", fn := fun _ => fun
  | [d1, d2, d3, d4, d5] => { results := [.lit (.bool false)], args := [d1, d2, d3, d4, d5] }
  | _ => none }
def LaneSplitsWrongFalsely : Prop := laneSplitsRow.holds Tryd.pinned (OpenSpec.ofChange laneSplitsWrong)

/- THE SECOND FORM. 'bulk': how many values and letters a reading holds, each counted each time it is reached (what is shared counts as often as it is met; a slice's spare places count too). A statement '..UptoSaid' is the law's where the arguments, and the package variables that the reading takes, are together of bulk at most 1048576: NARROWER than '..Said'. Prove '..Said' where nothing that the law and all that it calls make is longer than what came in: it says more and counts as full. Else prove '..UptoSaid'. A law counts once. -/
mutual
def uptoBulk {H : Type} : DataW H → Nat
  | .lit (.string bytes) => bytes.length + 1
  | .lit _ => 1
  | .nil => 1
  | .ptr d => uptoBulk d + 1
  | .slice elems spare => uptoBulkAll elems + uptoBulkAll spare + 1
  | .agg parts => uptoBulkAll parts + 1
  | .iface _ d => uptoBulk d + 1
  | .map entries => uptoBulkEntries entries + 1
  | .held _ => 1
def uptoBulkAll {H : Type} : List (DataW H) → Nat
  | [] => 0
  | d :: r => uptoBulk d + uptoBulkAll r
def uptoBulkEntries {H : Type} : List (Lit × DataW H) → Nat
  | [] => 0
  | x :: r => uptoBulkEntry x + uptoBulkEntries r
def uptoBulkEntry {H : Type} : Lit × DataW H → Nat
  | (.string bytes, d) => bytes.length + uptoBulk d + 1
  | (_, d) => uptoBulk d + 1
 end
def uptoSmall : (H : Type) → List (DataW H) → Bool := fun _ ds => decide (uptoBulkAll ds ≤ 1048576)
def OpenSpec.upto (s : _root_.Go.ChangeSpec) : _root_.Go.OpenSpec := { _root_.Go.OpenSpec.ofChange s with cond := some uptoSmall }

/-- 'reedpipelaw18.LaneNames', WHERE WHAT IT READS IS OF BULK AT MOST 1048576: true; the input reads as it did. -/
def laneNamesUptoRow : OpenClaim := { program := "ytmjgjgkclebljaadoor", sum := "8a3d87a3f9403f51ee944fabc618325168823373e97bed2ff7974fc73b8ac6e6", func := "reedpipe/reedpipelaw18.LaneNames", spec := "laneNames", unfollowed := true, recurses := true, named := ["reedpipe/huff.limits"], apart := false, laid := [("reedpipe/huff.limits", laid_reedpipe_huff_limits)], narrowed := true }
def LaneNamesUptoSaid : Prop := laneNamesUptoRow.holds Tryd.pinned (OpenSpec.upto laneNamesSpec)

/-- 'reedpipelaw18.LaneTells', WHERE WHAT IT READS IS OF BULK AT MOST 1048576: true; the input reads as it did. -/
def laneTellsUptoRow : OpenClaim := { program := "ytmjgjgkclebljaadoor", sum := "8a3d87a3f9403f51ee944fabc618325168823373e97bed2ff7974fc73b8ac6e6", func := "reedpipe/reedpipelaw18.LaneTells", spec := "laneTells", unfollowed := true, recurses := true, named := ["reedpipe/huff.limits"], apart := false, laid := [("reedpipe/huff.limits", laid_reedpipe_huff_limits)], narrowed := true }
def LaneTellsUptoSaid : Prop := laneTellsUptoRow.holds Tryd.pinned (OpenSpec.upto laneTellsSpec)

/-- 'reedpipelaw18.LaneZero', WHERE WHAT IT READS IS OF BULK AT MOST 1048576: true; the input reads as it did. -/
def laneZeroUptoRow : OpenClaim := { program := "ytmjgjgkclebljaadoor", sum := "8a3d87a3f9403f51ee944fabc618325168823373e97bed2ff7974fc73b8ac6e6", func := "reedpipe/reedpipelaw18.LaneZero", spec := "laneZero", unfollowed := true, recurses := true, named := ["reedpipe/huff.limits"], apart := false, laid := [("reedpipe/huff.limits", laid_reedpipe_huff_limits)], narrowed := true }
def LaneZeroUptoSaid : Prop := laneZeroUptoRow.holds Tryd.pinned (OpenSpec.upto laneZeroSpec)

/-- 'reedpipelaw18.LaneTurns', WHERE WHAT IT READS IS OF BULK AT MOST 1048576: true; the input reads as it did. -/
def laneTurnsUptoRow : OpenClaim := { program := "ytmjgjgkclebljaadoor", sum := "8a3d87a3f9403f51ee944fabc618325168823373e97bed2ff7974fc73b8ac6e6", func := "reedpipe/reedpipelaw18.LaneTurns", spec := "laneTurns", unfollowed := true, recurses := true, named := ["reedpipe/huff.limits"], apart := false, laid := [("reedpipe/huff.limits", laid_reedpipe_huff_limits)], narrowed := true }
def LaneTurnsUptoSaid : Prop := laneTurnsUptoRow.holds Tryd.pinned (OpenSpec.upto laneTurnsSpec)

/-- 'reedpipelaw18.LaneBooks', WHERE WHAT IT READS IS OF BULK AT MOST 1048576: true; the input reads as it did. -/
def laneBooksUptoRow : OpenClaim := { program := "ytmjgjgkclebljaadoor", sum := "8a3d87a3f9403f51ee944fabc618325168823373e97bed2ff7974fc73b8ac6e6", func := "reedpipe/reedpipelaw18.LaneBooks", spec := "laneBooks", unfollowed := true, recurses := true, named := ["reedpipe/huff.limits"], apart := false, laid := [("reedpipe/huff.limits", laid_reedpipe_huff_limits)], narrowed := true }
def LaneBooksUptoSaid : Prop := laneBooksUptoRow.holds Tryd.pinned (OpenSpec.upto laneBooksSpec)

/-- 'reedpipelaw18.LaneSplits', WHERE WHAT IT READS IS OF BULK AT MOST 1048576: true; the input reads as it did. -/
def laneSplitsUptoRow : OpenClaim := { program := "ytmjgjgkclebljaadoor", sum := "8a3d87a3f9403f51ee944fabc618325168823373e97bed2ff7974fc73b8ac6e6", func := "reedpipe/reedpipelaw18.LaneSplits", spec := "laneSplits", unfollowed := true, recurses := true, named := ["reedpipe/huff.limits"], apart := false, laid := [("reedpipe/huff.limits", laid_reedpipe_huff_limits)], narrowed := true }
def LaneSplitsUptoSaid : Prop := laneSplitsUptoRow.holds Tryd.pinned (OpenSpec.upto laneSplitsSpec)

end Rows
end Go.Proofs.YtmjgjgkclebljaaDoor
