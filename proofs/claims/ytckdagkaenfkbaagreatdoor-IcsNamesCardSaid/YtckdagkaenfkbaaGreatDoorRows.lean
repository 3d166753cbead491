/-
  NARROWER THAN 'FOR EVERY INPUT', by the rows' own cells (each row's printed sentence says how): IcsNames: laid · IcsPuts: laid · IcsGets: laid · IcsBack: laid · IcsOnce: laid · IcsCommon: laid.
  DERIVED. THE GIVEN ROWS OF THIS SEAT. 6 by the template 'for every input the law returns true; each argument reads behind the call as it read before'; 0 by the template 'total and deterministic' (their statements: YtckdagkaenfkbaaGreatDoorTotals.lean).
  GIVEN WITH THE SEED: the statements are not yours to turn. If you find one false, say at which input.
  Laid BY PROGRAM, IN A SANDBOX (cutbox-rows.mjs): the forced cells as the released guide's own fill.sh prints them over the translation 840ca22547c440ee… (all of the seat's roots in one cut). By AI agents, Wed Nov 11 2026. No macro, syntax, notation, axiom, sorry.
-/
import Derived.Test.YtckdagkaenfkbaaGreatDoorChecked
import GoSem.Claim
import GoSem.ClaimJoined
import GoSem.ClaimMapViews
import Derived.JoinedTies
import Derived.KernelRfl
namespace Go.Proofs.YtckdagkaenfkbaaGreatDoor
/- THE CELL 'sum', in the pinned program and in every row, IS THE sha256 OF THE DUMP (.gsa) THAT YtckdagkaenfkbaaGreatDoorProg.lean LOADS. Nothing in Lean hashes anything: it is a label: what it is worth is what the hold of that sum in a sandbox is worth. -/
noncomputable def Tryz.pinned : Pinned := { name := "ytckdagkaenfkbaagreatdoor", sum := "840ca22547c440ee3fdde0ff8dc7210ce18641729912f487c2c433fc416d4f86", checked := Tryz.checked }
namespace Rows
def none {H : Type} : Left H := { results := [], args := [] }

/- WHAT THE LISTED PACKAGE-LEVEL VARIABLES READ AS WHEN THE CALL BEGINS. Each datum BY PROGRAM (the guide's laid-datum.mjs) off the statement by which the dump's own 'gosem.cut.vars' lays the variable. In a bare row this is a premise. The card (YtckdagkaenfkbaaGreatDoorCards.lean) ties it to the program's text. -/
def laid_reedpipe_book_shapes {H : Type} : DataW H := .agg [.agg [.lit (.int .i64 4), .lit (.int .i64 (-1)), .lit (.int .i64 1), .lit (.int .i64 0)], .agg [.lit (.int .i64 4), .lit (.int .i64 (-1)), .lit (.int .i64 1), .lit (.int .i64 1)], .agg [.lit (.int .i64 4), .lit (.int .i64 0), .lit (.int .i64 2), .lit (.int .i64 0)], .agg [.lit (.int .i64 4), .lit (.int .i64 0), .lit (.int .i64 2), .lit (.int .i64 1)], .agg [.lit (.int .i64 2), .lit (.int .i64 (-4)), .lit (.int .i64 4), .lit (.int .i64 0)], .agg [.lit (.int .i64 2), .lit (.int .i64 (-4)), .lit (.int .i64 4), .lit (.int .i64 1)], .agg [.lit (.int .i64 2), .lit (.int .i64 0), .lit (.int .i64 7), .lit (.int .i64 1)], .agg [.lit (.int .i64 2), .lit (.int .i64 0), .lit (.int .i64 7), .lit (.int .i64 2)], .agg [.lit (.int .i64 2), .lit (.int .i64 0), .lit (.int .i64 12), .lit (.int .i64 1)], .agg [.lit (.int .i64 2), .lit (.int .i64 0), .lit (.int .i64 12), .lit (.int .i64 2)], .agg [.lit (.int .i64 2), .lit (.int .i64 0), .lit (.int .i64 16), .lit (.int .i64 2)], .agg [.lit (.int .i64 1), .lit (.int .i64 (-60)), .lit (.int .i64 60), .lit (.int .i64 0)]]
def laid_reedpipe_huff_limits {H : Type} : DataW H := .agg [.lit (.int .i64 1), .lit (.int .i64 1), .lit (.int .i64 2), .lit (.int .i64 2), .lit (.int .i64 4), .lit (.int .i64 4), .lit (.int .i64 7), .lit (.int .i64 7), .lit (.int .i64 12), .lit (.int .i64 12), .lit (.int .i64 8191)]
def laid_reedpipe_tnsbits_sizes {H : Type} : DataW H := .agg [.agg [.lit (.int .i64 2), .lit (.int .i64 6), .lit (.int .i64 5)], .agg [.lit (.int .i64 1), .lit (.int .i64 4), .lit (.int .i64 3)]]

/-- 'reedpipelaw22.IcsNames': WHATEVER THE INPUT: true; the input reads as it did. -/
def icsNamesSpec : ChangeSpec := { name := "icsNames", fn := fun _ => fun
  | [] => { results := [.lit (.bool true)], args := [] }
  | _ => none }
def icsNamesRow : OpenClaim := { program := "ytckdagkaenfkbaagreatdoor", sum := "840ca22547c440ee3fdde0ff8dc7210ce18641729912f487c2c433fc416d4f86", func := "reedpipe/reedpipelaw22.IcsNames", spec := "icsNames", unfollowed := true, recurses := true, named := ["reedpipe/book.shapes", "reedpipe/tnsbits.sizes", "reedpipe/huff.limits"], apart := false, laid := [("reedpipe/book.shapes", laid_reedpipe_book_shapes), ("reedpipe/huff.limits", laid_reedpipe_huff_limits), ("reedpipe/tnsbits.sizes", laid_reedpipe_tnsbits_sizes)] }
def IcsNamesSaid : Prop := icsNamesRow.holds Tryz.pinned (OpenSpec.ofChange icsNamesSpec)

/-- ITS FALSE NEIGHBOUR: 'it returns false'. Refute it at one input. -/
def icsNamesWrong : ChangeSpec := { name := "icsNames", fn := fun _ => fun
  | [] => { results := [.lit (.bool false)], args := [] }
  | _ => none }
def IcsNamesWrongFalsely : Prop := icsNamesRow.holds Tryz.pinned (OpenSpec.ofChange icsNamesWrong)

/-- 'reedpipelaw22.IcsPuts': WHATEVER THE INPUT: true; the input reads as it did. -/
def icsPutsSpec : ChangeSpec := { name := "icsPuts", fn := fun _ => fun
  | [d1, d2, d3, d4] => { results := [.lit (.bool true)], args := [d1, d2, d3, d4] }
  | _ => none }
def icsPutsRow : OpenClaim := { program := "ytckdagkaenfkbaagreatdoor", sum := "840ca22547c440ee3fdde0ff8dc7210ce18641729912f487c2c433fc416d4f86", func := "reedpipe/reedpipelaw22.IcsPuts", spec := "icsPuts", unfollowed := true, recurses := true, named := ["reedpipe/huff.limits", "reedpipe/book.shapes", "reedpipe/tnsbits.sizes"], apart := false, laid := [("reedpipe/book.shapes", laid_reedpipe_book_shapes), ("reedpipe/huff.limits", laid_reedpipe_huff_limits), ("reedpipe/tnsbits.sizes", laid_reedpipe_tnsbits_sizes)] }
def IcsPutsSaid : Prop := icsPutsRow.holds Tryz.pinned (OpenSpec.ofChange icsPutsSpec)

/-- ITS FALSE NEIGHBOUR: 'it returns false'. Refute it at one input. -/
def icsPutsWrong : ChangeSpec := { name := "icsPuts", fn := fun _ => fun
  | [d1, d2, d3, d4] => { results := [.lit (.bool false)], args := [d1, d2, d3, d4] }
  | _ => none }
def IcsPutsWrongFalsely : Prop := icsPutsRow.holds Tryz.pinned (OpenSpec.ofChange icsPutsWrong)

/-- 'reedpipelaw22.IcsGets': WHATEVER THE INPUT: true; the input reads as it did. -/
def icsGetsSpec : ChangeSpec := { name := "icsGets", fn := fun _ => fun
  | [d1, d2, d3, d4, d5] => { results := [.lit (.bool true)], args := [d1, d2, d3, d4, d5] }
  | _ => none }
def icsGetsRow : OpenClaim := { program := "ytckdagkaenfkbaagreatdoor", sum := "840ca22547c440ee3fdde0ff8dc7210ce18641729912f487c2c433fc416d4f86", func := "reedpipe/reedpipelaw22.IcsGets", spec := "icsGets", unfollowed := true, recurses := true, named := ["reedpipe/book.shapes", "reedpipe/tnsbits.sizes"], apart := false, laid := [("reedpipe/book.shapes", laid_reedpipe_book_shapes), ("reedpipe/tnsbits.sizes", laid_reedpipe_tnsbits_sizes)] }
def IcsGetsSaid : Prop := icsGetsRow.holds Tryz.pinned (OpenSpec.ofChange icsGetsSpec)

/-- ITS FALSE NEIGHBOUR: 'it returns false'. Refute it at one input. -/
def icsGetsWrong : ChangeSpec := { name := "icsGets", fn := fun _ => fun
  | [d1, d2, d3, d4, d5] => { results := [.lit (.bool false)], args := [d1, d2, d3, d4, d5] }
  | _ => none }
def IcsGetsWrongFalsely : Prop := icsGetsRow.holds Tryz.pinned (OpenSpec.ofChange icsGetsWrong)

/-- 'reedpipelaw22.IcsBack': WHATEVER THE INPUT: true; the input reads as it did. -/
def icsBackSpec : ChangeSpec := { name := "icsBack", fn := fun _ => fun
  | [d1, d2, d3, d4] => { results := [.lit (.bool true)], args := [d1, d2, d3, d4] }
  | _ => none }
def icsBackRow : OpenClaim := { program := "ytckdagkaenfkbaagreatdoor", sum := "840ca22547c440ee3fdde0ff8dc7210ce18641729912f487c2c433fc416d4f86", func := "reedpipe/reedpipelaw22.IcsBack", spec := "icsBack", unfollowed := true, recurses := true, named := ["reedpipe/huff.limits", "reedpipe/book.shapes", "reedpipe/tnsbits.sizes"], apart := false, laid := [("reedpipe/book.shapes", laid_reedpipe_book_shapes), ("reedpipe/huff.limits", laid_reedpipe_huff_limits), ("reedpipe/tnsbits.sizes", laid_reedpipe_tnsbits_sizes)] }
def IcsBackSaid : Prop := icsBackRow.holds Tryz.pinned (OpenSpec.ofChange icsBackSpec)

/-- ITS FALSE NEIGHBOUR: 'it returns false'. Refute it at one input. -/
def icsBackWrong : ChangeSpec := { name := "icsBack", fn := fun _ => fun
  | [d1, d2, d3, d4] => { results := [.lit (.bool false)], args := [d1, d2, d3, d4] }
  | _ => none }
def IcsBackWrongFalsely : Prop := icsBackRow.holds Tryz.pinned (OpenSpec.ofChange icsBackWrong)

/-- 'reedpipelaw22.IcsOnce': WHATEVER THE INPUT: true; the input reads as it did. -/
def icsOnceSpec : ChangeSpec := { name := "icsOnce", fn := fun _ => fun
  | [d1, d2, d3, d4, d5] => { results := [.lit (.bool true)], args := [d1, d2, d3, d4, d5] }
  | _ => none }
def icsOnceRow : OpenClaim := { program := "ytckdagkaenfkbaagreatdoor", sum := "840ca22547c440ee3fdde0ff8dc7210ce18641729912f487c2c433fc416d4f86", func := "reedpipe/reedpipelaw22.IcsOnce", spec := "icsOnce", unfollowed := true, recurses := true, named := ["reedpipe/huff.limits", "reedpipe/book.shapes", "reedpipe/tnsbits.sizes"], apart := false, laid := [("reedpipe/book.shapes", laid_reedpipe_book_shapes), ("reedpipe/huff.limits", laid_reedpipe_huff_limits), ("reedpipe/tnsbits.sizes", laid_reedpipe_tnsbits_sizes)] }
def IcsOnceSaid : Prop := icsOnceRow.holds Tryz.pinned (OpenSpec.ofChange icsOnceSpec)

/-- ITS FALSE NEIGHBOUR: 'it returns false'. Refute it at one input. -/
def icsOnceWrong : ChangeSpec := { name := "icsOnce", fn := fun _ => fun
  | [d1, d2, d3, d4, d5] => { results := [.lit (.bool false)], args := [d1, d2, d3, d4, d5] }
  | _ => none }
def IcsOnceWrongFalsely : Prop := icsOnceRow.holds Tryz.pinned (OpenSpec.ofChange icsOnceWrong)

/-- 'reedpipelaw22.IcsCommon': WHATEVER THE INPUT: true; the input reads as it did. -/
def icsCommonSpec : ChangeSpec := { name := "icsCommon", fn := fun _ => fun
  | [d1, d2] => { results := [.lit (.bool true)], args := [d1, d2] }
  | _ => none }
def icsCommonRow : OpenClaim := { program := "ytckdagkaenfkbaagreatdoor", sum := "840ca22547c440ee3fdde0ff8dc7210ce18641729912f487c2c433fc416d4f86", func := "reedpipe/reedpipelaw22.IcsCommon", spec := "icsCommon", unfollowed := true, recurses := true, named := ["reedpipe/huff.limits", "reedpipe/book.shapes", "reedpipe/tnsbits.sizes"], apart := false, laid := [("reedpipe/book.shapes", laid_reedpipe_book_shapes), ("reedpipe/huff.limits", laid_reedpipe_huff_limits), ("reedpipe/tnsbits.sizes", laid_reedpipe_tnsbits_sizes)] }
def IcsCommonSaid : Prop := icsCommonRow.holds Tryz.pinned (OpenSpec.ofChange icsCommonSpec)

/-- ITS FALSE NEIGHBOUR: 'it returns false'. Refute it at one input. -/
def icsCommonWrong : ChangeSpec := { name := "icsCommon", fn := fun _ => fun
  | [d1, d2] => { results := [.lit (.bool false)], args := [d1, d2] }
  | _ => none }
def IcsCommonWrongFalsely : Prop := icsCommonRow.holds Tryz.pinned (OpenSpec.ofChange icsCommonWrong)

/- THE SECOND FORM. 'bulk': how many values and letters a reading holds, each counted each time it is reached (what is shared counts as often as it is met; a slice's spare places count too). A statement '..UptoSaid' is the law's where the arguments, and the package variables that the reading takes, are together of bulk at most 1048576: NARROWER than '..Said'. Prove '..Said' where nothing that the law and all that it calls make is longer than what came in: it says more and counts as full. Else prove '..UptoSaid'. A law counts once. -/
mutual
def uptoBulk {H : Type} : DataW H → Nat
  | .lit (.string bytes) => bytes.length + 1
  | .lit _ => 1
  | .nil => 1
  | .ptr d => uptoBulk d + 1
  | .slice elems spare => uptoBulkAll elems + uptoBulkAll spare + 1
  | .agg parts => uptoBulkAll parts + 1
  | .iface _ d => uptoBulk d + 1
  | .map entries => uptoBulkEntries entries + 1
  | .held _ => 1
def uptoBulkAll {H : Type} : List (DataW H) → Nat
  | [] => 0
  | d :: r => uptoBulk d + uptoBulkAll r
def uptoBulkEntries {H : Type} : List (Lit × DataW H) → Nat
  | [] => 0
  | x :: r => uptoBulkEntry x + uptoBulkEntries r
def uptoBulkEntry {H : Type} : Lit × DataW H → Nat
  | (.string bytes, d) => bytes.length + uptoBulk d + 1
  | (_, d) => uptoBulk d + 1
 end
def uptoSmall : (H : Type) → List (DataW H) → Bool := fun _ ds => decide (uptoBulkAll ds ≤ 1048576)
def OpenSpec.upto (s : _root_.Go.ChangeSpec) : _root_.Go.OpenSpec := { _root_.Go.OpenSpec.ofChange s with cond := some uptoSmall }

/-- 'reedpipelaw22.IcsNames', WHERE WHAT IT READS IS OF BULK AT MOST 1048576: true; the input reads as it did. -/
def icsNamesUptoRow : OpenClaim := { program := "ytckdagkaenfkbaagreatdoor", sum := "840ca22547c440ee3fdde0ff8dc7210ce18641729912f487c2c433fc416d4f86", func := "reedpipe/reedpipelaw22.IcsNames", spec := "icsNames", unfollowed := true, recurses := true, named := ["reedpipe/book.shapes", "reedpipe/tnsbits.sizes", "reedpipe/huff.limits"], apart := false, laid := [("reedpipe/book.shapes", laid_reedpipe_book_shapes), ("reedpipe/huff.limits", laid_reedpipe_huff_limits), ("reedpipe/tnsbits.sizes", laid_reedpipe_tnsbits_sizes)], narrowed := true }
def IcsNamesUptoSaid : Prop := icsNamesUptoRow.holds Tryz.pinned (OpenSpec.upto icsNamesSpec)

/-- 'reedpipelaw22.IcsPuts', WHERE WHAT IT READS IS OF BULK AT MOST 1048576: true; the input reads as it did. -/
def icsPutsUptoRow : OpenClaim := { program := "ytckdagkaenfkbaagreatdoor", sum := "840ca22547c440ee3fdde0ff8dc7210ce18641729912f487c2c433fc416d4f86", func := "reedpipe/reedpipelaw22.IcsPuts", spec := "icsPuts", unfollowed := true, recurses := true, named := ["reedpipe/huff.limits", "reedpipe/book.shapes", "reedpipe/tnsbits.sizes"], apart := false, laid := [("reedpipe/book.shapes", laid_reedpipe_book_shapes), ("reedpipe/huff.limits", laid_reedpipe_huff_limits), ("reedpipe/tnsbits.sizes", laid_reedpipe_tnsbits_sizes)], narrowed := true }
def IcsPutsUptoSaid : Prop := icsPutsUptoRow.holds Tryz.pinned (OpenSpec.upto icsPutsSpec)

/-- 'reedpipelaw22.IcsGets', WHERE WHAT IT READS IS OF BULK AT MOST 1048576: true; the input reads as it did. -/
def icsGetsUptoRow : OpenClaim := { program := "ytckdagkaenfkbaagreatdoor", sum := "840ca22547c440ee3fdde0ff8dc7210ce18641729912f487c2c433fc416d4f86", func := "reedpipe/reedpipelaw22.IcsGets", spec := "icsGets", unfollowed := true, recurses := true, named := ["reedpipe/book.shapes", "reedpipe/tnsbits.sizes"], apart := false, laid := [("reedpipe/book.shapes", laid_reedpipe_book_shapes), ("reedpipe/tnsbits.sizes", laid_reedpipe_tnsbits_sizes)], narrowed := true }
def IcsGetsUptoSaid : Prop := icsGetsUptoRow.holds Tryz.pinned (OpenSpec.upto icsGetsSpec)

/-- 'reedpipelaw22.IcsBack', WHERE WHAT IT READS IS OF BULK AT MOST 1048576: true; the input reads as it did. -/
def icsBackUptoRow : OpenClaim := { program := "ytckdagkaenfkbaagreatdoor", sum := "840ca22547c440ee3fdde0ff8dc7210ce18641729912f487c2c433fc416d4f86", func := "reedpipe/reedpipelaw22.IcsBack", spec := "icsBack", unfollowed := true, recurses := true, named := ["reedpipe/huff.limits", "reedpipe/book.shapes", "reedpipe/tnsbits.sizes"], apart := false, laid := [("reedpipe/book.shapes", laid_reedpipe_book_shapes), ("reedpipe/huff.limits", laid_reedpipe_huff_limits), ("reedpipe/tnsbits.sizes", laid_reedpipe_tnsbits_sizes)], narrowed := true }
def IcsBackUptoSaid : Prop := icsBackUptoRow.holds Tryz.pinned (OpenSpec.upto icsBackSpec)

/-- 'reedpipelaw22.IcsOnce', WHERE WHAT IT READS IS OF BULK AT MOST 1048576: true; the input reads as it did. -/
def icsOnceUptoRow : OpenClaim := { program := "ytckdagkaenfkbaagreatdoor", sum := "840ca22547c440ee3fdde0ff8dc7210ce18641729912f487c2c433fc416d4f86", func := "reedpipe/reedpipelaw22.IcsOnce", spec := "icsOnce", unfollowed := true, recurses := true, named := ["reedpipe/huff.limits", "reedpipe/book.shapes", "reedpipe/tnsbits.sizes"], apart := false, laid := [("reedpipe/book.shapes", laid_reedpipe_book_shapes), ("reedpipe/huff.limits", laid_reedpipe_huff_limits), ("reedpipe/tnsbits.sizes", laid_reedpipe_tnsbits_sizes)], narrowed := true }
def IcsOnceUptoSaid : Prop := icsOnceUptoRow.holds Tryz.pinned (OpenSpec.upto icsOnceSpec)

/-- 'reedpipelaw22.IcsCommon', WHERE WHAT IT READS IS OF BULK AT MOST 1048576: true; the input reads as it did. -/
def icsCommonUptoRow : OpenClaim := { program := "ytckdagkaenfkbaagreatdoor", sum := "840ca22547c440ee3fdde0ff8dc7210ce18641729912f487c2c433fc416d4f86", func := "reedpipe/reedpipelaw22.IcsCommon", spec := "icsCommon", unfollowed := true, recurses := true, named := ["reedpipe/huff.limits", "reedpipe/book.shapes", "reedpipe/tnsbits.sizes"], apart := false, laid := [("reedpipe/book.shapes", laid_reedpipe_book_shapes), ("reedpipe/huff.limits", laid_reedpipe_huff_limits), ("reedpipe/tnsbits.sizes", laid_reedpipe_tnsbits_sizes)], narrowed := true }
def IcsCommonUptoSaid : Prop := icsCommonUptoRow.holds Tryz.pinned (OpenSpec.upto icsCommonSpec)

end Rows
end Go.Proofs.YtckdagkaenfkbaaGreatDoor
