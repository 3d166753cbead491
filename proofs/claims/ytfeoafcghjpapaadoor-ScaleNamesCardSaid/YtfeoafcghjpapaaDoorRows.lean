/-
  NARROWER THAN 'FOR EVERY INPUT', by the rows' own cells (each row's printed sentence says how): ScaleNames: laid · ScaleTells: laid · ScaleBack: laid · ScaleCuts: laid · ScaleFlat: laid · TnsbitsNames: laid · TnsbitsBack: laid · TnsbitsNone: laid · TnsbitsNarrow: laid.
  DERIVED. THE GIVEN ROWS OF THIS SEAT. 9 by the template 'for every input the law returns true; each argument reads behind the call as it read before'; 0 by the template 'total and deterministic' (their statements: YtfeoafcghjpapaaDoorTotals.lean).
  GIVEN WITH THE SEED: the statements are not yours to turn. If you find one false, say at which input.
  Laid BY PROGRAM, IN A SANDBOX (cutbox-rows.mjs): the forced cells as the released guide's own fill.sh prints them over the translation 1ce5444f9cf175d8… (all of the seat's roots in one cut). By AI agents, Wed Nov 11 2026. No macro, syntax, notation, axiom, sorry.
-/
import Derived.Test.YtfeoafcghjpapaaDoorChecked
import GoSem.Claim
import GoSem.ClaimJoined
import GoSem.ClaimMapViews
import Derived.JoinedTies
import Derived.KernelRfl
namespace Go.Proofs.YtfeoafcghjpapaaDoor
/- THE CELL 'sum', in the pinned program and in every row, IS THE sha256 OF THE DUMP (.gsa) THAT YtfeoafcghjpapaaDoorProg.lean LOADS. Nothing in Lean hashes anything: it is a label: what it is worth is what the hold of that sum in a sandbox is worth. -/
noncomputable def Tryd.pinned : Pinned := { name := "ytfeoafcghjpapaadoor", sum := "1ce5444f9cf175d8a3454abf0450622702da5b5959a59ed00736c873ac07e362", checked := Tryd.checked }
namespace Rows
def none {H : Type} : Left H := { results := [], args := [] }

/- WHAT THE LISTED PACKAGE-LEVEL VARIABLES READ AS WHEN THE CALL BEGINS. Each datum BY PROGRAM (the guide's laid-datum.mjs) off the statement by which the dump's own 'gosem.cut.vars' lays the variable. In a bare row this is a premise. The card (YtfeoafcghjpapaaDoorCards.lean) ties it to the program's text. -/
def laid_reedpipe_book_shapes {H : Type} : DataW H := .agg [.agg [.lit (.int .i64 4), .lit (.int .i64 (-1)), .lit (.int .i64 1), .lit (.int .i64 0)], .agg [.lit (.int .i64 4), .lit (.int .i64 (-1)), .lit (.int .i64 1), .lit (.int .i64 1)], .agg [.lit (.int .i64 4), .lit (.int .i64 0), .lit (.int .i64 2), .lit (.int .i64 0)], .agg [.lit (.int .i64 4), .lit (.int .i64 0), .lit (.int .i64 2), .lit (.int .i64 1)], .agg [.lit (.int .i64 2), .lit (.int .i64 (-4)), .lit (.int .i64 4), .lit (.int .i64 0)], .agg [.lit (.int .i64 2), .lit (.int .i64 (-4)), .lit (.int .i64 4), .lit (.int .i64 1)], .agg [.lit (.int .i64 2), .lit (.int .i64 0), .lit (.int .i64 7), .lit (.int .i64 1)], .agg [.lit (.int .i64 2), .lit (.int .i64 0), .lit (.int .i64 7), .lit (.int .i64 2)], .agg [.lit (.int .i64 2), .lit (.int .i64 0), .lit (.int .i64 12), .lit (.int .i64 1)], .agg [.lit (.int .i64 2), .lit (.int .i64 0), .lit (.int .i64 12), .lit (.int .i64 2)], .agg [.lit (.int .i64 2), .lit (.int .i64 0), .lit (.int .i64 16), .lit (.int .i64 2)], .agg [.lit (.int .i64 1), .lit (.int .i64 (-60)), .lit (.int .i64 60), .lit (.int .i64 0)]]
def laid_reedpipe_tnsbits_sizes {H : Type} : DataW H := .agg [.agg [.lit (.int .i64 2), .lit (.int .i64 6), .lit (.int .i64 5)], .agg [.lit (.int .i64 1), .lit (.int .i64 4), .lit (.int .i64 3)]]

/-- 'reedpipelaw20.ScaleNames': WHATEVER THE INPUT: true; the input reads as it did. -/
def scaleNamesSpec : ChangeSpec := { name := "scaleNames", fn := fun _ => fun
  | [] => { results := [.lit (.bool true)], args := [] }
  | _ => none }
def scaleNamesRow : OpenClaim := { program := "ytfeoafcghjpapaadoor", sum := "1ce5444f9cf175d8a3454abf0450622702da5b5959a59ed00736c873ac07e362", func := "reedpipe/reedpipelaw20.ScaleNames", spec := "scaleNames", unfollowed := true, recurses := true, named := ["reedpipe/book.shapes"], apart := false, laid := [("reedpipe/book.shapes", laid_reedpipe_book_shapes)] }
def ScaleNamesSaid : Prop := scaleNamesRow.holds Tryd.pinned (OpenSpec.ofChange scaleNamesSpec)

/-- ITS FALSE NEIGHBOUR: 'it returns false'. Refute it at one input. -/
def scaleNamesWrong : ChangeSpec := { name := "scaleNames", fn := fun _ => fun
  | [] => { results := [.lit (.bool false)], args := [] }
  | _ => none }
def ScaleNamesWrongFalsely : Prop := scaleNamesRow.holds Tryd.pinned (OpenSpec.ofChange scaleNamesWrong)

/-- 'reedpipelaw20.ScaleTells': WHATEVER THE INPUT: true; the input reads as it did. -/
def scaleTellsSpec : ChangeSpec := { name := "scaleTells", fn := fun _ => fun
  | [d1, d2, d3, d4, d5] => { results := [.lit (.bool true)], args := [d1, d2, d3, d4, d5] }
  | _ => none }
def scaleTellsRow : OpenClaim := { program := "ytfeoafcghjpapaadoor", sum := "1ce5444f9cf175d8a3454abf0450622702da5b5959a59ed00736c873ac07e362", func := "reedpipe/reedpipelaw20.ScaleTells", spec := "scaleTells", unfollowed := true, recurses := true, named := ["reedpipe/book.shapes"], apart := false, laid := [("reedpipe/book.shapes", laid_reedpipe_book_shapes)] }
def ScaleTellsSaid : Prop := scaleTellsRow.holds Tryd.pinned (OpenSpec.ofChange scaleTellsSpec)

/-- ITS FALSE NEIGHBOUR: 'it returns false'. Refute it at one input. -/
def scaleTellsWrong : ChangeSpec := { name := "scaleTells", fn := fun _ => fun
  | [d1, d2, d3, d4, d5] => { results := [.lit (.bool false)], args := [d1, d2, d3, d4, d5] }
  | _ => none }
def ScaleTellsWrongFalsely : Prop := scaleTellsRow.holds Tryd.pinned (OpenSpec.ofChange scaleTellsWrong)

/-- 'reedpipelaw20.ScaleBack': WHATEVER THE INPUT: true; the input reads as it did. -/
def scaleBackSpec : ChangeSpec := { name := "scaleBack", fn := fun _ => fun
  | [d1, d2, d3, d4, d5, d6] => { results := [.lit (.bool true)], args := [d1, d2, d3, d4, d5, d6] }
  | _ => none }
def scaleBackRow : OpenClaim := { program := "ytfeoafcghjpapaadoor", sum := "1ce5444f9cf175d8a3454abf0450622702da5b5959a59ed00736c873ac07e362", func := "reedpipe/reedpipelaw20.ScaleBack", spec := "scaleBack", unfollowed := true, recurses := true, named := ["reedpipe/book.shapes"], apart := false, laid := [("reedpipe/book.shapes", laid_reedpipe_book_shapes)] }
def ScaleBackSaid : Prop := scaleBackRow.holds Tryd.pinned (OpenSpec.ofChange scaleBackSpec)

/-- ITS FALSE NEIGHBOUR: 'it returns false'. Refute it at one input. -/
def scaleBackWrong : ChangeSpec := { name := "scaleBack", fn := fun _ => fun
  | [d1, d2, d3, d4, d5, d6] => { results := [.lit (.bool false)], args := [d1, d2, d3, d4, d5, d6] }
  | _ => none }
def ScaleBackWrongFalsely : Prop := scaleBackRow.holds Tryd.pinned (OpenSpec.ofChange scaleBackWrong)

/-- 'reedpipelaw20.ScaleCuts': WHATEVER THE INPUT: true; the input reads as it did. -/
def scaleCutsSpec : ChangeSpec := { name := "scaleCuts", fn := fun _ => fun
  | [d1, d2, d3] => { results := [.lit (.bool true)], args := [d1, d2, d3] }
  | _ => none }
def scaleCutsRow : OpenClaim := { program := "ytfeoafcghjpapaadoor", sum := "1ce5444f9cf175d8a3454abf0450622702da5b5959a59ed00736c873ac07e362", func := "reedpipe/reedpipelaw20.ScaleCuts", spec := "scaleCuts", unfollowed := true, recurses := true, named := ["reedpipe/book.shapes"], apart := false, laid := [("reedpipe/book.shapes", laid_reedpipe_book_shapes)] }
def ScaleCutsSaid : Prop := scaleCutsRow.holds Tryd.pinned (OpenSpec.ofChange scaleCutsSpec)

/-- ITS FALSE NEIGHBOUR: 'it returns false'. Refute it at one input. -/
def scaleCutsWrong : ChangeSpec := { name := "scaleCuts", fn := fun _ => fun
  | [d1, d2, d3] => { results := [.lit (.bool false)], args := [d1, d2, d3] }
  | _ => none }
def ScaleCutsWrongFalsely : Prop := scaleCutsRow.holds Tryd.pinned (OpenSpec.ofChange scaleCutsWrong)

/-- 'reedpipelaw20.ScaleFlat': WHATEVER THE INPUT: true; the input reads as it did. -/
def scaleFlatSpec : ChangeSpec := { name := "scaleFlat", fn := fun _ => fun
  | [d1, d2] => { results := [.lit (.bool true)], args := [d1, d2] }
  | _ => none }
def scaleFlatRow : OpenClaim := { program := "ytfeoafcghjpapaadoor", sum := "1ce5444f9cf175d8a3454abf0450622702da5b5959a59ed00736c873ac07e362", func := "reedpipe/reedpipelaw20.ScaleFlat", spec := "scaleFlat", unfollowed := true, recurses := true, named := ["reedpipe/book.shapes"], apart := false, laid := [("reedpipe/book.shapes", laid_reedpipe_book_shapes)] }
def ScaleFlatSaid : Prop := scaleFlatRow.holds Tryd.pinned (OpenSpec.ofChange scaleFlatSpec)

/-- ITS FALSE NEIGHBOUR: 'it returns false'. Refute it at one input. -/
def scaleFlatWrong : ChangeSpec := { name := "scaleFlat", fn := fun _ => fun
  | [d1, d2] => { results := [.lit (.bool false)], args := [d1, d2] }
  | _ => none }
def ScaleFlatWrongFalsely : Prop := scaleFlatRow.holds Tryd.pinned (OpenSpec.ofChange scaleFlatWrong)

/-- 'reedpipelaw21.TnsbitsNames': WHATEVER THE INPUT: true; the input reads as it did. -/
def tnsbitsNamesSpec : ChangeSpec := { name := "tnsbitsNames", fn := fun _ => fun
  | [] => { results := [.lit (.bool true)], args := [] }
  | _ => none }
def tnsbitsNamesRow : OpenClaim := { program := "ytfeoafcghjpapaadoor", sum := "1ce5444f9cf175d8a3454abf0450622702da5b5959a59ed00736c873ac07e362", func := "reedpipe/reedpipelaw21.TnsbitsNames", spec := "tnsbitsNames", unfollowed := true, recurses := true, named := ["reedpipe/tnsbits.sizes"], apart := false, laid := [("reedpipe/tnsbits.sizes", laid_reedpipe_tnsbits_sizes)] }
def TnsbitsNamesSaid : Prop := tnsbitsNamesRow.holds Tryd.pinned (OpenSpec.ofChange tnsbitsNamesSpec)

/-- ITS FALSE NEIGHBOUR: 'it returns false'. Refute it at one input. -/
def tnsbitsNamesWrong : ChangeSpec := { name := "tnsbitsNames", fn := fun _ => fun
  | [] => { results := [.lit (.bool false)], args := [] }
  | _ => none }
def TnsbitsNamesWrongFalsely : Prop := tnsbitsNamesRow.holds Tryd.pinned (OpenSpec.ofChange tnsbitsNamesWrong)

/-- 'reedpipelaw21.TnsbitsBack': WHATEVER THE INPUT: true; the input reads as it did. -/
def tnsbitsBackSpec : ChangeSpec := { name := "tnsbitsBack", fn := fun _ => fun
  | [d1, d2, d3, d4, d5] => { results := [.lit (.bool true)], args := [d1, d2, d3, d4, d5] }
  | _ => none }
def tnsbitsBackRow : OpenClaim := { program := "ytfeoafcghjpapaadoor", sum := "1ce5444f9cf175d8a3454abf0450622702da5b5959a59ed00736c873ac07e362", func := "reedpipe/reedpipelaw21.TnsbitsBack", spec := "tnsbitsBack", unfollowed := true, recurses := true, named := ["reedpipe/tnsbits.sizes"], apart := false, laid := [("reedpipe/tnsbits.sizes", laid_reedpipe_tnsbits_sizes)] }
def TnsbitsBackSaid : Prop := tnsbitsBackRow.holds Tryd.pinned (OpenSpec.ofChange tnsbitsBackSpec)

/-- ITS FALSE NEIGHBOUR: 'it returns false'. Refute it at one input. -/
def tnsbitsBackWrong : ChangeSpec := { name := "tnsbitsBack", fn := fun _ => fun
  | [d1, d2, d3, d4, d5] => { results := [.lit (.bool false)], args := [d1, d2, d3, d4, d5] }
  | _ => none }
def TnsbitsBackWrongFalsely : Prop := tnsbitsBackRow.holds Tryd.pinned (OpenSpec.ofChange tnsbitsBackWrong)

/-- 'reedpipelaw21.TnsbitsNone': WHATEVER THE INPUT: true; the input reads as it did. -/
def tnsbitsNoneSpec : ChangeSpec := { name := "tnsbitsNone", fn := fun _ => fun
  | [d1, d2] => { results := [.lit (.bool true)], args := [d1, d2] }
  | _ => none }
def tnsbitsNoneRow : OpenClaim := { program := "ytfeoafcghjpapaadoor", sum := "1ce5444f9cf175d8a3454abf0450622702da5b5959a59ed00736c873ac07e362", func := "reedpipe/reedpipelaw21.TnsbitsNone", spec := "tnsbitsNone", unfollowed := true, recurses := true, named := ["reedpipe/tnsbits.sizes"], apart := false, laid := [("reedpipe/tnsbits.sizes", laid_reedpipe_tnsbits_sizes)] }
def TnsbitsNoneSaid : Prop := tnsbitsNoneRow.holds Tryd.pinned (OpenSpec.ofChange tnsbitsNoneSpec)

/-- ITS FALSE NEIGHBOUR: 'it returns false'. Refute it at one input. -/
def tnsbitsNoneWrong : ChangeSpec := { name := "tnsbitsNone", fn := fun _ => fun
  | [d1, d2] => { results := [.lit (.bool false)], args := [d1, d2] }
  | _ => none }
def TnsbitsNoneWrongFalsely : Prop := tnsbitsNoneRow.holds Tryd.pinned (OpenSpec.ofChange tnsbitsNoneWrong)

/-- 'reedpipelaw21.TnsbitsNarrow': WHATEVER THE INPUT: true; the input reads as it did. -/
def tnsbitsNarrowSpec : ChangeSpec := { name := "tnsbitsNarrow", fn := fun _ => fun
  | [d1, d2] => { results := [.lit (.bool true)], args := [d1, d2] }
  | _ => none }
def tnsbitsNarrowRow : OpenClaim := { program := "ytfeoafcghjpapaadoor", sum := "1ce5444f9cf175d8a3454abf0450622702da5b5959a59ed00736c873ac07e362", func := "reedpipe/reedpipelaw21.TnsbitsNarrow", spec := "tnsbitsNarrow", unfollowed := true, recurses := true, named := ["reedpipe/tnsbits.sizes"], apart := false, laid := [("reedpipe/tnsbits.sizes", laid_reedpipe_tnsbits_sizes)] }
def TnsbitsNarrowSaid : Prop := tnsbitsNarrowRow.holds Tryd.pinned (OpenSpec.ofChange tnsbitsNarrowSpec)

/-- ITS FALSE NEIGHBOUR: 'it returns false'. Refute it at one input. -/
def tnsbitsNarrowWrong : ChangeSpec := { name := "tnsbitsNarrow", fn := fun _ => fun
  | [d1, d2] => { results := [.lit (.bool false)], args := [d1, d2] }
  | _ => none }
def TnsbitsNarrowWrongFalsely : Prop := tnsbitsNarrowRow.holds Tryd.pinned (OpenSpec.ofChange tnsbitsNarrowWrong)

/- THE SECOND FORM. 'bulk': how many values and letters a reading holds, each counted each time it is reached (what is shared counts as often as it is met; a slice's spare places count too). A statement '..UptoSaid' is the law's where the arguments, and the package variables that the reading takes, are together of bulk at most 1048576: NARROWER than '..Said'. Prove '..Said' where nothing that the law and all that it calls make is longer than what came in: it says more and counts as full. Else prove '..UptoSaid'. A law counts once. -/
mutual
def uptoBulk {H : Type} : DataW H → Nat
  | .lit (.string bytes) => bytes.length + 1
  | .lit _ => 1
  | .nil => 1
  | .ptr d => uptoBulk d + 1
  | .slice elems spare => uptoBulkAll elems + uptoBulkAll spare + 1
  | .agg parts => uptoBulkAll parts + 1
  | .iface _ d => uptoBulk d + 1
  | .map entries => uptoBulkEntries entries + 1
  | .held _ => 1
def uptoBulkAll {H : Type} : List (DataW H) → Nat
  | [] => 0
  | d :: r => uptoBulk d + uptoBulkAll r
def uptoBulkEntries {H : Type} : List (Lit × DataW H) → Nat
  | [] => 0
  | x :: r => uptoBulkEntry x + uptoBulkEntries r
def uptoBulkEntry {H : Type} : Lit × DataW H → Nat
  | (.string bytes, d) => bytes.length + uptoBulk d + 1
  | (_, d) => uptoBulk d + 1
 end
def uptoSmall : (H : Type) → List (DataW H) → Bool := fun _ ds => decide (uptoBulkAll ds ≤ 1048576)
def OpenSpec.upto (s : _root_.Go.ChangeSpec) : _root_.Go.OpenSpec := { _root_.Go.OpenSpec.ofChange s with cond := some uptoSmall }

/-- 'reedpipelaw20.ScaleNames', WHERE WHAT IT READS IS OF BULK AT MOST 1048576: true; the input reads as it did. -/
def scaleNamesUptoRow : OpenClaim := { program := "ytfeoafcghjpapaadoor", sum := "1ce5444f9cf175d8a3454abf0450622702da5b5959a59ed00736c873ac07e362", func := "reedpipe/reedpipelaw20.ScaleNames", spec := "scaleNames", unfollowed := true, recurses := true, named := ["reedpipe/book.shapes"], apart := false, laid := [("reedpipe/book.shapes", laid_reedpipe_book_shapes)], narrowed := true }
def ScaleNamesUptoSaid : Prop := scaleNamesUptoRow.holds Tryd.pinned (OpenSpec.upto scaleNamesSpec)

/-- 'reedpipelaw20.ScaleTells', WHERE WHAT IT READS IS OF BULK AT MOST 1048576: true; the input reads as it did. -/
def scaleTellsUptoRow : OpenClaim := { program := "ytfeoafcghjpapaadoor", sum := "1ce5444f9cf175d8a3454abf0450622702da5b5959a59ed00736c873ac07e362", func := "reedpipe/reedpipelaw20.ScaleTells", spec := "scaleTells", unfollowed := true, recurses := true, named := ["reedpipe/book.shapes"], apart := false, laid := [("reedpipe/book.shapes", laid_reedpipe_book_shapes)], narrowed := true }
def ScaleTellsUptoSaid : Prop := scaleTellsUptoRow.holds Tryd.pinned (OpenSpec.upto scaleTellsSpec)

/-- 'reedpipelaw20.ScaleBack', WHERE WHAT IT READS IS OF BULK AT MOST 1048576: true; the input reads as it did. -/
def scaleBackUptoRow : OpenClaim := { program := "ytfeoafcghjpapaadoor", sum := "1ce5444f9cf175d8a3454abf0450622702da5b5959a59ed00736c873ac07e362", func := "reedpipe/reedpipelaw20.ScaleBack", spec := "scaleBack", unfollowed := true, recurses := true, named := ["reedpipe/book.shapes"], apart := false, laid := [("reedpipe/book.shapes", laid_reedpipe_book_shapes)], narrowed := true }
def ScaleBackUptoSaid : Prop := scaleBackUptoRow.holds Tryd.pinned (OpenSpec.upto scaleBackSpec)

/-- 'reedpipelaw20.ScaleCuts', WHERE WHAT IT READS IS OF BULK AT MOST 1048576: true; the input reads as it did. -/
def scaleCutsUptoRow : OpenClaim := { program := "ytfeoafcghjpapaadoor", sum := "1ce5444f9cf175d8a3454abf0450622702da5b5959a59ed00736c873ac07e362", func := "reedpipe/reedpipelaw20.ScaleCuts", spec := "scaleCuts", unfollowed := true, recurses := true, named := ["reedpipe/book.shapes"], apart := false, laid := [("reedpipe/book.shapes", laid_reedpipe_book_shapes)], narrowed := true }
def ScaleCutsUptoSaid : Prop := scaleCutsUptoRow.holds Tryd.pinned (OpenSpec.upto scaleCutsSpec)

/-- 'reedpipelaw20.ScaleFlat', WHERE WHAT IT READS IS OF BULK AT MOST 1048576: true; the input reads as it did. -/
def scaleFlatUptoRow : OpenClaim := { program := "ytfeoafcghjpapaadoor", sum := "1ce5444f9cf175d8a3454abf0450622702da5b5959a59ed00736c873ac07e362", func := "reedpipe/reedpipelaw20.ScaleFlat", spec := "scaleFlat", unfollowed := true, recurses := true, named := ["reedpipe/book.shapes"], apart := false, laid := [("reedpipe/book.shapes", laid_reedpipe_book_shapes)], narrowed := true }
def ScaleFlatUptoSaid : Prop := scaleFlatUptoRow.holds Tryd.pinned (OpenSpec.upto scaleFlatSpec)

/-- 'reedpipelaw21.TnsbitsNames', WHERE WHAT IT READS IS OF BULK AT MOST 1048576: true; the input reads as it did. -/
def tnsbitsNamesUptoRow : OpenClaim := { program := "ytfeoafcghjpapaadoor", sum := "1ce5444f9cf175d8a3454abf0450622702da5b5959a59ed00736c873ac07e362", func := "reedpipe/reedpipelaw21.TnsbitsNames", spec := "tnsbitsNames", unfollowed := true, recurses := true, named := ["reedpipe/tnsbits.sizes"], apart := false, laid := [("reedpipe/tnsbits.sizes", laid_reedpipe_tnsbits_sizes)], narrowed := true }
def TnsbitsNamesUptoSaid : Prop := tnsbitsNamesUptoRow.holds Tryd.pinned (OpenSpec.upto tnsbitsNamesSpec)

/-- 'reedpipelaw21.TnsbitsBack', WHERE WHAT IT READS IS OF BULK AT MOST 1048576: true; the input reads as it did. -/
def tnsbitsBackUptoRow : OpenClaim := { program := "ytfeoafcghjpapaadoor", sum := "1ce5444f9cf175d8a3454abf0450622702da5b5959a59ed00736c873ac07e362", func := "reedpipe/reedpipelaw21.TnsbitsBack", spec := "tnsbitsBack", unfollowed := true, recurses := true, named := ["reedpipe/tnsbits.sizes"], apart := false, laid := [("reedpipe/tnsbits.sizes", laid_reedpipe_tnsbits_sizes)], narrowed := true }
def TnsbitsBackUptoSaid : Prop := tnsbitsBackUptoRow.holds Tryd.pinned (OpenSpec.upto tnsbitsBackSpec)

/-- 'reedpipelaw21.TnsbitsNone', WHERE WHAT IT READS IS OF BULK AT MOST 1048576: true; the input reads as it did. -/
def tnsbitsNoneUptoRow : OpenClaim := { program := "ytfeoafcghjpapaadoor", sum := "1ce5444f9cf175d8a3454abf0450622702da5b5959a59ed00736c873ac07e362", func := "reedpipe/reedpipelaw21.TnsbitsNone", spec := "tnsbitsNone", unfollowed := true, recurses := true, named := ["reedpipe/tnsbits.sizes"], apart := false, laid := [("reedpipe/tnsbits.sizes", laid_reedpipe_tnsbits_sizes)], narrowed := true }
def TnsbitsNoneUptoSaid : Prop := tnsbitsNoneUptoRow.holds Tryd.pinned (OpenSpec.upto tnsbitsNoneSpec)

/-- 'reedpipelaw21.TnsbitsNarrow', WHERE WHAT IT READS IS OF BULK AT MOST 1048576: true; the input reads as it did. -/
def tnsbitsNarrowUptoRow : OpenClaim := { program := "ytfeoafcghjpapaadoor", sum := "1ce5444f9cf175d8a3454abf0450622702da5b5959a59ed00736c873ac07e362", func := "reedpipe/reedpipelaw21.TnsbitsNarrow", spec := "tnsbitsNarrow", unfollowed := true, recurses := true, named := ["reedpipe/tnsbits.sizes"], apart := false, laid := [("reedpipe/tnsbits.sizes", laid_reedpipe_tnsbits_sizes)], narrowed := true }
def TnsbitsNarrowUptoSaid : Prop := tnsbitsNarrowUptoRow.holds Tryd.pinned (OpenSpec.upto tnsbitsNarrowSpec)

end Rows
end Go.Proofs.YtfeoafcghjpapaaDoor
