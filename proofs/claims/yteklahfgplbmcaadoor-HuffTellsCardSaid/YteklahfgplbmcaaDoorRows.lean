/-
  NARROWER THAN 'FOR EVERY INPUT', by the rows' own cells (each row's printed sentence says how): BookNames: laid · BookTells: laid · BookCodes: laid · BookEntries: laid · BookPrefix: laid · BookShort: laid · BookRanks: laid · HuffTells: laid · HuffSteps: laid · HuffBack: laid · HuffStepBack: laid · HuffSigns: laid.
  DERIVED. THE GIVEN ROWS OF THIS SEAT. 12 by the template 'for every input the law returns true; each argument reads behind the call as it read before'; 0 by the template 'total and deterministic' (their statements: YteklahfgplbmcaaDoorTotals.lean).
  GIVEN WITH THE SEED: the statements are not yours to turn. If you find one false, say at which input.
  Laid BY PROGRAM, IN A SANDBOX (cutbox-rows.mjs): the forced cells as the released guide's own fill.sh prints them over the translation 9e9617b489228632… (all of the seat's roots in one cut). By AI agents, Wed Nov 11 2026. No macro, syntax, notation, axiom, sorry.
-/
import Derived.Test.YteklahfgplbmcaaDoorChecked
import GoSem.Claim
import GoSem.ClaimJoined
import GoSem.ClaimMapViews
import Derived.JoinedTies
import Derived.KernelRfl
namespace Go.Proofs.YteklahfgplbmcaaDoor
/- THE CELL 'sum', in the pinned program and in every row, IS THE sha256 OF THE DUMP (.gsa) THAT YteklahfgplbmcaaDoorProg.lean LOADS. Nothing in Lean hashes anything: it is a label: what it is worth is what the hold of that sum in a sandbox is worth. -/
noncomputable def Tryd.pinned : Pinned := { name := "yteklahfgplbmcaadoor", sum := "9e9617b4892286329cc1ca2d241b76711efcff561e9282a43f340c858bfc52d0", checked := Tryd.checked }
namespace Rows
def none {H : Type} : Left H := { results := [], args := [] }

/- WHAT THE LISTED PACKAGE-LEVEL VARIABLES READ AS WHEN THE CALL BEGINS. Each datum BY PROGRAM (the guide's laid-datum.mjs) off the statement by which the dump's own 'gosem.cut.vars' lays the variable. In a bare row this is a premise. The card (YteklahfgplbmcaaDoorCards.lean) ties it to the program's text. -/
def laid_reedpipe_book_shapes {H : Type} : DataW H := .agg [.agg [.lit (.int .i64 4), .lit (.int .i64 (-1)), .lit (.int .i64 1), .lit (.int .i64 0)], .agg [.lit (.int .i64 4), .lit (.int .i64 (-1)), .lit (.int .i64 1), .lit (.int .i64 1)], .agg [.lit (.int .i64 4), .lit (.int .i64 0), .lit (.int .i64 2), .lit (.int .i64 0)], .agg [.lit (.int .i64 4), .lit (.int .i64 0), .lit (.int .i64 2), .lit (.int .i64 1)], .agg [.lit (.int .i64 2), .lit (.int .i64 (-4)), .lit (.int .i64 4), .lit (.int .i64 0)], .agg [.lit (.int .i64 2), .lit (.int .i64 (-4)), .lit (.int .i64 4), .lit (.int .i64 1)], .agg [.lit (.int .i64 2), .lit (.int .i64 0), .lit (.int .i64 7), .lit (.int .i64 1)], .agg [.lit (.int .i64 2), .lit (.int .i64 0), .lit (.int .i64 7), .lit (.int .i64 2)], .agg [.lit (.int .i64 2), .lit (.int .i64 0), .lit (.int .i64 12), .lit (.int .i64 1)], .agg [.lit (.int .i64 2), .lit (.int .i64 0), .lit (.int .i64 12), .lit (.int .i64 2)], .agg [.lit (.int .i64 2), .lit (.int .i64 0), .lit (.int .i64 16), .lit (.int .i64 2)], .agg [.lit (.int .i64 1), .lit (.int .i64 (-60)), .lit (.int .i64 60), .lit (.int .i64 0)]]
def laid_reedpipe_huff_limits {H : Type} : DataW H := .agg [.lit (.int .i64 1), .lit (.int .i64 1), .lit (.int .i64 2), .lit (.int .i64 2), .lit (.int .i64 4), .lit (.int .i64 4), .lit (.int .i64 7), .lit (.int .i64 7), .lit (.int .i64 12), .lit (.int .i64 12), .lit (.int .i64 8191)]

/-- 'reedpipelaw08.BookNames': WHATEVER THE INPUT: true; the input reads as it did. -/
def bookNamesSpec : ChangeSpec := { name := "bookNames", fn := fun _ => fun
  | [] => { results := [.lit (.bool true)], args := [] }
  | _ => none }
def bookNamesRow : OpenClaim := { program := "yteklahfgplbmcaadoor", sum := "9e9617b4892286329cc1ca2d241b76711efcff561e9282a43f340c858bfc52d0", func := "reedpipe/reedpipelaw08.BookNames", spec := "bookNames", unfollowed := true, recurses := true, named := ["reedpipe/book.shapes"], apart := false, laid := [("reedpipe/book.shapes", laid_reedpipe_book_shapes)] }
def BookNamesSaid : Prop := bookNamesRow.holds Tryd.pinned (OpenSpec.ofChange bookNamesSpec)

/-- ITS FALSE NEIGHBOUR: 'it returns false'. Refute it at one input. -/
def bookNamesWrong : ChangeSpec := { name := "bookNames", fn := fun _ => fun
  | [] => { results := [.lit (.bool false)], args := [] }
  | _ => none }
def BookNamesWrongFalsely : Prop := bookNamesRow.holds Tryd.pinned (OpenSpec.ofChange bookNamesWrong)

/-- 'reedpipelaw08.BookTells': WHATEVER THE INPUT: true; the input reads as it did. -/
def bookTellsSpec : ChangeSpec := { name := "bookTells", fn := fun _ => fun
  | [d1, d2, d3] => { results := [.lit (.bool true)], args := [d1, d2, d3] }
  | _ => none }
def bookTellsRow : OpenClaim := { program := "yteklahfgplbmcaadoor", sum := "9e9617b4892286329cc1ca2d241b76711efcff561e9282a43f340c858bfc52d0", func := "reedpipe/reedpipelaw08.BookTells", spec := "bookTells", unfollowed := true, recurses := true, named := ["reedpipe/book.shapes"], apart := false, laid := [("reedpipe/book.shapes", laid_reedpipe_book_shapes)] }
def BookTellsSaid : Prop := bookTellsRow.holds Tryd.pinned (OpenSpec.ofChange bookTellsSpec)

/-- ITS FALSE NEIGHBOUR: 'it returns false'. Refute it at one input. -/
def bookTellsWrong : ChangeSpec := { name := "bookTells", fn := fun _ => fun
  | [d1, d2, d3] => { results := [.lit (.bool false)], args := [d1, d2, d3] }
  | _ => none }
def BookTellsWrongFalsely : Prop := bookTellsRow.holds Tryd.pinned (OpenSpec.ofChange bookTellsWrong)

/-- 'reedpipelaw08.BookCodes': WHATEVER THE INPUT: true; the input reads as it did. -/
def bookCodesSpec : ChangeSpec := { name := "bookCodes", fn := fun _ => fun
  | [d1, d2, d3, d4] => { results := [.lit (.bool true)], args := [d1, d2, d3, d4] }
  | _ => none }
def bookCodesRow : OpenClaim := { program := "yteklahfgplbmcaadoor", sum := "9e9617b4892286329cc1ca2d241b76711efcff561e9282a43f340c858bfc52d0", func := "reedpipe/reedpipelaw08.BookCodes", spec := "bookCodes", unfollowed := true, recurses := true, named := ["reedpipe/book.shapes"], apart := false, laid := [("reedpipe/book.shapes", laid_reedpipe_book_shapes)] }
def BookCodesSaid : Prop := bookCodesRow.holds Tryd.pinned (OpenSpec.ofChange bookCodesSpec)

/-- ITS FALSE NEIGHBOUR: 'it returns false'. Refute it at one input. -/
def bookCodesWrong : ChangeSpec := { name := "bookCodes", fn := fun _ => fun
  | [d1, d2, d3, d4] => { results := [.lit (.bool false)], args := [d1, d2, d3, d4] }
  | _ => none }
def BookCodesWrongFalsely : Prop := bookCodesRow.holds Tryd.pinned (OpenSpec.ofChange bookCodesWrong)

/-- 'reedpipelaw08.BookEntries': WHATEVER THE INPUT: true; the input reads as it did. -/
def bookEntriesSpec : ChangeSpec := { name := "bookEntries", fn := fun _ => fun
  | [d1, d2, d3] => { results := [.lit (.bool true)], args := [d1, d2, d3] }
  | _ => none }
def bookEntriesRow : OpenClaim := { program := "yteklahfgplbmcaadoor", sum := "9e9617b4892286329cc1ca2d241b76711efcff561e9282a43f340c858bfc52d0", func := "reedpipe/reedpipelaw08.BookEntries", spec := "bookEntries", unfollowed := true, recurses := true, named := ["reedpipe/book.shapes"], apart := false, laid := [("reedpipe/book.shapes", laid_reedpipe_book_shapes)] }
def BookEntriesSaid : Prop := bookEntriesRow.holds Tryd.pinned (OpenSpec.ofChange bookEntriesSpec)

/-- ITS FALSE NEIGHBOUR: 'it returns false'. Refute it at one input. -/
def bookEntriesWrong : ChangeSpec := { name := "bookEntries", fn := fun _ => fun
  | [d1, d2, d3] => { results := [.lit (.bool false)], args := [d1, d2, d3] }
  | _ => none }
def BookEntriesWrongFalsely : Prop := bookEntriesRow.holds Tryd.pinned (OpenSpec.ofChange bookEntriesWrong)

/-- 'reedpipelaw08.BookPrefix': WHATEVER THE INPUT: true; the input reads as it did. -/
def bookPrefixSpec : ChangeSpec := { name := "bookPrefix", fn := fun _ => fun
  | [d1, d2, d3, d4, d5] => { results := [.lit (.bool true)], args := [d1, d2, d3, d4, d5] }
  | _ => none }
def bookPrefixRow : OpenClaim := { program := "yteklahfgplbmcaadoor", sum := "9e9617b4892286329cc1ca2d241b76711efcff561e9282a43f340c858bfc52d0", func := "reedpipe/reedpipelaw08.BookPrefix", spec := "bookPrefix", unfollowed := true, recurses := true, named := ["reedpipe/book.shapes"], apart := false, laid := [("reedpipe/book.shapes", laid_reedpipe_book_shapes)] }
def BookPrefixSaid : Prop := bookPrefixRow.holds Tryd.pinned (OpenSpec.ofChange bookPrefixSpec)

/-- ITS FALSE NEIGHBOUR: 'it returns false'. Refute it at one input. -/
def bookPrefixWrong : ChangeSpec := { name := "bookPrefix", fn := fun _ => fun
  | [d1, d2, d3, d4, d5] => { results := [.lit (.bool false)], args := [d1, d2, d3, d4, d5] }
  | _ => none }
def BookPrefixWrongFalsely : Prop := bookPrefixRow.holds Tryd.pinned (OpenSpec.ofChange bookPrefixWrong)

/-- 'reedpipelaw08.BookShort': WHATEVER THE INPUT: true; the input reads as it did. -/
def bookShortSpec : ChangeSpec := { name := "bookShort", fn := fun _ => fun
  | [d1, d2, d3] => { results := [.lit (.bool true)], args := [d1, d2, d3] }
  | _ => none }
def bookShortRow : OpenClaim := { program := "yteklahfgplbmcaadoor", sum := "9e9617b4892286329cc1ca2d241b76711efcff561e9282a43f340c858bfc52d0", func := "reedpipe/reedpipelaw08.BookShort", spec := "bookShort", unfollowed := true, recurses := true, named := ["reedpipe/book.shapes"], apart := false, laid := [("reedpipe/book.shapes", laid_reedpipe_book_shapes)] }
def BookShortSaid : Prop := bookShortRow.holds Tryd.pinned (OpenSpec.ofChange bookShortSpec)

/-- ITS FALSE NEIGHBOUR: 'it returns false'. Refute it at one input. -/
def bookShortWrong : ChangeSpec := { name := "bookShort", fn := fun _ => fun
  | [d1, d2, d3] => { results := [.lit (.bool false)], args := [d1, d2, d3] }
  | _ => none }
def BookShortWrongFalsely : Prop := bookShortRow.holds Tryd.pinned (OpenSpec.ofChange bookShortWrong)

/-- 'reedpipelaw08.BookRanks': WHATEVER THE INPUT: true; the input reads as it did. -/
def bookRanksSpec : ChangeSpec := { name := "bookRanks", fn := fun _ => fun
  | [d1, d2] => { results := [.lit (.bool true)], args := [d1, d2] }
  | _ => none }
def bookRanksRow : OpenClaim := { program := "yteklahfgplbmcaadoor", sum := "9e9617b4892286329cc1ca2d241b76711efcff561e9282a43f340c858bfc52d0", func := "reedpipe/reedpipelaw08.BookRanks", spec := "bookRanks", unfollowed := true, recurses := true, named := ["reedpipe/book.shapes"], apart := false, laid := [("reedpipe/book.shapes", laid_reedpipe_book_shapes)] }
def BookRanksSaid : Prop := bookRanksRow.holds Tryd.pinned (OpenSpec.ofChange bookRanksSpec)

/-- ITS FALSE NEIGHBOUR: 'it returns false'. Refute it at one input. -/
def bookRanksWrong : ChangeSpec := { name := "bookRanks", fn := fun _ => fun
  | [d1, d2] => { results := [.lit (.bool false)], args := [d1, d2] }
  | _ => none }
def BookRanksWrongFalsely : Prop := bookRanksRow.holds Tryd.pinned (OpenSpec.ofChange bookRanksWrong)

/-- 'reedpipelaw09.HuffTells': WHATEVER THE INPUT: true; the input reads as it did. -/
def huffTellsSpec : ChangeSpec := { name := "huffTells", fn := fun _ => fun
  | [d1, d2, d3, d4] => { results := [.lit (.bool true)], args := [d1, d2, d3, d4] }
  | _ => none }
def huffTellsRow : OpenClaim := { program := "yteklahfgplbmcaadoor", sum := "9e9617b4892286329cc1ca2d241b76711efcff561e9282a43f340c858bfc52d0", func := "reedpipe/reedpipelaw09.HuffTells", spec := "huffTells", unfollowed := true, recurses := true, named := ["reedpipe/huff.limits", "reedpipe/book.shapes"], apart := false, laid := [("reedpipe/book.shapes", laid_reedpipe_book_shapes), ("reedpipe/huff.limits", laid_reedpipe_huff_limits)] }
def HuffTellsSaid : Prop := huffTellsRow.holds Tryd.pinned (OpenSpec.ofChange huffTellsSpec)

/-- ITS FALSE NEIGHBOUR: 'it returns false'. Refute it at one input. -/
def huffTellsWrong : ChangeSpec := { name := "huffTells", fn := fun _ => fun
  | [d1, d2, d3, d4] => { results := [.lit (.bool false)], args := [d1, d2, d3, d4] }
  | _ => none }
def HuffTellsWrongFalsely : Prop := huffTellsRow.holds Tryd.pinned (OpenSpec.ofChange huffTellsWrong)

/-- 'reedpipelaw09.HuffSteps': WHATEVER THE INPUT: true; the input reads as it did. -/
def huffStepsSpec : ChangeSpec := { name := "huffSteps", fn := fun _ => fun
  | [d1, d2, d3] => { results := [.lit (.bool true)], args := [d1, d2, d3] }
  | _ => none }
def huffStepsRow : OpenClaim := { program := "yteklahfgplbmcaadoor", sum := "9e9617b4892286329cc1ca2d241b76711efcff561e9282a43f340c858bfc52d0", func := "reedpipe/reedpipelaw09.HuffSteps", spec := "huffSteps", unfollowed := true, recurses := true, named := ["reedpipe/book.shapes"], apart := false, laid := [("reedpipe/book.shapes", laid_reedpipe_book_shapes)] }
def HuffStepsSaid : Prop := huffStepsRow.holds Tryd.pinned (OpenSpec.ofChange huffStepsSpec)

/-- ITS FALSE NEIGHBOUR: 'it returns false'. Refute it at one input. -/
def huffStepsWrong : ChangeSpec := { name := "huffSteps", fn := fun _ => fun
  | [d1, d2, d3] => { results := [.lit (.bool false)], args := [d1, d2, d3] }
  | _ => none }
def HuffStepsWrongFalsely : Prop := huffStepsRow.holds Tryd.pinned (OpenSpec.ofChange huffStepsWrong)

/-- 'reedpipelaw09.HuffBack': WHATEVER THE INPUT: true; the input reads as it did. -/
def huffBackSpec : ChangeSpec := { name := "huffBack", fn := fun _ => fun
  | [d1, d2, d3, d4, d5] => { results := [.lit (.bool true)], args := [d1, d2, d3, d4, d5] }
  | _ => none }
def huffBackRow : OpenClaim := { program := "yteklahfgplbmcaadoor", sum := "9e9617b4892286329cc1ca2d241b76711efcff561e9282a43f340c858bfc52d0", func := "reedpipe/reedpipelaw09.HuffBack", spec := "huffBack", unfollowed := true, recurses := true, named := ["reedpipe/book.shapes", "reedpipe/huff.limits"], apart := false, laid := [("reedpipe/book.shapes", laid_reedpipe_book_shapes), ("reedpipe/huff.limits", laid_reedpipe_huff_limits)] }
def HuffBackSaid : Prop := huffBackRow.holds Tryd.pinned (OpenSpec.ofChange huffBackSpec)

/-- ITS FALSE NEIGHBOUR: 'it returns false'. Refute it at one input. -/
def huffBackWrong : ChangeSpec := { name := "huffBack", fn := fun _ => fun
  | [d1, d2, d3, d4, d5] => { results := [.lit (.bool false)], args := [d1, d2, d3, d4, d5] }
  | _ => none }
def HuffBackWrongFalsely : Prop := huffBackRow.holds Tryd.pinned (OpenSpec.ofChange huffBackWrong)

/-- 'reedpipelaw09.HuffStepBack': WHATEVER THE INPUT: true; the input reads as it did. -/
def huffStepBackSpec : ChangeSpec := { name := "huffStepBack", fn := fun _ => fun
  | [d1, d2, d3, d4] => { results := [.lit (.bool true)], args := [d1, d2, d3, d4] }
  | _ => none }
def huffStepBackRow : OpenClaim := { program := "yteklahfgplbmcaadoor", sum := "9e9617b4892286329cc1ca2d241b76711efcff561e9282a43f340c858bfc52d0", func := "reedpipe/reedpipelaw09.HuffStepBack", spec := "huffStepBack", unfollowed := true, recurses := true, named := ["reedpipe/book.shapes", "reedpipe/huff.limits"], apart := false, laid := [("reedpipe/book.shapes", laid_reedpipe_book_shapes), ("reedpipe/huff.limits", laid_reedpipe_huff_limits)] }
def HuffStepBackSaid : Prop := huffStepBackRow.holds Tryd.pinned (OpenSpec.ofChange huffStepBackSpec)

/-- ITS FALSE NEIGHBOUR: 'it returns false'. Refute it at one input. -/
def huffStepBackWrong : ChangeSpec := { name := "huffStepBack", fn := fun _ => fun
  | [d1, d2, d3, d4] => { results := [.lit (.bool false)], args := [d1, d2, d3, d4] }
  | _ => none }
def HuffStepBackWrongFalsely : Prop := huffStepBackRow.holds Tryd.pinned (OpenSpec.ofChange huffStepBackWrong)

/-- 'reedpipelaw09.HuffSigns': WHATEVER THE INPUT: true; the input reads as it did. -/
def huffSignsSpec : ChangeSpec := { name := "huffSigns", fn := fun _ => fun
  | [d1, d2] => { results := [.lit (.bool true)], args := [d1, d2] }
  | _ => none }
def huffSignsRow : OpenClaim := { program := "yteklahfgplbmcaadoor", sum := "9e9617b4892286329cc1ca2d241b76711efcff561e9282a43f340c858bfc52d0", func := "reedpipe/reedpipelaw09.HuffSigns", spec := "huffSigns", unfollowed := true, recurses := true, named := ["reedpipe/book.shapes", "reedpipe/huff.limits"], apart := false, laid := [("reedpipe/book.shapes", laid_reedpipe_book_shapes), ("reedpipe/huff.limits", laid_reedpipe_huff_limits)] }
def HuffSignsSaid : Prop := huffSignsRow.holds Tryd.pinned (OpenSpec.ofChange huffSignsSpec)

/-- ITS FALSE NEIGHBOUR: 'it returns false'. Refute it at one input. -/
def huffSignsWrong : ChangeSpec := { name := "huffSigns", fn := fun _ => fun
  | [d1, d2] => { results := [.lit (.bool false)], args := [d1, d2] }
  | _ => none }
def HuffSignsWrongFalsely : Prop := huffSignsRow.holds Tryd.pinned (OpenSpec.ofChange huffSignsWrong)

/- THE SECOND FORM. 'bulk': how many values and letters a reading holds, each counted each time it is reached (what is shared counts as often as it is met; a slice's spare places count too). A statement '..UptoSaid' is the law's where the arguments, and the package variables that the reading takes, are together of bulk at most 1048576: NARROWER than '..Said'. Prove '..Said' where nothing that the law and all that it calls make is longer than what came in: it says more and counts as full. Else prove '..UptoSaid'. A law counts once. -/
mutual
def uptoBulk {H : Type} : DataW H → Nat
  | .lit (.string bytes) => bytes.length + 1
  | .lit _ => 1
  | .nil => 1
  | .ptr d => uptoBulk d + 1
  | .slice elems spare => uptoBulkAll elems + uptoBulkAll spare + 1
  | .agg parts => uptoBulkAll parts + 1
  | .iface _ d => uptoBulk d + 1
  | .map entries => uptoBulkEntries entries + 1
  | .held _ => 1
def uptoBulkAll {H : Type} : List (DataW H) → Nat
  | [] => 0
  | d :: r => uptoBulk d + uptoBulkAll r
def uptoBulkEntries {H : Type} : List (Lit × DataW H) → Nat
  | [] => 0
  | x :: r => uptoBulkEntry x + uptoBulkEntries r
def uptoBulkEntry {H : Type} : Lit × DataW H → Nat
  | (.string bytes, d) => bytes.length + uptoBulk d + 1
  | (_, d) => uptoBulk d + 1
 end
def uptoSmall : (H : Type) → List (DataW H) → Bool := fun _ ds => decide (uptoBulkAll ds ≤ 1048576)
def OpenSpec.upto (s : _root_.Go.ChangeSpec) : _root_.Go.OpenSpec := { _root_.Go.OpenSpec.ofChange s with cond := some uptoSmall }

/-- 'reedpipelaw08.BookNames', WHERE WHAT IT READS IS OF BULK AT MOST 1048576: true; the input reads as it did. -/
def bookNamesUptoRow : OpenClaim := { program := "yteklahfgplbmcaadoor", sum := "9e9617b4892286329cc1ca2d241b76711efcff561e9282a43f340c858bfc52d0", func := "reedpipe/reedpipelaw08.BookNames", spec := "bookNames", unfollowed := true, recurses := true, named := ["reedpipe/book.shapes"], apart := false, laid := [("reedpipe/book.shapes", laid_reedpipe_book_shapes)], narrowed := true }
def BookNamesUptoSaid : Prop := bookNamesUptoRow.holds Tryd.pinned (OpenSpec.upto bookNamesSpec)

/-- 'reedpipelaw08.BookTells', WHERE WHAT IT READS IS OF BULK AT MOST 1048576: true; the input reads as it did. -/
def bookTellsUptoRow : OpenClaim := { program := "yteklahfgplbmcaadoor", sum := "9e9617b4892286329cc1ca2d241b76711efcff561e9282a43f340c858bfc52d0", func := "reedpipe/reedpipelaw08.BookTells", spec := "bookTells", unfollowed := true, recurses := true, named := ["reedpipe/book.shapes"], apart := false, laid := [("reedpipe/book.shapes", laid_reedpipe_book_shapes)], narrowed := true }
def BookTellsUptoSaid : Prop := bookTellsUptoRow.holds Tryd.pinned (OpenSpec.upto bookTellsSpec)

/-- 'reedpipelaw08.BookCodes', WHERE WHAT IT READS IS OF BULK AT MOST 1048576: true; the input reads as it did. -/
def bookCodesUptoRow : OpenClaim := { program := "yteklahfgplbmcaadoor", sum := "9e9617b4892286329cc1ca2d241b76711efcff561e9282a43f340c858bfc52d0", func := "reedpipe/reedpipelaw08.BookCodes", spec := "bookCodes", unfollowed := true, recurses := true, named := ["reedpipe/book.shapes"], apart := false, laid := [("reedpipe/book.shapes", laid_reedpipe_book_shapes)], narrowed := true }
def BookCodesUptoSaid : Prop := bookCodesUptoRow.holds Tryd.pinned (OpenSpec.upto bookCodesSpec)

/-- 'reedpipelaw08.BookEntries', WHERE WHAT IT READS IS OF BULK AT MOST 1048576: true; the input reads as it did. -/
def bookEntriesUptoRow : OpenClaim := { program := "yteklahfgplbmcaadoor", sum := "9e9617b4892286329cc1ca2d241b76711efcff561e9282a43f340c858bfc52d0", func := "reedpipe/reedpipelaw08.BookEntries", spec := "bookEntries", unfollowed := true, recurses := true, named := ["reedpipe/book.shapes"], apart := false, laid := [("reedpipe/book.shapes", laid_reedpipe_book_shapes)], narrowed := true }
def BookEntriesUptoSaid : Prop := bookEntriesUptoRow.holds Tryd.pinned (OpenSpec.upto bookEntriesSpec)

/-- 'reedpipelaw08.BookPrefix', WHERE WHAT IT READS IS OF BULK AT MOST 1048576: true; the input reads as it did. -/
def bookPrefixUptoRow : OpenClaim := { program := "yteklahfgplbmcaadoor", sum := "9e9617b4892286329cc1ca2d241b76711efcff561e9282a43f340c858bfc52d0", func := "reedpipe/reedpipelaw08.BookPrefix", spec := "bookPrefix", unfollowed := true, recurses := true, named := ["reedpipe/book.shapes"], apart := false, laid := [("reedpipe/book.shapes", laid_reedpipe_book_shapes)], narrowed := true }
def BookPrefixUptoSaid : Prop := bookPrefixUptoRow.holds Tryd.pinned (OpenSpec.upto bookPrefixSpec)

/-- 'reedpipelaw08.BookShort', WHERE WHAT IT READS IS OF BULK AT MOST 1048576: true; the input reads as it did. -/
def bookShortUptoRow : OpenClaim := { program := "yteklahfgplbmcaadoor", sum := "9e9617b4892286329cc1ca2d241b76711efcff561e9282a43f340c858bfc52d0", func := "reedpipe/reedpipelaw08.BookShort", spec := "bookShort", unfollowed := true, recurses := true, named := ["reedpipe/book.shapes"], apart := false, laid := [("reedpipe/book.shapes", laid_reedpipe_book_shapes)], narrowed := true }
def BookShortUptoSaid : Prop := bookShortUptoRow.holds Tryd.pinned (OpenSpec.upto bookShortSpec)

/-- 'reedpipelaw08.BookRanks', WHERE WHAT IT READS IS OF BULK AT MOST 1048576: true; the input reads as it did. -/
def bookRanksUptoRow : OpenClaim := { program := "yteklahfgplbmcaadoor", sum := "9e9617b4892286329cc1ca2d241b76711efcff561e9282a43f340c858bfc52d0", func := "reedpipe/reedpipelaw08.BookRanks", spec := "bookRanks", unfollowed := true, recurses := true, named := ["reedpipe/book.shapes"], apart := false, laid := [("reedpipe/book.shapes", laid_reedpipe_book_shapes)], narrowed := true }
def BookRanksUptoSaid : Prop := bookRanksUptoRow.holds Tryd.pinned (OpenSpec.upto bookRanksSpec)

/-- 'reedpipelaw09.HuffTells', WHERE WHAT IT READS IS OF BULK AT MOST 1048576: true; the input reads as it did. -/
def huffTellsUptoRow : OpenClaim := { program := "yteklahfgplbmcaadoor", sum := "9e9617b4892286329cc1ca2d241b76711efcff561e9282a43f340c858bfc52d0", func := "reedpipe/reedpipelaw09.HuffTells", spec := "huffTells", unfollowed := true, recurses := true, named := ["reedpipe/huff.limits", "reedpipe/book.shapes"], apart := false, laid := [("reedpipe/book.shapes", laid_reedpipe_book_shapes), ("reedpipe/huff.limits", laid_reedpipe_huff_limits)], narrowed := true }
def HuffTellsUptoSaid : Prop := huffTellsUptoRow.holds Tryd.pinned (OpenSpec.upto huffTellsSpec)

/-- 'reedpipelaw09.HuffSteps', WHERE WHAT IT READS IS OF BULK AT MOST 1048576: true; the input reads as it did. -/
def huffStepsUptoRow : OpenClaim := { program := "yteklahfgplbmcaadoor", sum := "9e9617b4892286329cc1ca2d241b76711efcff561e9282a43f340c858bfc52d0", func := "reedpipe/reedpipelaw09.HuffSteps", spec := "huffSteps", unfollowed := true, recurses := true, named := ["reedpipe/book.shapes"], apart := false, laid := [("reedpipe/book.shapes", laid_reedpipe_book_shapes)], narrowed := true }
def HuffStepsUptoSaid : Prop := huffStepsUptoRow.holds Tryd.pinned (OpenSpec.upto huffStepsSpec)

/-- 'reedpipelaw09.HuffBack', WHERE WHAT IT READS IS OF BULK AT MOST 1048576: true; the input reads as it did. -/
def huffBackUptoRow : OpenClaim := { program := "yteklahfgplbmcaadoor", sum := "9e9617b4892286329cc1ca2d241b76711efcff561e9282a43f340c858bfc52d0", func := "reedpipe/reedpipelaw09.HuffBack", spec := "huffBack", unfollowed := true, recurses := true, named := ["reedpipe/book.shapes", "reedpipe/huff.limits"], apart := false, laid := [("reedpipe/book.shapes", laid_reedpipe_book_shapes), ("reedpipe/huff.limits", laid_reedpipe_huff_limits)], narrowed := true }
def HuffBackUptoSaid : Prop := huffBackUptoRow.holds Tryd.pinned (OpenSpec.upto huffBackSpec)

/-- 'reedpipelaw09.HuffStepBack', WHERE WHAT IT READS IS OF BULK AT MOST 1048576: true; the input reads as it did. -/
def huffStepBackUptoRow : OpenClaim := { program := "yteklahfgplbmcaadoor", sum := "9e9617b4892286329cc1ca2d241b76711efcff561e9282a43f340c858bfc52d0", func := "reedpipe/reedpipelaw09.HuffStepBack", spec := "huffStepBack", unfollowed := true, recurses := true, named := ["reedpipe/book.shapes", "reedpipe/huff.limits"], apart := false, laid := [("reedpipe/book.shapes", laid_reedpipe_book_shapes), ("reedpipe/huff.limits", laid_reedpipe_huff_limits)], narrowed := true }
def HuffStepBackUptoSaid : Prop := huffStepBackUptoRow.holds Tryd.pinned (OpenSpec.upto huffStepBackSpec)

/-- 'reedpipelaw09.HuffSigns', WHERE WHAT IT READS IS OF BULK AT MOST 1048576: true; the input reads as it did. -/
def huffSignsUptoRow : OpenClaim := { program := "yteklahfgplbmcaadoor", sum := "9e9617b4892286329cc1ca2d241b76711efcff561e9282a43f340c858bfc52d0", func := "reedpipe/reedpipelaw09.HuffSigns", spec := "huffSigns", unfollowed := true, recurses := true, named := ["reedpipe/book.shapes", "reedpipe/huff.limits"], apart := false, laid := [("reedpipe/book.shapes", laid_reedpipe_book_shapes), ("reedpipe/huff.limits", laid_reedpipe_huff_limits)], narrowed := true }
def HuffSignsUptoSaid : Prop := huffSignsUptoRow.holds Tryd.pinned (OpenSpec.upto huffSignsSpec)

end Rows
end Go.Proofs.YteklahfgplbmcaaDoor
