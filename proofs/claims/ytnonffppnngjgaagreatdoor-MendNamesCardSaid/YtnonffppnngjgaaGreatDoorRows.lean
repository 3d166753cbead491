/-
  NARROWER THAN 'FOR EVERY INPUT', by the rows' own cells (each row's printed sentence says how): RawNames: laid · MendNames: laid · AdtsNames: laid · SyncNames: laid.
  DERIVED. THE GIVEN ROWS OF THIS SEAT. 4 by the template 'for every input the law returns true; each argument reads behind the call as it read before'; 0 by the template 'total and deterministic' (their statements: YtnonffppnngjgaaGreatDoorTotals.lean).
  GIVEN WITH THE SEED: the statements are not yours to turn. If you find one false, say at which input.
  Laid BY PROGRAM, IN A SANDBOX (cutbox-rows.mjs): the forced cells as the released guide's own fill.sh prints them over the translation 65429e446711cbf6… (all of the seat's roots in one cut). By AI agents, Wed Nov 11 2026. No macro, syntax, notation, axiom, sorry.
-/
import Derived.Test.YtnonffppnngjgaaGreatDoorChecked
import GoSem.Claim
import GoSem.ClaimJoined
import GoSem.ClaimMapViews
import Derived.JoinedTies
import Derived.KernelRfl
namespace Go.Proofs.YtnonffppnngjgaaGreatDoor
/- THE CELL 'sum', in the pinned program and in every row, IS THE sha256 OF THE DUMP (.gsa) THAT YtnonffppnngjgaaGreatDoorProg.lean LOADS. Nothing in Lean hashes anything: it is a label: what it is worth is what the hold of that sum in a sandbox is worth. -/
noncomputable def Tryz.pinned : Pinned := { name := "ytnonffppnngjgaagreatdoor", sum := "65429e446711cbf628c0f392276c01f7cdcb0949b7119d455bbf87221f54c23c", checked := Tryz.checked }
namespace Rows
def none {H : Type} : Left H := { results := [], args := [] }

/- WHAT THE LISTED PACKAGE-LEVEL VARIABLES READ AS WHEN THE CALL BEGINS. Each datum BY PROGRAM (the guide's laid-datum.mjs) off the statement by which the dump's own 'gosem.cut.vars' lays the variable. In a bare row this is a premise. The card (YtnonffppnngjgaaGreatDoorCards.lean) ties it to the program's text. -/
def laid_reedpipe_book_shapes {H : Type} : DataW H := .agg [.agg [.lit (.int .i64 4), .lit (.int .i64 (-1)), .lit (.int .i64 1), .lit (.int .i64 0)], .agg [.lit (.int .i64 4), .lit (.int .i64 (-1)), .lit (.int .i64 1), .lit (.int .i64 1)], .agg [.lit (.int .i64 4), .lit (.int .i64 0), .lit (.int .i64 2), .lit (.int .i64 0)], .agg [.lit (.int .i64 4), .lit (.int .i64 0), .lit (.int .i64 2), .lit (.int .i64 1)], .agg [.lit (.int .i64 2), .lit (.int .i64 (-4)), .lit (.int .i64 4), .lit (.int .i64 0)], .agg [.lit (.int .i64 2), .lit (.int .i64 (-4)), .lit (.int .i64 4), .lit (.int .i64 1)], .agg [.lit (.int .i64 2), .lit (.int .i64 0), .lit (.int .i64 7), .lit (.int .i64 1)], .agg [.lit (.int .i64 2), .lit (.int .i64 0), .lit (.int .i64 7), .lit (.int .i64 2)], .agg [.lit (.int .i64 2), .lit (.int .i64 0), .lit (.int .i64 12), .lit (.int .i64 1)], .agg [.lit (.int .i64 2), .lit (.int .i64 0), .lit (.int .i64 12), .lit (.int .i64 2)], .agg [.lit (.int .i64 2), .lit (.int .i64 0), .lit (.int .i64 16), .lit (.int .i64 2)], .agg [.lit (.int .i64 1), .lit (.int .i64 (-60)), .lit (.int .i64 60), .lit (.int .i64 0)]]
def laid_reedpipe_huff_limits {H : Type} : DataW H := .agg [.lit (.int .i64 1), .lit (.int .i64 1), .lit (.int .i64 2), .lit (.int .i64 2), .lit (.int .i64 4), .lit (.int .i64 4), .lit (.int .i64 7), .lit (.int .i64 7), .lit (.int .i64 12), .lit (.int .i64 12), .lit (.int .i64 8191)]
def laid_reedpipe_tnsbits_sizes {H : Type} : DataW H := .agg [.agg [.lit (.int .i64 2), .lit (.int .i64 6), .lit (.int .i64 5)], .agg [.lit (.int .i64 1), .lit (.int .i64 4), .lit (.int .i64 3)]]
def laid_reedpipe_info_follows {H : Type} : DataW H := .agg [.agg [.lit (.bool true), .lit (.bool true), .lit (.bool false), .lit (.bool false)], .agg [.lit (.bool false), .lit (.bool false), .lit (.bool true), .lit (.bool true)], .agg [.lit (.bool false), .lit (.bool false), .lit (.bool true), .lit (.bool true)], .agg [.lit (.bool true), .lit (.bool true), .lit (.bool false), .lit (.bool false)]]
def laid_reedpipe_adts_sizes {H : Type} : DataW H := .agg [.lit (.int .i64 12), .lit (.int .i64 1), .lit (.int .i64 2), .lit (.int .i64 1), .lit (.int .i64 2), .lit (.int .i64 4), .lit (.int .i64 1), .lit (.int .i64 3), .lit (.int .i64 1), .lit (.int .i64 1), .lit (.int .i64 1), .lit (.int .i64 1), .lit (.int .i64 13), .lit (.int .i64 11), .lit (.int .i64 2)]

/-- 'reedpipelaw23.RawNames': WHATEVER THE INPUT: true; the input reads as it did. -/
def rawNamesSpec : ChangeSpec := { name := "rawNames", fn := fun _ => fun
  | [] => { results := [.lit (.bool true)], args := [] }
  | _ => none }
def rawNamesRow : OpenClaim := { program := "ytnonffppnngjgaagreatdoor", sum := "65429e446711cbf628c0f392276c01f7cdcb0949b7119d455bbf87221f54c23c", func := "reedpipe/reedpipelaw23.RawNames", spec := "rawNames", unfollowed := true, recurses := true, named := ["reedpipe/huff.limits", "reedpipe/book.shapes", "reedpipe/tnsbits.sizes"], apart := false, laid := [("reedpipe/book.shapes", laid_reedpipe_book_shapes), ("reedpipe/huff.limits", laid_reedpipe_huff_limits), ("reedpipe/tnsbits.sizes", laid_reedpipe_tnsbits_sizes)] }
def RawNamesSaid : Prop := rawNamesRow.holds Tryz.pinned (OpenSpec.ofChange rawNamesSpec)

/-- ITS FALSE NEIGHBOUR: 'it returns false'. Refute it at one input. -/
def rawNamesWrong : ChangeSpec := { name := "rawNames", fn := fun _ => fun
  | [] => { results := [.lit (.bool false)], args := [] }
  | _ => none }
def RawNamesWrongFalsely : Prop := rawNamesRow.holds Tryz.pinned (OpenSpec.ofChange rawNamesWrong)

/-- 'reedpipelaw24.MendNames': WHATEVER THE INPUT: true; the input reads as it did. -/
def mendNamesSpec : ChangeSpec := { name := "mendNames", fn := fun _ => fun
  | [] => { results := [.lit (.bool true)], args := [] }
  | _ => none }
def mendNamesRow : OpenClaim := { program := "ytnonffppnngjgaagreatdoor", sum := "65429e446711cbf628c0f392276c01f7cdcb0949b7119d455bbf87221f54c23c", func := "reedpipe/reedpipelaw24.MendNames", spec := "mendNames", unfollowed := true, recurses := true, named := ["reedpipe/huff.limits", "reedpipe/book.shapes", "reedpipe/tnsbits.sizes", "reedpipe/info.follows"], apart := false, laid := [("reedpipe/book.shapes", laid_reedpipe_book_shapes), ("reedpipe/huff.limits", laid_reedpipe_huff_limits), ("reedpipe/info.follows", laid_reedpipe_info_follows), ("reedpipe/tnsbits.sizes", laid_reedpipe_tnsbits_sizes)] }
def MendNamesSaid : Prop := mendNamesRow.holds Tryz.pinned (OpenSpec.ofChange mendNamesSpec)

/-- ITS FALSE NEIGHBOUR: 'it returns false'. Refute it at one input. -/
def mendNamesWrong : ChangeSpec := { name := "mendNames", fn := fun _ => fun
  | [] => { results := [.lit (.bool false)], args := [] }
  | _ => none }
def MendNamesWrongFalsely : Prop := mendNamesRow.holds Tryz.pinned (OpenSpec.ofChange mendNamesWrong)

/-- 'reedpipelaw25.AdtsNames': WHATEVER THE INPUT: true; the input reads as it did. -/
def adtsNamesSpec : ChangeSpec := { name := "adtsNames", fn := fun _ => fun
  | [] => { results := [.lit (.bool true)], args := [] }
  | _ => none }
def adtsNamesRow : OpenClaim := { program := "ytnonffppnngjgaagreatdoor", sum := "65429e446711cbf628c0f392276c01f7cdcb0949b7119d455bbf87221f54c23c", func := "reedpipe/reedpipelaw25.AdtsNames", spec := "adtsNames", unfollowed := true, recurses := true, named := ["reedpipe/huff.limits", "reedpipe/book.shapes", "reedpipe/tnsbits.sizes", "reedpipe/adts.sizes"], apart := false, laid := [("reedpipe/book.shapes", laid_reedpipe_book_shapes), ("reedpipe/huff.limits", laid_reedpipe_huff_limits), ("reedpipe/tnsbits.sizes", laid_reedpipe_tnsbits_sizes), ("reedpipe/adts.sizes", laid_reedpipe_adts_sizes)] }
def AdtsNamesSaid : Prop := adtsNamesRow.holds Tryz.pinned (OpenSpec.ofChange adtsNamesSpec)

/-- ITS FALSE NEIGHBOUR: 'it returns false'. Refute it at one input. -/
def adtsNamesWrong : ChangeSpec := { name := "adtsNames", fn := fun _ => fun
  | [] => { results := [.lit (.bool false)], args := [] }
  | _ => none }
def AdtsNamesWrongFalsely : Prop := adtsNamesRow.holds Tryz.pinned (OpenSpec.ofChange adtsNamesWrong)

/-- 'reedpipelaw26.SyncNames': WHATEVER THE INPUT: true; the input reads as it did. -/
def syncNamesSpec : ChangeSpec := { name := "syncNames", fn := fun _ => fun
  | [] => { results := [.lit (.bool true)], args := [] }
  | _ => none }
def syncNamesRow : OpenClaim := { program := "ytnonffppnngjgaagreatdoor", sum := "65429e446711cbf628c0f392276c01f7cdcb0949b7119d455bbf87221f54c23c", func := "reedpipe/reedpipelaw26.SyncNames", spec := "syncNames", inPlace := ["internal/bytealg.IndexByte"], unfollowed := true, recurses := true, named := ["reedpipe/adts.sizes", "reedpipe/book.shapes", "reedpipe/tnsbits.sizes"], apart := false, laid := [("reedpipe/book.shapes", laid_reedpipe_book_shapes), ("reedpipe/tnsbits.sizes", laid_reedpipe_tnsbits_sizes), ("reedpipe/adts.sizes", laid_reedpipe_adts_sizes)] }
def SyncNamesSaid : Prop := syncNamesRow.holds Tryz.pinned (OpenSpec.ofChange syncNamesSpec)

/-- ITS FALSE NEIGHBOUR: 'it returns false'. Refute it at one input. -/
def syncNamesWrong : ChangeSpec := { name := "syncNames", fn := fun _ => fun
  | [] => { results := [.lit (.bool false)], args := [] }
  | _ => none }
def SyncNamesWrongFalsely : Prop := syncNamesRow.holds Tryz.pinned (OpenSpec.ofChange syncNamesWrong)

/- THE SECOND FORM. 'bulk': how many values and letters a reading holds, each counted each time it is reached (what is shared counts as often as it is met; a slice's spare places count too). A statement '..UptoSaid' is the law's where the arguments, and the package variables that the reading takes, are together of bulk at most 1048576: NARROWER than '..Said'. Prove '..Said' where nothing that the law and all that it calls make is longer than what came in: it says more and counts as full. Else prove '..UptoSaid'. A law counts once. -/
mutual
def uptoBulk {H : Type} : DataW H → Nat
  | .lit (.string bytes) => bytes.length + 1
  | .lit _ => 1
  | .nil => 1
  | .ptr d => uptoBulk d + 1
  | .slice elems spare => uptoBulkAll elems + uptoBulkAll spare + 1
  | .agg parts => uptoBulkAll parts + 1
  | .iface _ d => uptoBulk d + 1
  | .map entries => uptoBulkEntries entries + 1
  | .held _ => 1
def uptoBulkAll {H : Type} : List (DataW H) → Nat
  | [] => 0
  | d :: r => uptoBulk d + uptoBulkAll r
def uptoBulkEntries {H : Type} : List (Lit × DataW H) → Nat
  | [] => 0
  | x :: r => uptoBulkEntry x + uptoBulkEntries r
def uptoBulkEntry {H : Type} : Lit × DataW H → Nat
  | (.string bytes, d) => bytes.length + uptoBulk d + 1
  | (_, d) => uptoBulk d + 1
 end
def uptoSmall : (H : Type) → List (DataW H) → Bool := fun _ ds => decide (uptoBulkAll ds ≤ 1048576)
def OpenSpec.upto (s : _root_.Go.ChangeSpec) : _root_.Go.OpenSpec := { _root_.Go.OpenSpec.ofChange s with cond := some uptoSmall }

/-- 'reedpipelaw23.RawNames', WHERE WHAT IT READS IS OF BULK AT MOST 1048576: true; the input reads as it did. -/
def rawNamesUptoRow : OpenClaim := { program := "ytnonffppnngjgaagreatdoor", sum := "65429e446711cbf628c0f392276c01f7cdcb0949b7119d455bbf87221f54c23c", func := "reedpipe/reedpipelaw23.RawNames", spec := "rawNames", unfollowed := true, recurses := true, named := ["reedpipe/huff.limits", "reedpipe/book.shapes", "reedpipe/tnsbits.sizes"], apart := false, laid := [("reedpipe/book.shapes", laid_reedpipe_book_shapes), ("reedpipe/huff.limits", laid_reedpipe_huff_limits), ("reedpipe/tnsbits.sizes", laid_reedpipe_tnsbits_sizes)], narrowed := true }
def RawNamesUptoSaid : Prop := rawNamesUptoRow.holds Tryz.pinned (OpenSpec.upto rawNamesSpec)

/-- 'reedpipelaw24.MendNames', WHERE WHAT IT READS IS OF BULK AT MOST 1048576: true; the input reads as it did. -/
def mendNamesUptoRow : OpenClaim := { program := "ytnonffppnngjgaagreatdoor", sum := "65429e446711cbf628c0f392276c01f7cdcb0949b7119d455bbf87221f54c23c", func := "reedpipe/reedpipelaw24.MendNames", spec := "mendNames", unfollowed := true, recurses := true, named := ["reedpipe/huff.limits", "reedpipe/book.shapes", "reedpipe/tnsbits.sizes", "reedpipe/info.follows"], apart := false, laid := [("reedpipe/book.shapes", laid_reedpipe_book_shapes), ("reedpipe/huff.limits", laid_reedpipe_huff_limits), ("reedpipe/info.follows", laid_reedpipe_info_follows), ("reedpipe/tnsbits.sizes", laid_reedpipe_tnsbits_sizes)], narrowed := true }
def MendNamesUptoSaid : Prop := mendNamesUptoRow.holds Tryz.pinned (OpenSpec.upto mendNamesSpec)

/-- 'reedpipelaw25.AdtsNames', WHERE WHAT IT READS IS OF BULK AT MOST 1048576: true; the input reads as it did. -/
def adtsNamesUptoRow : OpenClaim := { program := "ytnonffppnngjgaagreatdoor", sum := "65429e446711cbf628c0f392276c01f7cdcb0949b7119d455bbf87221f54c23c", func := "reedpipe/reedpipelaw25.AdtsNames", spec := "adtsNames", unfollowed := true, recurses := true, named := ["reedpipe/huff.limits", "reedpipe/book.shapes", "reedpipe/tnsbits.sizes", "reedpipe/adts.sizes"], apart := false, laid := [("reedpipe/book.shapes", laid_reedpipe_book_shapes), ("reedpipe/huff.limits", laid_reedpipe_huff_limits), ("reedpipe/tnsbits.sizes", laid_reedpipe_tnsbits_sizes), ("reedpipe/adts.sizes", laid_reedpipe_adts_sizes)], narrowed := true }
def AdtsNamesUptoSaid : Prop := adtsNamesUptoRow.holds Tryz.pinned (OpenSpec.upto adtsNamesSpec)

/-- 'reedpipelaw26.SyncNames', WHERE WHAT IT READS IS OF BULK AT MOST 1048576: true; the input reads as it did. -/
def syncNamesUptoRow : OpenClaim := { program := "ytnonffppnngjgaagreatdoor", sum := "65429e446711cbf628c0f392276c01f7cdcb0949b7119d455bbf87221f54c23c", func := "reedpipe/reedpipelaw26.SyncNames", spec := "syncNames", inPlace := ["internal/bytealg.IndexByte"], unfollowed := true, recurses := true, named := ["reedpipe/adts.sizes", "reedpipe/book.shapes", "reedpipe/tnsbits.sizes"], apart := false, laid := [("reedpipe/book.shapes", laid_reedpipe_book_shapes), ("reedpipe/tnsbits.sizes", laid_reedpipe_tnsbits_sizes), ("reedpipe/adts.sizes", laid_reedpipe_adts_sizes)], narrowed := true }
def SyncNamesUptoSaid : Prop := syncNamesUptoRow.holds Tryz.pinned (OpenSpec.upto syncNamesSpec)

end Rows
end Go.Proofs.YtnonffppnngjgaaGreatDoor
