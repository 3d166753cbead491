/-
  NARROWER THAN 'FOR EVERY INPUT', by the rows' own cells (each row's printed sentence says how): PowerNames: laid · BookNames: laid · HuffNames: laid · InfoNames: laid · NoiseNames: laid · QuantNames: laid.
  DERIVED. THE GIVEN ROWS OF THIS SEAT. 6 by the template 'for every input the law returns true; each argument reads behind the call as it read before'; 0 by the template 'total and deterministic' (their statements: YtpcmjfpepndlbaaDoorTotals.lean).
  GIVEN WITH THE SEED: the statements are not yours to turn. If you find one false, say at which input.
  Laid BY PROGRAM, IN A SANDBOX (cutbox-rows.mjs): the forced cells as the released guide's own fill.sh prints them over the translation 33fd2dcb40211d74… (all of the seat's roots in one cut). By AI agents, Wed Nov 11 2026. No macro, syntax, notation, axiom, sorry.
-/
import Derived.Test.YtpcmjfpepndlbaaDoorChecked
import GoSem.Claim
import GoSem.ClaimJoined
import GoSem.ClaimMapViews
import Derived.JoinedTies
import Derived.KernelRfl
namespace Go.Proofs.YtpcmjfpepndlbaaDoor
/- THE CELL 'sum', in the pinned program and in every row, IS THE sha256 OF THE DUMP (.gsa) THAT YtpcmjfpepndlbaaDoorProg.lean LOADS. Nothing in Lean hashes anything: it is a label: what it is worth is what the hold of that sum in a sandbox is worth. -/
noncomputable def Tryd.pinned : Pinned := { name := "ytpcmjfpepndlbaadoor", sum := "33fd2dcb40211d74a821b5ca5f837b631baac57fa9f02a84d64a37acbac7c82e", checked := Tryd.checked }
namespace Rows
def none {H : Type} : Left H := { results := [], args := [] }

/- WHAT THE LISTED PACKAGE-LEVEL VARIABLES READ AS WHEN THE CALL BEGINS. Each datum BY PROGRAM (the guide's laid-datum.mjs) off the statement by which the dump's own 'gosem.cut.vars' lays the variable. In a bare row this is a premise. The card (YtpcmjfpepndlbaaDoorCards.lean) ties it to the program's text. -/
def laid_reedpipe_power_quarters {H : Type} : DataW H := .agg [.lit (.int .i64 1073741824), .lit (.int .i64 1276901417), .lit (.int .i64 1518500250), .lit (.int .i64 1805811301)]
def laid_reedpipe_book_shapes {H : Type} : DataW H := .agg [.agg [.lit (.int .i64 4), .lit (.int .i64 (-1)), .lit (.int .i64 1), .lit (.int .i64 0)], .agg [.lit (.int .i64 4), .lit (.int .i64 (-1)), .lit (.int .i64 1), .lit (.int .i64 1)], .agg [.lit (.int .i64 4), .lit (.int .i64 0), .lit (.int .i64 2), .lit (.int .i64 0)], .agg [.lit (.int .i64 4), .lit (.int .i64 0), .lit (.int .i64 2), .lit (.int .i64 1)], .agg [.lit (.int .i64 2), .lit (.int .i64 (-4)), .lit (.int .i64 4), .lit (.int .i64 0)], .agg [.lit (.int .i64 2), .lit (.int .i64 (-4)), .lit (.int .i64 4), .lit (.int .i64 1)], .agg [.lit (.int .i64 2), .lit (.int .i64 0), .lit (.int .i64 7), .lit (.int .i64 1)], .agg [.lit (.int .i64 2), .lit (.int .i64 0), .lit (.int .i64 7), .lit (.int .i64 2)], .agg [.lit (.int .i64 2), .lit (.int .i64 0), .lit (.int .i64 12), .lit (.int .i64 1)], .agg [.lit (.int .i64 2), .lit (.int .i64 0), .lit (.int .i64 12), .lit (.int .i64 2)], .agg [.lit (.int .i64 2), .lit (.int .i64 0), .lit (.int .i64 16), .lit (.int .i64 2)], .agg [.lit (.int .i64 1), .lit (.int .i64 (-60)), .lit (.int .i64 60), .lit (.int .i64 0)]]
def laid_reedpipe_huff_limits {H : Type} : DataW H := .agg [.lit (.int .i64 1), .lit (.int .i64 1), .lit (.int .i64 2), .lit (.int .i64 2), .lit (.int .i64 4), .lit (.int .i64 4), .lit (.int .i64 7), .lit (.int .i64 7), .lit (.int .i64 12), .lit (.int .i64 12), .lit (.int .i64 8191)]
def laid_reedpipe_info_follows {H : Type} : DataW H := .agg [.agg [.lit (.bool true), .lit (.bool true), .lit (.bool false), .lit (.bool false)], .agg [.lit (.bool false), .lit (.bool false), .lit (.bool true), .lit (.bool true)], .agg [.lit (.bool false), .lit (.bool false), .lit (.bool true), .lit (.bool true)], .agg [.lit (.bool true), .lit (.bool true), .lit (.bool false), .lit (.bool false)]]

/-- 'reedpipelaw07.PowerNames': WHATEVER THE INPUT: true; the input reads as it did. -/
def powerNamesSpec : ChangeSpec := { name := "powerNames", fn := fun _ => fun
  | [] => { results := [.lit (.bool true)], args := [] }
  | _ => none }
def powerNamesRow : OpenClaim := { program := "ytpcmjfpepndlbaadoor", sum := "33fd2dcb40211d74a821b5ca5f837b631baac57fa9f02a84d64a37acbac7c82e", func := "reedpipe/reedpipelaw07.PowerNames", spec := "powerNames", unfollowed := true, recurses := true, named := ["reedpipe/power.quarters"], apart := false, laid := [("reedpipe/power.quarters", laid_reedpipe_power_quarters)] }
def PowerNamesSaid : Prop := powerNamesRow.holds Tryd.pinned (OpenSpec.ofChange powerNamesSpec)

/-- ITS FALSE NEIGHBOUR: 'it returns false'. Refute it at one input. -/
def powerNamesWrong : ChangeSpec := { name := "powerNames", fn := fun _ => fun
  | [] => { results := [.lit (.bool false)], args := [] }
  | _ => none }
def PowerNamesWrongFalsely : Prop := powerNamesRow.holds Tryd.pinned (OpenSpec.ofChange powerNamesWrong)

/-- 'reedpipelaw08.BookNames': WHATEVER THE INPUT: true; the input reads as it did. -/
def bookNamesSpec : ChangeSpec := { name := "bookNames", fn := fun _ => fun
  | [] => { results := [.lit (.bool true)], args := [] }
  | _ => none }
def bookNamesRow : OpenClaim := { program := "ytpcmjfpepndlbaadoor", sum := "33fd2dcb40211d74a821b5ca5f837b631baac57fa9f02a84d64a37acbac7c82e", func := "reedpipe/reedpipelaw08.BookNames", spec := "bookNames", unfollowed := true, recurses := true, named := ["reedpipe/book.shapes"], apart := false, laid := [("reedpipe/book.shapes", laid_reedpipe_book_shapes)] }
def BookNamesSaid : Prop := bookNamesRow.holds Tryd.pinned (OpenSpec.ofChange bookNamesSpec)

/-- ITS FALSE NEIGHBOUR: 'it returns false'. Refute it at one input. -/
def bookNamesWrong : ChangeSpec := { name := "bookNames", fn := fun _ => fun
  | [] => { results := [.lit (.bool false)], args := [] }
  | _ => none }
def BookNamesWrongFalsely : Prop := bookNamesRow.holds Tryd.pinned (OpenSpec.ofChange bookNamesWrong)

/-- 'reedpipelaw09.HuffNames': WHATEVER THE INPUT: true; the input reads as it did. -/
def huffNamesSpec : ChangeSpec := { name := "huffNames", fn := fun _ => fun
  | [] => { results := [.lit (.bool true)], args := [] }
  | _ => none }
def huffNamesRow : OpenClaim := { program := "ytpcmjfpepndlbaadoor", sum := "33fd2dcb40211d74a821b5ca5f837b631baac57fa9f02a84d64a37acbac7c82e", func := "reedpipe/reedpipelaw09.HuffNames", spec := "huffNames", unfollowed := true, recurses := true, named := ["reedpipe/huff.limits", "reedpipe/book.shapes"], apart := false, laid := [("reedpipe/book.shapes", laid_reedpipe_book_shapes), ("reedpipe/huff.limits", laid_reedpipe_huff_limits)] }
def HuffNamesSaid : Prop := huffNamesRow.holds Tryd.pinned (OpenSpec.ofChange huffNamesSpec)

/-- ITS FALSE NEIGHBOUR: 'it returns false'. Refute it at one input. -/
def huffNamesWrong : ChangeSpec := { name := "huffNames", fn := fun _ => fun
  | [] => { results := [.lit (.bool false)], args := [] }
  | _ => none }
def HuffNamesWrongFalsely : Prop := huffNamesRow.holds Tryd.pinned (OpenSpec.ofChange huffNamesWrong)

/-- 'reedpipelaw10.InfoNames': WHATEVER THE INPUT: true; the input reads as it did. -/
def infoNamesSpec : ChangeSpec := { name := "infoNames", fn := fun _ => fun
  | [] => { results := [.lit (.bool true)], args := [] }
  | _ => none }
def infoNamesRow : OpenClaim := { program := "ytpcmjfpepndlbaadoor", sum := "33fd2dcb40211d74a821b5ca5f837b631baac57fa9f02a84d64a37acbac7c82e", func := "reedpipe/reedpipelaw10.InfoNames", spec := "infoNames", unfollowed := true, recurses := true, named := ["reedpipe/info.follows"], apart := false, laid := [("reedpipe/info.follows", laid_reedpipe_info_follows)] }
def InfoNamesSaid : Prop := infoNamesRow.holds Tryd.pinned (OpenSpec.ofChange infoNamesSpec)

/-- ITS FALSE NEIGHBOUR: 'it returns false'. Refute it at one input. -/
def infoNamesWrong : ChangeSpec := { name := "infoNames", fn := fun _ => fun
  | [] => { results := [.lit (.bool false)], args := [] }
  | _ => none }
def InfoNamesWrongFalsely : Prop := infoNamesRow.holds Tryd.pinned (OpenSpec.ofChange infoNamesWrong)

/-- 'reedpipelaw16.NoiseNames': WHATEVER THE INPUT: true; the input reads as it did. -/
def noiseNamesSpec : ChangeSpec := { name := "noiseNames", fn := fun _ => fun
  | [] => { results := [.lit (.bool true)], args := [] }
  | _ => none }
def noiseNamesRow : OpenClaim := { program := "ytpcmjfpepndlbaadoor", sum := "33fd2dcb40211d74a821b5ca5f837b631baac57fa9f02a84d64a37acbac7c82e", func := "reedpipe/reedpipelaw16.NoiseNames", spec := "noiseNames", unfollowed := true, recurses := true, named := ["reedpipe/power.quarters"], apart := false, laid := [("reedpipe/power.quarters", laid_reedpipe_power_quarters)] }
def NoiseNamesSaid : Prop := noiseNamesRow.holds Tryd.pinned (OpenSpec.ofChange noiseNamesSpec)

/-- ITS FALSE NEIGHBOUR: 'it returns false'. Refute it at one input. -/
def noiseNamesWrong : ChangeSpec := { name := "noiseNames", fn := fun _ => fun
  | [] => { results := [.lit (.bool false)], args := [] }
  | _ => none }
def NoiseNamesWrongFalsely : Prop := noiseNamesRow.holds Tryd.pinned (OpenSpec.ofChange noiseNamesWrong)

/-- 'reedpipelaw14.QuantNames': WHATEVER THE INPUT: true; the input reads as it did. -/
def quantNamesSpec : ChangeSpec := { name := "quantNames", fn := fun _ => fun
  | [] => { results := [.lit (.bool true)], args := [] }
  | _ => none }
def quantNamesRow : OpenClaim := { program := "ytpcmjfpepndlbaadoor", sum := "33fd2dcb40211d74a821b5ca5f837b631baac57fa9f02a84d64a37acbac7c82e", func := "reedpipe/reedpipelaw14.QuantNames", spec := "quantNames", unfollowed := true, recurses := true, named := ["reedpipe/power.quarters"], apart := false, laid := [("reedpipe/power.quarters", laid_reedpipe_power_quarters)] }
def QuantNamesSaid : Prop := quantNamesRow.holds Tryd.pinned (OpenSpec.ofChange quantNamesSpec)

/-- ITS FALSE NEIGHBOUR: 'it returns false'. Refute it at one input. -/
def quantNamesWrong : ChangeSpec := { name := "quantNames", fn := fun _ => fun
  | [] => { results := [.lit (.bool false)], args := [] }
  | _ => none }
def QuantNamesWrongFalsely : Prop := quantNamesRow.holds Tryd.pinned (OpenSpec.ofChange quantNamesWrong)

/- THE SECOND FORM. 'bulk': how many values and letters a reading holds, each counted each time it is reached (what is shared counts as often as it is met; a slice's spare places count too). A statement '..UptoSaid' is the law's where the arguments, and the package variables that the reading takes, are together of bulk at most 1048576: NARROWER than '..Said'. Prove '..Said' where nothing that the law and all that it calls make is longer than what came in: it says more and counts as full. Else prove '..UptoSaid'. A law counts once. -/
mutual
def uptoBulk {H : Type} : DataW H → Nat
  | .lit (.string bytes) => bytes.length + 1
  | .lit _ => 1
  | .nil => 1
  | .ptr d => uptoBulk d + 1
  | .slice elems spare => uptoBulkAll elems + uptoBulkAll spare + 1
  | .agg parts => uptoBulkAll parts + 1
  | .iface _ d => uptoBulk d + 1
  | .map entries => uptoBulkEntries entries + 1
  | .held _ => 1
def uptoBulkAll {H : Type} : List (DataW H) → Nat
  | [] => 0
  | d :: r => uptoBulk d + uptoBulkAll r
def uptoBulkEntries {H : Type} : List (Lit × DataW H) → Nat
  | [] => 0
  | x :: r => uptoBulkEntry x + uptoBulkEntries r
def uptoBulkEntry {H : Type} : Lit × DataW H → Nat
  | (.string bytes, d) => bytes.length + uptoBulk d + 1
  | (_, d) => uptoBulk d + 1
 end
def uptoSmall : (H : Type) → List (DataW H) → Bool := fun _ ds => decide (uptoBulkAll ds ≤ 1048576)
def OpenSpec.upto (s : _root_.Go.ChangeSpec) : _root_.Go.OpenSpec := { _root_.Go.OpenSpec.ofChange s with cond := some uptoSmall }

/-- 'reedpipelaw07.PowerNames', WHERE WHAT IT READS IS OF BULK AT MOST 1048576: true; the input reads as it did. -/
def powerNamesUptoRow : OpenClaim := { program := "ytpcmjfpepndlbaadoor", sum := "33fd2dcb40211d74a821b5ca5f837b631baac57fa9f02a84d64a37acbac7c82e", func := "reedpipe/reedpipelaw07.PowerNames", spec := "powerNames", unfollowed := true, recurses := true, named := ["reedpipe/power.quarters"], apart := false, laid := [("reedpipe/power.quarters", laid_reedpipe_power_quarters)], narrowed := true }
def PowerNamesUptoSaid : Prop := powerNamesUptoRow.holds Tryd.pinned (OpenSpec.upto powerNamesSpec)

/-- 'reedpipelaw08.BookNames', WHERE WHAT IT READS IS OF BULK AT MOST 1048576: true; the input reads as it did. -/
def bookNamesUptoRow : OpenClaim := { program := "ytpcmjfpepndlbaadoor", sum := "33fd2dcb40211d74a821b5ca5f837b631baac57fa9f02a84d64a37acbac7c82e", func := "reedpipe/reedpipelaw08.BookNames", spec := "bookNames", unfollowed := true, recurses := true, named := ["reedpipe/book.shapes"], apart := false, laid := [("reedpipe/book.shapes", laid_reedpipe_book_shapes)], narrowed := true }
def BookNamesUptoSaid : Prop := bookNamesUptoRow.holds Tryd.pinned (OpenSpec.upto bookNamesSpec)

/-- 'reedpipelaw09.HuffNames', WHERE WHAT IT READS IS OF BULK AT MOST 1048576: true; the input reads as it did. -/
def huffNamesUptoRow : OpenClaim := { program := "ytpcmjfpepndlbaadoor", sum := "33fd2dcb40211d74a821b5ca5f837b631baac57fa9f02a84d64a37acbac7c82e", func := "reedpipe/reedpipelaw09.HuffNames", spec := "huffNames", unfollowed := true, recurses := true, named := ["reedpipe/huff.limits", "reedpipe/book.shapes"], apart := false, laid := [("reedpipe/book.shapes", laid_reedpipe_book_shapes), ("reedpipe/huff.limits", laid_reedpipe_huff_limits)], narrowed := true }
def HuffNamesUptoSaid : Prop := huffNamesUptoRow.holds Tryd.pinned (OpenSpec.upto huffNamesSpec)

/-- 'reedpipelaw10.InfoNames', WHERE WHAT IT READS IS OF BULK AT MOST 1048576: true; the input reads as it did. -/
def infoNamesUptoRow : OpenClaim := { program := "ytpcmjfpepndlbaadoor", sum := "33fd2dcb40211d74a821b5ca5f837b631baac57fa9f02a84d64a37acbac7c82e", func := "reedpipe/reedpipelaw10.InfoNames", spec := "infoNames", unfollowed := true, recurses := true, named := ["reedpipe/info.follows"], apart := false, laid := [("reedpipe/info.follows", laid_reedpipe_info_follows)], narrowed := true }
def InfoNamesUptoSaid : Prop := infoNamesUptoRow.holds Tryd.pinned (OpenSpec.upto infoNamesSpec)

/-- 'reedpipelaw16.NoiseNames', WHERE WHAT IT READS IS OF BULK AT MOST 1048576: true; the input reads as it did. -/
def noiseNamesUptoRow : OpenClaim := { program := "ytpcmjfpepndlbaadoor", sum := "33fd2dcb40211d74a821b5ca5f837b631baac57fa9f02a84d64a37acbac7c82e", func := "reedpipe/reedpipelaw16.NoiseNames", spec := "noiseNames", unfollowed := true, recurses := true, named := ["reedpipe/power.quarters"], apart := false, laid := [("reedpipe/power.quarters", laid_reedpipe_power_quarters)], narrowed := true }
def NoiseNamesUptoSaid : Prop := noiseNamesUptoRow.holds Tryd.pinned (OpenSpec.upto noiseNamesSpec)

/-- 'reedpipelaw14.QuantNames', WHERE WHAT IT READS IS OF BULK AT MOST 1048576: true; the input reads as it did. -/
def quantNamesUptoRow : OpenClaim := { program := "ytpcmjfpepndlbaadoor", sum := "33fd2dcb40211d74a821b5ca5f837b631baac57fa9f02a84d64a37acbac7c82e", func := "reedpipe/reedpipelaw14.QuantNames", spec := "quantNames", unfollowed := true, recurses := true, named := ["reedpipe/power.quarters"], apart := false, laid := [("reedpipe/power.quarters", laid_reedpipe_power_quarters)], narrowed := true }
def QuantNamesUptoSaid : Prop := quantNamesUptoRow.holds Tryd.pinned (OpenSpec.upto quantNamesSpec)

end Rows
end Go.Proofs.YtpcmjfpepndlbaaDoor
