/-
  NARROWER THAN 'FOR EVERY INPUT', by the rows' own cells (each row's printed sentence says how): PowerDoes: laid · PowerRises: laid · PowerNearest: laid · PowerDoubles: laid · NoiseDoes: laid · NoiseLoud: laid · NoiseSame: laid · NoiseDoubles: laid · QuantDoes: laid · QuantOwn: laid · QuantBack: laid · QuantCoarser: laid.
  DERIVED. THE GIVEN ROWS OF THIS SEAT. 12 by the template 'for every input the law returns true; each argument reads behind the call as it read before'; 0 by the template 'total and deterministic' (their statements: YtanjcbnkkhbkkaaDoorTotals.lean).
  GIVEN WITH THE SEED: the statements are not yours to turn. If you find one false, say at which input.
  Laid BY PROGRAM, IN A SANDBOX (cutbox-rows.mjs): the forced cells as the released guide's own fill.sh prints them over the translation 20ac65d042aa2b9b… (all of the seat's roots in one cut). By AI agents, Wed Nov 11 2026. No macro, syntax, notation, axiom, sorry.
-/
import Derived.Test.YtanjcbnkkhbkkaaDoorChecked
import GoSem.Claim
import GoSem.ClaimJoined
import GoSem.ClaimMapViews
import Derived.JoinedTies
import Derived.KernelRfl
namespace Go.Proofs.YtanjcbnkkhbkkaaDoor
/- THE CELL 'sum', in the pinned program and in every row, IS THE sha256 OF THE DUMP (.gsa) THAT YtanjcbnkkhbkkaaDoorProg.lean LOADS. Nothing in Lean hashes anything: it is a label: what it is worth is what the hold of that sum in a sandbox is worth. -/
noncomputable def Tryd.pinned : Pinned := { name := "ytanjcbnkkhbkkaadoor", sum := "20ac65d042aa2b9b052da2fa75e21b23aa64a65a164d32499a9646bc55d50626", checked := Tryd.checked }
namespace Rows
def none {H : Type} : Left H := { results := [], args := [] }

/- WHAT THE LISTED PACKAGE-LEVEL VARIABLES READ AS WHEN THE CALL BEGINS. Each datum BY PROGRAM (the guide's laid-datum.mjs) off the statement by which the dump's own 'gosem.cut.vars' lays the variable. In a bare row this is a premise. The card (YtanjcbnkkhbkkaaDoorCards.lean) ties it to the program's text. -/
def laid_reedpipe_power_quarters {H : Type} : DataW H := .agg [.lit (.int .i64 1073741824), .lit (.int .i64 1276901417), .lit (.int .i64 1518500250), .lit (.int .i64 1805811301)]

/-- 'reedpipelaw07.PowerDoes': WHATEVER THE INPUT: true; the input reads as it did. -/
def powerDoesSpec : ChangeSpec := { name := "powerDoes", fn := fun _ => fun
  | [d1, d2, d3] => { results := [.lit (.bool true)], args := [d1, d2, d3] }
  | _ => none }
def powerDoesRow : OpenClaim := { program := "ytanjcbnkkhbkkaadoor", sum := "20ac65d042aa2b9b052da2fa75e21b23aa64a65a164d32499a9646bc55d50626", func := "reedpipe/reedpipelaw07.PowerDoes", spec := "powerDoes", unfollowed := true, recurses := true, named := ["reedpipe/power.quarters"], apart := false, laid := [("reedpipe/power.quarters", laid_reedpipe_power_quarters)] }
def PowerDoesSaid : Prop := powerDoesRow.holds Tryd.pinned (OpenSpec.ofChange powerDoesSpec)

/-- ITS FALSE NEIGHBOUR: 'it returns false'. Refute it at one input. -/
def powerDoesWrong : ChangeSpec := { name := "powerDoes", fn := fun _ => fun
  | [d1, d2, d3] => { results := [.lit (.bool false)], args := [d1, d2, d3] }
  | _ => none }
def PowerDoesWrongFalsely : Prop := powerDoesRow.holds Tryd.pinned (OpenSpec.ofChange powerDoesWrong)

/-- 'reedpipelaw07.PowerRises': WHATEVER THE INPUT: true; the input reads as it did. -/
def powerRisesSpec : ChangeSpec := { name := "powerRises", fn := fun _ => fun
  | [d1, d2] => { results := [.lit (.bool true)], args := [d1, d2] }
  | _ => none }
def powerRisesRow : OpenClaim := { program := "ytanjcbnkkhbkkaadoor", sum := "20ac65d042aa2b9b052da2fa75e21b23aa64a65a164d32499a9646bc55d50626", func := "reedpipe/reedpipelaw07.PowerRises", spec := "powerRises", unfollowed := true, recurses := true, named := ["reedpipe/power.quarters"], apart := false, laid := [("reedpipe/power.quarters", laid_reedpipe_power_quarters)] }
def PowerRisesSaid : Prop := powerRisesRow.holds Tryd.pinned (OpenSpec.ofChange powerRisesSpec)

/-- ITS FALSE NEIGHBOUR: 'it returns false'. Refute it at one input. -/
def powerRisesWrong : ChangeSpec := { name := "powerRises", fn := fun _ => fun
  | [d1, d2] => { results := [.lit (.bool false)], args := [d1, d2] }
  | _ => none }
def PowerRisesWrongFalsely : Prop := powerRisesRow.holds Tryd.pinned (OpenSpec.ofChange powerRisesWrong)

/-- 'reedpipelaw07.PowerNearest': WHATEVER THE INPUT: true; the input reads as it did. -/
def powerNearestSpec : ChangeSpec := { name := "powerNearest", fn := fun _ => fun
  | [d1, d2, d3, d4] => { results := [.lit (.bool true)], args := [d1, d2, d3, d4] }
  | _ => none }
def powerNearestRow : OpenClaim := { program := "ytanjcbnkkhbkkaadoor", sum := "20ac65d042aa2b9b052da2fa75e21b23aa64a65a164d32499a9646bc55d50626", func := "reedpipe/reedpipelaw07.PowerNearest", spec := "powerNearest", unfollowed := true, recurses := true, named := ["reedpipe/power.quarters"], apart := false, laid := [("reedpipe/power.quarters", laid_reedpipe_power_quarters)] }
def PowerNearestSaid : Prop := powerNearestRow.holds Tryd.pinned (OpenSpec.ofChange powerNearestSpec)

/-- ITS FALSE NEIGHBOUR: 'it returns false'. Refute it at one input. -/
def powerNearestWrong : ChangeSpec := { name := "powerNearest", fn := fun _ => fun
  | [d1, d2, d3, d4] => { results := [.lit (.bool false)], args := [d1, d2, d3, d4] }
  | _ => none }
def PowerNearestWrongFalsely : Prop := powerNearestRow.holds Tryd.pinned (OpenSpec.ofChange powerNearestWrong)

/-- 'reedpipelaw07.PowerDoubles': WHATEVER THE INPUT: true; the input reads as it did. -/
def powerDoublesSpec : ChangeSpec := { name := "powerDoubles", fn := fun _ => fun
  | [d1, d2] => { results := [.lit (.bool true)], args := [d1, d2] }
  | _ => none }
def powerDoublesRow : OpenClaim := { program := "ytanjcbnkkhbkkaadoor", sum := "20ac65d042aa2b9b052da2fa75e21b23aa64a65a164d32499a9646bc55d50626", func := "reedpipe/reedpipelaw07.PowerDoubles", spec := "powerDoubles", unfollowed := true, recurses := true, named := ["reedpipe/power.quarters"], apart := false, laid := [("reedpipe/power.quarters", laid_reedpipe_power_quarters)] }
def PowerDoublesSaid : Prop := powerDoublesRow.holds Tryd.pinned (OpenSpec.ofChange powerDoublesSpec)

/-- ITS FALSE NEIGHBOUR: 'it returns false'. Refute it at one input. -/
def powerDoublesWrong : ChangeSpec := { name := "powerDoubles", fn := fun _ => fun
  | [d1, d2] => { results := [.lit (.bool false)], args := [d1, d2] }
  | _ => none }
def PowerDoublesWrongFalsely : Prop := powerDoublesRow.holds Tryd.pinned (OpenSpec.ofChange powerDoublesWrong)

/-- 'reedpipelaw16.NoiseDoes': WHATEVER THE INPUT: true; the input reads as it did. -/
def noiseDoesSpec : ChangeSpec := { name := "noiseDoes", fn := fun _ => fun
  | [d1, d2, d3, d4, d5, d6] => { results := [.lit (.bool true)], args := [d1, d2, d3, d4, d5, d6] }
  | _ => none }
def noiseDoesRow : OpenClaim := { program := "ytanjcbnkkhbkkaadoor", sum := "20ac65d042aa2b9b052da2fa75e21b23aa64a65a164d32499a9646bc55d50626", func := "reedpipe/reedpipelaw16.NoiseDoes", spec := "noiseDoes", unfollowed := true, recurses := true, named := ["reedpipe/power.quarters"], apart := false, laid := [("reedpipe/power.quarters", laid_reedpipe_power_quarters)] }
def NoiseDoesSaid : Prop := noiseDoesRow.holds Tryd.pinned (OpenSpec.ofChange noiseDoesSpec)

/-- ITS FALSE NEIGHBOUR: 'it returns false'. Refute it at one input. -/
def noiseDoesWrong : ChangeSpec := { name := "noiseDoes", fn := fun _ => fun
  | [d1, d2, d3, d4, d5, d6] => { results := [.lit (.bool false)], args := [d1, d2, d3, d4, d5, d6] }
  | _ => none }
def NoiseDoesWrongFalsely : Prop := noiseDoesRow.holds Tryd.pinned (OpenSpec.ofChange noiseDoesWrong)

/-- 'reedpipelaw16.NoiseLoud': WHATEVER THE INPUT: true; the input reads as it did. -/
def noiseLoudSpec : ChangeSpec := { name := "noiseLoud", fn := fun _ => fun
  | [d1, d2, d3] => { results := [.lit (.bool true)], args := [d1, d2, d3] }
  | _ => none }
def noiseLoudRow : OpenClaim := { program := "ytanjcbnkkhbkkaadoor", sum := "20ac65d042aa2b9b052da2fa75e21b23aa64a65a164d32499a9646bc55d50626", func := "reedpipe/reedpipelaw16.NoiseLoud", spec := "noiseLoud", unfollowed := true, recurses := true, named := ["reedpipe/power.quarters"], apart := false, laid := [("reedpipe/power.quarters", laid_reedpipe_power_quarters)] }
def NoiseLoudSaid : Prop := noiseLoudRow.holds Tryd.pinned (OpenSpec.ofChange noiseLoudSpec)

/-- ITS FALSE NEIGHBOUR: 'it returns false'. Refute it at one input. -/
def noiseLoudWrong : ChangeSpec := { name := "noiseLoud", fn := fun _ => fun
  | [d1, d2, d3] => { results := [.lit (.bool false)], args := [d1, d2, d3] }
  | _ => none }
def NoiseLoudWrongFalsely : Prop := noiseLoudRow.holds Tryd.pinned (OpenSpec.ofChange noiseLoudWrong)

/-- 'reedpipelaw16.NoiseSame': WHATEVER THE INPUT: true; the input reads as it did. -/
def noiseSameSpec : ChangeSpec := { name := "noiseSame", fn := fun _ => fun
  | [d1, d2, d3, d4, d5, d6, d7] => { results := [.lit (.bool true)], args := [d1, d2, d3, d4, d5, d6, d7] }
  | _ => none }
def noiseSameRow : OpenClaim := { program := "ytanjcbnkkhbkkaadoor", sum := "20ac65d042aa2b9b052da2fa75e21b23aa64a65a164d32499a9646bc55d50626", func := "reedpipe/reedpipelaw16.NoiseSame", spec := "noiseSame", unfollowed := true, recurses := true, named := ["reedpipe/power.quarters"], apart := false, laid := [("reedpipe/power.quarters", laid_reedpipe_power_quarters)] }
def NoiseSameSaid : Prop := noiseSameRow.holds Tryd.pinned (OpenSpec.ofChange noiseSameSpec)

/-- ITS FALSE NEIGHBOUR: 'it returns false'. Refute it at one input. -/
def noiseSameWrong : ChangeSpec := { name := "noiseSame", fn := fun _ => fun
  | [d1, d2, d3, d4, d5, d6, d7] => { results := [.lit (.bool false)], args := [d1, d2, d3, d4, d5, d6, d7] }
  | _ => none }
def NoiseSameWrongFalsely : Prop := noiseSameRow.holds Tryd.pinned (OpenSpec.ofChange noiseSameWrong)

/-- 'reedpipelaw16.NoiseDoubles': WHATEVER THE INPUT: true; the input reads as it did. -/
def noiseDoublesSpec : ChangeSpec := { name := "noiseDoubles", fn := fun _ => fun
  | [d1, d2, d3] => { results := [.lit (.bool true)], args := [d1, d2, d3] }
  | _ => none }
def noiseDoublesRow : OpenClaim := { program := "ytanjcbnkkhbkkaadoor", sum := "20ac65d042aa2b9b052da2fa75e21b23aa64a65a164d32499a9646bc55d50626", func := "reedpipe/reedpipelaw16.NoiseDoubles", spec := "noiseDoubles", unfollowed := true, recurses := true, named := ["reedpipe/power.quarters"], apart := false, laid := [("reedpipe/power.quarters", laid_reedpipe_power_quarters)] }
def NoiseDoublesSaid : Prop := noiseDoublesRow.holds Tryd.pinned (OpenSpec.ofChange noiseDoublesSpec)

/-- ITS FALSE NEIGHBOUR: 'it returns false'. Refute it at one input. -/
def noiseDoublesWrong : ChangeSpec := { name := "noiseDoubles", fn := fun _ => fun
  | [d1, d2, d3] => { results := [.lit (.bool false)], args := [d1, d2, d3] }
  | _ => none }
def NoiseDoublesWrongFalsely : Prop := noiseDoublesRow.holds Tryd.pinned (OpenSpec.ofChange noiseDoublesWrong)

/-- 'reedpipelaw14.QuantDoes': WHATEVER THE INPUT: true; the input reads as it did. -/
def quantDoesSpec : ChangeSpec := { name := "quantDoes", fn := fun _ => fun
  | [d1, d2, d3, d4, d5] => { results := [.lit (.bool true)], args := [d1, d2, d3, d4, d5] }
  | _ => none }
def quantDoesRow : OpenClaim := { program := "ytanjcbnkkhbkkaadoor", sum := "20ac65d042aa2b9b052da2fa75e21b23aa64a65a164d32499a9646bc55d50626", func := "reedpipe/reedpipelaw14.QuantDoes", spec := "quantDoes", unfollowed := true, recurses := true, named := ["reedpipe/power.quarters"], apart := false, laid := [("reedpipe/power.quarters", laid_reedpipe_power_quarters)] }
def QuantDoesSaid : Prop := quantDoesRow.holds Tryd.pinned (OpenSpec.ofChange quantDoesSpec)

/-- ITS FALSE NEIGHBOUR: 'it returns false'. Refute it at one input. -/
def quantDoesWrong : ChangeSpec := { name := "quantDoes", fn := fun _ => fun
  | [d1, d2, d3, d4, d5] => { results := [.lit (.bool false)], args := [d1, d2, d3, d4, d5] }
  | _ => none }
def QuantDoesWrongFalsely : Prop := quantDoesRow.holds Tryd.pinned (OpenSpec.ofChange quantDoesWrong)

/-- 'reedpipelaw14.QuantOwn': WHATEVER THE INPUT: true; the input reads as it did. -/
def quantOwnSpec : ChangeSpec := { name := "quantOwn", fn := fun _ => fun
  | [d1, d2, d3, d4, d5, d6, d7] => { results := [.lit (.bool true)], args := [d1, d2, d3, d4, d5, d6, d7] }
  | _ => none }
def quantOwnRow : OpenClaim := { program := "ytanjcbnkkhbkkaadoor", sum := "20ac65d042aa2b9b052da2fa75e21b23aa64a65a164d32499a9646bc55d50626", func := "reedpipe/reedpipelaw14.QuantOwn", spec := "quantOwn", unfollowed := true, recurses := true, named := ["reedpipe/power.quarters"], apart := false, laid := [("reedpipe/power.quarters", laid_reedpipe_power_quarters)] }
def QuantOwnSaid : Prop := quantOwnRow.holds Tryd.pinned (OpenSpec.ofChange quantOwnSpec)

/-- ITS FALSE NEIGHBOUR: 'it returns false'. Refute it at one input. -/
def quantOwnWrong : ChangeSpec := { name := "quantOwn", fn := fun _ => fun
  | [d1, d2, d3, d4, d5, d6, d7] => { results := [.lit (.bool false)], args := [d1, d2, d3, d4, d5, d6, d7] }
  | _ => none }
def QuantOwnWrongFalsely : Prop := quantOwnRow.holds Tryd.pinned (OpenSpec.ofChange quantOwnWrong)

/-- 'reedpipelaw14.QuantBack': WHATEVER THE INPUT: true; the input reads as it did. -/
def quantBackSpec : ChangeSpec := { name := "quantBack", fn := fun _ => fun
  | [d1, d2, d3, d4, d5, d6] => { results := [.lit (.bool true)], args := [d1, d2, d3, d4, d5, d6] }
  | _ => none }
def quantBackRow : OpenClaim := { program := "ytanjcbnkkhbkkaadoor", sum := "20ac65d042aa2b9b052da2fa75e21b23aa64a65a164d32499a9646bc55d50626", func := "reedpipe/reedpipelaw14.QuantBack", spec := "quantBack", unfollowed := true, recurses := true, named := ["reedpipe/power.quarters"], apart := false, laid := [("reedpipe/power.quarters", laid_reedpipe_power_quarters)] }
def QuantBackSaid : Prop := quantBackRow.holds Tryd.pinned (OpenSpec.ofChange quantBackSpec)

/-- ITS FALSE NEIGHBOUR: 'it returns false'. Refute it at one input. -/
def quantBackWrong : ChangeSpec := { name := "quantBack", fn := fun _ => fun
  | [d1, d2, d3, d4, d5, d6] => { results := [.lit (.bool false)], args := [d1, d2, d3, d4, d5, d6] }
  | _ => none }
def QuantBackWrongFalsely : Prop := quantBackRow.holds Tryd.pinned (OpenSpec.ofChange quantBackWrong)

/-- 'reedpipelaw14.QuantCoarser': WHATEVER THE INPUT: true; the input reads as it did. -/
def quantCoarserSpec : ChangeSpec := { name := "quantCoarser", fn := fun _ => fun
  | [d1, d2, d3, d4, d5, d6] => { results := [.lit (.bool true)], args := [d1, d2, d3, d4, d5, d6] }
  | _ => none }
def quantCoarserRow : OpenClaim := { program := "ytanjcbnkkhbkkaadoor", sum := "20ac65d042aa2b9b052da2fa75e21b23aa64a65a164d32499a9646bc55d50626", func := "reedpipe/reedpipelaw14.QuantCoarser", spec := "quantCoarser", unfollowed := true, recurses := true, named := ["reedpipe/power.quarters"], apart := false, laid := [("reedpipe/power.quarters", laid_reedpipe_power_quarters)] }
def QuantCoarserSaid : Prop := quantCoarserRow.holds Tryd.pinned (OpenSpec.ofChange quantCoarserSpec)

/-- ITS FALSE NEIGHBOUR: 'it returns false'. Refute it at one input. -/
def quantCoarserWrong : ChangeSpec := { name := "quantCoarser", fn := fun _ => fun
  | [d1, d2, d3, d4, d5, d6] => { results := [.lit (.bool false)], args := [d1, d2, d3, d4, d5, d6] }
  | _ => none }
def QuantCoarserWrongFalsely : Prop := quantCoarserRow.holds Tryd.pinned (OpenSpec.ofChange quantCoarserWrong)

/- THE SECOND FORM. 'bulk': how many values and letters a reading holds, each counted each time it is reached (what is shared counts as often as it is met; a slice's spare places count too). A statement '..UptoSaid' is the law's where the arguments, and the package variables that the reading takes, are together of bulk at most 1048576: NARROWER than '..Said'. Prove '..Said' where nothing that the law and all that it calls make is longer than what came in: it says more and counts as full. Else prove '..UptoSaid'. A law counts once. -/
mutual
def uptoBulk {H : Type} : DataW H → Nat
  | .lit (.string bytes) => bytes.length + 1
  | .lit _ => 1
  | .nil => 1
  | .ptr d => uptoBulk d + 1
  | .slice elems spare => uptoBulkAll elems + uptoBulkAll spare + 1
  | .agg parts => uptoBulkAll parts + 1
  | .iface _ d => uptoBulk d + 1
  | .map entries => uptoBulkEntries entries + 1
  | .held _ => 1
def uptoBulkAll {H : Type} : List (DataW H) → Nat
  | [] => 0
  | d :: r => uptoBulk d + uptoBulkAll r
def uptoBulkEntries {H : Type} : List (Lit × DataW H) → Nat
  | [] => 0
  | x :: r => uptoBulkEntry x + uptoBulkEntries r
def uptoBulkEntry {H : Type} : Lit × DataW H → Nat
  | (.string bytes, d) => bytes.length + uptoBulk d + 1
  | (_, d) => uptoBulk d + 1
 end
def uptoSmall : (H : Type) → List (DataW H) → Bool := fun _ ds => decide (uptoBulkAll ds ≤ 1048576)
def OpenSpec.upto (s : _root_.Go.ChangeSpec) : _root_.Go.OpenSpec := { _root_.Go.OpenSpec.ofChange s with cond := some uptoSmall }

/-- 'reedpipelaw07.PowerDoes', WHERE WHAT IT READS IS OF BULK AT MOST 1048576: true; the input reads as it did. -/
def powerDoesUptoRow : OpenClaim := { program := "ytanjcbnkkhbkkaadoor", sum := "20ac65d042aa2b9b052da2fa75e21b23aa64a65a164d32499a9646bc55d50626", func := "reedpipe/reedpipelaw07.PowerDoes", spec := "powerDoes", unfollowed := true, recurses := true, named := ["reedpipe/power.quarters"], apart := false, laid := [("reedpipe/power.quarters", laid_reedpipe_power_quarters)], narrowed := true }
def PowerDoesUptoSaid : Prop := powerDoesUptoRow.holds Tryd.pinned (OpenSpec.upto powerDoesSpec)

/-- 'reedpipelaw07.PowerRises', WHERE WHAT IT READS IS OF BULK AT MOST 1048576: true; the input reads as it did. -/
def powerRisesUptoRow : OpenClaim := { program := "ytanjcbnkkhbkkaadoor", sum := "20ac65d042aa2b9b052da2fa75e21b23aa64a65a164d32499a9646bc55d50626", func := "reedpipe/reedpipelaw07.PowerRises", spec := "powerRises", unfollowed := true, recurses := true, named := ["reedpipe/power.quarters"], apart := false, laid := [("reedpipe/power.quarters", laid_reedpipe_power_quarters)], narrowed := true }
def PowerRisesUptoSaid : Prop := powerRisesUptoRow.holds Tryd.pinned (OpenSpec.upto powerRisesSpec)

/-- 'reedpipelaw07.PowerNearest', WHERE WHAT IT READS IS OF BULK AT MOST 1048576: true; the input reads as it did. -/
def powerNearestUptoRow : OpenClaim := { program := "ytanjcbnkkhbkkaadoor", sum := "20ac65d042aa2b9b052da2fa75e21b23aa64a65a164d32499a9646bc55d50626", func := "reedpipe/reedpipelaw07.PowerNearest", spec := "powerNearest", unfollowed := true, recurses := true, named := ["reedpipe/power.quarters"], apart := false, laid := [("reedpipe/power.quarters", laid_reedpipe_power_quarters)], narrowed := true }
def PowerNearestUptoSaid : Prop := powerNearestUptoRow.holds Tryd.pinned (OpenSpec.upto powerNearestSpec)

/-- 'reedpipelaw07.PowerDoubles', WHERE WHAT IT READS IS OF BULK AT MOST 1048576: true; the input reads as it did. -/
def powerDoublesUptoRow : OpenClaim := { program := "ytanjcbnkkhbkkaadoor", sum := "20ac65d042aa2b9b052da2fa75e21b23aa64a65a164d32499a9646bc55d50626", func := "reedpipe/reedpipelaw07.PowerDoubles", spec := "powerDoubles", unfollowed := true, recurses := true, named := ["reedpipe/power.quarters"], apart := false, laid := [("reedpipe/power.quarters", laid_reedpipe_power_quarters)], narrowed := true }
def PowerDoublesUptoSaid : Prop := powerDoublesUptoRow.holds Tryd.pinned (OpenSpec.upto powerDoublesSpec)

/-- 'reedpipelaw16.NoiseDoes', WHERE WHAT IT READS IS OF BULK AT MOST 1048576: true; the input reads as it did. -/
def noiseDoesUptoRow : OpenClaim := { program := "ytanjcbnkkhbkkaadoor", sum := "20ac65d042aa2b9b052da2fa75e21b23aa64a65a164d32499a9646bc55d50626", func := "reedpipe/reedpipelaw16.NoiseDoes", spec := "noiseDoes", unfollowed := true, recurses := true, named := ["reedpipe/power.quarters"], apart := false, laid := [("reedpipe/power.quarters", laid_reedpipe_power_quarters)], narrowed := true }
def NoiseDoesUptoSaid : Prop := noiseDoesUptoRow.holds Tryd.pinned (OpenSpec.upto noiseDoesSpec)

/-- 'reedpipelaw16.NoiseLoud', WHERE WHAT IT READS IS OF BULK AT MOST 1048576: true; the input reads as it did. -/
def noiseLoudUptoRow : OpenClaim := { program := "ytanjcbnkkhbkkaadoor", sum := "20ac65d042aa2b9b052da2fa75e21b23aa64a65a164d32499a9646bc55d50626", func := "reedpipe/reedpipelaw16.NoiseLoud", spec := "noiseLoud", unfollowed := true, recurses := true, named := ["reedpipe/power.quarters"], apart := false, laid := [("reedpipe/power.quarters", laid_reedpipe_power_quarters)], narrowed := true }
def NoiseLoudUptoSaid : Prop := noiseLoudUptoRow.holds Tryd.pinned (OpenSpec.upto noiseLoudSpec)

/-- 'reedpipelaw16.NoiseSame', WHERE WHAT IT READS IS OF BULK AT MOST 1048576: true; the input reads as it did. -/
def noiseSameUptoRow : OpenClaim := { program := "ytanjcbnkkhbkkaadoor", sum := "20ac65d042aa2b9b052da2fa75e21b23aa64a65a164d32499a9646bc55d50626", func := "reedpipe/reedpipelaw16.NoiseSame", spec := "noiseSame", unfollowed := true, recurses := true, named := ["reedpipe/power.quarters"], apart := false, laid := [("reedpipe/power.quarters", laid_reedpipe_power_quarters)], narrowed := true }
def NoiseSameUptoSaid : Prop := noiseSameUptoRow.holds Tryd.pinned (OpenSpec.upto noiseSameSpec)

/-- 'reedpipelaw16.NoiseDoubles', WHERE WHAT IT READS IS OF BULK AT MOST 1048576: true; the input reads as it did. -/
def noiseDoublesUptoRow : OpenClaim := { program := "ytanjcbnkkhbkkaadoor", sum := "20ac65d042aa2b9b052da2fa75e21b23aa64a65a164d32499a9646bc55d50626", func := "reedpipe/reedpipelaw16.NoiseDoubles", spec := "noiseDoubles", unfollowed := true, recurses := true, named := ["reedpipe/power.quarters"], apart := false, laid := [("reedpipe/power.quarters", laid_reedpipe_power_quarters)], narrowed := true }
def NoiseDoublesUptoSaid : Prop := noiseDoublesUptoRow.holds Tryd.pinned (OpenSpec.upto noiseDoublesSpec)

/-- 'reedpipelaw14.QuantDoes', WHERE WHAT IT READS IS OF BULK AT MOST 1048576: true; the input reads as it did. -/
def quantDoesUptoRow : OpenClaim := { program := "ytanjcbnkkhbkkaadoor", sum := "20ac65d042aa2b9b052da2fa75e21b23aa64a65a164d32499a9646bc55d50626", func := "reedpipe/reedpipelaw14.QuantDoes", spec := "quantDoes", unfollowed := true, recurses := true, named := ["reedpipe/power.quarters"], apart := false, laid := [("reedpipe/power.quarters", laid_reedpipe_power_quarters)], narrowed := true }
def QuantDoesUptoSaid : Prop := quantDoesUptoRow.holds Tryd.pinned (OpenSpec.upto quantDoesSpec)

/-- 'reedpipelaw14.QuantOwn', WHERE WHAT IT READS IS OF BULK AT MOST 1048576: true; the input reads as it did. -/
def quantOwnUptoRow : OpenClaim := { program := "ytanjcbnkkhbkkaadoor", sum := "20ac65d042aa2b9b052da2fa75e21b23aa64a65a164d32499a9646bc55d50626", func := "reedpipe/reedpipelaw14.QuantOwn", spec := "quantOwn", unfollowed := true, recurses := true, named := ["reedpipe/power.quarters"], apart := false, laid := [("reedpipe/power.quarters", laid_reedpipe_power_quarters)], narrowed := true }
def QuantOwnUptoSaid : Prop := quantOwnUptoRow.holds Tryd.pinned (OpenSpec.upto quantOwnSpec)

/-- 'reedpipelaw14.QuantBack', WHERE WHAT IT READS IS OF BULK AT MOST 1048576: true; the input reads as it did. -/
def quantBackUptoRow : OpenClaim := { program := "ytanjcbnkkhbkkaadoor", sum := "20ac65d042aa2b9b052da2fa75e21b23aa64a65a164d32499a9646bc55d50626", func := "reedpipe/reedpipelaw14.QuantBack", spec := "quantBack", unfollowed := true, recurses := true, named := ["reedpipe/power.quarters"], apart := false, laid := [("reedpipe/power.quarters", laid_reedpipe_power_quarters)], narrowed := true }
def QuantBackUptoSaid : Prop := quantBackUptoRow.holds Tryd.pinned (OpenSpec.upto quantBackSpec)

/-- 'reedpipelaw14.QuantCoarser', WHERE WHAT IT READS IS OF BULK AT MOST 1048576: true; the input reads as it did. -/
def quantCoarserUptoRow : OpenClaim := { program := "ytanjcbnkkhbkkaadoor", sum := "20ac65d042aa2b9b052da2fa75e21b23aa64a65a164d32499a9646bc55d50626", func := "reedpipe/reedpipelaw14.QuantCoarser", spec := "quantCoarser", unfollowed := true, recurses := true, named := ["reedpipe/power.quarters"], apart := false, laid := [("reedpipe/power.quarters", laid_reedpipe_power_quarters)], narrowed := true }
def QuantCoarserUptoSaid : Prop := quantCoarserUptoRow.holds Tryd.pinned (OpenSpec.upto quantCoarserSpec)

end Rows
end Go.Proofs.YtanjcbnkkhbkkaaDoor
