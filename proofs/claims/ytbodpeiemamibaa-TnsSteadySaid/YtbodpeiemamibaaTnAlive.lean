/- The chapter's first examples hold, wherever they are called. -/
import Derived.Test.YtbodpeiemamibaaTab
import Derived.Test.YtbodpeiemamibaaEvLaw
namespace Go.Proofs.Ytbodpeiemamibaa.TnA
open Go Go.Ev Go.RowKit

theorem alive_runs : (callR ((((E.up 40).up 40).up 40).up 40) 40 .nil 0 8 []).map (fun x => match x.1 with | .bool true => true | _ => false) = some true := by kernel_rfl

theorem alive_ok (w : World) : Calls Try.prog 8 #[] w fun e w' => e = .returned (.bool true) ∧ Below w.heap.size w w' := by
  obtain ⟨v, h', nx', h1, h2⟩ := ran alive_runs
  subst h2
  exact call0 rfl h1 w rfl (fun _ => rfl)
end Go.Proofs.Ytbodpeiemamibaa.TnA
