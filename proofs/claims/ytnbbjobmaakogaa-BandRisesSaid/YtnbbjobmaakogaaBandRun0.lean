/- What a run of the law of bands is held to. -/
import Derived.Test.YtnbbjobmaakogaaTab
namespace Go.Proofs.Ytnbbjobmaakogaa.bandRises
open Go Go.Ev
def isTrue (x : Option (RV × Tr AObj × Nat)) : Option Bool := x.map (fun x => match x.1 with | .bool true => true | _ => false)
end Go.Proofs.Ytnbbjobmaakogaa.bandRises
