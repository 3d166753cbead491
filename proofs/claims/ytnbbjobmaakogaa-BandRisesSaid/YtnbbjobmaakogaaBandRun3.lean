/- Runs of the law of bands, which the kernel reckons: part 3. -/
import Derived.Test.YtnbbjobmaakogaaBandRun0
namespace Go.Proofs.Ytnbbjobmaakogaa.bandRises
open Go Go.Ev
theorem run4false : isTrue (callA ((E.up 40).up 40) 40 .nil 0 4 [.int .i64 4, .bool false]) = some true := by kernel_rfl
theorem run4true : isTrue (callA ((E.up 40).up 40) 40 .nil 0 4 [.int .i64 4, .bool true]) = some true := by kernel_rfl
theorem run5false : isTrue (callA ((E.up 40).up 40) 40 .nil 0 4 [.int .i64 5, .bool false]) = some true := by kernel_rfl
theorem run5true : isTrue (callA ((E.up 40).up 40) 40 .nil 0 4 [.int .i64 5, .bool true]) = some true := by kernel_rfl
end Go.Proofs.Ytnbbjobmaakogaa.bandRises
