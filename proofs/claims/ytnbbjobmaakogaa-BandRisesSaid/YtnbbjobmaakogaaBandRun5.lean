/- Runs of the law of bands, which the kernel reckons: part 5. -/
import Derived.Test.YtnbbjobmaakogaaBandRun0
namespace Go.Proofs.Ytnbbjobmaakogaa.bandRises
open Go Go.Ev
theorem run8false : isTrue (callA ((E.up 40).up 40) 40 .nil 0 4 [.int .i64 8, .bool false]) = some true := by kernel_rfl
theorem run8true : isTrue (callA ((E.up 40).up 40) 40 .nil 0 4 [.int .i64 8, .bool true]) = some true := by kernel_rfl
theorem run9false : isTrue (callA ((E.up 40).up 40) 40 .nil 0 4 [.int .i64 9, .bool false]) = some true := by kernel_rfl
theorem run9true : isTrue (callA ((E.up 40).up 40) 40 .nil 0 4 [.int .i64 9, .bool true]) = some true := by kernel_rfl
end Go.Proofs.Ytnbbjobmaakogaa.bandRises
