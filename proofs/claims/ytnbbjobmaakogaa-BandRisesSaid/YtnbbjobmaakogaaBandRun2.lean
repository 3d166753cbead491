/- Runs of the law of bands, which the kernel reckons: part 2. -/
import Derived.Test.YtnbbjobmaakogaaBandRun0
namespace Go.Proofs.Ytnbbjobmaakogaa.bandRises
open Go Go.Ev
theorem run2false : isTrue (callA ((E.up 40).up 40) 40 .nil 0 4 [.int .i64 2, .bool false]) = some true := by kernel_rfl
theorem run2true : isTrue (callA ((E.up 40).up 40) 40 .nil 0 4 [.int .i64 2, .bool true]) = some true := by kernel_rfl
theorem run3false : isTrue (callA ((E.up 40).up 40) 40 .nil 0 4 [.int .i64 3, .bool false]) = some true := by kernel_rfl
theorem run3true : isTrue (callA ((E.up 40).up 40) 40 .nil 0 4 [.int .i64 3, .bool true]) = some true := by kernel_rfl
end Go.Proofs.Ytnbbjobmaakogaa.bandRises
