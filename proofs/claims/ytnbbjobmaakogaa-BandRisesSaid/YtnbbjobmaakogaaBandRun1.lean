/- Runs of the law of bands, which the kernel reckons: part 1. -/
import Derived.Test.YtnbbjobmaakogaaBandRun0
namespace Go.Proofs.Ytnbbjobmaakogaa.bandRises
open Go Go.Ev
theorem run0false : isTrue (callA ((E.up 40).up 40) 40 .nil 0 4 [.int .i64 0, .bool false]) = some true := by kernel_rfl
theorem run0true : isTrue (callA ((E.up 40).up 40) 40 .nil 0 4 [.int .i64 0, .bool true]) = some true := by kernel_rfl
theorem run1false : isTrue (callA ((E.up 40).up 40) 40 .nil 0 4 [.int .i64 1, .bool false]) = some true := by kernel_rfl
theorem run1true : isTrue (callA ((E.up 40).up 40) 40 .nil 0 4 [.int .i64 1, .bool true]) = some true := by kernel_rfl
end Go.Proofs.Ytnbbjobmaakogaa.bandRises
