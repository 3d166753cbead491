/- Runs of the law of bands, which the kernel reckons: part 6. -/
import Derived.Test.YtnbbjobmaakogaaBandRun0
namespace Go.Proofs.Ytnbbjobmaakogaa.bandRises
open Go Go.Ev
theorem run10false : isTrue (callA ((E.up 40).up 40) 40 .nil 0 4 [.int .i64 10, .bool false]) = some true := by kernel_rfl
theorem run10true : isTrue (callA ((E.up 40).up 40) 40 .nil 0 4 [.int .i64 10, .bool true]) = some true := by kernel_rfl
theorem run11false : isTrue (callA ((E.up 40).up 40) 40 .nil 0 4 [.int .i64 11, .bool false]) = some true := by kernel_rfl
theorem run11true : isTrue (callA ((E.up 40).up 40) 40 .nil 0 4 [.int .i64 11, .bool true]) = some true := by kernel_rfl
end Go.Proofs.Ytnbbjobmaakogaa.bandRises
