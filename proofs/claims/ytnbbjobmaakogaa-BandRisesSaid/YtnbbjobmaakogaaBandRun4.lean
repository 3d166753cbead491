/- Runs of the law of bands, which the kernel reckons: part 4. -/
import Derived.Test.YtnbbjobmaakogaaBandRun0
namespace Go.Proofs.Ytnbbjobmaakogaa.bandRises
open Go Go.Ev
theorem run6false : isTrue (callA ((E.up 40).up 40) 40 .nil 0 4 [.int .i64 6, .bool false]) = some true := by kernel_rfl
theorem run6true : isTrue (callA ((E.up 40).up 40) 40 .nil 0 4 [.int .i64 6, .bool true]) = some true := by kernel_rfl
theorem run7false : isTrue (callA ((E.up 40).up 40) 40 .nil 0 4 [.int .i64 7, .bool false]) = some true := by kernel_rfl
theorem run7true : isTrue (callA ((E.up 40).up 40) 40 .nil 0 4 [.int .i64 7, .bool true]) = some true := by kernel_rfl
end Go.Proofs.Ytnbbjobmaakogaa.bandRises
