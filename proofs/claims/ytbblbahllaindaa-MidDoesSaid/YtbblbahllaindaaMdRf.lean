/- What the document's own answer does for middles and sides. -/
import Derived.Test.YtbblbahllaindaaMdBad
import Derived.Test.YtbblbahllaindaaBdCon
import Derived.Deep.AppendLies
import Derived.Deep.RegionHeld3
import Derived.WalkKit
import Derived.OwnWalk
import Derived.RegionTactic
import Derived.ProofKit
import Derived.OpenShut
import Derived.Lib.Hide
namespace Go.Proofs.Ytbblbahllaindaa.Md
open Go Go.ChangeShapes Go.WideShapes Go.ChangeAt Go.RowKit Go.Proofs.Ytbblbahllaindaa.Lo

theorem i64_in {x : Int} (a : -9223372036854775808 ≤ x) (b : x ≤ 9223372036854775807) : IntKind.i64.wrap x = x := by
  simp [IntKind.wrap, IntKind.bits, IntKind.signed]
  omega
theorem down1_ok (x : Int) (w : World) (h0 : -1073741824 ≤ x) (h1 : x ≤ 1073741824) : Calls Try.prog 24 #[.int .i64 x, .int .i64 1] w fun e w' => e = .returned (.int .i64 (half x)) ∧ w = w' := by
  by_cases hr : 1 ≤ x - x / 2 * 2
  · have e : half x = x / 2 + 1 := by unfold half; omega
    rw [e]
    clear e
    go_enter Try.func24, Try.ntmps24
    go_wp2
    go_ret
    exact ⟨rfl, rfl⟩
  · have e : half x = x / 2 := by unfold half; omega
    rw [e]
    clear e
    go_enter Try.func24, Try.ntmps24
    go_wp2
    go_ret
    exact ⟨rfl, rfl⟩
theorem rkept_ok (x : Int) (w : World) : Calls Try.prog 23 #[.int .i64 x] w fun e w' => e = .returned (.int .i64 (kept x)) ∧ w = w' := by
  unfold kept
  by_cases h1 : x < -268435455
  · rw [if_pos h1]
    go_enter Try.func23, Try.ntmps23
    go_wp2
    go_ret
    exact ⟨rfl, rfl⟩
  · by_cases h2 : 268435455 < x
    · rw [if_neg h1, if_pos h2]
      go_enter Try.func23, Try.ntmps23
      go_wp2
      go_ret
      exact ⟨rfl, rfl⟩
    · rw [if_neg h1, if_neg h2]
      go_enter Try.func23, Try.ntmps23
      go_wp2
      go_ret
      exact ⟨rfl, rfl⟩
end Go.Proofs.Ytbblbahllaindaa.Md
