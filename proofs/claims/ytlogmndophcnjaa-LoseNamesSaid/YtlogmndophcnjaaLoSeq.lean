/- What lose's Seq does. -/
import Derived.Test.YtlogmndophcnjaaRows
import Derived.WalkKit
import Derived.ProofKit
import Derived.OpenShut
import Derived.WalkMore
namespace Go.Proofs.Ytlogmndophcnjaa.Lo
open Go Go.ChangeShapes Go.WideShapes Go.ChangeAt Go.RowKit

theorem seq0 (w : World) : Calls Try.prog 6 #[.int .u8 0] w fun e w' => e = .returned (.tuple #[.int .u8 0, .int .i64 0]) ∧ w = w' := by
  go_enter Try.func6, Try.ntmps6
  go_wp2
  go_ret2
  exact ⟨rfl, rfl⟩
theorem seq1 (w : World) : Calls Try.prog 6 #[.int .u8 1] w fun e w' => e = .returned (.tuple #[.int .u8 3, .int .i64 0]) ∧ w = w' := by
  go_enter Try.func6, Try.ntmps6
  go_wp2
  go_ret2
  exact ⟨rfl, rfl⟩
theorem seq2 (w : World) : Calls Try.prog 6 #[.int .u8 2] w fun e w' => e = .returned (.tuple #[.int .u8 3, .int .i64 0]) ∧ w = w' := by
  go_enter Try.func6, Try.ntmps6
  go_wp2
  go_ret2
  exact ⟨rfl, rfl⟩
theorem seq3 (w : World) : Calls Try.prog 6 #[.int .u8 3] w fun e w' => e = .returned (.tuple #[.int .u8 0, .int .i64 0]) ∧ w = w' := by
  go_enter Try.func6, Try.ntmps6
  go_wp2
  go_ret2
  exact ⟨rfl, rfl⟩
theorem seqX (s : Int) (w : World) (h : 3 < s) : Calls Try.prog 6 #[.int .u8 s] w fun e w' => e = .returned (.tuple #[.int .u8 0, .int .i64 2]) ∧ w = w' := by
  have e0 : (s == 0) = false := by simp; omega
  have e1 : (s == 1) = false := by simp; omega
  have e2 : (s == 2) = false := by simp; omega
  have e3 : (s == 3) = false := by simp; omega
  go_enter Try.func6, Try.ntmps6
  go_wp2
  go_ret2
  exact ⟨rfl, rfl⟩
end Go.Proofs.Ytlogmndophcnjaa.Lo
