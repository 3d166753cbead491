/- What fix's calls do. -/
import Derived.Test.YteknakakefhbmaaRows
import Derived.Test.YteknakakefhbmaaFixMath
import Derived.WalkKit
import Derived.ProofKit
import Derived.OpenShut
import Derived.Lib.Hide
namespace Go.Proofs.Yteknakakefhbmaa.Fx
open Go Go.ChangeShapes Go.WideShapes Go.ChangeAt Go.RowKit

theorem round_zero (n : Int) (w : World) (h1 : -4611686018427387904 ≤ n) (h2 : n ≤ 4611686018427387904) :
    Calls Try.prog 43 #[.int .i64 n, .int .i64 0] w fun e w' => e = .returned (.tuple #[.int .i64 n, .int .i64 0]) ∧ w = w' := by
  have c1 : ¬ n < -4611686018427387904 := by omega
  have c2 : ¬ 4611686018427387904 < n := by omega
  go_enter Try.func43, Try.ntmps43
  go_wp2
  go_ret2
  exact ⟨rfl, rfl⟩

theorem w64 {x : Int} (h1 : -9223372036854775808 ≤ x) (h2 : x ≤ 9223372036854775807) : wrap64 x = x := by unfold wrap64; omega
theorem pow61 {b : Int} (h4 : b ≤ 62) : (2 : Int) ^ (b.toNat - 1) ≤ 2305843009213693952 := by
  have := pow_le' (k := b.toNat - 1) (m := 61) (by omega)
  have e : (2 : Int) ^ 61 = 2305843009213693952 := by decide
  omega
theorem rnd_wrap {n b : Int} (h1 : -4611686018427387904 ≤ n) (h2 : n ≤ 4611686018427387904) (h3 : 1 ≤ b) (h4 : b ≤ 62) : wrap64 (n + wrap64 (2 ^ (b.toNat - 1))) / 2 ^ b.toNat = rnd n b := by
  have a := pow61 h4
  have c := pow_pos' (b.toNat - 1)
  rw [w64 (x := 2 ^ (b.toNat - 1)) (by omega) (by omega), w64 (by omega) (by omega)]
  unfold rnd
  rw [if_neg (by omega)]

theorem round_pos (n b : Int) (w : World) (h1 : -4611686018427387904 ≤ n) (h2 : n ≤ 4611686018427387904) (h3 : 1 ≤ b) (h4 : b ≤ 62) :
    Calls Try.prog 43 #[.int .i64 n, .int .i64 b] w fun e w' => e = .returned (.tuple #[.int .i64 (rnd n b), .int .i64 0]) ∧ w = w' := by
  have c1 : ¬ n < -4611686018427387904 := by omega
  have c2 : ¬ 4611686018427387904 < n := by omega
  have c3 : ¬ b < 0 := by omega
  have c4 : ¬ 62 < b := by omega
  have c5 : ¬ b = 0 := by omega
  rw [← rnd_wrap h1 h2 h3 h4]
  go_enter Try.func43, Try.ntmps43
  go_wp2
  go_ret2
  exact ⟨rfl, rfl⟩

theorem round_in (n b : Int) (w : World) (h1 : -4611686018427387904 ≤ n) (h2 : n ≤ 4611686018427387904) (h3 : 0 ≤ b) (h4 : b ≤ 62) :
    Calls Try.prog 43 #[.int .i64 n, .int .i64 b] w fun e w' => e = .returned (.tuple #[.int .i64 (rnd n b), .int .i64 0]) ∧ w = w' := by
  by_cases e : b = 0
  · subst e; exact round_zero n w h1 h2
  · exact round_pos n b w h1 h2 (by omega) h4

theorem round_out (n b : Int) (w : World) (h : n < -4611686018427387904 ∨ 4611686018427387904 < n ∨ b < 0 ∨ 62 < b) :
    Calls Try.prog 43 #[.int .i64 n, .int .i64 b] w fun e w' => e = .returned (.tuple #[.int .i64 0, .int .i64 2]) ∧ w = w' := by
  by_cases c1 : n < -4611686018427387904
  · go_enter Try.func43, Try.ntmps43
    go_wp2
    go_ret2
    exact ⟨rfl, rfl⟩
  by_cases c2 : 4611686018427387904 < n
  · go_enter Try.func43, Try.ntmps43
    go_wp2
    go_ret2
    exact ⟨rfl, rfl⟩
  by_cases c3 : b < 0
  · go_enter Try.func43, Try.ntmps43
    go_wp2
    go_ret2
    exact ⟨rfl, rfl⟩
  have c4 : 62 < b := by omega
  go_enter Try.func43, Try.ntmps43
  go_wp2
  go_ret2
  exact ⟨rfl, rfl⟩

theorem ret2 {a b c : Int} (h : a = b) : Ending.returned (.tuple #[.int .i64 a, .int .i64 c]) = .returned (.tuple #[.int .i64 b, .int .i64 c]) := by rw [h]

end Go.Proofs.Yteknakakefhbmaa.Fx
