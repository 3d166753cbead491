/- What fix's roots do. -/
import Derived.Test.YteknakakefhbmaaFixCon
import Derived.Test.YteknakakefhbmaaRootMath
import Derived.WalkKit
import Derived.ProofKit
import Derived.OpenShut
import Derived.Lib.Hide
namespace Go.Proofs.Yteknakakefhbmaa.Fx
open Go Go.ChangeShapes Go.WideShapes Go.ChangeAt Go.RowKit

theorem square_ok (r : Int) (w : World) : Calls Try.prog 96 #[.int .u64 r] w fun e w' => e = .returned (.int .u64 (IntKind.u64.wrap (r * r))) ∧ w = w' := by
  go_enter Try.func96, Try.ntmps96
  go_wp2
  go_ret
  exact ⟨rfl, rfl⟩
theorem ofInt_nat {B : Nat} {x : Int} (h0 : 0 ≤ x) (h1 : x < 2 ^ B) : (BitVec.ofInt B x).toNat = x.toNat := by
  rw [BitVec.toNat_ofInt, Int.emod_eq_of_lt h0 (by simpa using h1)]
theorem or_u64 {x y : Int} (h0 : 0 ≤ x) (h1 : x < 2 ^ 64) (h2 : 0 ≤ y) (h3 : y < 2 ^ 64) : bits .or .u64 x y = ((x.toNat ||| y.toNat : Nat) : Int) := by
  have a1 : (BitVec.ofInt IntKind.u64.bits x).toNat = x.toNat := ofInt_nat h0 (show x < 2 ^ 64 by omega)
  have a2 : (BitVec.ofInt IntKind.u64.bits y).toNat = y.toNat := ofInt_nat h2 (show y < 2 ^ 64 by omega)
  have e : bits .or .u64 x y = IntKind.u64.wrap (((BitVec.ofInt IntKind.u64.bits x ||| BitVec.ofInt IntKind.u64.bits y).toNat : Nat) : Int) := rfl
  rw [e, BitVec.toNat_or, a1, a2]
  have : x.toNat ||| y.toNat < 2 ^ 64 := Nat.or_lt_two_pow (by omega) (by omega)
  simp [IntKind.wrap, IntKind.bits, IntKind.signed]
  omega
theorem or_i64 {x y : Int} (h0 : 0 ≤ x) (h1 : x < 2 ^ 63) (h2 : 0 ≤ y) (h3 : y < 2 ^ 63) : bits .or .i64 x y = ((x.toNat ||| y.toNat : Nat) : Int) := by
  have a1 : (BitVec.ofInt IntKind.i64.bits x).toNat = x.toNat := ofInt_nat h0 (show x < 2 ^ 64 by omega)
  have a2 : (BitVec.ofInt IntKind.i64.bits y).toNat = y.toNat := ofInt_nat h2 (show y < 2 ^ 64 by omega)
  have e : bits .or .i64 x y = IntKind.i64.wrap (((BitVec.ofInt IntKind.i64.bits x ||| BitVec.ofInt IntKind.i64.bits y).toNat : Nat) : Int) := rfl
  rw [e, BitVec.toNat_or, a1, a2]
  have : x.toNat ||| y.toNat < 2 ^ 63 := Nat.or_lt_two_pow (by omega) (by omega)
  simp [IntKind.wrap, IntKind.bits, IntKind.signed]
  omega

def bt : Nat → Int
  | 0 => 0
  | k + 1 => 2 ^ k
theorem bt_half (k : Nat) : (2 : Int) ^ k / 2 = bt k := by
  cases k with
  | zero => rfl
  | succ k => rw [psucc]; simp [bt]
theorem bt_lt (k : Nat) : bt k < 2 ^ k := by
  cases k with
  | zero => decide
  | succ k => have := ppos k; rw [psucc]; simp [bt]; omega
theorem bt_nn (k : Nat) : 0 ≤ bt k := by
  cases k with
  | zero => decide
  | succ k => have := ppos k; simp [bt]; omega
theorem u64_in {x : Int} (h0 : 0 ≤ x) (h1 : x < 18446744073709551616) : IntKind.u64.wrap x = x := by
  simp [IntKind.wrap, IntKind.bits, IntKind.signed]; omega

theorem root_sq (n : Int) (w : World) (h0 : 0 ≤ n) (h1 : n ≤ 4611686018427387904) :
    Calls Try.prog 97 #[.int .u64 n, .int .i64 31, .func (.func 96) #[] #[]] w fun e w' => ∃ r, IsSqrt n r ∧ e = .returned (.int .u64 r) ∧ w = w' := by
  have hs := sq_start h0 h1
  go_enter Try.func97, Try.ntmps97
  go_wp2
  go_loop [7, 8] (fun r b => ∃ (k : Nat) (R : Int), k ≤ 32 ∧ Sq n R k ∧ r = .int .u64 R ∧ b = .int .u64 (bt k)) (fun _ b => (intOf b).toNat)
  case atStart => exact ⟨32, 0, by omega, hs, rfl, rfl⟩
  case round =>
    obtain ⟨k, R, hk, hq, rfl, rfl⟩ := hrel
    cases k with
    | zero =>
      have b0 : ¬ 0 < bt 0 := by decide
      go_wp2
      go_ret
      exact ⟨R, sq_end hq, rfl, rfl⟩
    | succ k =>
      have p := ppos k
      have q1 := sq_bd hq
      have q0 := nn hq.1
      have b0 : 0 < bt (k + 1) := p
      have e1 : bits BinOp.or IntKind.u64 R (bt (k + 1)) = R + 2 ^ k := by
        obtain ⟨s, hs'⟩ := hq.1
        rw [show bt (k + 1) = 2 ^ k from rfl, or_u64 q0 (by omega) (by omega) (by omega)]
        exact or_of hs'
      have e2 : bt (k + 1) / 2 = bt k := bt_half k
      obtain ⟨q2, q3, q4, q5⟩ := q1
      have e3 : IntKind.u64.wrap ((R + 2 ^ k) * (R + 2 ^ k)) = (R + 2 ^ k) * (R + 2 ^ k) := u64_in q5 q4
      have e4 : bt k < bt (k + 1) := bt_lt k
      have e5 := bt_nn k
      by_cases hc : (R + 2 ^ k) * (R + 2 ^ k) ≤ n
      · have hy := sq_yes hq hc
        go_wp2
        go_round
        case rel => exact ⟨k, R + 2 ^ k, by omega, hy, rfl, rfl⟩
        case measure => simp [intOf]; omega
      · have hy := sq_no hq hc
        go_wp2
        go_round
        case rel => exact ⟨k, R, by omega, hy, rfl, rfl⟩
        case measure => simp [intOf]; omega

theorem sqrt_in (n : Int) (w : World) (h0 : 0 ≤ n) (h1 : n ≤ 4611686018427387904) :
    Calls Try.prog 93 #[.int .i64 n] w fun e w' => ∃ r, IsSqrt n r ∧ e = .returned (.tuple #[.int .i64 r, .int .i64 0]) ∧ w = w' := by
  have c1 : ¬ n < 0 := by omega
  have c2 : ¬ 4611686018427387904 < n := by omega
  have c3 : IntKind.u64.wrap n = n := u64_in h0 (by omega)
  go_enter Try.func93, Try.ntmps93
  go_wp2_with (go_at_call 97; refine (root_sq _ _ (by omega) (by omega)).mono ?_; rintro e w' ⟨r, hr, rfl, rfl⟩; have hr1 := sqrt_bd hr h1; have hr0 := hr.1)
  go_ret2
  exact ⟨_, ‹_›, rfl, rfl⟩
theorem sqrt_out (n : Int) (w : World) (h : n < 0 ∨ 4611686018427387904 < n) :
    Calls Try.prog 93 #[.int .i64 n] w fun e w' => e = .returned (.tuple #[.int .i64 0, .int .i64 2]) ∧ w = w' := by
  by_cases c1 : n < 0
  · go_enter Try.func93, Try.ntmps93
    go_wp2
    go_ret2
    exact ⟨rfl, rfl⟩
  have c2 : 4611686018427387904 < n := by omega
  go_enter Try.func93, Try.ntmps93
  go_wp2
  go_ret2
  exact ⟨rfl, rfl⟩
end Go.Proofs.Yteknakakefhbmaa.Fx
