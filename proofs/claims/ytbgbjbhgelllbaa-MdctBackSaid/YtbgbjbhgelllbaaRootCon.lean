/- What fix's roots do. -/
import Derived.Test.YtbgbjbhgelllbaaFixCon
import Derived.Test.YtbgbjbhgelllbaaRootMath
import Derived.WalkKit
import Derived.ProofKit
import Derived.OpenShut
import Derived.Lib.Hide
namespace Go.Proofs.Ytbgbjbhgelllbaa.Fx
open Go Go.ChangeShapes Go.WideShapes Go.ChangeAt Go.RowKit

theorem ofInt_nat {B : Nat} {x : Int} (h0 : 0 ≤ x) (h1 : x < 2 ^ B) : (BitVec.ofInt B x).toNat = x.toNat := by
  rw [BitVec.toNat_ofInt, Int.emod_eq_of_lt h0 (by simpa using h1)]
theorem or_u64 {x y : Int} (h0 : 0 ≤ x) (h1 : x < 2 ^ 64) (h2 : 0 ≤ y) (h3 : y < 2 ^ 64) : bits .or .u64 x y = ((x.toNat ||| y.toNat : Nat) : Int) := by
  have a1 : (BitVec.ofInt IntKind.u64.bits x).toNat = x.toNat := ofInt_nat h0 (show x < 2 ^ 64 by omega)
  have a2 : (BitVec.ofInt IntKind.u64.bits y).toNat = y.toNat := ofInt_nat h2 (show y < 2 ^ 64 by omega)
  have e : bits .or .u64 x y = IntKind.u64.wrap (((BitVec.ofInt IntKind.u64.bits x ||| BitVec.ofInt IntKind.u64.bits y).toNat : Nat) : Int) := rfl
  rw [e, BitVec.toNat_or, a1, a2]
  have : x.toNat ||| y.toNat < 2 ^ 64 := Nat.or_lt_two_pow (by omega) (by omega)
  simp [IntKind.wrap, IntKind.bits, IntKind.signed]
  omega
theorem or_i64 {x y : Int} (h0 : 0 ≤ x) (h1 : x < 2 ^ 63) (h2 : 0 ≤ y) (h3 : y < 2 ^ 63) : bits .or .i64 x y = ((x.toNat ||| y.toNat : Nat) : Int) := by
  have a1 : (BitVec.ofInt IntKind.i64.bits x).toNat = x.toNat := ofInt_nat h0 (show x < 2 ^ 64 by omega)
  have a2 : (BitVec.ofInt IntKind.i64.bits y).toNat = y.toNat := ofInt_nat h2 (show y < 2 ^ 64 by omega)
  have e : bits .or .i64 x y = IntKind.i64.wrap (((BitVec.ofInt IntKind.i64.bits x ||| BitVec.ofInt IntKind.i64.bits y).toNat : Nat) : Int) := rfl
  rw [e, BitVec.toNat_or, a1, a2]
  have : x.toNat ||| y.toNat < 2 ^ 63 := Nat.or_lt_two_pow (by omega) (by omega)
  simp [IntKind.wrap, IntKind.bits, IntKind.signed]
  omega

def bt : Nat → Int
  | 0 => 0
  | k + 1 => 2 ^ k
theorem bt_half (k : Nat) : (2 : Int) ^ k / 2 = bt k := by
  cases k with
  | zero => rfl
  | succ k => rw [psucc]; simp [bt]
theorem bt_lt (k : Nat) : bt k < 2 ^ k := by
  cases k with
  | zero => decide
  | succ k => have := ppos k; rw [psucc]; simp [bt]; omega
theorem bt_nn (k : Nat) : 0 ≤ bt k := by
  cases k with
  | zero => decide
  | succ k => have := ppos k; simp [bt]; omega
theorem u64_in {x : Int} (h0 : 0 ≤ x) (h1 : x < 18446744073709551616) : IntKind.u64.wrap x = x := by
  simp [IntKind.wrap, IntKind.bits, IntKind.signed]; omega

end Go.Proofs.Ytbgbjbhgelllbaa.Fx
