/- What a number's own bits behind do to a sum. -/
import Derived.Test.YteoljcbebiemlaaCrcCon
import Derived.WalkKit
import Derived.ProofKit
import Derived.OpenShut
import Derived.Lib.Hide
namespace Go.Proofs.Yteoljcbebiemlaa.Cr
open Go Go.ChangeShapes Go.WideShapes Go.ChangeAt Go.RowKit

def bitsOf (n x : Nat) : List Bool := (List.range n).map fun j => x / 2 ^ (n - 1 - j) % 2 == 1
theorem bitsOf_succ (n x : Nat) : bitsOf (n + 1) x = (x / 2 ^ n % 2 == 1) :: bitsOf n x := by
  unfold bitsOf
  rw [List.range_succ_eq_map, List.map_cons, List.map_map]
  congr 1
  apply List.map_congr_left
  intro j _
  show (x / 2 ^ (n + 1 - 1 - (j + 1)) % 2 == 1) = _
  rw [show n + 1 - 1 - (j + 1) = n - 1 - j by omega]
theorem bitsOf_len (n x : Nat) : (bitsOf n x).length = n := by simp [bitsOf]
theorem pk_bitsOf (x : Nat) : ∀ n, n ≤ 16 → pk (bitsOf n x) = x % 2 ^ n * 2 ^ (16 - n)
  | 0, _ => by simp [bitsOf, pk, Nat.mod_one]
  | n + 1, h => by
    have hp : pk ((x / 2 ^ n % 2 == 1) :: bitsOf n x) = (if (x / 2 ^ n % 2 == 1) = true then 32768 else 0) + pk (bitsOf n x) / 2 := rfl
    rw [bitsOf_succ, hp, pk_bitsOf x n (by omega), Nat.mod_pow_succ]
    obtain ⟨m, hm⟩ : ∃ m, 15 - n = m := ⟨_, rfl⟩
    have h1 : 16 - n = m + 1 := by omega
    have h2 : 16 - (n + 1) = m := by omega
    rw [h1, h2, Nat.pow_succ, ← Nat.mul_assoc, Nat.mul_div_cancel _ (by decide), Nat.add_mul]
    have h3 : 2 ^ n * 2 ^ m = 32768 := by rw [← Nat.pow_add, show n + m = 15 by omega]
    have hb : x / 2 ^ n % 2 = 0 ∨ x / 2 ^ n % 2 = 1 := by omega
    rcases hb with hb | hb
    · rw [hb]; simp
    · rw [hb]; simp [h3]; omega

/-- A number's sixteen bits, the highest one first, as far as k. -/
def tl (X : Int) (k : Nat) : List Int := (List.range k).map fun j => X / 2 ^ (15 - j) % 2
theorem tl_succ (X : Int) (k : Nat) : tl X (k + 1) = tl X k ++ [X / 2 ^ (15 - k) % 2] := by
  unfold tl; rw [List.range_succ, List.map_append]; rfl
theorem tl_len (X : Int) (k : Nat) : (tl X k).length = k := by simp [tl]
theorem tl_bits (X : Int) (k : Nat) : Bits (tl X k) := by
  intro z hz
  simp only [tl, List.mem_map] at hz
  obtain ⟨j, _, rfl⟩ := hz
  omega
theorem bl_tl {X : Int} (x0 : 0 ≤ X) : bl (tl X 16) = bitsOf 16 X.toNat := by
  obtain ⟨x, rfl⟩ := Int.eq_ofNat_of_zero_le x0
  unfold bl tl bitsOf
  rw [List.map_map]
  apply List.map_congr_left
  intro j _
  show (((x : Int) / 2 ^ (15 - j) % 2) == 1) = _
  rw [Int.toNat_natCast]
  have e : ((x : Int) / 2 ^ (15 - j) % 2) = ((x / 2 ^ (15 - j) % 2 : Nat) : Int) := by simp
  rw [e]
  simp only [show 16 - 1 - j = 15 - j by omega]
  generalize x / 2 ^ (15 - j) % 2 = y
  rw [Bool.eq_iff_iff]
  simp
  omega
theorem crc_own {S X : Int} (s0 : 0 ≤ S) (s1 : S ≤ 65535) (x0 : 0 ≤ X) (x1 : X ≤ 65535) : crcI S (tl X 16) = 0 ↔ X = S := by
  have key := run_own (l := bitsOf 16 X.toNat) (s := BitVec.ofNat 16 S.toNat) (bitsOf_len _ _)
  have e1 : pkB (bitsOf 16 X.toNat) = BitVec.ofNat 16 X.toNat := by
    unfold pkB
    rw [pk_bitsOf _ 16 (by omega)]
    congr 1
    omega
  rw [e1] at key
  unfold crcI
  rw [bl_tl x0]
  constructor
  · intro h
    have h1 : run (BitVec.ofNat 16 S.toNat) (bitsOf 16 X.toNat) = 0#16 := by
      apply BitVec.eq_of_toNat_eq
      simp; omega
    have h2 := congrArg BitVec.toNat (key.1 h1)
    simp only [BitVec.toNat_ofNat] at h2
    omega
  · intro h
    have h1 := key.2 (by rw [h])
    rw [h1]
    rfl

theorem ofInt16 {x : Int} (h0 : 0 ≤ x) (h1 : x ≤ 65535) : (BitVec.ofInt IntKind.u16.bits x).toNat = x.toNat := by
  rw [BitVec.toNat_ofInt]
  show (x % ((2 ^ 16 : Nat) : Int)).toNat = x.toNat
  omega
theorem and_one {y : Int} (h0 : 0 ≤ y) (h1 : y ≤ 65535) : bits .and .u16 y 1 = y % 2 := by
  have e : bits .and .u16 y 1 = IntKind.u16.wrap (((BitVec.ofInt IntKind.u16.bits y &&& BitVec.ofInt IntKind.u16.bits 1).toNat : Nat) : Int) := rfl
  rw [e, BitVec.toNat_and, ofInt16 h0 h1, ofInt16 (by decide) (by decide)]
  have : (y.toNat &&& (1 : Int).toNat) = y.toNat % 2 := Nat.and_one_is_mod _
  rw [this, u16_in (by omega) (by omega)]
  omega
theorem shr_bd {X : Int} (x0 : 0 ≤ X) (x1 : X ≤ 65535) (n : Nat) : 0 ≤ X / 2 ^ n ∧ X / 2 ^ n ≤ 65535 := by
  have p : (0 : Int) < 2 ^ n := Int.pow_pos (by decide)
  exact ⟨Int.ediv_nonneg x0 (by omega), Int.le_trans (Int.ediv_le_self _ x0) x1⟩
end Go.Proofs.Yteoljcbebiemlaa.Cr
