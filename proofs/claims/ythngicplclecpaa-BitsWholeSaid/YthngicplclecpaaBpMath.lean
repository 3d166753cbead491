/- Pack and Unpack, the program's own. -/
import Derived.Test.YthngicplclecpaaBpUn
import Derived.WalkKit
import Derived.OwnWalk
import Derived.RegionTactic
import Derived.StillTailTactics
import Derived.Deep.OwnRows
import Derived.Deep.RegionHeld3
import Derived.ProofKit
import Derived.OpenShut
import Derived.Lib.Hide
namespace Go.Proofs.Ythngicplclecpaa.Bi
open Go Go.ChangeShapes Go.WideShapes Go.ChangeAt Go.RowKit
open Go.Proofs.Ythngicplclecpaa.Cr (belowT)

/-! ### Bits as bytes -/
def dk (zs : List Int) (k i : Nat) : Int := if i < k then zs.getD i 0 else 0
def pk (zs : List Int) (k j : Nat) : Int := 128 * dk zs k (8 * j) + 64 * dk zs k (8 * j + 1) + 32 * dk zs k (8 * j + 2) + 16 * dk zs k (8 * j + 3) + 8 * dk zs k (8 * j + 4) + 4 * dk zs k (8 * j + 5) + 2 * dk zs k (8 * j + 6) + dk zs k (8 * j + 7)
def pkl (zs : List Int) : List Int := (List.range ((zs.length + 7) / 8)).map (pk zs zs.length)
theorem pkl_len (zs : List Int) : (pkl zs).length = (zs.length + 7) / 8 := by simp [pkl]
theorem dk_bd {zs : List Int} (h : Cr.Bits zs) (k i : Nat) : 0 ≤ dk zs k i ∧ dk zs k i ≤ 1 := by
  unfold dk
  split
  · by_cases hi : i < zs.length
    · have := h (zs.getD i 0) (by simp [hi])
      omega
    · simp [List.getD, hi]
  · omega
theorem pk_bd {zs : List Int} (h : Cr.Bits zs) (k j : Nat) : 0 ≤ pk zs k j ∧ pk zs k j ≤ 255 := by
  unfold pk
  have h0 := dk_bd h k (8 * j); have h1 := dk_bd h k (8 * j + 1); have h2 := dk_bd h k (8 * j + 2); have h3 := dk_bd h k (8 * j + 3)
  have h4 := dk_bd h k (8 * j + 4); have h5 := dk_bd h k (8 * j + 5); have h6 := dk_bd h k (8 * j + 6); have h7 := dk_bd h k (8 * j + 7)
  omega
theorem dk_bd' {zs : List Int} {k : Nat} (h : ∀ i, i < k → 0 ≤ zs.getD i 0 ∧ zs.getD i 0 ≤ 1) (i : Nat) : 0 ≤ dk zs k i ∧ dk zs k i ≤ 1 := by
  unfold dk
  split
  · exact h i (by assumption)
  · omega
theorem or_fin : ∀ r : Fin 8, ∀ x : Fin 256, x.val % 2 ^ (8 - r.val) = 0 → bits .or .u8 (x.val : Int) (2 ^ (7 - r.val)) = (x.val : Int) + 2 ^ (7 - r.val) := by decide +kernel
theorem or_zero : ∀ x : Fin 256, bits .or .u8 (x.val : Int) 0 = (x.val : Int) := by decide +kernel
theorem or_one {X : Int} (r : Nat) (hr : r < 8) (x0 : 0 ≤ X) (x1 : X ≤ 255) (h : X % 2 ^ (8 - r) = 0) : bits .or .u8 X (2 ^ (7 - r)) = X + 2 ^ (7 - r) := by
  obtain ⟨x, rfl⟩ : ∃ x : Nat, X = x := ⟨X.toNat, by omega⟩
  have := or_fin ⟨r, hr⟩ ⟨x, by omega⟩ (by
    have e : ((x : Int) % ((2 ^ (8 - r) : Nat) : Int)) = 0 := by rw [Int.natCast_pow]; exact h
    show x % 2 ^ (8 - r) = 0
    omega)
  exact this
theorem or_none {X : Int} (x0 : 0 ≤ X) (x1 : X ≤ 255) : bits .or .u8 X 0 = X := by
  obtain ⟨x, rfl⟩ : ∃ x : Nat, X = x := ⟨X.toNat, by omega⟩
  exact or_zero ⟨x, by omega⟩
theorem dk_succ (zs : List Int) (k i : Nat) : dk zs (k + 1) i = if i = k then zs.getD i 0 else dk zs k i := by
  unfold dk
  by_cases h : i = k
  · subst h; rw [if_pos (by omega), if_pos rfl]
  · rw [if_neg h]
    by_cases h2 : i < k
    · rw [if_pos (by omega), if_pos h2]
    · rw [if_neg (by omega), if_neg h2]
theorem dk_out (zs : List Int) (k i : Nat) (h : k ≤ i) : dk zs k i = 0 := by unfold dk; rw [if_neg (by omega)]
/-- A bit more: another byte's bits stay. -/
theorem pk_other (zs : List Int) (k j : Nat) (h : j ≠ k / 8) : pk zs (k + 1) j = pk zs k j := by
  unfold pk
  rw [dk_succ, dk_succ, dk_succ, dk_succ, dk_succ, dk_succ, dk_succ, dk_succ, if_neg (by omega), if_neg (by omega), if_neg (by omega), if_neg (by omega), if_neg (by omega), if_neg (by omega), if_neg (by omega), if_neg (by omega)]
/-- A bit more: it comes beneath the byte's own. -/
theorem pk_step (zs : List Int) (k : Nat) (h : ∀ i, i < k → 0 ≤ zs.getD i 0 ∧ zs.getD i 0 ≤ 1) : pk zs (k + 1) (k / 8) = pk zs k (k / 8) + zs.getD k 0 * 2 ^ (7 - k % 8) ∧ pk zs k (k / 8) % 2 ^ (8 - k % 8) = 0 ∧ 0 ≤ pk zs k (k / 8) ∧ pk zs k (k / 8) ≤ 255 := by
  obtain ⟨q, r, hr, rfl⟩ : ∃ q r, r < 8 ∧ k = 8 * q + r := ⟨k / 8, k % 8, Nat.mod_lt _ (by omega), by omega⟩
  rw [show (8 * q + r) / 8 = q by omega, show (8 * q + r) % 8 = r by omega]
  have h0 := dk_bd' h (8 * q); have h1 := dk_bd' h (8 * q + 1); have h2 := dk_bd' h (8 * q + 2); have h3 := dk_bd' h (8 * q + 3)
  have h4 := dk_bd' h (8 * q + 4); have h5 := dk_bd' h (8 * q + 5); have h6 := dk_bd' h (8 * q + 6); have h7 := dk_bd' h (8 * q + 7)
  have o := fun t (ht : r ≤ t) => dk_out zs (8 * q + r) (8 * q + t) (by omega)
  have s : ∀ t, dk zs (8 * q + r + 1) (8 * q + t) = if t = r then zs.getD (8 * q + t) 0 else dk zs (8 * q + r) (8 * q + t) := fun t => (dk_succ zs (8 * q + r) (8 * q + t)).trans (by simp only [Nat.add_left_cancel_iff])
  unfold pk
  have e0 : dk zs (8 * q + r + 1) (8 * q) = if 0 = r then zs.getD (8 * q) 0 else dk zs (8 * q + r) (8 * q) := s 0
  have e1 := s 1; have e2 := s 2; have e3 := s 3; have e4 := s 4; have e5 := s 5; have e6 := s 6; have e7 := s 7
  rw [e0, e1, e2, e3, e4, e5, e6, e7]
  have o0 : r ≤ 0 → dk zs (8 * q + r) (8 * q) = 0 := fun h => dk_out zs (8 * q + r) (8 * q) (by omega)
  have o1 := o 1; have o2 := o 2; have o3 := o 3; have o4 := o 4; have o5 := o 5; have o6 := o 6; have o7 := o 7
  clear e0 e1 e2 e3 e4 e5 e6 e7 o s h
  have hc : r = 0 ∨ r = 1 ∨ r = 2 ∨ r = 3 ∨ r = 4 ∨ r = 5 ∨ r = 6 ∨ r = 7 := by omega
  rcases hc with rfl | rfl | rfl | rfl | rfl | rfl | rfl | rfl
  all_goals
    simp only [Nat.add_zero, Nat.le_refl, Nat.zero_le, forall_const, Nat.reduceLeDiff] at *
    simp only [Nat.reduceEqDiff, if_true, if_false, reduceIte, Nat.add_zero]
    try simp only [Nat.reduceSub, Int.reducePow]
    omega
theorem or_step (zs : List Int) (k : Nat) (h : ∀ i, i < k → 0 ≤ zs.getD i 0 ∧ zs.getD i 0 ≤ 1) (hd : zs.getD k 0 = 0 ∨ zs.getD k 0 = 1) : bits .or .u8 (pk zs k (k / 8)) (IntKind.u8.wrap (zs.getD k 0 * 2 ^ (7 - k % 8))) = pk zs (k + 1) (k / 8) := by
  obtain ⟨h1, h2, h3, h4⟩ := pk_step zs k h
  have hr : k % 8 < 8 := Nat.mod_lt _ (by omega)
  rw [h1]
  generalize pk zs k (k / 8) = X at *
  generalize k % 8 = r at *
  rcases hd with hd | hd
  · rw [hd, Int.zero_mul, Int.add_zero, show IntKind.u8.wrap 0 = 0 by decide]
    exact or_none h3 h4
  · rw [hd, Int.one_mul]
    have hw : IntKind.u8.wrap ((2 : Int) ^ (7 - r)) = 2 ^ (7 - r) := by
      have : ∀ r : Fin 8, IntKind.u8.wrap ((2 : Int) ^ (7 - r.val)) = 2 ^ (7 - r.val) := by decide +kernel
      exact this ⟨r, hr⟩
    rw [hw]
    exact or_one r hr h3 h4 h2
end Go.Proofs.Ythngicplclecpaa.Bi
