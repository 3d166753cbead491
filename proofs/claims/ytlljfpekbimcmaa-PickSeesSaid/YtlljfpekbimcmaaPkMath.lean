/- Plain numbers: energies of samples, and whether they begin loud. -/
import Derived.Below
namespace Go.Proofs.Ytlljfpekbimcmaa.Pk

def sq (z : Int) : Int := z * z
def inr (z : Int) : Prop := -32768 ≤ z ∧ z ≤ 32767
/-- The energy of part j, as far as sample k. -/
def ea (zs : List Int) : Nat → Nat → Int
  | 0, _ => 0
  | k + 1, j => if k / 32 = j then ea zs k j + sq (zs.getD k 0) else ea zs k j
def En (zs : List Int) (j : Nat) : Int := ea zs 256 j
def Sm (zs : List Int) : Nat → Int
  | 0 => 0
  | n + 1 => Sm zs n + En zs n
def ld (zs : List Int) : Nat → Bool
  | 0 => false
  | n + 1 => ld zs n || (decide (0 < n) && decide (8 * Sm zs n + (n : Int) * 1048576 < (n : Int) * En zs n))
def loud (zs : List Int) : Bool := ld zs 8
/-- The energy of part n, by its own samples. -/
def er (zs : List Int) (n : Nat) : Nat → Int
  | 0 => 0
  | t + 1 => er zs n t + sq (zs.getD (32 * n + t) 0)

theorem sq_bd {z : Int} (h : inr z) : 0 ≤ sq z ∧ sq z ≤ 1073741824 := by
  obtain ⟨h1, h2⟩ := h
  unfold sq
  constructor
  · rcases Int.le_total 0 z with h | h
    · exact Int.mul_nonneg h h
    · exact Int.mul_nonneg_of_nonpos_of_nonpos h h
  · rcases Int.le_total 0 z with h | h
    · have := Int.mul_le_mul (show z ≤ 32768 by omega) (show z ≤ 32768 by omega) h (by decide)
      omega
    · have h0 : 0 ≤ -z := by omega
      have := Int.mul_le_mul (show -z ≤ 32768 by omega) (show -z ≤ 32768 by omega) h0 (by decide)
      rw [Int.neg_mul_neg] at this
      omega
theorem ea_succ (zs : List Int) (k j : Nat) : ea zs (k + 1) j = if k / 32 = j then ea zs k j + sq (zs.getD k 0) else ea zs k j := rfl
theorem er_succ (zs : List Int) (n t : Nat) : er zs n (t + 1) = er zs n t + sq (zs.getD (32 * n + t) 0) := rfl
theorem ea_bd {zs : List Int} : ∀ (k j : Nat), (∀ i, i < k → inr (zs.getD i 0)) → 0 ≤ ea zs k j ∧ ea zs k j ≤ k * 1073741824
  | 0, j, _ => ⟨by simp [ea], by simp [ea]⟩
  | k + 1, j, h => by
    obtain ⟨h1, h2⟩ := ea_bd k j fun i hi => h i (by omega)
    obtain ⟨h3, h4⟩ := sq_bd (h k (by omega))
    simp only [ea]
    split <;> constructor <;> omega
theorem En_bd {zs : List Int} (h : ∀ i, i < 256 → inr (zs.getD i 0)) (j : Nat) : 0 ≤ En zs j ∧ En zs j ≤ 274877906944 := by
  have := ea_bd 256 j h
  unfold En
  omega
theorem Sm_bd {zs : List Int} (h : ∀ i, i < 256 → inr (zs.getD i 0)) : ∀ n : Nat, 0 ≤ Sm zs n ∧ Sm zs n ≤ n * 274877906944
  | 0 => ⟨by simp [Sm], by simp [Sm]⟩
  | n + 1 => by
    have h1 := Sm_bd h n
    have h2 := En_bd h n
    simp only [Sm]
    constructor <;> omega
theorem ld_mono {zs : List Int} : ∀ {n m : Nat}, n ≤ m → ld zs n = true → ld zs m = true
  | n, 0, h, hl => by
    have : n = 0 := by omega
    subst this; exact hl
  | n, m + 1, h, hl => by
    by_cases e : n = m + 1
    · subst e; exact hl
    · simp only [ld, ld_mono (show n ≤ m by omega) hl, Bool.true_or]
theorem ld_hit {zs : List Int} {n : Nat} (h0 : 0 < n) (hn : n < 8) (h : 8 * Sm zs n + (n : Int) * 1048576 < (n : Int) * En zs n) : loud zs = true :=
  ld_mono (show n + 1 ≤ 8 by omega) (by simp [ld, h0, h])
theorem ld_miss {zs : List Int} {n : Nat} (hl : ld zs n = false) (h : ¬ 8 * Sm zs n + (n : Int) * 1048576 < (n : Int) * En zs n) : ld zs (n + 1) = false := by
  simp [ld, hl, h]
theorem ld_one (zs : List Int) : ld zs 1 = false := by simp [ld]
theorem er_bd {zs : List Int} (h : ∀ i, i < 256 → inr (zs.getD i 0)) {n : Nat} (hn : n < 8) : ∀ t : Nat, t ≤ 32 → 0 ≤ er zs n t ∧ er zs n t ≤ t * 1073741824
  | 0, _ => ⟨by simp [er], by simp [er]⟩
  | t + 1, ht => by
    have h1 := er_bd h hn t (by omega)
    have h2 := sq_bd (h (32 * n + t) (by omega))
    simp only [er]
    constructor <;> omega
theorem ea_before {zs : List Int} {n : Nat} : ∀ k, k ≤ 32 * n → ea zs k n = 0
  | 0, _ => rfl
  | k + 1, h => by
    simp only [ea]
    rw [if_neg (by omega), ea_before k (by omega)]
theorem ea_within {zs : List Int} {n : Nat} : ∀ t, t ≤ 32 → ea zs (32 * n + t) n = er zs n t
  | 0, _ => ea_before _ (by omega)
  | t + 1, h => by
    rw [show 32 * n + (t + 1) = (32 * n + t) + 1 by omega, ea_succ, er_succ, if_pos (by omega), ea_within t (by omega)]
theorem ea_behind {zs : List Int} {n : Nat} : ∀ d, ea zs (32 * n + 32 + d) n = ea zs (32 * n + 32) n
  | 0 => rfl
  | d + 1 => by
    rw [show 32 * n + 32 + (d + 1) = (32 * n + 32 + d) + 1 by omega, ea_succ, if_neg (by omega), ea_behind d]
theorem er_En {zs : List Int} {n : Nat} (hn : n < 8) : er zs n 32 = En zs n := by
  unfold En
  have := ea_behind (zs := zs) (n := n) (256 - (32 * n + 32))
  rw [show 32 * n + 32 + (256 - (32 * n + 32)) = 256 by omega] at this
  rw [this, ea_within 32 (by omega)]

def allIn (zs : List Int) : Prop := ∀ i, i < 256 → inr (zs.getD i 0)
open Classical in
noncomputable def atE (zs : List Int) : Int := if zs.length = 256 then (if allIn zs then 0 else 2) else 4
open Classical in
noncomputable def atB (zs : List Int) : Bool := if zs.length = 256 ∧ allIn zs then loud zs else false
theorem at_len {zs : List Int} (h : zs.length ≠ 256) : atE zs = 4 ∧ atB zs = false := by
  unfold atE atB
  rw [if_neg h, if_neg (fun x => h x.1)]
  exact ⟨rfl, rfl⟩
theorem at_out {zs : List Int} (h : zs.length = 256) (hn : ¬ allIn zs) : atE zs = 2 ∧ atB zs = false := by
  unfold atE atB
  rw [if_pos h, if_neg hn, if_neg (fun x => hn x.2)]
  exact ⟨rfl, rfl⟩
theorem at_in {zs : List Int} (h : zs.length = 256) (hn : allIn zs) : atE zs = 0 ∧ atB zs = loud zs := by
  unfold atE atB
  rw [if_pos h, if_pos hn, if_pos ⟨h, hn⟩]
  exact ⟨rfl, rfl⟩
end Go.Proofs.Ytlljfpekbimcmaa.Pk
