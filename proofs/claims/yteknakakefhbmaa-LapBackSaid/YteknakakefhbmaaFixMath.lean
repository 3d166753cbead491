/- Plain numbers: what is rounded off. -/
import Derived.Below
namespace Go.Proofs.Yteknakakefhbmaa.Fx

/-- A number rounded off by so many bits. -/
def rnd (n b : Int) : Int := if b = 0 then n else (n + 2 ^ (b.toNat - 1)) / 2 ^ b.toNat
def clp (n b : Int) : Int := min (max n (-(2 ^ (b.toNat - 1)))) (2 ^ (b.toNat - 1) - 1)

theorem pow_pos' (k : Nat) : (0 : Int) < 2 ^ k := Int.pow_pos (by decide)
theorem pow_succ' {b : Int} (h : 1 ≤ b) : (2 : Int) ^ b.toNat = 2 * 2 ^ (b.toNat - 1) := by
  obtain ⟨k, hk⟩ : ∃ k, b.toNat = k + 1 := ⟨b.toNat - 1, by omega⟩
  rw [hk, Int.pow_succ]; simp; omega
theorem pow_le' {k m : Nat} (h : k ≤ m) : (2 : Int) ^ k ≤ 2 ^ m := by
  obtain ⟨d, rfl⟩ := Nat.exists_eq_add_of_le h
  rw [Int.pow_add]
  have h1 := pow_pos' k
  have h2 := pow_pos' d
  have : (2:Int)^k * 1 ≤ 2 ^ k * 2 ^ d := Int.mul_le_mul_of_nonneg_left (by omega) (by omega)
  omega

theorem rnd_at {n b : Int} (h : 1 ≤ b) : ∃ H : Int, 0 < H ∧ H = 2 ^ (b.toNat - 1) ∧ 2 ^ b.toNat = 2 * H ∧ rnd n b = (n + H) / (2 * H) :=
  ⟨_, pow_pos' _, rfl, pow_succ' h, by unfold rnd; rw [if_neg (by omega), pow_succ' h]⟩

theorem div_lo {x d : Int} (hd : 0 < d) : x / d * d ≤ x := Int.ediv_mul_le x (by omega)
theorem div_hi {x d : Int} (hd : 0 < d) : x < x / d * d + d := by
  have := Int.lt_ediv_add_one_mul_self x hd
  rw [Int.add_mul] at this; omega
theorem div_mono {x y d : Int} (hd : 0 < d) (h : x ≤ y) : x / d ≤ y / d := Int.ediv_le_ediv hd h

theorem rnd_mono {n m b : Int} (hb : 0 ≤ b) (h : n ≤ m) : rnd n b ≤ rnd m b := by
  by_cases e : b = 0
  · subst e; simpa [rnd] using h
  · obtain ⟨H, h0, _, _, e1⟩ := rnd_at (n := n) (b := b) (by omega)
    obtain ⟨H', _, _, _, e2⟩ := rnd_at (n := m) (b := b) (by omega)
    have : H = H' := by omega
    subst this
    rw [e1, e2]
    exact div_mono (by omega) (by omega)

theorem rnd_near {n b : Int} (hb : 1 ≤ b) : -(2 ^ (b.toNat - 1)) ≤ n - rnd n b * 2 ^ b.toNat ∧ n - rnd n b * 2 ^ b.toNat < 2 ^ (b.toNat - 1) := by
  obtain ⟨H, h0, e0, e1, e2⟩ := rnd_at (n := n) hb
  rw [e2, e1, ← e0]
  have l := div_lo (x := n + H) (d := 2 * H) (by omega)
  have u := div_hi (x := n + H) (d := 2 * H) (by omega)
  omega

theorem rnd_bd {n b : Int} (hb : 0 ≤ b) (h1 : -4611686018427387904 ≤ n) (h2 : n ≤ 4611686018427387904) : -4611686018427387904 ≤ rnd n b ∧ rnd n b ≤ 4611686018427387904 := by
  by_cases e : b = 0
  · subst e; simpa [rnd] using ⟨h1, h2⟩
  · obtain ⟨H, h0, _, _, e2⟩ := rnd_at (n := n) (b := b) (by omega)
    rw [e2]
    constructor
    · rw [Int.le_ediv_iff_mul_le (by omega)]; 
      have : (4611686018427387904 : Int) * 1 ≤ 4611686018427387904 * (2 * H) := Int.mul_le_mul_of_nonneg_left (by omega) (by omega)
      omega
    · have : (n + H) / (2 * H) < 4611686018427387904 + 1 := by
        rw [Int.ediv_lt_iff_lt_mul (by omega)]
        have : (4611686018427387904 : Int) * (2 * H) = 9223372036854775808 * H := by omega
        have h3 : (4611686018427387904 : Int) * 1 ≤ 4611686018427387904 * H := Int.mul_le_mul_of_nonneg_left (by omega) (by omega)
        omega
      omega

theorem rnd_sum {n m b : Int} (hb : 0 ≤ b) : -1 ≤ rnd n b + rnd m b - rnd (n + m) b ∧ rnd n b + rnd m b - rnd (n + m) b ≤ 1 := by
  by_cases e : b = 0
  · subst e; simp [rnd]
  · obtain ⟨H, h0, e0, _, e1⟩ := rnd_at (n := n) (b := b) (by omega)
    obtain ⟨H', _, e0', _, e2⟩ := rnd_at (n := m) (b := b) (by omega)
    obtain ⟨H'', _, e0'', _, e3⟩ := rnd_at (n := n + m) (b := b) (by omega)
    obtain rfl : H = H' := by omega
    obtain rfl : H = H'' := by omega
    rw [e1, e2, e3]
    clear e1 e2 e3 e0 e0' e0''
    have l1 := div_lo (x := n + H) (d := 2 * H) (by omega)
    have u1 := div_hi (x := n + H) (d := 2 * H) (by omega)
    have l2 := div_lo (x := m + H) (d := 2 * H) (by omega)
    have u2 := div_hi (x := m + H) (d := 2 * H) (by omega)
    have l3 := div_lo (x := n + m + H) (d := 2 * H) (by omega)
    have u3 := div_hi (x := n + m + H) (d := 2 * H) (by omega)
    generalize (n + H) / (2 * H) = a at *
    generalize (m + H) / (2 * H) = b' at *
    generalize (n + m + H) / (2 * H) = c at *
    have k1 : (a + b' - c) * (2 * H) = a * (2 * H) + b' * (2 * H) - c * (2 * H) := by rw [Int.sub_mul, Int.add_mul]
    constructor
    · refine Int.not_lt.1 fun hlt => ?_
      have : (a + b' - c) * (2 * H) ≤ -2 * (2 * H) := Int.mul_le_mul_of_nonneg_right (by omega) (by omega)
      omega
    · refine Int.not_lt.1 fun hlt => ?_
      have : 2 * (2 * H) ≤ (a + b' - c) * (2 * H) := Int.mul_le_mul_of_nonneg_right (by omega) (by omega)
      omega

theorem rnd_neg {n b : Int} (hb : 0 ≤ b) : 0 ≤ rnd n b + rnd (-n) b ∧ rnd n b + rnd (-n) b ≤ 1 := by
  by_cases e : b = 0
  · subst e; simp [rnd]; omega
  · obtain ⟨H, h0, e0, _, e1⟩ := rnd_at (n := n) (b := b) (by omega)
    obtain ⟨H', _, e0', _, e2⟩ := rnd_at (n := -n) (b := b) (by omega)
    obtain rfl : H = H' := by omega
    rw [e1, e2]
    clear e1 e2 e0 e0'
    have l1 := div_lo (x := n + H) (d := 2 * H) (by omega)
    have u1 := div_hi (x := n + H) (d := 2 * H) (by omega)
    have l2 := div_lo (x := -n + H) (d := 2 * H) (by omega)
    have u2 := div_hi (x := -n + H) (d := 2 * H) (by omega)
    generalize (n + H) / (2 * H) = a at *
    generalize (-n + H) / (2 * H) = d at *
    have k1 : (a + d) * (2 * H) = a * (2 * H) + d * (2 * H) := by rw [Int.add_mul]
    constructor
    · refine Int.not_lt.1 fun hlt => ?_
      have : (a + d) * (2 * H) ≤ -1 * (2 * H) := Int.mul_le_mul_of_nonneg_right (by omega) (by omega)
      omega
    · refine Int.not_lt.1 fun hlt => ?_
      have : 2 * (2 * H) ≤ (a + d) * (2 * H) := Int.mul_le_mul_of_nonneg_right (by omega) (by omega)
      omega

theorem rnd_twice {n b c : Int} (hb : 0 ≤ b) (hc : 0 ≤ c) : rnd (rnd n b) c = rnd n (b + c) ∨ rnd (rnd n b) c = rnd n (b + c) + 1 := by
  by_cases e : b = 0
  · subst e; left; simp [rnd]
  by_cases e' : c = 0
  · subst e'; left; simp [rnd]
  obtain ⟨H, h0, e0, p0, e1⟩ := rnd_at (n := n) (b := b) (by omega)
  obtain ⟨K, k0, f0, q0, f1⟩ := rnd_at (n := rnd n b) (b := c) (by omega)
  obtain ⟨L, l0, g0, r0, g1⟩ := rnd_at (n := n) (b := b + c) (by omega)
  have hL : L = 2 * H * K := by
    have e : (2 : Int) ^ (b + c).toNat = 2 ^ b.toNat * 2 ^ c.toNat := by
      rw [← Int.pow_add]; congr 1; omega
    rw [r0, p0, q0] at e
    have e2 : 2 * H * (2 * K) = 2 * (2 * H * K) := by rw [Int.mul_left_comm]
    omega
  rw [f1, g1, e1]
  have hHK : 0 < H * K := Int.mul_pos h0 k0
  have x1 : ((n + H) / (2 * H) + K) / (2 * K) = (n + H + L) / (2 * L) := by
    have : (n + H) / (2 * H) + K = (n + H + K * (2 * H)) / (2 * H) := by
      rw [Int.add_mul_ediv_right _ _ (by omega)]
    rw [this, Int.ediv_ediv_of_nonneg (by omega)]
    have a1 : K * (2 * H) = L := by rw [hL, Int.mul_comm]
    have a2 : 2 * H * (2 * K) = 2 * L := by rw [hL, Int.mul_left_comm]
    rw [a1, a2]
  rw [x1]
  have hHL : H ≤ L := by
    have : H * 1 ≤ H * (2 * K) := Int.mul_le_mul_of_nonneg_left (by omega) (by omega)
    have e3 : H * (2 * K) = 2 * H * K := by rw [Int.mul_left_comm, Int.mul_assoc]
    omega
  have m1 := div_mono (x := n + L) (y := n + H + L) (d := 2 * L) (by omega) (by omega)
  have m2 := div_mono (x := n + H + L) (y := n + L + 1 * (2 * L)) (d := 2 * L) (by omega) (by omega)
  rw [Int.add_mul_ediv_right _ _ (by omega)] at m2
  omega

end Go.Proofs.Yteknakakefhbmaa.Fx
