/- Texts of one claim, one behind the other: FixMath, RootMath, PwMath, FixCon, RootCon, RefFix, PwCon, PwQ, PwP. -/
import Derived.Below
import Derived.Lib.Hide
import Derived.Test.YtanjcbnkkhbkkaaDoorRows
import Derived.WalkKit
import Derived.ProofKit
import Derived.OpenShut
import Derived.Deep.QuietTactic
import Derived.BigQuiet
set_option linter.unusedVariables false
/- Plain numbers: what is rounded off. -/
namespace Go.Proofs.YtanjcbnkkhbkkaaDoor.Fx

/-- A number rounded off by so many bits. -/
def rnd (n b : Int) : Int := if b = 0 then n else (n + 2 ^ (b.toNat - 1)) / 2 ^ b.toNat
def clp (n b : Int) : Int := min (max n (-(2 ^ (b.toNat - 1)))) (2 ^ (b.toNat - 1) - 1)

theorem pow_pos' (k : Nat) : (0 : Int) < 2 ^ k := Int.pow_pos (by decide)
theorem pow_succ' {b : Int} (h : 1 ≤ b) : (2 : Int) ^ b.toNat = 2 * 2 ^ (b.toNat - 1) := by
  obtain ⟨k, hk⟩ : ∃ k, b.toNat = k + 1 := ⟨b.toNat - 1, by omega⟩
  rw [hk, Int.pow_succ]; simp; omega
theorem pow_le' {k m : Nat} (h : k ≤ m) : (2 : Int) ^ k ≤ 2 ^ m := by
  obtain ⟨d, rfl⟩ := Nat.exists_eq_add_of_le h
  rw [Int.pow_add]
  have h1 := pow_pos' k
  have h2 := pow_pos' d
  have : (2:Int)^k * 1 ≤ 2 ^ k * 2 ^ d := Int.mul_le_mul_of_nonneg_left (by omega) (by omega)
  omega

theorem rnd_at {n b : Int} (h : 1 ≤ b) : ∃ H : Int, 0 < H ∧ H = 2 ^ (b.toNat - 1) ∧ 2 ^ b.toNat = 2 * H ∧ rnd n b = (n + H) / (2 * H) :=
  ⟨_, pow_pos' _, rfl, pow_succ' h, by unfold rnd; rw [if_neg (by omega), pow_succ' h]⟩

theorem div_lo {x d : Int} (hd : 0 < d) : x / d * d ≤ x := Int.ediv_mul_le x (by omega)
theorem div_hi {x d : Int} (hd : 0 < d) : x < x / d * d + d := by
  have := Int.lt_ediv_add_one_mul_self x hd
  rw [Int.add_mul] at this; omega
theorem div_mono {x y d : Int} (hd : 0 < d) (h : x ≤ y) : x / d ≤ y / d := Int.ediv_le_ediv hd h

theorem rnd_mono {n m b : Int} (hb : 0 ≤ b) (h : n ≤ m) : rnd n b ≤ rnd m b := by
  by_cases e : b = 0
  · subst e; simpa [rnd] using h
  · obtain ⟨H, h0, _, _, e1⟩ := rnd_at (n := n) (b := b) (by omega)
    obtain ⟨H', _, _, _, e2⟩ := rnd_at (n := m) (b := b) (by omega)
    have : H = H' := by omega
    subst this
    rw [e1, e2]
    exact div_mono (by omega) (by omega)

theorem rnd_near {n b : Int} (hb : 1 ≤ b) : -(2 ^ (b.toNat - 1)) ≤ n - rnd n b * 2 ^ b.toNat ∧ n - rnd n b * 2 ^ b.toNat < 2 ^ (b.toNat - 1) := by
  obtain ⟨H, h0, e0, e1, e2⟩ := rnd_at (n := n) hb
  rw [e2, e1, ← e0]
  have l := div_lo (x := n + H) (d := 2 * H) (by omega)
  have u := div_hi (x := n + H) (d := 2 * H) (by omega)
  omega

theorem rnd_bd {n b : Int} (hb : 0 ≤ b) (h1 : -4611686018427387904 ≤ n) (h2 : n ≤ 4611686018427387904) : -4611686018427387904 ≤ rnd n b ∧ rnd n b ≤ 4611686018427387904 := by
  by_cases e : b = 0
  · subst e; simpa [rnd] using ⟨h1, h2⟩
  · obtain ⟨H, h0, _, _, e2⟩ := rnd_at (n := n) (b := b) (by omega)
    rw [e2]
    constructor
    · rw [Int.le_ediv_iff_mul_le (by omega)]; 
      have : (4611686018427387904 : Int) * 1 ≤ 4611686018427387904 * (2 * H) := Int.mul_le_mul_of_nonneg_left (by omega) (by omega)
      omega
    · have : (n + H) / (2 * H) < 4611686018427387904 + 1 := by
        rw [Int.ediv_lt_iff_lt_mul (by omega)]
        have : (4611686018427387904 : Int) * (2 * H) = 9223372036854775808 * H := by omega
        have h3 : (4611686018427387904 : Int) * 1 ≤ 4611686018427387904 * H := Int.mul_le_mul_of_nonneg_left (by omega) (by omega)
        omega
      omega

theorem rnd_sum {n m b : Int} (hb : 0 ≤ b) : -1 ≤ rnd n b + rnd m b - rnd (n + m) b ∧ rnd n b + rnd m b - rnd (n + m) b ≤ 1 := by
  by_cases e : b = 0
  · subst e; simp [rnd]
  · obtain ⟨H, h0, e0, _, e1⟩ := rnd_at (n := n) (b := b) (by omega)
    obtain ⟨H', _, e0', _, e2⟩ := rnd_at (n := m) (b := b) (by omega)
    obtain ⟨H'', _, e0'', _, e3⟩ := rnd_at (n := n + m) (b := b) (by omega)
    obtain rfl : H = H' := by omega
    obtain rfl : H = H'' := by omega
    rw [e1, e2, e3]
    clear e1 e2 e3 e0 e0' e0''
    have l1 := div_lo (x := n + H) (d := 2 * H) (by omega)
    have u1 := div_hi (x := n + H) (d := 2 * H) (by omega)
    have l2 := div_lo (x := m + H) (d := 2 * H) (by omega)
    have u2 := div_hi (x := m + H) (d := 2 * H) (by omega)
    have l3 := div_lo (x := n + m + H) (d := 2 * H) (by omega)
    have u3 := div_hi (x := n + m + H) (d := 2 * H) (by omega)
    generalize (n + H) / (2 * H) = a at *
    generalize (m + H) / (2 * H) = b' at *
    generalize (n + m + H) / (2 * H) = c at *
    have k1 : (a + b' - c) * (2 * H) = a * (2 * H) + b' * (2 * H) - c * (2 * H) := by rw [Int.sub_mul, Int.add_mul]
    constructor
    · refine Int.not_lt.1 fun hlt => ?_
      have : (a + b' - c) * (2 * H) ≤ -2 * (2 * H) := Int.mul_le_mul_of_nonneg_right (by omega) (by omega)
      omega
    · refine Int.not_lt.1 fun hlt => ?_
      have : 2 * (2 * H) ≤ (a + b' - c) * (2 * H) := Int.mul_le_mul_of_nonneg_right (by omega) (by omega)
      omega

theorem rnd_neg {n b : Int} (hb : 0 ≤ b) : 0 ≤ rnd n b + rnd (-n) b ∧ rnd n b + rnd (-n) b ≤ 1 := by
  by_cases e : b = 0
  · subst e; simp [rnd]; omega
  · obtain ⟨H, h0, e0, _, e1⟩ := rnd_at (n := n) (b := b) (by omega)
    obtain ⟨H', _, e0', _, e2⟩ := rnd_at (n := -n) (b := b) (by omega)
    obtain rfl : H = H' := by omega
    rw [e1, e2]
    clear e1 e2 e0 e0'
    have l1 := div_lo (x := n + H) (d := 2 * H) (by omega)
    have u1 := div_hi (x := n + H) (d := 2 * H) (by omega)
    have l2 := div_lo (x := -n + H) (d := 2 * H) (by omega)
    have u2 := div_hi (x := -n + H) (d := 2 * H) (by omega)
    generalize (n + H) / (2 * H) = a at *
    generalize (-n + H) / (2 * H) = d at *
    have k1 : (a + d) * (2 * H) = a * (2 * H) + d * (2 * H) := by rw [Int.add_mul]
    constructor
    · refine Int.not_lt.1 fun hlt => ?_
      have : (a + d) * (2 * H) ≤ -1 * (2 * H) := Int.mul_le_mul_of_nonneg_right (by omega) (by omega)
      omega
    · refine Int.not_lt.1 fun hlt => ?_
      have : 2 * (2 * H) ≤ (a + d) * (2 * H) := Int.mul_le_mul_of_nonneg_right (by omega) (by omega)
      omega

theorem rnd_twice {n b c : Int} (hb : 0 ≤ b) (hc : 0 ≤ c) : rnd (rnd n b) c = rnd n (b + c) ∨ rnd (rnd n b) c = rnd n (b + c) + 1 := by
  by_cases e : b = 0
  · subst e; left; simp [rnd]
  by_cases e' : c = 0
  · subst e'; left; simp [rnd]
  obtain ⟨H, h0, e0, p0, e1⟩ := rnd_at (n := n) (b := b) (by omega)
  obtain ⟨K, k0, f0, q0, f1⟩ := rnd_at (n := rnd n b) (b := c) (by omega)
  obtain ⟨L, l0, g0, r0, g1⟩ := rnd_at (n := n) (b := b + c) (by omega)
  have hL : L = 2 * H * K := by
    have e : (2 : Int) ^ (b + c).toNat = 2 ^ b.toNat * 2 ^ c.toNat := by
      rw [← Int.pow_add]; congr 1; omega
    rw [r0, p0, q0] at e
    have e2 : 2 * H * (2 * K) = 2 * (2 * H * K) := by rw [Int.mul_left_comm]
    omega
  rw [f1, g1, e1]
  have hHK : 0 < H * K := Int.mul_pos h0 k0
  have x1 : ((n + H) / (2 * H) + K) / (2 * K) = (n + H + L) / (2 * L) := by
    have : (n + H) / (2 * H) + K = (n + H + K * (2 * H)) / (2 * H) := by
      rw [Int.add_mul_ediv_right _ _ (by omega)]
    rw [this, Int.ediv_ediv_of_nonneg (by omega)]
    have a1 : K * (2 * H) = L := by rw [hL, Int.mul_comm]
    have a2 : 2 * H * (2 * K) = 2 * L := by rw [hL, Int.mul_left_comm]
    rw [a1, a2]
  rw [x1]
  have hHL : H ≤ L := by
    have : H * 1 ≤ H * (2 * K) := Int.mul_le_mul_of_nonneg_left (by omega) (by omega)
    have e3 : H * (2 * K) = 2 * H * K := by rw [Int.mul_left_comm, Int.mul_assoc]
    omega
  have m1 := div_mono (x := n + L) (y := n + H + L) (d := 2 * L) (by omega) (by omega)
  have m2 := div_mono (x := n + H + L) (y := n + L + 1 * (2 * L)) (d := 2 * L) (by omega) (by omega)
  rw [Int.add_mul_ediv_right _ _ (by omega)] at m2
  omega

end Go.Proofs.YtanjcbnkkhbkkaaDoor.Fx

/- Plain numbers: roots. -/
namespace Go.Proofs.YtanjcbnkkhbkkaaDoor.Fx
theorem ppos (k : Nat) : (0 : Int) < 2 ^ k := Int.pow_pos (by decide)
theorem psucc (k : Nat) : (2 : Int) ^ (k + 1) = 2 * 2 ^ k := by rw [Int.pow_succ]; omega

/-- r is what is known of a square root when k bits are still to come. -/
def Sq (n r : Int) (k : Nat) : Prop := (∃ s : Nat, r = 2 ^ k * (s : Int)) ∧ r * r ≤ n ∧ n < (r + 2 ^ k) * (r + 2 ^ k) ∧ r + 2 ^ k ≤ 4294967296
def Cb (n r : Int) (k : Nat) : Prop := (∃ s : Nat, r = 2 ^ k * (s : Int)) ∧ r * r * r ≤ n ∧ n < (r + 2 ^ k) * (r + 2 ^ k) * (r + 2 ^ k) ∧ r + 2 ^ k ≤ 2097152

theorem or_of {r : Int} {k s : Nat} (h : r = 2 ^ (k + 1) * (s : Int)) : (((r.toNat ||| (2 ^ k : Int).toNat : Nat)) : Int) = r + 2 ^ k := by
  have e1 : r.toNat = 2 ^ (k + 1) * s := by
    rw [h]
    have : (2 : Int) ^ (k + 1) * (s : Int) = ((2 ^ (k + 1) * s : Nat) : Int) := by simp
    rw [this, Int.toNat_natCast]
  have e2 : ((2 : Int) ^ k).toNat = 2 ^ k := by
    have : (2 : Int) ^ k = ((2 ^ k : Nat) : Int) := by simp
    rw [this, Int.toNat_natCast]
  rw [e1, e2, ← Nat.two_pow_add_eq_or_of_lt (Nat.pow_lt_pow_right (by decide) (Nat.lt_succ_self k)), h]
  simp

theorem nn {r : Int} {k : Nat} (h : ∃ s : Nat, r = 2 ^ k * (s : Int)) : 0 ≤ r := by
  obtain ⟨s, rfl⟩ := h
  exact Int.mul_nonneg (by have := ppos k; omega) (by omega)
theorem half {r : Int} {k : Nat} (h : ∃ s : Nat, r = 2 ^ (k + 1) * (s : Int)) : ∃ s : Nat, r = 2 ^ k * (s : Int) := by
  obtain ⟨s, rfl⟩ := h
  exact ⟨2 * s, by rw [psucc]; simp; rw [Int.mul_comm 2, Int.mul_assoc]⟩
theorem half' {r : Int} {k : Nat} (h : ∃ s : Nat, r = 2 ^ (k + 1) * (s : Int)) : ∃ s : Nat, r + 2 ^ k = 2 ^ k * (s : Int) := by
  obtain ⟨s, e⟩ := half h
  exact ⟨s + 1, by rw [e]; simp [Int.mul_add]⟩

theorem sq_yes {n r : Int} {k : Nat} (h : Sq n r (k + 1)) (hc : (r + 2 ^ k) * (r + 2 ^ k) ≤ n) : Sq n (r + 2 ^ k) k := by
  obtain ⟨h1, h2, h3, h4⟩ := h
  have e : r + 2 ^ (k + 1) = r + 2 ^ k + 2 ^ k := by rw [psucc]; omega
  exact ⟨half' h1, hc, by rw [← e]; exact h3, by rw [← e]; exact h4⟩
theorem sq_no {n r : Int} {k : Nat} (h : Sq n r (k + 1)) (hc : ¬ (r + 2 ^ k) * (r + 2 ^ k) ≤ n) : Sq n r k := by
  obtain ⟨h1, h2, h3, h4⟩ := h
  have e : r + 2 ^ (k + 1) = r + 2 ^ k + 2 ^ k := by rw [psucc]; omega
  have := ppos k
  exact ⟨half h1, h2, Int.not_le.1 hc, by omega⟩
theorem cb_yes {n r : Int} {k : Nat} (h : Cb n r (k + 1)) (hc : (r + 2 ^ k) * (r + 2 ^ k) * (r + 2 ^ k) ≤ n) : Cb n (r + 2 ^ k) k := by
  obtain ⟨h1, h2, h3, h4⟩ := h
  have e : r + 2 ^ (k + 1) = r + 2 ^ k + 2 ^ k := by rw [psucc]; omega
  exact ⟨half' h1, hc, by rw [← e]; exact h3, by rw [← e]; exact h4⟩
theorem cb_no {n r : Int} {k : Nat} (h : Cb n r (k + 1)) (hc : ¬ (r + 2 ^ k) * (r + 2 ^ k) * (r + 2 ^ k) ≤ n) : Cb n r k := by
  obtain ⟨h1, h2, h3, h4⟩ := h
  have e : r + 2 ^ (k + 1) = r + 2 ^ k + 2 ^ k := by rw [psucc]; omega
  have := ppos k
  exact ⟨half h1, h2, Int.not_le.1 hc, by omega⟩

/-- What a step squares is no greater than a word. -/
theorem sq_bd {n r : Int} {k : Nat} (h : Sq n r (k + 1)) : 0 ≤ r + 2 ^ k ∧ r + 2 ^ k < 4294967296 ∧ (r + 2 ^ k) * (r + 2 ^ k) < 18446744073709551616 ∧ 0 ≤ (r + 2 ^ k) * (r + 2 ^ k) := by
  obtain ⟨h1, h2, h3, h4⟩ := h
  have a := nn h1
  have p := ppos k
  rw [psucc] at h4
  have b : r + 2 ^ k < 4294967296 := by omega
  have c : (r + 2 ^ k) * (r + 2 ^ k) ≤ 4294967295 * 4294967295 := Int.mul_le_mul (by omega) (by omega) (by omega) (by omega)
  exact ⟨by omega, b, by omega, Int.mul_nonneg (by omega) (by omega)⟩
theorem cb_bd {n r : Int} {k : Nat} (h : Cb n r (k + 1)) : 0 ≤ r + 2 ^ k ∧ r + 2 ^ k < 2097152 ∧ 0 ≤ (r + 2 ^ k) * (r + 2 ^ k) ∧ (r + 2 ^ k) * (r + 2 ^ k) < 4398046511104 ∧ (r + 2 ^ k) * (r + 2 ^ k) * (r + 2 ^ k) < 9223372036854775808 ∧ 0 ≤ (r + 2 ^ k) * (r + 2 ^ k) * (r + 2 ^ k) := by
  obtain ⟨h1, h2, h3, h4⟩ := h
  have a := nn h1
  have p := ppos k
  rw [psucc] at h4
  have b : r + 2 ^ k < 2097152 := by omega
  have c : (r + 2 ^ k) * (r + 2 ^ k) ≤ 2097151 * 2097151 := Int.mul_le_mul (by omega) (by omega) (by omega) (by omega)
  have c0 : 0 ≤ (r + 2 ^ k) * (r + 2 ^ k) := Int.mul_nonneg (by omega) (by omega)
  have d : (r + 2 ^ k) * (r + 2 ^ k) * (r + 2 ^ k) ≤ (2097151 * 2097151) * 2097151 := Int.mul_le_mul c (by omega) (by omega) (by omega)
  exact ⟨by omega, b, c0, by omega, by omega, Int.mul_nonneg c0 (by omega)⟩

/-- The roots. -/
def IsSqrt (n r : Int) : Prop := 0 ≤ r ∧ r * r ≤ n ∧ n < (r + 1) * (r + 1)
def IsCbrt (n r : Int) : Prop := 0 ≤ r ∧ r * r * r ≤ n ∧ n < (r + 1) * (r + 1) * (r + 1)
theorem sq_end {n r : Int} (h : Sq n r 0) : IsSqrt n r := ⟨nn h.1, h.2.1, by simpa using h.2.2.1⟩
theorem cb_end {n r : Int} (h : Cb n r 0) : IsCbrt n r := ⟨nn h.1, h.2.1, by simpa using h.2.2.1⟩
theorem sq_start {n : Int} (h0 : 0 ≤ n) (h1 : n ≤ 4611686018427387904) : Sq n 0 32 := ⟨⟨0, by simp⟩, by simpa using h0, by simp; omega, by simp⟩
theorem cb_start {n : Int} (h0 : 0 ≤ n) (h1 : n ≤ 4611686018427387904) : Cb n 0 21 := ⟨⟨0, by simp⟩, by simpa using h0, by simp; omega, by simp⟩

theorem lt_of_sq {a b : Int} (ha : 0 ≤ a) (hb : 0 ≤ b) (h : a * a < b * b) : a < b := by
  refine Int.not_le.1 fun hle => ?_
  have := Int.mul_le_mul hle hle hb ha
  omega
theorem lt_of_cb {a b : Int} (ha : 0 ≤ a) (hb : 0 ≤ b) (h : a * a * a < b * b * b) : a < b := by
  refine Int.not_le.1 fun hle => ?_
  have h1 := Int.mul_le_mul hle hle hb ha
  have := Int.mul_le_mul h1 hle hb (Int.mul_nonneg ha ha)
  omega
theorem sqrt_mono {n m r s : Int} (h1 : IsSqrt n r) (h2 : IsSqrt m s) (h : n ≤ m) : r ≤ s := by
  obtain ⟨a1, a2, a3⟩ := h1
  obtain ⟨b1, b2, b3⟩ := h2
  have := lt_of_sq (a := r) (b := s + 1) a1 (by omega) (by omega)
  omega
theorem cbrt_mono {n m r s : Int} (h1 : IsCbrt n r) (h2 : IsCbrt m s) (h : n ≤ m) : r ≤ s := by
  obtain ⟨a1, a2, a3⟩ := h1
  obtain ⟨b1, b2, b3⟩ := h2
  have := lt_of_cb (a := r) (b := s + 1) a1 (by omega) (by omega)
  omega
theorem sqrt_one {n r s : Int} (h1 : IsSqrt n r) (h2 : IsSqrt n s) : r = s := by
  have := sqrt_mono h1 h2 (by omega); have := sqrt_mono h2 h1 (by omega); omega
theorem cbrt_one {n r s : Int} (h1 : IsCbrt n r) (h2 : IsCbrt n s) : r = s := by
  have := cbrt_mono h1 h2 (by omega); have := cbrt_mono h2 h1 (by omega); omega
theorem sqrt_of {s : Int} (h : 0 ≤ s) : IsSqrt (s * s) s := ⟨h, by omega, by
  have : (s + 1) * (s + 1) = s * s + s + s + 1 := by rw [Int.add_mul, Int.mul_add]; omega
  omega⟩
theorem cbrt_of {s : Int} (h : 0 ≤ s) : IsCbrt (s * s * s) s := ⟨h, by omega, by
  have e : (s + 1) * (s + 1) = s * s + s + s + 1 := by rw [Int.add_mul, Int.mul_add]; omega
  rw [e]
  have e2 : (s * s + s + s + 1) * (s + 1) = s * s * s + (s * s + s * s + s * s) + s + s + s + 1 := by
    rw [Int.mul_add, Int.add_mul, Int.add_mul, Int.add_mul]; omega
  have := Int.mul_nonneg h h
  omega⟩
theorem sqrt_bd {n r : Int} (h : IsSqrt n r) (h1 : n ≤ 4611686018427387904) : r ≤ 2147483648 := by
  obtain ⟨a1, a2, a3⟩ := h
  have := lt_of_sq (a := r) (b := 2147483649) a1 (by omega) (by omega)
  omega
theorem cbrt_bd {n r : Int} (h : IsCbrt n r) (h1 : n ≤ 4611686018427387904) : r ≤ 1664510 := by
  obtain ⟨a1, a2, a3⟩ := h
  have := lt_of_cb (a := r) (b := 1664511) a1 (by omega) (by omega)
  omega
/-- What a law asks by dividing. -/
theorem sqrt_div {n r : Int} (h : IsSqrt n r) (h0 : 0 < r) : r ≤ n / r := by
  obtain ⟨a1, a2, a3⟩ := h
  exact (Int.le_ediv_iff_mul_le h0).2 a2
theorem sqrt_div' {n r : Int} (h : IsSqrt n r) : n / (r + 1) < r + 1 := by
  obtain ⟨a1, a2, a3⟩ := h
  exact (Int.ediv_lt_iff_lt_mul (by omega)).2 a3
theorem cbrt_div {n r : Int} (h : IsCbrt n r) (h0 : 0 < r) : r * r ≤ n / r := by
  obtain ⟨a1, a2, a3⟩ := h
  exact (Int.le_ediv_iff_mul_le h0).2 a2
theorem cbrt_div' {n r : Int} (h : IsCbrt n r) : n / (r + 1) < (r + 1) * (r + 1) := by
  obtain ⟨a1, a2, a3⟩ := h
  exact (Int.ediv_lt_iff_lt_mul (by omega)).2 a3
end Go.Proofs.YtanjcbnkkhbkkaaDoor.Fx

/- Numbers of powers and lines, plain. -/
namespace Go.Proofs.YtanjcbnkkhbkkaaDoor.Fx
open Go

theorem cbrt_ex : ∀ n : Nat, ∃ r : Int, IsCbrt (n : Int) r
  | 0 => ⟨0, Int.le_refl 0, by decide, by decide⟩
  | n + 1 => by
    obtain ⟨r, h0, h1, h2⟩ := cbrt_ex n
    by_cases h : (r + 1) * (r + 1) * (r + 1) ≤ ((n + 1 : Nat) : Int)
    · refine ⟨r + 1, by omega, h, ?_⟩
      have e : (r + 1 + 1) * (r + 1 + 1) * (r + 1 + 1) = (r + 1) * (r + 1) * (r + 1) + (3 * ((r + 1) * (r + 1)) + 3 * (r + 1) + 1) := by
        generalize r + 1 = t
        simp only [Int.add_mul, Int.mul_add, Int.one_mul, Int.mul_one]; omega
      have g : 0 ≤ (r + 1) * (r + 1) := Int.mul_nonneg (by omega) (by omega)
      rw [e]
      generalize (r + 1) * (r + 1) * (r + 1) = c at *
      generalize (r + 1) * (r + 1) = d at *
      omega
    · exact ⟨r, h0, by omega, by omega⟩
/-- The third root. -/
noncomputable def cbF (n : Int) : Int := Classical.choose (cbrt_ex n.toNat)
theorem cbF_is {n : Int} (h : 0 ≤ n) : IsCbrt n (cbF n) := by
  have a : IsCbrt ((n.toNat : Nat) : Int) (cbF n) := Classical.choose_spec (cbrt_ex n.toNat)
  have e : ((n.toNat : Nat) : Int) = n := Int.toNat_of_nonneg h
  generalize cbF n = r at *
  rw [e] at a
  exact a
theorem cbF_of {n r : Int} (h : IsCbrt n r) : r = cbF n := cbrt_one h (cbF_is (by
  have a : 0 ≤ r * r * r := Int.mul_nonneg (Int.mul_nonneg h.1 h.1) h.1
  have := h.2.1
  omega))
theorem cbF_mono {n m : Int} (h0 : 0 ≤ n) (h : n ≤ m) : cbF n ≤ cbF m := cbrt_mono (cbF_is h0) (cbF_is (by omega)) h

/-- Powers. -/
noncomputable def fo (q : Int) : Int := q * cbF (q * 68719476736)
theorem fo_zero : fo 0 = 0 := by unfold fo; rw [Int.zero_mul]
theorem cb_lo {q : Int} (h : 1 ≤ q) : 4096 ≤ cbF (q * 68719476736) :=
  cbrt_mono (n := 68719476736) (r := 4096) (by refine ⟨by decide, by decide, by decide⟩) (cbF_is (by omega)) (by omega)
theorem cb_hi {q : Int} (h0 : 0 ≤ q) (h : q ≤ 8191) : cbF (q * 68719476736) ≤ 82566 :=
  cbrt_mono (m := 562881233944576) (s := 82566) (cbF_is (by omega)) (by refine ⟨by decide, by decide, by decide⟩) (by omega)
theorem cb_nn {q : Int} (h0 : 0 ≤ q) : 0 ≤ cbF (q * 68719476736) := (cbF_is (by omega)).1
theorem fo_bd {q : Int} (h0 : 0 ≤ q) (h : q ≤ 8191) : 0 ≤ fo q ∧ fo q ≤ 676298106 := by
  have a := cb_nn h0
  have b := cb_hi h0 h
  unfold fo
  exact ⟨Int.mul_nonneg h0 a, by have : q * cbF (q * 68719476736) ≤ 8191 * 82566 := Int.mul_le_mul h b a (by omega); omega⟩
theorem fo_mono {p q : Int} (h0 : 0 ≤ p) (h : p ≤ q) : fo p ≤ fo q :=
  Int.mul_le_mul h (cbF_mono (by omega) (by omega)) (cb_nn h0) (by omega)
theorem fo_lo {q : Int} (h : 1 ≤ q) : 4096 ≤ fo q := by
  have : 1 * 4096 ≤ q * cbF (q * 68719476736) := Int.mul_le_mul h (cb_lo h) (by omega) (by omega)
  unfold fo; omega

/-- A step's quarter power, and the bits that are rounded off. -/
def qt (s : Int) : Int := if s % 4 = 0 then 1073741824 else if s % 4 = 1 then 1276901417 else if s % 4 = 2 then 1518500250 else 1805811301
def bt' (s : Int) : Int := max (61 - s / 4) 0
theorem qt_bd (s : Int) : 1073741824 ≤ qt s ∧ qt s ≤ 1805811301 := by unfold qt; split <;> (try split) <;> (try split) <;> omega
theorem bt'_bd {s : Int} (h0 : 0 ≤ s) : 0 ≤ bt' s ∧ bt' s ≤ 61 := by unfold bt'; omega
/-- The line of a number from 0 on. -/
noncomputable def ln (q s : Int) : Int := min (rnd (fo q * qt s) (bt' s)) 268435455
theorem rnd_zero {b : Int} (h : 0 ≤ b) : rnd 0 b = 0 := by
  by_cases e : b = 0
  · subst e; rfl
  · obtain ⟨H, h0, _, _, e2⟩ := rnd_at (n := 0) (b := b) (by omega)
    rw [e2]; exact Int.ediv_eq_zero_of_lt (by omega) (by omega)
theorem rnd_nn {n b : Int} (h : 0 ≤ b) (hn : 0 ≤ n) : 0 ≤ rnd n b := by have := rnd_mono h hn; rwa [rnd_zero h] at this
theorem ln_zero {s : Int} (h : 0 ≤ s) : ln 0 s = 0 := by unfold ln; rw [fo_zero, Int.zero_mul, rnd_zero (bt'_bd h).1]; rfl
theorem ln_mono {p q s : Int} (hs : 0 ≤ s) (h0 : 0 ≤ p) (h : p ≤ q) : ln p s ≤ ln q s := by
  have a := rnd_mono (bt'_bd hs).1 (Int.mul_le_mul_of_nonneg_right (fo_mono h0 h) (by have := qt_bd s; omega) : fo p * qt s ≤ fo q * qt s)
  unfold ln; omega
theorem ln_bd {q s : Int} (hs : 0 ≤ s) (h0 : 0 ≤ q) : 0 ≤ ln q s ∧ ln q s ≤ 268435455 := by
  have a := ln_mono hs (Int.le_refl 0) h0
  rw [ln_zero hs] at a
  exact ⟨a, by unfold ln; omega⟩
theorem pr_bd {q s : Int} (h0 : 0 ≤ q) (h : q ≤ 8191) : 0 ≤ fo q * qt s ∧ fo q * qt s ≤ 4611686018427387904 := by
  obtain ⟨a, b⟩ := fo_bd h0 h
  obtain ⟨c, d⟩ := qt_bd s
  exact ⟨Int.mul_nonneg a (by omega), by have : fo q * qt s ≤ 676298106 * 1805811301 := Int.mul_le_mul b d (by omega) (by omega); omega⟩
/-- Twice a number, rounded off by a bit more. -/
theorem rnd_double {n b : Int} (hb : 1 ≤ b) : rnd (2 * n) b = rnd n (b - 1) := by
  by_cases e : b = 1
  · subst e
    show rnd (2 * n) 1 = rnd n 0
    unfold rnd
    rw [if_neg (by decide), if_pos rfl]
    show (2 * n + 1) / 2 = n
    omega
  · obtain ⟨H, h0, e0, e1, e2⟩ := rnd_at (n := 2 * n) (b := b) hb
    obtain ⟨K, k0, f0, f1, f2⟩ := rnd_at (n := n) (b := b - 1) (by omega)
    have hk : H = 2 * K := by
      rw [e0, ← f1, show (b - 1).toNat = b.toNat - 1 by omega]
    rw [e2, f2, hk, show 2 * n + 2 * K = 2 * (n + K) by omega, Int.mul_ediv_mul_of_pos _ _ (by omega)]
theorem ln_step {q s : Int} (hs : 0 ≤ s) (hs1 : s < 255) (h0 : 0 ≤ q) (hq : q ≤ 8191) : ln q s ≤ ln q (s + 1) := by
  obtain ⟨f0, f1⟩ := fo_bd h0 hq
  by_cases h3 : s % 4 = 3
  · have e1 : qt s = 1805811301 := by unfold qt; rw [if_neg (by omega), if_neg (by omega), if_neg (by omega)]
    have e2 : qt (s + 1) = 1073741824 := by unfold qt; rw [if_pos (by omega)]
    by_cases hb : 1 ≤ bt' s
    · have e3 : bt' (s + 1) = bt' s - 1 := by unfold bt' at *; omega
      have a := rnd_mono (bt'_bd hs).1 (show fo q * qt s ≤ 2 * (fo q * qt (s + 1)) by rw [e1, e2]; omega)
      rw [rnd_double hb, ← e3] at a
      unfold ln; omega
    · have e3 : bt' (s + 1) = 0 := by unfold bt' at *; omega
      by_cases hz : q = 0
      · subst hz; rw [ln_zero hs, ln_zero (by omega)]; exact Int.le_refl _
      · have := fo_lo (q := q) (by omega)
        have : rnd (fo q * qt (s + 1)) (bt' (s + 1)) = fo q * 1073741824 := by rw [e2, e3]; rfl
        unfold ln; rw [this]; omega
  · have e3 : bt' (s + 1) = bt' s := by unfold bt'; omega
    have e4 : qt s ≤ qt (s + 1) := by unfold qt; split <;> (try split) <;> (try split) <;> (try split) <;> (try split) <;> omega
    have a := rnd_mono (bt'_bd hs).1 (Int.mul_le_mul_of_nonneg_left e4 f0 : fo q * qt s ≤ fo q * qt (s + 1))
    unfold ln; rw [e3]; omega

/-- The line of any number that may be. -/
noncomputable def LN (q s : Int) : Int := if q < 0 then -ln (-q) s else ln q s
theorem LN_neg {q s : Int} (hs : 0 ≤ s) : LN (-q) s = -LN q s := by
  unfold LN
  by_cases h : q < 0
  · rw [if_pos h, if_neg (by omega)]; omega
  · by_cases e : q = 0
    · subst e; rw [if_neg (by decide), if_neg (by decide)]; show ln 0 s = -ln 0 s; rw [ln_zero hs]; rfl
    · rw [if_neg h, if_pos (by omega), Int.neg_neg]
theorem LN_pos {q s : Int} (h : 0 ≤ q) : LN q s = ln q s := by unfold LN; rw [if_neg (by omega)]
theorem LN_bd {q s : Int} (hs : 0 ≤ s) : -268435455 ≤ LN q s ∧ LN q s ≤ 268435455 := by
  unfold LN
  split
  · have := ln_bd (q := -q) hs (by omega); omega
  · have := ln_bd (q := q) hs (by omega); omega
theorem LN_mono {p q s : Int} (hs : 0 ≤ s) (h : p ≤ q) : LN p s ≤ LN q s := by
  unfold LN
  split
  · split
    · have := ln_mono (p := -q) (q := -p) hs (by omega) (by omega); omega
    · have a := ln_bd (q := -p) hs (by omega); have b := ln_bd (q := q) hs (by omega); omega
  · rw [if_neg (by omega)]; exact ln_mono hs (by omega) h
theorem LN_step {q s : Int} (hs : 0 ≤ s) (hs1 : s < 255) (h0 : -8191 ≤ q) (hq : q ≤ 8191) : (0 ≤ q → LN q s ≤ LN q (s + 1)) ∧ (q ≤ 0 → LN q (s + 1) ≤ LN q s) := by
  constructor
  · intro h; rw [LN_pos h, LN_pos h]; exact ln_step hs hs1 h hq
  · intro h
    have := ln_step (q := -q) hs hs1 (by omega) (by omega)
    have e1 := LN_neg (q := -q) hs
    have e2 := LN_neg (q := -q) (s := s + 1) (by omega)
    rw [Int.neg_neg, LN_pos (q := -q) (by omega)] at e1 e2
    omega

/-- The nearest number of a line from 0 on. -/
def Near (x s r : Int) : Prop := 0 ≤ r ∧ r ≤ 8191 ∧ (r = 8191 ∨ 2 * x ≤ ln r s + ln (r + 1) s) ∧ (r = 0 ∨ ln (r - 1) s + ln r s < 2 * x)
theorem near_mono {x y s r t : Int} (hs : 0 ≤ s) (hx : Near x s r) (hy : Near y s t) (h : x ≤ y) : r ≤ t := by
  obtain ⟨r0, r1, r2, r3⟩ := hx
  obtain ⟨t0, t1, t2, t3⟩ := hy
  refine Int.not_lt.1 fun hlt => ?_
  have a := ln_mono (p := t) (q := r - 1) hs t0 (by omega)
  have b := ln_mono (p := t + 1) (q := r) hs (by omega) (by omega)
  omega
theorem near_one {x s r t : Int} (hs : 0 ≤ s) (hx : Near x s r) (hy : Near x s t) : r = t := by
  have := near_mono hs hx hy (Int.le_refl _); have := near_mono hs hy hx (Int.le_refl _); omega
theorem near_best {x s r q : Int} (hs : 0 ≤ s) (h : Near x s r) (hx : 0 ≤ x) (hq : q ≤ 8191) : (x - ln r s ≤ x - LN q s ∨ x - ln r s ≤ LN q s - x) ∧ (ln r s - x ≤ x - LN q s ∨ ln r s - x ≤ LN q s - x) := by
  obtain ⟨r0, r1, r2, r3⟩ := h
  have z := ln_bd (q := r) hs r0
  by_cases hn : q < 0
  · have a : LN q s ≤ 0 := by have := LN_mono (p := q) (q := 0) hs (by omega); rwa [LN_pos (Int.le_refl 0), ln_zero hs] at this
    by_cases e : r = 0
    · subst e; rw [ln_zero hs]; omega
    · have b := ln_bd (q := r - 1) hs (by omega)
      omega
  · rw [LN_pos (by omega)]
    by_cases hlt : q < r
    · have a := ln_mono (p := q) (q := r - 1) hs (by omega) (by omega)
      have b := ln_mono (p := q) (q := r) hs (by omega) (by omega)
      omega
    · by_cases e : q = r
      · subst e; omega
      · have a := ln_mono (p := r + 1) (q := q) hs (by omega) (by omega)
        have b := ln_mono (p := r) (q := q) hs (by omega) (by omega)
        omega
/-- The nearest number of any line that may be. -/
def NearS (x s r : Int) : Prop := if x < 0 then Near (-x) s (-r) else Near x s r
theorem nearS_bd {x s r : Int} (h : NearS x s r) : -8191 ≤ r ∧ r ≤ 8191 := by
  unfold NearS at h
  split at h
  · have := h.1; have := h.2.1; omega
  · have := h.1; have := h.2.1; omega
theorem nearS_best {x s r q : Int} (hs : 0 ≤ s) (h : NearS x s r) (h0 : -8191 ≤ q) (hq : q ≤ 8191) : (x - LN r s ≤ x - LN q s ∨ x - LN r s ≤ LN q s - x) ∧ (LN r s - x ≤ x - LN q s ∨ LN r s - x ≤ LN q s - x) := by
  unfold NearS at h
  by_cases hx : x < 0
  · rw [if_pos hx] at h
    have a := near_best (q := -q) hs h (by omega) (by omega)
    rw [LN_neg hs] at a
    have e : LN r s = -ln (-r) s := by have := LN_neg (q := -r) hs; rwa [Int.neg_neg, LN_pos h.1] at this
    omega
  · rw [if_neg hx] at h
    have a := near_best (q := q) hs h (by omega) hq
    rw [LN_pos h.1]
    omega
theorem nearS_again {x s r q : Int} (hs : 0 ≤ s) (h : NearS x s r) (h0 : -8191 ≤ q) (hq : q ≤ 8191) (e : x = LN q s) : LN r s = x := by
  have := nearS_best hs h h0 hq
  omega
theorem nearS_mono {x y s r t : Int} (hs : 0 ≤ s) (hx : NearS x s r) (hy : NearS y s t) (h : x ≤ y) : r ≤ t := by
  unfold NearS at hx hy
  by_cases h1 : x < 0
  · rw [if_pos h1] at hx
    by_cases h2 : y < 0
    · rw [if_pos h2] at hy
      have := near_mono hs hy hx (by omega); omega
    · rw [if_neg h2] at hy
      have := hx.1; have := hy.1; omega
  · rw [if_neg h1] at hx
    rw [if_neg (by omega)] at hy
    exact near_mono hs hx hy h
theorem nearS_one {x s r t : Int} (hs : 0 ≤ s) (hx : NearS x s r) (hy : NearS x s t) : r = t := by
  have := nearS_mono hs hx hy (Int.le_refl _); have := nearS_mono hs hy hx (Int.le_refl _); omega

/-! ### Doubles -/
theorem ln_four {q s : Int} (hs : 0 ≤ s) (hs1 : s ≤ 251) (h0 : 0 ≤ q) (h : ln q (s + 4) < 268435455) : -1 ≤ ln q (s + 4) - 2 * ln q s ∧ ln q (s + 4) - 2 * ln q s ≤ 1 := by
  have eq : qt (s + 4) = qt s := by unfold qt; rw [show (s + 4) % 4 = s % 4 by omega]
  by_cases hb : 1 ≤ bt' s
  · have e3 : bt' (s + 4) = bt' s - 1 := by unfold bt' at *; omega
    unfold ln at h ⊢
    rw [eq, e3] at h ⊢
    have a := rnd_sum (n := fo q * qt s) (m := fo q * qt s) (bt'_bd hs).1
    rw [show fo q * qt s + fo q * qt s = 2 * (fo q * qt s) by omega, rnd_double hb] at a
    have b : rnd (fo q * qt s) (bt' s) ≤ rnd (fo q * qt s) (bt' s - 1) ∨ rnd (fo q * qt s) (bt' s) ≤ 1 := by
      by_cases hz : rnd (fo q * qt s) (bt' s) ≤ 1
      · exact .inr hz
      · exact .inl (by omega)
    omega
  · by_cases hz : q = 0
    · subst hz; rw [ln_zero hs, ln_zero (by omega)]; omega
    · exfalso
      have e3 : bt' (s + 4) = 0 := by unfold bt' at *; omega
      have f := fo_lo (q := q) (by omega)
      have g := (qt_bd s).1
      have : 4096 * 1073741824 ≤ fo q * qt s := Int.mul_le_mul f g (by omega) (by omega)
      unfold ln at h
      rw [eq, e3, show rnd (fo q * qt s) 0 = fo q * qt s from rfl] at h
      omega
theorem cb_eight {n : Int} (h : 0 ≤ n) : cbF (8 * n) = 2 * cbF n ∨ cbF (8 * n) = 2 * cbF n + 1 := by
  obtain ⟨a0, a1, a2⟩ := cbF_is h
  obtain ⟨b0, b1, b2⟩ := cbF_is (show 0 ≤ 8 * n by omega)
  generalize cbF n = r at *
  generalize cbF (8 * n) = R at *
  have cube : ∀ t : Int, (2 * t) * (2 * t) * (2 * t) = 8 * (t * t * t) := fun t => by grind
  have e1 : (2 * r) * (2 * r) * (2 * r) = 8 * (r * r * r) := cube r
  have e2 : (2 * r + 2) * (2 * r + 2) * (2 * r + 2) = 8 * ((r + 1) * (r + 1) * (r + 1)) := by
    rw [show 2 * r + 2 = 2 * (r + 1) by omega]
    exact cube (r + 1)
  have l1 : 2 * r < R + 1 := lt_of_cb (by omega) (by omega) (by rw [e1]; omega)
  have l2 : R < 2 * r + 2 := lt_of_cb (by omega) (by omega) (by rw [e2]; omega)
  omega
/-- The line of 8 times a number. -/
theorem ln_eight {q s f g : Int} (hs : 0 ≤ s) (h1 : 1 ≤ q) (hq : 8 * q ≤ 8191) (hc : ln (8 * q) s < 268435455) (hf : ln (8 * q) s ≤ 4096 * f + 4095) (hg : 0 ≤ g) : ln (8 * q) s - 16 * ln q s ≤ 16 + f + g ∧ 16 * ln q s - ln (8 * q) s ≤ 16 + f + g := by
  have hk := qt_bd s
  have c8 := cb_eight (n := q * 68719476736) (by omega)
  have lo := cb_lo (q := q) h1
  rw [show 8 * (q * 68719476736) = 8 * q * 68719476736 by omega] at c8
  have mono := ln_mono (p := q) (q := 8 * q) hs (by omega) (by omega)
  have eF : fo (8 * q) = 8 * q * cbF (8 * q * 68719476736) := rfl
  have ef : fo q = q * cbF (q * 68719476736) := rfl
  have f8 := fo_lo (q := 8 * q) (by omega)
  have hb : 1 ≤ bt' s := by
    refine Int.not_lt.1 fun h => ?_
    have e : bt' s = 0 := by have := (bt'_bd hs).1; omega
    have : 4096 * 1073741824 ≤ fo (8 * q) * qt s := Int.mul_le_mul f8 hk.1 (by omega) (by omega)
    unfold ln at hc
    rw [e, show rnd (fo (8 * q) * qt s) 0 = fo (8 * q) * qt s from rfl] at hc
    omega
  have eC : ln (8 * q) s = rnd (fo (8 * q) * qt s) (bt' s) := by unfold ln at hc ⊢; omega
  have eA : ln q s = rnd (fo q * qt s) (bt' s) := by unfold ln at mono hc ⊢; omega
  have n1 := rnd_near (n := fo (8 * q) * qt s) hb
  have n2 := rnd_near (n := fo q * qt s) hb
  have pw := pow_succ' hb
  have pp := pow_pos' ((bt' s).toNat - 1)
  rw [← eC] at n1
  rw [← eA] at n2
  generalize ln (8 * q) s = C at *
  generalize ln q s = A at *
  rw [pw] at n1 n2
  generalize (2 : Int) ^ ((bt' s).toNat - 1) = H at *
  -- the products
  obtain ⟨Y, hY⟩ : ∃ Y, q * qt s = Y := ⟨_, rfl⟩
  have Y0 : 0 ≤ Y := by rw [← hY]; exact Int.mul_nonneg (by omega) (by omega)
  have p2 : fo q * qt s = cbF (q * 68719476736) * Y := by rw [ef, ← hY, Int.mul_comm q, Int.mul_assoc]
  have p1 : fo (8 * q) * qt s = 8 * (cbF (8 * q * 68719476736) * Y) := by
    rw [eF, ← hY, Int.mul_comm (8 * q), Int.mul_assoc, show 8 * q * qt s = 8 * (q * qt s) by rw [Int.mul_assoc], Int.mul_left_comm]
  rw [p1] at n1
  rw [p2] at n2
  generalize cbF (q * 68719476736) = r at *
  have key : cbF (8 * q * 68719476736) * Y = 2 * (r * Y) ∨ cbF (8 * q * 68719476736) * Y = 2 * (r * Y) + Y := by
    rcases c8 with e | e
    · left; rw [e, Int.mul_assoc]
    · right; rw [e, Int.add_mul, Int.mul_assoc, Int.one_mul]
  have rl : 4096 * Y ≤ r * Y := Int.mul_le_mul_of_nonneg_right lo Y0
  generalize cbF (8 * q * 68719476736) * Y = R at *
  generalize r * Y = Z at *
  rw [show C * (2 * H) = 2 * (C * H) by rw [Int.mul_left_comm]] at n1
  rw [show A * (2 * H) = 2 * (A * H) by rw [Int.mul_left_comm]] at n2
  have fin : ∀ D : Int, D * H = C * H - 16 * (A * H) ∨ D * H = 16 * (A * H) - C * H → D ≤ 16 + f + g := fun D hD => by
    refine Int.not_lt.1 fun hlt => ?_
    have d1 : (17 + f) * H ≤ D * H := Int.mul_le_mul_of_nonneg_right (by omega) (by omega)
    have d2 : C * H ≤ (4096 * f + 4095) * H := Int.mul_le_mul_of_nonneg_right hf (by omega)
    rw [Int.add_mul] at d1 d2
    rw [Int.mul_assoc] at d2
    generalize D * H = DH at *
    generalize C * H = CH at *
    generalize A * H = AH at *
    generalize f * H = fH at *
    omega
  exact ⟨fin _ (.inl (by rw [Int.sub_mul, Int.mul_assoc])), fin _ (.inr (by rw [Int.sub_mul, Int.mul_assoc]))⟩

/-! ### The nearest one, as a function -/
theorem near_ex (x s : Int) : ∃ r, Near x s r := by
  have h : ∀ n : Nat, n ≤ 8191 → (∃ r, Near x s r) ∨ (n = 0 ∨ ln ((n : Int) - 1) s + ln n s < 2 * x) := by
    intro n
    induction n with
    | zero => intro _; exact .inr (.inl rfl)
    | succ n ih =>
      intro hn
      rcases ih (by omega) with h | h
      · exact .inl h
      · by_cases c : 2 * x ≤ ln (n : Int) s + ln ((n : Int) + 1) s
        · refine .inl ⟨n, by omega, by omega, .inr c, ?_⟩
          rcases h with rfl | h
          · exact .inl rfl
          · exact .inr h
        · refine .inr (.inr ?_)
          rw [show ((n + 1 : Nat) : Int) - 1 = n by omega, show ((n + 1 : Nat) : Int) = (n : Int) + 1 by omega]
          omega
  rcases h 8191 (by omega) with h | h
  · exact h
  · refine ⟨8191, by omega, by omega, .inl rfl, ?_⟩
    rcases h with h | h
    · omega
    · exact .inr h
noncomputable def nq (x s : Int) : Int := Classical.choose (near_ex x s)
theorem nq_is (x s : Int) : Near x s (nq x s) := Classical.choose_spec (near_ex x s)
theorem nq_of {x s r : Int} (hs : 0 ≤ s) (h : Near x s r) : r = nq x s := near_one hs h (nq_is x s)
noncomputable def NQ (x s : Int) : Int := if x < 0 then -nq (-x) s else nq x s
theorem NQ_is (x s : Int) : NearS x s (NQ x s) := by
  unfold NearS NQ
  by_cases h : x < 0
  · rw [if_pos h, if_pos h, Int.neg_neg]; exact nq_is _ _
  · rw [if_neg h, if_neg h]; exact nq_is _ _
/-- What the calls answer. -/
noncomputable def F4 (q : Int) : Int := if q < 0 ∨ 8191 < q then 0 else fo q
def E4 (q : Int) : Int := if q < 0 ∨ 8191 < q then 2 else 0
def badL (q s : Int) : Prop := q < -8191 ∨ 8191 < q ∨ s < 0 ∨ 255 < s
instance (q s : Int) : Decidable (badL q s) := by unfold badL; infer_instance
def badQ (x s : Int) : Prop := x < -268435455 ∨ 268435455 < x ∨ s < 0 ∨ 255 < s
instance (q s : Int) : Decidable (badQ q s) := by unfold badQ; infer_instance
noncomputable def FL (q s : Int) : Int := if badL q s then 0 else LN q s
def EL (q s : Int) : Int := if badL q s then 2 else 0
noncomputable def FQ (x s : Int) : Int := if badQ x s then 0 else NQ x s
def EQ (x s : Int) : Int := if badQ x s then 2 else 0
end Go.Proofs.YtanjcbnkkhbkkaaDoor.Fx

/- What fix's calls do. -/
namespace Go.Proofs.YtanjcbnkkhbkkaaDoor.Fx
open Go Go.ChangeShapes Go.WideShapes Go.ChangeAt Go.RowKit

theorem round_zero (n : Int) (w : World) (h1 : -4611686018427387904 ≤ n) (h2 : n ≤ 4611686018427387904) :
    Calls Tryd.prog 63 #[.int .i64 n, .int .i64 0] w fun e w' => e = .returned (.tuple #[.int .i64 n, .int .i64 0]) ∧ w = w' := by
  have c1 : ¬ n < -4611686018427387904 := by omega
  have c2 : ¬ 4611686018427387904 < n := by omega
  go_enter Tryd.func63, Tryd.ntmps63
  go_wp2
  go_ret2
  exact ⟨rfl, rfl⟩

theorem w64 {x : Int} (h1 : -9223372036854775808 ≤ x) (h2 : x ≤ 9223372036854775807) : wrap64 x = x := by unfold wrap64; omega
theorem pow61 {b : Int} (h4 : b ≤ 62) : (2 : Int) ^ (b.toNat - 1) ≤ 2305843009213693952 := by
  have := pow_le' (k := b.toNat - 1) (m := 61) (by omega)
  have e : (2 : Int) ^ 61 = 2305843009213693952 := by decide
  omega
theorem rnd_wrap {n b : Int} (h1 : -4611686018427387904 ≤ n) (h2 : n ≤ 4611686018427387904) (h3 : 1 ≤ b) (h4 : b ≤ 62) : wrap64 (n + wrap64 (2 ^ (b.toNat - 1))) / 2 ^ b.toNat = rnd n b := by
  have a := pow61 h4
  have c := pow_pos' (b.toNat - 1)
  rw [w64 (x := 2 ^ (b.toNat - 1)) (by omega) (by omega), w64 (by omega) (by omega)]
  unfold rnd
  rw [if_neg (by omega)]

theorem round_pos (n b : Int) (w : World) (h1 : -4611686018427387904 ≤ n) (h2 : n ≤ 4611686018427387904) (h3 : 1 ≤ b) (h4 : b ≤ 62) :
    Calls Tryd.prog 63 #[.int .i64 n, .int .i64 b] w fun e w' => e = .returned (.tuple #[.int .i64 (rnd n b), .int .i64 0]) ∧ w = w' := by
  have c1 : ¬ n < -4611686018427387904 := by omega
  have c2 : ¬ 4611686018427387904 < n := by omega
  have c3 : ¬ b < 0 := by omega
  have c4 : ¬ 62 < b := by omega
  have c5 : ¬ b = 0 := by omega
  rw [← rnd_wrap h1 h2 h3 h4]
  go_enter Tryd.func63, Tryd.ntmps63
  go_wp2
  go_ret2
  exact ⟨rfl, rfl⟩

theorem round_in (n b : Int) (w : World) (h1 : -4611686018427387904 ≤ n) (h2 : n ≤ 4611686018427387904) (h3 : 0 ≤ b) (h4 : b ≤ 62) :
    Calls Tryd.prog 63 #[.int .i64 n, .int .i64 b] w fun e w' => e = .returned (.tuple #[.int .i64 (rnd n b), .int .i64 0]) ∧ w = w' := by
  by_cases e : b = 0
  · subst e; exact round_zero n w h1 h2
  · exact round_pos n b w h1 h2 (by omega) h4

theorem round_out (n b : Int) (w : World) (h : n < -4611686018427387904 ∨ 4611686018427387904 < n ∨ b < 0 ∨ 62 < b) :
    Calls Tryd.prog 63 #[.int .i64 n, .int .i64 b] w fun e w' => e = .returned (.tuple #[.int .i64 0, .int .i64 2]) ∧ w = w' := by
  by_cases c1 : n < -4611686018427387904
  · go_enter Tryd.func63, Tryd.ntmps63
    go_wp2
    go_ret2
    exact ⟨rfl, rfl⟩
  by_cases c2 : 4611686018427387904 < n
  · go_enter Tryd.func63, Tryd.ntmps63
    go_wp2
    go_ret2
    exact ⟨rfl, rfl⟩
  by_cases c3 : b < 0
  · go_enter Tryd.func63, Tryd.ntmps63
    go_wp2
    go_ret2
    exact ⟨rfl, rfl⟩
  have c4 : 62 < b := by omega
  go_enter Tryd.func63, Tryd.ntmps63
  go_wp2
  go_ret2
  exact ⟨rfl, rfl⟩

theorem ret2 {a b c : Int} (h : a = b) : Ending.returned (.tuple #[.int .i64 a, .int .i64 c]) = .returned (.tuple #[.int .i64 b, .int .i64 c]) := by rw [h]

end Go.Proofs.YtanjcbnkkhbkkaaDoor.Fx

/- What fix's roots do. -/
namespace Go.Proofs.YtanjcbnkkhbkkaaDoor.Fx
open Go Go.ChangeShapes Go.WideShapes Go.ChangeAt Go.RowKit

theorem square_ok (r : Int) (w : World) : Calls Tryd.prog 68 #[.int .u64 r] w fun e w' => e = .returned (.int .u64 (IntKind.u64.wrap (r * r))) ∧ w = w' := by
  go_enter Tryd.func68, Tryd.ntmps68
  go_wp2
  go_ret
  exact ⟨rfl, rfl⟩
theorem cube_ok (r : Int) (w : World) : Calls Tryd.prog 81 #[.int .i64 r] w fun e w' => e = .returned (.int .i64 (wrap64 (wrap64 (r * r) * r))) ∧ w = w' := by
  go_enter Tryd.func81, Tryd.ntmps81
  go_wp2
  go_ret
  exact ⟨rfl, rfl⟩

theorem ofInt_nat {B : Nat} {x : Int} (h0 : 0 ≤ x) (h1 : x < 2 ^ B) : (BitVec.ofInt B x).toNat = x.toNat := by
  rw [BitVec.toNat_ofInt, Int.emod_eq_of_lt h0 (by simpa using h1)]
theorem or_u64 {x y : Int} (h0 : 0 ≤ x) (h1 : x < 2 ^ 64) (h2 : 0 ≤ y) (h3 : y < 2 ^ 64) : bits .or .u64 x y = ((x.toNat ||| y.toNat : Nat) : Int) := by
  have a1 : (BitVec.ofInt IntKind.u64.bits x).toNat = x.toNat := ofInt_nat h0 (show x < 2 ^ 64 by omega)
  have a2 : (BitVec.ofInt IntKind.u64.bits y).toNat = y.toNat := ofInt_nat h2 (show y < 2 ^ 64 by omega)
  have e : bits .or .u64 x y = IntKind.u64.wrap (((BitVec.ofInt IntKind.u64.bits x ||| BitVec.ofInt IntKind.u64.bits y).toNat : Nat) : Int) := rfl
  rw [e, BitVec.toNat_or, a1, a2]
  have : x.toNat ||| y.toNat < 2 ^ 64 := Nat.or_lt_two_pow (by omega) (by omega)
  simp [IntKind.wrap, IntKind.bits, IntKind.signed]
  omega
theorem or_i64 {x y : Int} (h0 : 0 ≤ x) (h1 : x < 2 ^ 63) (h2 : 0 ≤ y) (h3 : y < 2 ^ 63) : bits .or .i64 x y = ((x.toNat ||| y.toNat : Nat) : Int) := by
  have a1 : (BitVec.ofInt IntKind.i64.bits x).toNat = x.toNat := ofInt_nat h0 (show x < 2 ^ 64 by omega)
  have a2 : (BitVec.ofInt IntKind.i64.bits y).toNat = y.toNat := ofInt_nat h2 (show y < 2 ^ 64 by omega)
  have e : bits .or .i64 x y = IntKind.i64.wrap (((BitVec.ofInt IntKind.i64.bits x ||| BitVec.ofInt IntKind.i64.bits y).toNat : Nat) : Int) := rfl
  rw [e, BitVec.toNat_or, a1, a2]
  have : x.toNat ||| y.toNat < 2 ^ 63 := Nat.or_lt_two_pow (by omega) (by omega)
  simp [IntKind.wrap, IntKind.bits, IntKind.signed]
  omega

def bt : Nat → Int
  | 0 => 0
  | k + 1 => 2 ^ k
theorem bt_half (k : Nat) : (2 : Int) ^ k / 2 = bt k := by
  cases k with
  | zero => rfl
  | succ k => rw [psucc]; simp [bt]
theorem bt_lt (k : Nat) : bt k < 2 ^ k := by
  cases k with
  | zero => decide
  | succ k => have := ppos k; rw [psucc]; simp [bt]; omega
theorem bt_nn (k : Nat) : 0 ≤ bt k := by
  cases k with
  | zero => decide
  | succ k => have := ppos k; simp [bt]; omega
theorem u64_in {x : Int} (h0 : 0 ≤ x) (h1 : x < 18446744073709551616) : IntKind.u64.wrap x = x := by
  simp [IntKind.wrap, IntKind.bits, IntKind.signed]; omega

theorem root_sq (n : Int) (w : World) (h0 : 0 ≤ n) (h1 : n ≤ 4611686018427387904) :
    Calls Tryd.prog 69 #[.int .u64 n, .int .i64 31, .func (.func 68) #[] #[]] w fun e w' => ∃ r, IsSqrt n r ∧ e = .returned (.int .u64 r) ∧ w = w' := by
  have hs := sq_start h0 h1
  go_enter Tryd.func69, Tryd.ntmps69
  go_wp2
  go_loop [7, 8] (fun r b => ∃ (k : Nat) (R : Int), k ≤ 32 ∧ Sq n R k ∧ r = .int .u64 R ∧ b = .int .u64 (bt k)) (fun _ b => (intOf b).toNat)
  case atStart => exact ⟨32, 0, by omega, hs, rfl, rfl⟩
  case round =>
    obtain ⟨k, R, hk, hq, rfl, rfl⟩ := hrel
    cases k with
    | zero =>
      have b0 : ¬ 0 < bt 0 := by decide
      go_wp2
      go_ret
      exact ⟨R, sq_end hq, rfl, rfl⟩
    | succ k =>
      have p := ppos k
      have q1 := sq_bd hq
      have q0 := nn hq.1
      have b0 : 0 < bt (k + 1) := p
      have e1 : bits BinOp.or IntKind.u64 R (bt (k + 1)) = R + 2 ^ k := by
        obtain ⟨s, hs'⟩ := hq.1
        rw [show bt (k + 1) = 2 ^ k from rfl, or_u64 q0 (by omega) (by omega) (by omega)]
        exact or_of hs'
      have e2 : bt (k + 1) / 2 = bt k := bt_half k
      obtain ⟨q2, q3, q4, q5⟩ := q1
      have e3 : IntKind.u64.wrap ((R + 2 ^ k) * (R + 2 ^ k)) = (R + 2 ^ k) * (R + 2 ^ k) := u64_in q5 q4
      have e4 : bt k < bt (k + 1) := bt_lt k
      have e5 := bt_nn k
      by_cases hc : (R + 2 ^ k) * (R + 2 ^ k) ≤ n
      · have hy := sq_yes hq hc
        go_wp2
        go_round
        case rel => exact ⟨k, R + 2 ^ k, by omega, hy, rfl, rfl⟩
        case measure => simp [intOf]; omega
      · have hy := sq_no hq hc
        go_wp2
        go_round
        case rel => exact ⟨k, R, by omega, hy, rfl, rfl⟩
        case measure => simp [intOf]; omega

theorem root_cb (n : Int) (w : World) (h0 : 0 ≤ n) (h1 : n ≤ 4611686018427387904) :
    Calls Tryd.prog 82 #[.int .i64 n, .int .i64 20, .func (.func 81) #[] #[]] w fun e w' => ∃ r, IsCbrt n r ∧ e = .returned (.int .i64 r) ∧ w = w' := by
  have hs := cb_start h0 h1
  go_enter Tryd.func82, Tryd.ntmps82
  go_wp2
  go_loop [7, 8] (fun r b => ∃ (k : Nat) (R : Int), k ≤ 21 ∧ Cb n R k ∧ r = .int .i64 R ∧ b = .int .i64 (bt k)) (fun _ b => (intOf b).toNat)
  case atStart => exact ⟨21, 0, by omega, hs, rfl, rfl⟩
  case round =>
    obtain ⟨k, R, hk, hq, rfl, rfl⟩ := hrel
    cases k with
    | zero =>
      have b0 : ¬ 0 < bt 0 := by decide
      go_wp2
      go_ret
      exact ⟨R, cb_end hq, rfl, rfl⟩
    | succ k =>
      have p := ppos k
      have q1 := cb_bd hq
      have q0 := nn hq.1
      have b0 : 0 < bt (k + 1) := p
      obtain ⟨q2, q3, q4, q5, q6, q7⟩ := q1
      have e1 : bits BinOp.or IntKind.i64 R (bt (k + 1)) = R + 2 ^ k := by
        obtain ⟨s, hs'⟩ := hq.1
        rw [show bt (k + 1) = 2 ^ k from rfl, or_i64 q0 (by omega) (by omega) (by omega)]
        exact or_of hs'
      have e2 : bt (k + 1) / 2 = bt k := bt_half k
      have e3 : wrap64 ((R + 2 ^ k) * (R + 2 ^ k)) = (R + 2 ^ k) * (R + 2 ^ k) := w64 (by omega) (by omega)
      have e6 : wrap64 ((R + 2 ^ k) * (R + 2 ^ k) * (R + 2 ^ k)) = (R + 2 ^ k) * (R + 2 ^ k) * (R + 2 ^ k) := w64 (by omega) (by omega)
      have e4 : bt k < bt (k + 1) := bt_lt k
      have e5 := bt_nn k
      by_cases hc : (R + 2 ^ k) * (R + 2 ^ k) * (R + 2 ^ k) ≤ n
      · have hy := cb_yes hq hc
        go_wp2
        go_round
        case rel => exact ⟨k, R + 2 ^ k, by omega, hy, rfl, rfl⟩
        case measure => simp [intOf]; omega
      · have hy := cb_no hq hc
        go_wp2
        go_round
        case rel => exact ⟨k, R, by omega, hy, rfl, rfl⟩
        case measure => simp [intOf]; omega

theorem sqrt_in (n : Int) (w : World) (h0 : 0 ≤ n) (h1 : n ≤ 4611686018427387904) :
    Calls Tryd.prog 50 #[.int .i64 n] w fun e w' => ∃ r, IsSqrt n r ∧ e = .returned (.tuple #[.int .i64 r, .int .i64 0]) ∧ w = w' := by
  have c1 : ¬ n < 0 := by omega
  have c2 : ¬ 4611686018427387904 < n := by omega
  have c3 : IntKind.u64.wrap n = n := u64_in h0 (by omega)
  go_enter Tryd.func50, Tryd.ntmps50
  go_wp2_with (go_at_call 69; refine (root_sq _ _ (by omega) (by omega)).mono ?_; rintro e w' ⟨r, hr, rfl, rfl⟩; have hr1 := sqrt_bd hr h1; have hr0 := hr.1)
  go_ret2
  exact ⟨_, ‹_›, rfl, rfl⟩
theorem cbrt_in (n : Int) (w : World) (h0 : 0 ≤ n) (h1 : n ≤ 4611686018427387904) :
    Calls Tryd.prog 61 #[.int .i64 n] w fun e w' => ∃ r, IsCbrt n r ∧ e = .returned (.tuple #[.int .i64 r, .int .i64 0]) ∧ w = w' := by
  have c1 : ¬ n < 0 := by omega
  have c2 : ¬ 4611686018427387904 < n := by omega
  go_enter Tryd.func61, Tryd.ntmps61
  go_wp2_with (go_at_call 82; refine (root_cb _ _ (by omega) (by omega)).mono ?_; rintro e w' ⟨r, hr, rfl, rfl⟩; have hr1 := cbrt_bd hr h1; have hr0 := hr.1)
  go_ret2
  exact ⟨_, ‹_›, rfl, rfl⟩
theorem sqrt_out (n : Int) (w : World) (h : n < 0 ∨ 4611686018427387904 < n) :
    Calls Tryd.prog 50 #[.int .i64 n] w fun e w' => e = .returned (.tuple #[.int .i64 0, .int .i64 2]) ∧ w = w' := by
  by_cases c1 : n < 0
  · go_enter Tryd.func50, Tryd.ntmps50
    go_wp2
    go_ret2
    exact ⟨rfl, rfl⟩
  have c2 : 4611686018427387904 < n := by omega
  go_enter Tryd.func50, Tryd.ntmps50
  go_wp2
  go_ret2
  exact ⟨rfl, rfl⟩
theorem cbrt_out (n : Int) (w : World) (h : n < 0 ∨ 4611686018427387904 < n) :
    Calls Tryd.prog 61 #[.int .i64 n] w fun e w' => e = .returned (.tuple #[.int .i64 0, .int .i64 2]) ∧ w = w' := by
  by_cases c1 : n < 0
  · go_enter Tryd.func61, Tryd.ntmps61
    go_wp2
    go_ret2
    exact ⟨rfl, rfl⟩
  have c2 : 4611686018427387904 < n := by omega
  go_enter Tryd.func61, Tryd.ntmps61
  go_wp2
  go_ret2
  exact ⟨rfl, rfl⟩
end Go.Proofs.YtanjcbnkkhbkkaaDoor.Fx

/- What the document's own answers of fix do. -/
namespace Go.Proofs.YtanjcbnkkhbkkaaDoor.Fx
open Go Go.ChangeShapes Go.WideShapes Go.ChangeAt Go.RowKit

theorem rnd_parts {n b : Int} (hb : 1 ≤ b) : ∃ q r : Int, n / 2 ^ b.toNat = q ∧ q * 2 ^ b.toNat + r = n ∧ 0 ≤ r ∧ r < 2 ^ b.toNat ∧ (rnd n b = if 2 ^ (b.toNat - 1) ≤ r then q + 1 else q) := by
  obtain ⟨H, h0, e0, e1, e2⟩ := rnd_at (n := n) hb
  have l := div_lo (x := n) (d := 2 * H) (by omega)
  have u := div_hi (x := n) (d := 2 * H) (by omega)
  refine ⟨n / 2 ^ b.toNat, n - n / 2 ^ b.toNat * 2 ^ b.toNat, rfl, by omega, ?_, ?_, ?_⟩
  · rw [e1]; omega
  · rw [e1]; omega
  · rw [e2, ← e0, e1]
    generalize n / (2 * H) = q at *
    split
    · rw [show n + H = (n + H - (q + 1) * (2 * H)) + (q + 1) * (2 * H) by omega, Int.add_mul_ediv_right _ _ (by omega), Int.ediv_eq_zero_of_lt (by rw [Int.add_mul]; omega) (by rw [Int.add_mul]; omega)]
      omega
    · rw [show n + H = (n + H - q * (2 * H)) + q * (2 * H) by omega, Int.add_mul_ediv_right _ _ (by omega), Int.ediv_eq_zero_of_lt (by omega) (by omega)]
      omega

theorem down_zero (n : Int) (w : World) :
    Calls Tryd.prog 64 #[.int .i64 n, .int .i64 0] w fun e w' => e = .returned (.int .i64 n) ∧ w = w' := by
  go_enter Tryd.func64, Tryd.ntmps64
  go_wp2
  go_ret
  exact ⟨rfl, rfl⟩

theorem ret1 {a b : Int} (h : a = b) : Ending.returned (.int .i64 a) = .returned (.int .i64 b) := by rw [h]

set_option maxHeartbeats 2000000 in
theorem down_pos (n b : Int) (w : World) (h1 : -4611686018427387904 ≤ n) (h2 : n ≤ 4611686018427387904) (h3 : 1 ≤ b) (h4 : b ≤ 62) :
    Calls Tryd.prog 64 #[.int .i64 n, .int .i64 b] w fun e w' => e = .returned (.int .i64 (rnd n b)) ∧ w = w' := by
  have c0 : (b == 0) = false := by simp; omega
  obtain ⟨q, r, e1, e2, e3, e4, e5⟩ := rnd_parts (n := n) h3
  have p0 := pow_pos' (b.toNat - 1)
  have p1 := pow61 h4
  have p2 := pow_succ' h3
  have x1 : wrap64 (2 ^ (b.toNat - 1)) = 2 ^ (b.toNat - 1) := w64 (by omega) (by omega)
  have key : ∀ P T H : Int, P + r = n → r < T → T = 2 * H → H ≤ 2305843009213693952 → wrap64 P = P ∧ wrap64 (n - P) = r := fun P T H g1 g2 g3 g4 =>
    ⟨w64 (by omega) (by omega), by rw [w64 (by omega) (by omega)]; omega⟩
  obtain ⟨x2, x3⟩ := key _ _ _ e2 e4 p2 p1
  clear key
  have q1 : -9223372036854775808 ≤ q ∧ q + 1 ≤ 9223372036854775807 := by
    have := rnd_bd (n := n) (b := b) (by omega) h1 h2
    clear e2 e4 p2 x1 x2 x3 e1 p1 p0
    split at e5 <;> omega
  obtain ⟨q1, q2⟩ := q1
  have E5 := Lib.hid e5
  clear e5 p2 e2 e4
  by_cases hr : 2 ^ (b.toNat - 1) ≤ r
  · go_enter Tryd.func64, Tryd.ntmps64
    go_wp2
    go_ret
    exact ⟨ret1 (by rw [E5.out, if_pos hr]), rfl⟩
  · go_enter Tryd.func64, Tryd.ntmps64
    go_wp2
    go_ret
    exact ⟨ret1 (by rw [E5.out, if_neg (Int.not_le.2 hr)]), rfl⟩

theorem down_in (n b : Int) (w : World) (h1 : -4611686018427387904 ≤ n) (h2 : n ≤ 4611686018427387904) (h3 : 0 ≤ b) (h4 : b ≤ 62) :
    Calls Tryd.prog 64 #[.int .i64 n, .int .i64 b] w fun e w' => e = .returned (.int .i64 (rnd n b)) ∧ w = w' := by
  by_cases e : b = 0
  · subst e; exact down_zero n w
  · exact down_pos n b w h1 h2 (by omega) h4

theorem le_div {c n : Int} (h : 0 < c) : c ≤ n / c ↔ c * c ≤ n := Int.le_ediv_iff_mul_le h
theorem le_div2 {c n : Int} (h : 0 < c) : c * c ≤ n / c ↔ c * c * c ≤ n := Int.le_ediv_iff_mul_le h

theorem rroot (n : Int) (w : World) (h0 : 0 ≤ n) (h1 : n ≤ 4611686018427387904) :
    Calls Tryd.prog 71 #[.int .i64 n] w fun e w' => ∃ r, IsSqrt n r ∧ e = .returned (.int .i64 r) ∧ w = w' := by
  have hs := sq_start h0 h1
  go_enter Tryd.func71, Tryd.ntmps71
  go_wp2
  go_loop [3, 4] (fun r b => ∃ (k : Nat) (R : Int), k ≤ 32 ∧ Sq n R k ∧ r = .int .i64 R ∧ b = .int .i64 (bt k)) (fun _ b => (intOf b).toNat)
  case atStart => exact ⟨32, 0, by omega, hs, rfl, rfl⟩
  case round =>
    obtain ⟨k, R, hk, hq, rfl, rfl⟩ := hrel
    cases k with
    | zero =>
      have b0 : ¬ 0 < bt 0 := by decide
      go_wp2
      go_ret
      exact ⟨R, sq_end hq, rfl, rfl⟩
    | succ k =>
      have p := ppos k
      have q1 := sq_bd hq
      have q0 := nn hq.1
      have b0 : 0 < bt (k + 1) := p
      have e2 : bt (k + 1) / 2 = bt k := bt_half k
      obtain ⟨q2, q3, q4, q5⟩ := q1
      have e4 : bt k < bt (k + 1) := bt_lt k
      have e5 := bt_nn k
      have e6 : R + bt (k + 1) = R + 2 ^ k := rfl
      have q2' : 0 < R + bt (k + 1) := by omega
      have q3' : R + bt (k + 1) < 4294967296 := by omega
      by_cases hc : (R + 2 ^ k) * (R + 2 ^ k) ≤ n
      · have hy := sq_yes hq hc
        have hd : R + bt (k + 1) ≤ n / (R + bt (k + 1)) := (le_div q2').2 hc
        clear e6
        go_wp2
        go_round
        case rel => exact ⟨k, R + 2 ^ k, by omega, hy, rfl, by rw [e2]⟩
        case measure => simp [intOf]; omega
      · have hy := sq_no hq hc
        have hd : ¬ R + bt (k + 1) ≤ n / (R + bt (k + 1)) := fun h => hc ((le_div q2').1 h)
        clear e6
        go_wp2
        go_round
        case rel => exact ⟨k, R, by omega, hy, rfl, by rw [e2]⟩
        case measure => simp [intOf]; omega

theorem rthird (n : Int) (w : World) (h0 : 0 ≤ n) (h1 : n ≤ 4611686018427387904) :
    Calls Tryd.prog 62 #[.int .i64 n] w fun e w' => ∃ r, IsCbrt n r ∧ e = .returned (.int .i64 r) ∧ w = w' := by
  have hs := cb_start h0 h1
  go_enter Tryd.func62, Tryd.ntmps62
  go_wp2
  go_loop [3, 4] (fun r b => ∃ (k : Nat) (R : Int), k ≤ 21 ∧ Cb n R k ∧ r = .int .i64 R ∧ b = .int .i64 (bt k)) (fun _ b => (intOf b).toNat)
  case atStart => exact ⟨21, 0, by omega, hs, rfl, rfl⟩
  case round =>
    obtain ⟨k, R, hk, hq, rfl, rfl⟩ := hrel
    cases k with
    | zero =>
      have b0 : ¬ 0 < bt 0 := by decide
      go_wp2
      go_ret
      exact ⟨R, cb_end hq, rfl, rfl⟩
    | succ k =>
      have p := ppos k
      have q1 := cb_bd hq
      have q0 := nn hq.1
      have b0 : 0 < bt (k + 1) := p
      have e2 : bt (k + 1) / 2 = bt k := bt_half k
      obtain ⟨q2, q3, q4, q5, q6, q7⟩ := q1
      have e4 : bt k < bt (k + 1) := bt_lt k
      have e5 := bt_nn k
      have e6 : R + bt (k + 1) = R + 2 ^ k := rfl
      have q2' : 0 < R + bt (k + 1) := by omega
      have q3' : R + bt (k + 1) < 4294967296 := by omega
      have q4' : 0 ≤ (R + bt (k + 1)) * (R + bt (k + 1)) := q4
      have q5' : (R + bt (k + 1)) * (R + bt (k + 1)) < 4398046511104 := q5
      by_cases hc : (R + 2 ^ k) * (R + 2 ^ k) * (R + 2 ^ k) ≤ n
      · have hy := cb_yes hq hc
        have hd : (R + bt (k + 1)) * (R + bt (k + 1)) ≤ n / (R + bt (k + 1)) := (le_div2 q2').2 hc
        clear e6
        go_wp2
        go_round
        case rel => exact ⟨k, R + 2 ^ k, by omega, hy, rfl, by rw [e2]⟩
        case measure => simp [intOf]; omega
      · have hy := cb_no hq hc
        have hd : ¬ (R + bt (k + 1)) * (R + bt (k + 1)) ≤ n / (R + bt (k + 1)) := fun h => hc ((le_div2 q2').1 h)
        clear e6
        go_wp2
        go_round
        case rel => exact ⟨k, R, by omega, hy, rfl, by rw [e2]⟩
        case measure => simp [intOf]; omega

end Go.Proofs.YtanjcbnkkhbkkaaDoor.Fx

/- What power's calls do. -/
namespace Go.Proofs.YtanjcbnkkhbkkaaDoor.Fx
open Go Go.ChangeShapes Go.WideShapes Go.ChangeAt Go.RowKit

/-- The table. -/
def Qs (w : World) : Prop := w.cell? ⟨0, 0, none⟩ = some (.int .i64 1073741824) ∧ w.cell? ⟨0, 1, none⟩ = some (.int .i64 1276901417) ∧ w.cell? ⟨0, 2, none⟩ = some (.int .i64 1518500250) ∧ w.cell? ⟨0, 3, none⟩ = some (.int .i64 1805811301)
theorem Qs.drewN {w : World} (h : Qs w) (n : Nat) : Qs (w.drewN n) := by
  unfold Qs at *
  simpa using h
theorem same_q {f : FuncId} {args : Array Value} {w : World} {v : Value} (h : Calls Tryd.prog f args w fun e w' => e = .returned v ∧ w = w') : Calls Tryd.prog f args w fun e w' => e = .returned v ∧ w' = w := h.mono fun _ _ h => ⟨h.1, h.2.symm⟩
theorem drewN_zero (w : World) : ∃ m, w = w.drewN m := ⟨0, rfl⟩

theorem four_ok (q : Int) (w : World) (h0 : 0 ≤ q) (h1 : q ≤ 8191) : Calls Tryd.prog 41 #[.int .i64 q] w fun e w' => e = .returned (.int .i64 (fo q)) ∧ w = w' := by
  obtain ⟨b1, b2⟩ := fo_bd h0 h1
  unfold fo at *
  have e1 : wrap64 (q * 68719476736) = q * 68719476736 := w64 (by omega) (by omega)
  have hb := cb_hi h0 h1
  have hb0 := cb_nn h0
  have HF : Hid (∀ r, IsCbrt (q * 68719476736) r → r = cbF (q * 68719476736)) := Lib.hid fun r hr => cbF_of hr
  generalize cbF (q * 68719476736) = c at *
  go_enter Tryd.func41, Tryd.ntmps41
  go_wp2_with (go_at_call 61; ((with_reducible refine (cbrt_in (q * 68719476736) _ (by omega) (by omega)).mono ?_); rintro e w' ⟨r, hr, rfl, rfl⟩; obtain rfl := HF.out r hr))
  go_ret
  exact ⟨rfl, rfl⟩
theorem line_0 (q s : Int) (w : World) (h0 : 0 ≤ q) (h1 : q ≤ 8191) (s0 : 0 ≤ s) (s1 : s ≤ 255) (hq : Qs w) (hm : s % 4 = 0) : Calls Tryd.prog 43 #[.int .i64 q, .int .i64 s] w fun e w' => e = .returned (.int .i64 (ln q s)) ∧ ∃ m, w' = w.drewN m := by
  have eq : qt s = 1073741824 := by unfold qt; omega
  obtain ⟨p0, p1⟩ := pr_bd (s := s) h0 h1
  obtain ⟨c0, c1, c2, c3⟩ := hq
  obtain ⟨b0, b1⟩ := bt'_bd s0
  rw [eq] at p0 p1
  have ht : Int.tmod s 4 = 0 := by rw [Int.tmod_eq_emod_of_nonneg s0]; exact hm
  have hd : Int.tdiv s 4 = s / 4 := Int.tdiv_eq_ediv_of_nonneg s0
  have HF := Lib.hid (four_ok q)
  have HB := Lib.hid (show (if 61 - s / 4 < 0 then 0 else 61 - s / 4) = bt' s by unfold bt'; omega)
  have HL := Lib.hid (show (if 268435455 < rnd (fo q * 1073741824) (bt' s) then 268435455 else rnd (fo q * 1073741824) (bt' s)) = ln q s by unfold ln; rw [eq]; omega)
  generalize bt' s = B at *
  generalize fo q = F at *
  go_enter Tryd.func43, Tryd.ntmps43
  go_wp2
  go_quiet ((first | (go_at_call 41; exact Calls.quiet_of_same (same_q (HF.out _ h0 h1))) | (go_at_call 63; rw [HB.out]; exact Calls.quiet_of_same (same_q (round_in _ _ _ (by omega) (by omega) b0 (by omega))))))
  go_wp2
  all_goals
    go_ret
    refine ⟨ret1 ?_, _, rfl⟩
    have := HL.out
    omega
theorem line_1 (q s : Int) (w : World) (h0 : 0 ≤ q) (h1 : q ≤ 8191) (s0 : 0 ≤ s) (s1 : s ≤ 255) (hq : Qs w) (hm : s % 4 = 1) : Calls Tryd.prog 43 #[.int .i64 q, .int .i64 s] w fun e w' => e = .returned (.int .i64 (ln q s)) ∧ ∃ m, w' = w.drewN m := by
  have eq : qt s = 1276901417 := by unfold qt; omega
  obtain ⟨p0, p1⟩ := pr_bd (s := s) h0 h1
  obtain ⟨c0, c1, c2, c3⟩ := hq
  obtain ⟨b0, b1⟩ := bt'_bd s0
  rw [eq] at p0 p1
  have ht : Int.tmod s 4 = 1 := by rw [Int.tmod_eq_emod_of_nonneg s0]; exact hm
  have hd : Int.tdiv s 4 = s / 4 := Int.tdiv_eq_ediv_of_nonneg s0
  have HF := Lib.hid (four_ok q)
  have HB := Lib.hid (show (if 61 - s / 4 < 0 then 0 else 61 - s / 4) = bt' s by unfold bt'; omega)
  have HL := Lib.hid (show (if 268435455 < rnd (fo q * 1276901417) (bt' s) then 268435455 else rnd (fo q * 1276901417) (bt' s)) = ln q s by unfold ln; rw [eq]; omega)
  generalize bt' s = B at *
  generalize fo q = F at *
  go_enter Tryd.func43, Tryd.ntmps43
  go_wp2
  go_quiet ((first | (go_at_call 41; exact Calls.quiet_of_same (same_q (HF.out _ h0 h1))) | (go_at_call 63; rw [HB.out]; exact Calls.quiet_of_same (same_q (round_in _ _ _ (by omega) (by omega) b0 (by omega))))))
  go_wp2
  all_goals
    go_ret
    refine ⟨ret1 ?_, _, rfl⟩
    have := HL.out
    omega
theorem line_2 (q s : Int) (w : World) (h0 : 0 ≤ q) (h1 : q ≤ 8191) (s0 : 0 ≤ s) (s1 : s ≤ 255) (hq : Qs w) (hm : s % 4 = 2) : Calls Tryd.prog 43 #[.int .i64 q, .int .i64 s] w fun e w' => e = .returned (.int .i64 (ln q s)) ∧ ∃ m, w' = w.drewN m := by
  have eq : qt s = 1518500250 := by unfold qt; omega
  obtain ⟨p0, p1⟩ := pr_bd (s := s) h0 h1
  obtain ⟨c0, c1, c2, c3⟩ := hq
  obtain ⟨b0, b1⟩ := bt'_bd s0
  rw [eq] at p0 p1
  have ht : Int.tmod s 4 = 2 := by rw [Int.tmod_eq_emod_of_nonneg s0]; exact hm
  have hd : Int.tdiv s 4 = s / 4 := Int.tdiv_eq_ediv_of_nonneg s0
  have HF := Lib.hid (four_ok q)
  have HB := Lib.hid (show (if 61 - s / 4 < 0 then 0 else 61 - s / 4) = bt' s by unfold bt'; omega)
  have HL := Lib.hid (show (if 268435455 < rnd (fo q * 1518500250) (bt' s) then 268435455 else rnd (fo q * 1518500250) (bt' s)) = ln q s by unfold ln; rw [eq]; omega)
  generalize bt' s = B at *
  generalize fo q = F at *
  go_enter Tryd.func43, Tryd.ntmps43
  go_wp2
  go_quiet ((first | (go_at_call 41; exact Calls.quiet_of_same (same_q (HF.out _ h0 h1))) | (go_at_call 63; rw [HB.out]; exact Calls.quiet_of_same (same_q (round_in _ _ _ (by omega) (by omega) b0 (by omega))))))
  go_wp2
  all_goals
    go_ret
    refine ⟨ret1 ?_, _, rfl⟩
    have := HL.out
    omega
theorem line_3 (q s : Int) (w : World) (h0 : 0 ≤ q) (h1 : q ≤ 8191) (s0 : 0 ≤ s) (s1 : s ≤ 255) (hq : Qs w) (hm : s % 4 = 3) : Calls Tryd.prog 43 #[.int .i64 q, .int .i64 s] w fun e w' => e = .returned (.int .i64 (ln q s)) ∧ ∃ m, w' = w.drewN m := by
  have eq : qt s = 1805811301 := by unfold qt; omega
  obtain ⟨p0, p1⟩ := pr_bd (s := s) h0 h1
  obtain ⟨c0, c1, c2, c3⟩ := hq
  obtain ⟨b0, b1⟩ := bt'_bd s0
  rw [eq] at p0 p1
  have ht : Int.tmod s 4 = 3 := by rw [Int.tmod_eq_emod_of_nonneg s0]; exact hm
  have hd : Int.tdiv s 4 = s / 4 := Int.tdiv_eq_ediv_of_nonneg s0
  have HF := Lib.hid (four_ok q)
  have HB := Lib.hid (show (if 61 - s / 4 < 0 then 0 else 61 - s / 4) = bt' s by unfold bt'; omega)
  have HL := Lib.hid (show (if 268435455 < rnd (fo q * 1805811301) (bt' s) then 268435455 else rnd (fo q * 1805811301) (bt' s)) = ln q s by unfold ln; rw [eq]; omega)
  generalize bt' s = B at *
  generalize fo q = F at *
  go_enter Tryd.func43, Tryd.ntmps43
  go_wp2
  go_quiet ((first | (go_at_call 41; exact Calls.quiet_of_same (same_q (HF.out _ h0 h1))) | (go_at_call 63; rw [HB.out]; exact Calls.quiet_of_same (same_q (round_in _ _ _ (by omega) (by omega) b0 (by omega))))))
  go_wp2
  all_goals
    go_ret
    refine ⟨ret1 ?_, _, rfl⟩
    have := HL.out
    omega
theorem line_ok (q s : Int) (w : World) (h0 : 0 ≤ q) (h1 : q ≤ 8191) (s0 : 0 ≤ s) (s1 : s ≤ 255) (hq : Qs w) : Calls Tryd.prog 43 #[.int .i64 q, .int .i64 s] w fun e w' => e = .returned (.int .i64 (ln q s)) ∧ ∃ m, w' = w.drewN m := by
  obtain h | h | h | h : s % 4 = 0 ∨ s % 4 = 1 ∨ s % 4 = 2 ∨ s % 4 = 3 := by omega
  · exact line_0 q s w h0 h1 s0 s1 hq h
  · exact line_1 q s w h0 h1 s0 s1 hq h
  · exact line_2 q s w h0 h1 s0 s1 hq h
  · exact line_3 q s w h0 h1 s0 s1 hq h

theorem quarter_K (k : Int) (w : World) (h0 : 0 ≤ k) (h1 : k ≤ 3) : Calls Tryd.prog 65 #[.int .i64 k] w fun e w' => e = .returned (.int .i64 (qt k)) ∧ w = w' := by
  obtain rfl | rfl | rfl | rfl : k = 0 ∨ k = 1 ∨ k = 2 ∨ k = 3 := by omega
  all_goals
    go_enter Tryd.func65, Tryd.ntmps65
    go_wp2
    go_ret
    exact ⟨rfl, rfl⟩
theorem power_ok (q : Int) (w : World) (h0 : 0 ≤ q) (h1 : q ≤ 8191) : Calls Tryd.prog 42 #[.int .i64 q] w fun e w' => e = .returned (.int .i64 (fo q)) ∧ w = w' := by
  obtain ⟨b1, b2⟩ := fo_bd h0 h1
  unfold fo at *
  have hb := cb_hi h0 h1
  have hb0 := cb_nn h0
  have HF : Hid (∀ r, IsCbrt (q * 68719476736) r → r = cbF (q * 68719476736)) := Lib.hid fun r hr => cbF_of hr
  generalize cbF (q * 68719476736) = c at *
  go_enter Tryd.func42, Tryd.ntmps42
  go_wp2_with (go_at_call 62; ((with_reducible refine (rthird (q * 68719476736) _ (by omega) (by omega)).mono ?_); rintro e w' ⟨r, hr, rfl, rfl⟩; obtain rfl := HF.out r hr))
  go_ret
  exact ⟨rfl, rfl⟩
theorem value_pos (q s : Int) (w : World) (h0 : 0 ≤ q) (h1 : q ≤ 8191) (s0 : 0 ≤ s) (s1 : s ≤ 255) : Calls Tryd.prog 44 #[.int .i64 q, .int .i64 s] w fun e w' => e = .returned (.int .i64 (ln q s)) ∧ w = w' := by
  obtain ⟨p0, p1⟩ := pr_bd (s := s) h0 h1
  obtain ⟨b0, b1⟩ := bt'_bd s0
  have hqt : qt (s % 4) = qt s := by unfold qt; rw [show s % 4 % 4 = s % 4 by omega]
  have ht : Int.tmod s 4 = s % 4 := Int.tmod_eq_emod_of_nonneg s0
  have hd : Int.tdiv s 4 = s / 4 := Int.tdiv_eq_ediv_of_nonneg s0
  have HF := Lib.hid (power_ok q)
  have HQ := Lib.hid (fun w => quarter_K (s % 4) w (by omega) (by omega))
  rw [hqt] at HQ
  have HB := Lib.hid (show (if 61 - s / 4 < 0 then 0 else 61 - s / 4) = bt' s by unfold bt'; omega)
  have HL := Lib.hid (show (if 268435455 < rnd (fo q * qt s) (bt' s) then 268435455 else rnd (fo q * qt s) (bt' s)) = ln q s by unfold ln; omega)
  clear hqt
  have hq0 := qt_bd s
  generalize bt' s = B at *
  generalize fo q = F at *
  generalize qt s = T at *
  go_enter Tryd.func44, Tryd.ntmps44
  go_wp2_with (first | (go_at_call 42; ((with_reducible refine (HF.out _ h0 h1).mono ?_); rintro e w' ⟨rfl, rfl⟩)) | (go_at_call 65; ((with_reducible refine (HQ.out _).mono ?_); rintro e w' ⟨rfl, rfl⟩)) | (go_at_call 64; rw [HB.out]; ((with_reducible refine (down_in _ _ _ (by omega) (by omega) b0 (by omega)).mono ?_); rintro e w' ⟨rfl, rfl⟩)))
  all_goals
    go_ret
    refine ⟨ret1 ?_, rfl⟩
    have := HL.out
    omega
theorem value_ok (q s : Int) (w : World) (h0 : -8191 ≤ q) (h1 : q ≤ 8191) (s0 : 0 ≤ s) (s1 : s ≤ 255) : Calls Tryd.prog 44 #[.int .i64 q, .int .i64 s] w fun e w' => e = .returned (.int .i64 (LN q s)) ∧ w = w' := by
  by_cases h : q < 0
  · have hv := Lib.hid (fun w => value_pos (-q) s w (by omega) (by omega) s0 s1)
    have hb := ln_bd (q := -q) s0 (by omega)
    unfold LN
    rw [if_pos h]
    generalize ln (-q) s = L at *
    go_enter Tryd.func44, Tryd.ntmps44
    go_wp2_with (go_at_call 44; ((with_reducible refine (hv.out _).mono ?_); rintro e w' ⟨rfl, rfl⟩))
    go_ret
    exact ⟨rfl, rfl⟩
  · rw [LN_pos (by omega)]; exact value_pos q s w (by omega) h1 s0 s1
end Go.Proofs.YtanjcbnkkhbkkaaDoor.Fx

/- What power's quant does, and the document's own. -/
namespace Go.Proofs.YtanjcbnkkhbkkaaDoor.Fx
open Go Go.ChangeShapes Go.WideShapes Go.ChangeAt Go.RowKit

theorem retB {a b : Bool} (h : a = b) : Ending.returned (.bool a) = .returned (.bool b) := by rw [h]
theorem i64_in {x : Int} (a : -9223372036854775808 ≤ x) (b : x ≤ 9223372036854775807) : IntKind.i64.wrap x = x := by
  simp [IntKind.wrap, IntKind.bits, IntKind.signed]
  omega
theorem pred_ok (q x s : Int) (bs bx : Nat) (w : World) (h0 : 0 ≤ q) (h1 : q ≤ 8190) (s0 : 0 ≤ s) (s1 : s ≤ 255) (x0 : 0 ≤ x) (x1 : x ≤ 268435455) (hq : Qs w) (cs : w.cell? ⟨bs, 0, none⟩ = some (.int .i64 s)) (cx : w.cell? ⟨bx, 0, none⟩ = some (.int .i64 x)) :
    Calls Tryd.prog 67 #[.int .i64 q, .pointer (some ⟨bs, 0, none⟩), .pointer (some ⟨bx, 0, none⟩)] w fun e w' => e = .returned (.bool (decide (2 * x ≤ ln q s + ln (q + 1) s))) ∧ ∃ m, w' = w.drewN m := by
  have hm := ln_mono (p := q) (q := q + 1) s0 h0 (by omega)
  obtain ⟨l0, l1⟩ := ln_bd (q := q) s0 h0
  obtain ⟨l2, l3⟩ := ln_bd (q := q + 1) s0 (by omega)
  have HA := Lib.hid (fun w hw => line_ok q s w h0 (by omega) s0 s1 hw)
  have HB := Lib.hid (fun w hw => line_ok (q + 1) s w (by omega) (by omega) s0 s1 hw)
  have HQ := Lib.hid hq
  clear hq
  generalize ln q s = A at *
  generalize ln (q + 1) s = C at *
  have x2 : IntKind.i64.wrap (q + 1) = q + 1 := i64_in (by omega) (by omega)
  have x3 : IntKind.i64.wrap (2 * x) = 2 * x := i64_in (by omega) (by omega)
  have x4 : IntKind.i64.wrap (A + C) = A + C := i64_in (by omega) (by omega)
  by_cases c : x ≤ A
  · rw [decide_eq_true (show 2 * x ≤ A + C by omega)]
    go_enter Tryd.func67, Tryd.ntmps67
    go_wp2_with (go_at_call 43; ((with_reducible refine (HA.out _ HQ.out).mono ?_); rintro e w1 ⟨rfl, m, hw⟩; have Q1 : Hid (Qs w1) := Lib.hid (by rw [hw]; exact HQ.out.drewN m); have cs1 : w1.cell? ⟨bs, 0, none⟩ = some (.int .i64 s) := (by rw [hw]; simpa using cs); have cx1 : w1.cell? ⟨bx, 0, none⟩ = some (.int .i64 x) := (by rw [hw]; simpa using cx); have HW := Lib.hid hw; clear hw))
    go_quiet (fail)
    go_wp2
    go_ret
    exact ⟨rfl, _, by rw [HW.out]; exact World.drewN_drewN _ _ _⟩
  · go_enter Tryd.func67, Tryd.ntmps67
    go_wp2_with (go_at_call 43; ((with_reducible refine (HA.out _ HQ.out).mono ?_); rintro e w1 ⟨rfl, m, hw⟩; have Q1 : Hid (Qs w1) := Lib.hid (by rw [hw]; exact HQ.out.drewN m); have cs1 : w1.cell? ⟨bs, 0, none⟩ = some (.int .i64 s) := (by rw [hw]; simpa using cs); have cx1 : w1.cell? ⟨bx, 0, none⟩ = some (.int .i64 x) := (by rw [hw]; simpa using cx); have HW := Lib.hid hw; clear hw))
    go_quiet ((go_at_call 43; exact Calls.quiet_of (HB.out _ (Q1.out.drewN _))))
    go_wp2
    go_ret
    exact ⟨retB (by rw [decide_eq_false (Int.not_le.2 c)]; rfl), _, by rw [HW.out]; exact World.drewN_drewN _ _ _⟩

/-- What the search has found out so far. -/
def Srch (x s : Int) (i j : Int) : Prop := 0 ≤ i ∧ i ≤ j ∧ j ≤ 8191 ∧ (i = 0 ∨ ln (i - 1) s + ln i s < 2 * x) ∧ (j = 8191 ∨ 2 * x ≤ ln j s + ln (j + 1) s)
theorem srch_end {x s i : Int} (h : Srch x s i i) : Near x s i := ⟨h.1, h.2.2.1, h.2.2.2.2, h.2.2.2.1⟩
theorem srch_lo {x s i j h : Int} (a : Srch x s i j) (h0 : i ≤ h) (h1 : h < j) (c : ¬ 2 * x ≤ ln h s + ln (h + 1) s) : Srch x s (h + 1) j := by
  obtain ⟨a0, a1, a2, a3, a4⟩ := a
  exact ⟨by omega, by omega, a2, .inr (by rw [show h + 1 - 1 = h by omega]; omega), a4⟩
theorem srch_hi {x s i j h : Int} (a : Srch x s i j) (h0 : i ≤ h) (h1 : h < j) (c : 2 * x ≤ ln h s + ln (h + 1) s) : Srch x s i h := by
  obtain ⟨a0, a1, a2, a3, a4⟩ := a
  exact ⟨a0, h0, by omega, a3, .inr c⟩
set_option maxHeartbeats 1000000 in
theorem search_ok (x s : Int) (bs bx : Nat) (w : World) (s0 : 0 ≤ s) (s1 : s ≤ 255) (x0 : 0 ≤ x) (x1 : x ≤ 268435455) (hq : Qs w) (cs : w.cell? ⟨bs, 0, none⟩ = some (.int .i64 s)) (cx : w.cell? ⟨bx, 0, none⟩ = some (.int .i64 x)) :
    Calls Tryd.prog 66 #[.int .i64 8191, .func (.func 67) #[] #[.pointer (some ⟨bs, 0, none⟩), .pointer (some ⟨bx, 0, none⟩)]] w fun e w' => e = .returned (.int .i64 (nq x s)) ∧ ∃ m, w' = w.drewN m := by
  have HN : Hid (∀ r, Near x s r → r = nq x s) := Lib.hid fun r hr => nq_of s0 hr
  have HP := Lib.hid (fun q w h0 h1 hq cs cx => pred_ok q x s bs bx w h0 h1 s0 s1 x0 x1 hq cs cx)
  have HQ := Lib.hid hq
  have CS := Lib.hid cs
  have CX := Lib.hid cx
  clear hq cs cx
  generalize nq x s = R at *
  go_enter Tryd.func66, Tryd.ntmps66
  go_wp2
  go_loopw [5, 6] (fun i j wr => ∃ (I J : Int) (m : Nat), Hid (Srch x s I J) ∧ i = .int .i64 I ∧ j = .int .i64 J ∧ wr = w.drewN m) (fun i j _ => (intOf j - intOf i).toNat)
  case atStart => exact ⟨0, 8191, 0, Lib.hid ⟨by omega, by omega, by omega, .inl rfl, .inl rfl⟩, rfl, rfl, rfl⟩
  case round =>
    obtain ⟨I, J, m, hs, rfl, rfl, rfl⟩ := hrel
    have b0 := hs.out.1
    have b1 := hs.out.2.1
    have b2 := hs.out.2.2.1
    by_cases hlt : I < J
    · obtain ⟨h, hh⟩ : ∃ h, (I + J) / 2 = h := ⟨_, rfl⟩
      have h0 : I ≤ h := by omega
      have h1 : h < J := by omega
      have e1 : IntKind.u64.wrap (I + J) = I + J := u64_in (by omega) (by omega)
      by_cases c : 2 * x ≤ ln h s + ln (h + 1) s
      · have hy := Lib.hid (srch_hi hs.out h0 h1 c)
        have hd : decide (2 * x ≤ ln h s + ln (h + 1) s) = true := decide_eq_true c
        have HP' := Lib.hid (HP.out h (w.drewN m) (by omega) (by omega) (HQ.out.drewN m) (by simpa using CS.out) (by simpa using CX.out))
        rw [hd] at HP'
        clear hd c
        go_wp2_with (go_at_call 67; ((with_reducible refine (HP'.out).mono ?_); rintro e w' ⟨rfl, m', rfl⟩))
        go_roundw
        case rel => exact ⟨I, h, m + m', hy, rfl, rfl, rfl⟩
        case measure => simp [intOf]; omega
      · have hy := Lib.hid (srch_lo hs.out h0 h1 c)
        have hd : decide (2 * x ≤ ln h s + ln (h + 1) s) = false := decide_eq_false c
        have HP' := Lib.hid (HP.out h (w.drewN m) (by omega) (by omega) (HQ.out.drewN m) (by simpa using CS.out) (by simpa using CX.out))
        rw [hd] at HP'
        clear hd c
        go_wp2_with (go_at_call 67; ((with_reducible refine (HP'.out).mono ?_); rintro e w' ⟨rfl, m', rfl⟩))
        go_roundw
        case rel => exact ⟨h + 1, J, m + m', hy, rfl, rfl, rfl⟩
        case measure => simp [intOf]; omega
    · obtain rfl : I = J := by omega
      have := HN.out I (srch_end hs.out)
      subst this
      go_wp2
      go_ret
      exact ⟨rfl, m, rfl⟩
set_option maxHeartbeats 1000000 in
theorem near_pos (x s : Int) (w : World) (s0 : 0 ≤ s) (s1 : s ≤ 255) (x0 : 0 ≤ x) (x1 : x ≤ 268435455) :
    Calls Tryd.prog 46 #[.int .i64 x, .int .i64 s] w fun e w' => e = .returned (.int .i64 (nq x s)) ∧ w = w' := by
  have HN : Hid (∀ r, Near x s r → r = nq x s) := Lib.hid fun r hr => nq_of s0 hr
  have HV := Lib.hid (fun q w h0 h1 => value_pos q s w h0 h1 s0 s1)
  generalize nq x s = R at *
  go_enter Tryd.func46, Tryd.ntmps46
  go_wp2
  go_loop [5, 6] (fun i j => ∃ (I J : Int), Hid (Srch x s I J) ∧ i = .int .i64 I ∧ j = .int .i64 J) (fun i j => (intOf j - intOf i).toNat)
  case atStart => exact ⟨0, 8191, Lib.hid ⟨by omega, by omega, by omega, .inl rfl, .inl rfl⟩, rfl, rfl⟩
  case round =>
    obtain ⟨I, J, hs, rfl, rfl⟩ := hrel
    have b0 := hs.out.1
    have b1 := hs.out.2.1
    have b2 := hs.out.2.2.1
    by_cases hlt : I < J
    · obtain ⟨h, hh⟩ : ∃ h, (I + J) / 2 = h := ⟨_, rfl⟩
      have h0 : I ≤ h := by omega
      have h1 : h < J := by omega
      have n0 : 0 ≤ h := by omega
      have n1 : h ≤ 8190 := by omega
      have l1 := ln_bd (q := h) s0 n0
      have l2 := ln_bd (q := h + 1) s0 (by omega)
      have H1 := Lib.hid (fun w => HV.out h w n0 (by omega))
      have H2 := Lib.hid (fun w => HV.out (h + 1) w (by omega) (by omega))
      by_cases c : 2 * x ≤ ln h s + ln (h + 1) s
      · have hy := Lib.hid (srch_hi hs.out h0 h1 c)
        generalize ln h s = A at *
        generalize ln (h + 1) s = C at *
        go_wp2_with (first | (go_at_call 44; ((with_reducible refine (H1.out _).mono ?_); rintro e w' ⟨rfl, rfl⟩)) | (go_at_call 44; ((with_reducible refine (H2.out _).mono ?_); rintro e w' ⟨rfl, rfl⟩)))
        go_round
        case rel => exact ⟨I, h, hy, rfl, rfl⟩
        case measure => simp [intOf]; omega
      · have hy := Lib.hid (srch_lo hs.out h0 h1 c)
        generalize ln h s = A at *
        generalize ln (h + 1) s = C at *
        go_wp2_with (first | (go_at_call 44; ((with_reducible refine (H1.out _).mono ?_); rintro e w' ⟨rfl, rfl⟩)) | (go_at_call 44; ((with_reducible refine (H2.out _).mono ?_); rintro e w' ⟨rfl, rfl⟩)))
        go_round
        case rel => exact ⟨h + 1, J, hy, rfl, rfl⟩
        case measure => simp [intOf]; omega
    · obtain rfl : I = J := by omega
      have := HN.out I (srch_end hs.out)
      subst this
      go_wp2
      go_ret
      exact ⟨rfl, rfl⟩

theorem cell_lt {w : World} {a : Addr} {v : Value} (h : w.cell? a = some v) : a.block < w.heap.size := by
  refine Nat.lt_of_not_le fun hn => ?_
  have : w.heap[a.block]? = none := Array.getElem?_eq_none hn
  simp [World.cell?, this] at h
theorem Qs.below {w w' : World} (h : Qs w) (hb : Below w.heap.size w w') : Qs w' := by
  obtain ⟨a, b, c, d⟩ := h
  have hl := cell_lt a
  exact ⟨(hb.cell (p := ⟨0, 0, none⟩) hl).trans a, (hb.cell (p := ⟨0, 1, none⟩) hl).trans b, (hb.cell (p := ⟨0, 2, none⟩) hl).trans c, (hb.cell (p := ⟨0, 3, none⟩) hl).trans d⟩
theorem drewN_below (w : World) : ∀ n, Below w.heap.size w (w.drewN n)
  | 0 => Below.refl _ _
  | n + 1 => (drewN_below w n).drew
theorem belowT {a b c : World} (h : Below a.heap.size a b) (k : Below b.heap.size b c) : Below a.heap.size a c := h.trans (k.mono h.size)
theorem two_alloc (w : World) (A B : Obj) : Below w.heap.size w ((w.alloc A).alloc B) := ((Below.refl w.heap.size w).alloc (Nat.le_refl _) _).alloc (by simp) _
theorem box_1 (w : World) (x s : Int) : ((w.alloc (.cells #[.int .i64 x] 3)).alloc (.cells #[.int .i64 s] 3)).cell? ⟨w.heap.size, 0, none⟩ = some (.int .i64 x) := by
  rw [World.cell?_alloc_lt _ _ _ (by simp)]
  simp
theorem box_2 (w : World) (x s : Int) : ((w.alloc (.cells #[.int .i64 x] 3)).alloc (.cells #[.int .i64 s] 3)).cell? ⟨w.heap.size + 1, 0, none⟩ = some (.int .i64 s) := by
  simp
set_option maxHeartbeats 1000000 in
theorem quant_pos (x s : Int) (w : World) (s0 : 0 ≤ s) (s1 : s ≤ 255) (x0 : 0 ≤ x) (x1 : x ≤ 268435455) (hq : Qs w) :
    Calls Tryd.prog 45 #[.int .i64 x, .int .i64 s] w fun e w' => e = .returned (.int .i64 (nq x s)) ∧ Below w.heap.size w w' := by
  have HS := Lib.hid (search_ok x s (w.heap.size + 1) w.heap.size _ s0 s1 x0 x1 (hq.below (two_alloc w (.cells #[.int .i64 x] 3) (.cells #[.int .i64 s] 3))) (box_2 w x s) (box_1 w x s))
  have HB := Lib.hid (two_alloc w (.cells #[.int .i64 x] 3) (.cells #[.int .i64 s] 3))
  clear hq
  go_enter Tryd.func45, Tryd.ntmps45
  go_wp2_with (go_at_call 66; ((with_reducible refine (HS.out).mono ?_); rintro e w1 ⟨rfl, m, hw⟩; have hb := Lib.hid (hw ▸ (drewN_below _ m)); clear hw))
  go_ret
  exact ⟨rfl, belowT HB.out hb.out⟩
end Go.Proofs.YtanjcbnkkhbkkaaDoor.Fx

/- What power's calls answer. -/
namespace Go.Proofs.YtanjcbnkkhbkkaaDoor.Fx
open Go Go.ChangeShapes Go.WideShapes Go.ChangeAt Go.RowKit

theorem Four_ok (q : Int) (w : World) : Calls Tryd.prog 15 #[.int .i64 q] w fun e w' => e = .returned (.tuple #[.int .i64 (F4 q), .int .i64 (E4 q)]) ∧ w = w' := by
  by_cases c1 : q < 0
  · rw [show F4 q = 0 by unfold F4; rw [if_pos (.inl c1)], show E4 q = 2 by unfold E4; rw [if_pos (.inl c1)]]
    go_enter Tryd.func15, Tryd.ntmps15
    go_wp2
    go_ret2
    exact ⟨rfl, rfl⟩
  by_cases c2 : 8191 < q
  · rw [show F4 q = 0 by unfold F4; rw [if_pos (.inr c2)], show E4 q = 2 by unfold E4; rw [if_pos (.inr c2)]]
    go_enter Tryd.func15, Tryd.ntmps15
    go_wp2
    go_ret2
    exact ⟨rfl, rfl⟩
  rw [show F4 q = fo q by unfold F4; rw [if_neg (by omega)], show E4 q = 0 by unfold E4; rw [if_neg (by omega)]]
  have HF := Lib.hid (fun w => four_ok q w (by omega) (by omega))
  go_enter Tryd.func15, Tryd.ntmps15
  go_wp2_with (go_at_call 41; ((with_reducible refine (HF.out _).mono ?_); rintro e w' ⟨rfl, rfl⟩))
  go_ret2
  exact ⟨rfl, rfl⟩
theorem rFour_ok (q : Int) (w : World) : Calls Tryd.prog 16 #[.int .i64 q] w fun e w' => e = .returned (.tuple #[.int .i64 (F4 q), .int .i64 (E4 q)]) ∧ w = w' := by
  by_cases c1 : q < 0
  · rw [show F4 q = 0 by unfold F4; rw [if_pos (.inl c1)], show E4 q = 2 by unfold E4; rw [if_pos (.inl c1)]]
    go_enter Tryd.func16, Tryd.ntmps16
    go_wp2
    go_ret2
    exact ⟨rfl, rfl⟩
  by_cases c2 : 8191 < q
  · rw [show F4 q = 0 by unfold F4; rw [if_pos (.inr c2)], show E4 q = 2 by unfold E4; rw [if_pos (.inr c2)]]
    go_enter Tryd.func16, Tryd.ntmps16
    go_wp2
    go_ret2
    exact ⟨rfl, rfl⟩
  rw [show F4 q = fo q by unfold F4; rw [if_neg (by omega)], show E4 q = 0 by unfold E4; rw [if_neg (by omega)]]
  have HF := Lib.hid (fun w => power_ok q w (by omega) (by omega))
  go_enter Tryd.func16, Tryd.ntmps16
  go_wp2_with (go_at_call 42; ((with_reducible refine (HF.out _).mono ?_); rintro e w' ⟨rfl, rfl⟩))
  go_ret2
  exact ⟨rfl, rfl⟩
theorem FL_bad {q s : Int} (h : badL q s) : FL q s = 0 ∧ EL q s = 2 := by unfold FL EL; rw [if_pos h, if_pos h]; exact ⟨rfl, rfl⟩
theorem FL_ok {q s : Int} (h : ¬ badL q s) : FL q s = LN q s ∧ EL q s = 0 := by unfold FL EL; rw [if_neg h, if_neg h]; exact ⟨rfl, rfl⟩
theorem FQ_bad {q s : Int} (h : badQ q s) : FQ q s = 0 ∧ EQ q s = 2 := by unfold FQ EQ; rw [if_pos h, if_pos h]; exact ⟨rfl, rfl⟩
theorem FQ_ok {q s : Int} (h : ¬ badQ q s) : FQ q s = NQ q s ∧ EQ q s = 0 := by unfold FQ EQ; rw [if_neg h, if_neg h]; exact ⟨rfl, rfl⟩
theorem NQ_bd (x s : Int) : -8191 ≤ NQ x s ∧ NQ x s ≤ 8191 := nearS_bd (NQ_is x s)
theorem Line_ok (q s : Int) (w : World) (hq : Qs w) : Calls Tryd.prog 17 #[.int .i64 q, .int .i64 s] w fun e w' => e = .returned (.tuple #[.int .i64 (FL q s), .int .i64 (EL q s)]) ∧ ∃ m, w' = w.drewN m := by
  by_cases c0 : q < -8191
  · obtain ⟨e1, e2⟩ := FL_bad (q := q) (s := s) (by unfold badL; omega)
    rw [e1, e2]
    go_enter Tryd.func17, Tryd.ntmps17
    go_wp2
    go_ret2
    exact ⟨rfl, 0, rfl⟩
  by_cases c1 : 8191 < q
  · obtain ⟨e1, e2⟩ := FL_bad (q := q) (s := s) (by unfold badL; omega)
    rw [e1, e2]
    go_enter Tryd.func17, Tryd.ntmps17
    go_wp2
    go_ret2
    exact ⟨rfl, 0, rfl⟩
  by_cases c2 : s < 0
  · obtain ⟨e1, e2⟩ := FL_bad (q := q) (s := s) (by unfold badL; omega)
    rw [e1, e2]
    go_enter Tryd.func17, Tryd.ntmps17
    go_wp2
    go_ret2
    exact ⟨rfl, 0, rfl⟩
  by_cases c3 : 255 < s
  · obtain ⟨e1, e2⟩ := FL_bad (q := q) (s := s) (by unfold badL; omega)
    rw [e1, e2]
    go_enter Tryd.func17, Tryd.ntmps17
    go_wp2
    go_ret2
    exact ⟨rfl, 0, rfl⟩
  obtain ⟨e1, e2⟩ := FL_ok (q := q) (s := s) (by unfold badL; omega)
  rw [e1, e2]
  have HQ := Lib.hid hq
  clear hq e1 e2
  by_cases c : q < 0
  · have HF := Lib.hid (fun w hw => line_ok (-q) s w (by omega) (by omega) (by omega) (by omega) hw)
    have hb := ln_bd (q := -q) (s := s) (by omega) (by omega)
    unfold LN
    rw [if_pos c]
    generalize ln (-q) s = L at *
    go_enter Tryd.func17, Tryd.ntmps17
    go_wp2_with (go_at_call 43; ((with_reducible refine (HF.out _ HQ.out).mono ?_); rintro e w' ⟨rfl, m, rfl⟩))
    go_ret2
    exact ⟨rfl, _, rfl⟩
  · have HF := Lib.hid (fun w hw => line_ok q s w (by omega) (by omega) (by omega) (by omega) hw)
    have hb := ln_bd (q := q) (s := s) (by omega) (by omega)
    unfold LN
    rw [if_neg c]
    generalize ln q s = L at *
    go_enter Tryd.func17, Tryd.ntmps17
    go_wp2_with (go_at_call 43; ((with_reducible refine (HF.out _ HQ.out).mono ?_); rintro e w' ⟨rfl, m, rfl⟩))
    go_ret2
    exact ⟨rfl, _, rfl⟩
theorem rLine_ok (q s : Int) (w : World) : Calls Tryd.prog 18 #[.int .i64 q, .int .i64 s] w fun e w' => e = .returned (.tuple #[.int .i64 (FL q s), .int .i64 (EL q s)]) ∧ w = w' := by
  by_cases c0 : q < -8191
  · obtain ⟨e1, e2⟩ := FL_bad (q := q) (s := s) (by unfold badL; omega)
    rw [e1, e2]
    go_enter Tryd.func18, Tryd.ntmps18
    go_wp2
    go_ret2
    exact ⟨rfl, rfl⟩
  by_cases c1 : 8191 < q
  · obtain ⟨e1, e2⟩ := FL_bad (q := q) (s := s) (by unfold badL; omega)
    rw [e1, e2]
    go_enter Tryd.func18, Tryd.ntmps18
    go_wp2
    go_ret2
    exact ⟨rfl, rfl⟩
  by_cases c2 : s < 0
  · obtain ⟨e1, e2⟩ := FL_bad (q := q) (s := s) (by unfold badL; omega)
    rw [e1, e2]
    go_enter Tryd.func18, Tryd.ntmps18
    go_wp2
    go_ret2
    exact ⟨rfl, rfl⟩
  by_cases c3 : 255 < s
  · obtain ⟨e1, e2⟩ := FL_bad (q := q) (s := s) (by unfold badL; omega)
    rw [e1, e2]
    go_enter Tryd.func18, Tryd.ntmps18
    go_wp2
    go_ret2
    exact ⟨rfl, rfl⟩
  obtain ⟨e1, e2⟩ := FL_ok (q := q) (s := s) (by unfold badL; omega)
  rw [e1, e2]
  clear e1 e2
  have HF := Lib.hid (fun w => value_ok q s w (by omega) (by omega) (by omega) (by omega))
  go_enter Tryd.func18, Tryd.ntmps18
  go_wp2_with (go_at_call 44; ((with_reducible refine (HF.out _).mono ?_); rintro e w' ⟨rfl, rfl⟩))
  go_ret2
  exact ⟨rfl, rfl⟩
theorem Quant_ok (q s : Int) (w : World) (hq : Qs w) : Calls Tryd.prog 19 #[.int .i64 q, .int .i64 s] w fun e w' => e = .returned (.tuple #[.int .i64 (FQ q s), .int .i64 (EQ q s)]) ∧ Below w.heap.size w w' := by
  by_cases c0 : q < -268435455
  · obtain ⟨e1, e2⟩ := FQ_bad (q := q) (s := s) (by unfold badQ; omega)
    rw [e1, e2]
    go_enter Tryd.func19, Tryd.ntmps19
    go_wp2
    go_ret2
    exact ⟨rfl, Below.refl _ _⟩
  by_cases c1 : 268435455 < q
  · obtain ⟨e1, e2⟩ := FQ_bad (q := q) (s := s) (by unfold badQ; omega)
    rw [e1, e2]
    go_enter Tryd.func19, Tryd.ntmps19
    go_wp2
    go_ret2
    exact ⟨rfl, Below.refl _ _⟩
  by_cases c2 : s < 0
  · obtain ⟨e1, e2⟩ := FQ_bad (q := q) (s := s) (by unfold badQ; omega)
    rw [e1, e2]
    go_enter Tryd.func19, Tryd.ntmps19
    go_wp2
    go_ret2
    exact ⟨rfl, Below.refl _ _⟩
  by_cases c3 : 255 < s
  · obtain ⟨e1, e2⟩ := FQ_bad (q := q) (s := s) (by unfold badQ; omega)
    rw [e1, e2]
    go_enter Tryd.func19, Tryd.ntmps19
    go_wp2
    go_ret2
    exact ⟨rfl, Below.refl _ _⟩
  obtain ⟨e1, e2⟩ := FQ_ok (q := q) (s := s) (by unfold badQ; omega)
  rw [e1, e2]
  have HQ := Lib.hid hq
  clear hq e1 e2
  by_cases c : q < 0
  · have HF := Lib.hid (fun w hw => quant_pos (-q) s w (by omega) (by omega) (by omega) (by omega) hw)
    have hb := nq_is (-q) s
    have hb1 := hb.1
    have hb2 := hb.2.1
    clear hb
    unfold NQ
    rw [if_pos c]
    generalize nq (-q) s = L at *
    go_enter Tryd.func19, Tryd.ntmps19
    go_wp2_with (go_at_call 45; ((with_reducible refine (HF.out _ HQ.out).mono ?_); rintro e w' ⟨rfl, hb⟩))
    go_ret2
    exact ⟨rfl, hb⟩
  · have HF := Lib.hid (fun w hw => quant_pos q s w (by omega) (by omega) (by omega) (by omega) hw)
    unfold NQ
    rw [if_neg c]
    generalize nq q s = L at *
    go_enter Tryd.func19, Tryd.ntmps19
    go_wp2_with (go_at_call 45; ((with_reducible refine (HF.out _ HQ.out).mono ?_); rintro e w' ⟨rfl, hb⟩))
    go_ret2
    exact ⟨rfl, hb⟩
theorem rNear_ok (x s : Int) (w : World) (s0 : 0 ≤ s) (s1 : s ≤ 255) (x0 : -268435455 ≤ x) (x1 : x ≤ 268435455) : Calls Tryd.prog 46 #[.int .i64 x, .int .i64 s] w fun e w' => e = .returned (.int .i64 (NQ x s)) ∧ w = w' := by
  by_cases c : x < 0
  · have HF := Lib.hid (fun w => near_pos (-x) s w (by omega) (by omega) (by omega) (by omega))
    have hb := nq_is (-x) s
    have hb1 := hb.1
    have hb2 := hb.2.1
    clear hb
    unfold NQ
    rw [if_pos c]
    generalize nq (-x) s = L at *
    go_enter Tryd.func46, Tryd.ntmps46
    go_wp2_with (go_at_call 46; ((with_reducible refine (HF.out _).mono ?_); rintro e w' ⟨rfl, rfl⟩))
    go_ret
    exact ⟨rfl, rfl⟩
  · unfold NQ
    rw [if_neg c]
    exact near_pos x s w s0 s1 (by omega) x1
theorem rQuant_ok (q s : Int) (w : World) : Calls Tryd.prog 20 #[.int .i64 q, .int .i64 s] w fun e w' => e = .returned (.tuple #[.int .i64 (FQ q s), .int .i64 (EQ q s)]) ∧ w = w' := by
  by_cases c0 : q < -268435455
  · obtain ⟨e1, e2⟩ := FQ_bad (q := q) (s := s) (by unfold badQ; omega)
    rw [e1, e2]
    go_enter Tryd.func20, Tryd.ntmps20
    go_wp2
    go_ret2
    exact ⟨rfl, rfl⟩
  by_cases c1 : 268435455 < q
  · obtain ⟨e1, e2⟩ := FQ_bad (q := q) (s := s) (by unfold badQ; omega)
    rw [e1, e2]
    go_enter Tryd.func20, Tryd.ntmps20
    go_wp2
    go_ret2
    exact ⟨rfl, rfl⟩
  by_cases c2 : s < 0
  · obtain ⟨e1, e2⟩ := FQ_bad (q := q) (s := s) (by unfold badQ; omega)
    rw [e1, e2]
    go_enter Tryd.func20, Tryd.ntmps20
    go_wp2
    go_ret2
    exact ⟨rfl, rfl⟩
  by_cases c3 : 255 < s
  · obtain ⟨e1, e2⟩ := FQ_bad (q := q) (s := s) (by unfold badQ; omega)
    rw [e1, e2]
    go_enter Tryd.func20, Tryd.ntmps20
    go_wp2
    go_ret2
    exact ⟨rfl, rfl⟩
  obtain ⟨e1, e2⟩ := FQ_ok (q := q) (s := s) (by unfold badQ; omega)
  rw [e1, e2]
  clear e1 e2
  have HF := Lib.hid (fun w => rNear_ok q s w (by omega) (by omega) (by omega) (by omega))
  go_enter Tryd.func20, Tryd.ntmps20
  go_wp2_with (go_at_call 46; ((with_reducible refine (HF.out _).mono ?_); rintro e w' ⟨rfl, rfl⟩))
  go_ret2
  exact ⟨rfl, rfl⟩
theorem f4_eight : F4 8 = 65536 ∧ E4 8 = 0 := by
  have h : cbF (8 * 68719476736) = 8192 := (cbF_of ⟨by decide, by decide, by decide⟩).symm
  unfold F4 E4 fo
  rw [if_neg (by omega), if_neg (by omega), h]
  exact ⟨rfl, rfl⟩
theorem alive_ok (w : World) : Calls Tryd.prog 21 #[] w fun e w' => e = .returned (.bool true) ∧ w = w' := by
  have HF := Lib.hid (fun w => Four_ok 8 w)
  rw [f4_eight.1, f4_eight.2] at HF
  go_enter Tryd.func21, Tryd.ntmps21
  go_wp2_with (go_at_call 15; ((with_reducible refine (HF.out _).mono ?_); rintro e w' ⟨rfl, rfl⟩))
  go_ret
  exact ⟨rfl, rfl⟩
def fa (a b : Int) : Int := max (a - b) (b - a)
theorem far_ok (a b : Int) (w : World) (a0 : -2305843009213693952 ≤ a) (a1 : a ≤ 2305843009213693952) (b0 : -2305843009213693952 ≤ b) (b1 : b ≤ 2305843009213693952) : Calls Tryd.prog 22 #[.int .i64 a, .int .i64 b] w fun e w' => e = .returned (.int .i64 (fa a b)) ∧ w = w' := by
  go_enter Tryd.func22, Tryd.ntmps22
  go_wp2
  all_goals
    go_ret
    refine ⟨ret1 ?_, rfl⟩
    unfold fa
    omega
end Go.Proofs.YtanjcbnkkhbkkaaDoor.Fx
