/- Plain numbers: roots. -/
import Derived.Below
namespace Go.Proofs.Yteknakakefhbmaa.Fx
theorem ppos (k : Nat) : (0 : Int) < 2 ^ k := Int.pow_pos (by decide)
theorem psucc (k : Nat) : (2 : Int) ^ (k + 1) = 2 * 2 ^ k := by rw [Int.pow_succ]; omega

/-- r is what is known of a square root when k bits are still to come. -/
def Sq (n r : Int) (k : Nat) : Prop := (∃ s : Nat, r = 2 ^ k * (s : Int)) ∧ r * r ≤ n ∧ n < (r + 2 ^ k) * (r + 2 ^ k) ∧ r + 2 ^ k ≤ 4294967296
def Cb (n r : Int) (k : Nat) : Prop := (∃ s : Nat, r = 2 ^ k * (s : Int)) ∧ r * r * r ≤ n ∧ n < (r + 2 ^ k) * (r + 2 ^ k) * (r + 2 ^ k) ∧ r + 2 ^ k ≤ 2097152

theorem or_of {r : Int} {k s : Nat} (h : r = 2 ^ (k + 1) * (s : Int)) : (((r.toNat ||| (2 ^ k : Int).toNat : Nat)) : Int) = r + 2 ^ k := by
  have e1 : r.toNat = 2 ^ (k + 1) * s := by
    rw [h]
    have : (2 : Int) ^ (k + 1) * (s : Int) = ((2 ^ (k + 1) * s : Nat) : Int) := by simp
    rw [this, Int.toNat_natCast]
  have e2 : ((2 : Int) ^ k).toNat = 2 ^ k := by
    have : (2 : Int) ^ k = ((2 ^ k : Nat) : Int) := by simp
    rw [this, Int.toNat_natCast]
  rw [e1, e2, ← Nat.two_pow_add_eq_or_of_lt (Nat.pow_lt_pow_right (by decide) (Nat.lt_succ_self k)), h]
  simp

theorem nn {r : Int} {k : Nat} (h : ∃ s : Nat, r = 2 ^ k * (s : Int)) : 0 ≤ r := by
  obtain ⟨s, rfl⟩ := h
  exact Int.mul_nonneg (by have := ppos k; omega) (by omega)
theorem half {r : Int} {k : Nat} (h : ∃ s : Nat, r = 2 ^ (k + 1) * (s : Int)) : ∃ s : Nat, r = 2 ^ k * (s : Int) := by
  obtain ⟨s, rfl⟩ := h
  exact ⟨2 * s, by rw [psucc]; simp; rw [Int.mul_comm 2, Int.mul_assoc]⟩
theorem half' {r : Int} {k : Nat} (h : ∃ s : Nat, r = 2 ^ (k + 1) * (s : Int)) : ∃ s : Nat, r + 2 ^ k = 2 ^ k * (s : Int) := by
  obtain ⟨s, e⟩ := half h
  exact ⟨s + 1, by rw [e]; simp [Int.mul_add]⟩

theorem sq_yes {n r : Int} {k : Nat} (h : Sq n r (k + 1)) (hc : (r + 2 ^ k) * (r + 2 ^ k) ≤ n) : Sq n (r + 2 ^ k) k := by
  obtain ⟨h1, h2, h3, h4⟩ := h
  have e : r + 2 ^ (k + 1) = r + 2 ^ k + 2 ^ k := by rw [psucc]; omega
  exact ⟨half' h1, hc, by rw [← e]; exact h3, by rw [← e]; exact h4⟩
theorem sq_no {n r : Int} {k : Nat} (h : Sq n r (k + 1)) (hc : ¬ (r + 2 ^ k) * (r + 2 ^ k) ≤ n) : Sq n r k := by
  obtain ⟨h1, h2, h3, h4⟩ := h
  have e : r + 2 ^ (k + 1) = r + 2 ^ k + 2 ^ k := by rw [psucc]; omega
  have := ppos k
  exact ⟨half h1, h2, Int.not_le.1 hc, by omega⟩
theorem cb_yes {n r : Int} {k : Nat} (h : Cb n r (k + 1)) (hc : (r + 2 ^ k) * (r + 2 ^ k) * (r + 2 ^ k) ≤ n) : Cb n (r + 2 ^ k) k := by
  obtain ⟨h1, h2, h3, h4⟩ := h
  have e : r + 2 ^ (k + 1) = r + 2 ^ k + 2 ^ k := by rw [psucc]; omega
  exact ⟨half' h1, hc, by rw [← e]; exact h3, by rw [← e]; exact h4⟩
theorem cb_no {n r : Int} {k : Nat} (h : Cb n r (k + 1)) (hc : ¬ (r + 2 ^ k) * (r + 2 ^ k) * (r + 2 ^ k) ≤ n) : Cb n r k := by
  obtain ⟨h1, h2, h3, h4⟩ := h
  have e : r + 2 ^ (k + 1) = r + 2 ^ k + 2 ^ k := by rw [psucc]; omega
  have := ppos k
  exact ⟨half h1, h2, Int.not_le.1 hc, by omega⟩

/-- What a step squares is no greater than a word. -/
theorem sq_bd {n r : Int} {k : Nat} (h : Sq n r (k + 1)) : 0 ≤ r + 2 ^ k ∧ r + 2 ^ k < 4294967296 ∧ (r + 2 ^ k) * (r + 2 ^ k) < 18446744073709551616 ∧ 0 ≤ (r + 2 ^ k) * (r + 2 ^ k) := by
  obtain ⟨h1, h2, h3, h4⟩ := h
  have a := nn h1
  have p := ppos k
  rw [psucc] at h4
  have b : r + 2 ^ k < 4294967296 := by omega
  have c : (r + 2 ^ k) * (r + 2 ^ k) ≤ 4294967295 * 4294967295 := Int.mul_le_mul (by omega) (by omega) (by omega) (by omega)
  exact ⟨by omega, b, by omega, Int.mul_nonneg (by omega) (by omega)⟩
theorem cb_bd {n r : Int} {k : Nat} (h : Cb n r (k + 1)) : 0 ≤ r + 2 ^ k ∧ r + 2 ^ k < 2097152 ∧ 0 ≤ (r + 2 ^ k) * (r + 2 ^ k) ∧ (r + 2 ^ k) * (r + 2 ^ k) < 4398046511104 ∧ (r + 2 ^ k) * (r + 2 ^ k) * (r + 2 ^ k) < 9223372036854775808 ∧ 0 ≤ (r + 2 ^ k) * (r + 2 ^ k) * (r + 2 ^ k) := by
  obtain ⟨h1, h2, h3, h4⟩ := h
  have a := nn h1
  have p := ppos k
  rw [psucc] at h4
  have b : r + 2 ^ k < 2097152 := by omega
  have c : (r + 2 ^ k) * (r + 2 ^ k) ≤ 2097151 * 2097151 := Int.mul_le_mul (by omega) (by omega) (by omega) (by omega)
  have c0 : 0 ≤ (r + 2 ^ k) * (r + 2 ^ k) := Int.mul_nonneg (by omega) (by omega)
  have d : (r + 2 ^ k) * (r + 2 ^ k) * (r + 2 ^ k) ≤ (2097151 * 2097151) * 2097151 := Int.mul_le_mul c (by omega) (by omega) (by omega)
  exact ⟨by omega, b, c0, by omega, by omega, Int.mul_nonneg c0 (by omega)⟩

/-- The roots. -/
def IsSqrt (n r : Int) : Prop := 0 ≤ r ∧ r * r ≤ n ∧ n < (r + 1) * (r + 1)
def IsCbrt (n r : Int) : Prop := 0 ≤ r ∧ r * r * r ≤ n ∧ n < (r + 1) * (r + 1) * (r + 1)
theorem sq_end {n r : Int} (h : Sq n r 0) : IsSqrt n r := ⟨nn h.1, h.2.1, by simpa using h.2.2.1⟩
theorem cb_end {n r : Int} (h : Cb n r 0) : IsCbrt n r := ⟨nn h.1, h.2.1, by simpa using h.2.2.1⟩
theorem sq_start {n : Int} (h0 : 0 ≤ n) (h1 : n ≤ 4611686018427387904) : Sq n 0 32 := ⟨⟨0, by simp⟩, by simpa using h0, by simp; omega, by simp⟩
theorem cb_start {n : Int} (h0 : 0 ≤ n) (h1 : n ≤ 4611686018427387904) : Cb n 0 21 := ⟨⟨0, by simp⟩, by simpa using h0, by simp; omega, by simp⟩

theorem lt_of_sq {a b : Int} (ha : 0 ≤ a) (hb : 0 ≤ b) (h : a * a < b * b) : a < b := by
  refine Int.not_le.1 fun hle => ?_
  have := Int.mul_le_mul hle hle hb ha
  omega
theorem lt_of_cb {a b : Int} (ha : 0 ≤ a) (hb : 0 ≤ b) (h : a * a * a < b * b * b) : a < b := by
  refine Int.not_le.1 fun hle => ?_
  have h1 := Int.mul_le_mul hle hle hb ha
  have := Int.mul_le_mul h1 hle hb (Int.mul_nonneg ha ha)
  omega
theorem sqrt_mono {n m r s : Int} (h1 : IsSqrt n r) (h2 : IsSqrt m s) (h : n ≤ m) : r ≤ s := by
  obtain ⟨a1, a2, a3⟩ := h1
  obtain ⟨b1, b2, b3⟩ := h2
  have := lt_of_sq (a := r) (b := s + 1) a1 (by omega) (by omega)
  omega
theorem cbrt_mono {n m r s : Int} (h1 : IsCbrt n r) (h2 : IsCbrt m s) (h : n ≤ m) : r ≤ s := by
  obtain ⟨a1, a2, a3⟩ := h1
  obtain ⟨b1, b2, b3⟩ := h2
  have := lt_of_cb (a := r) (b := s + 1) a1 (by omega) (by omega)
  omega
theorem sqrt_one {n r s : Int} (h1 : IsSqrt n r) (h2 : IsSqrt n s) : r = s := by
  have := sqrt_mono h1 h2 (by omega); have := sqrt_mono h2 h1 (by omega); omega
theorem cbrt_one {n r s : Int} (h1 : IsCbrt n r) (h2 : IsCbrt n s) : r = s := by
  have := cbrt_mono h1 h2 (by omega); have := cbrt_mono h2 h1 (by omega); omega
theorem sqrt_of {s : Int} (h : 0 ≤ s) : IsSqrt (s * s) s := ⟨h, by omega, by
  have : (s + 1) * (s + 1) = s * s + s + s + 1 := by rw [Int.add_mul, Int.mul_add]; omega
  omega⟩
theorem cbrt_of {s : Int} (h : 0 ≤ s) : IsCbrt (s * s * s) s := ⟨h, by omega, by
  have e : (s + 1) * (s + 1) = s * s + s + s + 1 := by rw [Int.add_mul, Int.mul_add]; omega
  rw [e]
  have e2 : (s * s + s + s + 1) * (s + 1) = s * s * s + (s * s + s * s + s * s) + s + s + s + 1 := by
    rw [Int.mul_add, Int.add_mul, Int.add_mul, Int.add_mul]; omega
  have := Int.mul_nonneg h h
  omega⟩
theorem sqrt_bd {n r : Int} (h : IsSqrt n r) (h1 : n ≤ 4611686018427387904) : r ≤ 2147483648 := by
  obtain ⟨a1, a2, a3⟩ := h
  have := lt_of_sq (a := r) (b := 2147483649) a1 (by omega) (by omega)
  omega
theorem cbrt_bd {n r : Int} (h : IsCbrt n r) (h1 : n ≤ 4611686018427387904) : r ≤ 1664510 := by
  obtain ⟨a1, a2, a3⟩ := h
  have := lt_of_cb (a := r) (b := 1664511) a1 (by omega) (by omega)
  omega
/-- What a law asks by dividing. -/
theorem sqrt_div {n r : Int} (h : IsSqrt n r) (h0 : 0 < r) : r ≤ n / r := by
  obtain ⟨a1, a2, a3⟩ := h
  exact (Int.le_ediv_iff_mul_le h0).2 a2
theorem sqrt_div' {n r : Int} (h : IsSqrt n r) : n / (r + 1) < r + 1 := by
  obtain ⟨a1, a2, a3⟩ := h
  exact (Int.ediv_lt_iff_lt_mul (by omega)).2 a3
theorem cbrt_div {n r : Int} (h : IsCbrt n r) (h0 : 0 < r) : r * r ≤ n / r := by
  obtain ⟨a1, a2, a3⟩ := h
  exact (Int.le_ediv_iff_mul_le h0).2 a2
theorem cbrt_div' {n r : Int} (h : IsCbrt n r) : n / (r + 1) < (r + 1) * (r + 1) := by
  obtain ⟨a1, a2, a3⟩ := h
  exact (Int.ediv_lt_iff_lt_mul (by omega)).2 a3
end Go.Proofs.Yteknakakefhbmaa.Fx
