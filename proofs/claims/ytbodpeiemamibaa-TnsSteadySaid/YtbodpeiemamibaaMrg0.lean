/- Texts of one claim, one behind the other: FixMath, FixCon, RootMath, RootCon, RefFix. -/
import Derived.Below
import Derived.Test.YtbodpeiemamibaaRows
import Derived.WalkKit
import Derived.ProofKit
import Derived.OpenShut
import Derived.Lib.Hide
set_option linter.unusedVariables false
/- Plain numbers: what is rounded off. -/
namespace Go.Proofs.Ytbodpeiemamibaa.Fx

/-- A number rounded off by so many bits. -/
def rnd (n b : Int) : Int := if b = 0 then n else (n + 2 ^ (b.toNat - 1)) / 2 ^ b.toNat
def clp (n b : Int) : Int := min (max n (-(2 ^ (b.toNat - 1)))) (2 ^ (b.toNat - 1) - 1)

theorem pow_pos' (k : Nat) : (0 : Int) < 2 ^ k := Int.pow_pos (by decide)
theorem pow_succ' {b : Int} (h : 1 ≤ b) : (2 : Int) ^ b.toNat = 2 * 2 ^ (b.toNat - 1) := by
  obtain ⟨k, hk⟩ : ∃ k, b.toNat = k + 1 := ⟨b.toNat - 1, by omega⟩
  rw [hk, Int.pow_succ]; simp; omega
theorem pow_le' {k m : Nat} (h : k ≤ m) : (2 : Int) ^ k ≤ 2 ^ m := by
  obtain ⟨d, rfl⟩ := Nat.exists_eq_add_of_le h
  rw [Int.pow_add]
  have h1 := pow_pos' k
  have h2 := pow_pos' d
  have : (2:Int)^k * 1 ≤ 2 ^ k * 2 ^ d := Int.mul_le_mul_of_nonneg_left (by omega) (by omega)
  omega

theorem rnd_at {n b : Int} (h : 1 ≤ b) : ∃ H : Int, 0 < H ∧ H = 2 ^ (b.toNat - 1) ∧ 2 ^ b.toNat = 2 * H ∧ rnd n b = (n + H) / (2 * H) :=
  ⟨_, pow_pos' _, rfl, pow_succ' h, by unfold rnd; rw [if_neg (by omega), pow_succ' h]⟩

theorem div_lo {x d : Int} (hd : 0 < d) : x / d * d ≤ x := Int.ediv_mul_le x (by omega)
theorem div_hi {x d : Int} (hd : 0 < d) : x < x / d * d + d := by
  have := Int.lt_ediv_add_one_mul_self x hd
  rw [Int.add_mul] at this; omega
theorem div_mono {x y d : Int} (hd : 0 < d) (h : x ≤ y) : x / d ≤ y / d := Int.ediv_le_ediv hd h

theorem rnd_mono {n m b : Int} (hb : 0 ≤ b) (h : n ≤ m) : rnd n b ≤ rnd m b := by
  by_cases e : b = 0
  · subst e; simpa [rnd] using h
  · obtain ⟨H, h0, _, _, e1⟩ := rnd_at (n := n) (b := b) (by omega)
    obtain ⟨H', _, _, _, e2⟩ := rnd_at (n := m) (b := b) (by omega)
    have : H = H' := by omega
    subst this
    rw [e1, e2]
    exact div_mono (by omega) (by omega)

theorem rnd_near {n b : Int} (hb : 1 ≤ b) : -(2 ^ (b.toNat - 1)) ≤ n - rnd n b * 2 ^ b.toNat ∧ n - rnd n b * 2 ^ b.toNat < 2 ^ (b.toNat - 1) := by
  obtain ⟨H, h0, e0, e1, e2⟩ := rnd_at (n := n) hb
  rw [e2, e1, ← e0]
  have l := div_lo (x := n + H) (d := 2 * H) (by omega)
  have u := div_hi (x := n + H) (d := 2 * H) (by omega)
  omega

theorem rnd_bd {n b : Int} (hb : 0 ≤ b) (h1 : -4611686018427387904 ≤ n) (h2 : n ≤ 4611686018427387904) : -4611686018427387904 ≤ rnd n b ∧ rnd n b ≤ 4611686018427387904 := by
  by_cases e : b = 0
  · subst e; simpa [rnd] using ⟨h1, h2⟩
  · obtain ⟨H, h0, _, _, e2⟩ := rnd_at (n := n) (b := b) (by omega)
    rw [e2]
    constructor
    · rw [Int.le_ediv_iff_mul_le (by omega)]; 
      have : (4611686018427387904 : Int) * 1 ≤ 4611686018427387904 * (2 * H) := Int.mul_le_mul_of_nonneg_left (by omega) (by omega)
      omega
    · have : (n + H) / (2 * H) < 4611686018427387904 + 1 := by
        rw [Int.ediv_lt_iff_lt_mul (by omega)]
        have : (4611686018427387904 : Int) * (2 * H) = 9223372036854775808 * H := by omega
        have h3 : (4611686018427387904 : Int) * 1 ≤ 4611686018427387904 * H := Int.mul_le_mul_of_nonneg_left (by omega) (by omega)
        omega
      omega

theorem rnd_sum {n m b : Int} (hb : 0 ≤ b) : -1 ≤ rnd n b + rnd m b - rnd (n + m) b ∧ rnd n b + rnd m b - rnd (n + m) b ≤ 1 := by
  by_cases e : b = 0
  · subst e; simp [rnd]
  · obtain ⟨H, h0, e0, _, e1⟩ := rnd_at (n := n) (b := b) (by omega)
    obtain ⟨H', _, e0', _, e2⟩ := rnd_at (n := m) (b := b) (by omega)
    obtain ⟨H'', _, e0'', _, e3⟩ := rnd_at (n := n + m) (b := b) (by omega)
    obtain rfl : H = H' := by omega
    obtain rfl : H = H'' := by omega
    rw [e1, e2, e3]
    clear e1 e2 e3 e0 e0' e0''
    have l1 := div_lo (x := n + H) (d := 2 * H) (by omega)
    have u1 := div_hi (x := n + H) (d := 2 * H) (by omega)
    have l2 := div_lo (x := m + H) (d := 2 * H) (by omega)
    have u2 := div_hi (x := m + H) (d := 2 * H) (by omega)
    have l3 := div_lo (x := n + m + H) (d := 2 * H) (by omega)
    have u3 := div_hi (x := n + m + H) (d := 2 * H) (by omega)
    generalize (n + H) / (2 * H) = a at *
    generalize (m + H) / (2 * H) = b' at *
    generalize (n + m + H) / (2 * H) = c at *
    have k1 : (a + b' - c) * (2 * H) = a * (2 * H) + b' * (2 * H) - c * (2 * H) := by rw [Int.sub_mul, Int.add_mul]
    constructor
    · refine Int.not_lt.1 fun hlt => ?_
      have : (a + b' - c) * (2 * H) ≤ -2 * (2 * H) := Int.mul_le_mul_of_nonneg_right (by omega) (by omega)
      omega
    · refine Int.not_lt.1 fun hlt => ?_
      have : 2 * (2 * H) ≤ (a + b' - c) * (2 * H) := Int.mul_le_mul_of_nonneg_right (by omega) (by omega)
      omega

theorem rnd_neg {n b : Int} (hb : 0 ≤ b) : 0 ≤ rnd n b + rnd (-n) b ∧ rnd n b + rnd (-n) b ≤ 1 := by
  by_cases e : b = 0
  · subst e; simp [rnd]; omega
  · obtain ⟨H, h0, e0, _, e1⟩ := rnd_at (n := n) (b := b) (by omega)
    obtain ⟨H', _, e0', _, e2⟩ := rnd_at (n := -n) (b := b) (by omega)
    obtain rfl : H = H' := by omega
    rw [e1, e2]
    clear e1 e2 e0 e0'
    have l1 := div_lo (x := n + H) (d := 2 * H) (by omega)
    have u1 := div_hi (x := n + H) (d := 2 * H) (by omega)
    have l2 := div_lo (x := -n + H) (d := 2 * H) (by omega)
    have u2 := div_hi (x := -n + H) (d := 2 * H) (by omega)
    generalize (n + H) / (2 * H) = a at *
    generalize (-n + H) / (2 * H) = d at *
    have k1 : (a + d) * (2 * H) = a * (2 * H) + d * (2 * H) := by rw [Int.add_mul]
    constructor
    · refine Int.not_lt.1 fun hlt => ?_
      have : (a + d) * (2 * H) ≤ -1 * (2 * H) := Int.mul_le_mul_of_nonneg_right (by omega) (by omega)
      omega
    · refine Int.not_lt.1 fun hlt => ?_
      have : 2 * (2 * H) ≤ (a + d) * (2 * H) := Int.mul_le_mul_of_nonneg_right (by omega) (by omega)
      omega

theorem rnd_twice {n b c : Int} (hb : 0 ≤ b) (hc : 0 ≤ c) : rnd (rnd n b) c = rnd n (b + c) ∨ rnd (rnd n b) c = rnd n (b + c) + 1 := by
  by_cases e : b = 0
  · subst e; left; simp [rnd]
  by_cases e' : c = 0
  · subst e'; left; simp [rnd]
  obtain ⟨H, h0, e0, p0, e1⟩ := rnd_at (n := n) (b := b) (by omega)
  obtain ⟨K, k0, f0, q0, f1⟩ := rnd_at (n := rnd n b) (b := c) (by omega)
  obtain ⟨L, l0, g0, r0, g1⟩ := rnd_at (n := n) (b := b + c) (by omega)
  have hL : L = 2 * H * K := by
    have e : (2 : Int) ^ (b + c).toNat = 2 ^ b.toNat * 2 ^ c.toNat := by
      rw [← Int.pow_add]; congr 1; omega
    rw [r0, p0, q0] at e
    have e2 : 2 * H * (2 * K) = 2 * (2 * H * K) := by rw [Int.mul_left_comm]
    omega
  rw [f1, g1, e1]
  have hHK : 0 < H * K := Int.mul_pos h0 k0
  have x1 : ((n + H) / (2 * H) + K) / (2 * K) = (n + H + L) / (2 * L) := by
    have : (n + H) / (2 * H) + K = (n + H + K * (2 * H)) / (2 * H) := by
      rw [Int.add_mul_ediv_right _ _ (by omega)]
    rw [this, Int.ediv_ediv_of_nonneg (by omega)]
    have a1 : K * (2 * H) = L := by rw [hL, Int.mul_comm]
    have a2 : 2 * H * (2 * K) = 2 * L := by rw [hL, Int.mul_left_comm]
    rw [a1, a2]
  rw [x1]
  have hHL : H ≤ L := by
    have : H * 1 ≤ H * (2 * K) := Int.mul_le_mul_of_nonneg_left (by omega) (by omega)
    have e3 : H * (2 * K) = 2 * H * K := by rw [Int.mul_left_comm, Int.mul_assoc]
    omega
  have m1 := div_mono (x := n + L) (y := n + H + L) (d := 2 * L) (by omega) (by omega)
  have m2 := div_mono (x := n + H + L) (y := n + L + 1 * (2 * L)) (d := 2 * L) (by omega) (by omega)
  rw [Int.add_mul_ediv_right _ _ (by omega)] at m2
  omega

end Go.Proofs.Ytbodpeiemamibaa.Fx

/- What fix's calls do. -/
namespace Go.Proofs.Ytbodpeiemamibaa.Fx
open Go Go.ChangeShapes Go.WideShapes Go.ChangeAt Go.RowKit

theorem round_zero (n : Int) (w : World) (h1 : -4611686018427387904 ≤ n) (h2 : n ≤ 4611686018427387904) :
    Calls Try.prog 20 #[.int .i64 n, .int .i64 0] w fun e w' => e = .returned (.tuple #[.int .i64 n, .int .i64 0]) ∧ w = w' := by
  have c1 : ¬ n < -4611686018427387904 := by omega
  have c2 : ¬ 4611686018427387904 < n := by omega
  go_enter Try.func20, Try.ntmps20
  go_wp2
  go_ret2
  exact ⟨rfl, rfl⟩

theorem w64 {x : Int} (h1 : -9223372036854775808 ≤ x) (h2 : x ≤ 9223372036854775807) : wrap64 x = x := by unfold wrap64; omega
theorem pow61 {b : Int} (h4 : b ≤ 62) : (2 : Int) ^ (b.toNat - 1) ≤ 2305843009213693952 := by
  have := pow_le' (k := b.toNat - 1) (m := 61) (by omega)
  have e : (2 : Int) ^ 61 = 2305843009213693952 := by decide
  omega
theorem rnd_wrap {n b : Int} (h1 : -4611686018427387904 ≤ n) (h2 : n ≤ 4611686018427387904) (h3 : 1 ≤ b) (h4 : b ≤ 62) : wrap64 (n + wrap64 (2 ^ (b.toNat - 1))) / 2 ^ b.toNat = rnd n b := by
  have a := pow61 h4
  have c := pow_pos' (b.toNat - 1)
  rw [w64 (x := 2 ^ (b.toNat - 1)) (by omega) (by omega), w64 (by omega) (by omega)]
  unfold rnd
  rw [if_neg (by omega)]

theorem round_pos (n b : Int) (w : World) (h1 : -4611686018427387904 ≤ n) (h2 : n ≤ 4611686018427387904) (h3 : 1 ≤ b) (h4 : b ≤ 62) :
    Calls Try.prog 20 #[.int .i64 n, .int .i64 b] w fun e w' => e = .returned (.tuple #[.int .i64 (rnd n b), .int .i64 0]) ∧ w = w' := by
  have c1 : ¬ n < -4611686018427387904 := by omega
  have c2 : ¬ 4611686018427387904 < n := by omega
  have c3 : ¬ b < 0 := by omega
  have c4 : ¬ 62 < b := by omega
  have c5 : ¬ b = 0 := by omega
  rw [← rnd_wrap h1 h2 h3 h4]
  go_enter Try.func20, Try.ntmps20
  go_wp2
  go_ret2
  exact ⟨rfl, rfl⟩

theorem round_in (n b : Int) (w : World) (h1 : -4611686018427387904 ≤ n) (h2 : n ≤ 4611686018427387904) (h3 : 0 ≤ b) (h4 : b ≤ 62) :
    Calls Try.prog 20 #[.int .i64 n, .int .i64 b] w fun e w' => e = .returned (.tuple #[.int .i64 (rnd n b), .int .i64 0]) ∧ w = w' := by
  by_cases e : b = 0
  · subst e; exact round_zero n w h1 h2
  · exact round_pos n b w h1 h2 (by omega) h4

theorem round_out (n b : Int) (w : World) (h : n < -4611686018427387904 ∨ 4611686018427387904 < n ∨ b < 0 ∨ 62 < b) :
    Calls Try.prog 20 #[.int .i64 n, .int .i64 b] w fun e w' => e = .returned (.tuple #[.int .i64 0, .int .i64 2]) ∧ w = w' := by
  by_cases c1 : n < -4611686018427387904
  · go_enter Try.func20, Try.ntmps20
    go_wp2
    go_ret2
    exact ⟨rfl, rfl⟩
  by_cases c2 : 4611686018427387904 < n
  · go_enter Try.func20, Try.ntmps20
    go_wp2
    go_ret2
    exact ⟨rfl, rfl⟩
  by_cases c3 : b < 0
  · go_enter Try.func20, Try.ntmps20
    go_wp2
    go_ret2
    exact ⟨rfl, rfl⟩
  have c4 : 62 < b := by omega
  go_enter Try.func20, Try.ntmps20
  go_wp2
  go_ret2
  exact ⟨rfl, rfl⟩

theorem ret2 {a b c : Int} (h : a = b) : Ending.returned (.tuple #[.int .i64 a, .int .i64 c]) = .returned (.tuple #[.int .i64 b, .int .i64 c]) := by rw [h]

end Go.Proofs.Ytbodpeiemamibaa.Fx

/- Plain numbers: roots. -/
namespace Go.Proofs.Ytbodpeiemamibaa.Fx
theorem ppos (k : Nat) : (0 : Int) < 2 ^ k := Int.pow_pos (by decide)
theorem psucc (k : Nat) : (2 : Int) ^ (k + 1) = 2 * 2 ^ k := by rw [Int.pow_succ]; omega

/-- r is what is known of a square root when k bits are still to come. -/
def Sq (n r : Int) (k : Nat) : Prop := (∃ s : Nat, r = 2 ^ k * (s : Int)) ∧ r * r ≤ n ∧ n < (r + 2 ^ k) * (r + 2 ^ k) ∧ r + 2 ^ k ≤ 4294967296
def Cb (n r : Int) (k : Nat) : Prop := (∃ s : Nat, r = 2 ^ k * (s : Int)) ∧ r * r * r ≤ n ∧ n < (r + 2 ^ k) * (r + 2 ^ k) * (r + 2 ^ k) ∧ r + 2 ^ k ≤ 2097152

theorem or_of {r : Int} {k s : Nat} (h : r = 2 ^ (k + 1) * (s : Int)) : (((r.toNat ||| (2 ^ k : Int).toNat : Nat)) : Int) = r + 2 ^ k := by
  have e1 : r.toNat = 2 ^ (k + 1) * s := by
    rw [h]
    have : (2 : Int) ^ (k + 1) * (s : Int) = ((2 ^ (k + 1) * s : Nat) : Int) := by simp
    rw [this, Int.toNat_natCast]
  have e2 : ((2 : Int) ^ k).toNat = 2 ^ k := by
    have : (2 : Int) ^ k = ((2 ^ k : Nat) : Int) := by simp
    rw [this, Int.toNat_natCast]
  rw [e1, e2, ← Nat.two_pow_add_eq_or_of_lt (Nat.pow_lt_pow_right (by decide) (Nat.lt_succ_self k)), h]
  simp

theorem nn {r : Int} {k : Nat} (h : ∃ s : Nat, r = 2 ^ k * (s : Int)) : 0 ≤ r := by
  obtain ⟨s, rfl⟩ := h
  exact Int.mul_nonneg (by have := ppos k; omega) (by omega)
theorem half {r : Int} {k : Nat} (h : ∃ s : Nat, r = 2 ^ (k + 1) * (s : Int)) : ∃ s : Nat, r = 2 ^ k * (s : Int) := by
  obtain ⟨s, rfl⟩ := h
  exact ⟨2 * s, by rw [psucc]; simp; rw [Int.mul_comm 2, Int.mul_assoc]⟩
theorem half' {r : Int} {k : Nat} (h : ∃ s : Nat, r = 2 ^ (k + 1) * (s : Int)) : ∃ s : Nat, r + 2 ^ k = 2 ^ k * (s : Int) := by
  obtain ⟨s, e⟩ := half h
  exact ⟨s + 1, by rw [e]; simp [Int.mul_add]⟩

theorem sq_yes {n r : Int} {k : Nat} (h : Sq n r (k + 1)) (hc : (r + 2 ^ k) * (r + 2 ^ k) ≤ n) : Sq n (r + 2 ^ k) k := by
  obtain ⟨h1, h2, h3, h4⟩ := h
  have e : r + 2 ^ (k + 1) = r + 2 ^ k + 2 ^ k := by rw [psucc]; omega
  exact ⟨half' h1, hc, by rw [← e]; exact h3, by rw [← e]; exact h4⟩
theorem sq_no {n r : Int} {k : Nat} (h : Sq n r (k + 1)) (hc : ¬ (r + 2 ^ k) * (r + 2 ^ k) ≤ n) : Sq n r k := by
  obtain ⟨h1, h2, h3, h4⟩ := h
  have e : r + 2 ^ (k + 1) = r + 2 ^ k + 2 ^ k := by rw [psucc]; omega
  have := ppos k
  exact ⟨half h1, h2, Int.not_le.1 hc, by omega⟩
theorem cb_yes {n r : Int} {k : Nat} (h : Cb n r (k + 1)) (hc : (r + 2 ^ k) * (r + 2 ^ k) * (r + 2 ^ k) ≤ n) : Cb n (r + 2 ^ k) k := by
  obtain ⟨h1, h2, h3, h4⟩ := h
  have e : r + 2 ^ (k + 1) = r + 2 ^ k + 2 ^ k := by rw [psucc]; omega
  exact ⟨half' h1, hc, by rw [← e]; exact h3, by rw [← e]; exact h4⟩
theorem cb_no {n r : Int} {k : Nat} (h : Cb n r (k + 1)) (hc : ¬ (r + 2 ^ k) * (r + 2 ^ k) * (r + 2 ^ k) ≤ n) : Cb n r k := by
  obtain ⟨h1, h2, h3, h4⟩ := h
  have e : r + 2 ^ (k + 1) = r + 2 ^ k + 2 ^ k := by rw [psucc]; omega
  have := ppos k
  exact ⟨half h1, h2, Int.not_le.1 hc, by omega⟩

/-- What a step squares is no greater than a word. -/
theorem sq_bd {n r : Int} {k : Nat} (h : Sq n r (k + 1)) : 0 ≤ r + 2 ^ k ∧ r + 2 ^ k < 4294967296 ∧ (r + 2 ^ k) * (r + 2 ^ k) < 18446744073709551616 ∧ 0 ≤ (r + 2 ^ k) * (r + 2 ^ k) := by
  obtain ⟨h1, h2, h3, h4⟩ := h
  have a := nn h1
  have p := ppos k
  rw [psucc] at h4
  have b : r + 2 ^ k < 4294967296 := by omega
  have c : (r + 2 ^ k) * (r + 2 ^ k) ≤ 4294967295 * 4294967295 := Int.mul_le_mul (by omega) (by omega) (by omega) (by omega)
  exact ⟨by omega, b, by omega, Int.mul_nonneg (by omega) (by omega)⟩
theorem cb_bd {n r : Int} {k : Nat} (h : Cb n r (k + 1)) : 0 ≤ r + 2 ^ k ∧ r + 2 ^ k < 2097152 ∧ 0 ≤ (r + 2 ^ k) * (r + 2 ^ k) ∧ (r + 2 ^ k) * (r + 2 ^ k) < 4398046511104 ∧ (r + 2 ^ k) * (r + 2 ^ k) * (r + 2 ^ k) < 9223372036854775808 ∧ 0 ≤ (r + 2 ^ k) * (r + 2 ^ k) * (r + 2 ^ k) := by
  obtain ⟨h1, h2, h3, h4⟩ := h
  have a := nn h1
  have p := ppos k
  rw [psucc] at h4
  have b : r + 2 ^ k < 2097152 := by omega
  have c : (r + 2 ^ k) * (r + 2 ^ k) ≤ 2097151 * 2097151 := Int.mul_le_mul (by omega) (by omega) (by omega) (by omega)
  have c0 : 0 ≤ (r + 2 ^ k) * (r + 2 ^ k) := Int.mul_nonneg (by omega) (by omega)
  have d : (r + 2 ^ k) * (r + 2 ^ k) * (r + 2 ^ k) ≤ (2097151 * 2097151) * 2097151 := Int.mul_le_mul c (by omega) (by omega) (by omega)
  exact ⟨by omega, b, c0, by omega, by omega, Int.mul_nonneg c0 (by omega)⟩

/-- The roots. -/
def IsSqrt (n r : Int) : Prop := 0 ≤ r ∧ r * r ≤ n ∧ n < (r + 1) * (r + 1)
def IsCbrt (n r : Int) : Prop := 0 ≤ r ∧ r * r * r ≤ n ∧ n < (r + 1) * (r + 1) * (r + 1)
theorem sq_end {n r : Int} (h : Sq n r 0) : IsSqrt n r := ⟨nn h.1, h.2.1, by simpa using h.2.2.1⟩
theorem cb_end {n r : Int} (h : Cb n r 0) : IsCbrt n r := ⟨nn h.1, h.2.1, by simpa using h.2.2.1⟩
theorem sq_start {n : Int} (h0 : 0 ≤ n) (h1 : n ≤ 4611686018427387904) : Sq n 0 32 := ⟨⟨0, by simp⟩, by simpa using h0, by simp; omega, by simp⟩
theorem cb_start {n : Int} (h0 : 0 ≤ n) (h1 : n ≤ 4611686018427387904) : Cb n 0 21 := ⟨⟨0, by simp⟩, by simpa using h0, by simp; omega, by simp⟩

theorem lt_of_sq {a b : Int} (ha : 0 ≤ a) (hb : 0 ≤ b) (h : a * a < b * b) : a < b := by
  refine Int.not_le.1 fun hle => ?_
  have := Int.mul_le_mul hle hle hb ha
  omega
theorem lt_of_cb {a b : Int} (ha : 0 ≤ a) (hb : 0 ≤ b) (h : a * a * a < b * b * b) : a < b := by
  refine Int.not_le.1 fun hle => ?_
  have h1 := Int.mul_le_mul hle hle hb ha
  have := Int.mul_le_mul h1 hle hb (Int.mul_nonneg ha ha)
  omega
theorem sqrt_mono {n m r s : Int} (h1 : IsSqrt n r) (h2 : IsSqrt m s) (h : n ≤ m) : r ≤ s := by
  obtain ⟨a1, a2, a3⟩ := h1
  obtain ⟨b1, b2, b3⟩ := h2
  have := lt_of_sq (a := r) (b := s + 1) a1 (by omega) (by omega)
  omega
theorem cbrt_mono {n m r s : Int} (h1 : IsCbrt n r) (h2 : IsCbrt m s) (h : n ≤ m) : r ≤ s := by
  obtain ⟨a1, a2, a3⟩ := h1
  obtain ⟨b1, b2, b3⟩ := h2
  have := lt_of_cb (a := r) (b := s + 1) a1 (by omega) (by omega)
  omega
theorem sqrt_one {n r s : Int} (h1 : IsSqrt n r) (h2 : IsSqrt n s) : r = s := by
  have := sqrt_mono h1 h2 (by omega); have := sqrt_mono h2 h1 (by omega); omega
theorem cbrt_one {n r s : Int} (h1 : IsCbrt n r) (h2 : IsCbrt n s) : r = s := by
  have := cbrt_mono h1 h2 (by omega); have := cbrt_mono h2 h1 (by omega); omega
theorem sqrt_of {s : Int} (h : 0 ≤ s) : IsSqrt (s * s) s := ⟨h, by omega, by
  have : (s + 1) * (s + 1) = s * s + s + s + 1 := by rw [Int.add_mul, Int.mul_add]; omega
  omega⟩
theorem cbrt_of {s : Int} (h : 0 ≤ s) : IsCbrt (s * s * s) s := ⟨h, by omega, by
  have e : (s + 1) * (s + 1) = s * s + s + s + 1 := by rw [Int.add_mul, Int.mul_add]; omega
  rw [e]
  have e2 : (s * s + s + s + 1) * (s + 1) = s * s * s + (s * s + s * s + s * s) + s + s + s + 1 := by
    rw [Int.mul_add, Int.add_mul, Int.add_mul, Int.add_mul]; omega
  have := Int.mul_nonneg h h
  omega⟩
theorem sqrt_bd {n r : Int} (h : IsSqrt n r) (h1 : n ≤ 4611686018427387904) : r ≤ 2147483648 := by
  obtain ⟨a1, a2, a3⟩ := h
  have := lt_of_sq (a := r) (b := 2147483649) a1 (by omega) (by omega)
  omega
theorem cbrt_bd {n r : Int} (h : IsCbrt n r) (h1 : n ≤ 4611686018427387904) : r ≤ 1664510 := by
  obtain ⟨a1, a2, a3⟩ := h
  have := lt_of_cb (a := r) (b := 1664511) a1 (by omega) (by omega)
  omega
/-- What a law asks by dividing. -/
theorem sqrt_div {n r : Int} (h : IsSqrt n r) (h0 : 0 < r) : r ≤ n / r := by
  obtain ⟨a1, a2, a3⟩ := h
  exact (Int.le_ediv_iff_mul_le h0).2 a2
theorem sqrt_div' {n r : Int} (h : IsSqrt n r) : n / (r + 1) < r + 1 := by
  obtain ⟨a1, a2, a3⟩ := h
  exact (Int.ediv_lt_iff_lt_mul (by omega)).2 a3
theorem cbrt_div {n r : Int} (h : IsCbrt n r) (h0 : 0 < r) : r * r ≤ n / r := by
  obtain ⟨a1, a2, a3⟩ := h
  exact (Int.le_ediv_iff_mul_le h0).2 a2
theorem cbrt_div' {n r : Int} (h : IsCbrt n r) : n / (r + 1) < (r + 1) * (r + 1) := by
  obtain ⟨a1, a2, a3⟩ := h
  exact (Int.ediv_lt_iff_lt_mul (by omega)).2 a3
end Go.Proofs.Ytbodpeiemamibaa.Fx

/- What fix's roots do. -/
namespace Go.Proofs.Ytbodpeiemamibaa.Fx
open Go Go.ChangeShapes Go.WideShapes Go.ChangeAt Go.RowKit

theorem ofInt_nat {B : Nat} {x : Int} (h0 : 0 ≤ x) (h1 : x < 2 ^ B) : (BitVec.ofInt B x).toNat = x.toNat := by
  rw [BitVec.toNat_ofInt, Int.emod_eq_of_lt h0 (by simpa using h1)]
theorem or_u64 {x y : Int} (h0 : 0 ≤ x) (h1 : x < 2 ^ 64) (h2 : 0 ≤ y) (h3 : y < 2 ^ 64) : bits .or .u64 x y = ((x.toNat ||| y.toNat : Nat) : Int) := by
  have a1 : (BitVec.ofInt IntKind.u64.bits x).toNat = x.toNat := ofInt_nat h0 (show x < 2 ^ 64 by omega)
  have a2 : (BitVec.ofInt IntKind.u64.bits y).toNat = y.toNat := ofInt_nat h2 (show y < 2 ^ 64 by omega)
  have e : bits .or .u64 x y = IntKind.u64.wrap (((BitVec.ofInt IntKind.u64.bits x ||| BitVec.ofInt IntKind.u64.bits y).toNat : Nat) : Int) := rfl
  rw [e, BitVec.toNat_or, a1, a2]
  have : x.toNat ||| y.toNat < 2 ^ 64 := Nat.or_lt_two_pow (by omega) (by omega)
  simp [IntKind.wrap, IntKind.bits, IntKind.signed]
  omega
theorem or_i64 {x y : Int} (h0 : 0 ≤ x) (h1 : x < 2 ^ 63) (h2 : 0 ≤ y) (h3 : y < 2 ^ 63) : bits .or .i64 x y = ((x.toNat ||| y.toNat : Nat) : Int) := by
  have a1 : (BitVec.ofInt IntKind.i64.bits x).toNat = x.toNat := ofInt_nat h0 (show x < 2 ^ 64 by omega)
  have a2 : (BitVec.ofInt IntKind.i64.bits y).toNat = y.toNat := ofInt_nat h2 (show y < 2 ^ 64 by omega)
  have e : bits .or .i64 x y = IntKind.i64.wrap (((BitVec.ofInt IntKind.i64.bits x ||| BitVec.ofInt IntKind.i64.bits y).toNat : Nat) : Int) := rfl
  rw [e, BitVec.toNat_or, a1, a2]
  have : x.toNat ||| y.toNat < 2 ^ 63 := Nat.or_lt_two_pow (by omega) (by omega)
  simp [IntKind.wrap, IntKind.bits, IntKind.signed]
  omega

def bt : Nat → Int
  | 0 => 0
  | k + 1 => 2 ^ k
theorem bt_half (k : Nat) : (2 : Int) ^ k / 2 = bt k := by
  cases k with
  | zero => rfl
  | succ k => rw [psucc]; simp [bt]
theorem bt_lt (k : Nat) : bt k < 2 ^ k := by
  cases k with
  | zero => decide
  | succ k => have := ppos k; rw [psucc]; simp [bt]; omega
theorem bt_nn (k : Nat) : 0 ≤ bt k := by
  cases k with
  | zero => decide
  | succ k => have := ppos k; simp [bt]; omega
theorem u64_in {x : Int} (h0 : 0 ≤ x) (h1 : x < 18446744073709551616) : IntKind.u64.wrap x = x := by
  simp [IntKind.wrap, IntKind.bits, IntKind.signed]; omega

end Go.Proofs.Ytbodpeiemamibaa.Fx

/- What the document's own answers of fix do. -/
namespace Go.Proofs.Ytbodpeiemamibaa.Fx
open Go Go.ChangeShapes Go.WideShapes Go.ChangeAt Go.RowKit

theorem rnd_parts {n b : Int} (hb : 1 ≤ b) : ∃ q r : Int, n / 2 ^ b.toNat = q ∧ q * 2 ^ b.toNat + r = n ∧ 0 ≤ r ∧ r < 2 ^ b.toNat ∧ (rnd n b = if 2 ^ (b.toNat - 1) ≤ r then q + 1 else q) := by
  obtain ⟨H, h0, e0, e1, e2⟩ := rnd_at (n := n) hb
  have l := div_lo (x := n) (d := 2 * H) (by omega)
  have u := div_hi (x := n) (d := 2 * H) (by omega)
  refine ⟨n / 2 ^ b.toNat, n - n / 2 ^ b.toNat * 2 ^ b.toNat, rfl, by omega, ?_, ?_, ?_⟩
  · rw [e1]; omega
  · rw [e1]; omega
  · rw [e2, ← e0, e1]
    generalize n / (2 * H) = q at *
    split
    · rw [show n + H = (n + H - (q + 1) * (2 * H)) + (q + 1) * (2 * H) by omega, Int.add_mul_ediv_right _ _ (by omega), Int.ediv_eq_zero_of_lt (by rw [Int.add_mul]; omega) (by rw [Int.add_mul]; omega)]
      omega
    · rw [show n + H = (n + H - q * (2 * H)) + q * (2 * H) by omega, Int.add_mul_ediv_right _ _ (by omega), Int.ediv_eq_zero_of_lt (by omega) (by omega)]
      omega

theorem down_zero (n : Int) (w : World) :
    Calls Try.prog 16 #[.int .i64 n, .int .i64 0] w fun e w' => e = .returned (.int .i64 n) ∧ w = w' := by
  go_enter Try.func16, Try.ntmps16
  go_wp2
  go_ret
  exact ⟨rfl, rfl⟩

theorem ret1 {a b : Int} (h : a = b) : Ending.returned (.int .i64 a) = .returned (.int .i64 b) := by rw [h]

set_option maxHeartbeats 2000000 in
theorem down_pos (n b : Int) (w : World) (h1 : -4611686018427387904 ≤ n) (h2 : n ≤ 4611686018427387904) (h3 : 1 ≤ b) (h4 : b ≤ 62) :
    Calls Try.prog 16 #[.int .i64 n, .int .i64 b] w fun e w' => e = .returned (.int .i64 (rnd n b)) ∧ w = w' := by
  have c0 : (b == 0) = false := by simp; omega
  obtain ⟨q, r, e1, e2, e3, e4, e5⟩ := rnd_parts (n := n) h3
  have p0 := pow_pos' (b.toNat - 1)
  have p1 := pow61 h4
  have p2 := pow_succ' h3
  have x1 : wrap64 (2 ^ (b.toNat - 1)) = 2 ^ (b.toNat - 1) := w64 (by omega) (by omega)
  have key : ∀ P T H : Int, P + r = n → r < T → T = 2 * H → H ≤ 2305843009213693952 → wrap64 P = P ∧ wrap64 (n - P) = r := fun P T H g1 g2 g3 g4 =>
    ⟨w64 (by omega) (by omega), by rw [w64 (by omega) (by omega)]; omega⟩
  obtain ⟨x2, x3⟩ := key _ _ _ e2 e4 p2 p1
  clear key
  have q1 : -9223372036854775808 ≤ q ∧ q + 1 ≤ 9223372036854775807 := by
    have := rnd_bd (n := n) (b := b) (by omega) h1 h2
    clear e2 e4 p2 x1 x2 x3 e1 p1 p0
    split at e5 <;> omega
  obtain ⟨q1, q2⟩ := q1
  have E5 := Lib.hid e5
  clear e5 p2 e2 e4
  by_cases hr : 2 ^ (b.toNat - 1) ≤ r
  · go_enter Try.func16, Try.ntmps16
    go_wp2
    go_ret
    exact ⟨ret1 (by rw [E5.out, if_pos hr]), rfl⟩
  · go_enter Try.func16, Try.ntmps16
    go_wp2
    go_ret
    exact ⟨ret1 (by rw [E5.out, if_neg (Int.not_le.2 hr)]), rfl⟩

theorem down_in (n b : Int) (w : World) (h1 : -4611686018427387904 ≤ n) (h2 : n ≤ 4611686018427387904) (h3 : 0 ≤ b) (h4 : b ≤ 62) :
    Calls Try.prog 16 #[.int .i64 n, .int .i64 b] w fun e w' => e = .returned (.int .i64 (rnd n b)) ∧ w = w' := by
  by_cases e : b = 0
  · subst e; exact down_zero n w
  · exact down_pos n b w h1 h2 (by omega) h4

theorem le_div {c n : Int} (h : 0 < c) : c ≤ n / c ↔ c * c ≤ n := Int.le_ediv_iff_mul_le h
theorem le_div2 {c n : Int} (h : 0 < c) : c * c ≤ n / c ↔ c * c * c ≤ n := Int.le_ediv_iff_mul_le h

end Go.Proofs.Ytbodpeiemamibaa.Fx
