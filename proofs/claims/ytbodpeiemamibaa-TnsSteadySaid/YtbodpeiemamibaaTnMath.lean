/- The coefficients of prediction, as numbers. -/
import Derived.Test.YtbodpeiemamibaaMrg1
namespace Go.Proofs.Ytbodpeiemamibaa.Tn
open Go Go.Proofs.Ytbodpeiemamibaa.Fx

def dOf (c : Int) (f : Bool) : Int := (if f then 15 else 7) + (if c < 0 then 2 else 0)
/-- The sine that a coefficient tells. -/
def mir (c : Int) (f : Bool) : Int := rnd (sinF ((2048 * c + dOf c f) / (2 * dOf c f))) 6
def low (f : Bool) : Int := if f then -8 else -4
def hgh (f : Bool) : Int := if f then 7 else 3
theorem sin_tab : ∀ (f : Bool) (n : Nat), n < 16 → -67108864 ≤ sinF ((2048 * ((n : Int) - 8) + dOf ((n : Int) - 8) f) / (2 * dOf ((n : Int) - 8) f)) ∧ sinF ((2048 * ((n : Int) - 8) + dOf ((n : Int) - 8) f) / (2 * dOf ((n : Int) - 8) f)) ≤ 67108864 := by decide +kernel
theorem mir_tab : ∀ (f : Bool) (n : Nat), n < 16 → -1048576 ≤ mir ((n : Int) - 8) f ∧ mir ((n : Int) - 8) f ≤ 1048576 := by decide +kernel
theorem mir_zero : ∀ f : Bool, mir 0 f = 0 := by decide +kernel
theorem mir_bd {c : Int} (f : Bool) (h0 : -8 ≤ c) (h1 : c ≤ 7) : -1048576 ≤ mir c f ∧ mir c f ≤ 1048576 := by
  have := mir_tab f (c + 8).toNat (by omega)
  rwa [show (((c + 8).toNat : Nat) : Int) - 8 = c by omega] at this
theorem sin_bd {c : Int} (f : Bool) (h0 : -8 ≤ c) (h1 : c ≤ 7) : -67108864 ≤ sinF ((2048 * c + dOf c f) / (2 * dOf c f)) ∧ sinF ((2048 * c + dOf c f) / (2 * dOf c f)) ≤ 67108864 := by
  have := sin_tab f (c + 8).toNat (by omega)
  rwa [show (((c + 8).toNat : Nat) : Int) - 8 = c by omega] at this
theorem d_bd (c : Int) (f : Bool) : 7 ≤ dOf c f ∧ dOf c f ≤ 17 := by unfold dOf; cases f <;> simp <;> split <;> omega
/-- One more coefficient. -/
def nx (m : Nat) (a : Nat → Int) (k : Int) : Nat → Int := fun i => if i < m then a i + rnd (k * a (m - 1 - i)) 20 else if i = m then k else 0
/-- The coefficients of prediction, of so many. -/
def cf (f : Bool) (zs : List Int) : Nat → Nat → Int
  | 0 => fun _ => 0
  | m + 1 => nx m (cf f zs m) (mir (zs.getD m 0) f)
theorem rnd20 {n a : Int} (h : -(a * 1048576) ≤ n) (h2 : n ≤ a * 1048576) : -a ≤ rnd n 20 ∧ rnd n 20 ≤ a := by
  unfold rnd
  rw [if_neg (by decide)]
  rw [show (2 : Int) ^ ((20 : Int).toNat - 1) = 524288 by decide, show (2 : Int) ^ (20 : Int).toNat = 1048576 by decide]
  omega
/-- The sum of sizes. -/
def tot (a : Nat → Int) : Nat → Int
  | 0 => 0
  | n + 1 => tot a n + max (a n) (-(a n))
theorem tot_nn (a : Nat → Int) : ∀ n, 0 ≤ tot a n
  | 0 => Int.le_refl _
  | n + 1 => by have := tot_nn a n; simp only [tot]; omega
theorem tot_at (a : Nat → Int) {i : Nat} : ∀ n, i < n → max (a i) (-(a i)) ≤ tot a n
  | 0, h => by omega
  | n + 1, h => by
    have := tot_nn a n
    simp only [tot]
    by_cases e : i = n
    · subst e; omega
    · have := tot_at a n (i := i) (by omega); omega
theorem tot_mono (a : Nat → Int) {i : Nat} : ∀ n, i ≤ n → tot a i ≤ tot a n
  | 0, h => by rw [show i = 0 by omega]; exact Int.le_refl _
  | n + 1, h => by
    by_cases e : i = n + 1
    · rw [e]; exact Int.le_refl _
    · have := tot_mono a n (i := i) (by omega)
      simp only [tot]; omega
/-- The same, from the other end. -/
theorem tot_front (a : Nat → Int) : ∀ n, tot a (n + 1) = max (a 0) (-(a 0)) + tot (fun i => a (i + 1)) n
  | 0 => by simp [tot]
  | n + 1 => by
    have ih := tot_front a n
    rw [show tot a (n + 1 + 1) = tot a (n + 1) + max (a (n + 1)) (-(a (n + 1))) from rfl, ih]
    simp only [tot]; omega
theorem tot_rev (a : Nat → Int) : ∀ n, tot (fun i => a (n - 1 - i)) n = tot a n
  | 0 => rfl
  | n + 1 => by
    rw [tot_front]
    have ih := tot_rev a n
    have e : tot (fun i => a (n + 1 - 1 - (i + 1))) n = tot (fun i => a (n - 1 - i)) n := by
      congr 1
      funext i
      congr 1
      omega
    rw [e, ih]
    simp only [tot, Nat.add_sub_cancel, Nat.sub_zero]; omega
theorem tot_add {a b c : Nat → Int} : ∀ n, (∀ i, i < n → max (c i) (-(c i)) ≤ max (a i) (-(a i)) + max (b i) (-(b i))) → tot c n ≤ tot a n + tot b n
  | 0, _ => by simp [tot]
  | n + 1, h => by
    have ih := tot_add n (fun i hi => h i (by omega))
    have := h n (by omega)
    simp only [tot]; omega
theorem tot_congr {a b : Nat → Int} : ∀ n, (∀ i, i < n → a i = b i) → tot a n = tot b n
  | 0, _ => rfl
  | n + 1, h => by simp only [tot]; rw [tot_congr n (fun i hi => h i (by omega)), h n (by omega)]
theorem rnd_prod {k x : Int} (k0 : -1048576 ≤ k) (k1 : k ≤ 1048576) : -(max x (-x)) ≤ rnd (k * x) 20 ∧ rnd (k * x) 20 ≤ max x (-x) := by
  have hx : 0 ≤ max x (-x) := by omega
  refine rnd20 ?_ ?_
  · by_cases c : 0 ≤ x
    · rw [Int.max_eq_left (by omega)]
      have := Int.mul_le_mul_of_nonneg_right k0 c
      have e : (-1048576 : Int) * x = -(x * 1048576) := by omega
      omega
    · rw [Int.max_eq_right (by omega)]
      have := Int.mul_le_mul_of_nonpos_right k1 (show x ≤ 0 by omega)
      have e : (1048576 : Int) * x = -(-x * 1048576) := by omega
      omega
  · by_cases c : 0 ≤ x
    · rw [Int.max_eq_left (by omega)]
      have := Int.mul_le_mul_of_nonneg_right k1 c
      have e : (1048576 : Int) * x = x * 1048576 := by omega
      omega
    · rw [Int.max_eq_right (by omega)]
      have := Int.mul_le_mul_of_nonpos_right k0 (show x ≤ 0 by omega)
      have e : (-1048576 : Int) * x = -x * 1048576 := by omega
      omega
theorem tot_nx {m : Nat} {a : Nat → Int} {k : Int} (k0 : -1048576 ≤ k) (k1 : k ≤ 1048576) : tot (nx m a k) (m + 1) ≤ 2 * tot a m + 1048576 := by
  have h1 : tot (nx m a k) m ≤ tot a m + tot (fun i => a (m - 1 - i)) m := by
    refine tot_add m (fun i hi => ?_)
    have := rnd_prod (x := a (m - 1 - i)) k0 k1
    simp only [nx, if_pos hi]
    omega
  rw [tot_rev] at h1
  have h2 : nx m a k m = k := by simp [nx]
  simp only [tot, h2]
  omega
theorem tot_cf {f : Bool} {zs : List Int} (hz : ∀ i, i < zs.length → -8 ≤ zs.getD i 0 ∧ zs.getD i 0 ≤ 7) : ∀ m, m ≤ zs.length → tot (cf f zs m) m ≤ (2 ^ m - 1) * 1048576
  | 0, _ => by simp [tot]
  | m + 1, h => by
    have ih := tot_cf (f := f) hz m (by omega)
    have hk := hz m (by omega)
    have hb := mir_bd f hk.1 hk.2
    have := tot_nx (m := m) (a := cf f zs m) hb.1 hb.2
    simp only [cf]
    have e : (2 : Int) ^ (m + 1) = 2 * 2 ^ m := by rw [Int.pow_succ]; omega
    rw [e]
    omega
theorem cf_out {f : Bool} {zs : List Int} : ∀ m i, m ≤ i → cf f zs m i = 0
  | 0, _, _ => rfl
  | m + 1, i, h => by simp only [cf, nx]; rw [if_neg (by omega), if_neg (by omega)]
theorem pow12 {m : Nat} (h : m ≤ 12) : (2 : Int) ^ m ≤ 4096 := by
  match m, h with
  | 0, _ | 1, _ | 2, _ | 3, _ | 4, _ | 5, _ | 6, _ | 7, _ | 8, _ | 9, _ | 10, _ | 11, _ | 12, _ => decide
  | n + 13, h => omega
theorem cf_bd {f : Bool} {zs : List Int} (hz : ∀ i, i < zs.length → -8 ≤ zs.getD i 0 ∧ zs.getD i 0 ≤ 7) (hl : zs.length ≤ 12) {m i : Nat} (hm : m ≤ zs.length) : -4293918720 ≤ cf f zs m i ∧ cf f zs m i ≤ 4293918720 := by
  by_cases hi : i < m
  · have h1 := tot_at (cf f zs m) m hi
    have h2 := tot_cf (f := f) hz m hm
    have h3 := pow12 (m := m) (by omega)
    omega
  · rw [cf_out m i (by omega)]; omega
theorem cf_zero {f : Bool} {zs : List Int} (hz : ∀ i, i < zs.length → zs.getD i 0 = 0) : ∀ m, m ≤ zs.length → ∀ i, cf f zs m i = 0
  | 0, _, _ => rfl
  | m + 1, h, i => by
    have ih := cf_zero (f := f) hz m (by omega)
    simp only [cf, nx, hz m (by omega), mir_zero, ih]
    split
    · decide
    · split <;> rfl
end Go.Proofs.Ytbodpeiemamibaa.Tn
