/- Sums of cosines over a window. -/
import Derived.Test.YteknakakefhbmaaMdMath
namespace Go.Proofs.Yteknakakefhbmaa.Mm
open Go Go.Proofs.Yteknakakefhbmaa.Fx

/-- A sum. -/
def sg (f : Nat → Int) : Nat → Int
  | 0 => 0
  | k + 1 => sg f k + f k
theorem sg_congr {f g : Nat → Int} : ∀ k : Nat, (∀ j, j < k → f j = g j) → sg f k = sg g k
  | 0, _ => rfl
  | k + 1, h => by simp only [sg, sg_congr k (fun j q => h j (by omega)), h k (by omega)]
theorem sg_add (f g : Nat → Int) : ∀ k : Nat, sg (fun j => f j + g j) k = sg f k + sg g k
  | 0 => rfl
  | k + 1 => by simp only [sg, sg_add f g k]; omega
theorem sg_mul (c : Int) (f : Nat → Int) : ∀ k : Nat, sg (fun j => c * f j) k = c * sg f k
  | 0 => by simp [sg]
  | k + 1 => by simp only [sg, sg_mul c f k]; grind
theorem sg_zero : ∀ k : Nat, sg (fun _ => 0) k = 0
  | 0 => rfl
  | k + 1 => by simp only [sg, sg_zero k]; rfl
theorem sg_const (c : Int) : ∀ k : Nat, sg (fun _ => c) k = (k : Int) * c
  | 0 => by simp [sg]
  | k + 1 => by simp only [sg, sg_const c k]; grind
theorem sg_swap (F : Nat → Nat → Int) (M : Nat) : ∀ N : Nat, sg (fun k => sg (fun l => F l k) N) M = sg (fun l => sg (fun k => F l k) M) N
  | 0 => sg_zero M
  | N + 1 => by simp only [sg]; rw [sg_add, sg_swap F M N]
theorem sg_bd {f : Nat → Int} {E : Int} : ∀ k : Nat, (∀ j, j < k → -E ≤ f j ∧ f j ≤ E) → -((k : Int) * E) ≤ sg f k ∧ sg f k ≤ (k : Int) * E
  | 0, _ => by simp [sg]
  | k + 1, h => by
    have a := sg_bd k (fun j q => h j (by omega))
    have b := h k (by omega)
    have e : ((k + 1 : Nat) : Int) * E = (k : Int) * E + E := by grind
    rw [e]
    simp only [sg]
    omega
theorem ds_sg (f c : Nat → Int) : ∀ k : Nat, ds f c k = sg (fun j => f j * c j) k
  | 0 => rfl
  | k + 1 => by simp only [ds, sg, ds_sg f c k]
/-- One place of a sum. -/
theorem sg_one {z : Nat → Int} (a : Nat) : ∀ k : Nat, sg (fun j => if j = a then z j else 0) k = if a < k then z a else 0
  | 0 => by simp [sg]
  | k + 1 => by
    simp only [sg, sg_one a k]
    by_cases h : k = a
    · subst h; rw [if_neg (by omega), if_pos rfl, if_pos (by omega)]; omega
    · rw [if_neg h]
      by_cases h2 : a < k
      · rw [if_pos h2, if_pos (by omega)]; omega
      · rw [if_neg h2, if_neg (by omega)]; rfl
theorem sg_anti {f : Nat → Int} {m : Nat} (h : ∀ k, k < m → f (m - 1 - k) = -f k) : ∀ j : Nat, j ≤ m → sg f j + (sg f m - sg f (m - j)) = 0
  | 0, _ => by simp [sg]
  | j + 1, hj => by
    have a := sg_anti h j (by omega)
    have b := h j (by omega)
    have e : sg f (m - j) = sg f (m - (j + 1)) + f (m - (j + 1)) := by
      rw [show m - j = (m - (j + 1)) + 1 by omega]; rfl
    rw [show m - 1 - j = m - (j + 1) by omega] at b
    simp only [sg]
    omega
theorem sg_pairs {f : Nat → Int} {m : Nat} (h : ∀ k, k < m → f (m - 1 - k) = -f k) : sg f m = 0 := by
  have := sg_anti h m (Nat.le_refl _)
  rw [Nat.sub_self] at this
  simp only [sg] at this
  omega
theorem sg_shift {f : Nat → Int} {h : Nat} (hf : ∀ k, f (k + h) = -f k) (a : Nat) : ∀ j : Nat, sg f (a + h + j) - sg f (a + h) = -(sg f (a + j) - sg f a)
  | 0 => by simp
  | j + 1 => by
    have b := sg_shift hf a j
    have c := hf (a + j)
    rw [show a + h + (j + 1) = (a + h + j) + 1 by omega, show a + (j + 1) = (a + j) + 1 by omega]
    simp only [sg]
    rw [show a + h + j = a + j + h by omega] at *
    omega
theorem sg_blocks {f : Nat → Int} {h : Nat} (hf : ∀ k, f (k + h) = -f k) : ∀ t : Nat, sg f (2 * h * t) = 0
  | 0 => rfl
  | t + 1 => by
    have a := sg_blocks hf t
    have b := sg_shift hf (2 * h * t) h
    rw [show 2 * h * (t + 1) = 2 * h * t + h + h by rw [Nat.mul_add]; omega]
    omega
/-- Over a window. -/
def dw (m : Nat) (s p : Int) : Int := sg (fun k => cosF (2 * p * (2 * (k : Int) + 1) * s)) m
theorem cosF_odd {y c : Int} : cosF (1024 * (2 * c + 1) - y) = -cosF y := by
  rw [show 1024 * (2 * c + 1) - y = -y + 1024 + 2048 * c by omega, cosF_circle, cosF_half, cosF_neg]
theorem pow_of : ∀ r : Nat, r < 512 → r % 2 = 0 → r ≠ 0 → ∃ t : Nat, t < 8 ∧ (r * 2 ^ t) % 512 = 256 := by decide +kernel
theorem pow_of8 : ∀ r : Nat, r < 64 → r % 2 = 0 → r ≠ 0 → ∃ t : Nat, t < 5 ∧ (r * 2 ^ t) % 64 = 32 := by decide +kernel
theorem dw_step {m : Nat} {s p : Int} {h t : Nat} (hm : m = 2 * h * t) (hp : ∃ c : Int, p * h * s = 256 + 512 * c) : dw m s p = 0 := by
  subst hm
  obtain ⟨c, hc⟩ := hp
  refine sg_blocks (fun k => ?_) t
  have e : 2 * p * (2 * ((k + h : Nat) : Int) + 1) * s = 2 * p * (2 * (k : Int) + 1) * s + 1024 + 2048 * c := by
    rw [Int.natCast_add]
    have : 2 * p * (2 * ((k : Int) + h) + 1) * s = 2 * p * (2 * (k : Int) + 1) * s + 4 * (p * h * s) := by grind
    omega
  rw [e, cosF_circle, cosF_half]
theorem dw_odd {m : Nat} {s p : Int} (hs : (m : Int) * s = 256) (hp : p % 2 = 1) : dw m s p = 0 := by
  obtain ⟨c, rfl⟩ : ∃ c, p = 2 * c + 1 := ⟨p / 2, by omega⟩
  refine sg_pairs fun k hk => ?_
  have e : 2 * (2 * c + 1) * (2 * ((m - 1 - k : Nat) : Int) + 1) * s = 1024 * (2 * c + 1) - 2 * (2 * c + 1) * (2 * (k : Int) + 1) * s := by
    rw [show ((m - 1 - k : Nat) : Int) = (m : Int) - 1 - k by omega]
    have : 2 * (2 * c + 1) * (2 * ((m : Int) - 1 - k) + 1) * s = 4 * (2 * c + 1) * ((m : Int) * s) - 2 * (2 * c + 1) * (2 * (k : Int) + 1) * s := by grind
    rw [this, hs]; omega
  rw [e, cosF_odd]
theorem dw_256 {p : Int} (h : p % 512 ≠ 0) : dw 256 1 p = 0 := by
  by_cases ho : p % 2 = 1
  · exact dw_odd (by decide) ho
  · obtain ⟨t, ht, hr⟩ := pow_of (p % 512).toNat (by omega) (by omega) (by omega)
    refine dw_step (h := 2 ^ t) (t := 2 ^ (7 - t)) ?_ ?_
    · have : 2 ^ t * 2 ^ (7 - t) = 2 ^ 7 := by rw [← Nat.pow_add]; congr 1; omega
      rw [Nat.mul_assoc, this]
    · generalize 2 ^ t = h at *
      have e : ((p % 512).toNat : Int) = p % 512 := by omega
      have e2 : (((p % 512).toNat * h : Nat) : Int) = p % 512 * h := by rw [Int.natCast_mul, e]
      obtain ⟨q, hq⟩ : ∃ q : Int, p = p % 512 + 512 * q := ⟨p / 512, by omega⟩
      refine ⟨(p % 512 * h) / 512 + q * h, ?_⟩
      have e3 : p * h * 1 = p % 512 * h + 512 * (q * h) := by
        have : p * h * 1 = (p % 512 + 512 * q) * h := by rw [← hq]; omega
        rw [this]; grind
      omega
theorem dw_32 {p : Int} (h : p % 64 ≠ 0) : dw 32 8 p = 0 := by
  by_cases ho : p % 2 = 1
  · exact dw_odd (by decide) ho
  · obtain ⟨t, ht, hr⟩ := pow_of8 (p % 64).toNat (by omega) (by omega) (by omega)
    refine dw_step (h := 2 ^ t) (t := 2 ^ (4 - t)) ?_ ?_
    · have : 2 ^ t * 2 ^ (4 - t) = 2 ^ 4 := by rw [← Nat.pow_add]; congr 1; omega
      rw [Nat.mul_assoc, this]
    · generalize 2 ^ t = h at *
      have e : ((p % 64).toNat : Int) = p % 64 := by omega
      have e2 : (((p % 64).toNat * h : Nat) : Int) = p % 64 * h := by rw [Int.natCast_mul, e]
      obtain ⟨q, hq⟩ : ∃ q : Int, p = p % 64 + 64 * q := ⟨p / 64, by omega⟩
      refine ⟨(p % 64 * h) / 64 + q * h, ?_⟩
      have e3 : p * h * 8 = 8 * (p % 64 * h) + 512 * (q * h) := by
        have : p * h * 8 = (p % 64 + 64 * q) * h * 8 := by rw [← hq]
        rw [this]; grind
      omega
theorem cosF_0 : cosF 0 = 67108864 := by decide +kernel
/-- Where all are alike. -/
theorem dw_all {m : Nat} {s u : Int} (hs : (m : Int) * s = 256) : dw m s (2 * (m : Int) * u) = if u % 2 = 0 then (m : Int) * 67108864 else -((m : Int) * 67108864) := by
  have key : ∀ k : Nat, 2 * (2 * (m : Int) * u) * (2 * (k : Int) + 1) * s = 1024 * (u * (2 * k + 1)) := fun k => by
    have : 2 * (2 * (m : Int) * u) * (2 * (k : Int) + 1) * s = 4 * ((m : Int) * s) * (u * (2 * k + 1)) := by grind
    rw [this, hs]; omega
  unfold dw
  by_cases h : u % 2 = 0
  · rw [if_pos h, ← sg_const]
    refine sg_congr m fun k _ => ?_
    obtain ⟨c, hc⟩ : ∃ c, u = 2 * c := ⟨u / 2, by omega⟩
    rw [key, show 1024 * (u * (2 * (k : Int) + 1)) = 0 + 2048 * (c * (2 * k + 1)) by rw [hc]; grind, cosF_circle, cosF_0]
  · rw [if_neg h, ← Int.mul_neg, ← sg_const]
    refine sg_congr m fun k _ => ?_
    obtain ⟨c, hc⟩ : ∃ c, u = 2 * c + 1 := ⟨u / 2, by omega⟩
    rw [key, show 1024 * (u * (2 * (k : Int) + 1)) = 0 + 1024 + 2048 * (c * (2 * k + 1) + k) by rw [hc]; grind, cosF_circle, cosF_half, cosF_0]
end Go.Proofs.Yteknakakefhbmaa.Mm
