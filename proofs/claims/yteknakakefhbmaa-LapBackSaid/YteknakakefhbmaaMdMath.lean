/- Numbers of the transform, of no program. -/
import Derived.Test.YteknakakefhbmaaTrigMath
namespace Go.Proofs.Yteknakakefhbmaa.Mm
open Go Go.Proofs.Yteknakakefhbmaa.Fx

theorem first_all : ∀ n : Nat, n < 513 → -67108864 ≤ firstF (n : Int) ∧ firstF (n : Int) ≤ 67108864 := by decide +kernel
theorem cos_bd (n : Int) : -67108864 ≤ cosF n ∧ cosF n ≤ 67108864 := by
  have hf := fold_bd n
  unfold cosF
  split
  · have := first_all (1024 - fold n).toNat (by omega)
    rw [show (((1024 - fold n).toNat : Nat) : Int) = 1024 - fold n by omega] at this
    omega
  · have := first_all (fold n).toNat (by omega)
    rwa [show (((fold n).toNat : Nat) : Int) = fold n by omega] at this
theorem cosF_same {n m : Int} (h : fold n = fold m) : cosF n = cosF m := by unfold cosF; rw [h]
theorem cosF_neg (n : Int) : cosF (-n) = cosF n := cosF_same (by unfold fold; split <;> split <;> omega)
theorem cosF_circle (n c : Int) : cosF (n + 2048 * c) = cosF n := cosF_same (by unfold fold; split <;> split <;> omega)
theorem cosF_mod (n : Int) : cosF (n % 2048) = cosF n := cosF_same (by unfold fold; split <;> split <;> omega)
theorem first_512 : firstF 512 = 0 := by decide
theorem cosF_half (n : Int) : cosF (n + 1024) = -cosF n := by
  have hn := fold_bd n
  have hf : fold (n + 1024) = 1024 - fold n := by unfold fold; split <;> split <;> omega
  unfold cosF
  rw [hf]
  by_cases h1 : fold n < 512
  · rw [if_pos (by omega), if_neg (by omega), show 1024 - (1024 - fold n) = fold n by omega]
  · by_cases h2 : fold n = 512
    · rw [h2, if_neg (by decide), if_neg (by decide)]
      show firstF 512 = -firstF 512
      rw [first_512]; rfl
    · rw [if_neg (by omega), if_pos (by omega), Int.neg_neg]
/-- A sum of products. -/
def ds (f c : Nat → Int) : Nat → Int
  | 0 => 0
  | k + 1 => ds f c k + f k * c k
theorem prod_bd {x y M : Int} (h0 : -M ≤ x) (h1 : x ≤ M) (k0 : -67108864 ≤ y) (k1 : y ≤ 67108864) : -(M * 67108864) ≤ x * y ∧ x * y ≤ M * 67108864 := by
  have a : 0 ≤ (M - x) * (67108864 + y) := Int.mul_nonneg (by omega) (by omega)
  have b : 0 ≤ (M + x) * (67108864 - y) := Int.mul_nonneg (by omega) (by omega)
  have c : 0 ≤ (M - x) * (67108864 - y) := Int.mul_nonneg (by omega) (by omega)
  have d : 0 ≤ (M + x) * (67108864 + y) := Int.mul_nonneg (by omega) (by omega)
  constructor <;> grind
theorem ds_bd {f c : Nat → Int} {M : Int} (hc : ∀ j, -67108864 ≤ c j ∧ c j ≤ 67108864) : ∀ k : Nat, (∀ j, j < k → -M ≤ f j ∧ f j ≤ M) → -((k : Int) * (M * 67108864)) ≤ ds f c k ∧ ds f c k ≤ (k : Int) * (M * 67108864)
  | 0, _ => by simp [ds]
  | k + 1, hf => by
    have a := ds_bd hc k (fun j h => hf j (by omega))
    have b := prod_bd (hf k (by omega)).1 (hf k (by omega)).2 (hc k).1 (hc k).2
    have e : ((k + 1 : Nat) : Int) * (M * 67108864) = (k : Int) * (M * 67108864) + M * 67108864 := by grind
    rw [e]
    simp only [ds]
    omega
theorem ds_congr {f g c d : Nat → Int} : ∀ k : Nat, (∀ j, j < k → f j = g j) → (∀ j, j < k → c j = d j) → ds f c k = ds g d k
  | 0, _, _ => rfl
  | k + 1, h, i => by simp only [ds, ds_congr k (fun j q => h j (by omega)) (fun j q => i j (by omega)), h k (by omega), i k (by omega)]
theorem ds_neg {f g c : Nat → Int} : ∀ k : Nat, (∀ j, j < k → g j = -f j) → ds g c k = -ds f c k
  | 0, _ => rfl
  | k + 1, h => by simp only [ds, ds_neg k (fun j q => h j (by omega)), h k (by omega)]; grind
theorem ds_negc {f c d : Nat → Int} : ∀ k : Nat, (∀ j, j < k → d j = -c j) → ds f d k = -ds f c k
  | 0, _ => rfl
  | k + 1, h => by simp only [ds, ds_negc k (fun j q => h j (by omega)), h k (by omega)]; grind
theorem ds_add {f g q c : Nat → Int} : ∀ k : Nat, (∀ j, j < k → q j = f j + g j) → ds q c k = ds f c k + ds g c k
  | 0, _ => rfl
  | k + 1, h => by simp only [ds, ds_add k (fun j p => h j (by omega)), h k (by omega)]; grind
theorem ds_zero {f c : Nat → Int} : ∀ k : Nat, (∀ j, j < k → f j = 0) → ds f c k = 0
  | 0, _ => rfl
  | k + 1, h => by simp only [ds, ds_zero k (fun j q => h j (by omega)), h k (by omega)]; grind
theorem ds_one {f g c : Nat → Int} {a : Nat} (ha : g a = f a + 1) (ho : ∀ j, j ≠ a → g j = f j) : ∀ k : Nat, ds g c k = ds f c k + (if a < k then c a else 0)
  | 0 => by simp [ds]
  | k + 1 => by
    simp only [ds, ds_one ha ho k]
    by_cases e : k = a
    · subst e
      rw [if_neg (by omega), if_pos (by omega), ha]
      grind
    · rw [ho k e]
      by_cases h : a < k
      · rw [if_pos h, if_pos (by omega)]; omega
      · rw [if_neg h, if_neg (by omega)]; omega
/-- An arc, and its cosine. -/
def ar (m s n k : Int) : Int := (2 * n + 1 + m) * (2 * k + 1) * s
def cw (m s : Int) (k : Int) (n : Nat) : Int := cosF (ar m s (n : Int) k)
def cv (m s : Int) (n : Int) (k : Nat) : Int := cosF (ar m s n (k : Int))
/-- Lines forward and back. -/
def fw (z : List Int) (m s : Int) (k : Nat) : Int := rnd (ds (fun n => z.getD n 0) (cw m s (k : Int)) (2 * m).toNat) 33
def bk (x : List Int) (m s b : Int) (n : Nat) : Int := rnd (ds (fun k => x.getD k 0) (cv m s (n : Int)) m.toNat) b
/-- A window's size. -/
def Sz (m s : Int) : Prop := (m = 256 ∧ s = 1) ∨ (m = 32 ∧ s = 8)
theorem Sz.ms {m s : Int} (h : Sz m s) : m * s = 256 := by rcases h with ⟨rfl, rfl⟩ | ⟨rfl, rfl⟩ <;> rfl
theorem odd_ar {m s : Int} (h : Sz m s) (n k : Int) : ar m s n k % (2 * s) = s := by
  unfold ar
  have e : (2 * n + 1 + m) * (2 * k + 1) = 2 * ((2 * n + 1 + m) * k + n + m / 2) + 1 := by
    rcases h with ⟨rfl, rfl⟩ | ⟨rfl, rfl⟩ <;> grind
  rw [e]
  generalize (2 * n + 1 + m) * k + n + m / 2 = q
  rcases h with ⟨rfl, rfl⟩ | ⟨rfl, rfl⟩ <;> omega
/-- Folds. -/
theorem fold_hi {m s : Int} (h : Sz m s) (n k : Int) : cosF (ar m s (2 * m - 1 - n) k) = cosF (ar m s (m + n) k) := by
  have e : ar m s (2 * m - 1 - n) k = -(ar m s (m + n) k) + 2048 * (2 * k + 1) := by
    unfold ar
    have := h.ms
    grind
  rw [e, cosF_circle, cosF_neg]
theorem fold_lo {m s : Int} (h : Sz m s) (n k : Int) : cosF (ar m s (m - 1 - n) k) = -cosF (ar m s n k) := by
  have e : ar m s (m - 1 - n) k = -(ar m s n k) + 1024 + 2048 * k := by
    unfold ar
    have := h.ms
    grind
  rw [e, cosF_circle, cosF_half, cosF_neg]
theorem bk_hi {x : List Int} {m s b : Int} (h : Sz m s) (n : Nat) (hn : (n : Int) < m) : bk x m s b (2 * m - 1 - n).toNat = bk x m s b (m + n).toNat := by
  unfold bk
  rw [ds_congr _ (fun _ _ => rfl) (fun j _ => ?_)]
  unfold cv
  have := fold_hi h (n : Int) (j : Int)
  rw [show (((2 * m - 1 - n).toNat : Nat) : Int) = 2 * m - 1 - n by omega, show (((m + n).toNat : Nat) : Int) = m + n by rcases h with ⟨rfl, rfl⟩ | ⟨rfl, rfl⟩ <;> omega]
  exact this
theorem bk_lo {x : List Int} {m s b : Int} (h : Sz m s) (hb : 0 ≤ b) (n : Nat) (hn : (n : Int) < m) : 0 ≤ bk x m s b n + bk x m s b (m - 1 - n).toNat ∧ bk x m s b n + bk x m s b (m - 1 - n).toNat ≤ 1 := by
  unfold bk
  rw [ds_negc (c := cv m s (n : Int)) (d := cv m s (((m - 1 - n).toNat : Nat) : Int)) m.toNat (fun j _ => ?_)]
  · exact rnd_neg hb
  · unfold cv
    rw [show (((m - 1 - n).toNat : Nat) : Int) = m - 1 - n by omega]
    exact fold_lo h (n : Int) (j : Int)
theorem rnd_small {c : Int} (h0 : -67108864 ≤ c) (h1 : c ≤ 67108864) : rnd c 33 = 0 := by
  obtain ⟨H, _, e1, _, e3⟩ := rnd_at (n := c) (b := 33) (by decide)
  have : H = 4294967296 := by rw [e1]; rfl
  subst this
  rw [e3]
  exact Int.ediv_eq_zero_of_lt (by omega) (by omega)
theorem fw_neg {z y : List Int} {m s : Int} (k : Nat) (h : ∀ j : Nat, (j : Int) < 2 * m → y.getD j 0 = -z.getD j 0) : 0 ≤ fw z m s k + fw y m s k ∧ fw z m s k + fw y m s k ≤ 1 := by
  unfold fw
  rw [ds_neg (f := fun n => z.getD n 0) (g := fun n => y.getD n 0) _ (fun j hj => h j (by omega))]
  exact rnd_neg (by decide)
theorem fw_one {z y : List Int} {m s : Int} (k a : Nat) (h : y.getD a 0 = z.getD a 0 + 1) (ho : ∀ j, j ≠ a → y.getD j 0 = z.getD j 0) : -1 ≤ fw y m s k - fw z m s k ∧ fw y m s k - fw z m s k ≤ 1 := by
  unfold fw
  rw [ds_one (f := fun n => z.getD n 0) (g := fun n => y.getD n 0) h ho]
  split
  · have c := cos_bd (ar m s (a : Int) (k : Int))
    have e := rnd_small c.1 c.2
    have := rnd_sum (n := ds (fun n => z.getD n 0) (cw m s (k : Int)) (2 * m).toNat) (m := cw m s (k : Int) a) (b := 33) (by decide)
    unfold cw at this ⊢
    rw [e] at this
    omega
  · rw [Int.add_zero]; omega
theorem bk_sum {x y z : List Int} {m s b : Int} (hb : 0 ≤ b) (n : Nat) (h : ∀ j : Nat, (j : Int) < m → x.getD j 0 = y.getD j 0 + z.getD j 0) : -1 ≤ bk y m s b n + bk z m s b n - bk x m s b n ∧ bk y m s b n + bk z m s b n - bk x m s b n ≤ 1 := by
  unfold bk
  rw [ds_add (f := fun n => y.getD n 0) (g := fun n => z.getD n 0) (q := fun n => x.getD n 0) _ (fun j hj => h j (by omega))]
  have := rnd_sum (n := ds (fun n => y.getD n 0) (cv m s (n : Int)) m.toNat) (m := ds (fun n => z.getD n 0) (cv m s (n : Int)) m.toNat) (b := b) hb
  omega
/-- Of a sum so far: bounds. -/
theorem ds_in {f c : Nat → Int} {M : Int} {N k : Nat} (hc : ∀ j, -67108864 ≤ c j ∧ c j ≤ 67108864) (hf : ∀ j, j < N → -M ≤ f j ∧ f j ≤ M) (hk : k ≤ N) (hM : (N : Int) * (M * 67108864) ≤ 4611686018427387904) (h0 : 0 ≤ M) : -4611686018427387904 ≤ ds f c k ∧ ds f c k ≤ 4611686018427387904 := by
  have := ds_bd (f := f) (c := c) (M := M) hc k (fun j h => hf j (by omega))
  have h1 : (k : Int) * (M * 67108864) ≤ (N : Int) * (M * 67108864) := Int.mul_le_mul_of_nonneg_right (by omega) (by omega)
  omega
/-- The table: cosines of odd multiples. -/
def tb (s : Int) (j : Nat) : Int := if (j : Int) % (2 * s) = s then cosF (j : Int) else 0
theorem tb_at {s a : Int} (hs : s = 1 ∨ s = 8) (h : a % (2 * s) = s) : tb s (a % 2048).toNat = cosF a := by
  unfold tb
  rw [show (((a % 2048).toNat : Nat) : Int) = a % 2048 by omega, if_pos (by rcases hs with rfl | rfl <;> omega), cosF_mod]
end Go.Proofs.Yteknakakefhbmaa.Mm
