/- Numbers of noise, of no program. -/
import Derived.Test.YtanjcbnkkhbkkaaDoorRootMath
namespace Go.Proofs.YtanjcbnkkhbkkaaDoor.Nm
open Go
/-- Sums over the first places. -/
def sm (f : Nat → Int) : Nat → Int
  | 0 => 0
  | k + 1 => sm f k + f k
theorem sm_nn {f : Nat → Int} (h : ∀ i, 0 ≤ f i) : ∀ k, 0 ≤ sm f k
  | 0 => Int.le_refl 0
  | k + 1 => by have := sm_nn h k; have := h k; simp only [sm]; omega
theorem sm_le {f g : Nat → Int} : ∀ k, (∀ i, i < k → f i ≤ g i) → sm f k ≤ sm g k
  | 0, _ => Int.le_refl 0
  | k + 1, h => by have := sm_le k (fun i hi => h i (by omega)); have := h k (by omega); simp only [sm]; omega
theorem sm_eq {f g : Nat → Int} : ∀ k, (∀ i, i < k → f i = g i) → sm f k = sm g k
  | 0, _ => rfl
  | k + 1, h => by simp only [sm, sm_eq k (fun i hi => h i (by omega)), h k (by omega)]
theorem sm_mul {f : Nat → Int} (c : Int) : ∀ k, sm (fun i => c * f i) k = c * sm f k
  | 0 => by simp [sm]
  | k + 1 => by simp only [sm, sm_mul c k]; grind
theorem sm_add {f g : Nat → Int} : ∀ k, sm (fun i => f i + g i) k = sm f k + sm g k
  | 0 => rfl
  | k + 1 => by simp only [sm, sm_add k]; omega
theorem sm_const (c : Int) : ∀ k : Nat, sm (fun _ => c) k = (k : Int) * c
  | 0 => by simp [sm]
  | k + 1 => by simp only [sm, sm_const c k]; grind
theorem sq_nn (x : Int) : 0 ≤ x * x := by
  rcases Int.le_total 0 x with h | h
  · exact Int.mul_nonneg h h
  · have := Int.mul_nonneg (Int.neg_nonneg_of_nonpos h) (Int.neg_nonneg_of_nonpos h)
    rwa [Int.neg_mul_neg] at this
theorem le_of_sq {a b : Int} (hb : 0 ≤ b) (h : a * a ≤ b * b) : a ≤ b := by
  refine Int.not_lt.1 fun hlt => ?_
  have : b * b < a * a := Int.lt_of_le_of_lt (Int.mul_le_mul_of_nonneg_left (Int.le_of_lt hlt) hb) (Int.mul_lt_mul_of_pos_right hlt (by omega))
  omega
theorem abs_le_of_sq {a b : Int} (hb : 0 ≤ b) (h : a * a ≤ b * b) : a ≤ b ∧ -b ≤ a := by
  refine ⟨le_of_sq hb h, ?_⟩
  have := le_of_sq (a := -a) hb (by rwa [Int.neg_mul_neg])
  omega
/-- Cauchy's. -/
theorem cauchy (x y : Nat → Int) : ∀ k, sm (fun i => x i * y i) k * sm (fun i => x i * y i) k ≤ sm (fun i => x i * x i) k * sm (fun i => y i * y i) k
  | 0 => by simp [sm]
  | k + 1 => by
    have ih := cauchy x y k
    have hX := sm_nn (f := fun i => x i * x i) (fun i => sq_nn _) k
    have hY := sm_nn (f := fun i => y i * y i) (fun i => sq_nn _) k
    simp only [sm]
    generalize sm (fun i => x i * y i) k = P at *
    generalize sm (fun i => x i * x i) k = X at *
    generalize sm (fun i => y i * y i) k = Y at *
    generalize x k = a at *
    generalize y k = b at *
    have ha := sq_nn a
    have hb := sq_nn b
    have h1 : 0 ≤ X * (b * b) + a * a * Y := Int.add_nonneg (Int.mul_nonneg hX hb) (Int.mul_nonneg ha hY)
    have h2 : (2 * P * (a * b)) * (2 * P * (a * b)) ≤ (X * (b * b) + a * a * Y) * (X * (b * b) + a * a * Y) := by
      have d := sq_nn (X * (b * b) - a * a * Y)
      have e : 0 ≤ (X * Y - P * P) * ((a * a) * (b * b)) := Int.mul_nonneg (by omega) (Int.mul_nonneg ha hb)
      grind
    have h3 := le_of_sq h1 h2
    grind
theorem triangle {x y : Nat → Int} {A B : Int} {k : Nat} (hA : 0 ≤ A) (hB : 0 ≤ B) (hx : sm (fun i => x i * x i) k ≤ A * A) (hy : sm (fun i => y i * y i) k ≤ B * B) :
    sm (fun i => (x i + y i) * (x i + y i)) k ≤ (A + B) * (A + B) := by
  have c := cauchy x y k
  have hX := sm_nn (f := fun i => x i * x i) (fun i => sq_nn _) k
  have hY := sm_nn (f := fun i => y i * y i) (fun i => sq_nn _) k
  have e : sm (fun i => (x i + y i) * (x i + y i)) k = sm (fun i => x i * x i) k + (2 * sm (fun i => x i * y i) k + sm (fun i => y i * y i) k) := by
    rw [← sm_mul, ← sm_add, ← sm_add]
    exact sm_eq k fun i _ => by grind
  rw [e]
  generalize sm (fun i => x i * y i) k = P at *
  generalize sm (fun i => x i * x i) k = X at *
  generalize sm (fun i => y i * y i) k = Y at *
  have h1 : X * Y ≤ A * A * (B * B) := Int.mul_le_mul hx hy hY (sq_nn A)
  have h2 : P ≤ A * B := le_of_sq (Int.mul_nonneg hA hB) (by grind)
  grind
/-! ### Noise -/
def nx (x : Nat) : Nat := (x * 1664525 + 1013904223) % 4294967296
def nseq (s : Nat) : Nat → Nat
  | 0 => s
  | i + 1 => nx (nseq s i)
def nval (x : Nat) : Int := ((x / 65536 : Nat) : Int) - 32768
def nv (s i : Nat) : Int := nval (nseq s (i + 1))
theorem nx_lt (x : Nat) : nx x < 4294967296 := Nat.mod_lt _ (by decide)
theorem nseq_lt {s : Nat} (h : s < 4294967296) : ∀ i, nseq s i < 4294967296
  | 0 => h
  | _ + 1 => nx_lt _
theorem nv_bd (s i : Nat) : -32768 ≤ nv s i ∧ nv s i ≤ 32767 := by
  have := nx_lt (nseq s i)
  unfold nv nval
  simp only [nseq]
  omega
theorem sq_bd {v : Int} (h : -32768 ≤ v ∧ v ≤ 32767) : v * v ≤ 1073741824 := by
  have h1 : 0 ≤ (32768 - v) * (32768 + v) := Int.mul_nonneg (by omega) (by omega)
  grind
def nS (s : Nat) (k : Nat) : Int := sm (fun i => nv s i * nv s i) k
theorem nS_bd (s : Nat) : ∀ k : Nat, 0 ≤ nS s k ∧ nS s k ≤ k * 1073741824
  | 0 => by simp [nS, sm]
  | k + 1 => by
    have a := nS_bd s k
    have b := sq_bd (nv_bd s k)
    have c := sq_nn (nv s k)
    have e : nS s (k + 1) = nS s k + nv s k * nv s k := rfl
    rw [e]
    omega
theorem nS_at (s : Nat) {i : Nat} : ∀ k : Nat, i < k → nv s i * nv s i ≤ nS s k
  | 0, h => by omega
  | k + 1, h => by
    have e : nS s (k + 1) = nS s k + nv s k * nv s k := rfl
    have c := sq_nn (nv s k)
    have d := (nS_bd s k).1
    by_cases he : i = k
    · subst he; omega
    · have := nS_at s k (i := i) (by omega); omega
/-- A line of noise: d the root of the sum, a the line of 1. -/
def nl (d a v : Int) : Int := if d = 0 then 0 else (512 * v * a + d) / (2 * d)
abbrev IsRt := Fx.IsSqrt
theorem rt_abs {S d v : Int} (h : IsRt (65536 * S) d) (hv : v * v ≤ S) : 256 * v ≤ d ∧ -(256 * v) ≤ d := by
  obtain ⟨h0, h1, h2⟩ := h
  have k : ∀ u : Int, u * u ≤ S → 256 * u ≤ d := fun u hu => by
    refine Int.not_lt.1 fun hlt => ?_
    have : (d + 1) * (d + 1) ≤ (256 * u) * (256 * u) := Int.mul_le_mul (by omega) (by omega) (by omega) (by omega)
    grind
  refine ⟨k v hv, ?_⟩
  have := k (-v) (by rwa [Int.neg_mul_neg])
  omega
theorem rt_zero {S d : Int} (h : IsRt (65536 * S) d) (hS : 0 ≤ S) (hd : d = 0) : S = 0 := by
  obtain ⟨h0, h1, h2⟩ := h
  subst hd
  omega
theorem rt_lo {S d : Int} (h : IsRt (65536 * S) d) (hS : 0 ≤ S) (hd : d ≠ 0) : 256 ≤ d := by
  have : 1 * 1 ≤ S := by
    refine Int.not_lt.1 fun hlt => ?_
    have e : S = 0 := by omega
    subst e
    obtain ⟨h0, h1, h2⟩ := h
    have : 1 * 1 ≤ d * d := Int.mul_le_mul (by omega) (by omega) (by omega) (by omega)
    omega
  have := (rt_abs h this).1
  omega
theorem rt_hi {S d : Int} (h : IsRt (65536 * S) d) (hS : S ≤ 274877906944) : d ≤ 134217728 := by
  obtain ⟨h0, h1, h2⟩ := h
  refine Int.not_lt.1 fun hlt => ?_
  have : 134217729 * 134217729 ≤ d * d := Int.mul_le_mul (by omega) (by omega) (by omega) (by omega)
  omega
/-- What is left over. -/
theorem nl_left {d a v : Int} (hd : 0 < d) : ∃ e : Int, 2 * d * nl d a v = 512 * a * v + e ∧ -d < e ∧ e ≤ d := by
  have h := Int.mul_ediv_add_emod (512 * v * a + d) (2 * d)
  have h0 := Int.emod_nonneg (512 * v * a + d) (show 2 * d ≠ 0 by omega)
  have h1 := Int.emod_lt_of_pos (512 * v * a + d) (show 0 < 2 * d by omega)
  refine ⟨d - (512 * v * a + d) % (2 * d), ?_, by omega, by omega⟩
  unfold nl
  rw [if_neg (by omega)]
  grind
theorem nl_bd {S d a v : Int} (h : IsRt (65536 * S) d) (hv : v * v ≤ S) (ha : 0 ≤ a) : -a ≤ nl d a v ∧ nl d a v ≤ a := by
  by_cases hd : d = 0
  · unfold nl; rw [if_pos hd]; omega
  · obtain ⟨v1, v2⟩ := rt_abs h hv
    obtain ⟨h0, _, _⟩ := h
    unfold nl
    rw [if_neg hd]
    have a1 : 256 * v * a ≤ d * a := Int.mul_le_mul_of_nonneg_right v1 ha
    have a2 : -(256 * v) * a ≤ d * a := Int.mul_le_mul_of_nonneg_right v2 ha
    constructor
    · refine Int.le_ediv_of_mul_le (by omega) ?_
      grind
    · refine Int.le_of_lt_add_one ?_
      refine Int.ediv_lt_of_lt_mul (by omega) ?_
      grind
theorem nl_sign {d a v : Int} (h0 : 0 ≤ d) (ha : 0 ≤ a) : (0 ≤ v → 0 ≤ nl d a v) ∧ (v ≤ 0 → nl d a v ≤ 0) := by
  by_cases hd : d = 0
  · unfold nl; rw [if_pos hd]; omega
  · unfold nl
    rw [if_neg hd]
    constructor
    · intro hv
      have : 0 ≤ v * a := Int.mul_nonneg hv ha
      exact Int.ediv_nonneg (by grind) (by omega)
    · intro hv
      have : 0 ≤ (-v) * a := Int.mul_nonneg (by omega) ha
      refine Int.le_of_lt_add_one ?_
      exact Int.ediv_lt_of_lt_mul (by omega) (by grind)
/-- Four steps more: twice, to 2. -/
theorem nl_double {S d a b v : Int} (h : IsRt (65536 * S) d) (hv : v * v ≤ S) (hb : -1 ≤ b - 2 * a ∧ b - 2 * a ≤ 1) : -2 ≤ nl d b v - 2 * nl d a v ∧ nl d b v - 2 * nl d a v ≤ 2 := by
  by_cases hd : d = 0
  · unfold nl; rw [if_pos hd, if_pos hd]; omega
  · obtain ⟨v1, v2⟩ := rt_abs h hv
    have hd0 : 0 < d := by have := h.1; omega
    obtain ⟨e, e1, e2, e3⟩ := nl_left (a := a) (v := v) hd0
    obtain ⟨f, f1, f2, f3⟩ := nl_left (a := b) (v := v) hd0
    have hdv : (b - 2 * a) * v * 512 ≤ 2 * d ∧ -(2 * d) ≤ (b - 2 * a) * v * 512 := by
      obtain q | q | q : b - 2 * a = -1 ∨ b - 2 * a = 0 ∨ b - 2 * a = 1 := by omega
      all_goals rw [q]; omega
    have key : 2 * d * (nl d b v - 2 * nl d a v) = 512 * (b - 2 * a) * v + (f - 2 * e) := by grind
    have k2 : ∀ X : Int, 2 * d * X < 2 * d * 3 → X ≤ 2 := fun X hX => by
      have := Int.lt_of_mul_lt_mul_left hX (by omega); omega
    have k3 : ∀ X : Int, 2 * d * (-3) < 2 * d * X → -2 ≤ X := fun X hX => by
      have := Int.lt_of_mul_lt_mul_left hX (by omega); omega
    exact ⟨k3 _ (by rw [key]; grind), k2 _ (by rw [key]; grind)⟩
/-- As loud as its step says. -/
theorem loud {s m : Nat} {d a root : Int} (h : IsRt (65536 * nS s m) d) (ha : 0 ≤ a) (hr : 0 ≤ root) (hm : (m : Int) ≤ root * root) (hd : d ≠ 0) :
    sm (fun i => nl d a (nv s i) * nl d a (nv s i)) m ≤ 256 * ((a / 16 + a / 1600 + root + 2) * (a / 16 + a / 1600 + root + 2)) ∧
    (0 ≤ a / 16 - a / 1600 - root - 2 → 256 * ((a / 16 - a / 1600 - root - 2) * (a / 16 - a / 1600 - root - 2)) ≤ sm (fun i => nl d a (nv s i) * nl d a (nv s i)) m) := by
  have hS := (nS_bd s m).1
  have h256 := rt_lo h hS hd
  have hd0 : 0 < d := by omega
  have hE : ∀ i, ∃ e : Int, 2 * d * nl d a (nv s i) = 512 * a * nv s i + e ∧ -d < e ∧ e ≤ d := fun i => nl_left hd0
  let e : Nat → Int := fun i => Classical.choose (hE i)
  have he : ∀ i, 2 * d * nl d a (nv s i) = 512 * a * nv s i + e i ∧ -d < e i ∧ e i ≤ d := fun i => Classical.choose_spec (hE i)
  generalize e = e at he
  obtain ⟨_, r1, r2⟩ := h
  have sx : sm (fun i => (512 * a * nv s i) * (512 * a * nv s i)) m = 4 * (a * a) * (65536 * nS s m) := by
    rw [show 4 * (a * a) * (65536 * nS s m) = (262144 * (a * a)) * nS s m by grind]
    unfold nS
    rw [← sm_mul]
    exact sm_eq m fun i _ => by grind
  have se : sm (fun i => e i * e i) m ≤ (d * root) * (d * root) := by
    have : sm (fun i => e i * e i) m ≤ sm (fun _ => d * d) m := sm_le m fun i _ => by
      have := he i
      have : 0 ≤ (d - e i) * (d + e i) := Int.mul_nonneg (by omega) (by omega)
      grind
    rw [sm_const] at this
    have q : (m : Int) * (d * d) ≤ root * root * (d * d) := Int.mul_le_mul_of_nonneg_right hm (sq_nn d)
    grind
  have sl : sm (fun i => (512 * a * nv s i + e i) * (512 * a * nv s i + e i)) m = 4 * (d * d) * sm (fun i => nl d a (nv s i) * nl d a (nv s i)) m := by
    rw [← sm_mul]
    exact sm_eq m fun i _ => by have := (he i).1; rw [← this]; grind
  have hdr : 0 ≤ d * root := Int.mul_nonneg (by omega) hr
  have hdd : 0 < 4 * (d * d) := by have : 0 < d * d := Int.mul_pos hd0 hd0; omega
  generalize hX : sm (fun i => nl d a (nv s i) * nl d a (nv s i)) m = L at *
  have up := triangle (x := fun i => 512 * a * nv s i) (y := e) (A := 2 * a * (d + 1)) (B := d * root) (k := m) (Int.mul_nonneg (by omega) (by omega)) hdr (by
    rw [sx]
    have : 4 * (a * a) * (65536 * nS s m) ≤ 4 * (a * a) * ((d + 1) * (d + 1)) := Int.mul_le_mul_of_nonneg_left (by omega) (by have := sq_nn a; omega)
    grind) se
  rw [sl] at up
  constructor
  · refine Int.le_of_mul_le_mul_left (Int.le_trans up ?_) hdd
    obtain ⟨p, hp⟩ : ∃ p, a / 16 = p := ⟨_, rfl⟩
    obtain ⟨q, hq⟩ : ∃ q, a / 1600 = q := ⟨_, rfl⟩
    rw [hp, hq]
    have k1 : 2 * a * (d + 1) + d * root ≤ 32 * d * (p + q + root + 2) := by
      have k2 : 50 * (2 * a) + 100 * 0 ≤ d * a := by
        have : 256 * a ≤ d * a := Int.mul_le_mul_of_nonneg_right h256 ha
        omega
      have k3 : 101 * a + 50 * root ≤ 1600 * (p + q + root + 2) := by omega
      have k4 := Int.mul_le_mul_of_nonneg_left k3 (show 0 ≤ d by omega)
      grind
    have k5 : 0 ≤ 2 * a * (d + 1) + d * root := Int.add_nonneg (Int.mul_nonneg (by omega) (by omega)) hdr
    have k6 := Int.mul_le_mul k1 k1 k5 (Int.le_trans k5 k1)
    grind
  · intro hn
    refine Int.not_lt.1 fun hlt => ?_
    obtain ⟨p, hp⟩ : ∃ p, a / 16 = p := ⟨_, rfl⟩
    obtain ⟨q, hq⟩ : ∃ q, a / 1600 = q := ⟨_, rfl⟩
    rw [hp, hq] at hn hlt
    have b1 : sm (fun i => (512 * a * nv s i + e i) * (512 * a * nv s i + e i)) m ≤ (32 * d * (p - q - root - 2)) * (32 * d * (p - q - root - 2)) := by
      rw [sl]
      have := Int.mul_le_mul_of_nonneg_left (Int.le_of_lt hlt) (Int.le_of_lt hdd)
      grind
    have b2 := triangle (x := fun i => 512 * a * nv s i + e i) (y := fun i => -e i) (k := m) (Int.mul_nonneg (by omega) hn) hdr b1 (by
      rw [sm_eq m (g := fun i => e i * e i) (fun i _ => by grind)]; exact se)
    rw [sm_eq m (g := fun i => (512 * a * nv s i) * (512 * a * nv s i)) (fun i _ => by grind), sx] at b2
    have b3 : (2 * a * d) * (2 * a * d) ≤ 4 * (a * a) * (65536 * nS s m) := by
      have := Int.mul_le_mul_of_nonneg_left r1 (show 0 ≤ 4 * (a * a) by have := sq_nn a; omega)
      grind
    have b4 := le_of_sq (Int.add_nonneg (Int.mul_nonneg (by omega) hn) hdr) (Int.le_trans b3 b2)
    have b5 : d * (32 * (p - q - root - 2) + root) < d * (2 * a) := Int.mul_lt_mul_of_pos_left (by omega) hd0
    grind

/-! ### Seeds -/
theorem gen (K M J c n m x y r : Int) (hk : J * K = 1 + c * M) (a : M * x + r = n * K) (b : M * y + r = m * K) : n - m = M * (J * (x - y) - c * (n - m)) := by
  grind
theorem small (M n m z : Int) (hM : 1048576 ≤ M) (h0 : 0 ≤ n) (h1 : n < 1048576) (h2 : 0 ≤ m) (h3 : m < 1048576) (k : n - m = M * z) : n = m := by
  by_cases h : z = 0
  · subst h; omega
  · have : z ≤ -1 ∨ 1 ≤ z := by omega
    rcases this with h | h
    · have := Int.mul_le_mul_of_nonneg_left h (show 0 ≤ M by omega); omega
    · have := Int.mul_le_mul_of_nonneg_left h (show 0 ≤ M by omega); omega
theorem inj (K M J c n m : Int) (hM : 1048576 ≤ M) (hk : J * K = 1 + c * M) (h0 : 0 ≤ n) (h1 : n < 1048576) (h2 : 0 ≤ m) (h3 : m < 1048576) (h : n * K % M = m * K % M) : n = m := by
  have a := Int.mul_ediv_add_emod (n * K) M
  have b := Int.mul_ediv_add_emod (m * K) M
  rw [h] at a
  exact small M n m _ hM h0 h1 h2 h3 (gen K M J c n m _ _ _ hk a b)
theorem seed_inj (n m : Int) (h0 : 0 ≤ n) (h1 : n < 1048576) (h2 : 0 ≤ m) (h3 : m < 1048576) (h : n * 2654435761 % 4294967296 = m * 2654435761 % 4294967296) : n = m :=
  inj 2654435761 4294967296 244002641 150801925 n m (by decide) (by decide) h0 h1 h2 h3 h
/-- A seed. -/
def sd (g w b : Int) : Int := (4096 * g + 512 * w + b) * 2654435761 % 4294967296
theorem sd_bd (g w b : Int) : 0 ≤ sd g w b ∧ sd g w b < 4294967296 := ⟨Int.emod_nonneg _ (by decide), Int.emod_lt_of_pos _ (by decide)⟩
def okS (g w b : Int) : Prop := 0 ≤ g ∧ g ≤ 255 ∧ 0 ≤ w ∧ w ≤ 7 ∧ 0 ≤ b ∧ b ≤ 511
theorem sd_inj {g w b x y z : Int} (h : okS g w b) (k : okS x y z) (e : sd g w b = sd x y z) : g = x ∧ w = y ∧ b = z := by
  obtain ⟨h1, h2, h3, h4, h5, h6⟩ := h
  obtain ⟨k1, k2, k3, k4, k5, k6⟩ := k
  have := seed_inj (4096 * g + 512 * w + b) (4096 * x + 512 * y + z) (by omega) (by omega) (by omega) (by omega) e
  omega

/-! ### Roots, chosen -/
theorem sq_ex : ∀ n : Nat, ∃ r : Int, IsRt (n : Int) r
  | 0 => ⟨0, Int.le_refl 0, by decide, by decide⟩
  | n + 1 => by
    obtain ⟨r, h0, h1, h2⟩ := sq_ex n
    by_cases h : (r + 1) * (r + 1) ≤ ((n + 1 : Nat) : Int)
    · refine ⟨r + 1, by omega, h, ?_⟩
      have e : (r + 1 + 1) * (r + 1 + 1) = (r + 1) * (r + 1) + 2 * (r + 1) + 1 := by grind
      omega
    · exact ⟨r, h0, by omega, by omega⟩
noncomputable def sqF (n : Int) : Int := Classical.choose (sq_ex n.toNat)
theorem sqF_is {n : Int} (h : 0 ≤ n) : IsRt n (sqF n) := by
  have a : IsRt ((n.toNat : Nat) : Int) (sqF n) := Classical.choose_spec (sq_ex n.toNat)
  have e : ((n.toNat : Nat) : Int) = n := Int.toNat_of_nonneg h
  generalize sqF n = r at *
  rw [e] at a
  exact a
theorem sqF_of {n r : Int} (h : IsRt n r) : r = sqF n := Fx.sqrt_one h (sqF_is (by
  have := h.2.1
  have := sq_nn r
  omega))
/-- The root of a band's sum. -/
noncomputable def nd (s m : Nat) : Int := sqF (65536 * nS s m)
theorem nd_is (s m : Nat) : IsRt (65536 * nS s m) (nd s m) := sqF_is (by have := (nS_bd s m).1; omega)
theorem nd_bd (s m : Nat) (h : m ≤ 256) : 0 ≤ nd s m ∧ nd s m ≤ 134217728 := ⟨(nd_is s m).1, rt_hi (nd_is s m) (by have := (nS_bd s m).2; omega)⟩
end Go.Proofs.YtanjcbnkkhbkkaaDoor.Nm
