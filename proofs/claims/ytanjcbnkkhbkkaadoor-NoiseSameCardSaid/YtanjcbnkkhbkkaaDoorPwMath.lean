/- Numbers of powers and lines, plain. -/
import Derived.Test.YtanjcbnkkhbkkaaDoorFixMath
import Derived.Test.YtanjcbnkkhbkkaaDoorRootMath
import Derived.Lib.Hide
namespace Go.Proofs.YtanjcbnkkhbkkaaDoor.Fx
open Go

theorem cbrt_ex : ∀ n : Nat, ∃ r : Int, IsCbrt (n : Int) r
  | 0 => ⟨0, Int.le_refl 0, by decide, by decide⟩
  | n + 1 => by
    obtain ⟨r, h0, h1, h2⟩ := cbrt_ex n
    by_cases h : (r + 1) * (r + 1) * (r + 1) ≤ ((n + 1 : Nat) : Int)
    · refine ⟨r + 1, by omega, h, ?_⟩
      have e : (r + 1 + 1) * (r + 1 + 1) * (r + 1 + 1) = (r + 1) * (r + 1) * (r + 1) + (3 * ((r + 1) * (r + 1)) + 3 * (r + 1) + 1) := by
        generalize r + 1 = t
        simp only [Int.add_mul, Int.mul_add, Int.one_mul, Int.mul_one]; omega
      have g : 0 ≤ (r + 1) * (r + 1) := Int.mul_nonneg (by omega) (by omega)
      rw [e]
      generalize (r + 1) * (r + 1) * (r + 1) = c at *
      generalize (r + 1) * (r + 1) = d at *
      omega
    · exact ⟨r, h0, by omega, by omega⟩
/-- The third root. -/
noncomputable def cbF (n : Int) : Int := Classical.choose (cbrt_ex n.toNat)
theorem cbF_is {n : Int} (h : 0 ≤ n) : IsCbrt n (cbF n) := by
  have a : IsCbrt ((n.toNat : Nat) : Int) (cbF n) := Classical.choose_spec (cbrt_ex n.toNat)
  have e : ((n.toNat : Nat) : Int) = n := Int.toNat_of_nonneg h
  generalize cbF n = r at *
  rw [e] at a
  exact a
theorem cbF_of {n r : Int} (h : IsCbrt n r) : r = cbF n := cbrt_one h (cbF_is (by
  have a : 0 ≤ r * r * r := Int.mul_nonneg (Int.mul_nonneg h.1 h.1) h.1
  have := h.2.1
  omega))
theorem cbF_mono {n m : Int} (h0 : 0 ≤ n) (h : n ≤ m) : cbF n ≤ cbF m := cbrt_mono (cbF_is h0) (cbF_is (by omega)) h

/-- Powers. -/
noncomputable def fo (q : Int) : Int := q * cbF (q * 68719476736)
theorem fo_zero : fo 0 = 0 := by unfold fo; rw [Int.zero_mul]
theorem cb_lo {q : Int} (h : 1 ≤ q) : 4096 ≤ cbF (q * 68719476736) :=
  cbrt_mono (n := 68719476736) (r := 4096) (by refine ⟨by decide, by decide, by decide⟩) (cbF_is (by omega)) (by omega)
theorem cb_hi {q : Int} (h0 : 0 ≤ q) (h : q ≤ 8191) : cbF (q * 68719476736) ≤ 82566 :=
  cbrt_mono (m := 562881233944576) (s := 82566) (cbF_is (by omega)) (by refine ⟨by decide, by decide, by decide⟩) (by omega)
theorem cb_nn {q : Int} (h0 : 0 ≤ q) : 0 ≤ cbF (q * 68719476736) := (cbF_is (by omega)).1
theorem fo_bd {q : Int} (h0 : 0 ≤ q) (h : q ≤ 8191) : 0 ≤ fo q ∧ fo q ≤ 676298106 := by
  have a := cb_nn h0
  have b := cb_hi h0 h
  unfold fo
  exact ⟨Int.mul_nonneg h0 a, by have : q * cbF (q * 68719476736) ≤ 8191 * 82566 := Int.mul_le_mul h b a (by omega); omega⟩
theorem fo_mono {p q : Int} (h0 : 0 ≤ p) (h : p ≤ q) : fo p ≤ fo q :=
  Int.mul_le_mul h (cbF_mono (by omega) (by omega)) (cb_nn h0) (by omega)
theorem fo_lo {q : Int} (h : 1 ≤ q) : 4096 ≤ fo q := by
  have : 1 * 4096 ≤ q * cbF (q * 68719476736) := Int.mul_le_mul h (cb_lo h) (by omega) (by omega)
  unfold fo; omega

/-- A step's quarter power, and the bits that are rounded off. -/
def qt (s : Int) : Int := if s % 4 = 0 then 1073741824 else if s % 4 = 1 then 1276901417 else if s % 4 = 2 then 1518500250 else 1805811301
def bt' (s : Int) : Int := max (61 - s / 4) 0
theorem qt_bd (s : Int) : 1073741824 ≤ qt s ∧ qt s ≤ 1805811301 := by unfold qt; split <;> (try split) <;> (try split) <;> omega
theorem bt'_bd {s : Int} (h0 : 0 ≤ s) : 0 ≤ bt' s ∧ bt' s ≤ 61 := by unfold bt'; omega
/-- The line of a number from 0 on. -/
noncomputable def ln (q s : Int) : Int := min (rnd (fo q * qt s) (bt' s)) 268435455
theorem rnd_zero {b : Int} (h : 0 ≤ b) : rnd 0 b = 0 := by
  by_cases e : b = 0
  · subst e; rfl
  · obtain ⟨H, h0, _, _, e2⟩ := rnd_at (n := 0) (b := b) (by omega)
    rw [e2]; exact Int.ediv_eq_zero_of_lt (by omega) (by omega)
theorem rnd_nn {n b : Int} (h : 0 ≤ b) (hn : 0 ≤ n) : 0 ≤ rnd n b := by have := rnd_mono h hn; rwa [rnd_zero h] at this
theorem ln_zero {s : Int} (h : 0 ≤ s) : ln 0 s = 0 := by unfold ln; rw [fo_zero, Int.zero_mul, rnd_zero (bt'_bd h).1]; rfl
theorem ln_mono {p q s : Int} (hs : 0 ≤ s) (h0 : 0 ≤ p) (h : p ≤ q) : ln p s ≤ ln q s := by
  have a := rnd_mono (bt'_bd hs).1 (Int.mul_le_mul_of_nonneg_right (fo_mono h0 h) (by have := qt_bd s; omega) : fo p * qt s ≤ fo q * qt s)
  unfold ln; omega
theorem ln_bd {q s : Int} (hs : 0 ≤ s) (h0 : 0 ≤ q) : 0 ≤ ln q s ∧ ln q s ≤ 268435455 := by
  have a := ln_mono hs (Int.le_refl 0) h0
  rw [ln_zero hs] at a
  exact ⟨a, by unfold ln; omega⟩
theorem pr_bd {q s : Int} (h0 : 0 ≤ q) (h : q ≤ 8191) : 0 ≤ fo q * qt s ∧ fo q * qt s ≤ 4611686018427387904 := by
  obtain ⟨a, b⟩ := fo_bd h0 h
  obtain ⟨c, d⟩ := qt_bd s
  exact ⟨Int.mul_nonneg a (by omega), by have : fo q * qt s ≤ 676298106 * 1805811301 := Int.mul_le_mul b d (by omega) (by omega); omega⟩
/-- Twice a number, rounded off by a bit more. -/
theorem rnd_double {n b : Int} (hb : 1 ≤ b) : rnd (2 * n) b = rnd n (b - 1) := by
  by_cases e : b = 1
  · subst e
    show rnd (2 * n) 1 = rnd n 0
    unfold rnd
    rw [if_neg (by decide), if_pos rfl]
    show (2 * n + 1) / 2 = n
    omega
  · obtain ⟨H, h0, e0, e1, e2⟩ := rnd_at (n := 2 * n) (b := b) hb
    obtain ⟨K, k0, f0, f1, f2⟩ := rnd_at (n := n) (b := b - 1) (by omega)
    have hk : H = 2 * K := by
      rw [e0, ← f1, show (b - 1).toNat = b.toNat - 1 by omega]
    rw [e2, f2, hk, show 2 * n + 2 * K = 2 * (n + K) by omega, Int.mul_ediv_mul_of_pos _ _ (by omega)]
theorem ln_step {q s : Int} (hs : 0 ≤ s) (hs1 : s < 255) (h0 : 0 ≤ q) (hq : q ≤ 8191) : ln q s ≤ ln q (s + 1) := by
  obtain ⟨f0, f1⟩ := fo_bd h0 hq
  by_cases h3 : s % 4 = 3
  · have e1 : qt s = 1805811301 := by unfold qt; rw [if_neg (by omega), if_neg (by omega), if_neg (by omega)]
    have e2 : qt (s + 1) = 1073741824 := by unfold qt; rw [if_pos (by omega)]
    by_cases hb : 1 ≤ bt' s
    · have e3 : bt' (s + 1) = bt' s - 1 := by unfold bt' at *; omega
      have a := rnd_mono (bt'_bd hs).1 (show fo q * qt s ≤ 2 * (fo q * qt (s + 1)) by rw [e1, e2]; omega)
      rw [rnd_double hb, ← e3] at a
      unfold ln; omega
    · have e3 : bt' (s + 1) = 0 := by unfold bt' at *; omega
      by_cases hz : q = 0
      · subst hz; rw [ln_zero hs, ln_zero (by omega)]; exact Int.le_refl _
      · have := fo_lo (q := q) (by omega)
        have : rnd (fo q * qt (s + 1)) (bt' (s + 1)) = fo q * 1073741824 := by rw [e2, e3]; rfl
        unfold ln; rw [this]; omega
  · have e3 : bt' (s + 1) = bt' s := by unfold bt'; omega
    have e4 : qt s ≤ qt (s + 1) := by unfold qt; split <;> (try split) <;> (try split) <;> (try split) <;> (try split) <;> omega
    have a := rnd_mono (bt'_bd hs).1 (Int.mul_le_mul_of_nonneg_left e4 f0 : fo q * qt s ≤ fo q * qt (s + 1))
    unfold ln; rw [e3]; omega

/-- The line of any number that may be. -/
noncomputable def LN (q s : Int) : Int := if q < 0 then -ln (-q) s else ln q s
theorem LN_neg {q s : Int} (hs : 0 ≤ s) : LN (-q) s = -LN q s := by
  unfold LN
  by_cases h : q < 0
  · rw [if_pos h, if_neg (by omega)]; omega
  · by_cases e : q = 0
    · subst e; rw [if_neg (by decide), if_neg (by decide)]; show ln 0 s = -ln 0 s; rw [ln_zero hs]; rfl
    · rw [if_neg h, if_pos (by omega), Int.neg_neg]
theorem LN_pos {q s : Int} (h : 0 ≤ q) : LN q s = ln q s := by unfold LN; rw [if_neg (by omega)]
theorem LN_bd {q s : Int} (hs : 0 ≤ s) : -268435455 ≤ LN q s ∧ LN q s ≤ 268435455 := by
  unfold LN
  split
  · have := ln_bd (q := -q) hs (by omega); omega
  · have := ln_bd (q := q) hs (by omega); omega
theorem LN_mono {p q s : Int} (hs : 0 ≤ s) (h : p ≤ q) : LN p s ≤ LN q s := by
  unfold LN
  split
  · split
    · have := ln_mono (p := -q) (q := -p) hs (by omega) (by omega); omega
    · have a := ln_bd (q := -p) hs (by omega); have b := ln_bd (q := q) hs (by omega); omega
  · rw [if_neg (by omega)]; exact ln_mono hs (by omega) h
theorem LN_step {q s : Int} (hs : 0 ≤ s) (hs1 : s < 255) (h0 : -8191 ≤ q) (hq : q ≤ 8191) : (0 ≤ q → LN q s ≤ LN q (s + 1)) ∧ (q ≤ 0 → LN q (s + 1) ≤ LN q s) := by
  constructor
  · intro h; rw [LN_pos h, LN_pos h]; exact ln_step hs hs1 h hq
  · intro h
    have := ln_step (q := -q) hs hs1 (by omega) (by omega)
    have e1 := LN_neg (q := -q) hs
    have e2 := LN_neg (q := -q) (s := s + 1) (by omega)
    rw [Int.neg_neg, LN_pos (q := -q) (by omega)] at e1 e2
    omega

/-- The nearest number of a line from 0 on. -/
def Near (x s r : Int) : Prop := 0 ≤ r ∧ r ≤ 8191 ∧ (r = 8191 ∨ 2 * x ≤ ln r s + ln (r + 1) s) ∧ (r = 0 ∨ ln (r - 1) s + ln r s < 2 * x)
theorem near_mono {x y s r t : Int} (hs : 0 ≤ s) (hx : Near x s r) (hy : Near y s t) (h : x ≤ y) : r ≤ t := by
  obtain ⟨r0, r1, r2, r3⟩ := hx
  obtain ⟨t0, t1, t2, t3⟩ := hy
  refine Int.not_lt.1 fun hlt => ?_
  have a := ln_mono (p := t) (q := r - 1) hs t0 (by omega)
  have b := ln_mono (p := t + 1) (q := r) hs (by omega) (by omega)
  omega
theorem near_one {x s r t : Int} (hs : 0 ≤ s) (hx : Near x s r) (hy : Near x s t) : r = t := by
  have := near_mono hs hx hy (Int.le_refl _); have := near_mono hs hy hx (Int.le_refl _); omega
theorem near_best {x s r q : Int} (hs : 0 ≤ s) (h : Near x s r) (hx : 0 ≤ x) (hq : q ≤ 8191) : (x - ln r s ≤ x - LN q s ∨ x - ln r s ≤ LN q s - x) ∧ (ln r s - x ≤ x - LN q s ∨ ln r s - x ≤ LN q s - x) := by
  obtain ⟨r0, r1, r2, r3⟩ := h
  have z := ln_bd (q := r) hs r0
  by_cases hn : q < 0
  · have a : LN q s ≤ 0 := by have := LN_mono (p := q) (q := 0) hs (by omega); rwa [LN_pos (Int.le_refl 0), ln_zero hs] at this
    by_cases e : r = 0
    · subst e; rw [ln_zero hs]; omega
    · have b := ln_bd (q := r - 1) hs (by omega)
      omega
  · rw [LN_pos (by omega)]
    by_cases hlt : q < r
    · have a := ln_mono (p := q) (q := r - 1) hs (by omega) (by omega)
      have b := ln_mono (p := q) (q := r) hs (by omega) (by omega)
      omega
    · by_cases e : q = r
      · subst e; omega
      · have a := ln_mono (p := r + 1) (q := q) hs (by omega) (by omega)
        have b := ln_mono (p := r) (q := q) hs (by omega) (by omega)
        omega
/-- The nearest number of any line that may be. -/
def NearS (x s r : Int) : Prop := if x < 0 then Near (-x) s (-r) else Near x s r
theorem nearS_bd {x s r : Int} (h : NearS x s r) : -8191 ≤ r ∧ r ≤ 8191 := by
  unfold NearS at h
  split at h
  · have := h.1; have := h.2.1; omega
  · have := h.1; have := h.2.1; omega
theorem nearS_best {x s r q : Int} (hs : 0 ≤ s) (h : NearS x s r) (h0 : -8191 ≤ q) (hq : q ≤ 8191) : (x - LN r s ≤ x - LN q s ∨ x - LN r s ≤ LN q s - x) ∧ (LN r s - x ≤ x - LN q s ∨ LN r s - x ≤ LN q s - x) := by
  unfold NearS at h
  by_cases hx : x < 0
  · rw [if_pos hx] at h
    have a := near_best (q := -q) hs h (by omega) (by omega)
    rw [LN_neg hs] at a
    have e : LN r s = -ln (-r) s := by have := LN_neg (q := -r) hs; rwa [Int.neg_neg, LN_pos h.1] at this
    omega
  · rw [if_neg hx] at h
    have a := near_best (q := q) hs h (by omega) hq
    rw [LN_pos h.1]
    omega
theorem nearS_again {x s r q : Int} (hs : 0 ≤ s) (h : NearS x s r) (h0 : -8191 ≤ q) (hq : q ≤ 8191) (e : x = LN q s) : LN r s = x := by
  have := nearS_best hs h h0 hq
  omega
theorem nearS_mono {x y s r t : Int} (hs : 0 ≤ s) (hx : NearS x s r) (hy : NearS y s t) (h : x ≤ y) : r ≤ t := by
  unfold NearS at hx hy
  by_cases h1 : x < 0
  · rw [if_pos h1] at hx
    by_cases h2 : y < 0
    · rw [if_pos h2] at hy
      have := near_mono hs hy hx (by omega); omega
    · rw [if_neg h2] at hy
      have := hx.1; have := hy.1; omega
  · rw [if_neg h1] at hx
    rw [if_neg (by omega)] at hy
    exact near_mono hs hx hy h
theorem nearS_one {x s r t : Int} (hs : 0 ≤ s) (hx : NearS x s r) (hy : NearS x s t) : r = t := by
  have := nearS_mono hs hx hy (Int.le_refl _); have := nearS_mono hs hy hx (Int.le_refl _); omega

/-! ### Doubles -/
theorem ln_four {q s : Int} (hs : 0 ≤ s) (hs1 : s ≤ 251) (h0 : 0 ≤ q) (h : ln q (s + 4) < 268435455) : -1 ≤ ln q (s + 4) - 2 * ln q s ∧ ln q (s + 4) - 2 * ln q s ≤ 1 := by
  have eq : qt (s + 4) = qt s := by unfold qt; rw [show (s + 4) % 4 = s % 4 by omega]
  by_cases hb : 1 ≤ bt' s
  · have e3 : bt' (s + 4) = bt' s - 1 := by unfold bt' at *; omega
    unfold ln at h ⊢
    rw [eq, e3] at h ⊢
    have a := rnd_sum (n := fo q * qt s) (m := fo q * qt s) (bt'_bd hs).1
    rw [show fo q * qt s + fo q * qt s = 2 * (fo q * qt s) by omega, rnd_double hb] at a
    have b : rnd (fo q * qt s) (bt' s) ≤ rnd (fo q * qt s) (bt' s - 1) ∨ rnd (fo q * qt s) (bt' s) ≤ 1 := by
      by_cases hz : rnd (fo q * qt s) (bt' s) ≤ 1
      · exact .inr hz
      · exact .inl (by omega)
    omega
  · by_cases hz : q = 0
    · subst hz; rw [ln_zero hs, ln_zero (by omega)]; omega
    · exfalso
      have e3 : bt' (s + 4) = 0 := by unfold bt' at *; omega
      have f := fo_lo (q := q) (by omega)
      have g := (qt_bd s).1
      have : 4096 * 1073741824 ≤ fo q * qt s := Int.mul_le_mul f g (by omega) (by omega)
      unfold ln at h
      rw [eq, e3, show rnd (fo q * qt s) 0 = fo q * qt s from rfl] at h
      omega
theorem cb_eight {n : Int} (h : 0 ≤ n) : cbF (8 * n) = 2 * cbF n ∨ cbF (8 * n) = 2 * cbF n + 1 := by
  obtain ⟨a0, a1, a2⟩ := cbF_is h
  obtain ⟨b0, b1, b2⟩ := cbF_is (show 0 ≤ 8 * n by omega)
  generalize cbF n = r at *
  generalize cbF (8 * n) = R at *
  have cube : ∀ t : Int, (2 * t) * (2 * t) * (2 * t) = 8 * (t * t * t) := fun t => by grind
  have e1 : (2 * r) * (2 * r) * (2 * r) = 8 * (r * r * r) := cube r
  have e2 : (2 * r + 2) * (2 * r + 2) * (2 * r + 2) = 8 * ((r + 1) * (r + 1) * (r + 1)) := by
    rw [show 2 * r + 2 = 2 * (r + 1) by omega]
    exact cube (r + 1)
  have l1 : 2 * r < R + 1 := lt_of_cb (by omega) (by omega) (by rw [e1]; omega)
  have l2 : R < 2 * r + 2 := lt_of_cb (by omega) (by omega) (by rw [e2]; omega)
  omega
/-- The line of 8 times a number. -/
theorem ln_eight {q s f g : Int} (hs : 0 ≤ s) (h1 : 1 ≤ q) (hq : 8 * q ≤ 8191) (hc : ln (8 * q) s < 268435455) (hf : ln (8 * q) s ≤ 4096 * f + 4095) (hg : 0 ≤ g) : ln (8 * q) s - 16 * ln q s ≤ 16 + f + g ∧ 16 * ln q s - ln (8 * q) s ≤ 16 + f + g := by
  have hk := qt_bd s
  have c8 := cb_eight (n := q * 68719476736) (by omega)
  have lo := cb_lo (q := q) h1
  rw [show 8 * (q * 68719476736) = 8 * q * 68719476736 by omega] at c8
  have mono := ln_mono (p := q) (q := 8 * q) hs (by omega) (by omega)
  have eF : fo (8 * q) = 8 * q * cbF (8 * q * 68719476736) := rfl
  have ef : fo q = q * cbF (q * 68719476736) := rfl
  have f8 := fo_lo (q := 8 * q) (by omega)
  have hb : 1 ≤ bt' s := by
    refine Int.not_lt.1 fun h => ?_
    have e : bt' s = 0 := by have := (bt'_bd hs).1; omega
    have : 4096 * 1073741824 ≤ fo (8 * q) * qt s := Int.mul_le_mul f8 hk.1 (by omega) (by omega)
    unfold ln at hc
    rw [e, show rnd (fo (8 * q) * qt s) 0 = fo (8 * q) * qt s from rfl] at hc
    omega
  have eC : ln (8 * q) s = rnd (fo (8 * q) * qt s) (bt' s) := by unfold ln at hc ⊢; omega
  have eA : ln q s = rnd (fo q * qt s) (bt' s) := by unfold ln at mono hc ⊢; omega
  have n1 := rnd_near (n := fo (8 * q) * qt s) hb
  have n2 := rnd_near (n := fo q * qt s) hb
  have pw := pow_succ' hb
  have pp := pow_pos' ((bt' s).toNat - 1)
  rw [← eC] at n1
  rw [← eA] at n2
  generalize ln (8 * q) s = C at *
  generalize ln q s = A at *
  rw [pw] at n1 n2
  generalize (2 : Int) ^ ((bt' s).toNat - 1) = H at *
  -- the products
  obtain ⟨Y, hY⟩ : ∃ Y, q * qt s = Y := ⟨_, rfl⟩
  have Y0 : 0 ≤ Y := by rw [← hY]; exact Int.mul_nonneg (by omega) (by omega)
  have p2 : fo q * qt s = cbF (q * 68719476736) * Y := by rw [ef, ← hY, Int.mul_comm q, Int.mul_assoc]
  have p1 : fo (8 * q) * qt s = 8 * (cbF (8 * q * 68719476736) * Y) := by
    rw [eF, ← hY, Int.mul_comm (8 * q), Int.mul_assoc, show 8 * q * qt s = 8 * (q * qt s) by rw [Int.mul_assoc], Int.mul_left_comm]
  rw [p1] at n1
  rw [p2] at n2
  generalize cbF (q * 68719476736) = r at *
  have key : cbF (8 * q * 68719476736) * Y = 2 * (r * Y) ∨ cbF (8 * q * 68719476736) * Y = 2 * (r * Y) + Y := by
    rcases c8 with e | e
    · left; rw [e, Int.mul_assoc]
    · right; rw [e, Int.add_mul, Int.mul_assoc, Int.one_mul]
  have rl : 4096 * Y ≤ r * Y := Int.mul_le_mul_of_nonneg_right lo Y0
  generalize cbF (8 * q * 68719476736) * Y = R at *
  generalize r * Y = Z at *
  rw [show C * (2 * H) = 2 * (C * H) by rw [Int.mul_left_comm]] at n1
  rw [show A * (2 * H) = 2 * (A * H) by rw [Int.mul_left_comm]] at n2
  have fin : ∀ D : Int, D * H = C * H - 16 * (A * H) ∨ D * H = 16 * (A * H) - C * H → D ≤ 16 + f + g := fun D hD => by
    refine Int.not_lt.1 fun hlt => ?_
    have d1 : (17 + f) * H ≤ D * H := Int.mul_le_mul_of_nonneg_right (by omega) (by omega)
    have d2 : C * H ≤ (4096 * f + 4095) * H := Int.mul_le_mul_of_nonneg_right hf (by omega)
    rw [Int.add_mul] at d1 d2
    rw [Int.mul_assoc] at d2
    generalize D * H = DH at *
    generalize C * H = CH at *
    generalize A * H = AH at *
    generalize f * H = fH at *
    omega
  exact ⟨fin _ (.inl (by rw [Int.sub_mul, Int.mul_assoc])), fin _ (.inr (by rw [Int.sub_mul, Int.mul_assoc]))⟩

/-! ### The nearest one, as a function -/
theorem near_ex (x s : Int) : ∃ r, Near x s r := by
  have h : ∀ n : Nat, n ≤ 8191 → (∃ r, Near x s r) ∨ (n = 0 ∨ ln ((n : Int) - 1) s + ln n s < 2 * x) := by
    intro n
    induction n with
    | zero => intro _; exact .inr (.inl rfl)
    | succ n ih =>
      intro hn
      rcases ih (by omega) with h | h
      · exact .inl h
      · by_cases c : 2 * x ≤ ln (n : Int) s + ln ((n : Int) + 1) s
        · refine .inl ⟨n, by omega, by omega, .inr c, ?_⟩
          rcases h with rfl | h
          · exact .inl rfl
          · exact .inr h
        · refine .inr (.inr ?_)
          rw [show ((n + 1 : Nat) : Int) - 1 = n by omega, show ((n + 1 : Nat) : Int) = (n : Int) + 1 by omega]
          omega
  rcases h 8191 (by omega) with h | h
  · exact h
  · refine ⟨8191, by omega, by omega, .inl rfl, ?_⟩
    rcases h with h | h
    · omega
    · exact .inr h
noncomputable def nq (x s : Int) : Int := Classical.choose (near_ex x s)
theorem nq_is (x s : Int) : Near x s (nq x s) := Classical.choose_spec (near_ex x s)
theorem nq_of {x s r : Int} (hs : 0 ≤ s) (h : Near x s r) : r = nq x s := near_one hs h (nq_is x s)
noncomputable def NQ (x s : Int) : Int := if x < 0 then -nq (-x) s else nq x s
theorem NQ_is (x s : Int) : NearS x s (NQ x s) := by
  unfold NearS NQ
  by_cases h : x < 0
  · rw [if_pos h, if_pos h, Int.neg_neg]; exact nq_is _ _
  · rw [if_neg h, if_neg h]; exact nq_is _ _
/-- What the calls answer. -/
noncomputable def F4 (q : Int) : Int := if q < 0 ∨ 8191 < q then 0 else fo q
def E4 (q : Int) : Int := if q < 0 ∨ 8191 < q then 2 else 0
def badL (q s : Int) : Prop := q < -8191 ∨ 8191 < q ∨ s < 0 ∨ 255 < s
instance (q s : Int) : Decidable (badL q s) := by unfold badL; infer_instance
def badQ (x s : Int) : Prop := x < -268435455 ∨ 268435455 < x ∨ s < 0 ∨ 255 < s
instance (q s : Int) : Decidable (badQ q s) := by unfold badQ; infer_instance
noncomputable def FL (q s : Int) : Int := if badL q s then 0 else LN q s
def EL (q s : Int) : Int := if badL q s then 2 else 0
noncomputable def FQ (x s : Int) : Int := if badQ x s then 0 else NQ x s
def EQ (x s : Int) : Int := if badQ x s then 2 else 0
end Go.Proofs.YtanjcbnkkhbkkaaDoor.Fx
