/- Plain numbers: cosines. -/
import Derived.Test.YteknakakefhbmaaFixMath
namespace Go.Proofs.Yteknakakefhbmaa.Fx

def sumGo (q : Int) : List Int → Int → Int → Int → Int
  | [], all, _, _ => all
  | d :: ds, all, term, sign => sumGo q ds (all + sign * (rnd (term * q) 30 / d)) (rnd (term * q) 30 / d) (-sign)
def arcF (n : Int) : Int := rnd (n * 3454217652358) 20
def sqF (a : Int) : Int := rnd (a * a) 30
def evens : List Int := [2, 12, 30, 56, 90, 132, 182]
def odds : List Int := [6, 20, 42, 72, 110, 156, 210]
def cosS (n : Int) : Int := sumGo (sqF (arcF n)) evens 1073741824 1073741824 (-1)
def sinS (n : Int) : Int := sumGo (sqF (arcF n)) odds (arcF n) (arcF n) (-1)
def firstF (n : Int) : Int := if 256 < n then rnd (sinS (512 - n)) 4 else rnd (cosS n) 4
/-- A number of parts, brought to the first half of the circle. -/
def fold (n : Int) : Int := if 1024 < n % 2048 then 2048 - n % 2048 else n % 2048
def cosF (n : Int) : Int := if 512 < fold n then -firstF (1024 - fold n) else firstF (fold n)

theorem rnd_nn {n b : Int} (hb : 0 ≤ b) (h : 0 ≤ n) : 0 ≤ rnd n b := by
  have := rnd_mono (n := 0) (m := n) hb h
  have e : rnd 0 b = 0 := by
    by_cases e : b = 0
    · subst e; rfl
    · obtain ⟨H, h0, _, _, e1⟩ := rnd_at (n := 0) (b := b) (by omega)
      rw [e1]
      exact Int.ediv_eq_zero_of_lt (by omega) (by omega)
  omega
theorem rnd_le {n m b r : Int} (hb : 0 ≤ b) (h : n ≤ m) (hr : rnd m b = r) : rnd n b ≤ r := by
  have := rnd_mono (n := n) (m := m) hb h
  omega
theorem mul_bd {a b M N : Int} (h1 : 0 ≤ a) (h2 : a ≤ M) (h3 : 0 ≤ b) (h4 : b ≤ N) : 0 ≤ a * b ∧ a * b ≤ M * N :=
  ⟨Int.mul_nonneg h1 h3, Int.mul_le_mul h2 h4 h3 (by omega)⟩
theorem arc_bd {n : Int} (h0 : 0 ≤ n) (h1 : n ≤ 256) : 0 ≤ arcF n ∧ arcF n ≤ 843314857 := by
  unfold arcF
  exact ⟨rnd_nn (by decide) (by omega), rnd_le (m := 256 * 3454217652358) (by decide) (by omega) (by decide)⟩
theorem sq_bd' {a : Int} (h0 : 0 ≤ a) (h1 : a ≤ 843314857) : 0 ≤ sqF a ∧ sqF a ≤ 1073741824 := by
  unfold sqF
  obtain ⟨x, y⟩ := mul_bd h0 h1 h0 h1
  exact ⟨rnd_nn (by decide) x, Int.le_trans (rnd_le (m := 843314857 * 843314857) (by decide) y rfl) (by decide)⟩
theorem term_bd {t q d : Int} (h0 : 0 ≤ t) (h1 : t ≤ 1073741824) (h2 : 0 ≤ q) (h3 : q ≤ 1073741824) (hd : 1 ≤ d) :
    0 ≤ t * q ∧ t * q ≤ 1152921504606846976 ∧ 0 ≤ rnd (t * q) 30 ∧ rnd (t * q) 30 ≤ 1073741824 ∧ 0 ≤ rnd (t * q) 30 / d ∧ rnd (t * q) 30 / d ≤ 1073741824 := by
  obtain ⟨x, y⟩ := mul_bd h0 h1 h2 h3
  have a : 0 ≤ rnd (t * q) 30 := rnd_nn (by decide) x
  have b : rnd (t * q) 30 ≤ 1073741824 := Int.le_trans (rnd_le (m := 1073741824 * 1073741824) (by decide) y rfl) (by decide)
  refine ⟨x, by omega, a, b, Int.ediv_nonneg a (by omega), Int.le_trans (Int.ediv_le_self _ a) b⟩
theorem sumGo_bd {q : Int} (h2 : 0 ≤ q) (h3 : q ≤ 1073741824) : ∀ (ds : List Int) (all t s B : Int), (∀ d ∈ ds, 1 ≤ d) → 0 ≤ t → t ≤ 1073741824 → (s = 1 ∨ s = -1) → -B ≤ all → all ≤ B → -(B + ds.length * 1073741824) ≤ sumGo q ds all t s ∧ sumGo q ds all t s ≤ B + ds.length * 1073741824
  | [], all, t, s, B, _, _, _, _, h, h' => by simp [sumGo]; omega
  | d :: ds, all, t, s, B, hd, t0, t1, hs, h, h' => by
    obtain ⟨a1, a2, a3, a4, a5, a6⟩ := term_bd (d := d) t0 t1 h2 h3 (hd d (by simp))
    have := sumGo_bd h2 h3 ds (all + s * (rnd (t * q) 30 / d)) (rnd (t * q) 30 / d) (-s) (B + 1073741824) (fun x hx => hd x (by simp [hx])) a5 a6 (by omega) (by rcases hs with rfl | rfl <;> omega) (by rcases hs with rfl | rfl <;> omega)
    simp only [sumGo, List.length_cons]
    push_cast
    omega
theorem evens_pos : ∀ d ∈ evens, (1 : Int) ≤ d := by decide
theorem odds_pos : ∀ d ∈ odds, (1 : Int) ≤ d := by decide
theorem cosS_bd {n : Int} (h0 : 0 ≤ n) (h1 : n ≤ 256) : -8589934592 ≤ cosS n ∧ cosS n ≤ 8589934592 := by
  obtain ⟨a0, a1⟩ := arc_bd h0 h1
  obtain ⟨q0, q1⟩ := sq_bd' a0 a1
  have := sumGo_bd q0 q1 evens 1073741824 1073741824 (-1) 1073741824 evens_pos (by decide) (by decide) (by simp) (by decide) (by decide)
  simpa [cosS, evens] using this
theorem sinS_bd {n : Int} (h0 : 0 ≤ n) (h1 : n ≤ 256) : -8589934592 ≤ sinS n ∧ sinS n ≤ 8589934592 := by
  obtain ⟨a0, a1⟩ := arc_bd h0 h1
  obtain ⟨q0, q1⟩ := sq_bd' a0 a1
  have := sumGo_bd q0 q1 odds (arcF n) (arcF n) (-1) 1073741824 odds_pos a0 (by omega) (by simp) (by omega) (by omega)
  simpa [sinS, odds] using this
theorem firstF_bd {n : Int} (h0 : 0 ≤ n) (h1 : n ≤ 512) : -1073741824 ≤ firstF n ∧ firstF n ≤ 1073741824 := by
  unfold firstF
  split
  · have := sinS_bd (n := 512 - n) (by omega) (by omega)
    constructor
    · have := rnd_mono (n := -8589934592) (m := sinS (512 - n)) (b := 4) (by decide) this.1
      have e : rnd (-8589934592) 4 = -536870912 := by decide
      omega
    · have := rnd_le (n := sinS (512 - n)) (m := 8589934592) (b := 4) (r := 536870912) (by decide) this.2 (by decide)
      omega
  · have := cosS_bd (n := n) (by omega) (by omega)
    constructor
    · have := rnd_mono (n := -8589934592) (m := cosS n) (b := 4) (by decide) this.1
      have e : rnd (-8589934592) 4 = -536870912 := by decide
      omega
    · have := rnd_le (n := cosS n) (m := 8589934592) (b := 4) (r := 536870912) (by decide) this.2 (by decide)
      omega
theorem fold_bd (n : Int) : 0 ≤ fold n ∧ fold n ≤ 1024 := by unfold fold; split <;> omega
theorem cosF_bd (n : Int) : -1073741824 ≤ cosF n ∧ cosF n ≤ 1073741824 := by
  have := fold_bd n
  unfold cosF
  split
  · have := firstF_bd (n := 1024 - fold n) (by omega) (by omega)
    omega
  · have := firstF_bd (n := fold n) (by omega) (by omega)
    omega
end Go.Proofs.Yteknakakefhbmaa.Fx
