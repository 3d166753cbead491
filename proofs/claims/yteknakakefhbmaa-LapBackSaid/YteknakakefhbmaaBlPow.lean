/- Squares of values of two windows over one place. -/
import Derived.Test.YteknakakefhbmaaBlAl
namespace Go.Proofs.Yteknakakefhbmaa.Bl
open Go Go.Proofs.Yteknakakefhbmaa.Fx
theorem at_app (a b : List Int) (j : Nat) : (a ++ b).getD j 0 = if j < a.length then a.getD j 0 else b.getD (j - a.length) 0 := getD_append a b j
theorem sq_l (sh : Int) (h : sh = 0 ∨ sh = 1) : ∀ n, n < 256 → 17592152489984 ≤ hf sh false (255 - n) * hf sh false (255 - n) + hf sh false n * hf sh false n ∧ hf sh false (255 - n) * hf sh false (255 - n) + hf sh false n * hf sh false n ≤ 17592219598848 := by
  rcases h with rfl | rfl
  · decide +kernel
  · decide +kernel
theorem sq_s (sh : Int) (h : sh = 0 ∨ sh = 1) : ∀ n, n < 32 → 17592152489984 ≤ hf sh true (31 - n) * hf sh true (31 - n) + hf sh true n * hf sh true n ∧ hf sh true (31 - n) * hf sh true (31 - n) + hf sh true n * hf sh true n ≤ 17592219598848 := by
  rcases h with rfl | rfl
  · decide +kernel
  · decide +kernel
theorem hi_long {one was mid : Int} (h : one = 0 ∨ one = 3) {n : Nat} (hn : n < 256) : (wv one was mid).getD (256 + n) 0 = hf mid false (255 - n) := by
  rcases h with rfl | rfl
  · simp only [wv, acc, pL, show ¬ ((0 : Int) = 1) by decide, show ¬ ((0 : Int) = 3) by decide, if_false]
    rw [at_app, if_neg (by simp [pc_len])]
    simp only [List.nil_append, pc_len]
    simp only [pc]
    rw [show 256 + n - _ = n by simp]
    exact mk_at hn
  · simp only [wv, acc, pE, show ¬ ((3 : Int) = 1) by decide, if_false, if_true]
    rw [at_app, if_neg (by simp [pc_len])]
    simp only [List.nil_append, List.length_append, pc_len]
    simp only [pc]
    rw [show 256 + n - _ = n by simp]
    exact mk_at hn
theorem lo_long {two mid shape : Int} (h : two = 0 ∨ two = 1) {n : Nat} (hn : n < 256) : (wv two mid shape).getD n 0 = hf mid false n := by
  rcases h with rfl | rfl
  · simp only [wv, acc, pL, show ¬ ((0 : Int) = 1) by decide, show ¬ ((0 : Int) = 3) by decide, if_false]
    rw [at_app, if_pos (by simp [pc_len]; exact hn)]
    simp only [List.nil_append]
    exact mk_at hn
  · simp only [wv, acc, pS, if_true]
    rw [at_app, if_pos (by simp [pc_len]; omega), at_app, if_pos (by simp [pc_len]; omega), at_app, if_pos (by simp [pc_len]; exact hn)]
    simp only [List.nil_append]
    exact mk_at hn
theorem rep_at {x : Int} {m n : Nat} (h : n < m) : (List.replicate m x).getD n 0 = x := by simp [h]
theorem hi_start {was mid : Int} {n : Nat} (hn : n < 256) : (wv 1 was mid).getD (256 + n) 0 = if n < 112 then 4194304 else if n < 144 then hf mid true (31 - (n - 112)) else 0 := by
  simp only [wv, acc, pS, if_true]
  by_cases h1 : n < 112
  · rw [if_pos h1, at_app, if_pos (by simp [pc_len]; omega), at_app, if_pos (by simp [pc_len]; omega), at_app, if_neg (by simp [pc_len])]
    simp only [List.nil_append, pc_len]
    simp only [pc]
    rw [show 256 + n - _ = n by simp]
    exact rep_at h1
  · rw [if_neg h1]
    by_cases h2 : n < 144
    · rw [if_pos h2, at_app, if_pos (by simp [pc_len]; omega), at_app, if_neg (by simp [pc_len]; omega)]
      simp only [List.nil_append, List.length_append, pc_len]
      simp only [pc]
      rw [show 256 + n - _ = n - 112 by simp; omega]
      exact mk_at (by omega)
    · rw [if_neg h2, at_app, if_neg (by simp [pc_len]; omega)]
      simp only [List.nil_append, List.length_append, pc_len]
      simp only [pc]
      rw [show 256 + n - _ = n - 144 by simp; omega]
      exact rep_at (by omega)
theorem lo_stop {mid shape : Int} {n : Nat} (hn : n < 256) : (wv 3 mid shape).getD n 0 = if n < 112 then 0 else if n < 144 then hf mid true (n - 112) else 4194304 := by
  simp only [wv, acc, pE, show ¬ ((3 : Int) = 1) by decide, if_false, if_true]
  rw [at_app, if_pos (by simp [pc_len]; omega)]
  by_cases h1 : n < 112
  · rw [if_pos h1, at_app, if_pos (by simp [pc_len]; omega), at_app, if_pos (by simp [pc_len]; exact h1)]
    exact rep_at h1
  · rw [if_neg h1]
    by_cases h2 : n < 144
    · rw [if_pos h2, at_app, if_pos (by simp [pc_len]; omega), at_app, if_neg (by simp [pc_len]; omega)]
      simp only [List.nil_append, pc_len]
      simp only [pc]
      rw [show n - _ = n - 112 by simp]
      exact mk_at (by omega)
    · rw [if_neg h2, at_app, if_neg (by simp [pc_len]; omega)]
      simp only [List.nil_append, List.length_append, pc_len]
      simp only [pc]
      rw [show n - _ = n - 144 by simp]
      exact rep_at (by omega)
theorem wv_rng (seq was shape : Int) (j : Nat) (h : j < 512) : 0 ≤ (wv seq was shape).getD j 0 ∧ (wv seq was shape).getD j 0 ≤ 4194304 := wv_in seq was shape j (by rw [wv_len]; exact h)
/-- Two windows over one place. -/
theorem pw {one two was mid shape : Int} (h : ((one = 0 ∨ one = 3) ∧ (two = 0 ∨ two = 1)) ∨ (one = 1 ∧ two = 3)) (hm : mid = 0 ∨ mid = 1) (n : Nat) (hn : n < 256) : 17592152489984 ≤ (wv one was mid).getD (256 + n) 0 * (wv one was mid).getD (256 + n) 0 + (wv two mid shape).getD n 0 * (wv two mid shape).getD n 0 ∧ (wv one was mid).getD (256 + n) 0 * (wv one was mid).getD (256 + n) 0 + (wv two mid shape).getD n 0 * (wv two mid shape).getD n 0 ≤ 17592219598848 := by
  rcases h with ⟨a, b⟩ | ⟨rfl, rfl⟩
  · rw [hi_long a hn, lo_long b hn]
    exact sq_l mid hm n hn
  · rw [hi_start hn, lo_stop hn]
    by_cases h1 : n < 112
    · rw [if_pos h1, if_pos h1]; decide
    · rw [if_neg h1, if_neg h1]
      by_cases h2 : n < 144
      · rw [if_pos h2, if_pos h2]
        exact sq_s mid hm (n - 112) (by omega)
      · rw [if_neg h2, if_neg h2]; decide
end Go.Proofs.Yteknakakefhbmaa.Bl
