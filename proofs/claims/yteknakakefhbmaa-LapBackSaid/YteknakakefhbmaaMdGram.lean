/- Products of cosines, everywhere. -/
import Derived.Test.YteknakakefhbmaaMdProd
namespace Go.Proofs.Yteknakakefhbmaa.Mm
open Go Go.Proofs.Yteknakakefhbmaa.Fx

theorem row_at {a : Nat} : ∀ (bs ps qs : List Nat) (i : Nat), chkRow a bs ps qs = true → i < bs.length → 33554432 * (ps.getD i 0 + qs.getD i 0) ≤ a * bs.getD i 0 + 2251799906131712 ∧ a * bs.getD i 0 + 2251799721238784 ≤ 33554432 * (ps.getD i 0 + qs.getD i 0)
  | [], _, _, i, _, hi => absurd hi (by simp)
  | b :: bs, p :: ps, q :: qs, i, h, hi => by
    simp only [chkRow, Bool.and_eq_true] at h
    cases i with
    | zero => exact ⟨Nat.le_of_ble_eq_true h.1.1, Nat.le_of_ble_eq_true h.1.2⟩
    | succ i => exact row_at bs ps qs i h.2 (by simpa using hi)
  | b :: bs, [], _, i, h, _ => by simp [chkRow] at h
  | b :: bs, _ :: _, [], i, h, _ => by simp [chkRow] at h
theorem rows_all (a : Nat) (ha : a < 513) : chkRow (tabL.getD a 0) tabL (fullL.drop a) (revL.drop (512 - a)) = true := by
  by_cases h0 : a < 27
  · have := rows0 (a - 0) (by omega)
    rwa [show 0 + (a - 0) = a by omega] at this
  by_cases h27 : a < 54
  · have := rows27 (a - 27) (by omega)
    rwa [show 27 + (a - 27) = a by omega] at this
  by_cases h54 : a < 81
  · have := rows54 (a - 54) (by omega)
    rwa [show 54 + (a - 54) = a by omega] at this
  by_cases h81 : a < 108
  · have := rows81 (a - 81) (by omega)
    rwa [show 81 + (a - 81) = a by omega] at this
  by_cases h108 : a < 135
  · have := rows108 (a - 108) (by omega)
    rwa [show 108 + (a - 108) = a by omega] at this
  by_cases h135 : a < 162
  · have := rows135 (a - 135) (by omega)
    rwa [show 135 + (a - 135) = a by omega] at this
  by_cases h162 : a < 189
  · have := rows162 (a - 162) (by omega)
    rwa [show 162 + (a - 162) = a by omega] at this
  by_cases h189 : a < 216
  · have := rows189 (a - 189) (by omega)
    rwa [show 189 + (a - 189) = a by omega] at this
  by_cases h216 : a < 243
  · have := rows216 (a - 216) (by omega)
    rwa [show 216 + (a - 216) = a by omega] at this
  by_cases h243 : a < 270
  · have := rows243 (a - 243) (by omega)
    rwa [show 243 + (a - 243) = a by omega] at this
  by_cases h270 : a < 297
  · have := rows270 (a - 270) (by omega)
    rwa [show 270 + (a - 270) = a by omega] at this
  by_cases h297 : a < 324
  · have := rows297 (a - 297) (by omega)
    rwa [show 297 + (a - 297) = a by omega] at this
  by_cases h324 : a < 351
  · have := rows324 (a - 324) (by omega)
    rwa [show 324 + (a - 324) = a by omega] at this
  by_cases h351 : a < 378
  · have := rows351 (a - 351) (by omega)
    rwa [show 351 + (a - 351) = a by omega] at this
  by_cases h378 : a < 405
  · have := rows378 (a - 378) (by omega)
    rwa [show 378 + (a - 378) = a by omega] at this
  by_cases h405 : a < 432
  · have := rows405 (a - 405) (by omega)
    rwa [show 405 + (a - 405) = a by omega] at this
  by_cases h432 : a < 459
  · have := rows432 (a - 432) (by omega)
    rwa [show 432 + (a - 432) = a by omega] at this
  by_cases h459 : a < 486
  · have := rows459 (a - 459) (by omega)
    rwa [show 459 + (a - 459) = a by omega] at this
  by_cases h486 : a < 513
  · have := rows486 (a - 486) (by omega)
    rwa [show 486 + (a - 486) = a by omega] at this
  omega
theorem drop_getD (l : List Nat) (n i : Nat) : (l.drop n).getD i 0 = l.getD (n + i) 0 := by simp
set_option maxRecDepth 1000000 in
theorem tab_len : tabL.length = 513 := by decide +kernel
set_option maxRecDepth 1000000 in
theorem tab_cos : ∀ n : Nat, n < 513 → cosF (n : Int) = ((tabL.getD n 0 : Nat) : Int) := by decide +kernel
set_option maxRecDepth 1000000 in
theorem full_cos : ∀ n : Nat, n < 1025 → cosF (n : Int) + 67108864 = ((fullL.getD n 0 : Nat) : Int) := by decide +kernel
set_option maxRecDepth 1000000 in
theorem rev_cos : ∀ n : Nat, n < 1025 → cosF (512 - (n : Int)) = ((revL.getD n 0 : Nat) : Int) := by decide +kernel
/-- The bound. -/
def Pb (a b : Int) : Prop := -92446464 ≤ cosF a * cosF b - 33554432 * (cosF (a + b) + cosF (a - b)) ∧ cosF a * cosF b - 33554432 * (cosF (a + b) + cosF (a - b)) ≤ 92446464
theorem pb_first (a b : Nat) (ha : a < 513) (hb : b < 513) : Pb a b := by
  have h := row_at _ _ _ b (rows_all a ha) (by rw [tab_len]; exact hb)
  rw [drop_getD, drop_getD] at h
  have e1 := tab_cos a ha
  have e2 := tab_cos b hb
  have e3 := full_cos (a + b) (by omega)
  have e4 := rev_cos (512 - a + b) (by omega)
  rw [show (512 - ((512 - a + b : Nat) : Int)) = (a : Int) - b by omega] at e4
  rw [show ((a + b : Nat) : Int) = (a : Int) + b by omega] at e3
  unfold Pb
  generalize tabL.getD a 0 = x at *
  generalize tabL.getD b 0 = y at *
  generalize fullL.getD (a + b) 0 = p at *
  generalize revL.getD (512 - a + b) 0 = q at *
  rw [e1, e2, e4, show cosF ((a : Int) + b) = (p : Int) - 67108864 by omega]
  have h1 := h.1
  have h2 := h.2
  obtain ⟨m, hm⟩ : ∃ m, x * y = m := ⟨_, rfl⟩
  have hm' : (x : Int) * (y : Int) = (m : Int) := by rw [← hm, Int.natCast_mul]
  rw [hm'] 
  rw [hm] at h1 h2
  omega
theorem cosF_sup (x : Int) : cosF (1024 - x) = -cosF x := by
  rw [show 1024 - x = -x + 1024 by omega, cosF_half, cosF_neg]
theorem Pb.swap {a b : Int} (h : Pb a b) : Pb b a := by
  unfold Pb at *
  rw [show b - a = -(a - b) by omega, cosF_neg, Int.mul_comm, Int.add_comm b a]
  exact h
theorem Pb.neg {a b : Int} (h : Pb a b) : Pb (-a) b := by
  unfold Pb at *
  rw [show -a + b = -(a - b) by omega, show -a - b = -(a + b) by omega, cosF_neg, cosF_neg, cosF_neg, Int.add_comm (cosF (a - b))]
  exact h
theorem Pb.circle {a b : Int} (c : Int) (h : Pb a b) : Pb (a + 2048 * c) b := by
  unfold Pb at *
  rw [show a + 2048 * c + b = a + b + 2048 * c by omega, show a + 2048 * c - b = a - b + 2048 * c by omega, cosF_circle, cosF_circle, cosF_circle]
  exact h
theorem Pb.sup {a b : Int} (h : Pb a b) : Pb (1024 - a) b := by
  unfold Pb at *
  rw [show 1024 - a + b = 1024 - (a - b) by omega, show 1024 - a - b = 1024 - (a + b) by omega, cosF_sup, cosF_sup, cosF_sup, Int.neg_mul]
  omega
theorem pb_left {b : Int} (h : ∀ a : Nat, a < 513 → Pb a b) (a : Int) : Pb a b := by
  obtain ⟨r, c, e, r0, r1⟩ : ∃ r c : Int, a = r + 2048 * c ∧ 0 ≤ r ∧ r < 2048 := ⟨a % 2048, a / 2048, by omega, by omega, by omega⟩
  rw [e]
  refine Pb.circle c ?_
  have key : ∀ x : Int, 0 ≤ x → x ≤ 512 → Pb x b := fun x h0 h1 => by
    have := h x.toNat (by omega)
    rwa [show ((x.toNat : Nat) : Int) = x by omega] at this
  have key2 : ∀ x : Int, 0 ≤ x → x ≤ 1024 → Pb x b := fun x h0 h1 => by
    by_cases hx : x ≤ 512
    · exact key x h0 hx
    · have := (key (1024 - x) (by omega) (by omega)).sup
      rwa [show 1024 - (1024 - x) = x by omega] at this
  by_cases hr : r ≤ 1024
  · exact key2 r r0 hr
  · have := ((key2 (2048 - r) (by omega) (by omega)).neg).circle 1
    rwa [show -(2048 - r) + 2048 * 1 = r by omega] at this
/-- Products of cosines are half the sum of two, to so much. -/
theorem pb_all (a b : Int) : Pb a b :=
  pb_left (fun n hn => (pb_left (fun k hk => pb_first k n hk hn) b).swap) a
end Go.Proofs.Yteknakakefhbmaa.Mm
