/- What the document's own answers of trig do. -/
import Derived.Test.YteknakakefhbmaaRefFix
import Derived.Test.YteknakakefhbmaaTrigCon
import Derived.WalkKit
import Derived.ProofKit
import Derived.OpenShut
import Derived.Lib.Hide
namespace Go.Proofs.Yteknakakefhbmaa.Fx
open Go Go.ChangeShapes Go.WideShapes Go.ChangeAt Go.RowKit

def ctT (q t0 : Int) (ds : List Int) : Nat → Int
  | 0 => t0
  | k + 1 => rnd (ctT q t0 ds k * q) 30 / ds.getD k 0
def ctA (q t0 : Int) (ds : List Int) : Nat → Int
  | 0 => t0
  | k + 1 => if k % 2 = 0 then ctA q t0 ds k - ctT q t0 ds (k + 1) else ctA q t0 ds k + ctT q t0 ds (k + 1)
theorem ctT_bd {q t0 : Int} {ds : List Int} (h2 : 0 ≤ q) (h3 : q ≤ 1073741824) (t0n : 0 ≤ t0) (t0m : t0 ≤ 1073741824) : ∀ k, (∀ j, j < k → 1 ≤ ds.getD j 0) → 0 ≤ ctT q t0 ds k ∧ ctT q t0 ds k ≤ 1073741824
  | 0, _ => ⟨t0n, t0m⟩
  | k + 1, hd => by
    obtain ⟨a, b⟩ := ctT_bd h2 h3 t0n t0m k (fun j hj => hd j (by omega))
    obtain ⟨_, _, _, _, x5, x6⟩ := term_bd (d := ds.getD k 0) a b h2 h3 (hd k (by omega))
    exact ⟨x5, x6⟩
theorem ctA_bd {q t0 : Int} {ds : List Int} (h2 : 0 ≤ q) (h3 : q ≤ 1073741824) (t0n : 0 ≤ t0) (t0m : t0 ≤ 1073741824) : ∀ k : Nat, (∀ j, j < k → 1 ≤ ds.getD j 0) → -(((k : Int) + 1) * 1073741824) ≤ ctA q t0 ds k ∧ ctA q t0 ds k ≤ ((k : Int) + 1) * 1073741824
  | 0, _ => by simp [ctA]; omega
  | k + 1, hd => by
    obtain ⟨a, b⟩ := ctA_bd h2 h3 t0n t0m k (fun j hj => hd j (by omega))
    obtain ⟨c, d⟩ := ctT_bd (ds := ds) h2 h3 t0n t0m (k + 1) hd
    unfold ctA
    push_cast
    split <;> omega
theorem ct_evens (q t0 : Int) : sumGo q evens t0 t0 (-1) = ctA q t0 evens 7 := by
  simp only [sumGo, evens, ctA, ctT, List.getD_cons_zero, List.getD_cons_succ, Int.neg_neg]
  simp
  omega
theorem ct_odds (q t0 : Int) : sumGo q odds t0 t0 (-1) = ctA q t0 odds 7 := by
  simp only [sumGo, odds, ctA, ctT, List.getD_cons_zero, List.getD_cons_succ, Int.neg_neg]
  simp
  omega
theorem evens_at : ∀ k : Nat, k < 7 → 2 * ((k : Int) + 1) * (2 * ((k : Int) + 1) - 1) = evens.getD k 0 := by decide
theorem odds_at : ∀ k : Nat, k < 7 → 2 * ((k : Int) + 1) * (2 * ((k : Int) + 1) + 1) = odds.getD k 0 := by decide
theorem evens_bd : ∀ k : Nat, k < 7 → 1 ≤ evens.getD k 0 ∧ evens.getD k 0 ≤ 1000 := by decide
theorem odds_bd : ∀ k : Nat, k < 7 → 1 ≤ odds.getD k 0 ∧ odds.getD k 0 ≤ 1000 := by decide

theorem rarc (n : Int) (w : World) (h1 : 0 ≤ n) (h2 : n ≤ 256) :
    Calls Try.prog 95 #[.int .i64 n] w fun e w' => e = .returned (.int .i64 (arcF n)) ∧ w = w' := by
  go_enter Try.func95, Try.ntmps95
  go_wp2_with (go_at_call 63; refine (down_in _ _ _ (by omega) (by omega) (by omega) (by omega)).mono ?_; rintro e w' ⟨rfl, rfl⟩)
  go_ret
  exact ⟨rfl, rfl⟩

theorem rcosine (n : Int) (w : World) (h1 : 0 ≤ n) (h2 : n ≤ 256) :
    Calls Try.prog 89 #[.int .i64 n] w fun e w' => e = .returned (.int .i64 (cosS n)) ∧ w = w' := by
  obtain ⟨a0, a1⟩ := arc_bd h1 h2
  obtain ⟨q0, q1⟩ := sq_bd' a0 a1
  obtain ⟨m0, m1⟩ := mul_bd a0 a1 a0 a1
  obtain ⟨q, hq⟩ : ∃ q, rnd (arcF n * arcF n) 30 = q := ⟨_, rfl⟩
  have hq' : sqF (arcF n) = q := hq
  have E : Hid (ctA q (1073741824) evens 7 = cosS n) := Lib.hid (by rw [← ct_evens, ← hq']; rfl)
  rw [hq'] at q0 q1
  clear hq'
  have t0n : (0 : Int) ≤ 1073741824 := by omega
  have t0m : (1073741824 : Int) ≤ 1073741824 := by omega
  go_enter Try.func89, Try.ntmps89
  go_wp2_with (first | (go_at_call 95; refine (rarc _ _ (by omega) (by omega)).mono ?_; rintro e w' ⟨rfl, rfl⟩) | (go_at_call 63; refine (down_in _ _ _ (by omega) (by omega) (by omega) (by omega)).mono ?_; rintro e w' ⟨rfl, rfl⟩))
  clear hq
  go_loop [5, 6, 7] (fun t s i => ∃ k : Nat, k ≤ 7 ∧ t = .int .i64 (ctT q (1073741824) evens k) ∧ s = .int .i64 (ctA q (1073741824) evens k) ∧ i = .int .i64 ((k : Int) + 1)) (fun _ _ i => (8 - intOf i).toNat)
  case atStart => exact ⟨0, by omega, rfl, rfl, rfl⟩
  case round =>
    obtain ⟨k, hk, rfl, rfl, rfl⟩ := hrel
    have tb := ctT_bd (t0 := 1073741824) (ds := evens) q0 q1 t0n t0m k (fun j hj => (evens_bd j (by omega)).1)
    have ab := ctA_bd (t0 := 1073741824) (ds := evens) q0 q1 t0n t0m k (fun j hj => (evens_bd j (by omega)).1)
    obtain ⟨b0, b1⟩ := tb
    obtain ⟨b2, b3⟩ := ab
    by_cases hlt : k < 7
    · have hd := evens_bd k hlt
      have ek := evens_at k hlt
      have st : Hid (ctT q (1073741824) evens (k + 1) = rnd (ctT q (1073741824) evens k * q) 30 / evens.getD k 0) := Lib.hid rfl
      have sa : Hid (ctA q (1073741824) evens (k + 1) = if k % 2 = 0 then ctA q (1073741824) evens k - ctT q (1073741824) evens (k + 1) else ctA q (1073741824) evens k + ctT q (1073741824) evens (k + 1)) := Lib.hid rfl
      obtain ⟨d0, d1⟩ := hd
      obtain ⟨x1, x2, x3, x4, x5, x6⟩ := term_bd (d := evens.getD k 0) b0 b1 q0 q1 d0
      generalize evens.getD k 0 = d at *
      generalize ctT q (1073741824) evens k = T at *
      generalize ctA q (1073741824) evens k = A at *
      by_cases hp : k % 2 = 0
      · have hp1 : ((k : Int) + 1) % 2 = 1 := by omega
        go_wp2_with (go_at_call 63; refine (down_in _ _ _ (by omega) (by omega) (by omega) (by omega)).mono ?_; rintro e w' ⟨rfl, rfl⟩)
        go_round
        case rel => exact ⟨k + 1, by omega, by rw [st.out], by rw [sa.out, if_pos hp, st.out], by go_num⟩
        case measure => simp [intOf]; omega
      · have hp1 : ((k : Int) + 1) % 2 = 0 := by omega
        go_wp2_with (go_at_call 63; refine (down_in _ _ _ (by omega) (by omega) (by omega) (by omega)).mono ?_; rintro e w' ⟨rfl, rfl⟩)
        go_round
        case rel => exact ⟨k + 1, by omega, by rw [st.out], by rw [sa.out, if_neg hp, st.out], by go_num⟩
        case measure => simp [intOf]; omega
    · have hk7 : k = 7 := by omega
      subst hk7
      have c7 : ¬ ((7 : Nat) : Int) + 1 ≤ 7 := by omega
      go_wp2
      go_ret
      exact ⟨retI E.out, rfl⟩

theorem rsine (n : Int) (w : World) (h1 : 0 ≤ n) (h2 : n ≤ 256) :
    Calls Try.prog 90 #[.int .i64 n] w fun e w' => e = .returned (.int .i64 (sinS n)) ∧ w = w' := by
  obtain ⟨a0, a1⟩ := arc_bd h1 h2
  obtain ⟨q0, q1⟩ := sq_bd' a0 a1
  obtain ⟨m0, m1⟩ := mul_bd a0 a1 a0 a1
  obtain ⟨q, hq⟩ : ∃ q, rnd (arcF n * arcF n) 30 = q := ⟨_, rfl⟩
  have hq' : sqF (arcF n) = q := hq
  have E : Hid (ctA q (arcF n) odds 7 = sinS n) := Lib.hid (by rw [← ct_odds, ← hq']; rfl)
  rw [hq'] at q0 q1
  clear hq'
  have t0n : (0 : Int) ≤ arcF n := by omega
  have t0m : (arcF n : Int) ≤ 1073741824 := by omega
  go_enter Try.func90, Try.ntmps90
  go_wp2_with (first | (go_at_call 95; refine (rarc _ _ (by omega) (by omega)).mono ?_; rintro e w' ⟨rfl, rfl⟩) | (go_at_call 63; refine (down_in _ _ _ (by omega) (by omega) (by omega) (by omega)).mono ?_; rintro e w' ⟨rfl, rfl⟩))
  clear hq
  go_loop [5, 6, 7] (fun t s i => ∃ k : Nat, k ≤ 7 ∧ t = .int .i64 (ctT q (arcF n) odds k) ∧ s = .int .i64 (ctA q (arcF n) odds k) ∧ i = .int .i64 ((k : Int) + 1)) (fun _ _ i => (8 - intOf i).toNat)
  case atStart => exact ⟨0, by omega, rfl, rfl, rfl⟩
  case round =>
    obtain ⟨k, hk, rfl, rfl, rfl⟩ := hrel
    have tb := ctT_bd (t0 := arcF n) (ds := odds) q0 q1 t0n t0m k (fun j hj => (odds_bd j (by omega)).1)
    have ab := ctA_bd (t0 := arcF n) (ds := odds) q0 q1 t0n t0m k (fun j hj => (odds_bd j (by omega)).1)
    obtain ⟨b0, b1⟩ := tb
    obtain ⟨b2, b3⟩ := ab
    by_cases hlt : k < 7
    · have hd := odds_bd k hlt
      have ek := odds_at k hlt
      have st : Hid (ctT q (arcF n) odds (k + 1) = rnd (ctT q (arcF n) odds k * q) 30 / odds.getD k 0) := Lib.hid rfl
      have sa : Hid (ctA q (arcF n) odds (k + 1) = if k % 2 = 0 then ctA q (arcF n) odds k - ctT q (arcF n) odds (k + 1) else ctA q (arcF n) odds k + ctT q (arcF n) odds (k + 1)) := Lib.hid rfl
      obtain ⟨d0, d1⟩ := hd
      obtain ⟨x1, x2, x3, x4, x5, x6⟩ := term_bd (d := odds.getD k 0) b0 b1 q0 q1 d0
      generalize odds.getD k 0 = d at *
      generalize ctT q (arcF n) odds k = T at *
      generalize ctA q (arcF n) odds k = A at *
      by_cases hp : k % 2 = 0
      · have hp1 : ((k : Int) + 1) % 2 = 1 := by omega
        go_wp2_with (go_at_call 63; refine (down_in _ _ _ (by omega) (by omega) (by omega) (by omega)).mono ?_; rintro e w' ⟨rfl, rfl⟩)
        go_round
        case rel => exact ⟨k + 1, by omega, by rw [st.out], by rw [sa.out, if_pos hp, st.out], by go_num⟩
        case measure => simp [intOf]; omega
      · have hp1 : ((k : Int) + 1) % 2 = 0 := by omega
        go_wp2_with (go_at_call 63; refine (down_in _ _ _ (by omega) (by omega) (by omega) (by omega)).mono ?_; rintro e w' ⟨rfl, rfl⟩)
        go_round
        case rel => exact ⟨k + 1, by omega, by rw [st.out], by rw [sa.out, if_neg hp, st.out], by go_num⟩
        case measure => simp [intOf]; omega
    · have hk7 : k = 7 := by omega
      subst hk7
      have c7 : ¬ ((7 : Nat) : Int) + 1 ≤ 7 := by omega
      go_wp2
      go_ret
      exact ⟨retI E.out, rfl⟩


theorem rfirst (n : Int) (w : World) (h1 : 0 ≤ n) (h2 : n ≤ 512) :
    Calls Try.prog 80 #[.int .i64 n] w fun e w' => e = .returned (.int .i64 (firstF n)) ∧ w = w' := by
  have e1 : Int.tmod n 2048 = n := by rw [Int.tmod_eq_of_lt h1 (by omega)]
  have c0 : ¬ n < 0 := by omega
  have c1 : ¬ 1024 < n := by omega
  have c2 : ¬ 512 < n := by omega
  by_cases c3 : n ≤ 256
  · have s := cosS_bd h1 c3
    obtain ⟨s1, s2⟩ := s
    have E : Hid (rnd (cosS n) 4 = firstF n) := Lib.hid (by unfold firstF; rw [if_neg (by omega)])
    go_enter Try.func80, Try.ntmps80
    go_wp2_with (first | (go_at_call 89; refine (rcosine _ _ (by omega) (by omega)).mono ?_; rintro e w' ⟨rfl, rfl⟩) | (go_at_call 63; refine (down_in _ _ _ (by omega) (by omega) (by omega) (by omega)).mono ?_; rintro e w' ⟨rfl, rfl⟩))
    go_ret
    exact ⟨retI E.out, rfl⟩
  · have s := sinS_bd (n := 512 - n) (by omega) (by omega)
    obtain ⟨s1, s2⟩ := s
    have E : Hid (rnd (sinS (512 - n)) 4 = firstF n) := Lib.hid (by unfold firstF; rw [if_pos (by omega)])
    go_enter Try.func80, Try.ntmps80
    go_wp2_with (first | (go_at_call 90; refine (rsine _ _ (by omega) (by omega)).mono ?_; rintro e w' ⟨rfl, rfl⟩) | (go_at_call 63; refine (down_in _ _ _ (by omega) (by omega) (by omega) (by omega)).mono ?_; rintro e w' ⟨rfl, rfl⟩))
    go_ret
    exact ⟨retI E.out, rfl⟩

theorem rcos (n : Int) (w : World) :
    Calls Try.prog 80 #[.int .i64 n] w fun e w' => e = .returned (.int .i64 (cosF n)) ∧ w = w' := by
  have m0 : 0 ≤ n % 2048 := by omega
  have m1 : n % 2048 < 2048 := by omega
  have key : ∀ (m : Int), m = Int.tmod n 2048 → (0 ≤ m ∧ m = n % 2048) ∨ (m < 0 ∧ -2048 < m ∧ m + 2048 = n % 2048) := by
    intro m hm; rw [Int.tmod_eq_emod] at hm; split at hm <;> omega
  have k := key _ rfl
  clear key
  by_cases c1 : 1024 < n % 2048
  · by_cases c2 : 512 < 2048 - n % 2048
    · have hb := firstF_bd (n := 1024 - (2048 - n % 2048)) (by omega) (by omega)
      obtain ⟨b1, b2⟩ := hb
      have E : Hid (-firstF (1024 - (2048 - n % 2048)) = cosF n) := Lib.hid (by unfold cosF fold; rw [if_pos c1, if_pos c2])
      rcases k with ⟨k1, k2⟩ | ⟨k1, k3, k2⟩
      all_goals
        go_enter Try.func80, Try.ntmps80
        go_wp2_with (go_at_call 80; refine (rfirst (1024 - (2048 - n % 2048)) _ (by omega) (by omega)).mono ?_; rintro e w' ⟨rfl, rfl⟩)
        go_ret
        exact ⟨retI E.out, rfl⟩
    · by_cases c3 : 2048 - n % 2048 ≤ 256
      · have s := cosS_bd (n := 2048 - n % 2048) (by omega) c3
        obtain ⟨s1, s2⟩ := s
        have E : Hid (rnd (cosS (2048 - n % 2048)) 4 = cosF n) := Lib.hid (by unfold cosF fold; rw [if_pos c1, if_neg c2]; unfold firstF; rw [if_neg (by omega)])
        rcases k with ⟨k1, k2⟩ | ⟨k1, k3, k2⟩
        all_goals
          go_enter Try.func80, Try.ntmps80
          go_wp2_with (first | (go_at_call 89; refine (rcosine (2048 - n % 2048) _ (by omega) (by omega)).mono ?_; rintro e w' ⟨rfl, rfl⟩) | (go_at_call 63; refine (down_in _ _ _ (by omega) (by omega) (by omega) (by omega)).mono ?_; rintro e w' ⟨rfl, rfl⟩))
          go_ret
          exact ⟨retI E.out, rfl⟩
      · have s := sinS_bd (n := 512 - (2048 - n % 2048)) (by omega) (by omega)
        obtain ⟨s1, s2⟩ := s
        have E : Hid (rnd (sinS (512 - (2048 - n % 2048))) 4 = cosF n) := Lib.hid (by unfold cosF fold; rw [if_pos c1, if_neg c2]; unfold firstF; rw [if_pos (by omega)])
        rcases k with ⟨k1, k2⟩ | ⟨k1, k3, k2⟩
        all_goals
          go_enter Try.func80, Try.ntmps80
          go_wp2_with (first | (go_at_call 90; refine (rsine (512 - (2048 - n % 2048)) _ (by omega) (by omega)).mono ?_; rintro e w' ⟨rfl, rfl⟩) | (go_at_call 63; refine (down_in _ _ _ (by omega) (by omega) (by omega) (by omega)).mono ?_; rintro e w' ⟨rfl, rfl⟩))
          go_ret
          exact ⟨retI E.out, rfl⟩
  · by_cases c2 : 512 < n % 2048
    · have hb := firstF_bd (n := 1024 - (n % 2048)) (by omega) (by omega)
      obtain ⟨b1, b2⟩ := hb
      have E : Hid (-firstF (1024 - (n % 2048)) = cosF n) := Lib.hid (by unfold cosF fold; rw [if_neg c1, if_pos c2])
      rcases k with ⟨k1, k2⟩ | ⟨k1, k3, k2⟩
      all_goals
        go_enter Try.func80, Try.ntmps80
        go_wp2_with (go_at_call 80; refine (rfirst (1024 - (n % 2048)) _ (by omega) (by omega)).mono ?_; rintro e w' ⟨rfl, rfl⟩)
        go_ret
        exact ⟨retI E.out, rfl⟩
    · by_cases c3 : n % 2048 ≤ 256
      · have s := cosS_bd (n := n % 2048) (by omega) c3
        obtain ⟨s1, s2⟩ := s
        have E : Hid (rnd (cosS (n % 2048)) 4 = cosF n) := Lib.hid (by unfold cosF fold; rw [if_neg c1, if_neg c2]; unfold firstF; rw [if_neg (by omega)])
        rcases k with ⟨k1, k2⟩ | ⟨k1, k3, k2⟩
        all_goals
          go_enter Try.func80, Try.ntmps80
          go_wp2_with (first | (go_at_call 89; refine (rcosine (n % 2048) _ (by omega) (by omega)).mono ?_; rintro e w' ⟨rfl, rfl⟩) | (go_at_call 63; refine (down_in _ _ _ (by omega) (by omega) (by omega) (by omega)).mono ?_; rintro e w' ⟨rfl, rfl⟩))
          go_ret
          exact ⟨retI E.out, rfl⟩
      · have s := sinS_bd (n := 512 - (n % 2048)) (by omega) (by omega)
        obtain ⟨s1, s2⟩ := s
        have E : Hid (rnd (sinS (512 - (n % 2048))) 4 = cosF n) := Lib.hid (by unfold cosF fold; rw [if_neg c1, if_neg c2]; unfold firstF; rw [if_pos (by omega)])
        rcases k with ⟨k1, k2⟩ | ⟨k1, k3, k2⟩
        all_goals
          go_enter Try.func80, Try.ntmps80
          go_wp2_with (first | (go_at_call 90; refine (rsine (512 - (n % 2048)) _ (by omega) (by omega)).mono ?_; rintro e w' ⟨rfl, rfl⟩) | (go_at_call 63; refine (down_in _ _ _ (by omega) (by omega) (by omega) (by omega)).mono ?_; rintro e w' ⟨rfl, rfl⟩))
          go_ret
          exact ⟨retI E.out, rfl⟩

theorem rsin (n : Int) (w : World) :
    Calls Try.prog 70 #[.int .i64 n] w fun e w' => e = .returned (.int .i64 (sinF n)) ∧ w = w' := by
  have b1 : -2048 < Int.tmod n 2048 := by
    rw [Int.tmod_eq_emod]; split <;> omega
  have b2 : Int.tmod n 2048 < 2048 := by
    rw [Int.tmod_eq_emod]; split <;> omega
  have key : ∀ (m : Int), m = Int.tmod n 2048 → (m - n) % 2048 = 0 := by
    intro m hm; rw [Int.tmod_eq_emod] at hm; split at hm <;> omega
  have k := key _ rfl
  clear key
  have E : Hid (cosF (Int.tmod n 2048 - 512) = sinF n) := Lib.hid (by
    have e : fold (Int.tmod n 2048 - 512) = fold (n % 2048 - 512) := by
      generalize Int.tmod n 2048 = m at *
      unfold fold; split <;> split <;> omega
    unfold sinF cosF; rw [e])
  clear k
  go_enter Try.func70, Try.ntmps70
  go_wp2_with (go_at_call 80; refine (rcos _ _).mono ?_; rintro e w' ⟨rfl, rfl⟩)
  go_ret
  exact ⟨retI E.out, rfl⟩
end Go.Proofs.Yteknakakefhbmaa.Fx
