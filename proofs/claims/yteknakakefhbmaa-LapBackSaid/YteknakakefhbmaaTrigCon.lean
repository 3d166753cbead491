/- What trig's calls do. -/
import Derived.Test.YteknakakefhbmaaFixCon
import Derived.Test.YteknakakefhbmaaTrigMath
import Derived.WalkKit
import Derived.ProofKit
import Derived.OpenShut
import Derived.Lib.Hide
namespace Go.Proofs.Yteknakakefhbmaa.Fx
open Go Go.ChangeShapes Go.WideShapes Go.ChangeAt Go.RowKit

theorem tround (n b : Int) (w : World) (h1 : -4611686018427387904 ≤ n) (h2 : n ≤ 4611686018427387904) (h3 : 0 ≤ b) (h4 : b ≤ 62) :
    Calls Try.prog 86 #[.int .i64 n, .int .i64 b] w fun e w' => e = .returned (.int .i64 (rnd n b)) ∧ w = w' := by
  go_enter Try.func86, Try.ntmps86
  go_wp2_with (go_at_call 43; refine (round_in _ _ _ (by omega) (by omega) (by omega) (by omega)).mono ?_; rintro e w' ⟨rfl, rfl⟩)
  go_ret
  exact ⟨rfl, rfl⟩

theorem tarc (n : Int) (w : World) (h1 : 0 ≤ n) (h2 : n ≤ 256) :
    Calls Try.prog 85 #[.int .i64 n] w fun e w' => e = .returned (.int .i64 (arcF n)) ∧ w = w' := by
  go_enter Try.func85, Try.ntmps85
  go_wp2_with (go_at_call 86; refine (tround _ _ _ (by omega) (by omega) (by omega) (by omega)).mono ?_; rintro e w' ⟨rfl, rfl⟩)
  go_ret
  exact ⟨rfl, rfl⟩

theorem tsquare (a : Int) (w : World) (h1 : 0 ≤ a) (h2 : a ≤ 843314857) :
    Calls Try.prog 88 #[.int .i64 a] w fun e w' => e = .returned (.int .i64 (sqF a)) ∧ w = w' := by
  obtain ⟨x, y⟩ := mul_bd h1 h2 h1 h2
  go_enter Try.func88, Try.ntmps88
  go_wp2_with (go_at_call 86; refine (tround _ _ _ (by omega) (by omega) (by omega) (by omega)).mono ?_; rintro e w' ⟨rfl, rfl⟩)
  go_ret
  exact ⟨rfl, rfl⟩

theorem retI {a b : Int} (h : a = b) : Ending.returned (.int .i64 a) = .returned (.int .i64 b) := by rw [h]
theorem taround (n : Int) (w : World) :
    Calls Try.prog 75 #[.int .i64 n] w fun e w' => e = .returned (.int .i64 (n % 2048)) ∧ w = w' := by
  have e : (Int.tmod n 2048 + 2048) % 2048 = n % 2048 := by
    rw [Int.tmod_eq_emod]; split <;> omega
  have b1 : -2048 < Int.tmod n 2048 := by
    rw [Int.tmod_eq_emod]; split <;> omega
  have b2 : Int.tmod n 2048 < 2048 := by
    rw [Int.tmod_eq_emod]; split <;> omega
  go_enter Try.func75, Try.ntmps75
  go_wp2
  go_ret
  exact ⟨retI e, rfl⟩

def Look (w : World) (b off : Nat) (ds : List Int) : Prop := ∀ i, i < ds.length → w.cell? ⟨b, off + i, none⟩ = some (.int .i64 (ds.getD i 0))

theorem sum_step {q : Int} {ds : List Int} {k : Nat} (h : k < ds.length) (all t s : Int) :
    sumGo q (ds.drop k) all t s = sumGo q (ds.drop (k + 1)) (all + s * (rnd (t * q) 30 / ds.getD k 0)) (rnd (t * q) 30 / ds.getD k 0) (-s) := by
  rw [List.drop_eq_getElem_cons h, sumGo]
  simp [h]

theorem tsum (term q : Int) (b off : Nat) (ds : List Int) (w : World) (h0 : 0 ≤ term) (h1 : term ≤ 1073741824) (h2 : 0 ≤ q) (h3 : q ≤ 1073741824) (hl : ds.length ≤ 7) (hd : ∀ d ∈ ds, 1 ≤ d ∧ d ≤ 1000) (hc : Look w b off ds) :
    Calls Try.prog 87 #[.int .i64 term, .int .i64 q, .slice (some ⟨b, off, none⟩) ds.length ds.length] w fun e w' => e = .returned (.int .i64 (sumGo q ds term term (-1))) ∧ w = w' := by
  generalize hR : sumGo q ds term term (-1) = R
  have HR := Lib.hid hR
  have HD := Lib.hid hd
  have HC := Lib.hid hc
  clear hR hd hc
  go_enter Try.func87, Try.ntmps87
  go_wp2
  go_loop [0, 7, 8, 14] (fun t a s i => ∃ (k : Nat) (T A S : Int), k ≤ ds.length ∧ 0 ≤ T ∧ T ≤ 1073741824 ∧ -(((k : Int) + 1) * 1073741824) ≤ A ∧ A ≤ ((k : Int) + 1) * 1073741824 ∧ (S = 1 ∨ S = -1) ∧ Hid (sumGo q (ds.drop k) A T S = R) ∧ t = .int .i64 T ∧ a = .int .i64 A ∧ s = .int .i64 S ∧ i = .int .i64 k) (fun _ _ _ i => ds.length - (intOf i).toNat)
  case atStart => exact ⟨0, term, term, -1, by omega, h0, h1, by omega, by omega, by simp, HR, rfl, rfl, rfl, rfl⟩
  case round =>
    obtain ⟨k, T, A, S, hk, t0, t1, a0, a1, hS, hE, rfl, rfl, rfl, rfl⟩ := hrel
    by_cases hlt : k < ds.length
    · have hcell := HC.out k hlt
      have hdk := HD.out (ds.getD k 0) (by simp [hlt])
      have hstep := Lib.hid (sum_step (q := q) hlt A T S)
      generalize ds.getD k 0 = d at *
      obtain ⟨d1, d2⟩ := hdk
      obtain ⟨x1, x2, x3, x4, x5, x6⟩ := term_bd (d := d) t0 t1 h2 h3 d1
      rcases hS with rfl | rfl
      · go_wp2_with (go_at_call 86; refine (tround _ _ _ (by omega) (by omega) (by omega) (by omega)).mono ?_; rintro e w' ⟨rfl, rfl⟩)
        go_round
        case rel => exact ⟨k + 1, rnd (T * q) 30 / d, A + 1 * (rnd (T * q) 30 / d), -1, by omega, x5, x6, by push_cast; omega, by push_cast; omega, by simp, by have := hstep.out; rw [hE.out] at this; exact Lib.hid this.symm, by go_num, by go_num, by go_num, by go_num⟩
        case measure => simp [intOf]; omega
      · go_wp2_with (go_at_call 86; refine (tround _ _ _ (by omega) (by omega) (by omega) (by omega)).mono ?_; rintro e w' ⟨rfl, rfl⟩)
        go_round
        case rel => exact ⟨k + 1, rnd (T * q) 30 / d, A + -1 * (rnd (T * q) 30 / d), 1, by omega, x5, x6, by push_cast; omega, by push_cast; omega, by simp, by have := hstep.out; rw [hE.out] at this; exact Lib.hid this.symm, by go_num, by go_num, by go_num, by go_num⟩
        case measure => simp [intOf]; omega
    · go_wp2
      go_ret
      have : k = ds.length := by omega
      subst this
      have e := hE.out
      rw [List.drop_length, sumGo] at e
      exact ⟨retI e, rfl⟩

theorem look_evens (w : World) : Look (w.alloc (.cells #[.int .i64 2, .int .i64 12, .int .i64 30, .int .i64 56, .int .i64 90, .int .i64 132, .int .i64 182] 3)) w.heap.size 0 evens := by
  intro i hi
  have hi' : i < 7 := hi
  rcases i with _|_|_|_|_|_|_|i
  all_goals first | omega | (simp [evens, go_sem]; done)
theorem look_odds (w : World) : Look (w.alloc (.cells #[.int .i64 6, .int .i64 20, .int .i64 42, .int .i64 72, .int .i64 110, .int .i64 156, .int .i64 210] 3)) w.heap.size 0 odds := by
  intro i hi
  have hi' : i < 7 := hi
  rcases i with _|_|_|_|_|_|_|i
  all_goals first | omega | (simp [odds, go_sem]; done)
theorem evens_in : ∀ d ∈ evens, (1 : Int) ≤ d ∧ d ≤ 1000 := by decide
theorem odds_in : ∀ d ∈ odds, (1 : Int) ≤ d ∧ d ≤ 1000 := by decide

theorem tfirst_low (n : Int) (w : World) (h1 : 0 ≤ n) (h2 : n ≤ 256) :
    Calls Try.prog 76 #[.int .i64 n] w fun e w' => e = .returned (.int .i64 (firstF n)) ∧ Below w.heap.size w w' := by
  have c1 : ¬ 256 < n := by omega
  obtain ⟨a0, a1⟩ := arc_bd h1 h2
  obtain ⟨q0, q1⟩ := sq_bd' a0 a1
  have s := cosS_bd h1 h2
  obtain ⟨s1, s2⟩ := s
  have E : Hid (rnd (cosS n) 4 = firstF n) := Lib.hid (by unfold firstF; rw [if_neg c1])
  go_enter Try.func76, Try.ntmps76
  go_wp2_with (first | (go_at_call 85; refine (tarc _ _ (by omega) (by omega)).mono ?_; rintro e w' ⟨rfl, rfl⟩) | (go_at_call 88; refine (tsquare _ _ (by omega) (by omega)).mono ?_; rintro e w' ⟨rfl, rfl⟩) | (go_at_call 87; refine (tsum 1073741824 (sqF (arcF n)) w.heap.size 0 evens _ (by decide) (by decide) q0 q1 (by decide) evens_in (look_evens w)).mono ?_; rintro e w' ⟨rfl, rfl⟩) | (go_at_call 86; refine (tround (cosS n) _ _ (by omega) (by omega) (by omega) (by omega)).mono ?_; rintro e w' ⟨rfl, rfl⟩))
  go_ret
  exact ⟨retI E.out, (Below.refl _ _).alloc (Nat.le_refl _) _⟩

theorem tfirst_high (n : Int) (w : World) (h1 : 256 < n) (h2 : n ≤ 512) :
    Calls Try.prog 76 #[.int .i64 n] w fun e w' => e = .returned (.int .i64 (firstF n)) ∧ Below w.heap.size w w' := by
  obtain ⟨a0, a1⟩ := arc_bd (n := 512 - n) (by omega) (by omega)
  obtain ⟨q0, q1⟩ := sq_bd' a0 a1
  have s := sinS_bd (n := 512 - n) (by omega) (by omega)
  obtain ⟨s1, s2⟩ := s
  have E : Hid (rnd (sinS (512 - n)) 4 = firstF n) := Lib.hid (by unfold firstF; rw [if_pos h1])
  go_enter Try.func76, Try.ntmps76
  go_wp2_with (first | (go_at_call 85; refine (tarc _ _ (by omega) (by omega)).mono ?_; rintro e w' ⟨rfl, rfl⟩) | (go_at_call 88; refine (tsquare _ _ (by omega) (by omega)).mono ?_; rintro e w' ⟨rfl, rfl⟩) | (go_at_call 87; refine (tsum (arcF (512 - n)) (sqF (arcF (512 - n))) w.heap.size 0 odds _ a0 (by omega) q0 q1 (by decide) odds_in (look_odds w)).mono ?_; rintro e w' ⟨rfl, rfl⟩) | (go_at_call 86; refine (tround (sinS (512 - n)) _ _ (by omega) (by omega) (by omega) (by omega)).mono ?_; rintro e w' ⟨rfl, rfl⟩))
  go_ret
  exact ⟨retI E.out, (Below.refl _ _).alloc (Nat.le_refl _) _⟩

theorem tfirst (n : Int) (w : World) (h1 : 0 ≤ n) (h2 : n ≤ 512) :
    Calls Try.prog 76 #[.int .i64 n] w fun e w' => e = .returned (.int .i64 (firstF n)) ∧ Below w.heap.size w w' := by
  by_cases h : n ≤ 256
  · exact tfirst_low n w h1 h
  · exact tfirst_high n w (by omega) h2

theorem tcos (n : Int) (w : World) :
    Calls Try.prog 67 #[.int .i64 n] w fun e w' => e = .returned (.int .i64 (cosF n)) ∧ Below w.heap.size w w' := by
  have m0 : 0 ≤ n % 2048 := by omega
  have m1 : n % 2048 < 2048 := by omega
  by_cases c1 : 1024 < n % 2048
  · by_cases c2 : 512 < 2048 - n % 2048
    · have hb := firstF_bd (n := 1024 - (2048 - n % 2048)) (by omega) (by omega)
      obtain ⟨b1, b2⟩ := hb
      have E : Hid (-firstF (1024 - (2048 - n % 2048)) = cosF n) := Lib.hid (by unfold cosF fold; rw [if_pos c1, if_pos c2])
      go_enter Try.func67, Try.ntmps67
      go_wp2_with (first | (go_at_call 75; refine (taround _ _).mono ?_; rintro e w' ⟨rfl, rfl⟩) | (go_at_call 76; refine (tfirst (1024 - (2048 - n % 2048)) _ (by omega) (by omega)).mono ?_; rintro e w' ⟨rfl, hb⟩))
      go_ret
      exact ⟨retI E.out, ‹_›⟩
    · have E : Hid (firstF (2048 - n % 2048) = cosF n) := Lib.hid (by unfold cosF fold; rw [if_pos c1, if_neg c2])
      go_enter Try.func67, Try.ntmps67
      go_wp2_with (first | (go_at_call 75; refine (taround _ _).mono ?_; rintro e w' ⟨rfl, rfl⟩) | (go_at_call 76; refine (tfirst (2048 - n % 2048) _ (by omega) (by omega)).mono ?_; rintro e w' ⟨rfl, hb⟩))
      go_ret
      exact ⟨retI E.out, ‹_›⟩
  · by_cases c2 : 512 < n % 2048
    · have hb := firstF_bd (n := 1024 - n % 2048) (by omega) (by omega)
      obtain ⟨b1, b2⟩ := hb
      have E : Hid (-firstF (1024 - n % 2048) = cosF n) := Lib.hid (by unfold cosF fold; rw [if_neg c1, if_pos c2])
      go_enter Try.func67, Try.ntmps67
      go_wp2_with (first | (go_at_call 75; refine (taround _ _).mono ?_; rintro e w' ⟨rfl, rfl⟩) | (go_at_call 76; refine (tfirst (1024 - n % 2048) _ (by omega) (by omega)).mono ?_; rintro e w' ⟨rfl, hb⟩))
      go_ret
      exact ⟨retI E.out, ‹_›⟩
    · have E : Hid (firstF (n % 2048) = cosF n) := Lib.hid (by unfold cosF fold; rw [if_neg c1, if_neg c2])
      go_enter Try.func67, Try.ntmps67
      go_wp2_with (first | (go_at_call 75; refine (taround _ _).mono ?_; rintro e w' ⟨rfl, rfl⟩) | (go_at_call 76; refine (tfirst (n % 2048) _ (by omega) (by omega)).mono ?_; rintro e w' ⟨rfl, hb⟩))
      go_ret
      exact ⟨retI E.out, ‹_›⟩

def sinF (n : Int) : Int := cosF (n % 2048 - 512)
theorem tsin (n : Int) (w : World) :
    Calls Try.prog 91 #[.int .i64 n] w fun e w' => e = .returned (.int .i64 (sinF n)) ∧ Below w.heap.size w w' := by
  have m0 : 0 ≤ n % 2048 := by omega
  have m1 : n % 2048 < 2048 := by omega
  go_enter Try.func91, Try.ntmps91
  go_wp2_with (first | (go_at_call 75; refine (taround _ _).mono ?_; rintro e w' ⟨rfl, rfl⟩) | (go_at_call 67; refine (tcos (n % 2048 - 512) _).mono ?_; rintro e w' ⟨rfl, hb⟩))
  go_ret
  exact ⟨rfl, ‹_›⟩
end Go.Proofs.Yteknakakefhbmaa.Fx
