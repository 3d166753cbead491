/- Texts of one claim, one behind the other: TrigMath, TrigCon, RefTrig, Lst. -/
import Derived.Test.YtbodpeiemamibaaMrg0
import Derived.WalkKit
import Derived.ProofKit
import Derived.OpenShut
import Derived.Lib.Hide
import Derived.RegionTactic
import Derived.Deep.QuietTactic
import Derived.BigQuiet
import Derived.ChangeAlike
import Derived.Laws.AppendOwn
import Derived.Laws.AppendOwnNone
import Derived.Deep.OwnRows
set_option linter.unusedVariables false
/- Plain numbers: cosines. -/
namespace Go.Proofs.Ytbodpeiemamibaa.Fx

def sumGo (q : Int) : List Int → Int → Int → Int → Int
  | [], all, _, _ => all
  | d :: ds, all, term, sign => sumGo q ds (all + sign * (rnd (term * q) 30 / d)) (rnd (term * q) 30 / d) (-sign)
def arcF (n : Int) : Int := rnd (n * 3454217652358) 20
def sqF (a : Int) : Int := rnd (a * a) 30
def evens : List Int := [2, 12, 30, 56, 90, 132, 182]
def odds : List Int := [6, 20, 42, 72, 110, 156, 210]
def cosS (n : Int) : Int := sumGo (sqF (arcF n)) evens 1073741824 1073741824 (-1)
def sinS (n : Int) : Int := sumGo (sqF (arcF n)) odds (arcF n) (arcF n) (-1)
def firstF (n : Int) : Int := if 256 < n then rnd (sinS (512 - n)) 4 else rnd (cosS n) 4
/-- A number of parts, brought to the first half of the circle. -/
def fold (n : Int) : Int := if 1024 < n % 2048 then 2048 - n % 2048 else n % 2048
def cosF (n : Int) : Int := if 512 < fold n then -firstF (1024 - fold n) else firstF (fold n)

theorem rnd_nn {n b : Int} (hb : 0 ≤ b) (h : 0 ≤ n) : 0 ≤ rnd n b := by
  have := rnd_mono (n := 0) (m := n) hb h
  have e : rnd 0 b = 0 := by
    by_cases e : b = 0
    · subst e; rfl
    · obtain ⟨H, h0, _, _, e1⟩ := rnd_at (n := 0) (b := b) (by omega)
      rw [e1]
      exact Int.ediv_eq_zero_of_lt (by omega) (by omega)
  omega
theorem rnd_le {n m b r : Int} (hb : 0 ≤ b) (h : n ≤ m) (hr : rnd m b = r) : rnd n b ≤ r := by
  have := rnd_mono (n := n) (m := m) hb h
  omega
theorem mul_bd {a b M N : Int} (h1 : 0 ≤ a) (h2 : a ≤ M) (h3 : 0 ≤ b) (h4 : b ≤ N) : 0 ≤ a * b ∧ a * b ≤ M * N :=
  ⟨Int.mul_nonneg h1 h3, Int.mul_le_mul h2 h4 h3 (by omega)⟩
theorem arc_bd {n : Int} (h0 : 0 ≤ n) (h1 : n ≤ 256) : 0 ≤ arcF n ∧ arcF n ≤ 843314857 := by
  unfold arcF
  exact ⟨rnd_nn (by decide) (by omega), rnd_le (m := 256 * 3454217652358) (by decide) (by omega) (by decide)⟩
theorem sq_bd' {a : Int} (h0 : 0 ≤ a) (h1 : a ≤ 843314857) : 0 ≤ sqF a ∧ sqF a ≤ 1073741824 := by
  unfold sqF
  obtain ⟨x, y⟩ := mul_bd h0 h1 h0 h1
  exact ⟨rnd_nn (by decide) x, Int.le_trans (rnd_le (m := 843314857 * 843314857) (by decide) y rfl) (by decide)⟩
theorem term_bd {t q d : Int} (h0 : 0 ≤ t) (h1 : t ≤ 1073741824) (h2 : 0 ≤ q) (h3 : q ≤ 1073741824) (hd : 1 ≤ d) :
    0 ≤ t * q ∧ t * q ≤ 1152921504606846976 ∧ 0 ≤ rnd (t * q) 30 ∧ rnd (t * q) 30 ≤ 1073741824 ∧ 0 ≤ rnd (t * q) 30 / d ∧ rnd (t * q) 30 / d ≤ 1073741824 := by
  obtain ⟨x, y⟩ := mul_bd h0 h1 h2 h3
  have a : 0 ≤ rnd (t * q) 30 := rnd_nn (by decide) x
  have b : rnd (t * q) 30 ≤ 1073741824 := Int.le_trans (rnd_le (m := 1073741824 * 1073741824) (by decide) y rfl) (by decide)
  refine ⟨x, by omega, a, b, Int.ediv_nonneg a (by omega), Int.le_trans (Int.ediv_le_self _ a) b⟩
theorem sumGo_bd {q : Int} (h2 : 0 ≤ q) (h3 : q ≤ 1073741824) : ∀ (ds : List Int) (all t s B : Int), (∀ d ∈ ds, 1 ≤ d) → 0 ≤ t → t ≤ 1073741824 → (s = 1 ∨ s = -1) → -B ≤ all → all ≤ B → -(B + ds.length * 1073741824) ≤ sumGo q ds all t s ∧ sumGo q ds all t s ≤ B + ds.length * 1073741824
  | [], all, t, s, B, _, _, _, _, h, h' => by simp [sumGo]; omega
  | d :: ds, all, t, s, B, hd, t0, t1, hs, h, h' => by
    obtain ⟨a1, a2, a3, a4, a5, a6⟩ := term_bd (d := d) t0 t1 h2 h3 (hd d (by simp))
    have := sumGo_bd h2 h3 ds (all + s * (rnd (t * q) 30 / d)) (rnd (t * q) 30 / d) (-s) (B + 1073741824) (fun x hx => hd x (by simp [hx])) a5 a6 (by omega) (by rcases hs with rfl | rfl <;> omega) (by rcases hs with rfl | rfl <;> omega)
    simp only [sumGo, List.length_cons]
    push_cast
    omega
theorem evens_pos : ∀ d ∈ evens, (1 : Int) ≤ d := by decide
theorem odds_pos : ∀ d ∈ odds, (1 : Int) ≤ d := by decide
theorem cosS_bd {n : Int} (h0 : 0 ≤ n) (h1 : n ≤ 256) : -8589934592 ≤ cosS n ∧ cosS n ≤ 8589934592 := by
  obtain ⟨a0, a1⟩ := arc_bd h0 h1
  obtain ⟨q0, q1⟩ := sq_bd' a0 a1
  have := sumGo_bd q0 q1 evens 1073741824 1073741824 (-1) 1073741824 evens_pos (by decide) (by decide) (by simp) (by decide) (by decide)
  simpa [cosS, evens] using this
theorem sinS_bd {n : Int} (h0 : 0 ≤ n) (h1 : n ≤ 256) : -8589934592 ≤ sinS n ∧ sinS n ≤ 8589934592 := by
  obtain ⟨a0, a1⟩ := arc_bd h0 h1
  obtain ⟨q0, q1⟩ := sq_bd' a0 a1
  have := sumGo_bd q0 q1 odds (arcF n) (arcF n) (-1) 1073741824 odds_pos a0 (by omega) (by simp) (by omega) (by omega)
  simpa [sinS, odds] using this
theorem firstF_bd {n : Int} (h0 : 0 ≤ n) (h1 : n ≤ 512) : -1073741824 ≤ firstF n ∧ firstF n ≤ 1073741824 := by
  unfold firstF
  split
  · have := sinS_bd (n := 512 - n) (by omega) (by omega)
    constructor
    · have := rnd_mono (n := -8589934592) (m := sinS (512 - n)) (b := 4) (by decide) this.1
      have e : rnd (-8589934592) 4 = -536870912 := by decide
      omega
    · have := rnd_le (n := sinS (512 - n)) (m := 8589934592) (b := 4) (r := 536870912) (by decide) this.2 (by decide)
      omega
  · have := cosS_bd (n := n) (by omega) (by omega)
    constructor
    · have := rnd_mono (n := -8589934592) (m := cosS n) (b := 4) (by decide) this.1
      have e : rnd (-8589934592) 4 = -536870912 := by decide
      omega
    · have := rnd_le (n := cosS n) (m := 8589934592) (b := 4) (r := 536870912) (by decide) this.2 (by decide)
      omega
theorem fold_bd (n : Int) : 0 ≤ fold n ∧ fold n ≤ 1024 := by unfold fold; split <;> omega
theorem cosF_bd (n : Int) : -1073741824 ≤ cosF n ∧ cosF n ≤ 1073741824 := by
  have := fold_bd n
  unfold cosF
  split
  · have := firstF_bd (n := 1024 - fold n) (by omega) (by omega)
    omega
  · have := firstF_bd (n := fold n) (by omega) (by omega)
    omega
end Go.Proofs.Ytbodpeiemamibaa.Fx

/- What trig's calls do. -/
namespace Go.Proofs.Ytbodpeiemamibaa.Fx
open Go Go.ChangeShapes Go.WideShapes Go.ChangeAt Go.RowKit

theorem tround (n b : Int) (w : World) (h1 : -4611686018427387904 ≤ n) (h2 : n ≤ 4611686018427387904) (h3 : 0 ≤ b) (h4 : b ≤ 62) :
    Calls Try.prog 42 #[.int .i64 n, .int .i64 b] w fun e w' => e = .returned (.int .i64 (rnd n b)) ∧ w = w' := by
  go_enter Try.func42, Try.ntmps42
  go_wp2_with (go_at_call 20; refine (round_in _ _ _ (by omega) (by omega) (by omega) (by omega)).mono ?_; rintro e w' ⟨rfl, rfl⟩)
  go_ret
  exact ⟨rfl, rfl⟩

theorem tarc (n : Int) (w : World) (h1 : 0 ≤ n) (h2 : n ≤ 256) :
    Calls Try.prog 41 #[.int .i64 n] w fun e w' => e = .returned (.int .i64 (arcF n)) ∧ w = w' := by
  go_enter Try.func41, Try.ntmps41
  go_wp2_with (go_at_call 42; refine (tround _ _ _ (by omega) (by omega) (by omega) (by omega)).mono ?_; rintro e w' ⟨rfl, rfl⟩)
  go_ret
  exact ⟨rfl, rfl⟩

theorem tsquare (a : Int) (w : World) (h1 : 0 ≤ a) (h2 : a ≤ 843314857) :
    Calls Try.prog 44 #[.int .i64 a] w fun e w' => e = .returned (.int .i64 (sqF a)) ∧ w = w' := by
  obtain ⟨x, y⟩ := mul_bd h1 h2 h1 h2
  go_enter Try.func44, Try.ntmps44
  go_wp2_with (go_at_call 42; refine (tround _ _ _ (by omega) (by omega) (by omega) (by omega)).mono ?_; rintro e w' ⟨rfl, rfl⟩)
  go_ret
  exact ⟨rfl, rfl⟩

theorem retI {a b : Int} (h : a = b) : Ending.returned (.int .i64 a) = .returned (.int .i64 b) := by rw [h]
theorem taround (n : Int) (w : World) :
    Calls Try.prog 28 #[.int .i64 n] w fun e w' => e = .returned (.int .i64 (n % 2048)) ∧ w = w' := by
  have e : (Int.tmod n 2048 + 2048) % 2048 = n % 2048 := by
    rw [Int.tmod_eq_emod]; split <;> omega
  have b1 : -2048 < Int.tmod n 2048 := by
    rw [Int.tmod_eq_emod]; split <;> omega
  have b2 : Int.tmod n 2048 < 2048 := by
    rw [Int.tmod_eq_emod]; split <;> omega
  go_enter Try.func28, Try.ntmps28
  go_wp2
  go_ret
  exact ⟨retI e, rfl⟩

def Look (w : World) (b off : Nat) (ds : List Int) : Prop := ∀ i, i < ds.length → w.cell? ⟨b, off + i, none⟩ = some (.int .i64 (ds.getD i 0))

theorem sum_step {q : Int} {ds : List Int} {k : Nat} (h : k < ds.length) (all t s : Int) :
    sumGo q (ds.drop k) all t s = sumGo q (ds.drop (k + 1)) (all + s * (rnd (t * q) 30 / ds.getD k 0)) (rnd (t * q) 30 / ds.getD k 0) (-s) := by
  rw [List.drop_eq_getElem_cons h, sumGo]
  simp [h]

theorem tsum (term q : Int) (b off : Nat) (ds : List Int) (w : World) (h0 : 0 ≤ term) (h1 : term ≤ 1073741824) (h2 : 0 ≤ q) (h3 : q ≤ 1073741824) (hl : ds.length ≤ 7) (hd : ∀ d ∈ ds, 1 ≤ d ∧ d ≤ 1000) (hc : Look w b off ds) :
    Calls Try.prog 43 #[.int .i64 term, .int .i64 q, .slice (some ⟨b, off, none⟩) ds.length ds.length] w fun e w' => e = .returned (.int .i64 (sumGo q ds term term (-1))) ∧ w = w' := by
  generalize hR : sumGo q ds term term (-1) = R
  have HR := Lib.hid hR
  have HD := Lib.hid hd
  have HC := Lib.hid hc
  clear hR hd hc
  go_enter Try.func43, Try.ntmps43
  go_wp2
  go_loop [0, 7, 8, 14] (fun t a s i => ∃ (k : Nat) (T A S : Int), k ≤ ds.length ∧ 0 ≤ T ∧ T ≤ 1073741824 ∧ -(((k : Int) + 1) * 1073741824) ≤ A ∧ A ≤ ((k : Int) + 1) * 1073741824 ∧ (S = 1 ∨ S = -1) ∧ Hid (sumGo q (ds.drop k) A T S = R) ∧ t = .int .i64 T ∧ a = .int .i64 A ∧ s = .int .i64 S ∧ i = .int .i64 k) (fun _ _ _ i => ds.length - (intOf i).toNat)
  case atStart => exact ⟨0, term, term, -1, by omega, h0, h1, by omega, by omega, by simp, HR, rfl, rfl, rfl, rfl⟩
  case round =>
    obtain ⟨k, T, A, S, hk, t0, t1, a0, a1, hS, hE, rfl, rfl, rfl, rfl⟩ := hrel
    by_cases hlt : k < ds.length
    · have hcell := HC.out k hlt
      have hdk := HD.out (ds.getD k 0) (by simp [hlt])
      have hstep := Lib.hid (sum_step (q := q) hlt A T S)
      generalize ds.getD k 0 = d at *
      obtain ⟨d1, d2⟩ := hdk
      obtain ⟨x1, x2, x3, x4, x5, x6⟩ := term_bd (d := d) t0 t1 h2 h3 d1
      rcases hS with rfl | rfl
      · go_wp2_with (go_at_call 42; refine (tround _ _ _ (by omega) (by omega) (by omega) (by omega)).mono ?_; rintro e w' ⟨rfl, rfl⟩)
        go_round
        case rel => exact ⟨k + 1, rnd (T * q) 30 / d, A + 1 * (rnd (T * q) 30 / d), -1, by omega, x5, x6, by push_cast; omega, by push_cast; omega, by simp, by have := hstep.out; rw [hE.out] at this; exact Lib.hid this.symm, by go_num, by go_num, by go_num, by go_num⟩
        case measure => simp [intOf]; omega
      · go_wp2_with (go_at_call 42; refine (tround _ _ _ (by omega) (by omega) (by omega) (by omega)).mono ?_; rintro e w' ⟨rfl, rfl⟩)
        go_round
        case rel => exact ⟨k + 1, rnd (T * q) 30 / d, A + -1 * (rnd (T * q) 30 / d), 1, by omega, x5, x6, by push_cast; omega, by push_cast; omega, by simp, by have := hstep.out; rw [hE.out] at this; exact Lib.hid this.symm, by go_num, by go_num, by go_num, by go_num⟩
        case measure => simp [intOf]; omega
    · go_wp2
      go_ret
      have : k = ds.length := by omega
      subst this
      have e := hE.out
      rw [List.drop_length, sumGo] at e
      exact ⟨retI e, rfl⟩

theorem look_evens (w : World) : Look (w.alloc (.cells #[.int .i64 2, .int .i64 12, .int .i64 30, .int .i64 56, .int .i64 90, .int .i64 132, .int .i64 182] 3)) w.heap.size 0 evens := by
  intro i hi
  have hi' : i < 7 := hi
  rcases i with _|_|_|_|_|_|_|i
  all_goals first | omega | (simp [evens, go_sem]; done)
theorem look_odds (w : World) : Look (w.alloc (.cells #[.int .i64 6, .int .i64 20, .int .i64 42, .int .i64 72, .int .i64 110, .int .i64 156, .int .i64 210] 3)) w.heap.size 0 odds := by
  intro i hi
  have hi' : i < 7 := hi
  rcases i with _|_|_|_|_|_|_|i
  all_goals first | omega | (simp [odds, go_sem]; done)
theorem evens_in : ∀ d ∈ evens, (1 : Int) ≤ d ∧ d ≤ 1000 := by decide
theorem odds_in : ∀ d ∈ odds, (1 : Int) ≤ d ∧ d ≤ 1000 := by decide

theorem tfirst_low (n : Int) (w : World) (h1 : 0 ≤ n) (h2 : n ≤ 256) :
    Calls Try.prog 35 #[.int .i64 n] w fun e w' => e = .returned (.int .i64 (firstF n)) ∧ Below w.heap.size w w' := by
  have c1 : ¬ 256 < n := by omega
  obtain ⟨a0, a1⟩ := arc_bd h1 h2
  obtain ⟨q0, q1⟩ := sq_bd' a0 a1
  have s := cosS_bd h1 h2
  obtain ⟨s1, s2⟩ := s
  have E : Hid (rnd (cosS n) 4 = firstF n) := Lib.hid (by unfold firstF; rw [if_neg c1])
  go_enter Try.func35, Try.ntmps35
  go_wp2_with (first | (go_at_call 41; refine (tarc _ _ (by omega) (by omega)).mono ?_; rintro e w' ⟨rfl, rfl⟩) | (go_at_call 44; refine (tsquare _ _ (by omega) (by omega)).mono ?_; rintro e w' ⟨rfl, rfl⟩) | (go_at_call 43; refine (tsum 1073741824 (sqF (arcF n)) w.heap.size 0 evens _ (by decide) (by decide) q0 q1 (by decide) evens_in (look_evens w)).mono ?_; rintro e w' ⟨rfl, rfl⟩) | (go_at_call 42; refine (tround (cosS n) _ _ (by omega) (by omega) (by omega) (by omega)).mono ?_; rintro e w' ⟨rfl, rfl⟩))
  go_ret
  exact ⟨retI E.out, (Below.refl _ _).alloc (Nat.le_refl _) _⟩

theorem tfirst_high (n : Int) (w : World) (h1 : 256 < n) (h2 : n ≤ 512) :
    Calls Try.prog 35 #[.int .i64 n] w fun e w' => e = .returned (.int .i64 (firstF n)) ∧ Below w.heap.size w w' := by
  obtain ⟨a0, a1⟩ := arc_bd (n := 512 - n) (by omega) (by omega)
  obtain ⟨q0, q1⟩ := sq_bd' a0 a1
  have s := sinS_bd (n := 512 - n) (by omega) (by omega)
  obtain ⟨s1, s2⟩ := s
  have E : Hid (rnd (sinS (512 - n)) 4 = firstF n) := Lib.hid (by unfold firstF; rw [if_pos h1])
  go_enter Try.func35, Try.ntmps35
  go_wp2_with (first | (go_at_call 41; refine (tarc _ _ (by omega) (by omega)).mono ?_; rintro e w' ⟨rfl, rfl⟩) | (go_at_call 44; refine (tsquare _ _ (by omega) (by omega)).mono ?_; rintro e w' ⟨rfl, rfl⟩) | (go_at_call 43; refine (tsum (arcF (512 - n)) (sqF (arcF (512 - n))) w.heap.size 0 odds _ a0 (by omega) q0 q1 (by decide) odds_in (look_odds w)).mono ?_; rintro e w' ⟨rfl, rfl⟩) | (go_at_call 42; refine (tround (sinS (512 - n)) _ _ (by omega) (by omega) (by omega) (by omega)).mono ?_; rintro e w' ⟨rfl, rfl⟩))
  go_ret
  exact ⟨retI E.out, (Below.refl _ _).alloc (Nat.le_refl _) _⟩

theorem tfirst (n : Int) (w : World) (h1 : 0 ≤ n) (h2 : n ≤ 512) :
    Calls Try.prog 35 #[.int .i64 n] w fun e w' => e = .returned (.int .i64 (firstF n)) ∧ Below w.heap.size w w' := by
  by_cases h : n ≤ 256
  · exact tfirst_low n w h1 h
  · exact tfirst_high n w (by omega) h2

theorem tcos (n : Int) (w : World) :
    Calls Try.prog 27 #[.int .i64 n] w fun e w' => e = .returned (.int .i64 (cosF n)) ∧ Below w.heap.size w w' := by
  have m0 : 0 ≤ n % 2048 := by omega
  have m1 : n % 2048 < 2048 := by omega
  by_cases c1 : 1024 < n % 2048
  · by_cases c2 : 512 < 2048 - n % 2048
    · have hb := firstF_bd (n := 1024 - (2048 - n % 2048)) (by omega) (by omega)
      obtain ⟨b1, b2⟩ := hb
      have E : Hid (-firstF (1024 - (2048 - n % 2048)) = cosF n) := Lib.hid (by unfold cosF fold; rw [if_pos c1, if_pos c2])
      go_enter Try.func27, Try.ntmps27
      go_wp2_with (first | (go_at_call 28; refine (taround _ _).mono ?_; rintro e w' ⟨rfl, rfl⟩) | (go_at_call 35; refine (tfirst (1024 - (2048 - n % 2048)) _ (by omega) (by omega)).mono ?_; rintro e w' ⟨rfl, hb⟩))
      go_ret
      exact ⟨retI E.out, ‹_›⟩
    · have E : Hid (firstF (2048 - n % 2048) = cosF n) := Lib.hid (by unfold cosF fold; rw [if_pos c1, if_neg c2])
      go_enter Try.func27, Try.ntmps27
      go_wp2_with (first | (go_at_call 28; refine (taround _ _).mono ?_; rintro e w' ⟨rfl, rfl⟩) | (go_at_call 35; refine (tfirst (2048 - n % 2048) _ (by omega) (by omega)).mono ?_; rintro e w' ⟨rfl, hb⟩))
      go_ret
      exact ⟨retI E.out, ‹_›⟩
  · by_cases c2 : 512 < n % 2048
    · have hb := firstF_bd (n := 1024 - n % 2048) (by omega) (by omega)
      obtain ⟨b1, b2⟩ := hb
      have E : Hid (-firstF (1024 - n % 2048) = cosF n) := Lib.hid (by unfold cosF fold; rw [if_neg c1, if_pos c2])
      go_enter Try.func27, Try.ntmps27
      go_wp2_with (first | (go_at_call 28; refine (taround _ _).mono ?_; rintro e w' ⟨rfl, rfl⟩) | (go_at_call 35; refine (tfirst (1024 - n % 2048) _ (by omega) (by omega)).mono ?_; rintro e w' ⟨rfl, hb⟩))
      go_ret
      exact ⟨retI E.out, ‹_›⟩
    · have E : Hid (firstF (n % 2048) = cosF n) := Lib.hid (by unfold cosF fold; rw [if_neg c1, if_neg c2])
      go_enter Try.func27, Try.ntmps27
      go_wp2_with (first | (go_at_call 28; refine (taround _ _).mono ?_; rintro e w' ⟨rfl, rfl⟩) | (go_at_call 35; refine (tfirst (n % 2048) _ (by omega) (by omega)).mono ?_; rintro e w' ⟨rfl, hb⟩))
      go_ret
      exact ⟨retI E.out, ‹_›⟩

def sinF (n : Int) : Int := cosF (n % 2048 - 512)
theorem tsin (n : Int) (w : World) :
    Calls Try.prog 19 #[.int .i64 n] w fun e w' => e = .returned (.int .i64 (sinF n)) ∧ Below w.heap.size w w' := by
  have m0 : 0 ≤ n % 2048 := by omega
  have m1 : n % 2048 < 2048 := by omega
  go_enter Try.func19, Try.ntmps19
  go_wp2_with (first | (go_at_call 28; refine (taround _ _).mono ?_; rintro e w' ⟨rfl, rfl⟩) | (go_at_call 27; refine (tcos (n % 2048 - 512) _).mono ?_; rintro e w' ⟨rfl, hb⟩))
  go_ret
  exact ⟨rfl, ‹_›⟩
end Go.Proofs.Ytbodpeiemamibaa.Fx

/- What the document's own answers of trig do. -/
namespace Go.Proofs.Ytbodpeiemamibaa.Fx
open Go Go.ChangeShapes Go.WideShapes Go.ChangeAt Go.RowKit

def ctT (q t0 : Int) (ds : List Int) : Nat → Int
  | 0 => t0
  | k + 1 => rnd (ctT q t0 ds k * q) 30 / ds.getD k 0
def ctA (q t0 : Int) (ds : List Int) : Nat → Int
  | 0 => t0
  | k + 1 => if k % 2 = 0 then ctA q t0 ds k - ctT q t0 ds (k + 1) else ctA q t0 ds k + ctT q t0 ds (k + 1)
theorem ctT_bd {q t0 : Int} {ds : List Int} (h2 : 0 ≤ q) (h3 : q ≤ 1073741824) (t0n : 0 ≤ t0) (t0m : t0 ≤ 1073741824) : ∀ k, (∀ j, j < k → 1 ≤ ds.getD j 0) → 0 ≤ ctT q t0 ds k ∧ ctT q t0 ds k ≤ 1073741824
  | 0, _ => ⟨t0n, t0m⟩
  | k + 1, hd => by
    obtain ⟨a, b⟩ := ctT_bd h2 h3 t0n t0m k (fun j hj => hd j (by omega))
    obtain ⟨_, _, _, _, x5, x6⟩ := term_bd (d := ds.getD k 0) a b h2 h3 (hd k (by omega))
    exact ⟨x5, x6⟩
theorem ctA_bd {q t0 : Int} {ds : List Int} (h2 : 0 ≤ q) (h3 : q ≤ 1073741824) (t0n : 0 ≤ t0) (t0m : t0 ≤ 1073741824) : ∀ k : Nat, (∀ j, j < k → 1 ≤ ds.getD j 0) → -(((k : Int) + 1) * 1073741824) ≤ ctA q t0 ds k ∧ ctA q t0 ds k ≤ ((k : Int) + 1) * 1073741824
  | 0, _ => by simp [ctA]; omega
  | k + 1, hd => by
    obtain ⟨a, b⟩ := ctA_bd h2 h3 t0n t0m k (fun j hj => hd j (by omega))
    obtain ⟨c, d⟩ := ctT_bd (ds := ds) h2 h3 t0n t0m (k + 1) hd
    unfold ctA
    push_cast
    split <;> omega
theorem ct_evens (q t0 : Int) : sumGo q evens t0 t0 (-1) = ctA q t0 evens 7 := by
  simp only [sumGo, evens, ctA, ctT, List.getD_cons_zero, List.getD_cons_succ, Int.neg_neg]
  simp
  omega
theorem ct_odds (q t0 : Int) : sumGo q odds t0 t0 (-1) = ctA q t0 odds 7 := by
  simp only [sumGo, odds, ctA, ctT, List.getD_cons_zero, List.getD_cons_succ, Int.neg_neg]
  simp
  omega
theorem evens_at : ∀ k : Nat, k < 7 → 2 * ((k : Int) + 1) * (2 * ((k : Int) + 1) - 1) = evens.getD k 0 := by decide
theorem odds_at : ∀ k : Nat, k < 7 → 2 * ((k : Int) + 1) * (2 * ((k : Int) + 1) + 1) = odds.getD k 0 := by decide
theorem evens_bd : ∀ k : Nat, k < 7 → 1 ≤ evens.getD k 0 ∧ evens.getD k 0 ≤ 1000 := by decide
theorem odds_bd : ∀ k : Nat, k < 7 → 1 ≤ odds.getD k 0 ∧ odds.getD k 0 ≤ 1000 := by decide

theorem rarc (n : Int) (w : World) (h1 : 0 ≤ n) (h2 : n ≤ 256) :
    Calls Try.prog 45 #[.int .i64 n] w fun e w' => e = .returned (.int .i64 (arcF n)) ∧ w = w' := by
  go_enter Try.func45, Try.ntmps45
  go_wp2_with (go_at_call 16; refine (down_in _ _ _ (by omega) (by omega) (by omega) (by omega)).mono ?_; rintro e w' ⟨rfl, rfl⟩)
  go_ret
  exact ⟨rfl, rfl⟩

theorem rcosine (n : Int) (w : World) (h1 : 0 ≤ n) (h2 : n ≤ 256) :
    Calls Try.prog 36 #[.int .i64 n] w fun e w' => e = .returned (.int .i64 (cosS n)) ∧ w = w' := by
  obtain ⟨a0, a1⟩ := arc_bd h1 h2
  obtain ⟨q0, q1⟩ := sq_bd' a0 a1
  obtain ⟨m0, m1⟩ := mul_bd a0 a1 a0 a1
  obtain ⟨q, hq⟩ : ∃ q, rnd (arcF n * arcF n) 30 = q := ⟨_, rfl⟩
  have hq' : sqF (arcF n) = q := hq
  have E : Hid (ctA q (1073741824) evens 7 = cosS n) := Lib.hid (by rw [← ct_evens, ← hq']; rfl)
  rw [hq'] at q0 q1
  clear hq'
  have t0n : (0 : Int) ≤ 1073741824 := by omega
  have t0m : (1073741824 : Int) ≤ 1073741824 := by omega
  go_enter Try.func36, Try.ntmps36
  go_wp2_with (first | (go_at_call 45; refine (rarc _ _ (by omega) (by omega)).mono ?_; rintro e w' ⟨rfl, rfl⟩) | (go_at_call 16; refine (down_in _ _ _ (by omega) (by omega) (by omega) (by omega)).mono ?_; rintro e w' ⟨rfl, rfl⟩))
  clear hq
  go_loop [5, 6, 7] (fun t s i => ∃ k : Nat, k ≤ 7 ∧ t = .int .i64 (ctT q (1073741824) evens k) ∧ s = .int .i64 (ctA q (1073741824) evens k) ∧ i = .int .i64 ((k : Int) + 1)) (fun _ _ i => (8 - intOf i).toNat)
  case atStart => exact ⟨0, by omega, rfl, rfl, rfl⟩
  case round =>
    obtain ⟨k, hk, rfl, rfl, rfl⟩ := hrel
    have tb := ctT_bd (t0 := 1073741824) (ds := evens) q0 q1 t0n t0m k (fun j hj => (evens_bd j (by omega)).1)
    have ab := ctA_bd (t0 := 1073741824) (ds := evens) q0 q1 t0n t0m k (fun j hj => (evens_bd j (by omega)).1)
    obtain ⟨b0, b1⟩ := tb
    obtain ⟨b2, b3⟩ := ab
    by_cases hlt : k < 7
    · have hd := evens_bd k hlt
      have ek := evens_at k hlt
      have st : Hid (ctT q (1073741824) evens (k + 1) = rnd (ctT q (1073741824) evens k * q) 30 / evens.getD k 0) := Lib.hid rfl
      have sa : Hid (ctA q (1073741824) evens (k + 1) = if k % 2 = 0 then ctA q (1073741824) evens k - ctT q (1073741824) evens (k + 1) else ctA q (1073741824) evens k + ctT q (1073741824) evens (k + 1)) := Lib.hid rfl
      obtain ⟨d0, d1⟩ := hd
      obtain ⟨x1, x2, x3, x4, x5, x6⟩ := term_bd (d := evens.getD k 0) b0 b1 q0 q1 d0
      generalize evens.getD k 0 = d at *
      generalize ctT q (1073741824) evens k = T at *
      generalize ctA q (1073741824) evens k = A at *
      by_cases hp : k % 2 = 0
      · have hp1 : ((k : Int) + 1) % 2 = 1 := by omega
        go_wp2_with (go_at_call 16; refine (down_in _ _ _ (by omega) (by omega) (by omega) (by omega)).mono ?_; rintro e w' ⟨rfl, rfl⟩)
        go_round
        case rel => exact ⟨k + 1, by omega, by rw [st.out], by rw [sa.out, if_pos hp, st.out], by go_num⟩
        case measure => simp [intOf]; omega
      · have hp1 : ((k : Int) + 1) % 2 = 0 := by omega
        go_wp2_with (go_at_call 16; refine (down_in _ _ _ (by omega) (by omega) (by omega) (by omega)).mono ?_; rintro e w' ⟨rfl, rfl⟩)
        go_round
        case rel => exact ⟨k + 1, by omega, by rw [st.out], by rw [sa.out, if_neg hp, st.out], by go_num⟩
        case measure => simp [intOf]; omega
    · have hk7 : k = 7 := by omega
      subst hk7
      have c7 : ¬ ((7 : Nat) : Int) + 1 ≤ 7 := by omega
      go_wp2
      go_ret
      exact ⟨retI E.out, rfl⟩

theorem rsine (n : Int) (w : World) (h1 : 0 ≤ n) (h2 : n ≤ 256) :
    Calls Try.prog 37 #[.int .i64 n] w fun e w' => e = .returned (.int .i64 (sinS n)) ∧ w = w' := by
  obtain ⟨a0, a1⟩ := arc_bd h1 h2
  obtain ⟨q0, q1⟩ := sq_bd' a0 a1
  obtain ⟨m0, m1⟩ := mul_bd a0 a1 a0 a1
  obtain ⟨q, hq⟩ : ∃ q, rnd (arcF n * arcF n) 30 = q := ⟨_, rfl⟩
  have hq' : sqF (arcF n) = q := hq
  have E : Hid (ctA q (arcF n) odds 7 = sinS n) := Lib.hid (by rw [← ct_odds, ← hq']; rfl)
  rw [hq'] at q0 q1
  clear hq'
  have t0n : (0 : Int) ≤ arcF n := by omega
  have t0m : (arcF n : Int) ≤ 1073741824 := by omega
  go_enter Try.func37, Try.ntmps37
  go_wp2_with (first | (go_at_call 45; refine (rarc _ _ (by omega) (by omega)).mono ?_; rintro e w' ⟨rfl, rfl⟩) | (go_at_call 16; refine (down_in _ _ _ (by omega) (by omega) (by omega) (by omega)).mono ?_; rintro e w' ⟨rfl, rfl⟩))
  clear hq
  go_loop [5, 6, 7] (fun t s i => ∃ k : Nat, k ≤ 7 ∧ t = .int .i64 (ctT q (arcF n) odds k) ∧ s = .int .i64 (ctA q (arcF n) odds k) ∧ i = .int .i64 ((k : Int) + 1)) (fun _ _ i => (8 - intOf i).toNat)
  case atStart => exact ⟨0, by omega, rfl, rfl, rfl⟩
  case round =>
    obtain ⟨k, hk, rfl, rfl, rfl⟩ := hrel
    have tb := ctT_bd (t0 := arcF n) (ds := odds) q0 q1 t0n t0m k (fun j hj => (odds_bd j (by omega)).1)
    have ab := ctA_bd (t0 := arcF n) (ds := odds) q0 q1 t0n t0m k (fun j hj => (odds_bd j (by omega)).1)
    obtain ⟨b0, b1⟩ := tb
    obtain ⟨b2, b3⟩ := ab
    by_cases hlt : k < 7
    · have hd := odds_bd k hlt
      have ek := odds_at k hlt
      have st : Hid (ctT q (arcF n) odds (k + 1) = rnd (ctT q (arcF n) odds k * q) 30 / odds.getD k 0) := Lib.hid rfl
      have sa : Hid (ctA q (arcF n) odds (k + 1) = if k % 2 = 0 then ctA q (arcF n) odds k - ctT q (arcF n) odds (k + 1) else ctA q (arcF n) odds k + ctT q (arcF n) odds (k + 1)) := Lib.hid rfl
      obtain ⟨d0, d1⟩ := hd
      obtain ⟨x1, x2, x3, x4, x5, x6⟩ := term_bd (d := odds.getD k 0) b0 b1 q0 q1 d0
      generalize odds.getD k 0 = d at *
      generalize ctT q (arcF n) odds k = T at *
      generalize ctA q (arcF n) odds k = A at *
      by_cases hp : k % 2 = 0
      · have hp1 : ((k : Int) + 1) % 2 = 1 := by omega
        go_wp2_with (go_at_call 16; refine (down_in _ _ _ (by omega) (by omega) (by omega) (by omega)).mono ?_; rintro e w' ⟨rfl, rfl⟩)
        go_round
        case rel => exact ⟨k + 1, by omega, by rw [st.out], by rw [sa.out, if_pos hp, st.out], by go_num⟩
        case measure => simp [intOf]; omega
      · have hp1 : ((k : Int) + 1) % 2 = 0 := by omega
        go_wp2_with (go_at_call 16; refine (down_in _ _ _ (by omega) (by omega) (by omega) (by omega)).mono ?_; rintro e w' ⟨rfl, rfl⟩)
        go_round
        case rel => exact ⟨k + 1, by omega, by rw [st.out], by rw [sa.out, if_neg hp, st.out], by go_num⟩
        case measure => simp [intOf]; omega
    · have hk7 : k = 7 := by omega
      subst hk7
      have c7 : ¬ ((7 : Nat) : Int) + 1 ≤ 7 := by omega
      go_wp2
      go_ret
      exact ⟨retI E.out, rfl⟩


theorem rfirst (n : Int) (w : World) (h1 : 0 ≤ n) (h2 : n ≤ 512) :
    Calls Try.prog 29 #[.int .i64 n] w fun e w' => e = .returned (.int .i64 (firstF n)) ∧ w = w' := by
  have e1 : Int.tmod n 2048 = n := by rw [Int.tmod_eq_of_lt h1 (by omega)]
  have c0 : ¬ n < 0 := by omega
  have c1 : ¬ 1024 < n := by omega
  have c2 : ¬ 512 < n := by omega
  by_cases c3 : n ≤ 256
  · have s := cosS_bd h1 c3
    obtain ⟨s1, s2⟩ := s
    have E : Hid (rnd (cosS n) 4 = firstF n) := Lib.hid (by unfold firstF; rw [if_neg (by omega)])
    go_enter Try.func29, Try.ntmps29
    go_wp2_with (first | (go_at_call 36; refine (rcosine _ _ (by omega) (by omega)).mono ?_; rintro e w' ⟨rfl, rfl⟩) | (go_at_call 16; refine (down_in _ _ _ (by omega) (by omega) (by omega) (by omega)).mono ?_; rintro e w' ⟨rfl, rfl⟩))
    go_ret
    exact ⟨retI E.out, rfl⟩
  · have s := sinS_bd (n := 512 - n) (by omega) (by omega)
    obtain ⟨s1, s2⟩ := s
    have E : Hid (rnd (sinS (512 - n)) 4 = firstF n) := Lib.hid (by unfold firstF; rw [if_pos (by omega)])
    go_enter Try.func29, Try.ntmps29
    go_wp2_with (first | (go_at_call 37; refine (rsine _ _ (by omega) (by omega)).mono ?_; rintro e w' ⟨rfl, rfl⟩) | (go_at_call 16; refine (down_in _ _ _ (by omega) (by omega) (by omega) (by omega)).mono ?_; rintro e w' ⟨rfl, rfl⟩))
    go_ret
    exact ⟨retI E.out, rfl⟩

theorem rcos (n : Int) (w : World) :
    Calls Try.prog 29 #[.int .i64 n] w fun e w' => e = .returned (.int .i64 (cosF n)) ∧ w = w' := by
  have m0 : 0 ≤ n % 2048 := by omega
  have m1 : n % 2048 < 2048 := by omega
  have key : ∀ (m : Int), m = Int.tmod n 2048 → (0 ≤ m ∧ m = n % 2048) ∨ (m < 0 ∧ -2048 < m ∧ m + 2048 = n % 2048) := by
    intro m hm; rw [Int.tmod_eq_emod] at hm; split at hm <;> omega
  have k := key _ rfl
  clear key
  by_cases c1 : 1024 < n % 2048
  · by_cases c2 : 512 < 2048 - n % 2048
    · have hb := firstF_bd (n := 1024 - (2048 - n % 2048)) (by omega) (by omega)
      obtain ⟨b1, b2⟩ := hb
      have E : Hid (-firstF (1024 - (2048 - n % 2048)) = cosF n) := Lib.hid (by unfold cosF fold; rw [if_pos c1, if_pos c2])
      rcases k with ⟨k1, k2⟩ | ⟨k1, k3, k2⟩
      all_goals
        go_enter Try.func29, Try.ntmps29
        go_wp2_with (go_at_call 29; refine (rfirst (1024 - (2048 - n % 2048)) _ (by omega) (by omega)).mono ?_; rintro e w' ⟨rfl, rfl⟩)
        go_ret
        exact ⟨retI E.out, rfl⟩
    · by_cases c3 : 2048 - n % 2048 ≤ 256
      · have s := cosS_bd (n := 2048 - n % 2048) (by omega) c3
        obtain ⟨s1, s2⟩ := s
        have E : Hid (rnd (cosS (2048 - n % 2048)) 4 = cosF n) := Lib.hid (by unfold cosF fold; rw [if_pos c1, if_neg c2]; unfold firstF; rw [if_neg (by omega)])
        rcases k with ⟨k1, k2⟩ | ⟨k1, k3, k2⟩
        all_goals
          go_enter Try.func29, Try.ntmps29
          go_wp2_with (first | (go_at_call 36; refine (rcosine (2048 - n % 2048) _ (by omega) (by omega)).mono ?_; rintro e w' ⟨rfl, rfl⟩) | (go_at_call 16; refine (down_in _ _ _ (by omega) (by omega) (by omega) (by omega)).mono ?_; rintro e w' ⟨rfl, rfl⟩))
          go_ret
          exact ⟨retI E.out, rfl⟩
      · have s := sinS_bd (n := 512 - (2048 - n % 2048)) (by omega) (by omega)
        obtain ⟨s1, s2⟩ := s
        have E : Hid (rnd (sinS (512 - (2048 - n % 2048))) 4 = cosF n) := Lib.hid (by unfold cosF fold; rw [if_pos c1, if_neg c2]; unfold firstF; rw [if_pos (by omega)])
        rcases k with ⟨k1, k2⟩ | ⟨k1, k3, k2⟩
        all_goals
          go_enter Try.func29, Try.ntmps29
          go_wp2_with (first | (go_at_call 37; refine (rsine (512 - (2048 - n % 2048)) _ (by omega) (by omega)).mono ?_; rintro e w' ⟨rfl, rfl⟩) | (go_at_call 16; refine (down_in _ _ _ (by omega) (by omega) (by omega) (by omega)).mono ?_; rintro e w' ⟨rfl, rfl⟩))
          go_ret
          exact ⟨retI E.out, rfl⟩
  · by_cases c2 : 512 < n % 2048
    · have hb := firstF_bd (n := 1024 - (n % 2048)) (by omega) (by omega)
      obtain ⟨b1, b2⟩ := hb
      have E : Hid (-firstF (1024 - (n % 2048)) = cosF n) := Lib.hid (by unfold cosF fold; rw [if_neg c1, if_pos c2])
      rcases k with ⟨k1, k2⟩ | ⟨k1, k3, k2⟩
      all_goals
        go_enter Try.func29, Try.ntmps29
        go_wp2_with (go_at_call 29; refine (rfirst (1024 - (n % 2048)) _ (by omega) (by omega)).mono ?_; rintro e w' ⟨rfl, rfl⟩)
        go_ret
        exact ⟨retI E.out, rfl⟩
    · by_cases c3 : n % 2048 ≤ 256
      · have s := cosS_bd (n := n % 2048) (by omega) c3
        obtain ⟨s1, s2⟩ := s
        have E : Hid (rnd (cosS (n % 2048)) 4 = cosF n) := Lib.hid (by unfold cosF fold; rw [if_neg c1, if_neg c2]; unfold firstF; rw [if_neg (by omega)])
        rcases k with ⟨k1, k2⟩ | ⟨k1, k3, k2⟩
        all_goals
          go_enter Try.func29, Try.ntmps29
          go_wp2_with (first | (go_at_call 36; refine (rcosine (n % 2048) _ (by omega) (by omega)).mono ?_; rintro e w' ⟨rfl, rfl⟩) | (go_at_call 16; refine (down_in _ _ _ (by omega) (by omega) (by omega) (by omega)).mono ?_; rintro e w' ⟨rfl, rfl⟩))
          go_ret
          exact ⟨retI E.out, rfl⟩
      · have s := sinS_bd (n := 512 - (n % 2048)) (by omega) (by omega)
        obtain ⟨s1, s2⟩ := s
        have E : Hid (rnd (sinS (512 - (n % 2048))) 4 = cosF n) := Lib.hid (by unfold cosF fold; rw [if_neg c1, if_neg c2]; unfold firstF; rw [if_pos (by omega)])
        rcases k with ⟨k1, k2⟩ | ⟨k1, k3, k2⟩
        all_goals
          go_enter Try.func29, Try.ntmps29
          go_wp2_with (first | (go_at_call 37; refine (rsine (512 - (n % 2048)) _ (by omega) (by omega)).mono ?_; rintro e w' ⟨rfl, rfl⟩) | (go_at_call 16; refine (down_in _ _ _ (by omega) (by omega) (by omega) (by omega)).mono ?_; rintro e w' ⟨rfl, rfl⟩))
          go_ret
          exact ⟨retI E.out, rfl⟩

theorem rsin (n : Int) (w : World) :
    Calls Try.prog 21 #[.int .i64 n] w fun e w' => e = .returned (.int .i64 (sinF n)) ∧ w = w' := by
  have b1 : -2048 < Int.tmod n 2048 := by
    rw [Int.tmod_eq_emod]; split <;> omega
  have b2 : Int.tmod n 2048 < 2048 := by
    rw [Int.tmod_eq_emod]; split <;> omega
  have key : ∀ (m : Int), m = Int.tmod n 2048 → (m - n) % 2048 = 0 := by
    intro m hm; rw [Int.tmod_eq_emod] at hm; split at hm <;> omega
  have k := key _ rfl
  clear key
  have E : Hid (cosF (Int.tmod n 2048 - 512) = sinF n) := Lib.hid (by
    have e : fold (Int.tmod n 2048 - 512) = fold (n % 2048 - 512) := by
      generalize Int.tmod n 2048 = m at *
      unfold fold; split <;> split <;> omega
    unfold sinF cosF; rw [e])
  clear k
  go_enter Try.func21, Try.ntmps21
  go_wp2_with (go_at_call 29; refine (rcos _ _).mono ?_; rintro e w' ⟨rfl, rfl⟩)
  go_ret
  exact ⟨retI E.out, rfl⟩
end Go.Proofs.Ytbodpeiemamibaa.Fx

/- Lists of int as they lie in memory, and the comparison of two of them. -/
namespace Go.Proofs.Ytbodpeiemamibaa.Fx
open Go Go.ChangeShapes Go.WideShapes Go.ChangeAt Go.RowKit

/-- A list, as it lies in memory. -/
def Rd (w : World) (v : Value) (zs : List Int) : Prop :=
  (∃ a cap, v = .slice a 0 cap ∧ zs = []) ∨
  ∃ b off cap, v = .slice (some ⟨b, off, none⟩) zs.length cap ∧ b < w.heap.size ∧ zs.length ≤ cap ∧ cap ≤ maxLen ∧ ∀ i, i < zs.length → w.cell? ⟨b, off + i, none⟩ = some (.int .i64 (zs.getD i 0))
theorem Rd.below {w w' : World} {v : Value} {zs : List Int} (h : Rd w v zs) (hb : Below w.heap.size w w') : Rd w' v zs := by
  rcases h with h | ⟨b, off, cap, h1, h2, h3, h4, h5⟩
  · exact .inl h
  · exact .inr ⟨b, off, cap, h1, Nat.lt_of_lt_of_le h2 hb.size, h3, h4, fun i hi => (hb.cell (p := ⟨b, off + i, none⟩) h2).trans (h5 i hi)⟩
theorem rd_row {w : World} {g n : Nat} {f : Nat → Int} {zs : List Int} (h : w.rowIs g 3 n (fun j => .int .i64 (f j))) (hn : zs.length = n) (hm : n ≤ maxLen) (hf : ∀ j, j < n → f j = zs.getD j 0) : Rd w (.slice (some ⟨g, 0, none⟩) n n) zs :=
  .inr ⟨g, 0, n, by rw [hn], h.lt, by omega, hm, fun i hi => by rw [Nat.zero_add, h.cell (by omega), hf i (by omega)]⟩
theorem Rd.shape {w : World} {v : Value} {z : List Int} (h : Rd w v z) : ∃ a c, v = .slice a z.length c := by
  rcases h with ⟨a, cap, rfl, rfl⟩ | ⟨b, off, cap, rfl, _⟩
  · exact ⟨_, _, rfl⟩
  · exact ⟨_, _, rfl⟩
theorem nil_rd (w : World) (a : Option Addr) (c : Nat) : Rd w (.slice a 0 c) [] := .inl ⟨_, _, rfl, rfl⟩

/-- A list of the call's own. -/
def Own (base : Nat) (w : World) (v : Value) (zs : List Int) : Prop := w.ownsRow base 3 1 v zs.length (zs.map (Value.int .i64))
theorem one64 (zs : List Int) : ∀ u ∈ zs.map (Value.int .i64), u.oneCell' = true := by
  intro u hu
  simp only [List.mem_map] at hu
  obtain ⟨x, _, rfl⟩ := hu
  rfl
theorem add_at (b o i : Nat) : (⟨b, o, none⟩ : Addr).add i = ⟨b, o + i, none⟩ := by simp [Addr.add]
theorem Own.rd {w : World} {base : Nat} {v : Value} {zs : List Int} (h : Own base w v zs) : Rd w v zs := by
  have hlt := h.lt
  have hcells := @World.ownsRow.cells _ _ _ _ _ _ _ h
  obtain ⟨hx, ⟨rfl, hn⟩ | ⟨g, cap, cur, rfl, hg, hh, hc, hm, hs, ht⟩⟩ := h
  · exact .inl ⟨none, 0, rfl, by cases zs with | nil => rfl | cons _ _ => simp at hn⟩
  · refine .inr ⟨g, 0, cap, rfl, (hlt g rfl).2, hc, hm, fun i hi => ?_⟩
    have := hcells (g := g) rfl i (.int .i64 (zs.getD i 0)) (by simp [hi])
    rwa [add_at] at this
theorem Own.of_block {base : Nat} {w w' : World} {v : Value} {zs : List Int} (h : Own base w v zs) (hb : ∀ g, base ≤ g → g < w.heap.size → w'.heap[g]? = w.heap[g]?) : Own base w' v zs := by
  have hlt := h.lt
  obtain ⟨hx, h | ⟨g, cap, cur, rfl, hg, hh, hc, hm, hs, ht⟩⟩ := h
  · exact ⟨hx, .inl h⟩
  · exact ⟨hx, .inr ⟨g, cap, cur, rfl, hg, (hb g hg (hlt g rfl).2).trans hh, hc, hm, hs, ht⟩⟩
theorem Own.below {base : Nat} {w w' : World} {v : Value} {zs : List Int} (h : Own base w v zs) (hb : Below w.heap.size w w') : Own base w' v zs := h.of_block fun g _ hl => hb.block g hl
theorem heap_other {w : World} {a b i : Nat} (v : Value) (h : a ≠ b) : (w.setCell ⟨a, i, none⟩ v).heap[b]? = w.heap[b]? := by
  simp only [World.setCell]
  show (w.heap.modify a _)[b]? = w.heap[b]?
  rw [Array.getElem?_modify, if_neg h]
/-- A store below what is the call's own. -/
theorem Own.set {base : Nat} {w : World} {v x : Value} {zs : List Int} {g i : Nat} (h : Own base w v zs) (hg : g < base) : Own base (w.setCell ⟨g, i, none⟩ x) v zs := h.of_block fun k hk _ => heap_other x (by omega)
theorem own_push {base : Nat} {w : World} {v : Value} {a : List Int} {x : Int} (h : w.ownsRow base 3 1 v (a.length + 1) (a.map (Value.int .i64) ++ [Value.int .i64 x])) : Own base w v (a ++ [x]) := by
  unfold Own
  rw [List.length_append, List.map_append]
  exact h
theorem own_nil (w : World) (base : Nat) : Own base w (.slice none 0 0) [] := World.ownsRow_nil w base 3 1
theorem below_grown {W w w' : World} {base : Nat} {v : Value} {zs : List Int} (hb : Below W.heap.size W w) (ho : Own base w v zs) (hle : W.heap.size ≤ base) (hg : w.grownBy w' v.ownBlock) : Below W.heap.size W w' :=
  hb.grown hg hb.size fun k hk => Nat.le_trans hle (ho.lt k hk).1
/-- The first k of a list of numbers. -/
def LL (l : List Nat) (k : Nat) : List Int := (List.range k).map fun j => ((l.getD j 0 : Nat) : Int)
theorem LL_len (l : List Nat) (k : Nat) : (LL l k).length = k := by simp [LL]
theorem LL_succ (l : List Nat) (k : Nat) : LL l (k + 1) = LL l k ++ [((l.getD k 0 : Nat) : Int)] := by simp [LL, List.range_succ]
theorem LL_at {l : List Nat} {k j : Nat} (h : j < k) : ((l.getD j 0 : Nat) : Int) = (LL l k).getD j 0 := by simp [LL, h]

/-- So many values of a function. -/
def mk (n : Nat) (F : Nat → Int) : List Int := (List.range n).map F
theorem mk_len (n : Nat) (F : Nat → Int) : (mk n F).length = n := by simp [mk]
theorem mk_at {n : Nat} {F : Nat → Int} {j : Nat} (h : j < n) : (mk n F).getD j 0 = F j := by simp [mk, h]
theorem mk_succ (n : Nat) (F : Nat → Int) : mk (n + 1) F = mk n F ++ [F n] := by simp [mk, List.range_succ]
theorem mk_congr {n : Nat} {F G : Nat → Int} (h : ∀ j, j < n → F j = G j) : mk n F = mk n G := by
  unfold mk
  exact List.map_congr_left fun _ hj => h _ (List.mem_range.1 hj)
theorem mk_rd {w : World} {g n : Nat} {F : Nat → Int} (h : w.rowIs g 3 n (fun j => .int .i64 (F j))) (hn : n ≤ maxLen) : Rd w (.slice (some ⟨g, 0, none⟩) n n) (mk n F) :=
  rd_row h (mk_len _ _) hn fun _ hj => (mk_at hj).symm
theorem Own.rebase {base b2 : Nat} {w : World} {v : Value} {zs : List Int} (h : Own b2 w v zs) (hb : base ≤ b2) : Own base w v zs := by
  obtain ⟨hx, h | ⟨g, cap, cur, rfl, hg, h2⟩⟩ := h
  · exact ⟨hx, .inl h⟩
  · exact ⟨hx, .inr ⟨g, cap, cur, rfl, Nat.le_trans hb hg, h2⟩⟩
/-- A list's cells, at an address. -/
def RdA (w : World) (A : Option Addr) (zs : List Int) : Prop := ∀ i, i < zs.length → ∃ b off, A = some ⟨b, off, none⟩ ∧ b < w.heap.size ∧ w.cell? ⟨b, off + i, none⟩ = some (.int .i64 (zs.getD i 0))
theorem RdA.below {w w' : World} {A : Option Addr} {zs : List Int} (h : RdA w A zs) (hb : Below w.heap.size w w') : RdA w' A zs := fun i hi => by
  obtain ⟨b, off, e, h1, h2⟩ := h i hi
  exact ⟨b, off, e, Nat.lt_of_lt_of_le h1 hb.size, (hb.cell (p := ⟨b, off + i, none⟩) h1).trans h2⟩
theorem Rd.open {w : World} {v : Value} {zs : List Int} (h : Rd w v zs) : ∃ A cap, v = .slice A zs.length cap ∧ RdA w A zs := by
  rcases h with ⟨a, cap, rfl, rfl⟩ | ⟨b, off, cap, rfl, h2, h3, h4, h5⟩
  · exact ⟨a, cap, rfl, fun i hi => absurd hi (by simp)⟩
  · exact ⟨_, cap, rfl, fun i hi => ⟨b, off, rfl, h2, h5 i hi⟩⟩

theorem drewN_belowL (w : World) : ∀ n, Below w.heap.size w (w.drewN n)
  | 0 => Below.refl _ _
  | n + 1 => (drewN_belowL w n).drew
set_option maxRecDepth 100000 in
/-- Two lists that are the same. -/
theorem same_yes (v v' : Value) (zs : List Int) (w : World) (hl : zs.length ≤ 5000) (h : Rd w v zs) (h' : Rd w v' zs) :
    Calls Try.prog 7 #[v, v'] w fun e w' => e = .returned (.bool true) ∧ Below w.heap.size w w' := by
  rcases h with ⟨a, cap, rfl, rfl⟩ | ⟨b, off, cap, rfl, hb, hcap, hm, hc⟩
  · obtain ⟨a', c', rfl⟩ := h'.shape
    go_enter Try.func7, Try.ntmps7
    go_wp2
    go_loop [5] (fun i => i = .int .i64 0) (fun _ => 0)
    case atStart => exact rfl
    case round =>
      subst hrel
      go_wp2
      go_ret
      exact ⟨rfl, Below.refl _ _⟩
  · rcases h' with ⟨a', c', rfl, rfl⟩ | ⟨b', off', cap', rfl, hb', hcap', hm', hc'⟩
    · go_enter Try.func7, Try.ntmps7
      go_wp2
      go_loop [5] (fun i => i = .int .i64 0) (fun _ => 0)
      case atStart => exact rfl
      case round =>
        subst hrel
        go_wp2
        go_ret
        exact ⟨rfl, Below.refl _ _⟩
    · unfold maxLen at hm hm'
      have HC := Lib.hid hc
      have HC' := Lib.hid hc'
      clear hc hc'
      go_enter Try.func7, Try.ntmps7
      go_wp2
      go_loopw [5] (fun i wr => ∃ k : Nat, k ≤ zs.length ∧ i = .int .i64 k ∧ Below w.heap.size w wr) (fun i _ => zs.length - (intOf i).toNat)
      case atStart => exact ⟨0, by omega, rfl, Below.refl _ _⟩
      case round =>
        obtain ⟨k, hk, rfl, hbel⟩ := hrel
        by_cases hlt : k < zs.length
        · have q1 := (hbel.cell (p := ⟨b, off + k, none⟩) hb).trans (HC.out k hlt)
          have q2 := (hbel.cell (p := ⟨b', off' + k, none⟩) hb').trans (HC'.out k hlt)
          generalize zs.getD k 0 = x at *
          go_wp2
          go_quiet (fail)
          go_wp2
          go_roundw
          case rel => exact ⟨k + 1, by omega, by go_num, hbel.trans ((drewN_belowL wr nq).mono hbel.size)⟩
          case measure => simp [intOf]; omega
        · go_wp2
          go_ret
          exact ⟨rfl, hbel⟩
end Go.Proofs.Ytbodpeiemamibaa.Fx
