/- No line of noise is above MaxLine in size, and the root of the sum of squares is the line of 1 at the step, but for a hundredth, and as much as the root of how many lines there are, and two. NoiseLoud returns true, whatever the seed, the step and how many lines, the memory and the schedule; the variable that the row lists is tied to the program's text. No condition. -/
import Derived.Test.YtanjcbnkkhbkkaaDoorNoPub
import Derived.Test.YtanjcbnkkhbkkaaDoorCards
import Derived.Test.YtanjcbnkkhbkkaaDoorTie
import Derived.WalkKit
import Derived.Below
import Derived.RegionTactic
import Derived.Deep.QuietTactic
import Derived.BigQuiet
import Derived.ChangeAlike
import Derived.Deep.OwnRows
import Derived.ProofKit
import Derived.OpenShut
import Derived.ShutString
import Derived.ChangeOld
import Derived.Deep.DeepHandedRow
import Derived.Lib.LaidTab
import Derived.Lib.Hide
namespace Go.Proofs.YtanjcbnkkhbkkaaDoor.noiseLoud
open Go Go.Ev Go.ChangeShapes Go.WideShapes Go.ChangeAt Go.RowKit Go.Proofs.YtanjcbnkkhbkkaaDoor.Fx Go.Proofs.YtanjcbnkkhbkkaaDoor.Nm Go.Proofs.YtanjcbnkkhbkkaaDoor.No

theorem wfu {s : Int} (h : (Lit.int .u32 s).wf = true) : ∃ n : Nat, s = (n : Int) ∧ n < 4294967296 := by
  simp [Lit.wf] at h
  have e : IntKind.u32.min = 0 := rfl
  have e2 : IntKind.u32.max = 4294967295 := rfl
  exact ⟨s.toNat, by omega, by omega⟩
/-- The lines, in bounds. -/
theorem F_bd {s m : Nat} {st : Int} (h : 0 ≤ st) {j : Nat} (hj : j < m) : -268435455 ≤ nl (nd s m) (na st) (nv s j) ∧ nl (nd s m) (na st) (nv s j) ≤ 268435455 := by
  obtain ⟨a, b⟩ := na_bd h
  have := nl_bd (nd_is s m) (nS_at s m hj) a
  omega

theorem bad (s st m : Int) (w : World) (hq : Qs w) (h : st < 0 ∨ 511 < st ∨ m < 0 ∨ 256 < m) : Calls Tryd.prog 8 #[.int .u32 s, .int .i64 st, .int .i64 m] w fun e w' => e = .returned (.bool true) ∧ Below w.heap.size w w' := by
  have H0 := Lib.hid (fun w (hq : Qs w) => nalive_ok w hq)
  have H3 := Lib.hid (fun w => eband_bad st m h s w)
  have HQ := Lib.hid hq
  have hE : (if st < 0 ∨ 511 < st then (2 : Int) else 4) ≠ 0 := by split <;> omega
  generalize (if st < 0 ∨ 511 < st then (2 : Int) else 4) = U at *
  clear hq
  obtain c | c : st < 0 ∨ ¬ st < 0 := by omega
  · go_enter Tryd.func8, Tryd.ntmps8
    go_wp2_with (first | (go_at_call 28; ((with_reducible refine (H0.out _ HQ.out).mono ?_); rintro e w1 ⟨rfl, hb1⟩)) | (go_at_call 25; ((with_reducible refine (H3.out _).mono ?_); rintro e w' ⟨rfl, rfl⟩)))
    go_ret
    exact ⟨rfl, hb1⟩
  obtain c1 | c1 : 511 < st ∨ ¬ 511 < st := by omega
  · go_enter Tryd.func8, Tryd.ntmps8
    go_wp2_with (first | (go_at_call 28; ((with_reducible refine (H0.out _ HQ.out).mono ?_); rintro e w1 ⟨rfl, hb1⟩)) | (go_at_call 25; ((with_reducible refine (H3.out _).mono ?_); rintro e w' ⟨rfl, rfl⟩)))
    go_ret
    exact ⟨rfl, hb1⟩
  obtain c2 | c2 : m < 0 ∨ ¬ m < 0 := by omega
  · go_enter Tryd.func8, Tryd.ntmps8
    go_wp2_with (first | (go_at_call 28; ((with_reducible refine (H0.out _ HQ.out).mono ?_); rintro e w1 ⟨rfl, hb1⟩)) | (go_at_call 25; ((with_reducible refine (H3.out _).mono ?_); rintro e w' ⟨rfl, rfl⟩)))
    go_ret
    exact ⟨rfl, hb1⟩
  have c3 : 256 < m := by omega
  clear h
  go_enter Tryd.func8, Tryd.ntmps8
  go_wp2_with (first | (go_at_call 28; ((with_reducible refine (H0.out _ HQ.out).mono ?_); rintro e w1 ⟨rfl, hb1⟩)) | (go_at_call 25; ((with_reducible refine (H3.out _).mono ?_); rintro e w' ⟨rfl, rfl⟩)))
  go_ret
  exact ⟨rfl, hb1⟩

/-- The sum as the statement has it. -/
def S2 (F : Nat → Int) (k : Nat) : Int := sm (fun i => F i * F i / 256) k
theorem sq28 {x : Int} (h : -268435455 ≤ x ∧ x ≤ 268435455) : 0 ≤ x * x ∧ x * x ≤ 72057594037927936 := by
  have h1 : 0 ≤ (268435455 - x) * (268435455 + x) := Int.mul_nonneg (by omega) (by omega)
  have h2 := sq_nn x
  constructor
  · exact h2
  · grind
theorem S2_bd {F : Nat → Int} {m : Nat} (h : ∀ j, j < m → -268435455 ≤ F j ∧ F j ≤ 268435455) : ∀ k : Nat, k ≤ m → 0 ≤ S2 F k ∧ S2 F k ≤ k * 281474976710656
  | 0, _ => by simp [S2, sm]
  | k + 1, hk => by
    have a := S2_bd h k (by omega)
    have b := sq28 (h k (by omega))
    have e : S2 F (k + 1) = S2 F k + F k * F k / 256 := rfl
    rw [e]
    generalize F k * F k = p at *
    omega
theorem S2_le {F : Nat → Int} {m k : Nat} (h : ∀ j, j < m → -268435455 ≤ F j ∧ F j ≤ 268435455) (hk : k ≤ m) (hm : m ≤ 256) : 0 ≤ S2 F k ∧ S2 F k ≤ 72057594037927936 := by
  have := S2_bd h k hk
  omega
theorem S2_sum {F : Nat → Int} : ∀ k : Nat, 256 * S2 F k ≤ sm (fun i => F i * F i) k ∧ sm (fun i => F i * F i) k ≤ 256 * S2 F k + 255 * k
  | 0 => by simp [S2, sm]
  | k + 1 => by
    have a := S2_sum (F := F) k
    have e : S2 F (k + 1) = S2 F k + F k * F k / 256 := rfl
    rw [e]
    simp only [sm]
    generalize F k * F k = p at *
    omega
theorem far_bd {a R : Int} (a0 : 0 ≤ a) (a1 : a ≤ 268435455) (r0 : 0 ≤ R) (r1 : R ≤ 16) : 2 ≤ a / 16 + a / 1600 + R + 2 ∧ a / 16 + a / 1600 + R + 2 ≤ 17000000 ∧ -17000000 ≤ a / 16 - a / 1600 - R - 2 ∧ a / 16 - a / 1600 - R - 2 ≤ 17000000 := by omega
theorem sq17 {x : Int} (h0 : -17000000 ≤ x) (h1 : x ≤ 17000000) : 0 ≤ x * x ∧ x * x ≤ 289000000000000 := by
  have h1 : 0 ≤ (17000000 - x) * (17000000 + x) := Int.mul_nonneg (by omega) (by omega)
  have h2 := sq_nn x
  constructor
  · exact h2
  · grind
/-- What the statement asks. -/
theorem asks {s m : Nat} {st R : Int} (h : 0 ≤ st) (hr : 0 ≤ R) (hm : (m : Int) ≤ R * R) (hd : nd s m ≠ 0) :
    S2 (fun j => nl (nd s m) (na st) (nv s j)) m ≤ (na st / 16 + na st / 1600 + R + 2) * (na st / 16 + na st / 1600 + R + 2) ∧
    (0 ≤ na st / 16 - na st / 1600 - R - 2 → (na st / 16 - na st / 1600 - R - 2) * (na st / 16 - na st / 1600 - R - 2) ≤ S2 (fun j => nl (nd s m) (na st) (nv s j)) m + m) := by
  obtain ⟨l1, l2⟩ := loud (nd_is s m) (na_bd h).1 hr hm hd
  obtain ⟨b1, b2⟩ := S2_sum (F := fun j => nl (nd s m) (na st) (nv s j)) m
  constructor
  · omega
  · intro hn
    have := l2 hn
    omega
set_option maxRecDepth 100000 in
set_option maxHeartbeats 8000000 in
theorem good_zlo (s m : Nat) (st : Int) (w : World) (hs : s < 4294967296) (hm : m ≤ 256) (st0 : 0 ≤ st) (st1 : st ≤ 511) (hst : st ≤ 255) (hd : nd s m = 0) (hq : Qs w) : Calls Tryd.prog 8 #[.int .u32 s, .int .i64 st, .int .i64 m] w fun e w' => e = .returned (.bool true) ∧ Below w.heap.size w w' := by
  have H0 := Lib.hid (fun w (hq : Qs w) => nalive_ok w hq)
  have HQ := Lib.hid hq
  obtain ⟨a0, a1⟩ := na_bd st0
  have HL := Lib.hid (fun w w1 (k : Kp w w1) => na_line (st := st) st0 k)
  rw [show min st 255 = st by omega] at HL
  have FB : ∀ j, j < m → -268435455 ≤ nl (nd s m) (na st) (nv s j) ∧ nl (nd s m) (na st) (nv s j) ≤ 268435455 := fun j hj => F_bd st0 hj
  have HZ : Hid (∀ v, nl (nd s m) (na st) v = 0) := Lib.hid fun v => by unfold nl; rw [if_pos hd]
  have H3 : Hid (∀ w, Qs w → Calls Tryd.prog 25 #[.int .u32 s, .int .i64 st, .int .i64 m] w fun e w' => ∃ g, e = .returned (.tuple #[.slice (some ⟨g, 0, none⟩) m m, .int .i64 0]) ∧ w.heap.size ≤ g ∧ w'.rowIs g 3 m (fun j => .int .i64 (nl (nd s m) (na st) (nv s j))) ∧ Below w.heap.size w w') := Lib.hid (fun w hq => band_ok s m st w hs hm st0 st1 hq)
  clear hq hd hs
  generalize na st = a at *
  generalize nd s m = d at *
  have FB' := Lib.hid FB
  clear FB
  go_enter Tryd.func8, Tryd.ntmps8
  go_wp2_with (first | (go_at_call 28; ((with_reducible refine (H0.out _ HQ.out).mono ?_); rintro e w1 ⟨rfl, hb1⟩; have B1 := Lib.hid hb1; have Q1 := Lib.hid (HQ.out.below hb1); clear hb1)) | (go_at_call 25; ((with_reducible refine (H3.out _ Q1.out).mono ?_); rintro e w3 ⟨g, rfl, hg, hr, hb3⟩; have B3 := Lib.hid (belowT B1.out hb3); have Q3 := Lib.hid (Q1.out.below hb3); have R3 := Lib.hid hr; clear hg hr hb3)) | (go_at_call 17; ((with_reducible refine (HL.out w3 _ (Kp.refl Q3.out)).mono ?_); rintro e w4 ⟨rfl, hk4⟩; have B4 := Lib.hid (belowT B3.out hk4.2); have RB := Lib.hid (R3.out.of_block (hk4.2.block _ R3.out.lt)); clear hk4)))
  go_loopw [12, 13, 14] (fun t o i wr => ∃ k : Nat, k ≤ m ∧ i = .int .i64 k ∧ t = .int .i64 0 ∧ o = .bool false ∧ Hid (Below w4.heap.size w4 wr)) (fun _ _ i _ => m - (intOf i).toNat)
  case atStart => exact ⟨0, by omega, rfl, rfl, rfl, Lib.hid (Below.refl _ _)⟩
  case round =>
    obtain ⟨k, hk, rfl, rfl, rfl, hB⟩ := hrel
    by_cases hlt : k < m
    · have c := (RB.out.of_block (hB.out.block _ RB.out.lt)).cell hlt
      rw [HZ.out] at c
      go_wp2
      go_quiet (fail)
      go_wp2
      go_roundw
      case rel => exact ⟨k + 1, by omega, by go_num, rfl, rfl, Lib.hid (belowT hB.out (drewN_below _ _))⟩
      case measure => simp [intOf]; omega
    · have hend : k = m := by omega
      subst hend
      go_wp2
      go_loop [15] (fun i => ∃ R : Int, 0 ≤ R ∧ R ≤ 16 ∧ i = .int .i64 R) (fun i => 17 - (intOf i).toNat)
      case atStart => exact ⟨0, by omega, by omega, rfl⟩
      case round =>
        obtain ⟨R, r0, r1, rfl⟩ := hrel
        have hsq : R * R ≤ 256 ∧ 0 ≤ R * R ∧ (R = 16 → R * R = 256) := by
          have h1 : R * R ≤ 16 * 16 := Int.mul_le_mul r1 r1 r0 (by omega)
          exact ⟨by omega, Int.mul_nonneg r0 r0, fun h => by subst h; rfl⟩
        by_cases hlr : R * R < k
        · have hr16 : R < 16 := by have := hsq.2.2; omega
          obtain ⟨q0, q1, _⟩ := hsq
          generalize hRR : R * R = RR at *
          go_wp2
          go_round
          case rel => exact ⟨R + 1, by omega, by omega, rfl⟩
          case measure => simp [intOf]; omega
        · obtain ⟨f0, f1, f2, f3⟩ := far_bd a0 a1 r0 r1
          obtain ⟨q0, q1, _⟩ := hsq
          generalize hRR : R * R = RR at *
          have y0 : Int.tdiv a 16 = a / 16 := Int.tdiv_eq_ediv_of_nonneg a0
          have y1 : Int.tdiv a 1600 = a / 1600 := Int.tdiv_eq_ediv_of_nonneg a0
          have s1 := sq17 (x := a / 16 + a / 1600 + R + 2) (by omega) f1
          have s2 := sq17 (x := a / 16 - a / 1600 - R - 2) f2 f3
          obtain ⟨s1a, s1b⟩ := s1
          obtain ⟨s2a, s2b⟩ := s2
          generalize hP : a / 16 = p at *
          generalize hQ : a / 1600 = q at *
          have pb : 0 ≤ p ∧ p ≤ 16777215 := by omega
          have qb : 0 ≤ q ∧ q ≤ 16777215 := by omega
          obtain ⟨pb0, pb1⟩ := pb
          obtain ⟨qb0, qb1⟩ := qb
          clear hP hQ
          go_wp2
          all_goals
            go_ret
            exact ⟨rfl, belowT B4.out hB.out⟩

set_option maxRecDepth 100000 in
set_option maxHeartbeats 8000000 in
theorem good_nlo (s m : Nat) (st : Int) (w : World) (hs : s < 4294967296) (hm : m ≤ 256) (st0 : 0 ≤ st) (st1 : st ≤ 511) (hst : st ≤ 255) (hd : nd s m ≠ 0) (hq : Qs w) : Calls Tryd.prog 8 #[.int .u32 s, .int .i64 st, .int .i64 m] w fun e w' => e = .returned (.bool true) ∧ Below w.heap.size w w' := by
  have H0 := Lib.hid (fun w (hq : Qs w) => nalive_ok w hq)
  have HQ := Lib.hid hq
  obtain ⟨a0, a1⟩ := na_bd st0
  have HL := Lib.hid (fun w w1 (k : Kp w w1) => na_line (st := st) st0 k)
  rw [show min st 255 = st by omega] at HL
  have FB : ∀ j, j < m → -268435455 ≤ nl (nd s m) (na st) (nv s j) ∧ nl (nd s m) (na st) (nv s j) ≤ 268435455 := fun j hj => F_bd st0 hj
  have HA : Hid (∀ R, 0 ≤ R → (m : Int) ≤ R * R → _ ∧ _) := Lib.hid fun R hr hm => asks (s := s) (m := m) (st := st) (R := R) st0 hr hm hd
  have HS : Hid (∀ k, k ≤ m → 0 ≤ S2 (fun j => nl (nd s m) (na st) (nv s j)) k ∧ S2 (fun j => nl (nd s m) (na st) (nv s j)) k ≤ 72057594037927936) := Lib.hid fun k hk => S2_le (fun j hj => FB j (by omega)) hk hm
  have H3 : Hid (∀ w, Qs w → Calls Tryd.prog 25 #[.int .u32 s, .int .i64 st, .int .i64 m] w fun e w' => ∃ g, e = .returned (.tuple #[.slice (some ⟨g, 0, none⟩) m m, .int .i64 0]) ∧ w.heap.size ≤ g ∧ w'.rowIs g 3 m (fun j => .int .i64 (nl (nd s m) (na st) (nv s j))) ∧ Below w.heap.size w w') := Lib.hid (fun w hq => band_ok s m st w hs hm st0 st1 hq)
  clear hq hd hs
  generalize na st = a at *
  generalize nd s m = d at *
  have FB' := Lib.hid FB
  clear FB
  go_enter Tryd.func8, Tryd.ntmps8
  go_wp2_with (first | (go_at_call 28; ((with_reducible refine (H0.out _ HQ.out).mono ?_); rintro e w1 ⟨rfl, hb1⟩; have B1 := Lib.hid hb1; have Q1 := Lib.hid (HQ.out.below hb1); clear hb1)) | (go_at_call 25; ((with_reducible refine (H3.out _ Q1.out).mono ?_); rintro e w3 ⟨g, rfl, hg, hr, hb3⟩; have B3 := Lib.hid (belowT B1.out hb3); have Q3 := Lib.hid (Q1.out.below hb3); have R3 := Lib.hid hr; clear hg hr hb3)) | (go_at_call 17; ((with_reducible refine (HL.out w3 _ (Kp.refl Q3.out)).mono ?_); rintro e w4 ⟨rfl, hk4⟩; have B4 := Lib.hid (belowT B3.out hk4.2); have RB := Lib.hid (R3.out.of_block (hk4.2.block _ R3.out.lt)); clear hk4)))
  go_loopw [12, 13, 14] (fun t o i wr => ∃ k : Nat, k ≤ m ∧ i = .int .i64 k ∧ t = .int .i64 (S2 (fun j => nl d a (nv s j)) k) ∧ (∃ B : Bool, o = .bool B) ∧ Hid (Below w4.heap.size w4 wr)) (fun _ _ i _ => m - (intOf i).toNat)
  case atStart => exact ⟨0, by omega, rfl, rfl, ⟨_, rfl⟩, Lib.hid (Below.refl _ _)⟩
  case round =>
    obtain ⟨k, hk, rfl, rfl, ⟨B, rfl⟩, hB⟩ := hrel
    by_cases hlt : k < m
    · have c := (RB.out.of_block (hB.out.block _ RB.out.lt)).cell hlt
      have hv := FB'.out k hlt
      have hp := sq28 hv
      have hS := HS.out k (by omega)
      have hS' := HS.out (k + 1) (by omega)
      have hSe : S2 (fun j => nl d a (nv s j)) k + nl d a (nv s k) * nl d a (nv s k) / 256 = S2 (fun j => nl d a (nv s j)) (k + 1) := rfl
      have HSe := Lib.hid hSe
      clear hSe
      obtain ⟨hv0, hv1⟩ := hv
      obtain ⟨hS0, hS1⟩ := hS
      generalize S2 (fun j => nl d a (nv s j)) k = S at *
      generalize nl d a (nv s k) = X at *
      obtain ⟨p, hpp⟩ : ∃ p, X * X = p := ⟨_, rfl⟩
      rw [hpp] at hp HSe
      obtain ⟨p0, p1⟩ := hp
      have z1 : IntKind.i64.wrap (X * X) = p := by rw [hpp]; exact i64_in (by omega) (by omega)
      have z3 : Int.tdiv p 256 = p / 256 := Int.tdiv_eq_ediv_of_nonneg p0
      obtain ⟨q, hqq⟩ : ∃ q, p / 256 = q := ⟨_, rfl⟩
      have hq2 : 0 ≤ q ∧ q ≤ 281474976710656 := by omega
      obtain ⟨hq0, hq1⟩ := hq2
      rw [hqq] at HSe
      have z4 : Int.tdiv p 256 = q := by rw [z3]; exact hqq
      have z5 : IntKind.i64.wrap q = q := i64_in (by omega) (by omega)
      have z2 : IntKind.i64.wrap (S + q) = S + q := i64_in (by omega) (by omega)
      clear z3 hS'
      cases B
      · go_wp2
        go_quiet (fail)
        go_wp2
        go_roundw
        case rel => exact ⟨k + 1, by omega, by go_num, by rw [HSe.out], ⟨_, rfl⟩, Lib.hid (belowT hB.out (drewN_below _ _))⟩
        case measure => simp [intOf]; omega
      · go_wp2
        go_quiet (fail)
        go_wp2
        go_roundw
        case rel => exact ⟨k + 1, by omega, by go_num, by rw [HSe.out], ⟨_, rfl⟩, Lib.hid (belowT hB.out (drewN_below _ _))⟩
        case measure => simp [intOf]; omega
    · have hend : k = m := by omega
      subst hend
      obtain ⟨hT0, hT1⟩ := HS.out k (Nat.le_refl _)
      cases B
      · go_wp2
        go_loop [15] (fun i => ∃ R : Int, 0 ≤ R ∧ R ≤ 16 ∧ i = .int .i64 R) (fun i => 17 - (intOf i).toNat)
        case atStart => exact ⟨0, by omega, by omega, rfl⟩
        case round =>
          obtain ⟨R, r0, r1, rfl⟩ := hrel
          have hsq : R * R ≤ 256 ∧ 0 ≤ R * R ∧ (R = 16 → R * R = 256) := by
            have h1 : R * R ≤ 16 * 16 := Int.mul_le_mul r1 r1 r0 (by omega)
            exact ⟨by omega, Int.mul_nonneg r0 r0, fun h => by subst h; rfl⟩
          by_cases hlr : R * R < k
          · have hr16 : R < 16 := by have := hsq.2.2; omega
            obtain ⟨q0, q1, _⟩ := hsq
            generalize hRR : R * R = RR at *
            go_wp2
            go_round
            case rel => exact ⟨R + 1, by omega, by omega, rfl⟩
            case measure => simp [intOf]; omega
          · obtain ⟨f0, f1, f2, f3⟩ := far_bd a0 a1 r0 r1
            obtain ⟨q0, q1, _⟩ := hsq
            obtain ⟨u1, u2⟩ := HA.out R r0 (by omega)
            generalize hRR : R * R = RR at *
            have y0 : Int.tdiv a 16 = a / 16 := Int.tdiv_eq_ediv_of_nonneg a0
            have y1 : Int.tdiv a 1600 = a / 1600 := Int.tdiv_eq_ediv_of_nonneg a0
            have s1 := sq17 (x := a / 16 + a / 1600 + R + 2) (by omega) f1
            have s2 := sq17 (x := a / 16 - a / 1600 - R - 2) f2 f3
            obtain ⟨s1a, s1b⟩ := s1
            obtain ⟨s2a, s2b⟩ := s2
            generalize S2 (fun j => nl d a (nv s j)) k = S at *
            generalize hP : a / 16 = p at *
            generalize hQ : a / 1600 = q at *
            have pb : 0 ≤ p ∧ p ≤ 16777215 := by omega
            have qb : 0 ≤ q ∧ q ≤ 16777215 := by omega
            obtain ⟨pb0, pb1⟩ := pb
            obtain ⟨qb0, qb1⟩ := qb
            clear hP hQ
            by_cases hn : p - q - R - 2 < 0
            · clear u2
              go_wp2
              all_goals
                go_ret
                exact ⟨rfl, belowT B4.out hB.out⟩
            · have u3 := u2 (by omega)
              clear u2
              go_wp2
              all_goals
                go_ret
                first | exact ⟨rfl, belowT B4.out hB.out⟩ | exact ⟨retB (decide_eq_true (by omega)), belowT B4.out hB.out⟩
      · go_wp2
        go_loop [15] (fun i => ∃ R : Int, 0 ≤ R ∧ R ≤ 16 ∧ i = .int .i64 R) (fun i => 17 - (intOf i).toNat)
        case atStart => exact ⟨0, by omega, by omega, rfl⟩
        case round =>
          obtain ⟨R, r0, r1, rfl⟩ := hrel
          have hsq : R * R ≤ 256 ∧ 0 ≤ R * R ∧ (R = 16 → R * R = 256) := by
            have h1 : R * R ≤ 16 * 16 := Int.mul_le_mul r1 r1 r0 (by omega)
            exact ⟨by omega, Int.mul_nonneg r0 r0, fun h => by subst h; rfl⟩
          by_cases hlr : R * R < k
          · have hr16 : R < 16 := by have := hsq.2.2; omega
            obtain ⟨q0, q1, _⟩ := hsq
            generalize hRR : R * R = RR at *
            go_wp2
            go_round
            case rel => exact ⟨R + 1, by omega, by omega, rfl⟩
            case measure => simp [intOf]; omega
          · obtain ⟨f0, f1, f2, f3⟩ := far_bd a0 a1 r0 r1
            obtain ⟨q0, q1, _⟩ := hsq
            obtain ⟨u1, u2⟩ := HA.out R r0 (by omega)
            generalize hRR : R * R = RR at *
            have y0 : Int.tdiv a 16 = a / 16 := Int.tdiv_eq_ediv_of_nonneg a0
            have y1 : Int.tdiv a 1600 = a / 1600 := Int.tdiv_eq_ediv_of_nonneg a0
            have s1 := sq17 (x := a / 16 + a / 1600 + R + 2) (by omega) f1
            have s2 := sq17 (x := a / 16 - a / 1600 - R - 2) f2 f3
            obtain ⟨s1a, s1b⟩ := s1
            obtain ⟨s2a, s2b⟩ := s2
            generalize S2 (fun j => nl d a (nv s j)) k = S at *
            generalize hP : a / 16 = p at *
            generalize hQ : a / 1600 = q at *
            have pb : 0 ≤ p ∧ p ≤ 16777215 := by omega
            have qb : 0 ≤ q ∧ q ≤ 16777215 := by omega
            obtain ⟨pb0, pb1⟩ := pb
            obtain ⟨qb0, qb1⟩ := qb
            clear hP hQ
            by_cases hn : p - q - R - 2 < 0
            · clear u2
              go_wp2
              all_goals
                go_ret
                exact ⟨rfl, belowT B4.out hB.out⟩
            · have u3 := u2 (by omega)
              clear u2
              go_wp2
              all_goals
                go_ret
                first | exact ⟨rfl, belowT B4.out hB.out⟩ | exact ⟨retB (decide_eq_true (by omega)), belowT B4.out hB.out⟩

set_option maxRecDepth 100000 in
set_option maxHeartbeats 8000000 in
theorem good_zhi (s m : Nat) (st : Int) (w : World) (hs : s < 4294967296) (hm : m ≤ 256) (st0 : 0 ≤ st) (st1 : st ≤ 511) (hst : 255 < st) (hd : nd s m = 0) (hq : Qs w) : Calls Tryd.prog 8 #[.int .u32 s, .int .i64 st, .int .i64 m] w fun e w' => e = .returned (.bool true) ∧ Below w.heap.size w w' := by
  have H0 := Lib.hid (fun w (hq : Qs w) => nalive_ok w hq)
  have HQ := Lib.hid hq
  obtain ⟨a0, a1⟩ := na_bd st0
  have HL := Lib.hid (fun w w1 (k : Kp w w1) => na_line (st := st) st0 k)
  rw [show min st 255 = 255 by omega] at HL
  have FB : ∀ j, j < m → -268435455 ≤ nl (nd s m) (na st) (nv s j) ∧ nl (nd s m) (na st) (nv s j) ≤ 268435455 := fun j hj => F_bd st0 hj
  have HZ : Hid (∀ v, nl (nd s m) (na st) v = 0) := Lib.hid fun v => by unfold nl; rw [if_pos hd]
  have H3 : Hid (∀ w, Qs w → Calls Tryd.prog 25 #[.int .u32 s, .int .i64 st, .int .i64 m] w fun e w' => ∃ g, e = .returned (.tuple #[.slice (some ⟨g, 0, none⟩) m m, .int .i64 0]) ∧ w.heap.size ≤ g ∧ w'.rowIs g 3 m (fun j => .int .i64 (nl (nd s m) (na st) (nv s j))) ∧ Below w.heap.size w w') := Lib.hid (fun w hq => band_ok s m st w hs hm st0 st1 hq)
  clear hq hd hs
  generalize na st = a at *
  generalize nd s m = d at *
  have FB' := Lib.hid FB
  clear FB
  go_enter Tryd.func8, Tryd.ntmps8
  go_wp2_with (first | (go_at_call 28; ((with_reducible refine (H0.out _ HQ.out).mono ?_); rintro e w1 ⟨rfl, hb1⟩; have B1 := Lib.hid hb1; have Q1 := Lib.hid (HQ.out.below hb1); clear hb1)) | (go_at_call 25; ((with_reducible refine (H3.out _ Q1.out).mono ?_); rintro e w3 ⟨g, rfl, hg, hr, hb3⟩; have B3 := Lib.hid (belowT B1.out hb3); have Q3 := Lib.hid (Q1.out.below hb3); have R3 := Lib.hid hr; clear hg hr hb3)) | (go_at_call 17; ((with_reducible refine (HL.out w3 _ (Kp.refl Q3.out)).mono ?_); rintro e w4 ⟨rfl, hk4⟩; have B4 := Lib.hid (belowT B3.out hk4.2); have RB := Lib.hid (R3.out.of_block (hk4.2.block _ R3.out.lt)); clear hk4)))
  go_loopw [12, 13, 14] (fun t o i wr => ∃ k : Nat, k ≤ m ∧ i = .int .i64 k ∧ t = .int .i64 0 ∧ o = .bool false ∧ Hid (Below w4.heap.size w4 wr)) (fun _ _ i _ => m - (intOf i).toNat)
  case atStart => exact ⟨0, by omega, rfl, rfl, rfl, Lib.hid (Below.refl _ _)⟩
  case round =>
    obtain ⟨k, hk, rfl, rfl, rfl, hB⟩ := hrel
    by_cases hlt : k < m
    · have c := (RB.out.of_block (hB.out.block _ RB.out.lt)).cell hlt
      rw [HZ.out] at c
      go_wp2
      go_quiet (fail)
      go_wp2
      go_roundw
      case rel => exact ⟨k + 1, by omega, by go_num, rfl, rfl, Lib.hid (belowT hB.out (drewN_below _ _))⟩
      case measure => simp [intOf]; omega
    · have hend : k = m := by omega
      subst hend
      go_wp2
      go_loop [15] (fun i => ∃ R : Int, 0 ≤ R ∧ R ≤ 16 ∧ i = .int .i64 R) (fun i => 17 - (intOf i).toNat)
      case atStart => exact ⟨0, by omega, by omega, rfl⟩
      case round =>
        obtain ⟨R, r0, r1, rfl⟩ := hrel
        have hsq : R * R ≤ 256 ∧ 0 ≤ R * R ∧ (R = 16 → R * R = 256) := by
          have h1 : R * R ≤ 16 * 16 := Int.mul_le_mul r1 r1 r0 (by omega)
          exact ⟨by omega, Int.mul_nonneg r0 r0, fun h => by subst h; rfl⟩
        by_cases hlr : R * R < k
        · have hr16 : R < 16 := by have := hsq.2.2; omega
          obtain ⟨q0, q1, _⟩ := hsq
          generalize hRR : R * R = RR at *
          go_wp2
          go_round
          case rel => exact ⟨R + 1, by omega, by omega, rfl⟩
          case measure => simp [intOf]; omega
        · obtain ⟨f0, f1, f2, f3⟩ := far_bd a0 a1 r0 r1
          obtain ⟨q0, q1, _⟩ := hsq
          generalize hRR : R * R = RR at *
          have y0 : Int.tdiv a 16 = a / 16 := Int.tdiv_eq_ediv_of_nonneg a0
          have y1 : Int.tdiv a 1600 = a / 1600 := Int.tdiv_eq_ediv_of_nonneg a0
          have s1 := sq17 (x := a / 16 + a / 1600 + R + 2) (by omega) f1
          have s2 := sq17 (x := a / 16 - a / 1600 - R - 2) f2 f3
          obtain ⟨s1a, s1b⟩ := s1
          obtain ⟨s2a, s2b⟩ := s2
          generalize hP : a / 16 = p at *
          generalize hQ : a / 1600 = q at *
          have pb : 0 ≤ p ∧ p ≤ 16777215 := by omega
          have qb : 0 ≤ q ∧ q ≤ 16777215 := by omega
          obtain ⟨pb0, pb1⟩ := pb
          obtain ⟨qb0, qb1⟩ := qb
          clear hP hQ
          go_wp2
          all_goals
            go_ret
            exact ⟨rfl, belowT B4.out hB.out⟩

set_option maxRecDepth 100000 in
set_option maxHeartbeats 8000000 in
theorem good_nhi (s m : Nat) (st : Int) (w : World) (hs : s < 4294967296) (hm : m ≤ 256) (st0 : 0 ≤ st) (st1 : st ≤ 511) (hst : 255 < st) (hd : nd s m ≠ 0) (hq : Qs w) : Calls Tryd.prog 8 #[.int .u32 s, .int .i64 st, .int .i64 m] w fun e w' => e = .returned (.bool true) ∧ Below w.heap.size w w' := by
  have H0 := Lib.hid (fun w (hq : Qs w) => nalive_ok w hq)
  have HQ := Lib.hid hq
  obtain ⟨a0, a1⟩ := na_bd st0
  have HL := Lib.hid (fun w w1 (k : Kp w w1) => na_line (st := st) st0 k)
  rw [show min st 255 = 255 by omega] at HL
  have FB : ∀ j, j < m → -268435455 ≤ nl (nd s m) (na st) (nv s j) ∧ nl (nd s m) (na st) (nv s j) ≤ 268435455 := fun j hj => F_bd st0 hj
  have HA : Hid (∀ R, 0 ≤ R → (m : Int) ≤ R * R → _ ∧ _) := Lib.hid fun R hr hm => asks (s := s) (m := m) (st := st) (R := R) st0 hr hm hd
  have HS : Hid (∀ k, k ≤ m → 0 ≤ S2 (fun j => nl (nd s m) (na st) (nv s j)) k ∧ S2 (fun j => nl (nd s m) (na st) (nv s j)) k ≤ 72057594037927936) := Lib.hid fun k hk => S2_le (fun j hj => FB j (by omega)) hk hm
  have H3 : Hid (∀ w, Qs w → Calls Tryd.prog 25 #[.int .u32 s, .int .i64 st, .int .i64 m] w fun e w' => ∃ g, e = .returned (.tuple #[.slice (some ⟨g, 0, none⟩) m m, .int .i64 0]) ∧ w.heap.size ≤ g ∧ w'.rowIs g 3 m (fun j => .int .i64 (nl (nd s m) (na st) (nv s j))) ∧ Below w.heap.size w w') := Lib.hid (fun w hq => band_ok s m st w hs hm st0 st1 hq)
  clear hq hd hs
  generalize na st = a at *
  generalize nd s m = d at *
  have FB' := Lib.hid FB
  clear FB
  go_enter Tryd.func8, Tryd.ntmps8
  go_wp2_with (first | (go_at_call 28; ((with_reducible refine (H0.out _ HQ.out).mono ?_); rintro e w1 ⟨rfl, hb1⟩; have B1 := Lib.hid hb1; have Q1 := Lib.hid (HQ.out.below hb1); clear hb1)) | (go_at_call 25; ((with_reducible refine (H3.out _ Q1.out).mono ?_); rintro e w3 ⟨g, rfl, hg, hr, hb3⟩; have B3 := Lib.hid (belowT B1.out hb3); have Q3 := Lib.hid (Q1.out.below hb3); have R3 := Lib.hid hr; clear hg hr hb3)) | (go_at_call 17; ((with_reducible refine (HL.out w3 _ (Kp.refl Q3.out)).mono ?_); rintro e w4 ⟨rfl, hk4⟩; have B4 := Lib.hid (belowT B3.out hk4.2); have RB := Lib.hid (R3.out.of_block (hk4.2.block _ R3.out.lt)); clear hk4)))
  go_loopw [12, 13, 14] (fun t o i wr => ∃ k : Nat, k ≤ m ∧ i = .int .i64 k ∧ t = .int .i64 (S2 (fun j => nl d a (nv s j)) k) ∧ (∃ B : Bool, o = .bool B) ∧ Hid (Below w4.heap.size w4 wr)) (fun _ _ i _ => m - (intOf i).toNat)
  case atStart => exact ⟨0, by omega, rfl, rfl, ⟨_, rfl⟩, Lib.hid (Below.refl _ _)⟩
  case round =>
    obtain ⟨k, hk, rfl, rfl, ⟨B, rfl⟩, hB⟩ := hrel
    by_cases hlt : k < m
    · have c := (RB.out.of_block (hB.out.block _ RB.out.lt)).cell hlt
      have hv := FB'.out k hlt
      have hp := sq28 hv
      have hS := HS.out k (by omega)
      have hS' := HS.out (k + 1) (by omega)
      have hSe : S2 (fun j => nl d a (nv s j)) k + nl d a (nv s k) * nl d a (nv s k) / 256 = S2 (fun j => nl d a (nv s j)) (k + 1) := rfl
      have HSe := Lib.hid hSe
      clear hSe
      obtain ⟨hv0, hv1⟩ := hv
      obtain ⟨hS0, hS1⟩ := hS
      generalize S2 (fun j => nl d a (nv s j)) k = S at *
      generalize nl d a (nv s k) = X at *
      obtain ⟨p, hpp⟩ : ∃ p, X * X = p := ⟨_, rfl⟩
      rw [hpp] at hp HSe
      obtain ⟨p0, p1⟩ := hp
      have z1 : IntKind.i64.wrap (X * X) = p := by rw [hpp]; exact i64_in (by omega) (by omega)
      have z3 : Int.tdiv p 256 = p / 256 := Int.tdiv_eq_ediv_of_nonneg p0
      obtain ⟨q, hqq⟩ : ∃ q, p / 256 = q := ⟨_, rfl⟩
      have hq2 : 0 ≤ q ∧ q ≤ 281474976710656 := by omega
      obtain ⟨hq0, hq1⟩ := hq2
      rw [hqq] at HSe
      have z4 : Int.tdiv p 256 = q := by rw [z3]; exact hqq
      have z5 : IntKind.i64.wrap q = q := i64_in (by omega) (by omega)
      have z2 : IntKind.i64.wrap (S + q) = S + q := i64_in (by omega) (by omega)
      clear z3 hS'
      cases B
      · go_wp2
        go_quiet (fail)
        go_wp2
        go_roundw
        case rel => exact ⟨k + 1, by omega, by go_num, by rw [HSe.out], ⟨_, rfl⟩, Lib.hid (belowT hB.out (drewN_below _ _))⟩
        case measure => simp [intOf]; omega
      · go_wp2
        go_quiet (fail)
        go_wp2
        go_roundw
        case rel => exact ⟨k + 1, by omega, by go_num, by rw [HSe.out], ⟨_, rfl⟩, Lib.hid (belowT hB.out (drewN_below _ _))⟩
        case measure => simp [intOf]; omega
    · have hend : k = m := by omega
      subst hend
      obtain ⟨hT0, hT1⟩ := HS.out k (Nat.le_refl _)
      cases B
      · go_wp2
        go_loop [15] (fun i => ∃ R : Int, 0 ≤ R ∧ R ≤ 16 ∧ i = .int .i64 R) (fun i => 17 - (intOf i).toNat)
        case atStart => exact ⟨0, by omega, by omega, rfl⟩
        case round =>
          obtain ⟨R, r0, r1, rfl⟩ := hrel
          have hsq : R * R ≤ 256 ∧ 0 ≤ R * R ∧ (R = 16 → R * R = 256) := by
            have h1 : R * R ≤ 16 * 16 := Int.mul_le_mul r1 r1 r0 (by omega)
            exact ⟨by omega, Int.mul_nonneg r0 r0, fun h => by subst h; rfl⟩
          by_cases hlr : R * R < k
          · have hr16 : R < 16 := by have := hsq.2.2; omega
            obtain ⟨q0, q1, _⟩ := hsq
            generalize hRR : R * R = RR at *
            go_wp2
            go_round
            case rel => exact ⟨R + 1, by omega, by omega, rfl⟩
            case measure => simp [intOf]; omega
          · obtain ⟨f0, f1, f2, f3⟩ := far_bd a0 a1 r0 r1
            obtain ⟨q0, q1, _⟩ := hsq
            obtain ⟨u1, u2⟩ := HA.out R r0 (by omega)
            generalize hRR : R * R = RR at *
            have y0 : Int.tdiv a 16 = a / 16 := Int.tdiv_eq_ediv_of_nonneg a0
            have y1 : Int.tdiv a 1600 = a / 1600 := Int.tdiv_eq_ediv_of_nonneg a0
            have s1 := sq17 (x := a / 16 + a / 1600 + R + 2) (by omega) f1
            have s2 := sq17 (x := a / 16 - a / 1600 - R - 2) f2 f3
            obtain ⟨s1a, s1b⟩ := s1
            obtain ⟨s2a, s2b⟩ := s2
            generalize S2 (fun j => nl d a (nv s j)) k = S at *
            generalize hP : a / 16 = p at *
            generalize hQ : a / 1600 = q at *
            have pb : 0 ≤ p ∧ p ≤ 16777215 := by omega
            have qb : 0 ≤ q ∧ q ≤ 16777215 := by omega
            obtain ⟨pb0, pb1⟩ := pb
            obtain ⟨qb0, qb1⟩ := qb
            clear hP hQ
            by_cases hn : p - q - R - 2 < 0
            · clear u2
              go_wp2
              all_goals
                go_ret
                exact ⟨rfl, belowT B4.out hB.out⟩
            · have u3 := u2 (by omega)
              clear u2
              go_wp2
              all_goals
                go_ret
                first | exact ⟨rfl, belowT B4.out hB.out⟩ | exact ⟨retB (decide_eq_true (by omega)), belowT B4.out hB.out⟩
      · go_wp2
        go_loop [15] (fun i => ∃ R : Int, 0 ≤ R ∧ R ≤ 16 ∧ i = .int .i64 R) (fun i => 17 - (intOf i).toNat)
        case atStart => exact ⟨0, by omega, by omega, rfl⟩
        case round =>
          obtain ⟨R, r0, r1, rfl⟩ := hrel
          have hsq : R * R ≤ 256 ∧ 0 ≤ R * R ∧ (R = 16 → R * R = 256) := by
            have h1 : R * R ≤ 16 * 16 := Int.mul_le_mul r1 r1 r0 (by omega)
            exact ⟨by omega, Int.mul_nonneg r0 r0, fun h => by subst h; rfl⟩
          by_cases hlr : R * R < k
          · have hr16 : R < 16 := by have := hsq.2.2; omega
            obtain ⟨q0, q1, _⟩ := hsq
            generalize hRR : R * R = RR at *
            go_wp2
            go_round
            case rel => exact ⟨R + 1, by omega, by omega, rfl⟩
            case measure => simp [intOf]; omega
          · obtain ⟨f0, f1, f2, f3⟩ := far_bd a0 a1 r0 r1
            obtain ⟨q0, q1, _⟩ := hsq
            obtain ⟨u1, u2⟩ := HA.out R r0 (by omega)
            generalize hRR : R * R = RR at *
            have y0 : Int.tdiv a 16 = a / 16 := Int.tdiv_eq_ediv_of_nonneg a0
            have y1 : Int.tdiv a 1600 = a / 1600 := Int.tdiv_eq_ediv_of_nonneg a0
            have s1 := sq17 (x := a / 16 + a / 1600 + R + 2) (by omega) f1
            have s2 := sq17 (x := a / 16 - a / 1600 - R - 2) f2 f3
            obtain ⟨s1a, s1b⟩ := s1
            obtain ⟨s2a, s2b⟩ := s2
            generalize S2 (fun j => nl d a (nv s j)) k = S at *
            generalize hP : a / 16 = p at *
            generalize hQ : a / 1600 = q at *
            have pb : 0 ≤ p ∧ p ≤ 16777215 := by omega
            have qb : 0 ≤ q ∧ q ≤ 16777215 := by omega
            obtain ⟨pb0, pb1⟩ := pb
            obtain ⟨qb0, qb1⟩ := qb
            clear hP hQ
            by_cases hn : p - q - R - 2 < 0
            · clear u2
              go_wp2
              all_goals
                go_ret
                exact ⟨rfl, belowT B4.out hB.out⟩
            · have u3 := u2 (by omega)
              clear u2
              go_wp2
              all_goals
                go_ret
                first | exact ⟨rfl, belowT B4.out hB.out⟩ | exact ⟨retB (decide_eq_true (by omega)), belowT B4.out hB.out⟩

theorem main (s : Int) (st m : Int) (w : World) (h : (Lit.int .u32 s).wf = true) (hq : Qs w) : Calls Tryd.prog 8 #[.int .u32 s, .int .i64 st, .int .i64 m] w fun e w' => e = .returned (.bool true) ∧ Kp w w' := by
  by_cases c : st < 0 ∨ 511 < st ∨ m < 0 ∨ 256 < m
  · exact kp_below (Kp.refl hq) (bad s st m w hq c)
  · obtain ⟨n, rfl, hn⟩ := wfu h
    obtain ⟨k, rfl⟩ : ∃ k : Nat, m = (k : Int) := ⟨m.toNat, by omega⟩
    by_cases hd : nd n k = 0
    · by_cases hst : st ≤ 255
      · exact kp_below (Kp.refl hq) (good_zlo n k st w hn (by omega) (by omega) (by omega) hst hd hq)
      · exact kp_below (Kp.refl hq) (good_zhi n k st w hn (by omega) (by omega) (by omega) (by omega) hd hq)
    · by_cases hst : st ≤ 255
      · exact kp_below (Kp.refl hq) (good_nlo n k st w hn (by omega) (by omega) (by omega) hst hd hq)
      · exact kp_below (Kp.refl hq) (good_nhi n k st w hn (by omega) (by omega) (by omega) (by omega) hd hq)

theorem named : Named Tryd.prog Rows.noiseLoudRow.laid [(0, 80)] := ⟨by kernel_rfl, by kernel_rfl, trivial⟩
theorem flat1 : flats E Rows.noiseLoudRow.laid [(0, 80)] = some [(0, [.int .i64 1073741824, .int .i64 1276901417, .int .i64 1518500250, .int .i64 1805811301])] := by kernel_rfl
set_option linter.unusedVariables false in
theorem walk (a0 : Int) (a1 : Int) (a2 : Int) (w : World) (h0 : (Lit.int .u32 a0).wf = true) (h1 : (Lit.int .i64 a1).wf = true) (h2 : (Lit.int .i64 a2).wf = true) (hL : laidMetH Tryd.prog Rows.noiseLoudRow.laid w) :
    Calls Tryd.prog 8 #[.int .u32 a0, .int .i64 a1, .int .i64 a2] w fun e w' => e = .returned (.bool true) ∧ Below w.heap.size w w' :=
  (main a0 a1 a2 w h0 (qs_of hL (by kernel_rfl) named flat1)).mono fun _ _ h => ⟨h.1, h.2.2⟩
noncomputable def laidWorld (os : Os) : World := lay E Rows.noiseLoudRow.laid [(0, 80)] (World.holding Tryd.prog os ⟨#[], #[.int .u32 0, .int .i64 0, .int .i64 0], []⟩)
theorem laid_os (os : Os) : (laidWorld os).os = os := by kernel_rfl
theorem own : ownKnob Tryd.prog.godebug = none := by kernel_rfl
set_option linter.unusedVariables false
theorem laid_met (os : Os) (args : Array Value) : laidMet Tryd.prog Rows.noiseLoudRow.laid ((laidWorld os).forCall (fun _ _ => 0) ⟨#[], args, []⟩).memory := laidMet_of_run' 8 (by kernel_rfl) (by kernel_rfl)
set_option maxRecDepth 100000 in
theorem lifted (os : Os) (started : os.Started) (H : Type) (enc : TypeId × Value → H) (F : Stop.Interp) :
    ReturnsInHanded {} Tryd.checked os 8 .any ((OpenSpec.ofChange Rows.noiseLoudSpec).preRow enc Tryd.prog Tryd.f8 Rows.noiseLoudRow.domain false Rows.noiseLoudRow.laid) (((OpenSpec.ofChange Rows.noiseLoudSpec).at F).post enc Tryd.prog Tryd.f8 false true false false) := by
  refine returnsInHanded_of_row (C := Tryd.checked) (s := OpenSpec.ofChange Rows.noiseLoudSpec) own started (by kernel_rfl) Tryd.func8
    (witness_row_at (enc := enc) (C := Tryd.checked) false (laidWorld os) #[.int .u32 0, .int .i64 0, .int .i64 0] (laid_os os) (by kernel_rfl) (by kernel_rfl) (by kernel_rfl)
      (OpenSpec.preRow_of_cond 8 (show DataW.whole enc Tryd.prog ((laidWorld os).forCall (fun _ _ => 0) ⟨#[], #[.int .u32 0, .int .i64 0, .int .i64 0], []⟩).memory Tryd.f8.params.toList Rows.noiseLoudSpec.vars false #[.int .u32 0, .int .i64 0, .int .i64 0].toList 8 = some ([.lit (.int .u32 0), .lit (.int .i64 0), .lit (.int .i64 0)], [], []) by kernel_rfl) (by kernel_rfl) (fun k hk => by cases hk) (by kernel_rfl) (laid_met os _))) ?_
  intro W base args ds gs before hval0 hW _ _ _ hL _ _
  have hval : ∀ (j : Nat) t v, Tryd.f8.params[j]? = some t → args[j]? = some v → Value.okWide Tryd.prog W .any base t v := hval0
  have hW' := hW
  obtain ⟨p, q, hA0, hV, rfl, hfz, hnd⟩ := hW
  have hA : DataW.TrodAll enc Tryd.prog W 0 (fun _ => true) true Tryd.f8.params.toList args.toList ds p := hA0
  rw [Tryd.params8] at hA hval
  obtain ⟨v0, vs0, d0, ds0, p0, q0, hargs, rfl, rfl, h0, r0⟩ := trodAll_cons hA
  obtain ⟨v1, vs1, d1, ds1, p1, q1, rfl, rfl, rfl, h1, r1⟩ := trodAll_cons r0
  obtain ⟨v2, vs2, d2, ds2, p2, q2, rfl, rfl, rfl, h2, r2⟩ := trodAll_cons r1
  obtain ⟨rfl, rfl, rfl⟩ := trodAll_nil r2
  obtain rfl : args = #[v0, v1, v2] := by cases args; simp_all
  obtain ⟨rfl, rfl⟩ := trodVars_none hV
  obtain ⟨a0, rfl, rfl, rfl, w0⟩ := open_int Tryd.underlying34 (hval 0 34 v0 rfl rfl) h0
  obtain ⟨a1, rfl, rfl, rfl, w1⟩ := open_int Tryd.underlying3 (hval 1 3 v1 rfl rfl) h1
  obtain ⟨a2, rfl, rfl, rfl, w2⟩ := open_int Tryd.underlying3 (hval 2 3 v2 rfl rfl) h2
  clear hA0 hval0
  simp only [List.append_nil] at hW'
  refine (walk a0 a1 a2 W w0 w1 w2 hL).mono fun e W' ⟨he, bel⟩ => ?_
  subst he
  exact ⟨_, rfl, _, _, _, [], _, [], hW', trodAll_mk1 (shut_bool Tryd.underlying4 _), (trodAll_cons_mk (shut_int Tryd.underlying34 w0) (trodAll_cons_mk (shut_int Tryd.underlying3 w1) (trodAll_cons_mk (shut_int Tryd.underlying3 w2) trodAll_mk0))), rfl, bel.frame _, fun h => by cases h⟩

theorem said : Rows.NoiseLoudSaid :=
  OpenClaim.holds_of_cond 8 Tryd.f8 rfl rfl rfl rfl rfl rfl rfl ⟨rfl, rfl, rfl, rfl, rfl⟩ rfl rfl rfl rfl rfl (by kernel_rfl) Tryd.func8 (by kernel_rfl)
    (of_decide_eq_true (by kernel_rfl)) (by unfold Func.isWrapper; first | (rw [if_pos (by decide +kernel)]; kernel_rfl) | (rw [if_neg (by decide +kernel)]; exact ⟨rfl, rfl⟩))
    (fun os started H enc _ F => by rw [OpenClaim.pre_eq_preRow]; exact lifted os started H enc F)

theorem plain (f : FuncId) (fn : Func) (hf : Tryd.pinned.checked.prog.funcNamed "reedpipe/reedpipelaw16.NoiseLoud" = some f) (hfn : Tryd.pinned.checked.prog.funcs[f]? = some fn) :
    false = Tryd.pinned.checked.prog.looks [] ∧ ∀ (j : Nat) t, fn.params[j]? = some t → Tryd.pinned.checked.prog.wantsStandIn t = false := by
  obtain rfl : f = 8 := Option.some.inj ((show Tryd.prog.funcNamed "reedpipe/reedpipelaw16.NoiseLoud" = some 8 by kernel_rfl).symm.trans hf) |>.symm
  obtain rfl : fn = Tryd.f8 := (Option.some.inj (Tryd.func8.symm.trans hfn)).symm
  refine ⟨by kernel_rfl, fun j t ht => ?_⟩
  rw [Tryd.params8] at ht
  have hm : t ∈ [34, 3, 3] := by simpa using Array.mem_of_getElem? ht
  have hall : ([34, 3, 3].all fun u => !Tryd.prog.wantsStandIn u) = true := by kernel_rfl
  exact (show Tryd.prog.wantsStandIn t = false by simpa using List.all_eq_true.1 hall t hm)

theorem proved : Rows.NoiseLoudCardSaid :=
  Claim7.holds_tied_plain_at .later [] _ _ _ _ said (fun _ h => by cases h) (by kernel_rfl) (fun _ h => by cases h) noiseLoud_row_tie rfl ⟨rfl, rfl⟩ (by kernel_rfl) rfl plain (by kernel_rfl)

end Go.Proofs.YtanjcbnkkhbkkaaDoor.noiseLoud
