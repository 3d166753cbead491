/- Four steps more double noise, to 2, as long as the line of 1 is not kept; and steps above 255 are as 255. NoiseDoubles returns true, whatever the seed, the step and how many lines, the memory and the schedule; the variable that the row lists is tied to the program's text. No condition. -/
import Derived.Test.YtanjcbnkkhbkkaaDoorNoPub
import Derived.Test.YtanjcbnkkhbkkaaDoorCards
import Derived.Test.YtanjcbnkkhbkkaaDoorTie
import Derived.WalkKit
import Derived.Below
import Derived.RegionTactic
import Derived.Deep.QuietTactic
import Derived.BigQuiet
import Derived.ChangeAlike
import Derived.Deep.OwnRows
import Derived.ProofKit
import Derived.OpenShut
import Derived.ShutString
import Derived.ChangeOld
import Derived.Deep.DeepHandedRow
import Derived.Lib.LaidTab
import Derived.Lib.Hide
namespace Go.Proofs.YtanjcbnkkhbkkaaDoor.noiseDoubles
open Go Go.Ev Go.ChangeShapes Go.WideShapes Go.ChangeAt Go.RowKit Go.Proofs.YtanjcbnkkhbkkaaDoor.Fx Go.Proofs.YtanjcbnkkhbkkaaDoor.Nm Go.Proofs.YtanjcbnkkhbkkaaDoor.No

theorem wfu {s : Int} (h : (Lit.int .u32 s).wf = true) : ∃ n : Nat, s = (n : Int) ∧ n < 4294967296 := by
  simp [Lit.wf] at h
  have e : IntKind.u32.min = 0 := rfl
  have e2 : IntKind.u32.max = 4294967295 := rfl
  exact ⟨s.toNat, by omega, by omega⟩
/-- The lines, in bounds. -/
theorem F_bd {s m : Nat} {st : Int} (h : 0 ≤ st) {j : Nat} (hj : j < m) : -268435455 ≤ nl (nd s m) (na st) (nv s j) ∧ nl (nd s m) (na st) (nv s j) ≤ 268435455 := by
  obtain ⟨a, b⟩ := na_bd h
  have := nl_bd (nd_is s m) (nS_at s m hj) a
  omega

theorem bad (s st m : Int) (w : World) (hq : Qs w) (h : st < 0 ∨ 511 < st ∨ m < 0 ∨ 256 < m) : Calls Tryd.prog 10 #[.int .u32 s, .int .i64 st, .int .i64 m] w fun e w' => e = .returned (.bool true) ∧ Below w.heap.size w w' := by
  have H0 := Lib.hid (fun w (hq : Qs w) => nalive_ok w hq)
  have H3 := Lib.hid (fun w => eband_bad st m h s w)
  have HQ := Lib.hid hq
  have hE : (if st < 0 ∨ 511 < st then (2 : Int) else 4) ≠ 0 := by split <;> omega
  generalize (if st < 0 ∨ 511 < st then (2 : Int) else 4) = U at *
  clear hq h
  go_enter Tryd.func10, Tryd.ntmps10
  go_wp2_with (first | (go_at_call 28; ((with_reducible refine (H0.out _ HQ.out).mono ?_); rintro e w1 ⟨rfl, hb1⟩)) | (go_at_call 25; ((with_reducible refine (H3.out _).mono ?_); rintro e w' ⟨rfl, rfl⟩)))
  go_ret
  exact ⟨rfl, hb1⟩

/-- A band's lines, some function's. -/
def Bnd (s m : Nat) (st : Int) (F : Nat → Int) : Prop := Hid (∀ w, Qs w → Calls Tryd.prog 25 #[.int .u32 s, .int .i64 st, .int .i64 m] w fun e w' => ∃ g, e = .returned (.tuple #[.slice (some ⟨g, 0, none⟩) m m, .int .i64 0]) ∧ w.heap.size ≤ g ∧ w'.rowIs g 3 m (fun j => .int .i64 (F j)) ∧ Below w.heap.size w w')
theorem bnd (s m : Nat) (st : Int) (hs : s < 4294967296) (hm : m ≤ 256) (st0 : 0 ≤ st) (st1 : st ≤ 511) : Bnd s m st (fun j => nl (nd s m) (na st) (nv s j)) := Lib.hid fun w hq => band_ok s m st w hs hm st0 st1 hq
theorem na_255 {st : Int} (h : 255 ≤ st) : na st = na 255 := by unfold na; rw [show min st 255 = min 255 255 by omega]
theorem na_four {st : Int} (h0 : 0 ≤ st) (h1 : st ≤ 251) (h : na (st + 4) ≠ 268435455) : -1 ≤ na (st + 4) - 2 * na st ∧ na (st + 4) - 2 * na st ≤ 1 := by
  have b := na_bd (st := st + 4) (by omega)
  unfold na at *
  rw [LN_pos (by omega), show min (st + 4) 255 = st + 4 by omega] at *
  rw [LN_pos (by omega), show min st 255 = st by omega]
  exact ln_four h0 h1 (by omega) (by omega)
theorem na_rise {st : Int} (h0 : 0 ≤ st) (h1 : st < 255) : na st ≤ na (st + 4) := by
  have step : ∀ k : Nat, st + k ≤ 255 → LN 1 st ≤ LN 1 (st + k) := by
    intro k
    induction k with
    | zero => intro _; rw [show st + ((0 : Nat) : Int) = st by omega]; exact Int.le_refl _
    | succ k ih =>
      intro hk
      have := ih (by omega)
      have l := (LN_step (q := 1) (s := st + k) (by omega) (by omega) (by omega) (by omega)).1 (by omega)
      rw [show st + ((k + 1 : Nat) : Int) = st + k + 1 by omega]
      omega
  unfold na
  rw [show min st 255 = st by omega]
  have := step (min (st + 4) 255 - st).toNat (by omega)
  rwa [show st + (((min (st + 4) 255 - st).toNat : Nat) : Int) = min (st + 4) 255 by omega] at this
set_option maxRecDepth 100000 in
set_option maxHeartbeats 4000000 in
theorem far (s m : Nat) (st : Int) (w : World) (hs : s < 4294967296) (hm : m ≤ 256) (st0 : 255 ≤ st) (st1 : st ≤ 511) (hq : Qs w) : Calls Tryd.prog 10 #[.int .u32 s, .int .i64 st, .int .i64 m] w fun e w' => e = .returned (.bool true) ∧ Below w.heap.size w w' := by
  have H0 := Lib.hid (fun w (hq : Qs w) => nalive_ok w hq)
  have HQ := Lib.hid hq
  have H1 := bnd s m st hs hm (by omega) st1
  have H2 := bnd s m 255 hs hm (by omega) (by omega)
  rw [na_255 st0] at H1
  generalize (fun j => nl (nd s m) (na 255) (nv s j)) = F at *
  clear hq
  unfold Bnd at H1 H2
  go_enter Tryd.func10, Tryd.ntmps10
  go_wp2_with (first | (go_at_call 28; ((with_reducible refine (H0.out _ HQ.out).mono ?_); rintro e w0 ⟨rfl, hb1⟩; have B0 := Lib.hid hb1; have Q0 := Lib.hid (HQ.out.below hb1); clear hb1)) | (go_at_call 25; ((with_reducible refine (H1.out _ Q0.out).mono ?_); rintro e w1 ⟨g, rfl, hg, hr, hb3⟩; have B1 := Lib.hid (belowT B0.out hb3); have Q1 := Lib.hid (Q0.out.below hb3); have R0 := Lib.hid hr; clear hg hr hb3)) | (go_at_call 25; ((with_reducible refine (H2.out _ Q1.out).mono ?_); rintro e w2 ⟨g2, rfl, hg, hr, hb3⟩; have B2 := Lib.hid (belowT B1.out hb3); have R1 := Lib.hid (R0.out.of_block (hb3.block _ R0.out.lt)); have R2 := Lib.hid hr; clear hg hr hb3)))
  go_loopw [12] (fun i wr => ∃ k : Nat, k ≤ m ∧ i = .int .i64 k ∧ Hid (Below w2.heap.size w2 wr)) (fun i _ => m - (intOf i).toNat)
  case atStart => exact ⟨0, by omega, rfl, Lib.hid (Below.refl _ _)⟩
  case round =>
    obtain ⟨k, hk, rfl, hB⟩ := hrel
    by_cases hlt : k < m
    · have c1 := (R1.out.of_block (hB.out.block _ R1.out.lt)).cell hlt
      have c2 := (R2.out.of_block (hB.out.block _ R2.out.lt)).cell hlt
      generalize F k = X at *
      go_wp2
      go_quiet (fail)
      go_wp2
      go_roundw
      case rel => exact ⟨k + 1, by omega, by go_num, Lib.hid (belowT hB.out (drewN_below _ _))⟩
      case measure => simp [intOf]; omega
    · have hend : k = m := by omega
      subst hend
      go_wp2
      go_ret
      exact ⟨rfl, belowT B2.out hB.out⟩
set_option maxRecDepth 100000 in
set_option maxHeartbeats 4000000 in
theorem near_hi (s m : Nat) (st : Int) (w : World) (hs : s < 4294967296) (hm : m ≤ 256) (st0 : 0 ≤ st) (st1 : st < 255) (hst : 251 < st) (hq : Qs w) : Calls Tryd.prog 10 #[.int .u32 s, .int .i64 st, .int .i64 m] w fun e w' => e = .returned (.bool true) ∧ Below w.heap.size w w' := by
  have H0 := Lib.hid (fun w (hq : Qs w) => nalive_ok w hq)
  have HQ := Lib.hid hq
  have H1 := bnd s m st hs hm (by omega) (by omega)
  have H2 := bnd s m (st + 4) hs hm (by omega) (by omega)
  have HL1 := Lib.hid (fun w w1 (k : Kp w w1) => na_line (st := st) st0 k)
  have HL2 := Lib.hid (fun w w1 (k : Kp w w1) => na_line (st := st + 4) (by omega) k)
  rw [show min st 255 = st by omega] at HL1
  rw [show min (st + 4) 255 = 255 by omega] at HL2
  have a1 := na_bd st0
  have a2 := na_bd (st := st + 4) (by omega)
  have hrise := na_rise st0 st1
  generalize (fun j => nl (nd s m) (na st) (nv s j)) = F1 at *
  generalize (fun j => nl (nd s m) (na (st + 4)) (nv s j)) = F2 at *
  clear hq
  generalize na st = A1 at *
  generalize na (st + 4) = A2 at *
  unfold Bnd at H1 H2
  go_enter Tryd.func10, Tryd.ntmps10
  go_wp2_with (first | (go_at_call 28; ((with_reducible refine (H0.out _ HQ.out).mono ?_); rintro e w0 ⟨rfl, hb1⟩; have B0 := Lib.hid hb1; have Q0 := Lib.hid (HQ.out.below hb1); clear hb1)) | (go_at_call 25; ((with_reducible refine (H1.out _ Q0.out).mono ?_); rintro e w1 ⟨g, rfl, hg, hr, hb3⟩; have B1 := Lib.hid (belowT B0.out hb3); have Q1 := Lib.hid (Q0.out.below hb3); have R0 := Lib.hid hr; clear hg hr hb3)) | (go_at_call 17; ((with_reducible refine (HL1.out w1 _ (Kp.refl Q1.out)).mono ?_); rintro e w2 ⟨rfl, hk4⟩; have K2 := Lib.hid hk4; clear hk4)) | (go_at_call 17; ((with_reducible refine (HL2.out w1 _ K2.out).mono ?_); rintro e w3 ⟨rfl, hk4⟩; have K3 := Lib.hid hk4; have Q3 : Hid (Qs w3) := Lib.hid hk4.1; clear hk4)) | (go_at_call 25; ((with_reducible refine (H2.out _ Q3.out).mono ?_); rintro e w4 ⟨g2, rfl, hg, hr, hb3⟩; have B4 := Lib.hid (belowT (belowT B1.out K3.out.2) hb3); have R1 := Lib.hid ((R0.out.of_block (K3.out.2.block _ R0.out.lt)).of_block (hb3.block _ (Nat.lt_of_lt_of_le R0.out.lt K3.out.2.size))); have R2 := Lib.hid hr; clear hg hr hb3)))
  go_ret
  exact ⟨rfl, B4.out⟩
set_option maxRecDepth 100000 in
set_option maxHeartbeats 4000000 in
theorem near_max (s m : Nat) (st : Int) (w : World) (hs : s < 4294967296) (hm : m ≤ 256) (st0 : 0 ≤ st) (st1 : st < 255) (hst : st ≤ 251 ∧ na (st + 4) = 268435455) (hq : Qs w) : Calls Tryd.prog 10 #[.int .u32 s, .int .i64 st, .int .i64 m] w fun e w' => e = .returned (.bool true) ∧ Below w.heap.size w w' := by
  have H0 := Lib.hid (fun w (hq : Qs w) => nalive_ok w hq)
  have HQ := Lib.hid hq
  have H1 := bnd s m st hs hm (by omega) (by omega)
  have H2 := bnd s m (st + 4) hs hm (by omega) (by omega)
  have HL1 := Lib.hid (fun w w1 (k : Kp w w1) => na_line (st := st) st0 k)
  have HL2 := Lib.hid (fun w w1 (k : Kp w w1) => na_line (st := st + 4) (by omega) k)
  rw [show min st 255 = st by omega] at HL1
  rw [show min (st + 4) 255 = st + 4 by omega] at HL2
  have a1 := na_bd st0
  have a2 := na_bd (st := st + 4) (by omega)
  have hrise := na_rise st0 st1
  generalize (fun j => nl (nd s m) (na st) (nv s j)) = F1 at *
  generalize (fun j => nl (nd s m) (na (st + 4)) (nv s j)) = F2 at *
  obtain ⟨hs1, hs2⟩ := hst
  clear hq
  generalize na st = A1 at *
  generalize na (st + 4) = A2 at *
  unfold Bnd at H1 H2
  go_enter Tryd.func10, Tryd.ntmps10
  go_wp2_with (first | (go_at_call 28; ((with_reducible refine (H0.out _ HQ.out).mono ?_); rintro e w0 ⟨rfl, hb1⟩; have B0 := Lib.hid hb1; have Q0 := Lib.hid (HQ.out.below hb1); clear hb1)) | (go_at_call 25; ((with_reducible refine (H1.out _ Q0.out).mono ?_); rintro e w1 ⟨g, rfl, hg, hr, hb3⟩; have B1 := Lib.hid (belowT B0.out hb3); have Q1 := Lib.hid (Q0.out.below hb3); have R0 := Lib.hid hr; clear hg hr hb3)) | (go_at_call 17; ((with_reducible refine (HL1.out w1 _ (Kp.refl Q1.out)).mono ?_); rintro e w2 ⟨rfl, hk4⟩; have K2 := Lib.hid hk4; clear hk4)) | (go_at_call 17; ((with_reducible refine (HL2.out w1 _ K2.out).mono ?_); rintro e w3 ⟨rfl, hk4⟩; have K3 := Lib.hid hk4; have Q3 : Hid (Qs w3) := Lib.hid hk4.1; clear hk4)) | (go_at_call 25; ((with_reducible refine (H2.out _ Q3.out).mono ?_); rintro e w4 ⟨g2, rfl, hg, hr, hb3⟩; have B4 := Lib.hid (belowT (belowT B1.out K3.out.2) hb3); have R1 := Lib.hid ((R0.out.of_block (K3.out.2.block _ R0.out.lt)).of_block (hb3.block _ (Nat.lt_of_lt_of_le R0.out.lt K3.out.2.size))); have R2 := Lib.hid hr; clear hg hr hb3)))
  go_ret
  exact ⟨rfl, B4.out⟩
set_option maxRecDepth 100000 in
set_option maxHeartbeats 4000000 in
theorem near_lo (s m : Nat) (st : Int) (w : World) (hs : s < 4294967296) (hm : m ≤ 256) (st0 : 0 ≤ st) (st1 : st < 255) (hst : st ≤ 251 ∧ na (st + 4) ≠ 268435455) (hq : Qs w) : Calls Tryd.prog 10 #[.int .u32 s, .int .i64 st, .int .i64 m] w fun e w' => e = .returned (.bool true) ∧ Below w.heap.size w w' := by
  have H0 := Lib.hid (fun w (hq : Qs w) => nalive_ok w hq)
  have HQ := Lib.hid hq
  have H1 := bnd s m st hs hm (by omega) (by omega)
  have H2 := bnd s m (st + 4) hs hm (by omega) (by omega)
  have HL1 := Lib.hid (fun w w1 (k : Kp w w1) => na_line (st := st) st0 k)
  have HL2 := Lib.hid (fun w w1 (k : Kp w w1) => na_line (st := st + 4) (by omega) k)
  rw [show min st 255 = st by omega] at HL1
  rw [show min (st + 4) 255 = st + 4 by omega] at HL2
  have a1 := na_bd st0
  have a2 := na_bd (st := st + 4) (by omega)
  have hrise := na_rise st0 st1
  have HD : Hid (∀ k, k < m → -268435455 ≤ nl (nd s m) (na st) (nv s k) ∧ nl (nd s m) (na st) (nv s k) ≤ 268435455 ∧ -268435455 ≤ nl (nd s m) (na (st + 4)) (nv s k) ∧ nl (nd s m) (na (st + 4)) (nv s k) ≤ 268435455 ∧ -2 ≤ nl (nd s m) (na (st + 4)) (nv s k) - 2 * nl (nd s m) (na st) (nv s k) ∧ nl (nd s m) (na (st + 4)) (nv s k) - 2 * nl (nd s m) (na st) (nv s k) ≤ 2) := Lib.hid fun k hk => by
    have x := F_bd (s := s) (m := m) st0 hk
    have y := F_bd (s := s) (m := m) (st := st + 4) (by omega) hk
    have z := nl_double (nd_is s m) (nS_at s m hk) (na_four st0 hst.1 hst.2)
    omega
  obtain ⟨F1, hF1⟩ : ∃ F : Nat → Int, F = fun j => nl (nd s m) (na st) (nv s j) := ⟨_, rfl⟩
  obtain ⟨F2, hF2⟩ : ∃ F : Nat → Int, F = fun j => nl (nd s m) (na (st + 4)) (nv s j) := ⟨_, rfl⟩
  have HD2 : Hid (∀ k, k < m → -268435455 ≤ F1 k ∧ F1 k ≤ 268435455 ∧ -268435455 ≤ F2 k ∧ F2 k ≤ 268435455 ∧ -2 ≤ F2 k - 2 * F1 k ∧ F2 k - 2 * F1 k ≤ 2) := by rw [hF1, hF2]; exact HD
  rw [← hF1] at H1
  rw [← hF2] at H2
  clear hF1 hF2 HD
  obtain ⟨hs1, hs2⟩ := hst
  have hs3 : (na (st + 4) == 268435455) = false := by simp; exact hs2
  clear hq
  generalize na st = A1 at *
  generalize na (st + 4) = A2 at *
  unfold Bnd at H1 H2
  go_enter Tryd.func10, Tryd.ntmps10
  go_wp2_with (first | (go_at_call 28; ((with_reducible refine (H0.out _ HQ.out).mono ?_); rintro e w0 ⟨rfl, hb1⟩; have B0 := Lib.hid hb1; have Q0 := Lib.hid (HQ.out.below hb1); clear hb1)) | (go_at_call 25; ((with_reducible refine (H1.out _ Q0.out).mono ?_); rintro e w1 ⟨g, rfl, hg, hr, hb3⟩; have B1 := Lib.hid (belowT B0.out hb3); have Q1 := Lib.hid (Q0.out.below hb3); have R0 := Lib.hid hr; clear hg hr hb3)) | (go_at_call 17; ((with_reducible refine (HL1.out w1 _ (Kp.refl Q1.out)).mono ?_); rintro e w2 ⟨rfl, hk4⟩; have K2 := Lib.hid hk4; clear hk4)) | (go_at_call 17; ((with_reducible refine (HL2.out w1 _ K2.out).mono ?_); rintro e w3 ⟨rfl, hk4⟩; have K3 := Lib.hid hk4; have Q3 : Hid (Qs w3) := Lib.hid hk4.1; clear hk4)) | (go_at_call 25; ((with_reducible refine (H2.out _ Q3.out).mono ?_); rintro e w4 ⟨g2, rfl, hg, hr, hb3⟩; have B4 := Lib.hid (belowT (belowT B1.out K3.out.2) hb3); have R1 := Lib.hid ((R0.out.of_block (K3.out.2.block _ R0.out.lt)).of_block (hb3.block _ (Nat.lt_of_lt_of_le R0.out.lt K3.out.2.size))); have R2 := Lib.hid hr; clear hg hr hb3)))
  go_loopw [19] (fun i wr => ∃ k : Nat, k ≤ m ∧ i = .int .i64 k ∧ Hid (Below w4.heap.size w4 wr)) (fun i _ => m - (intOf i).toNat)
  case atStart => exact ⟨0, by omega, rfl, Lib.hid (Below.refl _ _)⟩
  case round =>
    obtain ⟨k, hk, rfl, hB⟩ := hrel
    by_cases hlt : k < m
    · have c1 := (R1.out.of_block (hB.out.block _ R1.out.lt)).cell hlt
      have c2 := (R2.out.of_block (hB.out.block _ R2.out.lt)).cell hlt
      obtain ⟨d0, d1, d2, d3, d4, d5⟩ := HD2.out k hlt
      generalize F1 k = X at *
      generalize F2 k = Y at *
      have z1 : IntKind.i64.wrap (2 * X) = 2 * X := i64_in (by omega) (by omega)
      have z2 : IntKind.i64.wrap (Y - 2 * X) = Y - 2 * X := i64_in (by omega) (by omega)
      go_wp2
      go_quiet (fail)
      go_wp2
      go_roundw
      case rel => exact ⟨k + 1, by omega, by go_num, Lib.hid (belowT hB.out (drewN_below _ _))⟩
      case measure => simp [intOf]; omega
    · have hend : k = m := by omega
      subst hend
      go_wp2
      go_ret
      exact ⟨rfl, belowT B4.out hB.out⟩
theorem main (s : Int) (st m : Int) (w : World) (h : (Lit.int .u32 s).wf = true) (hq : Qs w) : Calls Tryd.prog 10 #[.int .u32 s, .int .i64 st, .int .i64 m] w fun e w' => e = .returned (.bool true) ∧ Kp w w' := by
  by_cases c : st < 0 ∨ 511 < st ∨ m < 0 ∨ 256 < m
  · exact kp_below (Kp.refl hq) (bad s st m w hq c)
  · obtain ⟨n, rfl, hn⟩ := wfu h
    obtain ⟨k, rfl⟩ : ∃ k : Nat, m = (k : Int) := ⟨m.toNat, by omega⟩
    by_cases h1 : 255 ≤ st
    · exact kp_below (Kp.refl hq) (far n k st w hn (by omega) h1 (by omega) hq)
    · by_cases h2 : 251 < st
      · exact kp_below (Kp.refl hq) (near_hi n k st w hn (by omega) (by omega) (by omega) h2 hq)
      · by_cases h3 : na (st + 4) = 268435455
        · exact kp_below (Kp.refl hq) (near_max n k st w hn (by omega) (by omega) (by omega) ⟨by omega, h3⟩ hq)
        · exact kp_below (Kp.refl hq) (near_lo n k st w hn (by omega) (by omega) (by omega) ⟨by omega, h3⟩ hq)

theorem named : Named Tryd.prog Rows.noiseDoublesRow.laid [(0, 80)] := ⟨by kernel_rfl, by kernel_rfl, trivial⟩
theorem flat1 : flats E Rows.noiseDoublesRow.laid [(0, 80)] = some [(0, [.int .i64 1073741824, .int .i64 1276901417, .int .i64 1518500250, .int .i64 1805811301])] := by kernel_rfl
set_option linter.unusedVariables false in
theorem walk (a0 : Int) (a1 : Int) (a2 : Int) (w : World) (h0 : (Lit.int .u32 a0).wf = true) (h1 : (Lit.int .i64 a1).wf = true) (h2 : (Lit.int .i64 a2).wf = true) (hL : laidMetH Tryd.prog Rows.noiseDoublesRow.laid w) :
    Calls Tryd.prog 10 #[.int .u32 a0, .int .i64 a1, .int .i64 a2] w fun e w' => e = .returned (.bool true) ∧ Below w.heap.size w w' :=
  (main a0 a1 a2 w h0 (qs_of hL (by kernel_rfl) named flat1)).mono fun _ _ h => ⟨h.1, h.2.2⟩
noncomputable def laidWorld (os : Os) : World := lay E Rows.noiseDoublesRow.laid [(0, 80)] (World.holding Tryd.prog os ⟨#[], #[.int .u32 0, .int .i64 0, .int .i64 0], []⟩)
theorem laid_os (os : Os) : (laidWorld os).os = os := by kernel_rfl
theorem own : ownKnob Tryd.prog.godebug = none := by kernel_rfl
set_option linter.unusedVariables false
theorem laid_met (os : Os) (args : Array Value) : laidMet Tryd.prog Rows.noiseDoublesRow.laid ((laidWorld os).forCall (fun _ _ => 0) ⟨#[], args, []⟩).memory := laidMet_of_run' 8 (by kernel_rfl) (by kernel_rfl)
set_option maxRecDepth 100000 in
theorem lifted (os : Os) (started : os.Started) (H : Type) (enc : TypeId × Value → H) (F : Stop.Interp) :
    ReturnsInHanded {} Tryd.checked os 10 .any ((OpenSpec.ofChange Rows.noiseDoublesSpec).preRow enc Tryd.prog Tryd.f10 Rows.noiseDoublesRow.domain false Rows.noiseDoublesRow.laid) (((OpenSpec.ofChange Rows.noiseDoublesSpec).at F).post enc Tryd.prog Tryd.f10 false true false false) := by
  refine returnsInHanded_of_row (C := Tryd.checked) (s := OpenSpec.ofChange Rows.noiseDoublesSpec) own started (by kernel_rfl) Tryd.func10
    (witness_row_at (enc := enc) (C := Tryd.checked) false (laidWorld os) #[.int .u32 0, .int .i64 0, .int .i64 0] (laid_os os) (by kernel_rfl) (by kernel_rfl) (by kernel_rfl)
      (OpenSpec.preRow_of_cond 8 (show DataW.whole enc Tryd.prog ((laidWorld os).forCall (fun _ _ => 0) ⟨#[], #[.int .u32 0, .int .i64 0, .int .i64 0], []⟩).memory Tryd.f10.params.toList Rows.noiseDoublesSpec.vars false #[.int .u32 0, .int .i64 0, .int .i64 0].toList 8 = some ([.lit (.int .u32 0), .lit (.int .i64 0), .lit (.int .i64 0)], [], []) by kernel_rfl) (by kernel_rfl) (fun k hk => by cases hk) (by kernel_rfl) (laid_met os _))) ?_
  intro W base args ds gs before hval0 hW _ _ _ hL _ _
  have hval : ∀ (j : Nat) t v, Tryd.f10.params[j]? = some t → args[j]? = some v → Value.okWide Tryd.prog W .any base t v := hval0
  have hW' := hW
  obtain ⟨p, q, hA0, hV, rfl, hfz, hnd⟩ := hW
  have hA : DataW.TrodAll enc Tryd.prog W 0 (fun _ => true) true Tryd.f10.params.toList args.toList ds p := hA0
  rw [Tryd.params10] at hA hval
  obtain ⟨v0, vs0, d0, ds0, p0, q0, hargs, rfl, rfl, h0, r0⟩ := trodAll_cons hA
  obtain ⟨v1, vs1, d1, ds1, p1, q1, rfl, rfl, rfl, h1, r1⟩ := trodAll_cons r0
  obtain ⟨v2, vs2, d2, ds2, p2, q2, rfl, rfl, rfl, h2, r2⟩ := trodAll_cons r1
  obtain ⟨rfl, rfl, rfl⟩ := trodAll_nil r2
  obtain rfl : args = #[v0, v1, v2] := by cases args; simp_all
  obtain ⟨rfl, rfl⟩ := trodVars_none hV
  obtain ⟨a0, rfl, rfl, rfl, w0⟩ := open_int Tryd.underlying34 (hval 0 34 v0 rfl rfl) h0
  obtain ⟨a1, rfl, rfl, rfl, w1⟩ := open_int Tryd.underlying3 (hval 1 3 v1 rfl rfl) h1
  obtain ⟨a2, rfl, rfl, rfl, w2⟩ := open_int Tryd.underlying3 (hval 2 3 v2 rfl rfl) h2
  clear hA0 hval0
  simp only [List.append_nil] at hW'
  refine (walk a0 a1 a2 W w0 w1 w2 hL).mono fun e W' ⟨he, bel⟩ => ?_
  subst he
  exact ⟨_, rfl, _, _, _, [], _, [], hW', trodAll_mk1 (shut_bool Tryd.underlying4 _), (trodAll_cons_mk (shut_int Tryd.underlying34 w0) (trodAll_cons_mk (shut_int Tryd.underlying3 w1) (trodAll_cons_mk (shut_int Tryd.underlying3 w2) trodAll_mk0))), rfl, bel.frame _, fun h => by cases h⟩

theorem said : Rows.NoiseDoublesSaid :=
  OpenClaim.holds_of_cond 10 Tryd.f10 rfl rfl rfl rfl rfl rfl rfl ⟨rfl, rfl, rfl, rfl, rfl⟩ rfl rfl rfl rfl rfl (by kernel_rfl) Tryd.func10 (by kernel_rfl)
    (of_decide_eq_true (by kernel_rfl)) (by unfold Func.isWrapper; first | (rw [if_pos (by decide +kernel)]; kernel_rfl) | (rw [if_neg (by decide +kernel)]; exact ⟨rfl, rfl⟩))
    (fun os started H enc _ F => by rw [OpenClaim.pre_eq_preRow]; exact lifted os started H enc F)

theorem plain (f : FuncId) (fn : Func) (hf : Tryd.pinned.checked.prog.funcNamed "reedpipe/reedpipelaw16.NoiseDoubles" = some f) (hfn : Tryd.pinned.checked.prog.funcs[f]? = some fn) :
    false = Tryd.pinned.checked.prog.looks [] ∧ ∀ (j : Nat) t, fn.params[j]? = some t → Tryd.pinned.checked.prog.wantsStandIn t = false := by
  obtain rfl : f = 10 := Option.some.inj ((show Tryd.prog.funcNamed "reedpipe/reedpipelaw16.NoiseDoubles" = some 10 by kernel_rfl).symm.trans hf) |>.symm
  obtain rfl : fn = Tryd.f10 := (Option.some.inj (Tryd.func10.symm.trans hfn)).symm
  refine ⟨by kernel_rfl, fun j t ht => ?_⟩
  rw [Tryd.params10] at ht
  have hm : t ∈ [34, 3, 3] := by simpa using Array.mem_of_getElem? ht
  have hall : ([34, 3, 3].all fun u => !Tryd.prog.wantsStandIn u) = true := by kernel_rfl
  exact (show Tryd.prog.wantsStandIn t = false by simpa using List.all_eq_true.1 hall t hm)

theorem proved : Rows.NoiseDoublesCardSaid :=
  Claim7.holds_tied_plain_at .later [] _ _ _ _ said (fun _ h => by cases h) (by kernel_rfl) (fun _ h => by cases h) noiseDoubles_row_tie rfl ⟨rfl, rfl⟩ (by kernel_rfl) rfl plain (by kernel_rfl)

end Go.Proofs.YtanjcbnkkhbkkaaDoor.noiseDoubles
