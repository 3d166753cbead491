/- What noise's Band does. -/
import Derived.Test.YtanjcbnkkhbkkaaDoorNoCon
import Derived.WalkKit
import Derived.Below
import Derived.RegionTactic
import Derived.Deep.QuietTactic
import Derived.BigQuiet
import Derived.ChangeAlike
import Derived.Deep.OwnRows
import Derived.ProofKit
import Derived.OpenShut
import Derived.Lib.Hide
namespace Go.Proofs.YtanjcbnkkhbkkaaDoor.No
open Go Go.ChangeShapes Go.WideShapes Go.ChangeAt Go.RowKit Go.Proofs.YtanjcbnkkhbkkaaDoor.Fx Go.Proofs.YtanjcbnkkhbkkaaDoor.Nm

/-- The line of 1 at a noise's step. -/
noncomputable def na (st : Int) : Int := LN 1 (min st 255)
theorem na_bd {st : Int} (h : 0 ≤ st) : 0 ≤ na st ∧ na st ≤ 268435455 := by
  unfold na
  rw [LN_pos (by omega)]
  exact ln_bd (by omega) (by omega)
theorem na_line {w w1 : World} {st : Int} (h : 0 ≤ st) (k : Kp w w1) : Calls Tryd.prog 17 #[.int .i64 1, .int .i64 (min st 255)] w1 fun e w' => e = .returned (.tuple #[.int .i64 (na st), .int .i64 0]) ∧ Kp w w' := by
  have := line_k 1 (min st 255) k
  obtain ⟨e1, e2⟩ := FL_ok (q := 1) (s := min st 255) (by unfold badL; omega)
  rwa [e1, e2] at this
theorem vab {v a : Int} (h : -32768 ≤ v ∧ v ≤ 32767) (a0 : 0 ≤ a) (a1 : a ≤ 268435455) : -4503599627370496 ≤ 512 * v * a ∧ 512 * v * a ≤ 4503599627370496 := by
  have h1 : 512 * v * a ≤ 16777216 * a := Int.mul_le_mul_of_nonneg_right (by omega) a0
  have h2 : -16777216 * a ≤ 512 * v * a := Int.mul_le_mul_of_nonneg_right (by omega) a0
  omega
theorem share {d a v : Int} (w : World) (h : -32768 ≤ v ∧ v ≤ 32767) (a0 : 0 ≤ a) (a1 : a ≤ 268435455) (d0 : 0 ≤ d) (d1 : d ≤ 134217728) :
    Calls Tryd.prog 51 #[.int .i64 (512 * v * a + d), .int .i64 (2 * d)] w fun e w' => e = .returned (.int .i64 (nl d a v)) ∧ w = w' := by
  have b := vab h a0 a1
  have := shared_ok (512 * v * a + d) (2 * d) w (by omega) (by omega) (by omega) (by omega)
  rwa [show (if 2 * d = 0 then 0 else (512 * v * a + d) / (2 * d)) = nl d a v by
    unfold nl
    by_cases e : d = 0
    · rw [if_pos e, if_pos (by omega)]
    · rw [if_neg e, if_neg (by omega)]] at this
/-- The box that is drawn from. -/
theorem seed_box (w : World) (s : Nat) : Below w.heap.size w (w.alloc (.cells #[.int .u32 s] 67)) ∧ (w.alloc (.cells #[.int .u32 s] 67)).cell? ⟨w.heap.size, 0, none⟩ = some (.int .u32 s) ∧ (w.alloc (.cells #[.int .u32 s] 67)).frozen? ⟨w.heap.size, 0, none⟩ = false ∧ (w.alloc (.cells #[.int .u32 s] 67)).heap.size = w.heap.size + 1 := by
  refine ⟨(Below.refl _ _).alloc (Nat.le_refl _) _, ?_, ?_, ?_⟩ <;> simp
set_option maxRecDepth 100000 in
set_option maxHeartbeats 4000000 in
theorem band_lo (s m : Nat) (st : Int) (w : World) (hs : s < 4294967296) (hm : m ≤ 256) (st0 : 0 ≤ st) (st1 : st ≤ 511) (hst : st ≤ 255) (hq : Qs w) :
    Calls Tryd.prog 25 #[.int .u32 s, .int .i64 st, .int .i64 m] w fun e w' => ∃ g, e = .returned (.tuple #[.slice (some ⟨g, 0, none⟩) m m, .int .i64 0]) ∧ w.heap.size ≤ g ∧ w'.rowIs g 3 m (fun j => .int .i64 (nl (nd s m) (na st) (nv s j))) ∧ Below w.heap.size w w' := by
  obtain ⟨a0, a1⟩ := na_bd st0
  obtain ⟨d0, d1⟩ := nd_bd s m hm
  obtain ⟨x1, x2, x3, x4⟩ := seed_box w s
  have HD := draws_ok w.heap.size s m w.heap.size (w.alloc (.cells #[.int .u32 s] 67)) hs hm (Nat.le_refl _) x1.size x2 x3
  rw [x4] at HD
  have HD := Lib.hid HD
  have HB := Lib.hid x1
  have HQ := Lib.hid hq
  have HR : Hid (∀ r, IsSqrt (65536 * nS s m) r → r = nd s m) := Lib.hid fun r h => sqF_of h
  have HL := Lib.hid (fun w w1 (k : Kp w w1) => na_line (st := st) st0 k)
  rw [show min st 255 = st by omega] at HL
  clear x1 x2 x3 x4 hq
  generalize na st = a at *
  generalize nd s m = d at *
  go_enter Tryd.func25, Tryd.ntmps25
  go_wp2_with (go_at_call 48; ((with_reducible refine (HD.out).mono ?_); rintro e w2 ⟨rfl, hr, hb⟩; have R2 := Lib.hid hr; have B2 := Lib.hid (HB.out.trans hb); clear hr hb))
  go_loop [10, 37] (fun t i => ∃ k : Nat, k ≤ m ∧ i = .int .i64 k ∧ t = .int .i64 (nS s k)) (fun _ i => m - (intOf i).toNat)
  case atStart => exact ⟨0, by omega, rfl, rfl⟩
  case round =>
    obtain ⟨k, hk, rfl, rfl⟩ := hrel
    by_cases hlt : k < m
    · have c := R2.out.cell hlt
      have hv := nv_bd s k
      have hsq := sq_bd hv
      have hsq0 := sq_nn (nv s k)
      have hS := nS_bd s k
      have hSe : nS s k + nv s k * nv s k = nS s (k + 1) := rfl
      have HSe := Lib.hid hSe
      clear hSe
      obtain ⟨hv0, hv1⟩ := hv
      obtain ⟨hS0, hS1⟩ := hS
      generalize nv s k = v at *
      generalize nS s k = S at *
      have hS2 : S ≤ 274877906944 := by omega
      clear hS1
      generalize hvv : v * v = p at *
      go_wp2
      go_round
      case rel => exact ⟨k + 1, by omega, by go_num, by rw [HSe.out]⟩
      case measure => simp [intOf]; omega
    · have hend : k = m := by omega
      subst hend
      have hS := nS_bd s k
      have hS2 : nS s k ≤ 274877906944 := by omega
      have hS0 := hS.1
      clear hS hlt
      generalize nS s k = S at *
      have K2 : Hid (Kp w2 w2) := Lib.hid (Kp.refl (HQ.out.below B2.out))
      go_wp2_with (first | (go_at_call 50; ((with_reducible refine (sqrt_in (65536 * S) _ (by omega) (by omega)).mono ?_); rintro e w3 ⟨r, hr, rfl, rfl⟩; obtain rfl := HR.out r hr; clear hr)) | (go_at_call 17; ((with_reducible refine (HL.out _ _ K2.out).mono ?_); rintro e w3 ⟨rfl, hk3⟩; have K3 := Lib.hid hk3; clear hk3)))
      have R3 : Hid (w3.rowIs (w.heap.size + 1) 3 k (upto (fun j => nl r a (nv s j)) (nv s) 0)) := Lib.hid ((R2.out.of_block (K3.out.2.block _ R2.out.lt)).congr fun i _ => by unfold upto; simp)
      have B3 := Lib.hid (B2.out.trans (K3.out.2.mono B2.out.size))
      go_loopw [61] (fun i wr => ∃ j : Nat, j ≤ k ∧ i = .int .i64 j ∧ Hid (wr.rowIs (w.heap.size + 1) 3 k (upto (fun j => nl r a (nv s j)) (nv s) j)) ∧ Hid (Below w.heap.size w wr)) (fun i _ => k - (intOf i).toNat)
      case atStart => exact ⟨0, by omega, rfl, R3, B3⟩
      case round =>
        obtain ⟨j, hj, rfl, hR, hB⟩ := hrel
        by_cases hlt : j < k
        · have c := upto_at hR.out hlt (Nat.le_refl _)
          have f := hR.out.frozen j
          have hv := nv_bd s j
          have HV := Lib.hid (fun w => share (d := r) (a := a) (v := nv s j) w hv a0 a1 d0 d1)
          have hva := vab hv a0 a1
          have gR := Lib.hid (upto_step (v := nl r a (nv s j)) hR.out rfl)
          have gB := Lib.hid (hB.out.setCell (p := ⟨w.heap.size + 1, j, none⟩) (Nat.le_succ _) (.int .i64 (nl r a (nv s j))))
          obtain ⟨hv0, hv1⟩ := hv
          obtain ⟨va0, va1⟩ := hva
          clear hR hB
          generalize nl r a (nv s j) = X at *
          generalize nv s j = v at *
          go_wp2_with (go_at_call 51; ((with_reducible refine (HV.out _).mono ?_); rintro e w4 ⟨rfl, rfl⟩))
          go_roundw
          case rel => exact ⟨j + 1, by omega, by go_num, gR, gB⟩
          case measure => simp [intOf]; omega
        · have hend : j = k := by omega
          subst hend
          have hF := Lib.hid (upto_end hR.out)
          have hB' := hB.out
          clear hR
          go_wp2
          go_ret2
          exact ⟨_, rfl, Nat.le_succ _, hF.out, hB'⟩
set_option maxRecDepth 100000 in
set_option maxHeartbeats 4000000 in
theorem band_hi (s m : Nat) (st : Int) (w : World) (hs : s < 4294967296) (hm : m ≤ 256) (st0 : 0 ≤ st) (st1 : st ≤ 511) (hst : 255 < st) (hq : Qs w) :
    Calls Tryd.prog 25 #[.int .u32 s, .int .i64 st, .int .i64 m] w fun e w' => ∃ g, e = .returned (.tuple #[.slice (some ⟨g, 0, none⟩) m m, .int .i64 0]) ∧ w.heap.size ≤ g ∧ w'.rowIs g 3 m (fun j => .int .i64 (nl (nd s m) (na st) (nv s j))) ∧ Below w.heap.size w w' := by
  obtain ⟨a0, a1⟩ := na_bd st0
  obtain ⟨d0, d1⟩ := nd_bd s m hm
  obtain ⟨x1, x2, x3, x4⟩ := seed_box w s
  have HD := draws_ok w.heap.size s m w.heap.size (w.alloc (.cells #[.int .u32 s] 67)) hs hm (Nat.le_refl _) x1.size x2 x3
  rw [x4] at HD
  have HD := Lib.hid HD
  have HB := Lib.hid x1
  have HQ := Lib.hid hq
  have HR : Hid (∀ r, IsSqrt (65536 * nS s m) r → r = nd s m) := Lib.hid fun r h => sqF_of h
  have HL := Lib.hid (fun w w1 (k : Kp w w1) => na_line (st := st) st0 k)
  rw [show min st 255 = 255 by omega] at HL
  clear x1 x2 x3 x4 hq
  generalize na st = a at *
  generalize nd s m = d at *
  go_enter Tryd.func25, Tryd.ntmps25
  go_wp2_with (go_at_call 48; ((with_reducible refine (HD.out).mono ?_); rintro e w2 ⟨rfl, hr, hb⟩; have R2 := Lib.hid hr; have B2 := Lib.hid (HB.out.trans hb); clear hr hb))
  go_loop [10, 37] (fun t i => ∃ k : Nat, k ≤ m ∧ i = .int .i64 k ∧ t = .int .i64 (nS s k)) (fun _ i => m - (intOf i).toNat)
  case atStart => exact ⟨0, by omega, rfl, rfl⟩
  case round =>
    obtain ⟨k, hk, rfl, rfl⟩ := hrel
    by_cases hlt : k < m
    · have c := R2.out.cell hlt
      have hv := nv_bd s k
      have hsq := sq_bd hv
      have hsq0 := sq_nn (nv s k)
      have hS := nS_bd s k
      have hSe : nS s k + nv s k * nv s k = nS s (k + 1) := rfl
      have HSe := Lib.hid hSe
      clear hSe
      obtain ⟨hv0, hv1⟩ := hv
      obtain ⟨hS0, hS1⟩ := hS
      generalize nv s k = v at *
      generalize nS s k = S at *
      have hS2 : S ≤ 274877906944 := by omega
      clear hS1
      generalize hvv : v * v = p at *
      go_wp2
      go_round
      case rel => exact ⟨k + 1, by omega, by go_num, by rw [HSe.out]⟩
      case measure => simp [intOf]; omega
    · have hend : k = m := by omega
      subst hend
      have hS := nS_bd s k
      have hS2 : nS s k ≤ 274877906944 := by omega
      have hS0 := hS.1
      clear hS hlt
      generalize nS s k = S at *
      have K2 : Hid (Kp w2 w2) := Lib.hid (Kp.refl (HQ.out.below B2.out))
      go_wp2_with (first | (go_at_call 50; ((with_reducible refine (sqrt_in (65536 * S) _ (by omega) (by omega)).mono ?_); rintro e w3 ⟨r, hr, rfl, rfl⟩; obtain rfl := HR.out r hr; clear hr)) | (go_at_call 17; ((with_reducible refine (HL.out _ _ K2.out).mono ?_); rintro e w3 ⟨rfl, hk3⟩; have K3 := Lib.hid hk3; clear hk3)))
      have R3 : Hid (w3.rowIs (w.heap.size + 1) 3 k (upto (fun j => nl r a (nv s j)) (nv s) 0)) := Lib.hid ((R2.out.of_block (K3.out.2.block _ R2.out.lt)).congr fun i _ => by unfold upto; simp)
      have B3 := Lib.hid (B2.out.trans (K3.out.2.mono B2.out.size))
      go_loopw [61] (fun i wr => ∃ j : Nat, j ≤ k ∧ i = .int .i64 j ∧ Hid (wr.rowIs (w.heap.size + 1) 3 k (upto (fun j => nl r a (nv s j)) (nv s) j)) ∧ Hid (Below w.heap.size w wr)) (fun i _ => k - (intOf i).toNat)
      case atStart => exact ⟨0, by omega, rfl, R3, B3⟩
      case round =>
        obtain ⟨j, hj, rfl, hR, hB⟩ := hrel
        by_cases hlt : j < k
        · have c := upto_at hR.out hlt (Nat.le_refl _)
          have f := hR.out.frozen j
          have hv := nv_bd s j
          have HV := Lib.hid (fun w => share (d := r) (a := a) (v := nv s j) w hv a0 a1 d0 d1)
          have hva := vab hv a0 a1
          have gR := Lib.hid (upto_step (v := nl r a (nv s j)) hR.out rfl)
          have gB := Lib.hid (hB.out.setCell (p := ⟨w.heap.size + 1, j, none⟩) (Nat.le_succ _) (.int .i64 (nl r a (nv s j))))
          obtain ⟨hv0, hv1⟩ := hv
          obtain ⟨va0, va1⟩ := hva
          clear hR hB
          generalize nl r a (nv s j) = X at *
          generalize nv s j = v at *
          go_wp2_with (go_at_call 51; ((with_reducible refine (HV.out _).mono ?_); rintro e w4 ⟨rfl, rfl⟩))
          go_roundw
          case rel => exact ⟨j + 1, by omega, by go_num, gR, gB⟩
          case measure => simp [intOf]; omega
        · have hend : j = k := by omega
          subst hend
          have hF := Lib.hid (upto_end hR.out)
          have hB' := hB.out
          clear hR
          go_wp2
          go_ret2
          exact ⟨_, rfl, Nat.le_succ _, hF.out, hB'⟩
theorem band_ok (s m : Nat) (st : Int) (w : World) (hs : s < 4294967296) (hm : m ≤ 256) (st0 : 0 ≤ st) (st1 : st ≤ 511) (hq : Qs w) :
    Calls Tryd.prog 25 #[.int .u32 s, .int .i64 st, .int .i64 m] w fun e w' => ∃ g, e = .returned (.tuple #[.slice (some ⟨g, 0, none⟩) m m, .int .i64 0]) ∧ w.heap.size ≤ g ∧ w'.rowIs g 3 m (fun j => .int .i64 (nl (nd s m) (na st) (nv s j))) ∧ Below w.heap.size w w' := by
  by_cases h : st ≤ 255
  · exact band_lo s m st w hs hm st0 st1 h hq
  · exact band_hi s m st w hs hm st0 st1 (by omega) hq
end Go.Proofs.YtanjcbnkkhbkkaaDoor.No
