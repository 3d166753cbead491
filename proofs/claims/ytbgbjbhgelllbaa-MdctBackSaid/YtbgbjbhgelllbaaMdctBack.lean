/- Samples that are transformed, and back, come in the first half to themselves less those as far from its other end, in the second half to themselves and those as far from its other end, to 512 at most. MdctBack returns true, whatever the samples, the memory and the schedule. No condition. -/
import Derived.Test.YtbgbjbhgelllbaaMdAl
import Derived.Test.YtbgbjbhgelllbaaMdNear
import Derived.WalkKit
import Derived.Below
import Derived.RegionTactic
import Derived.Deep.QuietTactic
import Derived.BigQuiet
import Derived.ChangeAlike
import Derived.Deep.OwnRows
import Derived.ProofKit
import Derived.OpenShut
import Derived.ChangeSlices
import Derived.Great.Walk
import Derived.ChangeKeysEq
import Derived.Lib.Hide
import Derived.ChangeOld
namespace Go.Proofs.Ytbgbjbhgelllbaa.mdctBack
open Go Go.ChangeShapes Go.WideShapes Go.ChangeAt Go.RowKit Go.Proofs.Ytbgbjbhgelllbaa.Fx Go.Proofs.Ytbgbjbhgelllbaa.Mm Go.Proofs.Ytbgbjbhgelllbaa.Md
theorem wrap_in {x : Int} (h0 : -4611686018427387905 ≤ x) (h1 : x ≤ 4611686018427387905) : IntKind.i64.wrap x = x := by
  simp [IntKind.wrap, IntKind.bits, IntKind.signed]; omega
theorem in_fw256 {zs : List Int} (hz : ∀ j, j < 512 → -8388608 ≤ zs.getD j 0 ∧ zs.getD j 0 ≤ 8388608) : InM 268435455 (lst (fw zs 256 1) 256) := by
  intro k hk
  rw [lst_len] at hk
  rw [lst_at _ hk]
  unfold fw
  have a := ds_bd (f := fun n => zs.getD n 0) (c := cw 256 1 (k : Int)) (M := 8388608) (fun j => cos_bd _) 512 hz
  rw [show ((2 : Int) * 256).toNat = 512 from rfl]
  generalize ds (fun n => zs.getD n 0) (cw 256 1 (k : Int)) 512 = S at *
  have q := rnd_near (n := S) (b := 33) (by decide)
  have e1 : (2 : Int) ^ ((33 : Int).toNat - 1) = 4294967296 := by decide
  have e2 : (2 : Int) ^ (33 : Int).toNat = 8589934592 := by decide
  have e3 : ((512 : Nat) : Int) * (8388608 * 67108864) = 288230376151711744 := by decide
  rw [e1, e2] at q
  rw [e3] at a
  omega
set_option maxRecDepth 100000 in
set_option maxHeartbeats 8000000 in
theorem good512 (A : Option Addr) (cap : Nat) (zs : List Int) (w : World) (hl : zs.length = 512) (h : RdA w A zs) (hM : InM 8388608 zs) :
    Calls Try.prog 8 #[.slice A 512 cap] w fun e w' => e = .returned (.bool true) ∧ Below w.heap.size w w' := by
  have hz : ∀ j, j < 512 → -8388608 ≤ zs.getD j 0 ∧ zs.getD j 0 ≤ 8388608 := fun j hj => hM j (hl ▸ hj)
  have HA := Lib.hid (alive_ok w)
  have HX := Lib.hid (fun w1 r => fwd_ok A cap zs 512 256 256 1 w1 hl (.inl ⟨rfl, rfl, rfl, rfl⟩) r hM)
  have HI := Lib.hid (fun g w1 r => inv_ok (some ⟨g, 0, none⟩) 256 (lst (fw zs 256 1) 256) 256 512 256 1 26 w1 (lst_len _ _) (.inl ⟨rfl, rfl, rfl, rfl, rfl⟩) r (in_fw256 hz))
  have HLo := Lib.hid (fun n (hn : n < 256) => near256 zs hz (lst (fw zs 256 1) 256) (fun k hk => lst_at _ hk) n _ (lo256 (fun l => zs.getD l 0) n hn))
  have HHi := Lib.hid (fun n (hn : 256 ≤ n) (hn2 : n < 512) => near256 zs hz (lst (fw zs 256 1) 256) (fun k hk => lst_at _ hk) n _ (hi256 (fun l => zs.getD l 0) n hn hn2))
  have HZ := Lib.hid hz
  have HR := Lib.hid h
  have HL := Lib.hid hl
  clear h hM hl hz
  go_enter Try.func8, Try.ntmps8
  go_wp2_with first
    | (go_at_call 11; ((with_reducible refine (HA.out).mono ?_); rintro e w1 ⟨rfl, hb1⟩; have hb1h := Lib.hid hb1; have r1 := Lib.hid (HR.out.below hb1); clear hb1))
    | (go_at_call 9; ((with_reducible refine (HX.out _ r1.out).mono ?_); rintro e w2 ⟨g1, rfl, hg1, hx2, hb2⟩; have rx := Lib.hid (rd_lst hx2); have hb2h := Lib.hid (belowT hb1h.out hb2); clear hx2 hb2))
    | (go_at_call 10; ((with_reducible refine (HI.out g1 _ rx.out).mono ?_); rintro e w3 ⟨g, rfl, hg, hy3, hb3⟩; have hy := Lib.hid hy3; have hB3 := Lib.hid (belowT hb2h.out hb3); clear hy3 hb3))
  clear HA HX HI r1 hb1h rx hb2h hg hg1
  go_loopw [9] (fun i wr => ∃ k : Nat, k ≤ 256 ∧ i = .int .i64 k ∧ Hid (wr.rowIs g 3 512 (fun j => .int .i64 (bk (lst (fw zs 256 1) 256) 256 1 26 j))) ∧ Hid (Below w.heap.size w wr)) (fun i _ => 256 - (intOf i).toNat)
  case atStart => exact ⟨0, by omega, rfl, hy, hB3⟩
  case round =>
    obtain ⟨k, hk, rfl, hR, hB⟩ := hrel
    clear hy hB3
    by_cases hlt : k < 256
    · have hk2 : (k : Int) < 256 := by omega
      obtain ⟨j1, hj1⟩ : ∃ j : Nat, 255 - (k : Int) = (j : Int) := ⟨(255 - (k : Int)).toNat, by omega⟩
      obtain ⟨j2, hj2⟩ : ∃ j : Nat, 256 + (k : Int) = (j : Int) := ⟨256 + k, by omega⟩
      obtain ⟨j3, hj3⟩ : ∃ j : Nat, 511 - (k : Int) = (j : Int) := ⟨(511 - (k : Int)).toNat, by omega⟩
      have rz := HR.out.below hB.out
      obtain ⟨b, off, rfl, hbl, z0⟩ := rz k (by rw [HL.out]; omega)
      have cells : ∀ j, j < 512 → wr.cell? ⟨b, off + j, none⟩ = some (.int .i64 (zs.getD j 0)) := fun j hj => by
        obtain ⟨b', off', e, _, c⟩ := rz j (by rw [HL.out]; exact hj)
        simp only [Option.some.injEq, Addr.mk.injEq, and_true] at e
        obtain ⟨rfl, rfl⟩ := e
        exact c
      have z1 := cells j1 (by omega)
      have z2 := cells j2 (by omega)
      have z3 := cells j3 (by omega)
      have y0 := hR.out.cell (i := k) (by omega)
      have y2 := hR.out.cell (i := j2) (by omega)
      have n0 := HLo.out k hlt
      have n2 := HHi.out j2 (by omega) (by omega)
      rw [show 255 - k = j1 by omega] at n0
      rw [show 767 - j2 = j3 by omega] at n2
      have b0 := HZ.out k (by omega)
      have b1 := HZ.out j1 (by omega)
      have b2 := HZ.out j2 (by omega)
      have b3 := HZ.out j3 (by omega)
      clear rz cells
      generalize bk (lst (fw zs 256 1) 256) 256 1 26 k = Y0 at *
      generalize bk (lst (fw zs 256 1) 256) 256 1 26 j2 = Y2 at *
      generalize zs.getD k 0 = Z0 at *
      generalize zs.getD j1 0 = Z1 at *
      generalize zs.getD j2 0 = Z2 at *
      generalize zs.getD j3 0 = Z3 at *
      obtain ⟨P, hP⟩ : ∃ P, Z0 - Z1 = P := ⟨_, rfl⟩
      obtain ⟨Q, hQ⟩ : ∃ Q, Z2 + Z3 = Q := ⟨_, rfl⟩
      rw [hP] at n0
      rw [hQ] at n2
      obtain ⟨D0, hD0⟩ : ∃ D, Y0 - P = D := ⟨_, rfl⟩
      obtain ⟨D2, hD2⟩ : ∃ D, Y2 - Q = D := ⟨_, rfl⟩
      rw [hD0] at n0
      rw [hD2] at n2
      have q1 : IntKind.i64.wrap (Z0 - Z1) = P := by rw [hP]; exact wrap_in (by omega) (by omega)
      have q2 : IntKind.i64.wrap (Z2 + Z3) = Q := by rw [hQ]; exact wrap_in (by omega) (by omega)
      have q3 : IntKind.i64.wrap (Y0 - P) = D0 := by rw [hD0]; exact wrap_in (by omega) (by omega)
      have q4 : IntKind.i64.wrap (Y2 - Q) = D2 := by rw [hD2]; exact wrap_in (by omega) (by omega)
      obtain ⟨n00, n01⟩ := n0
      obtain ⟨n20, n21⟩ := n2
      clear hP hQ hD0 hD2 b0 b1 b2 b3
      go_wp2
      go_quiet (fail)
      have hbd := drewN_belowL wr nq
      have hltb : b < wr.heap.size := Nat.lt_of_lt_of_le hbl (Nat.le_refl _)
      have d2 := (hbd.cell (p := ⟨g, j2, none⟩) hR.out.lt).trans y2
      have d3 := (hbd.cell (p := ⟨b, off + j2, none⟩) hltb).trans z2
      have d4 := (hbd.cell (p := ⟨b, off + j3, none⟩) hltb).trans z3
      have hR1 := Lib.hid (hR.out.of_block (hbd.block _ hR.out.lt))
      have hB1 := Lib.hid (hB.out.trans (hbd.mono hB.out.size))
      clear z0 z1 z2 z3 y0 y2 hR hB hbd hbl hltb
      generalize wr.drewN nq = u1 at *
      go_wp2
      go_quiet (fail)
      have hbe := drewN_belowL u1 nq
      have hR2 := Lib.hid (hR1.out.of_block (hbe.block _ hR1.out.lt))
      have hB2 := Lib.hid (hB1.out.trans (hbe.mono hB1.out.size))
      go_wp2
      go_roundw
      case rel => exact ⟨k + 1, by omega, by go_num, hR2, hB2⟩
      case measure => simp [intOf]; omega
    · have hB' := hB.out
      have hlt2 : ¬ (k : Int) < 256 := by omega
      go_wp2
      go_ret
      exact ⟨rfl, hB'⟩
theorem in_fw32 {zs : List Int} (hz : ∀ j, j < 64 → -8388608 ≤ zs.getD j 0 ∧ zs.getD j 0 ≤ 8388608) : InM 268435455 (lst (fw zs 32 8) 32) := by
  intro k hk
  rw [lst_len] at hk
  rw [lst_at _ hk]
  unfold fw
  have a := ds_bd (f := fun n => zs.getD n 0) (c := cw 32 8 (k : Int)) (M := 8388608) (fun j => cos_bd _) 64 hz
  rw [show ((2 : Int) * 32).toNat = 64 from rfl]
  generalize ds (fun n => zs.getD n 0) (cw 32 8 (k : Int)) 64 = S at *
  have q := rnd_near (n := S) (b := 33) (by decide)
  have e1 : (2 : Int) ^ ((33 : Int).toNat - 1) = 4294967296 := by decide
  have e2 : (2 : Int) ^ (33 : Int).toNat = 8589934592 := by decide
  have e3 : ((64 : Nat) : Int) * (8388608 * 67108864) = 36028797018963968 := by decide
  rw [e1, e2] at q
  rw [e3] at a
  omega
set_option maxRecDepth 100000 in
set_option maxHeartbeats 8000000 in
theorem good64 (A : Option Addr) (cap : Nat) (zs : List Int) (w : World) (hl : zs.length = 64) (h : RdA w A zs) (hM : InM 8388608 zs) :
    Calls Try.prog 8 #[.slice A 64 cap] w fun e w' => e = .returned (.bool true) ∧ Below w.heap.size w w' := by
  have hz : ∀ j, j < 64 → -8388608 ≤ zs.getD j 0 ∧ zs.getD j 0 ≤ 8388608 := fun j hj => hM j (hl ▸ hj)
  have HA := Lib.hid (alive_ok w)
  have HX := Lib.hid (fun w1 r => fwd_ok A cap zs 64 32 32 8 w1 hl (.inr ⟨rfl, rfl, rfl, rfl⟩) r hM)
  have HI := Lib.hid (fun g w1 r => inv_ok (some ⟨g, 0, none⟩) 32 (lst (fw zs 32 8) 32) 32 64 32 8 23 w1 (lst_len _ _) (.inr ⟨rfl, rfl, rfl, rfl, rfl⟩) r (in_fw32 hz))
  have HLo := Lib.hid (fun n (hn : n < 32) => near32 zs hz (lst (fw zs 32 8) 32) (fun k hk => lst_at _ hk) n _ (lo32 (fun l => zs.getD l 0) n hn))
  have HHi := Lib.hid (fun n (hn : 32 ≤ n) (hn2 : n < 64) => near32 zs hz (lst (fw zs 32 8) 32) (fun k hk => lst_at _ hk) n _ (hi32 (fun l => zs.getD l 0) n hn hn2))
  have HZ := Lib.hid hz
  have HR := Lib.hid h
  have HL := Lib.hid hl
  clear h hM hl hz
  go_enter Try.func8, Try.ntmps8
  go_wp2_with first
    | (go_at_call 11; ((with_reducible refine (HA.out).mono ?_); rintro e w1 ⟨rfl, hb1⟩; have hb1h := Lib.hid hb1; have r1 := Lib.hid (HR.out.below hb1); clear hb1))
    | (go_at_call 9; ((with_reducible refine (HX.out _ r1.out).mono ?_); rintro e w2 ⟨g1, rfl, hg1, hx2, hb2⟩; have rx := Lib.hid (rd_lst hx2); have hb2h := Lib.hid (belowT hb1h.out hb2); clear hx2 hb2))
    | (go_at_call 10; ((with_reducible refine (HI.out g1 _ rx.out).mono ?_); rintro e w3 ⟨g, rfl, hg, hy3, hb3⟩; have hy := Lib.hid hy3; have hB3 := Lib.hid (belowT hb2h.out hb3); clear hy3 hb3))
  clear HA HX HI r1 hb1h rx hb2h hg hg1
  go_loopw [9] (fun i wr => ∃ k : Nat, k ≤ 32 ∧ i = .int .i64 k ∧ Hid (wr.rowIs g 3 64 (fun j => .int .i64 (bk (lst (fw zs 32 8) 32) 32 8 23 j))) ∧ Hid (Below w.heap.size w wr)) (fun i _ => 32 - (intOf i).toNat)
  case atStart => exact ⟨0, by omega, rfl, hy, hB3⟩
  case round =>
    obtain ⟨k, hk, rfl, hR, hB⟩ := hrel
    clear hy hB3
    by_cases hlt : k < 32
    · have hk2 : (k : Int) < 32 := by omega
      obtain ⟨j1, hj1⟩ : ∃ j : Nat, 31 - (k : Int) = (j : Int) := ⟨(31 - (k : Int)).toNat, by omega⟩
      obtain ⟨j2, hj2⟩ : ∃ j : Nat, 32 + (k : Int) = (j : Int) := ⟨32 + k, by omega⟩
      obtain ⟨j3, hj3⟩ : ∃ j : Nat, 63 - (k : Int) = (j : Int) := ⟨(63 - (k : Int)).toNat, by omega⟩
      have rz := HR.out.below hB.out
      obtain ⟨b, off, rfl, hbl, z0⟩ := rz k (by rw [HL.out]; omega)
      have cells : ∀ j, j < 64 → wr.cell? ⟨b, off + j, none⟩ = some (.int .i64 (zs.getD j 0)) := fun j hj => by
        obtain ⟨b', off', e, _, c⟩ := rz j (by rw [HL.out]; exact hj)
        simp only [Option.some.injEq, Addr.mk.injEq, and_true] at e
        obtain ⟨rfl, rfl⟩ := e
        exact c
      have z1 := cells j1 (by omega)
      have z2 := cells j2 (by omega)
      have z3 := cells j3 (by omega)
      have y0 := hR.out.cell (i := k) (by omega)
      have y2 := hR.out.cell (i := j2) (by omega)
      have n0 := HLo.out k hlt
      have n2 := HHi.out j2 (by omega) (by omega)
      rw [show 31 - k = j1 by omega] at n0
      rw [show 95 - j2 = j3 by omega] at n2
      have b0 := HZ.out k (by omega)
      have b1 := HZ.out j1 (by omega)
      have b2 := HZ.out j2 (by omega)
      have b3 := HZ.out j3 (by omega)
      clear rz cells
      generalize bk (lst (fw zs 32 8) 32) 32 8 23 k = Y0 at *
      generalize bk (lst (fw zs 32 8) 32) 32 8 23 j2 = Y2 at *
      generalize zs.getD k 0 = Z0 at *
      generalize zs.getD j1 0 = Z1 at *
      generalize zs.getD j2 0 = Z2 at *
      generalize zs.getD j3 0 = Z3 at *
      obtain ⟨P, hP⟩ : ∃ P, Z0 - Z1 = P := ⟨_, rfl⟩
      obtain ⟨Q, hQ⟩ : ∃ Q, Z2 + Z3 = Q := ⟨_, rfl⟩
      rw [hP] at n0
      rw [hQ] at n2
      obtain ⟨D0, hD0⟩ : ∃ D, Y0 - P = D := ⟨_, rfl⟩
      obtain ⟨D2, hD2⟩ : ∃ D, Y2 - Q = D := ⟨_, rfl⟩
      rw [hD0] at n0
      rw [hD2] at n2
      have q1 : IntKind.i64.wrap (Z0 - Z1) = P := by rw [hP]; exact wrap_in (by omega) (by omega)
      have q2 : IntKind.i64.wrap (Z2 + Z3) = Q := by rw [hQ]; exact wrap_in (by omega) (by omega)
      have q3 : IntKind.i64.wrap (Y0 - P) = D0 := by rw [hD0]; exact wrap_in (by omega) (by omega)
      have q4 : IntKind.i64.wrap (Y2 - Q) = D2 := by rw [hD2]; exact wrap_in (by omega) (by omega)
      obtain ⟨n00, n01⟩ := n0
      obtain ⟨n20, n21⟩ := n2
      clear hP hQ hD0 hD2 b0 b1 b2 b3
      go_wp2
      go_quiet (fail)
      have hbd := drewN_belowL wr nq
      have hltb : b < wr.heap.size := Nat.lt_of_lt_of_le hbl (Nat.le_refl _)
      have d2 := (hbd.cell (p := ⟨g, j2, none⟩) hR.out.lt).trans y2
      have d3 := (hbd.cell (p := ⟨b, off + j2, none⟩) hltb).trans z2
      have d4 := (hbd.cell (p := ⟨b, off + j3, none⟩) hltb).trans z3
      have hR1 := Lib.hid (hR.out.of_block (hbd.block _ hR.out.lt))
      have hB1 := Lib.hid (hB.out.trans (hbd.mono hB.out.size))
      clear z0 z1 z2 z3 y0 y2 hR hB hbd hbl hltb
      generalize wr.drewN nq = u1 at *
      go_wp2
      go_quiet (fail)
      have hbe := drewN_belowL u1 nq
      have hR2 := Lib.hid (hR1.out.of_block (hbe.block _ hR1.out.lt))
      have hB2 := Lib.hid (hB1.out.trans (hbe.mono hB1.out.size))
      go_wp2
      go_roundw
      case rel => exact ⟨k + 1, by omega, by go_num, hR2, hB2⟩
      case measure => simp [intOf]; omega
    · have hB' := hB.out
      have hlt2 : ¬ (k : Int) < 32 := by omega
      go_wp2
      go_ret
      exact ⟨rfl, hB'⟩
theorem long (A : Option Addr) (cap len : Nat) (w : World) (hl : 1000 < (len : Int)) : Calls Try.prog 8 #[.slice A len cap] w fun e w' => e = .returned (.bool true) ∧ Below w.heap.size w w' := by
  have HA := Lib.hid (alive_ok w)
  go_enter Try.func8, Try.ntmps8
  go_wp2_with (go_at_call 11; ((with_reducible refine (HA.out).mono ?_); rintro e w1 ⟨rfl, hb1⟩; have hb1h := Lib.hid hb1; clear hb1))
  go_ret
  exact ⟨rfl, hb1h.out⟩
theorem bad (A : Option Addr) (cap len : Nat) (zs : List Int) (w : World) (hl : ¬ 1000 < (len : Int)) (hn : zs.length = len) (h : RdA w A zs) (hb : ¬ ((len = 512 ∨ len = 64) ∧ InM 8388608 zs)) : Calls Try.prog 8 #[.slice A len cap] w fun e w' => e = .returned (.bool true) ∧ Below w.heap.size w w' := by
  have HA := Lib.hid (alive_ok w)
  have HR := Lib.hid h
  have HI := Lib.hid (fun w1 r => fwd_bad A cap zs len w1 hn r hb)
  clear h hn hb
  go_enter Try.func8, Try.ntmps8
  go_wp2_with first
    | (go_at_call 11; ((with_reducible refine (HA.out).mono ?_); rintro e w1 ⟨rfl, hb1⟩; have hb1h := Lib.hid hb1; have r1 := Lib.hid (HR.out.below hb1); clear hb1))
    | (go_at_call 9; ((with_reducible refine (HI.out _ r1.out).mono ?_); rintro e w2 ⟨c, hc, rfl, rfl⟩; have hc2 : (c != 0) = true := (bne_of hc)))
  go_ret
  exact ⟨rfl, hb1h.out⟩
theorem walk (a0 : Option Addr) (len0 cap0 : Nat) (z0 : List Int) (W : World) (w0 : IsRow .i64 W a0 len0 cap0 z0) : Calls Try.prog 8 #[.slice a0 len0 cap0] W fun e w' => e = .returned (.bool true) ∧ Below W.heap.size W w' := by
  obtain ⟨xs, hl, hr, _, _⟩ := w0.open
  by_cases h0 : 1000 < (len0 : Int)
  · exact long a0 cap0 len0 W h0
  by_cases h1 : (len0 = 512 ∨ len0 = 64) ∧ InM 8388608 xs
  · obtain ⟨h2 | h2, h3⟩ := h1
    · subst h2; exact good512 a0 cap0 xs W hl hr h3
    · subst h2; exact good64 a0 cap0 xs W hl hr h3
  · exact bad a0 cap0 len0 xs W h0 hl hr h1
theorem own : ownKnob Try.prog.godebug = none := by kernel_rfl
theorem laidOut : laidOutB Try.prog = true := by kernel_rfl
set_option linter.unusedVariables false
set_option maxRecDepth 100000 in
theorem lifted (os : Os) (started : os.Started) (H : Type) (enc : TypeId × Value → H) :
    ReturnsInHanded {} Try.checked os 8 .any (Rows.mdctBackSpec.pre6 enc Try.prog Try.f8 Rows.mdctBackRow.domain false) (Rows.mdctBackSpec.post enc Try.prog Try.f8 false true false false) := by
  refine returnsInHanded_of_change (C := Try.checked) own started (by kernel_rfl) Try.func8
    (ChangeSpec.witness6 (enc := enc) (C := Try.checked) false ⟨#[], #[.slice none 0 0], []⟩ 8 (by kernel_rfl) (by kernel_rfl) (by kernel_rfl) (by kernel_rfl)) ?_
  intro W base args ds gs before hval0 hW hcnd _
  have hval : ∀ (j : Nat) t v, Try.f8.params[j]? = some t → args[j]? = some v → Value.okWide Try.prog W .any base t v := hval0
  have hW' := hW
  obtain ⟨p, q, hA0, hV, rfl, hfz, hnd⟩ := hW
  have hA : DataW.TrodAll enc Try.prog W 0 (fun _ => true) true Try.f8.params.toList args.toList ds p := hA0
  rw [Try.params8] at hA hval
  obtain ⟨v0, vs0, d0, ds0, p0, q0, hargs, rfl, rfl, h0, r0⟩ := trodAll_cons hA
  obtain ⟨rfl, rfl, rfl⟩ := trodAll_nil r0
  obtain rfl : args = #[v0] := by cases args; simp_all
  obtain ⟨rfl, rfl⟩ := trodVars_none hV
  obtain ⟨a0, len0, cap0, rfl⟩ := okWide_slice Try.underlying22 (hval 0 22 v0 rfl rfl)
  have k0 := h0
  have lt0 : ∀ x ∈ p0, x.block < W.heap.size := by obtain ⟨m, hm⟩ := k0; exact DataW.trod_lt m _ _ _ hm
  obtain ⟨z0, w0⟩ : ∃ zs, IsRow .i64 W a0 len0 cap0 zs := by
    obtain ⟨fuel, hf⟩ := h0
    rcases open_ints Try.underlying22 Try.underlying3 (by kernel_rfl) hf with ⟨hcs, _⟩ | ⟨x, l, c, zs, hcs, _, hl, hm, hz, _, hcell, hwz⟩
    · simp [Value.cells] at hcs
      obtain ⟨rfl, rfl, rfl⟩ := hcs
      exact ⟨[], .inl ⟨rfl, rfl, rfl, rfl⟩⟩
    · simp [Value.cells] at hcs
      obtain ⟨rfl, rfl, rfl⟩ := hcs
      exact ⟨zs, .inr ⟨_, rfl, hl, hm, by simpa using hz, hcell, hwz⟩⟩
  clear hA0 hval0
  refine (walk a0 len0 cap0 z0 W w0).mono fun e W' ⟨he, bel⟩ => ?_
  subst he
  exact ⟨_, rfl, _, _, _, [], _, [], hW', trodAll_mk1 (shut_bool Try.underlying4 _), (trodAll_cons_mk (Below.trod laidOut (by kernel_rfl) (of_decide_eq_true (by kernel_rfl)) k0 bel lt0) trodAll_mk0), rfl, bel.frame _, fun h => by cases h⟩

theorem over : Rows.mdctBackRow.holds Try.pinned (OpenSpec.ofChange Rows.mdctBackSpec) :=
  OpenClaim.holds_of_wide 8 Try.f8 rfl rfl rfl rfl rfl rfl rfl ⟨rfl, rfl, rfl, rfl, rfl⟩ rfl rfl rfl rfl rfl (by kernel_rfl) Try.func8 (by kernel_rfl)
    (of_decide_eq_true (by kernel_rfl)) (by unfold Func.isWrapper; first | (rw [if_pos (by decide +kernel)]; kernel_rfl) | (rw [if_neg (by decide +kernel)]; exact ⟨rfl, rfl⟩))
    (fun os started H enc _ => lifted os started H enc)

theorem proved : Rows.MdctBackSaid := over
end Go.Proofs.Ytbgbjbhgelllbaa.mdctBack
