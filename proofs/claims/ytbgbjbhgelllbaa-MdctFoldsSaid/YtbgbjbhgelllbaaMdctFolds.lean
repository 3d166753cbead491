/- In what comes back the second half is the same forward and backward, and two numbers of the first half that are as far from its ends are together 0 or 1. MdctFolds returns true, whatever the lines, the memory and the schedule. No condition. -/
import Derived.Test.YtbgbjbhgelllbaaMdAl
import Derived.WalkKit
import Derived.Below
import Derived.RegionTactic
import Derived.Deep.QuietTactic
import Derived.BigQuiet
import Derived.ChangeAlike
import Derived.Deep.OwnRows
import Derived.ProofKit
import Derived.OpenShut
import Derived.ChangeSlices
import Derived.Great.Walk
import Derived.ChangeKeysEq
import Derived.Lib.Hide
import Derived.ChangeOld
namespace Go.Proofs.Ytbgbjbhgelllbaa.mdctFolds
open Go Go.ChangeShapes Go.WideShapes Go.ChangeAt Go.RowKit Go.Proofs.Ytbgbjbhgelllbaa.Fx Go.Proofs.Ytbgbjbhgelllbaa.Mm Go.Proofs.Ytbgbjbhgelllbaa.Md
set_option maxRecDepth 100000 in
set_option maxHeartbeats 4000000 in
theorem good256 (A : Option Addr) (cap : Nat) (zs : List Int) (w : World) (hl : zs.length = 256) (h : RdA w A zs) (hM : InM 268435455 zs) :
    Calls Try.prog 5 #[.slice A 256 cap] w fun e w' => e = .returned (.bool true) ∧ Below w.heap.size w w' := by
  have HA := Lib.hid (alive_ok w)
  have HI := Lib.hid (fun w1 r => inv_ok A cap zs 256 512 256 1 26 w1 hl (.inl ⟨rfl, rfl, rfl, rfl, rfl⟩) r hM)
  have HR := Lib.hid h
  clear h hM hl
  go_enter Try.func5, Try.ntmps5
  go_wp2_with first
    | (go_at_call 11; ((with_reducible refine (HA.out).mono ?_); rintro e w1 ⟨rfl, hb1⟩; have hb1h := Lib.hid hb1; have r1 := Lib.hid (HR.out.below hb1); clear hb1))
    | (go_at_call 10; ((with_reducible refine (HI.out _ r1.out).mono ?_); rintro e w2 ⟨g, rfl, hg, hr2, hb2⟩; have hr := Lib.hid hr2; have hb2h := Lib.hid hb2; clear hr2 hb2))
  have hB0 : Below w.heap.size w w2 := hb1h.out.trans (hb2h.out.mono hb1h.out.size)
  have hglt : g < w2.heap.size := hr.out.lt
  clear hb1h hb2h r1 HA HI HR
  go_loopw [7] (fun i wr => ∃ k : Nat, k ≤ 256 ∧ i = .int .i64 k ∧ Hid (wr.rowIs g 3 512 (fun j => .int .i64 (bk zs 256 1 26 j))) ∧ Hid (Below w.heap.size w wr)) (fun i _ => 256 - (intOf i).toNat)
  case atStart => exact ⟨0, by omega, rfl, hr, Lib.hid hB0⟩
  case round =>
    obtain ⟨k, hk, rfl, hR, hB⟩ := hrel
    clear hr hB0
    by_cases hlt : k < 256
    · have hk2 : (k : Int) < 256 := by omega
      obtain ⟨j1, hj1⟩ : ∃ j : Nat, 255 - (k : Int) = (j : Int) := ⟨(255 - (k : Int)).toNat, by omega⟩
      obtain ⟨j2, hj2⟩ : ∃ j : Nat, 256 + (k : Int) = (j : Int) := ⟨256 + k, by omega⟩
      obtain ⟨j3, hj3⟩ : ∃ j : Nat, 511 - (k : Int) = (j : Int) := ⟨(511 - (k : Int)).toNat, by omega⟩
      have e1 := bk_lo (x := zs) (m := 256) (s := 1) (b := 26) (.inl ⟨rfl, rfl⟩) (by decide) k hk2
      have e2 := bk_hi (x := zs) (m := 256) (s := 1) (b := 26) (.inl ⟨rfl, rfl⟩) k hk2
      rw [show (256 - 1 - (k : Int)).toNat = j1 by omega] at e1
      rw [show (2 * 256 - 1 - (k : Int)).toNat = j3 by omega, show (256 + (k : Int)).toNat = j2 by omega] at e2
      have c0 := hR.out.cell (i := k) (by omega)
      have c1 := hR.out.cell (i := j1) (by omega)
      have c2 := hR.out.cell (i := j2) (by omega)
      have c3 := hR.out.cell (i := j3) (by omega)
      rw [e2] at c3
      clear e2
      generalize bk zs 256 1 26 k = X at *
      generalize bk zs 256 1 26 j1 = Y at *
      generalize bk zs 256 1 26 j2 = Z at *
      have hxy : X + Y = 0 ∨ X + Y = 1 := by omega
      clear e1
      rcases hxy with hxy | hxy
      all_goals
        have hxw : IntKind.i64.wrap (X + Y) = X + Y := by rw [hxy]; rfl
        go_wp2
        go_quiet (fail)
        have hbd := drewN_belowL wr nq
        have d2 := (hbd.cell (p := ⟨g, j2, none⟩) hR.out.lt).trans c2
        have d3 := (hbd.cell (p := ⟨g, j3, none⟩) hR.out.lt).trans c3
        have hR1 := Lib.hid (hR.out.of_block (hbd.block _ hR.out.lt))
        have hB1 := Lib.hid (hB.out.trans (hbd.mono hB.out.size))
        clear c0 c1 c2 c3 hR hB hbd
        generalize wr.drewN nq = u1 at *
        go_wp2
        go_quiet (fail)
        have hbe := drewN_belowL u1 nq
        have hR2 := Lib.hid (hR1.out.of_block (hbe.block _ hR1.out.lt))
        have hB2 := Lib.hid (hB1.out.trans (hbe.mono hB1.out.size))
        go_wp2
        go_roundw
        case rel => exact ⟨k + 1, by omega, by go_num, hR2, hB2⟩
        case measure => simp [intOf]; omega
    · have hB' := hB.out
      have hlt2 : ¬ (k : Int) < 256 := by omega
      go_wp2
      go_ret
      exact ⟨rfl, hB'⟩
set_option maxRecDepth 100000 in
set_option maxHeartbeats 4000000 in
theorem good32 (A : Option Addr) (cap : Nat) (zs : List Int) (w : World) (hl : zs.length = 32) (h : RdA w A zs) (hM : InM 268435455 zs) :
    Calls Try.prog 5 #[.slice A 32 cap] w fun e w' => e = .returned (.bool true) ∧ Below w.heap.size w w' := by
  have HA := Lib.hid (alive_ok w)
  have HI := Lib.hid (fun w1 r => inv_ok A cap zs 32 64 32 8 23 w1 hl (.inr ⟨rfl, rfl, rfl, rfl, rfl⟩) r hM)
  have HR := Lib.hid h
  clear h hM hl
  go_enter Try.func5, Try.ntmps5
  go_wp2_with first
    | (go_at_call 11; ((with_reducible refine (HA.out).mono ?_); rintro e w1 ⟨rfl, hb1⟩; have hb1h := Lib.hid hb1; have r1 := Lib.hid (HR.out.below hb1); clear hb1))
    | (go_at_call 10; ((with_reducible refine (HI.out _ r1.out).mono ?_); rintro e w2 ⟨g, rfl, hg, hr2, hb2⟩; have hr := Lib.hid hr2; have hb2h := Lib.hid hb2; clear hr2 hb2))
  have hB0 : Below w.heap.size w w2 := hb1h.out.trans (hb2h.out.mono hb1h.out.size)
  have hglt : g < w2.heap.size := hr.out.lt
  clear hb1h hb2h r1 HA HI HR
  go_loopw [7] (fun i wr => ∃ k : Nat, k ≤ 32 ∧ i = .int .i64 k ∧ Hid (wr.rowIs g 3 64 (fun j => .int .i64 (bk zs 32 8 23 j))) ∧ Hid (Below w.heap.size w wr)) (fun i _ => 32 - (intOf i).toNat)
  case atStart => exact ⟨0, by omega, rfl, hr, Lib.hid hB0⟩
  case round =>
    obtain ⟨k, hk, rfl, hR, hB⟩ := hrel
    clear hr hB0
    by_cases hlt : k < 32
    · have hk2 : (k : Int) < 32 := by omega
      obtain ⟨j1, hj1⟩ : ∃ j : Nat, 31 - (k : Int) = (j : Int) := ⟨(31 - (k : Int)).toNat, by omega⟩
      obtain ⟨j2, hj2⟩ : ∃ j : Nat, 32 + (k : Int) = (j : Int) := ⟨32 + k, by omega⟩
      obtain ⟨j3, hj3⟩ : ∃ j : Nat, 63 - (k : Int) = (j : Int) := ⟨(63 - (k : Int)).toNat, by omega⟩
      have e1 := bk_lo (x := zs) (m := 32) (s := 8) (b := 23) (.inr ⟨rfl, rfl⟩) (by decide) k hk2
      have e2 := bk_hi (x := zs) (m := 32) (s := 8) (b := 23) (.inr ⟨rfl, rfl⟩) k hk2
      rw [show (32 - 1 - (k : Int)).toNat = j1 by omega] at e1
      rw [show (2 * 32 - 1 - (k : Int)).toNat = j3 by omega, show (32 + (k : Int)).toNat = j2 by omega] at e2
      have c0 := hR.out.cell (i := k) (by omega)
      have c1 := hR.out.cell (i := j1) (by omega)
      have c2 := hR.out.cell (i := j2) (by omega)
      have c3 := hR.out.cell (i := j3) (by omega)
      rw [e2] at c3
      clear e2
      generalize bk zs 32 8 23 k = X at *
      generalize bk zs 32 8 23 j1 = Y at *
      generalize bk zs 32 8 23 j2 = Z at *
      have hxy : X + Y = 0 ∨ X + Y = 1 := by omega
      clear e1
      rcases hxy with hxy | hxy
      all_goals
        have hxw : IntKind.i64.wrap (X + Y) = X + Y := by rw [hxy]; rfl
        go_wp2
        go_quiet (fail)
        have hbd := drewN_belowL wr nq
        have d2 := (hbd.cell (p := ⟨g, j2, none⟩) hR.out.lt).trans c2
        have d3 := (hbd.cell (p := ⟨g, j3, none⟩) hR.out.lt).trans c3
        have hR1 := Lib.hid (hR.out.of_block (hbd.block _ hR.out.lt))
        have hB1 := Lib.hid (hB.out.trans (hbd.mono hB.out.size))
        clear c0 c1 c2 c3 hR hB hbd
        generalize wr.drewN nq = u1 at *
        go_wp2
        go_quiet (fail)
        have hbe := drewN_belowL u1 nq
        have hR2 := Lib.hid (hR1.out.of_block (hbe.block _ hR1.out.lt))
        have hB2 := Lib.hid (hB1.out.trans (hbe.mono hB1.out.size))
        go_wp2
        go_roundw
        case rel => exact ⟨k + 1, by omega, by go_num, hR2, hB2⟩
        case measure => simp [intOf]; omega
    · have hB' := hB.out
      have hlt2 : ¬ (k : Int) < 32 := by omega
      go_wp2
      go_ret
      exact ⟨rfl, hB'⟩
theorem long (A : Option Addr) (cap len : Nat) (w : World) (hl : 1000 < (len : Int)) : Calls Try.prog 5 #[.slice A len cap] w fun e w' => e = .returned (.bool true) ∧ Below w.heap.size w w' := by
  have HA := Lib.hid (alive_ok w)
  go_enter Try.func5, Try.ntmps5
  go_wp2_with (go_at_call 11; ((with_reducible refine (HA.out).mono ?_); rintro e w1 ⟨rfl, hb1⟩; have hb1h := Lib.hid hb1; clear hb1))
  go_ret
  exact ⟨rfl, hb1h.out⟩
theorem bad (A : Option Addr) (cap len : Nat) (zs : List Int) (w : World) (hl : ¬ 1000 < (len : Int)) (hn : zs.length = len) (h : RdA w A zs) (hb : ¬ ((len = 256 ∨ len = 32) ∧ InM 268435455 zs)) : Calls Try.prog 5 #[.slice A len cap] w fun e w' => e = .returned (.bool true) ∧ Below w.heap.size w w' := by
  have HA := Lib.hid (alive_ok w)
  have HR := Lib.hid h
  have HI := Lib.hid (fun w1 r => inv_bad A cap zs len w1 hn r hb)
  clear h hn hb
  go_enter Try.func5, Try.ntmps5
  go_wp2_with first
    | (go_at_call 11; ((with_reducible refine (HA.out).mono ?_); rintro e w1 ⟨rfl, hb1⟩; have hb1h := Lib.hid hb1; have r1 := Lib.hid (HR.out.below hb1); clear hb1))
    | (go_at_call 10; ((with_reducible refine (HI.out _ r1.out).mono ?_); rintro e w2 ⟨c, hc, rfl, rfl⟩; have hc2 : (c != 0) = true := (bne_of hc)))
  go_ret
  exact ⟨rfl, hb1h.out⟩
theorem walk (a0 : Option Addr) (len0 cap0 : Nat) (z0 : List Int) (W : World) (w0 : IsRow .i64 W a0 len0 cap0 z0) : Calls Try.prog 5 #[.slice a0 len0 cap0] W fun e w' => e = .returned (.bool true) ∧ Below W.heap.size W w' := by
  obtain ⟨xs, hl, hr, _, _⟩ := w0.open
  by_cases h0 : 1000 < (len0 : Int)
  · exact long a0 cap0 len0 W h0
  by_cases h1 : (len0 = 256 ∨ len0 = 32) ∧ InM 268435455 xs
  · obtain ⟨h2 | h2, h3⟩ := h1
    · subst h2; exact good256 a0 cap0 xs W hl hr h3
    · subst h2; exact good32 a0 cap0 xs W hl hr h3
  · exact bad a0 cap0 len0 xs W h0 hl hr h1
theorem own : ownKnob Try.prog.godebug = none := by kernel_rfl
theorem laidOut : laidOutB Try.prog = true := by kernel_rfl
set_option linter.unusedVariables false
set_option maxRecDepth 100000 in
theorem lifted (os : Os) (started : os.Started) (H : Type) (enc : TypeId × Value → H) :
    ReturnsInHanded {} Try.checked os 5 .any (Rows.mdctFoldsSpec.pre6 enc Try.prog Try.f5 Rows.mdctFoldsRow.domain false) (Rows.mdctFoldsSpec.post enc Try.prog Try.f5 false true false false) := by
  refine returnsInHanded_of_change (C := Try.checked) own started (by kernel_rfl) Try.func5
    (ChangeSpec.witness6 (enc := enc) (C := Try.checked) false ⟨#[], #[.slice none 0 0], []⟩ 8 (by kernel_rfl) (by kernel_rfl) (by kernel_rfl) (by kernel_rfl)) ?_
  intro W base args ds gs before hval0 hW hcnd _
  have hval : ∀ (j : Nat) t v, Try.f5.params[j]? = some t → args[j]? = some v → Value.okWide Try.prog W .any base t v := hval0
  have hW' := hW
  obtain ⟨p, q, hA0, hV, rfl, hfz, hnd⟩ := hW
  have hA : DataW.TrodAll enc Try.prog W 0 (fun _ => true) true Try.f5.params.toList args.toList ds p := hA0
  rw [Try.params5] at hA hval
  obtain ⟨v0, vs0, d0, ds0, p0, q0, hargs, rfl, rfl, h0, r0⟩ := trodAll_cons hA
  obtain ⟨rfl, rfl, rfl⟩ := trodAll_nil r0
  obtain rfl : args = #[v0] := by cases args; simp_all
  obtain ⟨rfl, rfl⟩ := trodVars_none hV
  obtain ⟨a0, len0, cap0, rfl⟩ := okWide_slice Try.underlying22 (hval 0 22 v0 rfl rfl)
  have k0 := h0
  have lt0 : ∀ x ∈ p0, x.block < W.heap.size := by obtain ⟨m, hm⟩ := k0; exact DataW.trod_lt m _ _ _ hm
  obtain ⟨z0, w0⟩ : ∃ zs, IsRow .i64 W a0 len0 cap0 zs := by
    obtain ⟨fuel, hf⟩ := h0
    rcases open_ints Try.underlying22 Try.underlying3 (by kernel_rfl) hf with ⟨hcs, _⟩ | ⟨x, l, c, zs, hcs, _, hl, hm, hz, _, hcell, hwz⟩
    · simp [Value.cells] at hcs
      obtain ⟨rfl, rfl, rfl⟩ := hcs
      exact ⟨[], .inl ⟨rfl, rfl, rfl, rfl⟩⟩
    · simp [Value.cells] at hcs
      obtain ⟨rfl, rfl, rfl⟩ := hcs
      exact ⟨zs, .inr ⟨_, rfl, hl, hm, by simpa using hz, hcell, hwz⟩⟩
  clear hA0 hval0
  refine (walk a0 len0 cap0 z0 W w0).mono fun e W' ⟨he, bel⟩ => ?_
  subst he
  exact ⟨_, rfl, _, _, _, [], _, [], hW', trodAll_mk1 (shut_bool Try.underlying4 _), (trodAll_cons_mk (Below.trod laidOut (by kernel_rfl) (of_decide_eq_true (by kernel_rfl)) k0 bel lt0) trodAll_mk0), rfl, bel.frame _, fun h => by cases h⟩

theorem over : Rows.mdctFoldsRow.holds Try.pinned (OpenSpec.ofChange Rows.mdctFoldsSpec) :=
  OpenClaim.holds_of_wide 5 Try.f5 rfl rfl rfl rfl rfl rfl rfl ⟨rfl, rfl, rfl, rfl, rfl⟩ rfl rfl rfl rfl rfl (by kernel_rfl) Try.func5 (by kernel_rfl)
    (of_decide_eq_true (by kernel_rfl)) (by unfold Func.isWrapper; first | (rw [if_pos (by decide +kernel)]; kernel_rfl) | (rw [if_neg (by decide +kernel)]; exact ⟨rfl, rfl⟩))
    (fun os started H enc _ => lifted os started H enc)

theorem proved : Rows.MdctFoldsSaid := over
end Go.Proofs.Ytbgbjbhgelllbaa.mdctFolds
