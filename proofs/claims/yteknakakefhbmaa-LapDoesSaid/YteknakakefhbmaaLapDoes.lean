/- Frames overlap as the document says. LapDoes returns true, whatever the arguments, the memory and the schedule. No condition. -/
import Derived.Test.YteknakakefhbmaaLdLaw
import Derived.Test.YteknakakefhbmaaLpOp
import Derived.WalkKit
import Derived.Below
import Derived.RegionTactic
import Derived.Deep.QuietTactic
import Derived.BigQuiet
import Derived.ChangeAlike
import Derived.Deep.OwnRows
import Derived.Deep.RegionLaw
import Derived.ProofKit
import Derived.OpenShut
import Derived.ChangeSlices
import Derived.Lib.Hide
import Derived.Great.Walk
import Derived.ChangeKeysEq
import Derived.ChangeOld
import Derived.ShutString
namespace Go.Proofs.Yteknakakefhbmaa.lapDoes
open Go Go.ChangeShapes Go.WideShapes Go.ChangeAt Go.RowKit Go.Proofs.Yteknakakefhbmaa.Fx Go.Proofs.Yteknakakefhbmaa.Rk Go.Proofs.Yteknakakefhbmaa.Mm Go.Proofs.Yteknakakefhbmaa.Md Go.Proofs.Yteknakakefhbmaa.Bl Go.Proofs.Yteknakakefhbmaa.Lp Go.Proofs.Yteknakakefhbmaa.Cpy Go.Proofs.Yteknakakefhbmaa.Rf Go.Proofs.Yteknakakefhbmaa.Rl

theorem u8_lo {x : Int} (h : (Lit.int .u8 x).wf = true) : 0 ≤ x := by simp [Lit.wf] at h; have e : IntKind.u8.min = 0 := rfl; omega
theorem caps {W : World} {a : Option Addr} {len cap : Nat} {z : List Int} (h : IsRow .i64 W a len cap z) : len ≤ cap ∧ cap ≤ maxLen := by
  rcases h with ⟨_, h1, h2, _⟩ | ⟨_, _, h1, h2, _⟩
  · subst h1 h2; unfold maxLen; omega
  · exact ⟨h1, h2⟩
set_option maxRecDepth 100000 in
theorem long (A L : Option Addr) (cap cl len len' : Nat) (s h q sh : Int) (w : World) (hl : 1000 < (len : Int) ∨ 1000 < (len' : Int)) : Calls Try.prog 9 #[.agg #[.slice A len cap, .int .u8 s, .int .u8 h], .int .u8 q, .int .u8 sh, .slice L len' cl] w fun e w' => e = .returned (.bool true) ∧ Below w.heap.size w w' := by
  obtain ⟨x0, x1, x2⟩ := box38 w (.slice A len cap) (.int .u8 s) (.int .u8 h)
  have b0 := Lib.hid ((Below.refl _ w).alloc (Nat.le_refl _) (.cells #[.slice A len cap, .int .u8 s, .int .u8 h] 38))
  by_cases h1 : 1000 < (len : Int)
  · clear hl
    go_enter Try.func9, Try.ntmps9
    go_wp2
    go_ret
    exact ⟨rfl, b0.out⟩
  · have h2 : 1000 < (len' : Int) := by omega
    clear hl
    go_enter Try.func9, Try.ntmps9
    go_wp2
    go_ret
    exact ⟨rfl, b0.out⟩
theorem walk (a : Option Addr) (len cap : Nat) (z : List Int) (s h q sh : Int) (b : Option Addr) (len2 cap2 : Nat) (z2 : List Int) (w : World) (wr : IsRow .i64 w a len cap z) (_ : (Lit.int .u8 s).wf = true) (wh : (Lit.int .u8 h).wf = true) (w1 : (Lit.int .u8 q).wf = true) (w2 : (Lit.int .u8 sh).wf = true) (wr2 : IsRow .i64 w b len2 cap2 z2) :
    Calls Try.prog 9 #[.agg #[.slice a len cap, .int .u8 s, .int .u8 h], .int .u8 q, .int .u8 sh, .slice b len2 cap2] w fun e w' => e = .returned (.bool true) ∧ Below w.heap.size w w' := by
  have ko := caps wr2
  obtain ⟨tail, hx, _, hr, hc⟩ := row_all wr
  obtain ⟨lines, hx2, _, hr', hc'⟩ := row_all wr2
  subst hx hx2
  by_cases n0 : 1000 < (tail.length : Int)
  · exact long a b cap cap2 _ _ s h q sh w (.inl n0)
  by_cases n1 : 1000 < (lines.length : Int)
  · exact long a b cap cap2 _ _ s h q sh w (.inr n1)
  exact does a b cap cap2 tail lines s h q sh w (u8_lo w1) (u8_lo wh) (u8_lo w2) n0 n1 hr hr' hc hc' ko

theorem own : ownKnob Try.prog.godebug = none := by kernel_rfl
theorem laidOut : laidOutB Try.prog = true := by kernel_rfl
set_option linter.unusedVariables false
set_option maxRecDepth 100000 in
theorem lifted (os : Os) (started : os.Started) (H : Type) (enc : TypeId × Value → H) :
    ReturnsInHanded {} Try.checked os 9 .any (Rows.lapDoesSpec.pre6 enc Try.prog Try.f9 Rows.lapDoesRow.domain false) (Rows.lapDoesSpec.post enc Try.prog Try.f9 false true false false) := by
  refine returnsInHanded_of_change (C := Try.checked) own started (by kernel_rfl) Try.func9
    (ChangeSpec.witness6 (enc := enc) (C := Try.checked) false ⟨#[], #[.agg #[.slice none 0 0, .int .u8 0, .int .u8 0], .int .u8 0, .int .u8 0, .slice none 0 0], []⟩ 8 (by kernel_rfl) (by kernel_rfl) (by kernel_rfl) (by kernel_rfl)) ?_
  intro W base args ds gs before hval0 hW hcnd _
  have hval : ∀ (j : Nat) t v, Try.f9.params[j]? = some t → args[j]? = some v → Value.okWide Try.prog W .any base t v := hval0
  have hW' := hW
  obtain ⟨p, q, hA0, hV, rfl, hfz, hnd⟩ := hW
  have hA : DataW.TrodAll enc Try.prog W 0 (fun _ => true) true Try.f9.params.toList args.toList ds p := hA0
  rw [Try.params9] at hA hval
  obtain ⟨v0, vs0, d0, ds0, p0, q0, hargs, rfl, rfl, h0, r0⟩ := trodAll_cons hA
  obtain ⟨v1, vs1, d1, ds1, p1, q1, rfl, rfl, rfl, h1, r1⟩ := trodAll_cons r0
  obtain ⟨v2, vs2, d2, ds2, p2, q2, rfl, rfl, rfl, h2, r2⟩ := trodAll_cons r1
  obtain ⟨v3, vs3, d3, ds3, p3, q3, rfl, rfl, rfl, h3, r3⟩ := trodAll_cons r2
  obtain ⟨rfl, rfl, rfl⟩ := trodAll_nil r3
  obtain rfl : args = #[v0, v1, v2, v3] := by cases args; simp_all
  obtain ⟨rfl, rfl⟩ := trodVars_none hV
  have k0 := h0
  have lt0 : ∀ x ∈ p0, x.block < W.heap.size := by obtain ⟨m, hm⟩ := k0; exact DataW.trod_lt m _ _ _ hm
  obtain ⟨a0, len0, cap0, z0, a0s, a0h, rfl, w0, w0s, w0h⟩ := open_lap Try.underlying38 rfl rfl rfl Try.underlying22 Try.underlying5 Try.underlying5 Try.underlying3 (by kernel_rfl) (by kernel_rfl) (by kernel_rfl) (by kernel_rfl) (by kernel_rfl) (hval 0 38 v0 rfl rfl) h0
  obtain ⟨a1, rfl, rfl, rfl, w1⟩ := open_int Try.underlying5 (hval 1 5 v1 rfl rfl) h1
  obtain ⟨a2, rfl, rfl, rfl, w2⟩ := open_int Try.underlying5 (hval 2 5 v2 rfl rfl) h2
  obtain ⟨a3, len3, cap3, rfl⟩ := okWide_slice Try.underlying22 (hval 3 22 v3 rfl rfl)
  have k3 := h3
  have lt3 : ∀ x ∈ p3, x.block < W.heap.size := by obtain ⟨m, hm⟩ := k3; exact DataW.trod_lt m _ _ _ hm
  obtain ⟨z3, w3⟩ : ∃ zs, IsRow .i64 W a3 len3 cap3 zs := by
    obtain ⟨fuel, hf⟩ := h3
    rcases open_ints Try.underlying22 Try.underlying3 (by kernel_rfl) hf with ⟨hcs, _⟩ | ⟨x, l, c, zs, hcs, _, hl, hm, hz, _, hcell, hwz⟩
    · simp [Value.cells] at hcs
      obtain ⟨rfl, rfl, rfl⟩ := hcs
      exact ⟨[], .inl ⟨rfl, rfl, rfl, rfl⟩⟩
    · simp [Value.cells] at hcs
      obtain ⟨rfl, rfl, rfl⟩ := hcs
      exact ⟨zs, .inr ⟨_, rfl, hl, hm, by simpa using hz, hcell, hwz⟩⟩
  clear hA0 hval0
  refine (walk a0 len0 cap0 z0 a0s a0h a1 a2 a3 len3 cap3 z3 W w0 w0s w0h w1 w2 w3).mono fun e W' ⟨he, bel⟩ => ?_
  subst he
  exact ⟨_, rfl, _, _, _, [], _, [], hW', trodAll_mk1 (shut_bool Try.underlying4 _), (trodAll_cons_mk (Below.trod laidOut (by kernel_rfl) (of_decide_eq_true (by kernel_rfl)) k0 bel lt0) (trodAll_cons_mk (shut_int Try.underlying5 w1) (trodAll_cons_mk (shut_int Try.underlying5 w2) (trodAll_cons_mk (Below.trod laidOut (by kernel_rfl) (of_decide_eq_true (by kernel_rfl)) k3 bel lt3) trodAll_mk0)))), rfl, bel.frame _, fun h => by cases h⟩

theorem over : Rows.lapDoesRow.holds Try.pinned (OpenSpec.ofChange Rows.lapDoesSpec) :=
  OpenClaim.holds_of_wide 9 Try.f9 rfl rfl rfl rfl rfl rfl rfl ⟨rfl, rfl, rfl, rfl, rfl⟩ rfl rfl rfl rfl rfl (by kernel_rfl) Try.func9 (by kernel_rfl)
    (of_decide_eq_true (by kernel_rfl)) (by unfold Func.isWrapper; first | (rw [if_pos (by decide +kernel)]; kernel_rfl) | (rw [if_neg (by decide +kernel)]; exact ⟨rfl, rfl⟩))
    (fun os started H enc _ => lifted os started H enc)

theorem proved : Rows.LapDoesSaid := over
end Go.Proofs.Yteknakakefhbmaa.lapDoes
