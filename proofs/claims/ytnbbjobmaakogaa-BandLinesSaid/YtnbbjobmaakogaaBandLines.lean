/- Each line is in just the band that begins at it, or ahead of it, and ends behind it. BandLines returns true, whatever the rate, the kind of window and the line, the memory and the schedule. No condition. -/
import Derived.Test.YtnbbjobmaakogaaBdAl
import Derived.WalkKit
import Derived.Deep.QuietTactic
import Derived.BigQuiet
import Derived.ProofKit
import Derived.OpenShut
import Derived.ShutString
import Derived.ChangeOld
import Derived.Below
import Derived.Lib.Hide
namespace Go.Proofs.Ytnbbjobmaakogaa.bandLines
open Go Go.ChangeShapes Go.WideShapes Go.ChangeAt Go.RowKit Go.Proofs.Ytnbbjobmaakogaa.Lo Go.Proofs.Ytnbbjobmaakogaa.Bd

theorem bad (r x : Int) (s : Bool) (w : World) (h : r < 0 ∨ 11 < r) :
    Calls Try.prog 5 #[.int .i64 r, .bool s, .int .i64 x] w fun e w' => e = .returned (.bool true) ∧ Below w.heap.size w w' := by
  have h := Lib.hid h
  go_enter Try.func5, Try.ntmps5
  go_wp2_with (first
    | (go_at_call 21; ((with_reducible refine (bd_alive _).mono ?_); rintro e w1 ⟨rfl, hb1⟩))
    | (go_at_call 14; ((with_reducible refine (off_bad r s _ h.out).mono ?_); rintro e w2 ⟨rfl, rfl⟩))
    | (go_at_call 18; ((with_reducible refine (of_bad r x s _ h.out).mono ?_); rintro e w2 ⟨rfl, rfl⟩)))
  go_ret
  exact ⟨rfl, hb1⟩

set_option maxRecDepth 100000 in
theorem out (r x : Int) (s : Bool) (w : World) (r0 : 0 ≤ r) (r1 : r ≤ 11) (h : x < 0 ∨ nOf s ≤ x) :
    Calls Try.prog 5 #[.int .i64 r, .bool s, .int .i64 x] w fun e w' => e = .returned (.bool true) ∧ Below w.heap.size w w' := by
  obtain ⟨f0, f1, _⟩ := fact r s r0 r1
  obtain ⟨n, hn⟩ : ∃ n, (L r s).length = n + 1 := ⟨(L r s).length - 1, by omega⟩
  have HN := Lib.hid hn
  rw [hn] at f0 f1
  clear hn
  obtain ⟨N, hN⟩ : ∃ N, nOf s = N := ⟨_, rfl⟩
  have hC : ∀ w, Calls Try.prog 14 #[.int .i64 r, .bool s] w fun e w' => ∃ g cap, e = .returned (.tuple #[.slice (some ⟨g, 0, none⟩) (n + 1) cap, .int .i64 0]) ∧ w'.cell? ⟨g, n, none⟩ = some (.int .i64 N) ∧ g < w'.heap.size ∧ Hid (Row w' g cap (L r s)) ∧ Below w.heap.size w w' := fun w => (off_row r s w r0 r1).mono fun e w' h => by
    obtain ⟨g, cap, h1, h2, h3, h4⟩ := h
    refine ⟨g, cap, by rw [h1, HN.out], ?_, h3.lt, Lib.hid h3, h4⟩
    have := last_cell r0 r1 h3
    rw [HN.out, hN] at this
    exact this
  have HC := Lib.hid hC
  clear hC
  have HO := Lib.hid (fun w => of_out r x s w r0 r1 h)
  rw [hN] at h
  clear hN
  have H := Lib.hid h
  clear h
  by_cases hx : x < 0
  · go_enter Try.func5, Try.ntmps5
    go_wp2_with (first
      | (go_at_call 21; ((with_reducible refine (bd_alive _).mono ?_); rintro e w1 ⟨rfl, hb1⟩))
      | (go_at_call 14; ((with_reducible refine (HC.out _).mono ?_); rintro e w2 ⟨g, cap, rfl, q1, hg, hR, hb2⟩))
      | (go_at_call 18; ((with_reducible refine (HO.out _).mono ?_); rintro e w3 ⟨rfl, hb3⟩)))
    go_ret
    exact ⟨rfl, belowT hb1 (belowT hb2 hb3)⟩
  · have hx2 : N ≤ x := by have := H.out; omega
    go_enter Try.func5, Try.ntmps5
    go_wp2_with (first
      | (go_at_call 21; ((with_reducible refine (bd_alive _).mono ?_); rintro e w1 ⟨rfl, hb1⟩))
      | (go_at_call 14; ((with_reducible refine (HC.out _).mono ?_); rintro e w2 ⟨g, cap, rfl, q1, hg, hR, hb2⟩))
      | (go_at_call 18; ((with_reducible refine (HO.out _).mono ?_); rintro e w3 ⟨rfl, hb3⟩; have q2 := (hb3.cell (p := ⟨g, n, none⟩) hg).trans q1)))
    go_ret
    exact ⟨rfl, belowT hb1 (belowT hb2 hb3)⟩

set_option maxRecDepth 100000 in
theorem ins (r x : Int) (s : Bool) (w : World) (r0 : 0 ≤ r) (r1 : r ≤ 11) (x0 : 0 ≤ x) (h : x < nOf s) :
    Calls Try.prog 5 #[.int .i64 r, .bool s, .int .i64 x] w fun e w' => e = .returned (.bool true) ∧ Below w.heap.size w w' := by
  obtain ⟨f0, f1, _⟩ := fact r s r0 r1
  obtain ⟨n, hn⟩ : ∃ n, (L r s).length = n + 1 := ⟨(L r s).length - 1, by omega⟩
  have HN := Lib.hid hn
  rw [hn] at f0 f1
  clear hn
  obtain ⟨N, hN⟩ : ∃ N, nOf s = N := ⟨_, rfl⟩
  have hC : ∀ w, Calls Try.prog 14 #[.int .i64 r, .bool s] w fun e w' => ∃ g cap, e = .returned (.tuple #[.slice (some ⟨g, 0, none⟩) (n + 1) cap, .int .i64 0]) ∧ w'.cell? ⟨g, n, none⟩ = some (.int .i64 N) ∧ g < w'.heap.size ∧ Hid (Row w' g cap (L r s)) ∧ Below w.heap.size w w' := fun w => (off_row r s w r0 r1).mono fun e w' h => by
    obtain ⟨g, cap, h1, h2, h3, h4⟩ := h
    refine ⟨g, cap, by rw [h1, HN.out], ?_, h3.lt, Lib.hid h3, h4⟩
    have := last_cell r0 r1 h3
    rw [HN.out, hN] at this
    exact this
  have HC := Lib.hid hC
  clear hC
  have hI : ∀ w, Calls Try.prog 18 #[.int .i64 r, .bool s, .int .i64 x] w fun e w' => ∃ b : Nat, e = .returned (.tuple #[.int .i64 b, .int .i64 0]) ∧ (b < n ∧ Hid (In (L r s) x b)) ∧ Below w.heap.size w w' := fun w => (of_in r x s w r0 r1 x0 h).mono fun e w' h => by
    obtain ⟨b, h1, h2, h3⟩ := h
    have := h2.1
    rw [HN.out] at this
    exact ⟨b, h1, ⟨by omega, Lib.hid h2⟩, h3⟩
  have HI := Lib.hid hI
  clear hI hN h
  go_enter Try.func5, Try.ntmps5
  go_wp2_with (first
    | (go_at_call 21; ((with_reducible refine (bd_alive _).mono ?_); rintro e w1 ⟨rfl, hb1⟩))
    | (go_at_call 14; ((with_reducible refine (HC.out _).mono ?_); rintro e w2 ⟨g, cap, rfl, q1, hg, hR, hb2⟩; clear q1))
    | (go_at_call 18; ((with_reducible refine (HI.out _).mono ?_); rintro e w3 ⟨b, rfl, ⟨hbn, hIn⟩, hb3⟩; have hR3 := Lib.hid (hR.out.below hb3); have q1 := hR3.out.cell (i := b) (by rw [HN.out]; omega); have q2 := hR3.out.cell (i := b + 1) (by rw [HN.out]; omega); have q3 := hIn.out.2.1; have q4 := hIn.out.2.2; generalize (L r s).getD b 0 = c at q1 q3; generalize (L r s).getD (b + 1) 0 = d at q2 q4)))
  go_ret
  exact ⟨rfl, belowT hb1 (belowT hb2 hb3)⟩

theorem walk (r : Int) (s : Bool) (x : Int) (w : World) (_ : (Lit.int .i64 r).wf = true) (_ : (Lit.int .i64 x).wf = true) :
    Calls Try.prog 5 #[.int .i64 r, .bool s, .int .i64 x] w fun e w' => e = .returned (.bool true) ∧ Below w.heap.size w w' := by
  by_cases h : r < 0 ∨ 11 < r
  · exact bad r x s w h
  by_cases h2 : x < 0 ∨ nOf s ≤ x
  · exact out r x s w (by omega) (by omega) h2
  · exact ins r x s w (by omega) (by omega) (by omega) (by omega)

theorem own : ownKnob Try.prog.godebug = none := by kernel_rfl
set_option linter.unusedVariables false
set_option maxRecDepth 100000 in
theorem lifted (os : Os) (started : os.Started) (H : Type) (enc : TypeId × Value → H) :
    ReturnsInHanded {} Try.checked os 5 .any (Rows.bandLinesSpec.pre6 enc Try.prog Try.f5 Rows.bandLinesRow.domain false) (Rows.bandLinesSpec.post enc Try.prog Try.f5 false true false false) := by
  refine returnsInHanded_of_change (C := Try.checked) own started (by kernel_rfl) Try.func5
    (ChangeSpec.witness6 (enc := enc) (C := Try.checked) false ⟨#[], #[.int .i64 0, .bool false, .int .i64 0], []⟩ 8 (by kernel_rfl) (by kernel_rfl) (by kernel_rfl) (by kernel_rfl)) ?_
  intro W base args ds gs before hval0 hW hcnd _
  have hval : ∀ (j : Nat) t v, Try.f5.params[j]? = some t → args[j]? = some v → Value.okWide Try.prog W .any base t v := hval0
  have hW' := hW
  obtain ⟨p, q, hA0, hV, rfl, hfz, hnd⟩ := hW
  have hA : DataW.TrodAll enc Try.prog W 0 (fun _ => true) true Try.f5.params.toList args.toList ds p := hA0
  rw [Try.params5] at hA hval
  obtain ⟨v0, vs0, d0, ds0, p0, q0, hargs, rfl, rfl, h0, r0⟩ := trodAll_cons hA
  obtain ⟨v1, vs1, d1, ds1, p1, q1, rfl, rfl, rfl, h1, r1⟩ := trodAll_cons r0
  obtain ⟨v2, vs2, d2, ds2, p2, q2, rfl, rfl, rfl, h2, r2⟩ := trodAll_cons r1
  obtain ⟨rfl, rfl, rfl⟩ := trodAll_nil r2
  obtain rfl : args = #[v0, v1, v2] := by cases args; simp_all
  obtain ⟨rfl, rfl⟩ := trodVars_none hV
  obtain ⟨a0, rfl, rfl, rfl, w0⟩ := open_int Try.underlying3 (hval 0 3 v0 rfl rfl) h0
  obtain ⟨a1, rfl, rfl, rfl⟩ := open_bool Try.underlying4 (hval 1 4 v1 rfl rfl) h1
  obtain ⟨a2, rfl, rfl, rfl, w2⟩ := open_int Try.underlying3 (hval 2 3 v2 rfl rfl) h2
  clear hA0 hval0
  simp only [List.append_nil] at hW'
  refine (walk a0 a1 a2 W w0 w2).mono fun e W' ⟨he, bel⟩ => ?_
  subst he
  exact ⟨_, rfl, _, _, _, [], _, [], hW', trodAll_mk1 (shut_bool Try.underlying4 _), (trodAll_cons_mk (shut_int Try.underlying3 w0) (trodAll_cons_mk (shut_bool Try.underlying4 a1) (trodAll_cons_mk (shut_int Try.underlying3 w2) trodAll_mk0))), rfl, bel.frame _, fun h => by cases h⟩

theorem over : Rows.bandLinesRow.holds Try.pinned (OpenSpec.ofChange Rows.bandLinesSpec) :=
  OpenClaim.holds_of_wide 5 Try.f5 rfl rfl rfl rfl rfl rfl rfl ⟨rfl, rfl, rfl, rfl, rfl⟩ rfl rfl rfl rfl rfl (by kernel_rfl) Try.func5 (by kernel_rfl)
    (of_decide_eq_true (by kernel_rfl)) (by unfold Func.isWrapper; first | (rw [if_pos (by decide +kernel)]; kernel_rfl) | (rw [if_neg (by decide +kernel)]; exact ⟨rfl, rfl⟩))
    (fun os started H enc _ => lifted os started H enc)

theorem proved : Rows.BandLinesSaid := over
end Go.Proofs.Ytnbbjobmaakogaa.bandLines
