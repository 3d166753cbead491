/- Offsets, how many bands there are, and a line's band, or the errors, are the document's, and what is answered is new memory. BandTells returns true, whatever the rate, the kind of window and the line, the memory and the schedule. No condition. -/
import Derived.Test.YtnbbjobmaakogaaBdAl
import Derived.WalkKit
import Derived.Deep.QuietTactic
import Derived.BigQuiet
import Derived.ProofKit
import Derived.OpenShut
import Derived.ShutString
import Derived.ChangeOld
import Derived.Below
import Derived.Lib.Hide
namespace Go.Proofs.Ytnbbjobmaakogaa.bandTells
open Go Go.ChangeShapes Go.WideShapes Go.ChangeAt Go.RowKit Go.Proofs.Ytnbbjobmaakogaa.Lo Go.Proofs.Ytnbbjobmaakogaa.Bd

theorem ints_nil (w : World) : Calls Try.prog 20 #[.slice none 0 0, .slice none 0 0] w fun e w' => e = .returned (.bool true) ∧ Below w.heap.size w w' :=
  ints_yes _ _ [] w (by simp) (.inl ⟨_, _, rfl, rfl⟩) (.inl ⟨_, _, rfl, rfl⟩)
set_option maxRecDepth 100000 in
theorem bad (r x : Int) (s : Bool) (w : World) (h : r < 0 ∨ 11 < r) :
    Calls Try.prog 3 #[.int .i64 r, .bool s, .int .i64 x] w fun e w' => e = .returned (.bool true) ∧ Below w.heap.size w w' := by
  have h := Lib.hid h
  go_enter Try.func3, Try.ntmps3
  go_wp2_with (first
    | (go_at_call 14; ((with_reducible refine (off_bad r s _ h.out).mono ?_); rintro e w2 ⟨rfl, rfl⟩))
    | (go_at_call 15; ((with_reducible refine (told_bad r s _ h.out).mono ?_); rintro e w2 ⟨rfl, rfl⟩))
    | (go_at_call 16; ((with_reducible refine (many_bad r s _ h.out).mono ?_); rintro e w2 ⟨rfl, rfl⟩))
    | (go_at_call 17; ((with_reducible refine (rmany_bad r s _ h.out).mono ?_); rintro e w2 ⟨rfl, rfl⟩))
    | (go_at_call 18; ((with_reducible refine (of_bad r x s _ h.out).mono ?_); rintro e w2 ⟨rfl, rfl⟩))
    | (go_at_call 19; ((with_reducible refine (rof_bad r x s _ h.out).mono ?_); rintro e w2 ⟨rfl, rfl⟩))
    | (go_at_call 20; ((with_reducible refine (ints_nil _).mono ?_); rintro e w2 ⟨rfl, hb2⟩)))
  go_loopw [20] (fun i wr => i = .int .i64 0 ∧ wr = w2) (fun _ _ => 0)
  case atStart => exact ⟨rfl, rfl⟩
  case round =>
    obtain ⟨rfl, rfl⟩ := hrel
    go_wp2_with (first
      | (go_at_call 14; ((with_reducible refine (off_bad r s _ h.out).mono ?_); rintro e w3 ⟨rfl, rfl⟩))
      | (go_at_call 20; ((with_reducible refine (ints_nil _).mono ?_); rintro e w3 ⟨rfl, hb3⟩)))
    go_ret
    exact ⟨rfl, belowT hb2 hb3⟩


set_option maxRecDepth 100000 in
set_option maxHeartbeats 2000000 in
theorem good (r x : Int) (s : Bool) (w : World) (r0 : 0 ≤ r) (r1 : r ≤ 11) (B E : Int) (_ : 0 ≤ E) (_ : E ≤ 2) (_ : 0 ≤ B) (_ : B ≤ 1000)
    (h18 : ∀ w, Calls Try.prog 18 #[.int .i64 r, .bool s, .int .i64 x] w fun e w' => e = .returned (.tuple #[.int .i64 B, .int .i64 E]) ∧ Below w.heap.size w w')
    (h19 : ∀ w, Calls Try.prog 19 #[.int .i64 r, .bool s, .int .i64 x] w fun e w' => e = .returned (.tuple #[.int .i64 B, .int .i64 E]) ∧ Below w.heap.size w w') :
    Calls Try.prog 3 #[.int .i64 r, .bool s, .int .i64 x] w fun e w' => e = .returned (.bool true) ∧ Below w.heap.size w w' := by
  have H18 := Lib.hid h18
  have H19 := Lib.hid h19
  clear h18 h19
  obtain ⟨f0, f1, _⟩ := fact r s r0 r1
  obtain ⟨n, hn⟩ : ∃ n, (L r s).length = n := ⟨_, rfl⟩
  rw [hn] at f0 f1
  have HN := Lib.hid hn
  have hC : ∀ w, Calls Try.prog 14 #[.int .i64 r, .bool s] w fun e w' => ∃ g cap, e = .returned (.tuple #[.slice (some ⟨g, 0, none⟩) n cap, .int .i64 0]) ∧ w.heap.size ≤ g ∧ Hid (Row w' g cap (L r s)) ∧ Below w.heap.size w w' := fun w => (off_row r s w r0 r1).mono fun e w' h => by
    obtain ⟨g, cap, h1, h2, h3, h4⟩ := h
    exact ⟨g, cap, by rw [h1, HN.out], h2, Lib.hid h3, h4⟩
  have hT : ∀ w, Calls Try.prog 15 #[.int .i64 r, .bool s] w fun e w' => ∃ g cap, e = .returned (.tuple #[.slice (some ⟨g, 0, none⟩) n cap, .int .i64 0]) ∧ w.heap.size ≤ g ∧ Hid (Row w' g cap (L r s)) ∧ Below w.heap.size w w' := fun w => (told_row r s w r0 r1).mono fun e w' h => by
    obtain ⟨g, cap, h1, h2, h3, h4⟩ := h
    exact ⟨g, cap, by rw [h1, HN.out], h2, Lib.hid h3, h4⟩
  have hM : ∀ w, Calls Try.prog 16 #[.int .i64 r, .bool s] w fun e w' => e = .returned (.tuple #[.int .i64 ((n : Int) - 1), .int .i64 0]) ∧ Below w.heap.size w w' := fun w => (many_ok r s w r0 r1).mono fun e w' h => ⟨by rw [h.1, HN.out], h.2⟩
  have hM' : ∀ w, Calls Try.prog 17 #[.int .i64 r, .bool s] w fun e w' => e = .returned (.tuple #[.int .i64 ((n : Int) - 1), .int .i64 0]) ∧ Below w.heap.size w w' := fun w => (rmany_ok r s w r0 r1).mono fun e w' h => ⟨by rw [h.1, HN.out], h.2⟩
  have hI : ∀ (w : World) (g g' cap cap' : Nat), Row w g cap (L r s) → Row w g' cap' (L r s) → Calls Try.prog 20 #[.slice (some ⟨g, 0, none⟩) n cap, .slice (some ⟨g', 0, none⟩) n cap'] w fun e w' => e = .returned (.bool true) ∧ Below w.heap.size w w' := fun w g g' cap cap' h1 h2 => by
    have a := h1.rd
    have b := h2.rd
    rw [HN.out] at a b
    exact ints_yes _ _ _ w (by rw [HN.out]; omega) a b
  have HC := Lib.hid hC
  have HT := Lib.hid hT
  have HM := Lib.hid hM
  have HM' := Lib.hid hM'
  have HI := Lib.hid hI
  clear hC hT hM hM' hI hn
  go_enter Try.func3, Try.ntmps3
  go_wp2_with (first
    | (go_at_call 14; ((with_reducible refine (HC.out _).mono ?_); rintro e w1 ⟨g1, cap1, rfl, hg1, hr1, hb1⟩))
    | (go_at_call 15; ((with_reducible refine (HT.out _).mono ?_); rintro e w2 ⟨g2, cap2, rfl, hg2, hr2, hb2⟩))
    | (go_at_call 16; ((with_reducible refine (HM.out _).mono ?_); rintro e w3 ⟨rfl, hb3⟩))
    | (go_at_call 17; ((with_reducible refine (HM'.out _).mono ?_); rintro e w4 ⟨rfl, hb4⟩))
    | (go_at_call 18; ((with_reducible refine (H18.out _).mono ?_); rintro e w5 ⟨rfl, hb5⟩))
    | (go_at_call 19; ((with_reducible refine (H19.out _).mono ?_); rintro e w6 ⟨rfl, hb6⟩; have hbx := belowT hb3 (belowT hb4 (belowT hb5 hb6)); have hx1 := Lib.hid (hr1.out.below (belowT hb2 hbx)); have hx2 := Lib.hid (hr2.out.below hbx)))
    | (go_at_call 20; ((with_reducible refine (HI.out _ _ _ _ _ hx1.out hx2.out).mono ?_); rintro e w7 ⟨rfl, hb7⟩; have hy1 := Lib.hid (hx1.out.below hb7); have hy2 := Lib.hid (hx2.out.below hb7))))
  have hall := belowT hb1 (belowT hb2 (belowT hbx hb7))
  have hne : g2 ≠ g1 := by have := hr1.out.lt; omega
  obtain ⟨F, hF, hF1, hF2, _⟩ := hy1.out
  have hF0 := Lib.hid hF
  clear hF hy1 hx1 hr1
  go_loopw [20] (fun i wr => ∃ k : Nat, k ≤ n ∧ i = .int .i64 k ∧ Below w.heap.size w wr ∧ Hid (Row wr g2 cap2 (L r s)) ∧ ∃ F, Hid (wr.rowIs g1 3 cap1 F)) (fun i _ => n - (intO i).toNat)
  case atStart => exact ⟨0, by omega, rfl, hall, hy2, _, hF0⟩
  case round =>
    obtain ⟨k, hk, rfl, hbel, hr, F, hR⟩ := hrel
    by_cases hlt : k < n
    · have hkc : k < cap1 := by rw [HN.out] at hF1; omega
      have qo := hR.out.cell hkc
      have qf := hR.out.frozen k
      have hst := Lib.hid (hR.out.set k (.int .i64 (-1)))
      have hrr : Hid (Row (wr.setCell ⟨g1, k, none⟩ (.int .i64 (-1))) g2 cap2 (L r s)) := Lib.hid (by
        obtain ⟨G, hG, h2⟩ := hr.out
        exact ⟨G, hG.setOther hne _, h2⟩)
      have hbs := hbel.setCell (p := ⟨g1, k, none⟩) hg1 (.int .i64 (-1))
      go_wp2
      go_roundw
      case rel => exact ⟨k + 1, by omega, by go_num, hbs, hrr, _, hst⟩
      case measure => simp [intO]; omega
    · clear hR
      go_wp2_with (first
        | (go_at_call 14; ((with_reducible refine (HC.out _).mono ?_); rintro e w8 ⟨g8, cap8, rfl, hg8, hr8, hb8⟩; have hr9 := Lib.hid (hr.out.below hb8)))
        | (go_at_call 20; ((with_reducible refine (HI.out _ _ _ _ _ hr8.out hr9.out).mono ?_); rintro e w10 ⟨rfl, hb10⟩)))
      go_ret
      exact ⟨rfl, belowT hbel (belowT hb8 hb10)⟩

theorem walk (r : Int) (s : Bool) (x : Int) (w : World) (_ : (Lit.int .i64 r).wf = true) (_ : (Lit.int .i64 x).wf = true) :
    Calls Try.prog 3 #[.int .i64 r, .bool s, .int .i64 x] w fun e w' => e = .returned (.bool true) ∧ Below w.heap.size w w' := by
  by_cases h : r < 0 ∨ 11 < r
  · exact bad r x s w h
  have r0 : 0 ≤ r := by omega
  have r1 : r ≤ 11 := by omega
  obtain ⟨f0, f1, f2, f3, f4, f5⟩ := fact r s r0 r1
  by_cases h2 : x < 0 ∨ nOf s ≤ x
  · refine good r x s w r0 r1 0 2 (by omega) (by omega) (by omega) (by omega) (fun w => of_out r x s w r0 r1 h2) fun w => (rof_any r x s w r0 r1).mono fun e w' h => ?_
    rcases h.1 with ⟨b, _, h5⟩ | ⟨h5, _⟩
    · exfalso
      obtain ⟨g1, g2, g3⟩ := h5
      have := f5 b (by omega)
      have := f5 (b + 1) g1
      omega
    · exact ⟨h5, h.2⟩
  · -- which band
    have hb : ∃ b : Nat, In (L r s) x b := by
      refine Classical.byContradiction fun hn => ?_
      have key : ∀ j, j < (L r s).length → (L r s).getD j 0 ≤ x := by
        intro j
        induction j with
        | zero => intro _; rw [f2]; omega
        | succ j ih =>
          intro hj
          have h1 := ih (by omega)
          refine Classical.byContradiction fun hc => hn ⟨j, hj, h1, by omega⟩
      have := key ((L r s).length - 1) (by omega)
      rw [f3] at this
      omega
    obtain ⟨b, hb⟩ := hb
    refine good r x s w r0 r1 b 0 (by omega) (by omega) (by omega) (by have := hb.1; omega) (fun w => (of_in r x s w r0 r1 (by omega) (by omega)).mono fun e w' h => ?_) fun w => (rof_any r x s w r0 r1).mono fun e w' h => ?_
    · obtain ⟨c, h5, h6, h7⟩ := h
      rw [In.one f4 hb h6]
      exact ⟨h5, h7⟩
    · rcases h.1 with ⟨c, h5, h6⟩ | ⟨_, h6⟩
      · rw [In.one f4 hb h6]
        exact ⟨h5, h.2⟩
      · exact absurd h6 h2

theorem own : ownKnob Try.prog.godebug = none := by kernel_rfl
set_option linter.unusedVariables false
set_option maxRecDepth 100000 in
theorem lifted (os : Os) (started : os.Started) (H : Type) (enc : TypeId × Value → H) :
    ReturnsInHanded {} Try.checked os 3 .any (Rows.bandTellsSpec.pre6 enc Try.prog Try.f3 Rows.bandTellsRow.domain false) (Rows.bandTellsSpec.post enc Try.prog Try.f3 false true false false) := by
  refine returnsInHanded_of_change (C := Try.checked) own started (by kernel_rfl) Try.func3
    (ChangeSpec.witness6 (enc := enc) (C := Try.checked) false ⟨#[], #[.int .i64 0, .bool false, .int .i64 0], []⟩ 8 (by kernel_rfl) (by kernel_rfl) (by kernel_rfl) (by kernel_rfl)) ?_
  intro W base args ds gs before hval0 hW hcnd _
  have hval : ∀ (j : Nat) t v, Try.f3.params[j]? = some t → args[j]? = some v → Value.okWide Try.prog W .any base t v := hval0
  have hW' := hW
  obtain ⟨p, q, hA0, hV, rfl, hfz, hnd⟩ := hW
  have hA : DataW.TrodAll enc Try.prog W 0 (fun _ => true) true Try.f3.params.toList args.toList ds p := hA0
  rw [Try.params3] at hA hval
  obtain ⟨v0, vs0, d0, ds0, p0, q0, hargs, rfl, rfl, h0, r0⟩ := trodAll_cons hA
  obtain ⟨v1, vs1, d1, ds1, p1, q1, rfl, rfl, rfl, h1, r1⟩ := trodAll_cons r0
  obtain ⟨v2, vs2, d2, ds2, p2, q2, rfl, rfl, rfl, h2, r2⟩ := trodAll_cons r1
  obtain ⟨rfl, rfl, rfl⟩ := trodAll_nil r2
  obtain rfl : args = #[v0, v1, v2] := by cases args; simp_all
  obtain ⟨rfl, rfl⟩ := trodVars_none hV
  obtain ⟨a0, rfl, rfl, rfl, w0⟩ := open_int Try.underlying3 (hval 0 3 v0 rfl rfl) h0
  obtain ⟨a1, rfl, rfl, rfl⟩ := open_bool Try.underlying4 (hval 1 4 v1 rfl rfl) h1
  obtain ⟨a2, rfl, rfl, rfl, w2⟩ := open_int Try.underlying3 (hval 2 3 v2 rfl rfl) h2
  clear hA0 hval0
  simp only [List.append_nil] at hW'
  refine (walk a0 a1 a2 W w0 w2).mono fun e W' ⟨he, bel⟩ => ?_
  subst he
  exact ⟨_, rfl, _, _, _, [], _, [], hW', trodAll_mk1 (shut_bool Try.underlying4 _), (trodAll_cons_mk (shut_int Try.underlying3 w0) (trodAll_cons_mk (shut_bool Try.underlying4 a1) (trodAll_cons_mk (shut_int Try.underlying3 w2) trodAll_mk0))), rfl, bel.frame _, fun h => by cases h⟩

theorem over : Rows.bandTellsRow.holds Try.pinned (OpenSpec.ofChange Rows.bandTellsSpec) :=
  OpenClaim.holds_of_wide 3 Try.f3 rfl rfl rfl rfl rfl rfl rfl ⟨rfl, rfl, rfl, rfl, rfl⟩ rfl rfl rfl rfl rfl (by kernel_rfl) Try.func3 (by kernel_rfl)
    (of_decide_eq_true (by kernel_rfl)) (by unfold Func.isWrapper; first | (rw [if_pos (by decide +kernel)]; kernel_rfl) | (rw [if_neg (by decide +kernel)]; exact ⟨rfl, rfl⟩))
    (fun os started H enc _ => lifted os started H enc)

theorem proved : Rows.BandTellsSaid := over
end Go.Proofs.Ytnbbjobmaakogaa.bandTells
