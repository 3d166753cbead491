/- Halves are as the document says, and new memory, for any shape and size. WindowDoes returns true, whatever the memory and the schedule. No condition. -/
import Derived.Test.YtbiaodembejdpaaWinRef
import Derived.WalkKit
import Derived.RegionTactic
import Derived.Deep.QuietTactic
import Derived.BigQuiet
import Derived.ChangeAlike
import Derived.Deep.OwnRows
import Derived.ProofKit
import Derived.OpenShut
import Derived.ShutString
import Derived.ChangeOld
import Derived.Below
import Derived.Lib.Hide
namespace Go.Proofs.Ytbiaodembejdpaa.windowDoes
open Go Go.ChangeShapes Go.WideShapes Go.ChangeAt Go.RowKit Go.Proofs.Ytbiaodembejdpaa.Fx

set_option maxRecDepth 100000 in
set_option maxHeartbeats 2000000 in
theorem does_sl (w : World) : Calls Try.prog 4 #[.int .u8 0, .bool false] w fun e w' => e = .returned (.bool true) ∧ Below w.heap.size w w' := by
  have hlen : (LL win_sl 256).length = 256 := LL_len _ _
  go_enter Try.func4, Try.ntmps4
  go_wp2_with (first
    | (go_at_call 10; ((with_reducible refine (same_yes (.slice (some ⟨g1, 0, none⟩) 256 256) v2 (LL win_sl 256) _ (by rw [hlen]; omega) (rd_row (hr1.out.of_block (hb2.block _ hr1.out.lt)) hlen (by unfold maxLen; omega) (fun j hj => LL_at hj)) ho2.out.rd).mono ?_); rintro e w3 ⟨rfl, hb3⟩; have hr3 := Lib.hid ((hr1.out.of_block (hb2.block _ hr1.out.lt)).of_block (hb3.block _ (Nat.lt_of_lt_of_le hr1.out.lt hb2.size))); have ho3 := Lib.hid (ho2.out.below hb3); have hl1 := hr1.out.lt; have hb23 := Lib.hid (belowT hb1 (belowT hb2 hb3))))
    | (go_at_call 9; ((with_reducible refine (rhalf_sl _).mono ?_); rintro e w2 ⟨v2, rfl, ho, hb2⟩; have ho2 := Lib.hid ho; clear ho))
    | (go_at_call 7; ((with_reducible refine (half_sl _).mono ?_); rintro e w1 ⟨g1, rfl, hg1, hr, hb1⟩; have hr1 := Lib.hid hr; clear hr)))
  have hfirst : ∃ F, Hid (w3.rowIs g1 3 256 F) := ⟨_, hr3⟩
  clear hr1 hr3
  go_loopw [9] (fun i wr => ∃ k : Nat, k ≤ 256 ∧ i = .int .i64 k ∧ (∃ F, Hid (wr.rowIs g1 3 256 F)) ∧ Hid (Fx.Own w1.heap.size wr v2 (LL win_sl 256)) ∧ Hid (Below w.heap.size w wr)) (fun i _ => 256 - (intOf i).toNat)
  case atStart => exact ⟨0, by omega, rfl, hfirst, ho3, hb23⟩
  case round =>
    obtain ⟨k, hk, rfl, ⟨F, hR⟩, hO, hB⟩ := hrel
    by_cases hlt : k < 256
    · have hc := hR.out.cell hlt
      have hf := hR.out.frozen k
      go_wp2
      go_roundw
      case rel => exact ⟨k + 1, by omega, by go_num, ⟨_, Lib.hid (hR.out.set k (.int .i64 0))⟩, Lib.hid (hO.out.set hl1), Lib.hid (hB.out.setCell (p := ⟨g1, k, none⟩) hg1 _)⟩
      case measure => simp [intOf]; omega
    · have hend : k = 256 := by omega
      subst hend
      go_wp2_with (first
        | (go_at_call 10; ((with_reducible refine (same_yes (.slice (some ⟨g4, 0, none⟩) 256 256) v2 (LL win_sl 256) _ (by rw [hlen]; omega) (rd_row hr4.out hlen (by unfold maxLen; omega) (fun j hj => LL_at hj)) (hO.out.below hb4).rd).mono ?_); rintro e w5 ⟨rfl, hb5⟩))
        | (go_at_call 7; ((with_reducible refine (half_sl _).mono ?_); rintro e w4 ⟨g4, rfl, hg4, hr, hb4⟩; have hr4 := Lib.hid hr; clear hr)))
      go_ret
      exact ⟨rfl, belowT hB.out (belowT hb4 hb5)⟩

set_option maxRecDepth 100000 in
set_option maxHeartbeats 2000000 in
theorem does_ss (w : World) : Calls Try.prog 4 #[.int .u8 0, .bool true] w fun e w' => e = .returned (.bool true) ∧ Below w.heap.size w w' := by
  have hlen : (LL win_ss 32).length = 32 := LL_len _ _
  go_enter Try.func4, Try.ntmps4
  go_wp2_with (first
    | (go_at_call 10; ((with_reducible refine (same_yes (.slice (some ⟨g1, 0, none⟩) 32 32) v2 (LL win_ss 32) _ (by rw [hlen]; omega) (rd_row (hr1.out.of_block (hb2.block _ hr1.out.lt)) hlen (by unfold maxLen; omega) (fun j hj => LL_at hj)) ho2.out.rd).mono ?_); rintro e w3 ⟨rfl, hb3⟩; have hr3 := Lib.hid ((hr1.out.of_block (hb2.block _ hr1.out.lt)).of_block (hb3.block _ (Nat.lt_of_lt_of_le hr1.out.lt hb2.size))); have ho3 := Lib.hid (ho2.out.below hb3); have hl1 := hr1.out.lt; have hb23 := Lib.hid (belowT hb1 (belowT hb2 hb3))))
    | (go_at_call 9; ((with_reducible refine (rhalf_ss _).mono ?_); rintro e w2 ⟨v2, rfl, ho, hb2⟩; have ho2 := Lib.hid ho; clear ho))
    | (go_at_call 7; ((with_reducible refine (half_ss _).mono ?_); rintro e w1 ⟨g1, rfl, hg1, hr, hb1⟩; have hr1 := Lib.hid hr; clear hr)))
  have hfirst : ∃ F, Hid (w3.rowIs g1 3 32 F) := ⟨_, hr3⟩
  clear hr1 hr3
  go_loopw [9] (fun i wr => ∃ k : Nat, k ≤ 32 ∧ i = .int .i64 k ∧ (∃ F, Hid (wr.rowIs g1 3 32 F)) ∧ Hid (Fx.Own w1.heap.size wr v2 (LL win_ss 32)) ∧ Hid (Below w.heap.size w wr)) (fun i _ => 32 - (intOf i).toNat)
  case atStart => exact ⟨0, by omega, rfl, hfirst, ho3, hb23⟩
  case round =>
    obtain ⟨k, hk, rfl, ⟨F, hR⟩, hO, hB⟩ := hrel
    by_cases hlt : k < 32
    · have hc := hR.out.cell hlt
      have hf := hR.out.frozen k
      go_wp2
      go_roundw
      case rel => exact ⟨k + 1, by omega, by go_num, ⟨_, Lib.hid (hR.out.set k (.int .i64 0))⟩, Lib.hid (hO.out.set hl1), Lib.hid (hB.out.setCell (p := ⟨g1, k, none⟩) hg1 _)⟩
      case measure => simp [intOf]; omega
    · have hend : k = 32 := by omega
      subst hend
      go_wp2_with (first
        | (go_at_call 10; ((with_reducible refine (same_yes (.slice (some ⟨g4, 0, none⟩) 32 32) v2 (LL win_ss 32) _ (by rw [hlen]; omega) (rd_row hr4.out hlen (by unfold maxLen; omega) (fun j hj => LL_at hj)) (hO.out.below hb4).rd).mono ?_); rintro e w5 ⟨rfl, hb5⟩))
        | (go_at_call 7; ((with_reducible refine (half_ss _).mono ?_); rintro e w4 ⟨g4, rfl, hg4, hr, hb4⟩; have hr4 := Lib.hid hr; clear hr)))
      go_ret
      exact ⟨rfl, belowT hB.out (belowT hb4 hb5)⟩

set_option maxRecDepth 100000 in
set_option maxHeartbeats 2000000 in
theorem does_kl (w : World) : Calls Try.prog 4 #[.int .u8 1, .bool false] w fun e w' => e = .returned (.bool true) ∧ Below w.heap.size w w' := by
  have hlen : (LL win_kl 256).length = 256 := LL_len _ _
  go_enter Try.func4, Try.ntmps4
  go_wp2_with (first
    | (go_at_call 10; ((with_reducible refine (same_yes (.slice (some ⟨g1, 0, none⟩) 256 256) v2 (LL win_kl 256) _ (by rw [hlen]; omega) (rd_row (hr1.out.of_block (hb2.block _ hr1.out.lt)) hlen (by unfold maxLen; omega) (fun j hj => LL_at hj)) ho2.out.rd).mono ?_); rintro e w3 ⟨rfl, hb3⟩; have hr3 := Lib.hid ((hr1.out.of_block (hb2.block _ hr1.out.lt)).of_block (hb3.block _ (Nat.lt_of_lt_of_le hr1.out.lt hb2.size))); have ho3 := Lib.hid (ho2.out.below hb3); have hl1 := hr1.out.lt; have hb23 := Lib.hid (belowT hb1 (belowT hb2 hb3))))
    | (go_at_call 9; ((with_reducible refine (rhalf_kl _).mono ?_); rintro e w2 ⟨v2, rfl, ho, hb2⟩; have ho2 := Lib.hid ho; clear ho))
    | (go_at_call 7; ((with_reducible refine (half_kl _).mono ?_); rintro e w1 ⟨g1, rfl, hg1, hr, hb1⟩; have hr1 := Lib.hid hr; clear hr)))
  have hfirst : ∃ F, Hid (w3.rowIs g1 3 256 F) := ⟨_, hr3⟩
  clear hr1 hr3
  go_loopw [9] (fun i wr => ∃ k : Nat, k ≤ 256 ∧ i = .int .i64 k ∧ (∃ F, Hid (wr.rowIs g1 3 256 F)) ∧ Hid (Fx.Own w1.heap.size wr v2 (LL win_kl 256)) ∧ Hid (Below w.heap.size w wr)) (fun i _ => 256 - (intOf i).toNat)
  case atStart => exact ⟨0, by omega, rfl, hfirst, ho3, hb23⟩
  case round =>
    obtain ⟨k, hk, rfl, ⟨F, hR⟩, hO, hB⟩ := hrel
    by_cases hlt : k < 256
    · have hc := hR.out.cell hlt
      have hf := hR.out.frozen k
      go_wp2
      go_roundw
      case rel => exact ⟨k + 1, by omega, by go_num, ⟨_, Lib.hid (hR.out.set k (.int .i64 0))⟩, Lib.hid (hO.out.set hl1), Lib.hid (hB.out.setCell (p := ⟨g1, k, none⟩) hg1 _)⟩
      case measure => simp [intOf]; omega
    · have hend : k = 256 := by omega
      subst hend
      go_wp2_with (first
        | (go_at_call 10; ((with_reducible refine (same_yes (.slice (some ⟨g4, 0, none⟩) 256 256) v2 (LL win_kl 256) _ (by rw [hlen]; omega) (rd_row hr4.out hlen (by unfold maxLen; omega) (fun j hj => LL_at hj)) (hO.out.below hb4).rd).mono ?_); rintro e w5 ⟨rfl, hb5⟩))
        | (go_at_call 7; ((with_reducible refine (half_kl _).mono ?_); rintro e w4 ⟨g4, rfl, hg4, hr, hb4⟩; have hr4 := Lib.hid hr; clear hr)))
      go_ret
      exact ⟨rfl, belowT hB.out (belowT hb4 hb5)⟩

set_option maxRecDepth 100000 in
set_option maxHeartbeats 2000000 in
theorem does_ks (w : World) : Calls Try.prog 4 #[.int .u8 1, .bool true] w fun e w' => e = .returned (.bool true) ∧ Below w.heap.size w w' := by
  have hlen : (LL win_ks 32).length = 32 := LL_len _ _
  go_enter Try.func4, Try.ntmps4
  go_wp2_with (first
    | (go_at_call 10; ((with_reducible refine (same_yes (.slice (some ⟨g1, 0, none⟩) 32 32) v2 (LL win_ks 32) _ (by rw [hlen]; omega) (rd_row (hr1.out.of_block (hb2.block _ hr1.out.lt)) hlen (by unfold maxLen; omega) (fun j hj => LL_at hj)) ho2.out.rd).mono ?_); rintro e w3 ⟨rfl, hb3⟩; have hr3 := Lib.hid ((hr1.out.of_block (hb2.block _ hr1.out.lt)).of_block (hb3.block _ (Nat.lt_of_lt_of_le hr1.out.lt hb2.size))); have ho3 := Lib.hid (ho2.out.below hb3); have hl1 := hr1.out.lt; have hb23 := Lib.hid (belowT hb1 (belowT hb2 hb3))))
    | (go_at_call 9; ((with_reducible refine (rhalf_ks _).mono ?_); rintro e w2 ⟨v2, rfl, ho, hb2⟩; have ho2 := Lib.hid ho; clear ho))
    | (go_at_call 7; ((with_reducible refine (half_ks _).mono ?_); rintro e w1 ⟨g1, rfl, hg1, hr, hb1⟩; have hr1 := Lib.hid hr; clear hr)))
  have hfirst : ∃ F, Hid (w3.rowIs g1 3 32 F) := ⟨_, hr3⟩
  clear hr1 hr3
  go_loopw [9] (fun i wr => ∃ k : Nat, k ≤ 32 ∧ i = .int .i64 k ∧ (∃ F, Hid (wr.rowIs g1 3 32 F)) ∧ Hid (Fx.Own w1.heap.size wr v2 (LL win_ks 32)) ∧ Hid (Below w.heap.size w wr)) (fun i _ => 32 - (intOf i).toNat)
  case atStart => exact ⟨0, by omega, rfl, hfirst, ho3, hb23⟩
  case round =>
    obtain ⟨k, hk, rfl, ⟨F, hR⟩, hO, hB⟩ := hrel
    by_cases hlt : k < 32
    · have hc := hR.out.cell hlt
      have hf := hR.out.frozen k
      go_wp2
      go_roundw
      case rel => exact ⟨k + 1, by omega, by go_num, ⟨_, Lib.hid (hR.out.set k (.int .i64 0))⟩, Lib.hid (hO.out.set hl1), Lib.hid (hB.out.setCell (p := ⟨g1, k, none⟩) hg1 _)⟩
      case measure => simp [intOf]; omega
    · have hend : k = 32 := by omega
      subst hend
      go_wp2_with (first
        | (go_at_call 10; ((with_reducible refine (same_yes (.slice (some ⟨g4, 0, none⟩) 32 32) v2 (LL win_ks 32) _ (by rw [hlen]; omega) (rd_row hr4.out hlen (by unfold maxLen; omega) (fun j hj => LL_at hj)) (hO.out.below hb4).rd).mono ?_); rintro e w5 ⟨rfl, hb5⟩))
        | (go_at_call 7; ((with_reducible refine (half_ks _).mono ?_); rintro e w4 ⟨g4, rfl, hg4, hr, hb4⟩; have hr4 := Lib.hid hr; clear hr)))
      go_ret
      exact ⟨rfl, belowT hB.out (belowT hb4 hb5)⟩

set_option maxRecDepth 100000 in
theorem does_bad (s : Int) (b : Bool) (w : World) (h : 1 < s) : Calls Try.prog 4 #[.int .u8 s, .bool b] w fun e w' => e = .returned (.bool true) ∧ Below w.heap.size w w' := by
  have H := Lib.hid h
  clear h
  go_enter Try.func4, Try.ntmps4
  go_wp2_with (first
    | (go_at_call 10; ((with_reducible refine (same_yes (.slice none 0 0) (.slice none 0 0) [] _ (by simp) (nil_rd _ none 0) (nil_rd _ none 0)).mono ?_); rintro e w3 ⟨rfl, hb3⟩))
    | (go_at_call 9; ((with_reducible refine (rhalf_bad s b _ H.out).mono ?_); rintro e w2 ⟨rfl, rfl⟩))
    | (go_at_call 7; ((with_reducible refine (half_bad s b _ H.out).mono ?_); rintro e w1 ⟨rfl, rfl⟩)))
  go_loopw [9] (fun i wr => i = .int .i64 0 ∧ wr = w3) (fun _ _ => 0)
  case atStart => exact ⟨rfl, rfl⟩
  case round =>
    obtain ⟨rfl, rfl⟩ := hrel
    go_wp2_with (first
      | (go_at_call 10; ((with_reducible refine (same_yes (.slice none 0 0) (.slice none 0 0) [] _ (by simp) (nil_rd _ none 0) (nil_rd _ none 0)).mono ?_); rintro e w5 ⟨rfl, hb5⟩))
      | (go_at_call 7; ((with_reducible refine (half_bad s b _ H.out).mono ?_); rintro e w4 ⟨rfl, rfl⟩)))
    go_ret
    exact ⟨rfl, belowT hb3 hb5⟩
theorem walk (s : Int) (b : Bool) (w : World) (h : (Lit.int .u8 s).wf = true) : Calls Try.prog 4 #[.int .u8 s, .bool b] w fun e w' => e = .returned (.bool true) ∧ Below w.heap.size w w' := by
  have h0 : 0 ≤ s := by simp [Lit.wf] at h; have e : IntKind.u8.min = 0 := rfl; omega
  by_cases h1 : 1 < s
  · exact does_bad s b w h1
  · obtain rfl | rfl : s = 0 ∨ s = 1 := by omega
    · cases b
      · exact does_sl w
      · exact does_ss w
    · cases b
      · exact does_kl w
      · exact does_ks w

theorem own : ownKnob Try.prog.godebug = none := by kernel_rfl
set_option linter.unusedVariables false
set_option maxRecDepth 100000 in
theorem lifted (os : Os) (started : os.Started) (H : Type) (enc : TypeId × Value → H) :
    ReturnsInHanded {} Try.checked os 4 .any (Rows.windowDoesSpec.pre6 enc Try.prog Try.f4 Rows.windowDoesRow.domain false) (Rows.windowDoesSpec.post enc Try.prog Try.f4 false true false false) := by
  refine returnsInHanded_of_change (C := Try.checked) own started (by kernel_rfl) Try.func4
    (ChangeSpec.witness6 (enc := enc) (C := Try.checked) false ⟨#[], #[.int .u8 0, .bool false], []⟩ 8 (by kernel_rfl) (by kernel_rfl) (by kernel_rfl) (by kernel_rfl)) ?_
  intro W base args ds gs before hval0 hW hcnd _
  have hval : ∀ (j : Nat) t v, Try.f4.params[j]? = some t → args[j]? = some v → Value.okWide Try.prog W .any base t v := hval0
  have hW' := hW
  obtain ⟨p, q, hA0, hV, rfl, hfz, hnd⟩ := hW
  have hA : DataW.TrodAll enc Try.prog W 0 (fun _ => true) true Try.f4.params.toList args.toList ds p := hA0
  rw [Try.params4] at hA hval
  obtain ⟨v0, vs0, d0, ds0, p0, q0, hargs, rfl, rfl, h0, r0⟩ := trodAll_cons hA
  obtain ⟨v1, vs1, d1, ds1, p1, q1, rfl, rfl, rfl, h1, r1⟩ := trodAll_cons r0
  obtain ⟨rfl, rfl, rfl⟩ := trodAll_nil r1
  obtain rfl : args = #[v0, v1] := by cases args; simp_all
  obtain ⟨rfl, rfl⟩ := trodVars_none hV
  obtain ⟨a0, rfl, rfl, rfl, w0⟩ := open_int Try.underlying5 (hval 0 5 v0 rfl rfl) h0
  obtain ⟨a1, rfl, rfl, rfl⟩ := open_bool Try.underlying4 (hval 1 4 v1 rfl rfl) h1
  clear hA0 hval0
  simp only [List.append_nil] at hW'
  refine (walk a0 a1 W w0).mono fun e W' ⟨he, bel⟩ => ?_
  subst he
  exact ⟨_, rfl, _, _, _, [], _, [], hW', trodAll_mk1 (shut_bool Try.underlying4 _), (trodAll_cons_mk (shut_int Try.underlying5 w0) (trodAll_cons_mk (shut_bool Try.underlying4 a1) trodAll_mk0)), rfl, bel.frame _, fun h => by cases h⟩

theorem over : Rows.windowDoesRow.holds Try.pinned (OpenSpec.ofChange Rows.windowDoesSpec) :=
  OpenClaim.holds_of_wide 4 Try.f4 rfl rfl rfl rfl rfl rfl rfl ⟨rfl, rfl, rfl, rfl, rfl⟩ rfl rfl rfl rfl rfl (by kernel_rfl) Try.func4 (by kernel_rfl)
    (of_decide_eq_true (by kernel_rfl)) (by unfold Func.isWrapper; first | (rw [if_pos (by decide +kernel)]; kernel_rfl) | (rw [if_neg (by decide +kernel)]; exact ⟨rfl, rfl⟩))
    (fun os started H enc _ => lifted os started H enc)

theorem proved : Rows.WindowDoesSaid := over
end Go.Proofs.Ytbiaodembejdpaa.windowDoes
