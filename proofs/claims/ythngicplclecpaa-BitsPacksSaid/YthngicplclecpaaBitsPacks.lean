/- Pack and Unpack answer as the document says, and what came in stays. BitsPacks returns true, whatever the bytes, the memory and the schedule. No condition. -/
import Derived.Test.YthngicplclecpaaBpIn
namespace Go.Proofs.Ythngicplclecpaa.bitsPacks
open Go Go.ChangeShapes Go.WideShapes Go.ChangeAt Go.RowKit Go.Proofs.Ythngicplclecpaa.Bi
open Go.Proofs.Ythngicplclecpaa.Cr (belowT IsRow)

theorem long (a0 : Option Addr) (l0 c0 : Nat) (w : World) (m0 : l0 ≤ maxLen) (h : 10000 < l0) :
    Calls Try.prog 3 #[.slice a0 l0 c0] w fun e w' => e = .returned (.bool true) ∧ Below w.heap.size w w' := by
  unfold maxLen at m0
  go_enter Try.func3, Try.ntmps3
  go_wp2
  go_ret
  exact ⟨rfl, Below.refl _ _⟩

set_option maxRecDepth 100000 in
theorem good (a0 : Option Addr) (c0 : Nat) (zs : List Int) (w : World) (hl : zs.length ≤ 10000) (hz : ∀ z ∈ zs, 0 ≤ z ∧ z ≤ 255) (hv : At w.heap.size w a0 zs) (hs : Src8 w (.slice a0 zs.length c0) zs) (hbits : Cr.Bits zs) :
    Calls Try.prog 3 #[.slice a0 zs.length c0] w fun e w' => e = .returned (.bool true) ∧ Below w.heap.size w w' := by
  have q0 := conv_src hs
  have H5 : Hid (Calls Try.prog 5 #[.slice a0 zs.length c0] w fun e w' => Below w.heap.size w w' ∧ e = .returned (.tuple #[.slice (some ⟨w.heap.size, 0, none⟩) ((zs.length + 7) / 8) ((zs.length + 7) / 8), .int .i64 0]) ∧ Pkd w' w.heap.size ((zs.length + 7) / 8) zs zs.length) := Lib.hid ((pack_ok w.heap.size a0 c0 zs w (Nat.le_refl _) (by omega) hz hv).mono fun e w' h => ⟨h.1, h.2.elim (fun h => h.2) (fun h => absurd hbits h.1)⟩)
  have H6 : Hid (∀ w1, Below w.heap.size w w1 → Calls Try.prog 6 #[.slice a0 zs.length c0] w1 fun e w' => Below w1.heap.size w1 w' ∧ ∃ v, e = .returned (.tuple #[v, .int .i64 0]) ∧ Cr.Own w1.heap.size w' v (pkl zs)) := Lib.hid fun w1 hb => (rpack_ok w.heap.size a0 c0 zs w1 hb.size (by omega) hz (hv.below hb)).mono fun e w' h => ⟨h.1, h.2.elim (fun h => h.2) (fun h => absurd hbits h.1)⟩
  have H7 : Hid (∀ w1, Below w.heap.size w w1 → Calls Try.prog 7 #[.slice a0 zs.length c0] w1 fun e w' => ∃ v, e = .returned (.tuple #[v, .int .i64 0]) ∧ Cr.Own w1.heap.size w' v (un zs) ∧ Below w1.heap.size w1 w') := Lib.hid fun w1 hb => unpack_ok a0 c0 zs w1 (by omega) hz (fun i hi => by obtain ⟨g, off, e, hg, hc⟩ := hv.below hb i hi; exact ⟨g, off, e, Nat.lt_of_lt_of_le hg hb.size, hc⟩)
  have H8 : Hid (∀ w1, Below w.heap.size w w1 → Calls Try.prog 8 #[.slice a0 zs.length c0] w1 fun e w' => ∃ v, e = .returned (.tuple #[v, .int .i64 0]) ∧ Cr.Own w1.heap.size w' v (un zs) ∧ Below w1.heap.size w1 w') := Lib.hid fun w1 hb => runpack_ok w.heap.size a0 c0 zs w1 hb.size (by omega) hz (hv.below hb)
  have HS := Lib.hid hs
  clear hs hv hz hbits
  go_enter Try.func3, Try.ntmps3
  go_wp2_with (first
    | (go_at_call 5; ((with_reducible refine H5.out.mono ?_); rintro e w1 ⟨hb1, rfl, ho1⟩))
    | (go_at_call 6; ((with_reducible refine (H6.out _ hb1).mono ?_); rintro e w2 ⟨hb2, v2, rfl, ho2⟩; have hb12 := belowT hb1 hb2))
    | (go_at_call 7; ((with_reducible refine (H7.out _ hb12).mono ?_); rintro e w3 ⟨v3, rfl, ho3, hb3⟩; have hb13 := belowT hb12 hb3))
    | (go_at_call 8; ((with_reducible refine (H8.out _ hb13).mono ?_); rintro e w4 ⟨v4, rfl, ho4, hb4⟩; have hb14 := belowT hb13 hb4; have q1 := conv_src (pkd_src (pkd_below (pkd_below (pkd_below ho1 hb2) hb3) hb4) ((zs.length + 7) / 8)); have q2 := conv_src (own_src (Cr.Own.below (Cr.Own.below ho2 hb3) hb4)); have q3 := conv_src (own_src (Cr.Own.below ho3 hb4)); have q4 := conv_src (own_src ho4); have q9 := conv_src (HS.out.below hb14))))
  go_ret
  exact ⟨rfl, hb14⟩

set_option maxRecDepth 100000 in
theorem bad (a0 : Option Addr) (c0 : Nat) (zs : List Int) (w : World) (hl : zs.length ≤ 10000) (hz : ∀ z ∈ zs, 0 ≤ z ∧ z ≤ 255) (hv : At w.heap.size w a0 zs) (hs : Src8 w (.slice a0 zs.length c0) zs) (hbits : ¬ Cr.Bits zs) :
    Calls Try.prog 3 #[.slice a0 zs.length c0] w fun e w' => e = .returned (.bool true) ∧ Below w.heap.size w w' := by
  have q0 := conv_src hs
  have H5 : Hid (Calls Try.prog 5 #[.slice a0 zs.length c0] w fun e w' => Below w.heap.size w w' ∧ e = .returned (.tuple #[.slice none 0 0, .int .i64 8])) := Lib.hid ((pack_ok w.heap.size a0 c0 zs w (Nat.le_refl _) (by omega) hz hv).mono fun e w' h => ⟨h.1, h.2.elim (fun h => absurd h.1 hbits) (fun h => h.2)⟩)
  have H6 : Hid (∀ w1, Below w.heap.size w w1 → Calls Try.prog 6 #[.slice a0 zs.length c0] w1 fun e w' => Below w1.heap.size w1 w' ∧ e = .returned (.tuple #[.slice none 0 0, .int .i64 8])) := Lib.hid fun w1 hb => (rpack_ok w.heap.size a0 c0 zs w1 hb.size (by omega) hz (hv.below hb)).mono fun e w' h => ⟨h.1, h.2.elim (fun h => absurd h.1 hbits) (fun h => h.2)⟩
  have H7 : Hid (∀ w1, Below w.heap.size w w1 → Calls Try.prog 7 #[.slice a0 zs.length c0] w1 fun e w' => ∃ v, e = .returned (.tuple #[v, .int .i64 0]) ∧ Cr.Own w1.heap.size w' v (un zs) ∧ Below w1.heap.size w1 w') := Lib.hid fun w1 hb => unpack_ok a0 c0 zs w1 (by omega) hz (fun i hi => by obtain ⟨g, off, e, hg, hc⟩ := hv.below hb i hi; exact ⟨g, off, e, Nat.lt_of_lt_of_le hg hb.size, hc⟩)
  have H8 : Hid (∀ w1, Below w.heap.size w w1 → Calls Try.prog 8 #[.slice a0 zs.length c0] w1 fun e w' => ∃ v, e = .returned (.tuple #[v, .int .i64 0]) ∧ Cr.Own w1.heap.size w' v (un zs) ∧ Below w1.heap.size w1 w') := Lib.hid fun w1 hb => runpack_ok w.heap.size a0 c0 zs w1 hb.size (by omega) hz (hv.below hb)
  have HS := Lib.hid hs
  clear hs hv hz hbits
  go_enter Try.func3, Try.ntmps3
  go_wp2_with (first
    | (go_at_call 5; ((with_reducible refine H5.out.mono ?_); rintro e w1 ⟨hb1, rfl⟩))
    | (go_at_call 6; ((with_reducible refine (H6.out _ hb1).mono ?_); rintro e w2 ⟨hb2, rfl⟩; have hb12 := belowT hb1 hb2))
    | (go_at_call 7; ((with_reducible refine (H7.out _ hb12).mono ?_); rintro e w3 ⟨v3, rfl, ho3, hb3⟩; have hb13 := belowT hb12 hb3))
    | (go_at_call 8; ((with_reducible refine (H8.out _ hb13).mono ?_); rintro e w4 ⟨v4, rfl, ho4, hb4⟩; have hb14 := belowT hb13 hb4; have q1 := conv_zero w4 none 0; have q3 := conv_src (own_src (Cr.Own.below ho3 hb4)); have q4 := conv_src (own_src ho4); have q9 := conv_src (HS.out.below hb14))))
  go_ret
  exact ⟨rfl, hb14⟩

theorem walk (a0 : Option Addr) (l0 c0 : Nat) (z0 : List Int) (w : World) (w0 : IsRow .u8 w a0 l0 c0 z0) :
    Calls Try.prog 3 #[.slice a0 l0 c0] w fun e w' => e = .returned (.bool true) ∧ Below w.heap.size w w' := by
  by_cases h : 10000 < l0
  · exact long a0 l0 c0 w w0.le h
  obtain ⟨zs, rfl, hz, hv, hs, _⟩ := came w0
  by_cases hb : Cr.Bits zs
  · exact good a0 c0 zs w (by omega) hz hv hs hb
  · exact bad a0 c0 zs w (by omega) hz hv hs hb

theorem own : ownKnob Try.prog.godebug = none := by kernel_rfl
theorem laidOut : laidOutB Try.prog = true := by kernel_rfl
set_option linter.unusedVariables false
set_option maxRecDepth 100000 in
theorem lifted (os : Os) (started : os.Started) (H : Type) (enc : TypeId × Value → H) :
    ReturnsInHanded {} Try.checked os 3 .any (Rows.bitsPacksSpec.pre6 enc Try.prog Try.f3 Rows.bitsPacksRow.domain false) (Rows.bitsPacksSpec.post enc Try.prog Try.f3 false true false false) := by
  refine returnsInHanded_of_change (C := Try.checked) own started (by kernel_rfl) Try.func3
    (ChangeSpec.witness6 (enc := enc) (C := Try.checked) false ⟨#[], #[.slice none 0 0], []⟩ 8 (by kernel_rfl) (by kernel_rfl) (by kernel_rfl) (by kernel_rfl)) ?_
  intro W base args ds gs before hval0 hW hcnd _
  have hval : ∀ (j : Nat) t v, Try.f3.params[j]? = some t → args[j]? = some v → Value.okWide Try.prog W .any base t v := hval0
  have hW' := hW
  obtain ⟨p, q, hA0, hV, rfl, hfz, hnd⟩ := hW
  have hA : DataW.TrodAll enc Try.prog W 0 (fun _ => true) true Try.f3.params.toList args.toList ds p := hA0
  rw [Try.params3] at hA hval
  obtain ⟨v0, vs0, d0, ds0, p0, q0, hargs, rfl, rfl, h0, r0⟩ := trodAll_cons hA
  obtain ⟨rfl, rfl, rfl⟩ := trodAll_nil r0
  obtain rfl : args = #[v0] := by cases args; simp_all
  obtain ⟨rfl, rfl⟩ := trodVars_none hV
  obtain ⟨a0, len0, cap0, rfl⟩ := okWide_slice Try.underlying22 (hval 0 22 v0 rfl rfl)
  have k0 := h0
  have lt0 : ∀ x ∈ p0, x.block < W.heap.size := by obtain ⟨m, hm⟩ := k0; exact DataW.trod_lt m _ _ _ hm
  obtain ⟨z0, w0⟩ : ∃ zs, IsRow .u8 W a0 len0 cap0 zs := by
    obtain ⟨fuel, hf⟩ := h0
    rcases open_ints Try.underlying22 Try.underlying5 (by kernel_rfl) hf with ⟨hcs, _⟩ | ⟨x, l, c, zs, hcs, _, hl, hm, hz, _, hcell, hwz⟩
    · simp [Value.cells] at hcs
      obtain ⟨rfl, rfl, rfl⟩ := hcs
      exact ⟨[], .inl ⟨rfl, rfl, rfl, rfl⟩⟩
    · simp [Value.cells] at hcs
      obtain ⟨rfl, rfl, rfl⟩ := hcs
      exact ⟨zs, .inr ⟨_, rfl, hl, hm, by simpa using hz, hcell, hwz⟩⟩
  clear hA0 hval0
  refine (walk a0 len0 cap0 z0 W w0).mono fun e W' ⟨he, bel⟩ => ?_
  subst he
  exact ⟨_, rfl, _, _, _, [], _, [], hW', trodAll_mk1 (shut_bool Try.underlying4 _), (trodAll_cons_mk (Below.trod laidOut (by kernel_rfl) (of_decide_eq_true (by kernel_rfl)) k0 bel lt0) trodAll_mk0), rfl, bel.frame _, fun h => by cases h⟩

theorem over : Rows.bitsPacksRow.holds Try.pinned (OpenSpec.ofChange Rows.bitsPacksSpec) :=
  OpenClaim.holds_of_wide 3 Try.f3 rfl rfl rfl rfl rfl rfl rfl ⟨rfl, rfl, rfl, rfl, rfl⟩ rfl rfl rfl rfl rfl (by kernel_rfl) Try.func3 (by kernel_rfl)
    (of_decide_eq_true (by kernel_rfl)) (by unfold Func.isWrapper; first | (rw [if_pos (by decide +kernel)]; kernel_rfl) | (rw [if_neg (by decide +kernel)]; exact ⟨rfl, rfl⟩))
    (fun os started H enc _ => lifted os started H enc)

theorem proved : Rows.BitsPacksSaid := over

end Go.Proofs.Ythngicplclecpaa.bitsPacks
