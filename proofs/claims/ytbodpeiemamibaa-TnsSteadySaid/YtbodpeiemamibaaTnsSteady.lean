/- Coefficients of prediction are at most 2^32 in size, all together, and a filter of noughts predicts nothing. TnsSteady returns true, whatever the filter, the memory and the schedule. No condition. -/
import Derived.Test.YtbodpeiemamibaaMrg4
import Derived.Test.YtbodpeiemamibaaTnAlive
import Derived.Test.YtbodpeiemamibaaEvOpen
import Derived.ChangeAlike
import Derived.ChangeOld
import Derived.ShutString
import Derived.Deep.DeepHandedRow
import Derived.Deep.OwnRows
namespace Go.Proofs.Ytbodpeiemamibaa.tnsSteady
open Go Go.Ev Go.ChangeShapes Go.WideShapes Go.ChangeAt Go.RowKit Go.Proofs.Ytbodpeiemamibaa.Fx Go.Proofs.Ytbodpeiemamibaa.Tn

theorem bad (L O : Int) (dn f : Bool) (a : Option Addr) (cap : Nat) (zs : List Int) (w : World) (hm : zs.length ≤ maxLen) (hr : RdA w a zs) (h : ¬ (0 ≤ O ∧ O ≤ 12 ∧ (zs.length : Int) = O ∧ 0 ≤ L ∧ L ≤ 63 ∧ Rng f zs)) :
    ∃ E, E ≠ 0 ∧ ∀ W, Below w.heap.size w W → Calls Try.prog 5 #[.agg #[.int .i64 L, .int .i64 O, .bool dn, .bool f, .slice a zs.length cap]] W fun e W' => e = .returned (.tuple #[.slice none 0 0, .int .i64 E]) ∧ Below W.heap.size W W' := by
  by_cases h0 : O < 0 ∨ 12 < O ∨ ¬ (zs.length : Int) = O
  · exact ⟨4, by decide, fun W hW => pred_many L O dn f a cap zs W hm h0⟩
  have o0 : 0 ≤ O := by omega
  have o1 : O ≤ 12 := by omega
  have o2 : (zs.length : Int) = O := by omega
  by_cases h1 : L < 0 ∨ 63 < L
  · exact ⟨2, by decide, fun W hW => pred_len L O dn f a cap zs W o0 o1 o2 h1⟩
  have l0 : 0 ≤ L := by omega
  have l1 : L ≤ 63 := by omega
  exact ⟨2, by decide, fun W hW => pred_rng L O dn f a cap zs W (hr.below hW) o0 o1 o2 l0 l1 (fun q => h ⟨o0, o1, o2, l0, l1, q⟩)⟩
theorem long (L O : Int) (dn f : Bool) (a : Option Addr) (cap : Nat) (zs : List Int) (w : World) (hm : zs.length ≤ maxLen) (h : 1000 < zs.length) :
    Calls Try.prog 4 #[.agg #[.int .i64 L, .int .i64 O, .bool dn, .bool f, .slice a zs.length cap]] w fun e w' => e = .returned (.bool true) ∧ Below w.heap.size w w' := by
  have HB := Lib.hid (box_below w (.cells #[.int .i64 L, .int .i64 O, .bool dn, .bool f, .slice a zs.length cap] 24))
  have HX := Lib.hid (fun x hx => boxed w L O dn f (.slice a zs.length cap) x hx)
  unfold maxLen at hm
  go_enter Try.func4, Try.ntmps4
  go_wp2_with (go_at_call 8; ((with_reducible refine (TnA.alive_ok _).mono ?_); rintro e w1 ⟨rfl, hb⟩; obtain ⟨z0, z1, z2, z3, z4⟩ := HX.out w1 hb; have HB1 := Lib.hid (bT HB.out hb)))
  go_ret
  exact ⟨rfl, HB1.out⟩
theorem wrong (L O : Int) (dn f : Bool) (a : Option Addr) (cap : Nat) (zs : List Int) (w : World) (hl : zs.length ≤ 1000) (E : Int) (hE : E ≠ 0) (hc : ∀ W, Below w.heap.size w W → Calls Try.prog 5 #[.agg #[.int .i64 L, .int .i64 O, .bool dn, .bool f, .slice a zs.length cap]] W fun e W' => e = .returned (.tuple #[.slice none 0 0, .int .i64 E]) ∧ Below W.heap.size W W') :
    Calls Try.prog 4 #[.agg #[.int .i64 L, .int .i64 O, .bool dn, .bool f, .slice a zs.length cap]] w fun e w' => e = .returned (.bool true) ∧ Below w.heap.size w w' := by
  have HB := Lib.hid (box_below w (.cells #[.int .i64 L, .int .i64 O, .bool dn, .bool f, .slice a zs.length cap] 24))
  have HX := Lib.hid (fun x hx => boxed w L O dn f (.slice a zs.length cap) x hx)
  have HC := Lib.hid hc
  have g1 : ¬ (1000 : Int) < zs.length := by omega
  have h3 : (E != 0) = true := by simp [hE]
  clear hc
  go_enter Try.func4, Try.ntmps4
  go_wp2_with (first | (go_at_call 8; ((with_reducible refine (TnA.alive_ok _).mono ?_); rintro e w1 ⟨rfl, hb⟩; obtain ⟨z0, z1, z2, z3, z4⟩ := HX.out w1 hb; have HB1 := Lib.hid (bT HB.out hb))) | (go_at_call 5; ((with_reducible refine (HC.out w1 HB1.out).mono ?_); rintro e w2 ⟨rfl, hb2⟩; have HB2 := Lib.hid (bT HB1.out hb2))))
  go_ret
  exact ⟨rfl, HB2.out⟩
theorem zero_rng (f : Bool) (n : Nat) : Rng f (List.replicate n (0 : Int)) := fun i hi => by
  have : (List.replicate n (0 : Int)).getD i 0 = 0 := by simp at hi; simp [hi]
  rw [this]
  cases f
  · exact ⟨by decide, by decide⟩
  · exact ⟨by decide, by decide⟩
theorem zero_cf (f : Bool) (n i : Nat) : cf f (List.replicate n (0 : Int)) n i = 0 := cf_zero (fun j hj => by simp at hj; simp [hj]) n (by simp) i
theorem rda_row {w : World} {g n : Nat} (h : w.rowIs g 3 n (fun _ => .int .i64 0)) : RdA w (some ⟨g, 0, none⟩) (List.replicate n (0 : Int)) := fun i hi => by
  simp at hi
  exact ⟨g, 0, rfl, h.lt, by rw [Nat.zero_add, h.cell hi]; simp [hi]⟩
theorem tot_last {f : Bool} {zs : List Int} (hz : Rng f zs) (n12 : zs.length ≤ 12) : tot (cf f zs zs.length) zs.length ≤ 4294967296 := by
  have h := tot_cf (f := f) hz.eight zs.length (Nat.le_refl _)
  have h2 := pow12 n12
  omega
set_option maxRecDepth 100000 in
set_option maxHeartbeats 4000000 in
theorem good (L : Int) (dn f : Bool) (a : Option Addr) (cap : Nat) (zs : List Int) (w : World) (hr : RdA w a zs) (n12 : zs.length ≤ 12) (l0 : 0 ≤ L) (l1 : L ≤ 63) (hg : Rng f zs) :
    Calls Try.prog 4 #[.agg #[.int .i64 L, .int .i64 zs.length, .bool dn, .bool f, .slice a zs.length cap]] w fun e w' => e = .returned (.bool true) ∧ Below w.heap.size w w' := by
  obtain ⟨i0, hi, hz0, hz1, hz2⟩ := info_parts info3
  have HB := Lib.hid (box_below w (.cells #[.int .i64 L, .int .i64 zs.length, .bool dn, .bool f, .slice a zs.length cap] 24))
  have HX := Lib.hid (fun x hx => boxed w L zs.length dn f (.slice a zs.length cap) x hx)
  have HP := Lib.hid (fun W (hW : Below w.heap.size w W) => pred_ok L zs.length dn f a cap zs W (hr.below hW) (by omega) (by omega) rfl l0 l1 hg)
  have HZ := Lib.hid (fun (W : World) (g : Nat) (hW : RdA W (some ⟨g, 0, none⟩) (List.replicate zs.length (0 : Int))) => pred_ok L zs.length dn f (some ⟨g, 0, none⟩) zs.length (List.replicate zs.length (0 : Int)) W hW (by omega) (by omega) (by simp) l0 l1 (zero_rng f _))
  simp only [List.length_replicate] at HZ
  have HZF := Lib.hid (zero_cf f zs.length)
  have HT := Lib.hid (tot_last hg n12)
  have HCB := Lib.hid (fun i => cf_bd (f := f) hg.eight n12 (i := i) (Nat.le_refl zs.length))
  have Hrow := Lib.hid (fun w1 : World => World.rowIs_made w1 (.int .i64 0) zs.length 3)
  have g1 : ¬ (1000 : Int) < zs.length := by omega
  have g2 : (0 : Int) ≤ zs.length := by omega
  generalize cf f zs zs.length = F at *
  generalize cf f (List.replicate zs.length (0 : Int)) zs.length = Z at *
  clear hr hg
  go_enter Try.func4, Try.ntmps4
  go_wp2_with (first
    | (go_at_call 8; ((with_reducible refine (TnA.alive_ok _).mono ?_); rintro e w1 ⟨rfl, hb⟩; obtain ⟨z0, z1, z2, z3, z4⟩ := HX.out w1 hb; have HB0 := Lib.hid hb; have HB1 := Lib.hid (bT HB.out hb); clear hb))
    | (go_at_call 5; ((with_reducible refine (HP.out w1 HB1.out).mono ?_); rintro e w2 ⟨gA, rfl, hgA, hgA2, hA, hb2⟩; have HA := Lib.hid hA; have HB2 := Lib.hid (bT HB0.out hb2); have HB2' := Lib.hid hb2; clear hA hb2 z0 z1 z2 z3 z4; obtain ⟨z0, z1, z2, z3, z4⟩ := HX.out w2 HB2.out; obtain ⟨y0, y1, y2, y3, y4⟩ := HX.out (w2.alloc (.cells #[.int .i64 L, .int .i64 zs.length, .bool dn, .bool f, .slice a zs.length cap] 24)) (HB2.out.alloc HB2.out.size _)))
    | (go_at_call 5; (have hz5 : (w2.alloc (.cells #[.int .i64 L, .int .i64 zs.length, .bool dn, .bool f, .slice (some ⟨w2.heap.size + 1, 0, none⟩) zs.length zs.length] 24)).heap.size = w2.heap.size + 1 := (by simp); have hrow := Hrow.out (w2.alloc (.cells #[.int .i64 L, .int .i64 zs.length, .bool dn, .bool f, .slice (some ⟨w2.heap.size + 1, 0, none⟩) zs.length zs.length] 24)); rw [hz5] at hrow; have hb3 : Below w2.heap.size w2 ((w2.alloc (.cells #[.int .i64 L, .int .i64 zs.length, .bool dn, .bool f, .slice (some ⟨w2.heap.size + 1, 0, none⟩) zs.length zs.length] 24)).alloc (.cells (madeCells #[.int .i64 0] zs.length) 3)) := ((Below.refl _ _).alloc (Nat.le_refl _) _).alloc (by simp) _; generalize (w2.alloc (.cells #[.int .i64 L, .int .i64 zs.length, .bool dn, .bool f, .slice (some ⟨w2.heap.size + 1, 0, none⟩) zs.length zs.length] 24)).alloc (.cells (madeCells #[.int .i64 0] zs.length) 3) = w3 at *; (with_reducible refine (HZ.out w3 (w2.heap.size + 1) (rda_row hrow)).mono ?_); rintro e w4 ⟨gB, rfl, hgB, hgB2, hB, hb4⟩; have HBB := Lib.hid hB; have hb24 := bT hb3 hb4; have HA4 := Lib.hid (HA.out.below hgA2 hb24); have HB4 := Lib.hid (bT HB0.out (bT HB2'.out hb24)); have HBW4 := Lib.hid hb24; have HBS := Lib.hid (bT HB2'.out hb24).size; have hgA4 : gA < w4.heap.size := Nat.lt_of_lt_of_le hgA2 hb24.size; clear hB hb4 hb24 hrow hb3 hz5 HA; obtain ⟨x0, x1, x2, x3, x4⟩ := HX.out w4 HB4.out))
    | (refine wpList_make_row _ rfl _ _ 22 rfl 3 i0 (.int .i64 0) Try.underlying22 hi hz0 hz1 rfl .i64 .i64 zs.length rfl rfl (by rw [hz2]; omega) (by omega) ?_))
  go_loopw [9, 10] (fun s i wr => ∃ k : Nat, k ≤ zs.length ∧ i = .int .i64 k ∧ s = .int .i64 (tot F k) ∧ Below w4.heap.size w4 wr) (fun _ i _ => zs.length - (intOf i).toNat)
  case atStart => exact ⟨0, by omega, rfl, rfl, Below.refl _ _⟩
  case round =>
    obtain ⟨k, hk, rfl, rfl, hb⟩ := hrel
    by_cases hlt : k < zs.length
    · obtain ⟨c1, -⟩ := (HA4.out.below hgA4 hb) k (by omega)
      obtain ⟨c2, -⟩ := (HBB.out.below hgB2 hb) k (by omega)
      have hz := HZF.out k
      have hT1 := tot_mono F (i := k + 1) zs.length hlt
      have hT := HT.out
      have hN := tot_nn F k
      have hst : tot F (k + 1) = tot F k + max (F k) (-(F k)) := rfl
      have hcb := HCB.out k
      obtain ⟨b0, b1⟩ := hcb
      generalize hq2 : tot F (k + 1) = t2 at *
      have hq2 := Lib.hid hq2
      generalize tot F k = t1 at *
      generalize F k = x at *
      generalize Z k = z at *
      subst hz
      have k0' : (0 : Int) ≤ k := by omega
      have k1' : (k : Int) < zs.length := by omega
      have ht2 : t1 + max x (-x) ≤ 4294967296 := by omega
      go_wp2
      go_quiet (fail)
      go_wp2
      refine ⟨⟨k + 1, by omega, by go_num, ?_, hb.trans ((drewN_belowL wr nq).mono hb.size)⟩, by simp [intOf]; omega⟩
      rw [hq2.out, hst]
      congr 2
      by_cases e : x < -x
      · rw [if_pos e]; omega
      · rw [if_neg e]; omega
    · have hend : k = zs.length := by omega
      subst hend
      have hT := HT.out
      have HBE := Lib.hid (bT HB1.out ((bT HB2'.out (HBW4.out)).trans (hb.mono HBS.out)))
      generalize tot F zs.length = t1 at *
      go_wp2
      go_ret
      exact ⟨rfl, HBE.out⟩
theorem walk (L O : Int) (dn f : Bool) (a : Option Addr) (cap : Nat) (zs : List Int) (w : World)
    (_ : (Lit.int .i64 L).wf = true) (_ : (Lit.int .i64 O).wf = true) (l1 : zs.length ≤ maxLen) (r1 : RowA .i64 w a zs) (_ : ∀ n ∈ zs, (Lit.int .i64 n).wf = true) :
    Calls Try.prog 4 #[.agg #[.int .i64 L, .int .i64 O, .bool dn, .bool f, .slice a zs.length cap]] w fun e w' => e = .returned (.bool true) ∧ Below w.heap.size w w' := by
  by_cases hg : 1000 < zs.length
  · exact long L O dn f a cap zs w l1 hg
  by_cases h : 0 ≤ O ∧ O ≤ 12 ∧ (zs.length : Int) = O ∧ 0 ≤ L ∧ L ≤ 63 ∧ Rng f zs
  · obtain ⟨_, h1, rfl, h3, h4, h5⟩ := h
    exact good L dn f a cap zs w r1 (by omega) h3 h4 h5
  · obtain ⟨E, hE, hc⟩ := bad L O dn f a cap zs w l1 r1 h
    exact wrong L O dn f a cap zs w (by omega) E hE hc
theorem own : ownKnob Try.prog.godebug = none := by kernel_rfl
theorem laidOut : laidOutB Try.prog = true := by kernel_rfl
set_option linter.unusedVariables false
set_option maxRecDepth 100000 in
theorem lifted (os : Os) (started : os.Started) (H : Type) (enc : TypeId × Value → H) :
    ReturnsInHanded {} Try.checked os 4 .any (Rows.tnsSteadySpec.pre6 enc Try.prog Try.f4 Rows.tnsSteadyRow.domain false) (Rows.tnsSteadySpec.post enc Try.prog Try.f4 false true false false) := by
  refine returnsInHanded_of_change (C := Try.checked) own started (by kernel_rfl) Try.func4
    (ChangeSpec.witness6 (enc := enc) (C := Try.checked) false ⟨#[], #[.agg #[.int .i64 0, .int .i64 0, .bool false, .bool false, .slice none 0 0]], []⟩ 8 (by kernel_rfl) (by kernel_rfl) (by kernel_rfl) (by kernel_rfl)) ?_
  intro W base args ds gs before hval0 hW hcnd _
  have hval : ∀ (j : Nat) t v, Try.f4.params[j]? = some t → args[j]? = some v → Value.okWide Try.prog W .any base t v := hval0
  have hW' := hW
  obtain ⟨p, q, hA0, hV, rfl, hfz, hnd⟩ := hW
  have hA : DataW.TrodAll enc Try.prog W 0 (fun _ => true) true Try.f4.params.toList args.toList ds p := hA0
  rw [Try.params4] at hA hval
  obtain ⟨v0, vs0, d0, ds0, p0, q0, hargs, rfl, rfl, h0, r0⟩ := trodAll_cons hA
  obtain ⟨rfl, rfl, rfl⟩ := trodAll_nil r0
  obtain rfl : args = #[v0] := by cases args; simp_all
  obtain ⟨rfl, rfl⟩ := trodVars_none hV
  have k0 := h0
  have lt0 : ∀ x ∈ p0, x.block < W.heap.size := by obtain ⟨m, hm⟩ := k0; exact DataW.trod_lt m _ _ _ hm
  obtain ⟨a0l, a0o, a0d, a0f, a0a, a0c, a0z, rfl, w0l, w0o, l0, r0r, e0⟩ := open_filt Try.underlying24 rfl rfl rfl rfl rfl Try.underlying3 Try.underlying3 Try.underlying4 Try.underlying4 Try.underlying22 Try.underlying3 (by kernel_rfl) (by kernel_rfl) (by kernel_rfl) (by kernel_rfl) (by kernel_rfl) (by kernel_rfl) (by kernel_rfl) (hval 0 24 v0 rfl rfl) h0
  clear hA0 hval0
  refine (walk a0l a0o a0d a0f a0a a0c a0z W w0l w0o l0 r0r e0).mono fun e W' ⟨he, bel⟩ => ?_
  subst he
  exact ⟨_, rfl, _, _, _, [], _, [], hW', trodAll_mk1 (shut_bool Try.underlying4 _), (trodAll_cons_mk (Below.trod laidOut (by kernel_rfl) (of_decide_eq_true (by kernel_rfl)) k0 bel lt0) trodAll_mk0), rfl, bel.frame _, fun h => by cases h⟩

theorem over : Rows.tnsSteadyRow.holds Try.pinned (OpenSpec.ofChange Rows.tnsSteadySpec) :=
  OpenClaim.holds_of_wide 4 Try.f4 rfl rfl rfl rfl rfl rfl rfl ⟨rfl, rfl, rfl, rfl, rfl⟩ rfl rfl rfl rfl rfl (by kernel_rfl) Try.func4 (by kernel_rfl)
    (of_decide_eq_true (by kernel_rfl)) (by unfold Func.isWrapper; first | (rw [if_pos (by decide +kernel)]; kernel_rfl) | (rw [if_neg (by decide +kernel)]; exact ⟨rfl, rfl⟩))
    (fun os started H enc _ => lifted os started H enc)

theorem proved : Rows.TnsSteadySaid := over
end Go.Proofs.Ytbodpeiemamibaa.tnsSteady
