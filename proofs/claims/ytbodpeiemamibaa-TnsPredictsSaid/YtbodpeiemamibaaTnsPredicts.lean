/- Coefficients of prediction are as the document says, and new memory. TnsPredicts returns true, whatever the filter, the memory and the schedule. No condition. -/
import Derived.Test.YtbodpeiemamibaaMrg4
import Derived.Test.YtbodpeiemamibaaEvOpen
import Derived.ChangeAlike
import Derived.ChangeOld
import Derived.ShutString
import Derived.Deep.DeepHandedRow
namespace Go.Proofs.Ytbodpeiemamibaa.tnsPredicts
open Go Go.Ev Go.ChangeShapes Go.WideShapes Go.ChangeAt Go.RowKit Go.Proofs.Ytbodpeiemamibaa.Fx Go.Proofs.Ytbodpeiemamibaa.Tn

/-- What both answer. -/
def Both (L O : Int) (dn f : Bool) (a : Option Addr) (cap : Nat) (zs us : List Int) (E : Int) (w : World) : Prop :=
  (∀ W A c, RdA W A zs → Calls Try.prog 5 #[.agg #[.int .i64 L, .int .i64 O, .bool dn, .bool f, .slice A zs.length c]] W fun e W' => ∃ A' c', e = .returned (.tuple #[.slice A' us.length c', .int .i64 E]) ∧ RdA W' A' us ∧ Wr W' W.heap.size us.length A' ∧ Below W.heap.size W W') ∧
  (∀ W, Below w.heap.size w W → Calls Try.prog 6 #[.agg #[.int .i64 L, .int .i64 O, .bool dn, .bool f, .slice a zs.length cap]] W fun e W' => ∃ A' c', e = .returned (.tuple #[.slice A' us.length c', .int .i64 E]) ∧ RdA W' A' us ∧ Below W.heap.size W W')
theorem rda_nil (W : World) (A : Option Addr) : RdA W A [] := fun i hi => by simp at hi
theorem own_rd {base : Nat} {w : World} {v : Value} {zs : List Int} (h : Own base w v zs) : ∃ A c, v = .slice A zs.length c ∧ RdA w A zs := h.rd.open
theorem both (L O : Int) (dn f : Bool) (a : Option Addr) (cap : Nat) (zs : List Int) (w : World) (hm : zs.length ≤ maxLen) (hr : RdA w a zs) : ∃ us E, us.length ≤ 12 ∧ Both L O dn f a cap zs us E w := by
  by_cases h0 : O < 0 ∨ 12 < O ∨ ¬ (zs.length : Int) = O
  · refine ⟨[], 4, by simp, fun W A c hA => ?_, fun W hW => ?_⟩
    · refine (pred_many L O dn f A c zs W hm h0).mono ?_
      rintro e W' ⟨rfl, hb⟩
      exact ⟨none, 0, rfl, rda_nil _ _, fun j hj => by simp at hj, hb⟩
    · refine (rpred_err L O dn f a cap zs W 4 (by decide) fun X hX => rchk_many L O dn f a cap zs X hm h0).mono ?_
      rintro e W' ⟨rfl, hb⟩
      exact ⟨none, 0, rfl, rda_nil _ _, hb⟩
  have o0 : 0 ≤ O := by omega
  have o1 : O ≤ 12 := by omega
  have o2 : (zs.length : Int) = O := by omega
  by_cases h1 : L < 0 ∨ 63 < L
  · refine ⟨[], 2, by simp, fun W A c hA => ?_, fun W hW => ?_⟩
    · refine (pred_len L O dn f A c zs W o0 o1 o2 h1).mono ?_
      rintro e W' ⟨rfl, hb⟩
      exact ⟨none, 0, rfl, rda_nil _ _, fun j hj => by simp at hj, hb⟩
    · refine (rpred_err L O dn f a cap zs W 2 (by decide) fun X hX => rchk_len L O dn f a cap zs X o0 o1 o2 h1).mono ?_
      rintro e W' ⟨rfl, hb⟩
      exact ⟨none, 0, rfl, rda_nil _ _, hb⟩
  have l0 : 0 ≤ L := by omega
  have l1 : L ≤ 63 := by omega
  by_cases h2 : Rng f zs
  · have hlen : (mk zs.length (cf f zs zs.length)).length = zs.length := mk_len _ _
    refine ⟨mk zs.length (cf f zs zs.length), 0, by omega, fun W A c hA => ?_, fun W hW => ?_⟩
    · refine (pred_ok L O dn f A c zs W hA o0 o1 o2 l0 l1 h2).mono ?_
      rintro e W' ⟨g, rfl, hg, hg2, h12, hb⟩
      refine ⟨some ⟨g, 0, none⟩, 12, by rw [hlen], fun i hi => ?_, fun j hj => ?_, hb⟩
      · rw [hlen] at hi
        exact ⟨g, 0, rfl, hg2, by rw [Nat.zero_add, mk_at hi]; exact (h12 i (by omega)).1⟩
      · rw [hlen] at hj
        exact ⟨g, _, rfl, hg, (h12 j (by omega)).2, (h12 j (by omega)).1⟩
    · refine (rpred_ok L O dn f a cap zs W (hr.below hW) h2 o0 o1 o2 l0 l1).mono ?_
      rintro e W' ⟨v, rfl, ho, hb⟩
      obtain ⟨A', c', rfl, hA⟩ := own_rd ho
      exact ⟨A', c', rfl, hA, hb⟩
  · refine ⟨[], 2, by simp, fun W A c hA => ?_, fun W hW => ?_⟩
    · refine (pred_rng L O dn f A c zs W hA o0 o1 o2 l0 l1 h2).mono ?_
      rintro e W' ⟨rfl, hb⟩
      exact ⟨none, 0, rfl, rda_nil _ _, fun j hj => by simp at hj, hb⟩
    · refine (rpred_err L O dn f a cap zs W 2 (by decide) fun X hX => rchk_rng L O dn f a cap zs X 2 (hr.below (bT hW hX)) o0 o1 o2 l0 l1 ⟨fun q => absurd q h2, fun _ => rfl⟩).mono ?_
      rintro e W' ⟨rfl, hb⟩
      exact ⟨none, 0, rfl, rda_nil _ _, hb⟩
theorem long (L O : Int) (dn f : Bool) (a : Option Addr) (cap : Nat) (zs : List Int) (w : World) (hm : zs.length ≤ maxLen) (h : 1000 < zs.length) :
    Calls Try.prog 3 #[.agg #[.int .i64 L, .int .i64 O, .bool dn, .bool f, .slice a zs.length cap]] w fun e w' => e = .returned (.bool true) ∧ Below w.heap.size w w' := by
  have HB := Lib.hid (box_below w (.cells #[.int .i64 L, .int .i64 O, .bool dn, .bool f, .slice a zs.length cap] 24))
  unfold maxLen at hm
  go_enter Try.func3, Try.ntmps3
  go_wp2
  go_ret
  exact ⟨rfl, HB.out⟩
set_option maxRecDepth 100000 in
set_option maxHeartbeats 4000000 in
theorem good (L O : Int) (dn f : Bool) (a : Option Addr) (cap : Nat) (zs : List Int) (w : World) (hr : RdA w a zs) (hl : zs.length ≤ 1000) :
    Calls Try.prog 3 #[.agg #[.int .i64 L, .int .i64 O, .bool dn, .bool f, .slice a zs.length cap]] w fun e w' => e = .returned (.bool true) ∧ Below w.heap.size w w' := by
  obtain ⟨us, E, h12, hP, hQ⟩ := both L O dn f a cap zs w (by unfold maxLen; omega) hr
  have HP := Lib.hid hP
  have HQ := Lib.hid hQ
  have h12 := Lib.hid h12
  have HBW : Hid (Below w.heap.size w ((w.alloc (.cells #[.int .i64 L, .int .i64 O, .bool dn, .bool f, .slice a zs.length cap] 24)).alloc (.cells #[.int .i64 L, .int .i64 O, .bool dn, .bool f, .slice a zs.length cap] 24))) := Lib.hid (bT (box_below _ _) (box_below _ _))
  have HX := Lib.hid (fun y (k : Below w.heap.size w y) => hr.below k)
  have hsA : ((w.alloc (.cells #[.int .i64 L, .int .i64 O, .bool dn, .bool f, .slice a zs.length cap] 24)).alloc (.cells #[.int .i64 L, .int .i64 O, .bool dn, .bool f, .slice a zs.length cap] 24)).heap.size = w.heap.size + 2 := by simp
  have HK1 : Hid (C5 ((w.alloc (.cells #[.int .i64 L, .int .i64 O, .bool dn, .bool f, .slice a zs.length cap] 24)).alloc (.cells #[.int .i64 L, .int .i64 O, .bool dn, .bool f, .slice a zs.length cap] 24)) w.heap.size L O dn f (.slice a zs.length cap)) := Lib.hid (boxed w L O dn f (.slice a zs.length cap) _ (box_below _ _))
  have HK2 : Hid (C5 ((w.alloc (.cells #[.int .i64 L, .int .i64 O, .bool dn, .bool f, .slice a zs.length cap] 24)).alloc (.cells #[.int .i64 L, .int .i64 O, .bool dn, .bool f, .slice a zs.length cap] 24)) (w.heap.size + 1) L O dn f (.slice a zs.length cap)) := Lib.hid (by
    have := boxed (w.alloc (.cells #[.int .i64 L, .int .i64 O, .bool dn, .bool f, .slice a zs.length cap] 24)) L O dn f (.slice a zs.length cap) _ (Below.refl _ _)
    rw [show (w.alloc (.cells #[.int .i64 L, .int .i64 O, .bool dn, .bool f, .slice a zs.length cap] 24)).heap.size = w.heap.size + 1 by simp] at this
    exact this)
  clear hr hP hQ
  have g1 : ¬ (1000 : Int) < zs.length := by omega
  go_enter Try.func3, Try.ntmps3
  go_wp2_with (first
    | (at_builtin; (generalize hwA : (w.alloc (.cells #[.int .i64 L, .int .i64 O, .bool dn, .bool f, .slice a zs.length cap] 24)).alloc (.cells #[.int .i64 L, .int .i64 O, .bool dn, .bool f, .slice a zs.length cap] 24) = wA at *; refine wpList_copy _ rfl (.const (.slice none 0 0)) (.tmp 15) rfl wA.heap.size _ rfl a cap zs (World.ownsRow_nil _ _ 3 1) (Nat.le_refl _) rfl hl (HX.out _ HBW.out) ?_; intro v1 w1 ho1 hg1; have hb1 := (Below.refl _ _).grown hg1 (Nat.le_refl _) (fun k hk => by cases hk); have k1 := HK1.out.below (by omega) hb1; have k2 := HK2.out.below (by omega) hb1; obtain ⟨c0, c1, c2, c3, c4⟩ := k1; obtain ⟨d0, d1, d2, d3, d4⟩ := k2; have fz := hb1.frozen (p := ⟨w.heap.size + 1, 4, none⟩) (by rw [hsA]; simp); have fz2 : wA.frozen? ⟨w.heap.size + 1, 4, none⟩ = false := (by rw [← hwA]; simp); rw [fz2] at fz; clear fz2 hwA hg1; obtain ⟨A1, e1, rfl, hr1⟩ := own_rd ho1; have O1 := Lib.hid ho1; have B1 := Lib.hid hb1; clear ho1 hr1 hb1))
    | (go_at_call 5; (generalize hw2 : w1.setCell ⟨w.heap.size + 1, 4, none⟩ (.slice A1 zs.length e1) = w2 at *; have K1 : C5 w2 w.heap.size L O dn f (.slice a zs.length cap) := (by rw [← hw2]; exact ⟨by simp [go_sem, c0], by simp [go_sem, c1], by simp [go_sem, c2], by simp [go_sem, c3], by simp [go_sem, c4]⟩); have K2 : C5 w2 (w.heap.size + 1) L O dn f (.slice A1 zs.length e1) := (by rw [← hw2]; exact ⟨by simp [go_sem, d0], by simp [go_sem, d1], by simp [go_sem, d2], by simp [go_sem, d3], by simp [go_sem, d4]⟩); have R2 : RdA w2 A1 zs := (by rw [← hw2]; have o2 := Own.set (i := 4) (x := .slice A1 zs.length e1) O1.out (show w.heap.size + 1 < wA.heap.size by omega); obtain ⟨A9, e9, he, hr9⟩ := own_rd o2; obtain ⟨rfl, rfl⟩ : A1 = A9 ∧ e1 = e9 := (by simpa using he); exact hr9); have BW2 : Below w.heap.size w w2 := (by rw [← hw2]; exact (bT HBW.out B1.out).setCell (by simp) _); have sz2 : w2.heap.size = w1.heap.size := (by rw [← hw2]; simp); have sz3 := B1.out.size; clear hw2 c0 c1 c2 c3 c4 d0 d1 d2 d3 d4 fz; have KK := Lib.hid (fun x (hx : Below w2.heap.size w2 x) => And.intro (K1.below (by omega) hx) (And.intro (K2.below (by omega) hx) (And.intro (R2.below hx) (And.intro (HX.out x (bT BW2 hx)) (bT BW2 hx))))); clear K1 K2 R2 BW2 HK1 HK2; (with_reducible refine (HP.out w2 A1 e1 (KK.out w2 (Below.refl _ _)).2.2.1).mono ?_); rintro e w3 ⟨A3, e3, rfl, hr3, hw3, hb3⟩; have R3 := Lib.hid hr3; have V3 := Lib.hid hw3; have B3 := Lib.hid hb3; obtain ⟨⟨c0, c1, c2, c3, c4⟩, -⟩ := KK.out w3 hb3; clear hr3 hw3 hb3))
    | (go_at_call 6; ((with_reducible refine (HQ.out w3 (KK.out w3 B3.out).2.2.2.2).mono ?_); rintro e w4 ⟨A4, e4, rfl, hr4, hb4⟩; have R4 := Lib.hid hr4; have B4 := Lib.hid hb4; clear hr4 hb4 c0 c1 c2 c3 c4))
    | (go_at_call 7; ((with_reducible refine (same_self A3 A4 e3 e4 us w4 (by have := h12.out; omega) (R3.out.below B4.out) R4.out).mono ?_); rintro e w5 ⟨rfl, hb5⟩; have B5 := Lib.hid (bT B4.out hb5); clear hb5)))
  have HEE : (E != E) = false := by simp
  have V5 := Lib.hid (V3.out.below B5.out)
  have X5 := Lib.hid (bT B3.out B5.out)
  have u12 := h12.out
  clear R3 R4 B4 V3 HP HQ HX O1
  go_loopw [8] (fun i wr => ∃ k : Nat, k ≤ us.length ∧ i = .int .i64 k ∧ Hid (Wr wr w2.heap.size us.length A3) ∧ Below w2.heap.size w2 wr) (fun i _ => us.length - (intOf i).toNat)
  case atStart => exact ⟨0, by omega, rfl, V5, X5.out⟩
  case round =>
    obtain ⟨k, hk, rfl, hW, hb⟩ := hrel
    by_cases hlt : k < us.length
    · obtain ⟨g, z, e8, hg1, hg3, hg4⟩ := hW.out k hlt
      subst e8
      go_wp2
      go_roundw
      case rel => exact ⟨k + 1, by omega, by go_num, Lib.hid (hW.out.set hlt), hb.setCell hg1 _⟩
      case measure => simp [intOf]; omega
    · have hend : k = us.length := by omega
      obtain ⟨⟨c0, c1, c2, c3, c4⟩, ⟨d0, d1, d2, d3, d4⟩, rA1, rA, hBw⟩ := KK.out wr hb
      have HRA := Lib.hid (And.intro rA1 rA)
      have HBW2 := Lib.hid hBw
      clear rA1 rA hBw hb hW
      go_wp2_with (go_at_call 7; ((with_reducible refine (same_self A1 a e1 cap zs wr hl HRA.out.1 HRA.out.2).mono ?_); rintro e w10 ⟨rfl, hb10⟩))
      go_ret
      exact ⟨rfl, bT HBW2.out hb10⟩
theorem walk (L O : Int) (dn f : Bool) (a : Option Addr) (cap : Nat) (zs : List Int) (w : World)
    (_ : (Lit.int .i64 L).wf = true) (_ : (Lit.int .i64 O).wf = true) (l1 : zs.length ≤ maxLen) (r1 : RowA .i64 w a zs) (_ : ∀ n ∈ zs, (Lit.int .i64 n).wf = true) :
    Calls Try.prog 3 #[.agg #[.int .i64 L, .int .i64 O, .bool dn, .bool f, .slice a zs.length cap]] w fun e w' => e = .returned (.bool true) ∧ Below w.heap.size w w' := by
  by_cases hg : 1000 < zs.length
  · exact long L O dn f a cap zs w l1 hg
  · exact good L O dn f a cap zs w r1 (by omega)
theorem own : ownKnob Try.prog.godebug = none := by kernel_rfl
theorem laidOut : laidOutB Try.prog = true := by kernel_rfl
set_option linter.unusedVariables false
set_option maxRecDepth 100000 in
theorem lifted (os : Os) (started : os.Started) (H : Type) (enc : TypeId × Value → H) :
    ReturnsInHanded {} Try.checked os 3 .any (Rows.tnsPredictsSpec.pre6 enc Try.prog Try.f3 Rows.tnsPredictsRow.domain false) (Rows.tnsPredictsSpec.post enc Try.prog Try.f3 false true false false) := by
  refine returnsInHanded_of_change (C := Try.checked) own started (by kernel_rfl) Try.func3
    (ChangeSpec.witness6 (enc := enc) (C := Try.checked) false ⟨#[], #[.agg #[.int .i64 0, .int .i64 0, .bool false, .bool false, .slice none 0 0]], []⟩ 8 (by kernel_rfl) (by kernel_rfl) (by kernel_rfl) (by kernel_rfl)) ?_
  intro W base args ds gs before hval0 hW hcnd _
  have hval : ∀ (j : Nat) t v, Try.f3.params[j]? = some t → args[j]? = some v → Value.okWide Try.prog W .any base t v := hval0
  have hW' := hW
  obtain ⟨p, q, hA0, hV, rfl, hfz, hnd⟩ := hW
  have hA : DataW.TrodAll enc Try.prog W 0 (fun _ => true) true Try.f3.params.toList args.toList ds p := hA0
  rw [Try.params3] at hA hval
  obtain ⟨v0, vs0, d0, ds0, p0, q0, hargs, rfl, rfl, h0, r0⟩ := trodAll_cons hA
  obtain ⟨rfl, rfl, rfl⟩ := trodAll_nil r0
  obtain rfl : args = #[v0] := by cases args; simp_all
  obtain ⟨rfl, rfl⟩ := trodVars_none hV
  have k0 := h0
  have lt0 : ∀ x ∈ p0, x.block < W.heap.size := by obtain ⟨m, hm⟩ := k0; exact DataW.trod_lt m _ _ _ hm
  obtain ⟨a0l, a0o, a0d, a0f, a0a, a0c, a0z, rfl, w0l, w0o, l0, r0r, e0⟩ := open_filt Try.underlying24 rfl rfl rfl rfl rfl Try.underlying3 Try.underlying3 Try.underlying4 Try.underlying4 Try.underlying22 Try.underlying3 (by kernel_rfl) (by kernel_rfl) (by kernel_rfl) (by kernel_rfl) (by kernel_rfl) (by kernel_rfl) (by kernel_rfl) (hval 0 24 v0 rfl rfl) h0
  clear hA0 hval0
  refine (walk a0l a0o a0d a0f a0a a0c a0z W w0l w0o l0 r0r e0).mono fun e W' ⟨he, bel⟩ => ?_
  subst he
  exact ⟨_, rfl, _, _, _, [], _, [], hW', trodAll_mk1 (shut_bool Try.underlying4 _), (trodAll_cons_mk (Below.trod laidOut (by kernel_rfl) (of_decide_eq_true (by kernel_rfl)) k0 bel lt0) trodAll_mk0), rfl, bel.frame _, fun h => by cases h⟩

theorem over : Rows.tnsPredictsRow.holds Try.pinned (OpenSpec.ofChange Rows.tnsPredictsSpec) :=
  OpenClaim.holds_of_wide 3 Try.f3 rfl rfl rfl rfl rfl rfl rfl ⟨rfl, rfl, rfl, rfl, rfl⟩ rfl rfl rfl rfl rfl (by kernel_rfl) Try.func3 (by kernel_rfl)
    (of_decide_eq_true (by kernel_rfl)) (by unfold Func.isWrapper; first | (rw [if_pos (by decide +kernel)]; kernel_rfl) | (rw [if_neg (by decide +kernel)]; exact ⟨rfl, rfl⟩))
    (fun os started H enc _ => lifted os started H enc)

theorem proved : Rows.TnsPredictsSaid := over
end Go.Proofs.Ytbodpeiemamibaa.tnsPredicts
