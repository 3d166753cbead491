/- Seeds and noise, and the errors, are the document's, and new memory. NoiseDoes returns true, whatever the numbers, the memory and the schedule; the variable that the row lists is tied to the program's text. No condition. -/
import Derived.Test.YtanjcbnkkhbkkaaDoorNoPub
import Derived.Test.YtanjcbnkkhbkkaaDoorCards
import Derived.Test.YtanjcbnkkhbkkaaDoorTie
import Derived.WalkKit
import Derived.Below
import Derived.RegionTactic
import Derived.Deep.QuietTactic
import Derived.BigQuiet
import Derived.ChangeAlike
import Derived.Deep.OwnRows
import Derived.ProofKit
import Derived.OpenShut
import Derived.ShutString
import Derived.ChangeOld
import Derived.Deep.DeepHandedRow
import Derived.Lib.LaidTab
import Derived.Lib.Hide
namespace Go.Proofs.YtanjcbnkkhbkkaaDoor.noiseDoes
open Go Go.Ev Go.ChangeShapes Go.WideShapes Go.ChangeAt Go.RowKit Go.Proofs.YtanjcbnkkhbkkaaDoor.Fx Go.Proofs.YtanjcbnkkhbkkaaDoor.Nm Go.Proofs.YtanjcbnkkhbkkaaDoor.No

theorem wfu {s : Int} (h : (Lit.int .u32 s).wf = true) : ∃ n : Nat, s = (n : Int) ∧ n < 4294967296 := by
  simp [Lit.wf] at h
  have e : IntKind.u32.min = 0 := rfl
  have e2 : IntKind.u32.max = 4294967295 := rfl
  exact ⟨s.toNat, by omega, by omega⟩
/-- The lines, in bounds. -/
theorem F_bd {s m : Nat} {st : Int} (h : 0 ≤ st) {j : Nat} (hj : j < m) : -268435455 ≤ nl (nd s m) (na st) (nv s j) ∧ nl (nd s m) (na st) (nv s j) ≤ 268435455 := by
  obtain ⟨a, b⟩ := na_bd h
  have := nl_bd (nd_is s m) (nS_at s m hj) a
  omega

theorem sd_u (g x b : Int) : 0 ≤ SD g x b ∧ SD g x b < 4294967296 := by
  unfold SD
  split
  · exact sd_bd g x b
  · omega
theorem es_u (g x b : Int) : 0 ≤ ES g x b ∧ ES g x b ≤ 2 := by unfold ES; split <;> omega
theorem bad (g x b : Int) (s : Int) (st m : Int) (w : World) (h : st < 0 ∨ 511 < st ∨ m < 0 ∨ 256 < m) : Calls Tryd.prog 7 #[.int .i64 g, .int .i64 x, .int .i64 b, .int .u32 s, .int .i64 st, .int .i64 m] w fun e w' => e = .returned (.bool true) ∧ Below w.heap.size w w' := by
  have H1 := Lib.hid (fun w => Seed_ok g x b w)
  have H2 := Lib.hid (fun w => rSeed_ok g x b w)
  have H3 := Lib.hid (fun w => eband_bad st m h s w)
  have H4 := Lib.hid (fun w => erband_bad st m h s w)
  have H5 := Lib.hid (fun w => same_yes (.slice none 0 0) (.slice none 0 0) [] w (by decide) (nil_rd w none 0) (nil_rd w none 0))
  have hE : 0 ≤ (if st < 0 ∨ 511 < st then (2 : Int) else 4) ∧ (if st < 0 ∨ 511 < st then (2 : Int) else 4) ≤ 4 := by split <;> omega
  have hs := es_u g x b
  clear h
  generalize SD g x b = S at *
  generalize ES g x b = T at *
  generalize (if st < 0 ∨ 511 < st then (2 : Int) else 4) = U at *
  obtain ⟨e0, e1⟩ := hE
  obtain ⟨s0, s1⟩ := hs
  have x1 : wrap64 T = T := w64 (by omega) (by omega)
  have x2 : wrap64 U = U := w64 (by omega) (by omega)
  go_enter Tryd.func7, Tryd.ntmps7
  go_wp2_with (first | (go_at_call 23; ((with_reducible refine (H1.out _).mono ?_); rintro e w' ⟨rfl, rfl⟩)) | (go_at_call 24; ((with_reducible refine (H2.out _).mono ?_); rintro e w' ⟨rfl, rfl⟩)) | (go_at_call 25; ((with_reducible refine (H3.out _).mono ?_); rintro e w' ⟨rfl, rfl⟩)) | (go_at_call 26; ((with_reducible refine (H4.out _).mono ?_); rintro e w' ⟨rfl, rfl⟩)) | (go_at_call 27; ((with_reducible refine (H5.out _).mono ?_); rintro e w1 ⟨rfl, hb1⟩)))
  go_loop [21] (fun i => i = .int .i64 0) (fun _ => 0)
  case atStart => exact rfl
  case round =>
    subst hrel
    go_wp2_with (first | (go_at_call 25; ((with_reducible refine (H3.out _).mono ?_); rintro e w' ⟨rfl, rfl⟩)) | (go_at_call 27; ((with_reducible refine (H5.out _).mono ?_); rintro e w2 ⟨rfl, hb2⟩)))
    go_ret
    exact ⟨rfl, belowT hb1 hb2⟩
set_option maxRecDepth 100000 in
set_option maxHeartbeats 4000000 in
theorem good (g x b : Int) (s m : Nat) (st : Int) (w : World) (hs : s < 4294967296) (hm : m ≤ 256) (st0 : 0 ≤ st) (st1 : st ≤ 511) (hq : Qs w) : Calls Tryd.prog 7 #[.int .i64 g, .int .i64 x, .int .i64 b, .int .u32 s, .int .i64 st, .int .i64 m] w fun e w' => e = .returned (.bool true) ∧ Below w.heap.size w w' := by
  have H1 := Lib.hid (fun w => Seed_ok g x b w)
  have H2 := Lib.hid (fun w => rSeed_ok g x b w)
  have H3 := Lib.hid (fun w hq => band_ok s m st w hs hm st0 st1 hq)
  have H4 := Lib.hid (fun w => rband_ok s m st w hs hm st0 st1)
  have HQ := Lib.hid hq
  have ht := es_u g x b
  have FB : Hid (∀ j, j < m → -268435455 ≤ nl (nd s m) (na st) (nv s j) ∧ nl (nd s m) (na st) (nv s j) ≤ 268435455) := Lib.hid fun j hj => F_bd st0 hj
  generalize (fun j => nl (nd s m) (na st) (nv s j)) = FF at *
  obtain ⟨F, hF⟩ : ∃ F : Nat → Int, F = fun j => nl (nd s m) (na st) (nv s j) := ⟨_, rfl⟩
  have H3' : Hid (∀ w, Qs w → Calls Tryd.prog 25 #[.int .u32 s, .int .i64 st, .int .i64 m] w fun e w' => ∃ g, e = .returned (.tuple #[.slice (some ⟨g, 0, none⟩) m m, .int .i64 0]) ∧ w.heap.size ≤ g ∧ w'.rowIs g 3 m (fun j => .int .i64 (F j)) ∧ Below w.heap.size w w') := by rw [hF]; exact H3
  have H4' : Hid (∀ w, Calls Tryd.prog 26 #[.int .u32 s, .int .i64 st, .int .i64 m] w fun e w' => ∃ v, e = .returned (.tuple #[v, .int .i64 0]) ∧ Own w.heap.size w' v (mk m F) ∧ Below w.heap.size w w') := by rw [hF]; exact Lib.hid fun w => rband_ok s m st w hs hm st0 st1
  have FB' : Hid (∀ j, j < m → -268435455 ≤ F j ∧ F j ≤ 268435455) := by rw [hF]; exact FB
  clear hq H3 H4 FB hF
  generalize SD g x b = S at *
  generalize ES g x b = T at *
  obtain ⟨s0, s1⟩ := ht
  have x1 : wrap64 T = T := w64 (by omega) (by omega)
  go_enter Tryd.func7, Tryd.ntmps7
  go_wp2_with (first | (go_at_call 23; ((with_reducible refine (H1.out _).mono ?_); rintro e w' ⟨rfl, rfl⟩)) | (go_at_call 24; ((with_reducible refine (H2.out _).mono ?_); rintro e w' ⟨rfl, rfl⟩)) | (go_at_call 25; ((with_reducible refine (H3'.out _ HQ.out).mono ?_); rintro e w1 ⟨gc, rfl, hg, hr, hb1⟩; have RC := Lib.hid hr; have B1 := Lib.hid hb1; have GC := Lib.hid hg; have LC := Lib.hid hr.lt; clear hr hg hb1)) | (go_at_call 26; ((with_reducible refine (H4'.out _).mono ?_); rintro e w2 ⟨v, rfl, ho, hb2⟩; have OV := Lib.hid ho; have B2 := Lib.hid hb2; clear ho hb2)) | (go_at_call 27; ((with_reducible refine (same_yes _ _ (mk m F) _ (by rw [mk_len]; omega) ((mk_rd RC.out (by unfold maxLen; omega)).below B2.out) OV.out.rd).mono ?_); rintro e w3 ⟨rfl, hb3⟩; have B3 := Lib.hid (belowT B2.out hb3))))
  go_loopw [21] (fun i wr => ∃ k : Nat, k ≤ m ∧ i = .int .i64 k ∧ Hid (wr.rowIs gc 3 m (upto (fun j => F j + 1) F k)) ∧ Hid (Own w1.heap.size wr v (mk m F)) ∧ Hid (Below w.heap.size w wr)) (fun i _ => m - (intOf i).toNat)
  case atStart => exact ⟨0, by omega, rfl, Lib.hid ((RC.out.of_block (B3.out.block _ RC.out.lt)).congr fun i _ => by unfold upto; simp), Lib.hid (OV.out.below hb3), Lib.hid (belowT B1.out B3.out)⟩
  case round =>
    obtain ⟨k, hk, rfl, hR, hO, hB⟩ := hrel
    by_cases hlt : k < m
    · have c := upto_at hR.out hlt (Nat.le_refl _)
      have f := hR.out.frozen k
      have hv := FB'.out k hlt
      have gR := Lib.hid (upto_step (v := F k + 1) hR.out rfl)
      have gB := Lib.hid (hB.out.setCell (p := ⟨gc, k, none⟩) GC.out (.int .i64 (F k + 1)))
      have gO := Lib.hid (hO.out.set (g := gc) (i := k) (x := .int .i64 (F k + 1)) LC.out)
      obtain ⟨hv0, hv1⟩ := hv
      clear hR hB hO
      generalize F k = X at *
      go_wp2
      go_roundw
      case rel => exact ⟨k + 1, by omega, by go_num, gR, gO, gB⟩
      case measure => simp [intOf]; omega
    · have hend : k = m := by omega
      subst hend
      have QR := Lib.hid (HQ.out.below hB.out)
      go_wp2_with (first | (go_at_call 25; ((with_reducible refine (H3'.out _ QR.out).mono ?_); rintro e w5 ⟨gd, rfl, hg, hr, hb5⟩; have RD := Lib.hid hr; clear hr hg)) | (go_at_call 27; ((with_reducible refine (same_yes _ _ (mk k F) _ (by rw [mk_len]; omega) (mk_rd RD.out (by unfold maxLen; omega)) (hO.out.rd.below hb5)).mono ?_); rintro e w6 ⟨rfl, hb6⟩)))
      go_ret
      exact ⟨rfl, belowT (belowT hB.out hb5) hb6⟩
theorem main (g x b : Int) (s : Int) (st m : Int) (w : World) (h : (Lit.int .u32 s).wf = true) (hq : Qs w) : Calls Tryd.prog 7 #[.int .i64 g, .int .i64 x, .int .i64 b, .int .u32 s, .int .i64 st, .int .i64 m] w fun e w' => e = .returned (.bool true) ∧ Kp w w' := by
  by_cases c : st < 0 ∨ 511 < st ∨ m < 0 ∨ 256 < m
  · exact kp_below (Kp.refl hq) (bad g x b s st m w c)
  · obtain ⟨n, rfl, hn⟩ := wfu h
    obtain ⟨k, rfl⟩ : ∃ k : Nat, m = (k : Int) := ⟨m.toNat, by omega⟩
    exact kp_below (Kp.refl hq) (good g x b n k st w hn (by omega) (by omega) (by omega) hq)

theorem named : Named Tryd.prog Rows.noiseDoesRow.laid [(0, 80)] := ⟨by kernel_rfl, by kernel_rfl, trivial⟩
theorem flat1 : flats E Rows.noiseDoesRow.laid [(0, 80)] = some [(0, [.int .i64 1073741824, .int .i64 1276901417, .int .i64 1518500250, .int .i64 1805811301])] := by kernel_rfl
set_option linter.unusedVariables false in
theorem walk (a0 : Int) (a1 : Int) (a2 : Int) (a3 : Int) (a4 : Int) (a5 : Int) (w : World) (h0 : (Lit.int .i64 a0).wf = true) (h1 : (Lit.int .i64 a1).wf = true) (h2 : (Lit.int .i64 a2).wf = true) (h3 : (Lit.int .u32 a3).wf = true) (h4 : (Lit.int .i64 a4).wf = true) (h5 : (Lit.int .i64 a5).wf = true) (hL : laidMetH Tryd.prog Rows.noiseDoesRow.laid w) :
    Calls Tryd.prog 7 #[.int .i64 a0, .int .i64 a1, .int .i64 a2, .int .u32 a3, .int .i64 a4, .int .i64 a5] w fun e w' => e = .returned (.bool true) ∧ Below w.heap.size w w' :=
  (main a0 a1 a2 a3 a4 a5 w h3 (qs_of hL (by kernel_rfl) named flat1)).mono fun _ _ h => ⟨h.1, h.2.2⟩
noncomputable def laidWorld (os : Os) : World := lay E Rows.noiseDoesRow.laid [(0, 80)] (World.holding Tryd.prog os ⟨#[], #[.int .i64 0, .int .i64 0, .int .i64 0, .int .u32 0, .int .i64 0, .int .i64 0], []⟩)
theorem laid_os (os : Os) : (laidWorld os).os = os := by kernel_rfl
theorem own : ownKnob Tryd.prog.godebug = none := by kernel_rfl
set_option linter.unusedVariables false
theorem laid_met (os : Os) (args : Array Value) : laidMet Tryd.prog Rows.noiseDoesRow.laid ((laidWorld os).forCall (fun _ _ => 0) ⟨#[], args, []⟩).memory := laidMet_of_run' 8 (by kernel_rfl) (by kernel_rfl)
set_option maxRecDepth 100000 in
theorem lifted (os : Os) (started : os.Started) (H : Type) (enc : TypeId × Value → H) (F : Stop.Interp) :
    ReturnsInHanded {} Tryd.checked os 7 .any ((OpenSpec.ofChange Rows.noiseDoesSpec).preRow enc Tryd.prog Tryd.f7 Rows.noiseDoesRow.domain false Rows.noiseDoesRow.laid) (((OpenSpec.ofChange Rows.noiseDoesSpec).at F).post enc Tryd.prog Tryd.f7 false true false false) := by
  refine returnsInHanded_of_row (C := Tryd.checked) (s := OpenSpec.ofChange Rows.noiseDoesSpec) own started (by kernel_rfl) Tryd.func7
    (witness_row_at (enc := enc) (C := Tryd.checked) false (laidWorld os) #[.int .i64 0, .int .i64 0, .int .i64 0, .int .u32 0, .int .i64 0, .int .i64 0] (laid_os os) (by kernel_rfl) (by kernel_rfl) (by kernel_rfl)
      (OpenSpec.preRow_of_cond 8 (show DataW.whole enc Tryd.prog ((laidWorld os).forCall (fun _ _ => 0) ⟨#[], #[.int .i64 0, .int .i64 0, .int .i64 0, .int .u32 0, .int .i64 0, .int .i64 0], []⟩).memory Tryd.f7.params.toList Rows.noiseDoesSpec.vars false #[.int .i64 0, .int .i64 0, .int .i64 0, .int .u32 0, .int .i64 0, .int .i64 0].toList 8 = some ([.lit (.int .i64 0), .lit (.int .i64 0), .lit (.int .i64 0), .lit (.int .u32 0), .lit (.int .i64 0), .lit (.int .i64 0)], [], []) by kernel_rfl) (by kernel_rfl) (fun k hk => by cases hk) (by kernel_rfl) (laid_met os _))) ?_
  intro W base args ds gs before hval0 hW _ _ _ hL _ _
  have hval : ∀ (j : Nat) t v, Tryd.f7.params[j]? = some t → args[j]? = some v → Value.okWide Tryd.prog W .any base t v := hval0
  have hW' := hW
  obtain ⟨p, q, hA0, hV, rfl, hfz, hnd⟩ := hW
  have hA : DataW.TrodAll enc Tryd.prog W 0 (fun _ => true) true Tryd.f7.params.toList args.toList ds p := hA0
  rw [Tryd.params7] at hA hval
  obtain ⟨v0, vs0, d0, ds0, p0, q0, hargs, rfl, rfl, h0, r0⟩ := trodAll_cons hA
  obtain ⟨v1, vs1, d1, ds1, p1, q1, rfl, rfl, rfl, h1, r1⟩ := trodAll_cons r0
  obtain ⟨v2, vs2, d2, ds2, p2, q2, rfl, rfl, rfl, h2, r2⟩ := trodAll_cons r1
  obtain ⟨v3, vs3, d3, ds3, p3, q3, rfl, rfl, rfl, h3, r3⟩ := trodAll_cons r2
  obtain ⟨v4, vs4, d4, ds4, p4, q4, rfl, rfl, rfl, h4, r4⟩ := trodAll_cons r3
  obtain ⟨v5, vs5, d5, ds5, p5, q5, rfl, rfl, rfl, h5, r5⟩ := trodAll_cons r4
  obtain ⟨rfl, rfl, rfl⟩ := trodAll_nil r5
  obtain rfl : args = #[v0, v1, v2, v3, v4, v5] := by cases args; simp_all
  obtain ⟨rfl, rfl⟩ := trodVars_none hV
  obtain ⟨a0, rfl, rfl, rfl, w0⟩ := open_int Tryd.underlying3 (hval 0 3 v0 rfl rfl) h0
  obtain ⟨a1, rfl, rfl, rfl, w1⟩ := open_int Tryd.underlying3 (hval 1 3 v1 rfl rfl) h1
  obtain ⟨a2, rfl, rfl, rfl, w2⟩ := open_int Tryd.underlying3 (hval 2 3 v2 rfl rfl) h2
  obtain ⟨a3, rfl, rfl, rfl, w3⟩ := open_int Tryd.underlying34 (hval 3 34 v3 rfl rfl) h3
  obtain ⟨a4, rfl, rfl, rfl, w4⟩ := open_int Tryd.underlying3 (hval 4 3 v4 rfl rfl) h4
  obtain ⟨a5, rfl, rfl, rfl, w5⟩ := open_int Tryd.underlying3 (hval 5 3 v5 rfl rfl) h5
  clear hA0 hval0
  simp only [List.append_nil] at hW'
  refine (walk a0 a1 a2 a3 a4 a5 W w0 w1 w2 w3 w4 w5 hL).mono fun e W' ⟨he, bel⟩ => ?_
  subst he
  exact ⟨_, rfl, _, _, _, [], _, [], hW', trodAll_mk1 (shut_bool Tryd.underlying4 _), (trodAll_cons_mk (shut_int Tryd.underlying3 w0) (trodAll_cons_mk (shut_int Tryd.underlying3 w1) (trodAll_cons_mk (shut_int Tryd.underlying3 w2) (trodAll_cons_mk (shut_int Tryd.underlying34 w3) (trodAll_cons_mk (shut_int Tryd.underlying3 w4) (trodAll_cons_mk (shut_int Tryd.underlying3 w5) trodAll_mk0)))))), rfl, bel.frame _, fun h => by cases h⟩

theorem said : Rows.NoiseDoesSaid :=
  OpenClaim.holds_of_cond 7 Tryd.f7 rfl rfl rfl rfl rfl rfl rfl ⟨rfl, rfl, rfl, rfl, rfl⟩ rfl rfl rfl rfl rfl (by kernel_rfl) Tryd.func7 (by kernel_rfl)
    (of_decide_eq_true (by kernel_rfl)) (by unfold Func.isWrapper; first | (rw [if_pos (by decide +kernel)]; kernel_rfl) | (rw [if_neg (by decide +kernel)]; exact ⟨rfl, rfl⟩))
    (fun os started H enc _ F => by rw [OpenClaim.pre_eq_preRow]; exact lifted os started H enc F)

theorem plain (f : FuncId) (fn : Func) (hf : Tryd.pinned.checked.prog.funcNamed "reedpipe/reedpipelaw16.NoiseDoes" = some f) (hfn : Tryd.pinned.checked.prog.funcs[f]? = some fn) :
    false = Tryd.pinned.checked.prog.looks [] ∧ ∀ (j : Nat) t, fn.params[j]? = some t → Tryd.pinned.checked.prog.wantsStandIn t = false := by
  obtain rfl : f = 7 := Option.some.inj ((show Tryd.prog.funcNamed "reedpipe/reedpipelaw16.NoiseDoes" = some 7 by kernel_rfl).symm.trans hf) |>.symm
  obtain rfl : fn = Tryd.f7 := (Option.some.inj (Tryd.func7.symm.trans hfn)).symm
  refine ⟨by kernel_rfl, fun j t ht => ?_⟩
  rw [Tryd.params7] at ht
  have hm : t ∈ [3, 3, 3, 34, 3, 3] := by simpa using Array.mem_of_getElem? ht
  have hall : ([3, 3, 3, 34, 3, 3].all fun u => !Tryd.prog.wantsStandIn u) = true := by kernel_rfl
  exact (show Tryd.prog.wantsStandIn t = false by simpa using List.all_eq_true.1 hall t hm)

theorem proved : Rows.NoiseDoesCardSaid :=
  Claim7.holds_tied_plain_at .later [] _ _ _ _ said (fun _ h => by cases h) (by kernel_rfl) (fun _ h => by cases h) noiseDoes_row_tie rfl ⟨rfl, rfl⟩ (by kernel_rfl) rfl plain (by kernel_rfl)

end Go.Proofs.YtanjcbnkkhbkkaaDoor.noiseDoes
