/- Whether windows may be, how many there are, one's group, what may follow, and copies, or the errors, are the document's. InfoTells returns true, whatever the rate, the windows, the number of a window, the sequences, the memory and the schedule; the variable that the row lists is tied to the program's text. No condition. -/
import Derived.Test.YtjbllbmcalpbhaaDoorMrg3
import Derived.Test.YtjbllbmcalpbhaaDoorEvLaw
import Derived.Test.YtjbllbmcalpbhaaDoorEvLaid
import Derived.Test.YtjbllbmcalpbhaaDoorEvOpen
import Derived.Test.YtjbllbmcalpbhaaDoorTab
import Derived.Test.YtjbllbmcalpbhaaDoorCards
import Derived.Test.YtjbllbmcalpbhaaDoorTie
import Derived.RegionTactic
import Derived.Deep.DeepHandedRow
import Derived.ChangeAlike
import Derived.ChangeOld
import Derived.ShutString
import Derived.Lib.LaidTab
import Derived.Lib.Hide
namespace Go.Proofs.YtjbllbmcalpbhaaDoor.infoTells
open Go Go.Ev Go.ChangeShapes Go.WideShapes Go.ChangeAt Go.RowKit Go.Proofs.YtjbllbmcalpbhaaDoor.If Go.Proofs.YtjbllbmcalpbhaaDoor.Bd Go.Proofs.YtjbllbmcalpbhaaDoor.It

set_option maxRecDepth 100000 in
theorem long (r s h m : Int) (a : Option Addr) (c : Nat) (xs : List Int) (s2 h2 m2 : Int) (b : Option Addr) (d : Nat) (ys : List Int) (win p n : Int) (w : World) (hl : xs.length ≤ maxLen) (hm : ys.length ≤ maxLen) (hlm : 1000 < xs.length ∨ 1000 < ys.length) :
    Calls Tryd.prog 3 #[.int .i64 r, .agg #[.int .u8 s, .int .u8 h, .int .i64 m, .slice a xs.length c], .agg #[.int .u8 s2, .int .u8 h2, .int .i64 m2, .slice b ys.length d], .int .i64 win, .int .u8 p, .int .u8 n] w fun e w' => e = .returned (.bool true) ∧ Below w.heap.size w w' := by
  have HBW : Hid (Below w.heap.size w ((w.alloc (.cells #[.int .u8 s, .int .u8 h, .int .i64 m, .slice a xs.length c] 24)).alloc (.cells #[.int .u8 s2, .int .u8 h2, .int .i64 m2, .slice b ys.length d] 24))) := Lib.hid (bT (box_below _ _) (box_below _ _))
  unfold maxLen at hl hm
  by_cases h1 : 1000 < xs.length
  · clear hlm
    go_enter Tryd.func3, Tryd.ntmps3
    go_wp2
    go_ret
    exact ⟨rfl, HBW.out⟩
  · have h3 : 1000 < ys.length := by omega
    clear hlm
    go_enter Tryd.func3, Tryd.ntmps3
    go_wp2
    go_ret
    exact ⟨rfl, HBW.out⟩
theorem wfb {s : Int} (h : (Lit.int .u8 s).wf = true) : 0 ≤ s ∧ s ≤ 255 := by
  simp [Lit.wf] at h
  have e : IntKind.u8.min = 0 := rfl
  have e2 : IntKind.u8.max = 255 := rfl
  omega
theorem wfi {s : Int} (h : (Lit.int .i64 s).wf = true) : -9223372036854775808 ≤ s ∧ s ≤ 9223372036854775807 := by
  simp [Lit.wf] at h
  have e : IntKind.i64.min = -9223372036854775808 := rfl
  have e2 : IntKind.i64.max = 9223372036854775807 := rfl
  omega
theorem named : Named Tryd.prog Rows.infoTellsRow.laid [(0, 46)] := ⟨by kernel_rfl, by kernel_rfl, trivial⟩
theorem flat1 : flats E Rows.infoTellsRow.laid [(0, 46)] = some [(0, [.bool true, .bool true, .bool false, .bool false, .bool false, .bool false, .bool true, .bool true, .bool false, .bool false, .bool true, .bool true, .bool true, .bool true, .bool false, .bool false])] := by kernel_rfl
theorem walk (r : Int) (s h m : Int) (a : Option Addr) (c : Nat) (xs : List Int) (s2 h2 m2 : Int) (b : Option Addr) (d : Nat) (ys : List Int) (win p n : Int) (w : World)
    (_ : (Lit.int .i64 r).wf = true) (_ : (Lit.int .u8 s).wf = true) (_ : (Lit.int .u8 h).wf = true) (_ : (Lit.int .i64 m).wf = true) (l1 : xs.length ≤ maxLen) (r1 : RowA .i64 w a xs) (_ : ∀ n ∈ xs, (Lit.int .i64 n).wf = true)
    (_ : (Lit.int .u8 s2).wf = true) (_ : (Lit.int .u8 h2).wf = true) (_ : (Lit.int .i64 m2).wf = true) (l2 : ys.length ≤ maxLen) (r2 : RowA .i64 w b ys) (_ : ∀ n ∈ ys, (Lit.int .i64 n).wf = true)
    (w3 : (Lit.int .i64 win).wf = true) (w4 : (Lit.int .u8 p).wf = true) (w5 : (Lit.int .u8 n).wf = true) (hL : laidMetH Tryd.prog Rows.infoTellsRow.laid w) :
    Calls Tryd.prog 3 #[.int .i64 r, .agg #[.int .u8 s, .int .u8 h, .int .i64 m, .slice a xs.length c], .agg #[.int .u8 s2, .int .u8 h2, .int .i64 m2, .slice b ys.length d], .int .i64 win, .int .u8 p, .int .u8 n] w fun e w' => e = .returned (.bool true) ∧ Below w.heap.size w w' := by
  have hT : Fw w := laidG (by kernel_rfl) named flat1 hL
  by_cases hg : 1000 < xs.length ∨ 1000 < ys.length
  · exact long r s h m a c xs s2 h2 m2 b d ys win p n w l1 l2 hg
  · exact good r s h m a c xs s2 h2 m2 b d ys win p n w (by omega) (by omega) r1 r2 hT (wfi w3).1 (wfi w3).2 (wfb w4).1 (wfb w5).1
noncomputable def laidWorld (os : Os) : World := lay E Rows.infoTellsRow.laid [(0, 46)] (World.holding Tryd.prog os ⟨#[], #[.int .i64 0, .agg #[.int .u8 0, .int .u8 0, .int .i64 0, .slice none 0 0], .agg #[.int .u8 0, .int .u8 0, .int .i64 0, .slice none 0 0], .int .i64 0, .int .u8 0, .int .u8 0], []⟩)
theorem laid_os (os : Os) : (laidWorld os).os = os := by kernel_rfl
theorem own : ownKnob Tryd.prog.godebug = none := by kernel_rfl
theorem laidOut : laidOutB Tryd.prog = true := by kernel_rfl
set_option linter.unusedVariables false
theorem laid_met (os : Os) (args : Array Value) : laidMet Tryd.prog Rows.infoTellsRow.laid ((laidWorld os).forCall (fun _ _ => 0) ⟨#[], args, []⟩).memory := laidMet_of_run' 8 (by kernel_rfl) (by kernel_rfl)
set_option maxRecDepth 100000 in
theorem lifted (os : Os) (started : os.Started) (H : Type) (enc : TypeId × Value → H) (F : Stop.Interp) :
    ReturnsInHanded {} Tryd.checked os 3 .any ((OpenSpec.ofChange Rows.infoTellsSpec).preRow enc Tryd.prog Tryd.f3 Rows.infoTellsRow.domain false Rows.infoTellsRow.laid) (((OpenSpec.ofChange Rows.infoTellsSpec).at F).post enc Tryd.prog Tryd.f3 false true false false) := by
  refine returnsInHanded_of_row (C := Tryd.checked) (s := OpenSpec.ofChange Rows.infoTellsSpec) own started (by kernel_rfl) Tryd.func3
    (witness_row_at (enc := enc) (C := Tryd.checked) false (laidWorld os) #[.int .i64 0, .agg #[.int .u8 0, .int .u8 0, .int .i64 0, .slice none 0 0], .agg #[.int .u8 0, .int .u8 0, .int .i64 0, .slice none 0 0], .int .i64 0, .int .u8 0, .int .u8 0] (laid_os os) (by kernel_rfl) (by kernel_rfl) (by kernel_rfl)
      (OpenSpec.preRow_of_cond 8 (show DataW.whole enc Tryd.prog ((laidWorld os).forCall (fun _ _ => 0) ⟨#[], #[.int .i64 0, .agg #[.int .u8 0, .int .u8 0, .int .i64 0, .slice none 0 0], .agg #[.int .u8 0, .int .u8 0, .int .i64 0, .slice none 0 0], .int .i64 0, .int .u8 0, .int .u8 0], []⟩).memory Tryd.f3.params.toList Rows.infoTellsSpec.vars false #[.int .i64 0, .agg #[.int .u8 0, .int .u8 0, .int .i64 0, .slice none 0 0], .agg #[.int .u8 0, .int .u8 0, .int .i64 0, .slice none 0 0], .int .i64 0, .int .u8 0, .int .u8 0].toList 8 = some ([.lit (.int .i64 0), .agg [.lit (.int .u8 0), .lit (.int .u8 0), .lit (.int .i64 0), .nil], .agg [.lit (.int .u8 0), .lit (.int .u8 0), .lit (.int .i64 0), .nil], .lit (.int .i64 0), .lit (.int .u8 0), .lit (.int .u8 0)], [], []) by kernel_rfl) (by kernel_rfl) (fun k hk => by cases hk) (by kernel_rfl) (laid_met os _))) ?_
  intro W base args ds gs before hval0 hW _ _ _ hL _ _
  have hval : ∀ (j : Nat) t v, Tryd.f3.params[j]? = some t → args[j]? = some v → Value.okWide Tryd.prog W .any base t v := hval0
  have hW' := hW
  obtain ⟨p, q, hA0, hV, rfl, hfz, hnd⟩ := hW
  have hA : DataW.TrodAll enc Tryd.prog W 0 (fun _ => true) true Tryd.f3.params.toList args.toList ds p := hA0
  rw [Tryd.params3] at hA hval
  obtain ⟨v0, vs0, d0, ds0, p0, q0, hargs, rfl, rfl, h0, r0⟩ := trodAll_cons hA
  obtain ⟨v1, vs1, d1, ds1, p1, q1, rfl, rfl, rfl, h1, r1⟩ := trodAll_cons r0
  obtain ⟨v2, vs2, d2, ds2, p2, q2, rfl, rfl, rfl, h2, r2⟩ := trodAll_cons r1
  obtain ⟨v3, vs3, d3, ds3, p3, q3, rfl, rfl, rfl, h3, r3⟩ := trodAll_cons r2
  obtain ⟨v4, vs4, d4, ds4, p4, q4, rfl, rfl, rfl, h4, r4⟩ := trodAll_cons r3
  obtain ⟨v5, vs5, d5, ds5, p5, q5, rfl, rfl, rfl, h5, r5⟩ := trodAll_cons r4
  obtain ⟨rfl, rfl, rfl⟩ := trodAll_nil r5
  obtain rfl : args = #[v0, v1, v2, v3, v4, v5] := by cases args; simp_all
  obtain ⟨rfl, rfl⟩ := trodVars_none hV
  obtain ⟨a0, rfl, rfl, rfl, w0⟩ := open_int Tryd.underlying3 (hval 0 3 v0 rfl rfl) h0
  have k1 := h1
  have lt1 : ∀ x ∈ p1, x.block < W.heap.size := by obtain ⟨m, hm⟩ := k1; exact DataW.trod_lt m _ _ _ hm
  obtain ⟨a1s, a1h, a1m, a1a, a1c, a1z, rfl, w1s, w1h, w1m, l1, r1r, e1⟩ := open_info Tryd.underlying24 rfl rfl rfl rfl Tryd.underlying5 Tryd.underlying5 Tryd.underlying3 Tryd.underlying22 Tryd.underlying3 (by kernel_rfl) (by kernel_rfl) (by kernel_rfl) (by kernel_rfl) (by kernel_rfl) (by kernel_rfl) (hval 1 24 v1 rfl rfl) h1
  have k2 := h2
  have lt2 : ∀ x ∈ p2, x.block < W.heap.size := by obtain ⟨m, hm⟩ := k2; exact DataW.trod_lt m _ _ _ hm
  obtain ⟨a2s, a2h, a2m, a2a, a2c, a2z, rfl, w2s, w2h, w2m, l2, r2r, e2⟩ := open_info Tryd.underlying24 rfl rfl rfl rfl Tryd.underlying5 Tryd.underlying5 Tryd.underlying3 Tryd.underlying22 Tryd.underlying3 (by kernel_rfl) (by kernel_rfl) (by kernel_rfl) (by kernel_rfl) (by kernel_rfl) (by kernel_rfl) (hval 2 24 v2 rfl rfl) h2
  obtain ⟨a3, rfl, rfl, rfl, w3⟩ := open_int Tryd.underlying3 (hval 3 3 v3 rfl rfl) h3
  obtain ⟨a4, rfl, rfl, rfl, w4⟩ := open_int Tryd.underlying5 (hval 4 5 v4 rfl rfl) h4
  obtain ⟨a5, rfl, rfl, rfl, w5⟩ := open_int Tryd.underlying5 (hval 5 5 v5 rfl rfl) h5
  clear hA0 hval0
  refine (walk a0 a1s a1h a1m a1a a1c a1z a2s a2h a2m a2a a2c a2z a3 a4 a5 W w0 w1s w1h w1m l1 r1r e1 w2s w2h w2m l2 r2r e2 w3 w4 w5 hL).mono fun e W' ⟨he, bel⟩ => ?_
  subst he
  exact ⟨_, rfl, _, _, _, [], _, [], hW', trodAll_mk1 (shut_bool Tryd.underlying4 _), (trodAll_cons_mk (shut_int Tryd.underlying3 w0) (trodAll_cons_mk (Below.trod laidOut (by kernel_rfl) (of_decide_eq_true (by kernel_rfl)) k1 bel lt1) (trodAll_cons_mk (Below.trod laidOut (by kernel_rfl) (of_decide_eq_true (by kernel_rfl)) k2 bel lt2) (trodAll_cons_mk (shut_int Tryd.underlying3 w3) (trodAll_cons_mk (shut_int Tryd.underlying5 w4) (trodAll_cons_mk (shut_int Tryd.underlying5 w5) trodAll_mk0)))))), rfl, bel.frame _, fun h => by cases h⟩

theorem said : Rows.InfoTellsSaid :=
  OpenClaim.holds_of_cond 3 Tryd.f3 rfl rfl rfl rfl rfl rfl rfl ⟨rfl, rfl, rfl, rfl, rfl⟩ rfl rfl rfl rfl rfl (by kernel_rfl) Tryd.func3 (by kernel_rfl)
    (of_decide_eq_true (by kernel_rfl)) (by unfold Func.isWrapper; first | (rw [if_pos (by decide +kernel)]; kernel_rfl) | (rw [if_neg (by decide +kernel)]; exact ⟨rfl, rfl⟩))
    (fun os started H enc _ F => by rw [OpenClaim.pre_eq_preRow]; exact lifted os started H enc F)

theorem plain (f : FuncId) (fn : Func) (hf : Tryd.pinned.checked.prog.funcNamed "reedpipe/reedpipelaw10.InfoTells" = some f) (hfn : Tryd.pinned.checked.prog.funcs[f]? = some fn) :
    false = Tryd.pinned.checked.prog.looks [] ∧ ∀ (j : Nat) t, fn.params[j]? = some t → Tryd.pinned.checked.prog.wantsStandIn t = false := by
  obtain rfl : f = 3 := Option.some.inj ((show Tryd.prog.funcNamed "reedpipe/reedpipelaw10.InfoTells" = some 3 by kernel_rfl).symm.trans hf) |>.symm
  obtain rfl : fn = Tryd.f3 := (Option.some.inj (Tryd.func3.symm.trans hfn)).symm
  refine ⟨by kernel_rfl, fun j t ht => ?_⟩
  rw [Tryd.params3] at ht
  have hm : t ∈ [3, 24, 24, 3, 5, 5] := by simpa using Array.mem_of_getElem? ht
  have hall : ([3, 24, 24, 3, 5, 5].all fun u => !Tryd.prog.wantsStandIn u) = true := by kernel_rfl
  exact (show Tryd.prog.wantsStandIn t = false by simpa using List.all_eq_true.1 hall t hm)

theorem proved : Rows.InfoTellsCardSaid :=
  Claim7.holds_tied_plain_at .later [] _ _ _ _ said (fun _ h => by cases h) (by kernel_rfl) (fun _ h => by cases h) infoTells_row_tie rfl ⟨rfl, rfl⟩ (by kernel_rfl) rfl plain (by kernel_rfl)


end Go.Proofs.YtjbllbmcalpbhaaDoor.infoTells
