/- the examples of the chapter are so, whatever the memory and the schedule; the variables that the row lists are tied to the program's text. By a run of the program on values whose memory is named by numbers of its own, which the kernel reckons, and a theorem that the program's own machine does so. -/
import Derived.Test.YtfeoafcghjpapaaDoorTab
import Derived.Test.YtfeoafcghjpapaaDoorEvLaw
import Derived.Test.YtfeoafcghjpapaaDoorEvLaid
import Derived.Test.YtfeoafcghjpapaaDoorHuGet
import Derived.Test.YtfeoafcghjpapaaDoorCards
import Derived.Test.YtfeoafcghjpapaaDoorTie
import Derived.WalkKit
import Derived.ProofKit
import Derived.OpenShut
import Derived.Deep.DeepHandedRow
import Derived.Lib.LaidTab
namespace Go.Proofs.YtfeoafcghjpapaaDoor.scaleNames
open Go Go.Ev Go.ChangeShapes Go.WideShapes Go.ChangeAt Go.RowKit

theorem own : ownKnob Tryd.prog.godebug = none := by kernel_rfl

theorem lives : (callR G12 40 H0 2 13 []).map (fun x => match x.1 with | .bool true => true | _ => false) = some true := by kernel_rfl
theorem lives' : ∃ h1 nx1, callR G12 40 H0 (G12).gl 13 [] = some (.bool true, h1, nx1) := by
  obtain ⟨v, h1, nx1, e1, e2⟩ := ran lives
  subst e2
  exact ⟨h1, nx1, e1⟩
noncomputable def EO : Env Tryd.prog := Env.orc G12 40 H0 13 [] (.bool true) (.bool true) [] lives' (fun _ => rfl) (fun _ => rfl) top
theorem runs : (runG EO 2 40 Rows.scaleNamesRow.laid [(1, 133)] 3 []).map (fun x => match x.1 with | .bool true => true | _ => false) = some true := by kernel_rfl

theorem named : Named Tryd.prog Rows.scaleNamesRow.laid [(1, 133)] := ⟨by kernel_rfl, by kernel_rfl, trivial⟩

theorem walk (w : World) (hL : laidMetH Tryd.prog Rows.scaleNamesRow.laid w) : Calls Tryd.prog 3 #[] w fun e w' => e = .returned (.bool true) ∧ Below w.heap.size w w' := by
  obtain ⟨v, h', nx', h1, h2⟩ := ran runs
  subst h2
  exact runG_ok rfl h1 (by kernel_rfl) named w hL rfl (fun _ => rfl)

set_option maxRecDepth 100000 in
theorem contract (H : Type) (enc : TypeId × Value → H) (W : World) (args : Array Value) (ds gs : List (DataW H)) (before : List MemPlace)
    (hW : DataW.Whole enc Tryd.prog Tryd.f3.params.toList Rows.scaleNamesSpec.vars false W args.toList ds gs before) (hL : laidMetH Tryd.prog Rows.scaleNamesRow.laid W) :
    Calls Tryd.prog 3 args W fun e W' => ∃ v, e = .returned v ∧ Rows.scaleNamesSpec.post enc Tryd.prog Tryd.f3 false true false false W args v W' := by
  have hW' := hW
  obtain ⟨p, q, hA0, hV, rfl, _, _⟩ := hW
  have hA : DataW.TrodAll enc Tryd.prog W 0 (fun _ => true) true Tryd.f3.params.toList args.toList ds p := hA0
  rw [Tryd.params3] at hA
  obtain ⟨rfl, rfl, rfl⟩ := trodAll_none hA
  obtain ⟨rfl, rfl⟩ := trodVars_none hV
  simp only [List.append_nil] at hW'
  refine (walk W hL).mono fun e W' ⟨he, hg⟩ => ?_
  subst he
  exact ⟨_, rfl, law_post (metA := []) (metV := []) hW' hg rfl (fun _ _ _ => (trodAll_cons_mk (shut_bool Tryd.underlying4 _) trodAll_mk0)) (fun sp _ => rfl) (fun _ _ => rfl) (ok_one (by kernel_rfl) rfl (okWide_bool_mk Tryd.underlying4 _))⟩

/-- A world for the witness: its variables hold what the row lists. -/
noncomputable def laidWorld (os : Os) : World := lay E Rows.scaleNamesRow.laid [(1, 133)] (World.holding Tryd.prog os ⟨#[], #[], []⟩)
theorem laid_os (os : Os) : (laidWorld os).os = os := by kernel_rfl
theorem laid_met (os : Os) : laidMet Tryd.prog Rows.scaleNamesRow.laid ((laidWorld os).forCall (fun _ _ => 0) ⟨#[], #[], []⟩).memory :=
  laidMet_of_run' 8 (by kernel_rfl) (by kernel_rfl)
theorem reads (os : Os) {H : Type} (enc : TypeId × Value → H) : DataW.whole enc Tryd.prog ((laidWorld os).forCall (fun _ _ => 0) ⟨#[], #[], []⟩).memory Tryd.f3.params.toList Rows.scaleNamesSpec.vars false #[].toList 8 = some ([], [], []) := by kernel_rfl

set_option maxRecDepth 100000 in
theorem lifted (os : Os) (started : os.Started) (H : Type) (enc : TypeId × Value → H) (F : Stop.Interp) :
    ReturnsInHanded {} Tryd.checked os 3 .any ((OpenSpec.ofChange Rows.scaleNamesSpec).preRow enc Tryd.prog Tryd.f3 Rows.scaleNamesRow.domain false Rows.scaleNamesRow.laid) (((OpenSpec.ofChange Rows.scaleNamesSpec).at F).post enc Tryd.prog Tryd.f3 false true false false) := by
  refine returnsInHanded_of_row (C := Tryd.checked) (s := OpenSpec.ofChange Rows.scaleNamesSpec) own started (by kernel_rfl) Tryd.func3
    (witness_row_at (enc := enc) (C := Tryd.checked) false (laidWorld os) #[] (laid_os os) (by kernel_rfl) (by kernel_rfl) (by kernel_rfl)
      (OpenSpec.preRow_of_cond 8 (reads os enc) (by kernel_rfl) (fun k hk => by cases hk) (by kernel_rfl) (laid_met os))) ?_
  intro W base args ds gs before _ hW _ _ _ hL _ _
  exact contract H enc W args ds gs before hW hL

theorem said : Rows.ScaleNamesSaid :=
  OpenClaim.holds_of_cond 3 Tryd.f3 rfl rfl rfl rfl rfl rfl rfl ⟨rfl, rfl, rfl, rfl, rfl⟩ rfl rfl rfl rfl rfl (by kernel_rfl) Tryd.func3 (by kernel_rfl)
    (of_decide_eq_true (by kernel_rfl)) (by unfold Func.isWrapper; first | (rw [if_pos (by decide +kernel)]; kernel_rfl) | (rw [if_neg (by decide +kernel)]; exact ⟨rfl, rfl⟩))
    (fun os started H enc _ F => by rw [OpenClaim.pre_eq_preRow]; exact lifted os started H enc F)

theorem plain (f : FuncId) (fn : Func) (hf : Tryd.pinned.checked.prog.funcNamed "reedpipe/reedpipelaw20.ScaleNames" = some f) (hfn : Tryd.pinned.checked.prog.funcs[f]? = some fn) :
    false = Tryd.pinned.checked.prog.looks [] ∧ ∀ (j : Nat) t, fn.params[j]? = some t → Tryd.pinned.checked.prog.wantsStandIn t = false := by
  obtain rfl : f = 3 := Option.some.inj ((show Tryd.prog.funcNamed "reedpipe/reedpipelaw20.ScaleNames" = some 3 by kernel_rfl).symm.trans hf) |>.symm
  obtain rfl : fn = Tryd.f3 := (Option.some.inj (Tryd.func3.symm.trans hfn)).symm
  refine ⟨by kernel_rfl, fun j t ht => ?_⟩
  rw [Tryd.params3] at ht
  simp at ht

theorem proved : Rows.ScaleNamesCardSaid :=
  Claim7.holds_tied_plain_at .later [] _ _ _ _ said (fun _ h => by cases h) (by kernel_rfl) (fun _ h => by cases h) scaleNames_row_tie rfl ⟨rfl, rfl⟩ (by kernel_rfl) rfl plain (by kernel_rfl)
end Go.Proofs.YtfeoafcghjpapaaDoor.scaleNames
