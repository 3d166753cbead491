/- The last step of a law's row, where all that is known of the world behind the call is that what was there before stays. -/
import Derived.Below
import Derived.ChangeSame
import Derived.ProofKit
namespace Go.Ev
open Go.RowKit Go.WideShapes Go.ChangeShapes
variable {H : Type} {enc : TypeId × Value → H} {P : Program}

theorem law_post {f : Func} {s : ChangeSpec} {apart fresh handsOn again : Bool} {w w' : World} {args : Array Value} {v : Value} {ds gs : List (DataW H)} {met metA metV : List MemPlace}
    (hW : DataW.Whole enc P f.params.toList s.vars apart w args.toList ds gs met) (hb : Below w.heap.size w w') (hmet : met = metA ++ metV)
    (hr : ∀ (b : Nat) (sp : Nat → Bool) (hd : Bool), DataW.TrodAll enc P w' b sp hd f.resultTypes.toList (v.resultList f.resultTypes.size) (s.fn H (ds ++ gs)).results [])
    (ha : ∀ sp : Nat → Bool, (∀ p ∈ met, sp p.block = true) → DataW.TrodAll enc P w' 0 sp true f.params.toList args.toList (s.fn H (ds ++ gs)).args metA)
    (hv : ∀ sp : Nat → Bool, (∀ p ∈ met, sp p.block = true) → DataW.TrodVars enc P w' sp s.vars (s.fn H (ds ++ gs)).vars metV)
    (hok : ∀ (j : Nat) (t : TypeId) (r : Value), f.resultTypes[j]? = some t → (v.resultList f.resultTypes.size)[j]? = some r → Value.okWide P w' .any 0 t r) :
    s.post enc P f apart fresh handsOn again w args v w' := by
  have low : ∀ p ∈ met, decide (p.block < w.heap.size) = true := fun p hp => by simpa using hW.lt p hp
  have every : ∀ p ∈ met, (fun _ : Nat => true) p.block = true := fun _ _ => rfl
  obtain ⟨_, _, _, _, _, thaw, lone⟩ := id hW
  refine ⟨ds, gs, met, [], metA, metV, hW, hr _ _ _, ha _ low, hv _ low, World.keptBut_mono (fun p hp => ⟨hp, .inr (List.mem_append.1 (hmet ▸ hp))⟩) (hb.frame fun p => p ∈ met), ?_⟩
  intro _
  have e : ([] ++ metA) ++ metV = met := by rw [List.nil_append]; exact hmet.symm
  refine ⟨hok, _, _, ([] ++ metA) ++ metV, ⟨[] ++ metA, metV, trodAll_append (ha _ every) (hr _ _ _), hv _ every, rfl, fun b off hp => ?_, fun h => ?_⟩, fun p hp _ => ?_⟩
  · rw [e] at hp
    rw [hb.frozen (p := ⟨b, off, none⟩) (hW.lt _ hp)]
    exact thaw b off hp
  · rw [e]; exact lone h
  · rw [e] at hp; exact hp

end Go.Ev
