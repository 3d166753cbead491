/- What lose's Lines answers to what may not be. -/
import Derived.Test.YtbblbahllaindaaLoCon
import Derived.WalkKit
import Derived.ProofKit
import Derived.OpenShut
import Derived.Lib.Hide
namespace Go.Proofs.Ytbblbahllaindaa.Lo
open Go Go.ChangeShapes Go.WideShapes Go.ChangeAt Go.RowKit

/-- From place k on there is what is no line. -/
def Bad (zs : List Int) (k : Nat) : Prop := ∃ j, k ≤ j ∧ j < zs.length ∧ ¬ (-268435455 ≤ zs.getD j 0 ∧ zs.getD j 0 ≤ 268435455)
theorem bad_of {zs : List Int} (h : ¬ InLine zs) : Bad zs 0 := by
  refine Classical.byContradiction fun hb => h fun z hz' => ?_
  obtain ⟨j, hj, rfl⟩ := List.getElem_of_mem hz'
  refine Classical.byContradiction fun hn => hb ⟨j, by omega, hj, ?_⟩
  rw [List.getD_eq_getElem?_getD, List.getElem?_eq_getElem hj]
  exact hn
theorem bad_next {zs : List Int} {k : Nat} (h : Bad zs k) (hk : -268435455 ≤ zs.getD k 0 ∧ zs.getD k 0 ≤ 268435455) : Bad zs (k + 1) := by
  obtain ⟨j, h1, h2, h3⟩ := h
  refine ⟨j, ?_, h2, h3⟩
  by_cases e : j = k
  · subst e; exact absurd hk h3
  · omega
theorem bad_lt {zs : List Int} {k : Nat} (h : Bad zs k) : k < zs.length := by obtain ⟨j, h1, h2, _⟩ := h; omega

end Go.Proofs.Ytbblbahllaindaa.Lo
