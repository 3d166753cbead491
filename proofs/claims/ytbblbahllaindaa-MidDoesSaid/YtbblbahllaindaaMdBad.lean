/- What Split and Join answer to lists that may not be. -/
import Derived.Test.YtbblbahllaindaaMdOk
import Derived.Test.YtbblbahllaindaaLoRow
import Derived.WalkKit
import Derived.OwnWalk
import Derived.ProofKit
import Derived.OpenShut
import Derived.Lib.Hide
namespace Go.Proofs.Ytbblbahllaindaa.Md
open Go Go.ChangeShapes Go.WideShapes Go.ChangeAt Go.RowKit Go.Proofs.Ytbblbahllaindaa.Lo

def ce (za zb : List Int) : Int := if za.length ≠ zb.length ∨ 256 < za.length then 4 else 2
theorem ce_swap (za zb : List Int) : ce za zb = ce zb za := by
  unfold ce
  by_cases h : za.length ≠ zb.length ∨ 256 < za.length
  · rw [if_pos h, if_pos (by omega)]
  · rw [if_neg h, if_neg (by omega)]
theorem ce_bd (za zb : List Int) : 2 ≤ ce za zb ∧ ce za zb ≤ 4 := by unfold ce; split <;> omega
theorem pairs_badc (v0 v1 : Value) (za zb : List Int) (m0 : za.length ≤ 1000) (m1 : zb.length ≤ 1000) (h : ¬ ∃ n, Fit za zb n) (f g : Value) (w : World) (ra : Rd w v0 za) (rb : Rd w v1 zb) : Calls Try.prog 13 #[v0, v1, f, g] w fun e w' => e = .returned (.tuple #[.slice none 0 0, .slice none 0 0, .int .i64 (ce za zb)]) ∧ w = w' := by
  rcases unfit h with h | ⟨h1, h2, h3⟩
  · rw [show ce za zb = 4 from if_pos h]
    obtain ⟨a, c, rfl⟩ := rd_any ra
    obtain ⟨a', c', rfl⟩ := rd_any rb
    exact pair_many a a' _ _ c c' f g w m0 m1 h
  · rw [show ce za zb = 2 from if_neg (by omega)]
    have ra' := ra
    have rb' := rb
    obtain ⟨a, c, rfl⟩ := rd_any ra
    obtain ⟨a', c', rfl⟩ := rd_any rb
    rw [← h1] at rb' ⊢
    exact pair_arg a a' _ c c' za zb f g w h2 ra' rb' h3
theorem join_bad (v0 v1 : Value) (za zb : List Int) (m0 : za.length ≤ 1000) (m1 : zb.length ≤ 1000) (h : ¬ ∃ n, Fit za zb n) (w : World) (ra : Rd w v0 za) (rb : Rd w v1 zb) : Calls Try.prog 7 #[v0, v1] w fun e w' => e = .returned (.tuple #[.slice none 0 0, .slice none 0 0, .int .i64 (ce za zb)]) ∧ Below w.heap.size w w' := by
  have HC := Lib.hid (pairs_badc v0 v1 za zb m0 m1 h (.func (.func 18) #[] #[]) (.func (.func 19) #[] #[]) w ra rb)
  generalize ce za zb = r at *
  go_enter Try.func7, Try.ntmps7
  go_wp2_with (go_at_call 13; ((with_reducible refine (HC.out).mono ?_); rintro e w1 ⟨rfl, rfl⟩))
  go_ret3
  exact ⟨rfl, Below.refl _ _⟩
theorem split_bad (v0 v1 : Value) (za zb : List Int) (m0 : za.length ≤ 1000) (m1 : zb.length ≤ 1000) (h : ¬ ∃ n, Fit za zb n) (w : World) (ra : Rd w v0 za) (rb : Rd w v1 zb) : Calls Try.prog 5 #[v0, v1] w fun e w' => e = .returned (.tuple #[.slice none 0 0, .slice none 0 0, .int .i64 (ce za zb)]) ∧ Below w.heap.size w w' := by
  obtain ⟨b1, b2, b3⟩ := boxed36 w
  have HC := Lib.hid (pairs_badc v0 v1 za zb m0 m1 h (.func (.func 14) #[] #[.pointer (some ⟨w.heap.size, 0, none⟩)]) (.func (.func 15) #[] #[.pointer (some ⟨w.heap.size, 0, none⟩)]) _ (ra.below b1) (rb.below b1))
  have B1 := Lib.hid b1
  obtain ⟨c1, c2⟩ := new36 w
  clear b1 b2 b3
  generalize ce za zb = r at *
  go_enter Try.func5, Try.ntmps5
  go_wp2_with (go_at_call 13; ((with_reducible refine (HC.out).mono ?_); rintro e w1 ⟨rfl, rfl⟩))
  go_ret3
  exact ⟨rfl, B1.out⟩
end Go.Proofs.Ytbblbahllaindaa.Md
