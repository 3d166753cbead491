/- Regions that draw their order: which operations look at no memory, which look at it alone. -/
import Derived.Test.YteklahfgplbmcaaDoorEvSound
namespace Go.Ev
section
variable {P : Program} (E : Env P)
theorem same_some {h : Tr AObj} {nx : Nat} {x : Option RV} {n : ANext} (e : same h nx x = some n) : ∃ v, x = some v ∧ n = .val v h nx := by
  cases x with
  | none => cases e
  | some v => simp only [same, Option.some.injEq] at e; exact ⟨v, rfl, e.symm⟩

theorem aop_P {o : Oper} (hp : isP o = true) {tm : List RV} {h : Tr AObj} {nx : Nat} {n : ANext} (e : aop E o tm h nx = some n) : ∃ v, n = .val v h nx ∧ ∀ h' nx', aop E o tm h' nx' = some (.val v h' nx') := by
  have key : ∀ (F : Tr AObj → Nat → Option ANext) (x : Option RV), (∀ h nx, F h nx = same h nx x) → F h nx = some n → ∃ v, n = .val v h nx ∧ ∀ h' nx', F h' nx' = some (.val v h' nx') := by
    intro F x hF hn
    rw [hF] at hn
    obtain ⟨v, rfl, rfl⟩ := same_some hn
    exact ⟨v, rfl, fun h' nx' => by rw [hF]; rfl⟩
  unfold isP at hp
  split at hp <;> first | (cases hp; done) | skip
  · rename_i x ho; simp only [aop, ho] at e ⊢; exact key (fun h nx => same h nx (ev E tm x)) _ (fun _ _ => rfl) e
  · rename_i x ho; simp only [aop, ho] at e ⊢; exact key (fun h nx => same h nx (ev E tm x)) _ (fun _ _ => rfl) e
  · rename_i c a b ho
    simp only [aop, ho] at e ⊢
    split at e <;> first | (cases e; done) | skip
    rename_i cb hc
    cases cb
    · exact key (fun h nx => same h nx (ev E tm b)) _ (fun _ _ => rfl) e
    · exact key (fun h nx => same h nx (ev E tm a)) _ (fun _ _ => rfl) e
  · rename_i t ps ho
    simp only [aop, ho] at e ⊢
    split at e <;> first | (cases e; done) | skip
    rename_i qs hq
    exact key (fun h nx => same h nx (buildA E t qs)) _ (fun _ _ => rfl) e
  · rename_i x ho
    simp only [aop, ho] at e ⊢
    split at e <;> first | (cases e; done) | skip
    all_goals (simp only [Option.some.injEq] at e; subst e; exact ⟨_, rfl, fun _ _ => rfl⟩)
  · rename_i op t x y yt ho
    simp only [aop, ho] at e ⊢
    split at e <;> first | (cases e; done) | skip
    rename_i a hx
    split at e <;> first | (cases e; done) | skip
    rename_i b hy
    exact key (fun h nx => same h nx (binB E op t a b (isConst x) (isConst y))) _ (fun _ _ => rfl) e
  · rename_i op t x ho
    simp only [aop, ho] at e ⊢
    split at e <;> first | (cases e; done) | skip
    rename_i a hx
    exact key (fun h nx => same h nx (unA op a)) _ (fun _ _ => rfl) e
  · rename_i fn first captured ho
    simp only [aop, ho] at e ⊢
    split at e <;> first | (cases e; done) | skip
    split at e <;> first | (cases e; done) | skip
    split at e <;> first | (cases e; done) | skip
    simp only [Option.some.injEq] at e; subst e; exact ⟨_, rfl, fun _ _ => rfl⟩
  · rename_i t x f ho
    simp only [aop, ho] at e ⊢
    split at e <;> first | (cases e; done) | skip
    rename_i a hx
    exact key (fun h nx => same h nx (fieldAddrA E t a f)) _ (fun _ _ => rfl) e
  · rename_i t x f ho
    simp only [aop, ho] at e ⊢
    split at e <;> first | (cases e; done) | skip
    rename_i a hx
    exact key (fun h nx => same h nx (fieldA E t a f)) _ (fun _ _ => rfl) e
  · rename_i t x ix ho
    simp only [aop, ho] at e ⊢
    split at e <;> first | (cases e; done) | skip
    rename_i a hx
    split at e <;> first | (cases e; done) | skip
    rename_i i hi
    exact key (fun h nx => same h nx (indexAddrA E t a i)) _ (fun _ _ => rfl) e
  · rename_i t x ix ho
    simp only [aop, ho] at e ⊢
    split at e <;> first | (cases e; done) | skip
    rename_i a hx
    split at e <;> first | (cases e; done) | skip
    rename_i i hi
    exact key (fun h nx => same h nx (indexA E t a i)) _ (fun _ _ => rfl) e
  · rename_i x i ho
    simp only [aop, ho] at e ⊢
    split at e <;> first | (cases e; done) | skip
    rename_i a hx
    exact key (fun h nx => same h nx (extractA a i)) _ (fun _ _ => rfl) e
  · rename_i c ho
    obtain ⟨callee, args, argTypes⟩ := c
    split at hp <;> first | (cases hp; done) | skip
    rename_i b
    simp only [aop, ho, aCall] at e ⊢
    split at e <;> first | (cases e; done) | skip
    rename_i as hargs
    cases b <;> first | (cases hp; done) | skip
    all_goals
      (try simp only at e ⊢)
      split at e <;> first | (cases e; done) | skip
    all_goals first
      | (rename_i t x hat; exact key (fun h nx => same h nx (lenA E t x)) _ (fun _ _ => rfl) e)
      | (rename_i t x hat; exact key (fun h nx => same h nx (capA E t x)) _ (fun _ _ => rfl) e)
      | exact key (fun h nx => same h nx (minA _)) _ (fun _ _ => rfl) e
      | exact key (fun h nx => same h nx (maxA _)) _ (fun _ _ => rfl) e
      | simp_all

theorem aop_R {o : Oper} (hr : isR o = true) {tm : List RV} {h : Tr AObj} {nx : Nat} {n : ANext} (e : aop E o tm h nx = some n) : ∃ v, n = .val v h nx ∧ ∀ nx', aop E o tm h nx' = some (.val v h nx') := by
  have key : ∀ (F : Nat → Option ANext) (x : Option RV), (∀ nx, F nx = same h nx x) → F nx = some n → ∃ v, n = .val v h nx ∧ ∀ nx', F nx' = some (.val v h nx') := by
    intro F x hF hn
    rw [hF] at hn
    obtain ⟨v, rfl, rfl⟩ := same_some hn
    exact ⟨v, rfl, fun nx' => by rw [hF]; rfl⟩
  unfold isR at hr
  split at hr <;> first | (cases hr; done) | skip
  · rename_i t a ho
    simp only [aop, ho] at e ⊢
    split at e <;> first | (cases e; done) | skip
    rename_i id off hid
    exact key (fun nx => same h nx (loadA E h t id off)) _ (fun _ => rfl) e
  · rename_i s d x ho
    simp only [aop, ho] at e ⊢
    split at e <;> first | (cases e; done) | skip
    rename_i a hx
    exact key (fun nx => same h nx (convA E h s d a)) _ (fun _ => rfl) e
  · rename_i t x lo hi mx ho
    simp only [aop, ho] at e ⊢
    split at e <;> first | (cases e; done) | skip
    rename_i a hx
    split at e <;> first | (cases e; done) | skip
    rename_i lo' hlo
    split at e <;> first | (cases e; done) | skip
    rename_i hi' hhi
    split at e <;> first | (cases e; done) | skip
    rename_i mx' hmx
    exact key (fun nx => same h nx (sliceA E h t a lo' hi' mx')) _ (fun _ => rfl) e

end
end Go.Ev
