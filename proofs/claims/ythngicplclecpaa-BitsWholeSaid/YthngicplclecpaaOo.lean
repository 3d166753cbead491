/- A loop over an iterator that may itself hold a loop over an iterator; its body always goes on. -/
import Derived.RangeFuncNested
import Derived.RangeFuncBound
import Derived.RangeFuncCalls
import Derived.RangeFuncLeaves
import Derived.RangeFuncBox
namespace Go.Proofs.Ythngicplclecpaa.Oo
open Go Go.RowKit

/-- A body that always goes on. -/
def goesOn (R : World → Prop) : Exit → Act → World → Prop
  | .normal, _, W' => R W'
  | _, _, _ => False
/-- What R picks out lies as it lay. -/
structure KeepsO (R : Nat → Obj → Prop) (A B : World) : Prop where
  size : A.heap.size ≤ B.heap.size
  same : ∀ k o, A.heap[k]? = some o → R k o → B.heap[k]? = some o
theorem KeepsO.refl (R : Nat → Obj → Prop) (A : World) : KeepsO R A A := ⟨Nat.le_refl _, fun _ _ h _ => h⟩
theorem KeepsO.trans {R : Nat → Obj → Prop} {A B C : World} (h : KeepsO R A B) (k : KeepsO R B C) : KeepsO R A C := ⟨Nat.le_trans h.size k.size, fun i o hi hr => k.same i o (h.same i o hi hr) hr⟩
theorem KeepsO.mono {R S : Nat → Obj → Prop} {A B : World} (h : KeepsO R A B) (hs : ∀ k o, S k o → R k o) : KeepsO S A B := ⟨h.size, fun i o hi hr => h.same i o hi (hs i o hr)⟩

/-- What an iterator's value promises: its values come one by one. -/
def Gives {α : Type} (F : Fence) (n : Nat) (P : Program) (gf : Nat) (lb : Array Value) (encs : α → Array Value) (el : Nat → α) (N : Nat) (R : Nat → Obj → Prop) (w : World) : Prop :=
  ∀ (l : Nat) (J : Nat → World → Prop) (W : World), Below w.heap.size w W → l < W.heap.size → OwnFrom W.heap.size J →
    (∀ k W1, k < N → J k W1 → YieldAt F (n - 1) P l (encs (el k)) W1 fun e W' => e = .returned (.bool true) ∧ J (k + 1) W' ∧ KeepsO R W1 W') →
    J 0 W → CallsIn F n P gf (#[.func (.yield l) #[] #[]] ++ lb) W fun e W' => (∃ v, e = .returned v) ∧ J N W'

variable {F : Fence} {n : Nat} {P : Program}
theorem range_own {α : Type} {g : Operand} {ps : Array Tmp} {assign body : Code} {Q : Exit → Act → World → Prop} {a : Act} {w : World}
    (hro : F.round = none) (h1 : 1 ≤ n) {gf : Nat} {lb : Array Value} (hg : a.eval g = .func (.func gf) #[] lb) (hFg : F.fn gf) (eg : ∀ args w, (callFunc gf args).run P w = .ok (.enter gf args) w)
    (encs : α → Array Value) (el : Nat → α) (N : Nat) (R : Nat → Obj → Prop) (hps : ∀ x, (encs x).size = ps.size) (hseq : Gives F (n - 1) P gf lb encs el N R w)
    (I : Nat → World → Prop) (hI : OwnFrom w.heap.size I) (h0 : I 0 w) (a₁ : α → Act)
    (hassign : ∀ (l : Nat) (x : α) (W : World) (K : Act → World → Prop), K (a₁ x) W →
      assign.wpIn (F.inRound l) (n - 1 - 1) P (Exit.then K (fun _ _ _ => False)) { tmps := (ps.zip (encs x)).foldl (fun t (p, v) => t.setIfInBounds p v) a.tmps, defers := [] } W)
    (hbody : ∀ (l k : Nat) (W : World), I k W → k < N → w.heap.size + 1 < W.heap.size → body.wpIn (F.inRound l) (n - 1 - 1) P (goesOn fun W' => I (k + 1) W' ∧ KeepsO (fun j o => R j o ∨ (w.heap.size ≤ j ∧ o.isCells = false)) W W') (a₁ (el k)) W)
    (hdone : ∀ (W : World), I N W → w.heap.size < W.heap.size → W.heap[w.heap.size]? = some (.deferred (some [])) → Q .normal { a with defers := { target := .collected w.heap.size, args := #[] } :: a.defers } W) :
    (Code.rangeFunc g ps assign body).wpIn F n P Q a w := by
  refine wpIn_rangeFunc fun fn hfn => ?_
  rw [hro]
  obtain ⟨rec_, hrec⟩ : ∃ rec_ : LoopState → Loop, rec_ = fun st => { state := st, pending := none, fn, tmps := a.tmps, params := ps, assign, body, defers := w.heap.size } := ⟨_, rfl⟩
  obtain ⟨W0, hW0⟩ : ∃ W0, (w.alloc (.deferred (some []))).alloc (.loop (rec_ .ready)) = W0 := ⟨_, rfl⟩
  have s0 : W0.heap.size = w.heap.size + 2 := by rw [← hW0]; simp
  have d0 : W0.heap[w.heap.size]? = some (.deferred (some [])) := by rw [← hW0]; exact (Below.heap_alloc _ _ _ (by simp)).trans (World.alloc_heap_new w _)
  have l0 : W0.heap[w.heap.size + 1]? = some (.loop (rec_ .ready)) := by
    rw [← hW0]; have := World.alloc_heap_new (w.alloc (.deferred (some []))) (.loop (rec_ .ready)); rwa [World.size_alloc] at this
  have p0 : Below w.heap.size w W0 := by rw [← hW0]; exact (((Below.refl _ w).alloc (Nat.le_refl _) _).alloc (by simp) _)
  have i0 : I 0 W0 := by rw [← hW0]; exact hI.alloc _ (hI.alloc _ h0)
  let Bk : World → Prop := fun W => W.heap[w.heap.size]? = some (.deferred (some [])) ∧ W.heap[w.heap.size + 1]? = some (.loop (rec_ .ready))
  refine ⟨w.heap.size + 1, [{ target := .collected w.heap.size, args := #[] }], W0, { target := .fn (.func gf) lb, args := #[.func (.yield (w.heap.size + 1)) #[] #[]] }, W0, gf,
    #[.func (.yield (w.heap.size + 1)) #[] #[]] ++ lb, W0, ?_, ?_, ?_, ?_, fun _ => h1, ?_⟩
  · rw [run_enterLoop_outer, ← hW0, hrec]
  · simp only [resolve, hg]
    simp [go_sem]
  · intro f' hf'; simp [Target.leads] at hf'; subst hf'; exact hFg
  · simp [invoke, go_sem, eg]
  refine (hseq (w.heap.size + 1) (fun k W => I k W ∧ Bk W) W0 p0 (by omega) ?_ ?_ ⟨i0, d0, l0⟩).mono ?_
  · rintro k A C row ⟨hi, hd, hl⟩ hgr hrow
    have la := (Array.getElem?_eq_some_iff.1 hl).1
    refine ⟨hI k A C row hi hgr fun r e => ⟨Nat.le_trans (by omega) (hrow r e).1, (hrow r e).2⟩, (hgr.block _ (by omega) fun e => ?_).trans hd, (hgr.block _ la fun e => ?_).trans hl⟩
    · have := (hrow _ e.symm).1; omega
    · have := (hrow _ e.symm).1; omega
  · rintro k W1 hk ⟨hi, hd, hl⟩
    have la := (Array.getElem?_eq_some_iff.1 hl).1
    have hy := run_yield (P := P) (args := encs (el k)) hl (by rw [hrec]; exact hps _)
    rw [hrec] at hy
    refine ⟨fn, _, assign, body, hy, roundIn_of_wpIn hfn (hassign _ (el k) W1 _ ⟨_, run_beginRound hl (by rw [hrec]), ?_⟩)⟩
    have hbs : { rec_ .ready with state := .busy } = rec_ .busy := by rw [hrec]
    rw [hbs]
    have e2 : (W1.putObj (w.heap.size + 1) (.loop (rec_ .busy))).heap[w.heap.size + 1]? = some (.loop (rec_ .busy)) := World.putObj_heap_same la
    have e3 : (W1.putObj (w.heap.size + 1) (.loop (rec_ .busy))).heap[w.heap.size]? = some (.deferred (some [])) := (World.putObj_heap_other (by omega)).trans hd
    refine wpIn_mono (hbody _ k _ (hI.putObj _ hi (by omega) hl rfl) hk (by simpa using la)) ?_
    rintro e a3 W3 hp
    cases e with
    | normal =>
      obtain ⟨hi3, hk3⟩ := hp
      have e4 := hk3.same _ _ e2 (.inr ⟨by omega, rfl⟩)
      have e5 := hk3.same _ _ e3 (.inr ⟨Nat.le_refl _, rfl⟩)
      have la3 := (Array.getElem?_eq_some_iff.1 e4).1
      have he := run_endRound (P := P) none e4
      refine ⟨_, _, he, rfl, ⟨hI.putObj _ hi3 (by omega) e4 rfl, (World.putObj_heap_other (by omega)).trans e5, (World.putObj_heap_same la3).trans (by rw [hrec]; rfl)⟩, ⟨?_, fun j o hj hr => ?_⟩⟩
      · have := hk3.size; simp at this ⊢; exact this
      · by_cases hjl : j = w.heap.size + 1
        · subst hjl
          rw [hl] at hj; cases hj
          exact (World.putObj_heap_same la3).trans (by rw [hrec]; rfl)
        · exact (World.putObj_heap_other (by omega)).trans (hk3.same j o ((World.putObj_heap_other (by omega)).trans hj) (.inl hr))
    | ret => exact hp.elim
    | exit id => exact hp.elim
    | goto t => exact hp.elim
    | panic ch => exact hp.elim
    | outgrown => exact hp.elim
  · rintro e W2 ⟨⟨v, rfl⟩, hi, hd, hl⟩
    have la := (Array.getElem?_eq_some_iff.1 hl).1
    exact ⟨none, _, (run_endLoop (P := P) hl (by rw [hrec]; simp)).trans (by rw [hrec]), hdone _ (hI.putObj _ hi (by omega) hl rfl) (by simp; omega) ((World.putObj_heap_other (by omega)).trans hd)⟩
end Go.Proofs.Ythngicplclecpaa.Oo
