/- A loop over an iterator that hands out memory and keeps cells of its own; its body always goes on. -/
import Derived.RangeFuncNested
import Derived.RangeFuncBound
import Derived.RangeFuncCalls
import Derived.RangeFuncLeaves
import Derived.RangeFuncBox
import Derived.Deep.OwnRows
import Derived.Test.YteknakakefhbmaaRows
namespace Go.Proofs.Yteknakakefhbmaa.Rg
open Go Go.RowKit

/-- What lay in A lies so in B, but for blocks of T. -/
structure Part (T : Nat → Prop) (A B : World) : Prop where
  os : B.os = A.os
  tape : B.tape = A.tape
  output : B.output = A.output
  size : A.heap.size ≤ B.heap.size
  block : ∀ k, k < A.heap.size → ¬ T k → B.heap[k]? = A.heap[k]?
theorem Part.refl (T : Nat → Prop) (A : World) : Part T A A := ⟨rfl, rfl, rfl, Nat.le_refl _, fun _ _ _ => rfl⟩
theorem Part.trans {T : Nat → Prop} {A B C : World} (h : Part T A B) (k : Part T B C) : Part T A C :=
  ⟨k.os.trans h.os, k.tape.trans h.tape, k.output.trans h.output, Nat.le_trans h.size k.size, fun j hj hT => (k.block j (Nat.lt_of_lt_of_le hj h.size) hT).trans (h.block j hj hT)⟩
theorem Part.mono {T U : Nat → Prop} {A B : World} (h : Part T A B) (hu : ∀ k, T k → U k) : Part U A B := ⟨h.os, h.tape, h.output, h.size, fun k hk hU => h.block k hk fun q => hU (hu k q)⟩
theorem Part.of_below {T : Nat → Prop} {A B : World} (h : Below A.heap.size A B) : Part T A B := ⟨h.os, h.tape, h.output, h.size, fun k hk _ => h.block k hk⟩
theorem Part.below {T : Nat → Prop} {A B : World} {b : Nat} (h : Part T A B) (hb : b ≤ A.heap.size) (hT : ∀ k, T k → b ≤ k) : Below b A B := ⟨h.os, h.tape, h.output, h.size, fun k hk => h.block k (by omega) fun q => by have := hT k q; omega⟩
theorem Part.row {T : Nat → Prop} {A B : World} {g n : Nat} {t : TypeId} {f : Nat → Value} (h : Part T A B) (r : A.rowIs g t n f) (hT : ¬ T g) : B.rowIs g t n f := r.of_block (h.block g r.lt hT)
theorem Part.put {T : Nat → Prop} {A : World} {l : Nat} (o : Obj) (hl : T l) : Part T A (A.putObj l o) := ⟨rfl, rfl, rfl, by simp, fun k _ hT => World.putObj_heap_other (fun e => hT (e ▸ hl))⟩
theorem Part.set {T : Nat → Prop} {A : World} {p : Addr} (v : Value) (hp : T p.block) : Part T A (A.setCell p v) := ⟨rfl, rfl, rfl, by simp [World.setCell], fun k _ hT => by
  simp only [World.setCell]
  show (A.heap.modify p.block _)[k]? = A.heap[k]?
  have hne : ¬ p.block = k := fun e => hT (e ▸ hp)
  rw [Array.getElem?_modify, if_neg hne]⟩
/-- A body that always goes on. -/
def onlyN (R : World → Prop) : Exit → Act → World → Prop
  | .normal, _, W' => R W'
  | _, _, _ => False
/-- What a round keeps. -/
def Keep (T : Nat → Prop) (A B : World) : Prop := A.heap.size ≤ B.heap.size ∧ ∀ j, T j → B.heap[j]? = A.heap[j]?
theorem Keep.below {T : Nat → Prop} {A B : World} {b : Nat} (h : Below b A B) (hT : ∀ j, T j → j < b) : Keep T A B := ⟨h.size, fun j q => h.block j (hT j q)⟩
variable {F : Fence} {n : Nat} {P : Program}

theorem range_mem {α : Type} {g : Operand} {ps : Array Tmp} {assign body : Code} {Q : Exit → Act → World → Prop} {a : Act} {w : World}
    (hro : F.round = none) (h1 : 1 ≤ n) {gf : Nat} {lb : Array Value} (hg : a.eval g = .func (.func gf) #[] lb) (hFg : F.fn gf) (eg : ∀ args w, (callFunc gf args).run P w = .ok (.enter gf args) w)
    (encs : α → Array Value) (Hx : Nat → α → World → Prop) (T : Nat → Prop) (N : Nat) (hT : ∀ k, T k → k < w.heap.size) (hps : ∀ x, (encs x).size = ps.size)
    (hseq : ∀ (l : Nat) (J : Nat → World → Prop) (W : World), l = w.heap.size + 1 → Part (fun _ => False) w W → l < W.heap.size → (∀ k A B, J k A → Part T A B → J k B) →
      (∀ k x W1, J k W1 → k < N → l < W1.heap.size → Hx k x W1 → YieldAt F (n - 1 - 1) P l (encs x) W1 fun e W' => e = .returned (.bool true) ∧ J (k + 1) W' ∧ Keep T W1 W' ∧ l < W'.heap.size) →
      J 0 W → CallsIn F (n - 1) P gf (#[.func (.yield l) #[] #[]] ++ lb) W fun e W' => (∃ v, e = .returned v) ∧ J N W')
    (I : Nat → World → Prop) (hI : ∀ k A B, I k A → Part (fun j => T j ∨ j = w.heap.size ∨ j = w.heap.size + 1) A B → I k B) (h0 : I 0 w)
    (hHx : ∀ k x A o, w.heap.size + 1 < A.heap.size → Hx k x A → Hx k x (A.putObj (w.heap.size + 1) o)) (a₁ : α → Act)
    (hassign : ∀ (l : Nat) (x : α) (W : World) (K : Act → World → Prop), K (a₁ x) W →
      assign.wpIn (F.inRound l) (n - 1 - 1) P (Exit.then K (fun _ _ _ => False)) { tmps := (ps.zip (encs x)).foldl (fun t (p, v) => t.setIfInBounds p v) a.tmps, defers := [] } W)
    (hbody : ∀ (l k : Nat) (x : α) (W : World), I k W → k < N → Hx k x W → w.heap.size + 1 < W.heap.size → body.wpIn (F.inRound l) (n - 1 - 1) P (onlyN fun W' => I (k + 1) W' ∧ Keep (fun j => T j ∨ j = w.heap.size ∨ j = w.heap.size + 1) W W') (a₁ x) W)
    (hdone : ∀ (W : World), I N W → w.heap.size < W.heap.size → W.heap[w.heap.size]? = some (.deferred (some [])) → Q .normal { a with defers := { target := .collected w.heap.size, args := #[] } :: a.defers } W) :
    (Code.rangeFunc g ps assign body).wpIn F n P Q a w := by
  refine wpIn_rangeFunc fun fn hfn => ?_
  rw [hro]
  let rec_ : LoopState → Loop := fun st => { state := st, pending := none, fn, tmps := a.tmps, params := ps, assign, body, defers := w.heap.size }
  let W0 : World := (w.alloc (.deferred (some []))).alloc (.loop (rec_ .ready))
  have s0 : W0.heap.size = w.heap.size + 2 := by simp [W0]
  have d0 : W0.heap[w.heap.size]? = some (.deferred (some [])) := (Below.heap_alloc _ _ _ (by simp)).trans (World.alloc_heap_new w _)
  have l0 : W0.heap[w.heap.size + 1]? = some (.loop (rec_ .ready)) := by
    have := World.alloc_heap_new (w.alloc (.deferred (some []))) (.loop (rec_ .ready)); rwa [World.size_alloc] at this
  have p0 : Below w.heap.size w W0 := (((Below.refl _ w).alloc (Nat.le_refl _) _).alloc (by simp) _)
  -- the two blocks of the loop's own
  let Bk : World → Prop := fun W => W.heap[w.heap.size]? = some (.deferred (some [])) ∧ W.heap[w.heap.size + 1]? = some (.loop (rec_ .ready))
  refine ⟨w.heap.size + 1, [{ target := .collected w.heap.size, args := #[] }], W0, { target := .fn (.func gf) lb, args := #[.func (.yield (w.heap.size + 1)) #[] #[]] }, W0, gf,
    #[.func (.yield (w.heap.size + 1)) #[] #[]] ++ lb, W0, run_enterLoop_outer _ _ _ _ _, ?_, ?_, ?_, fun _ => h1, ?_⟩
  · simp only [resolve, hg]
    simp [go_sem]
  · intro f' hf'; simp [Target.leads] at hf'; subst hf'; exact hFg
  · simp [invoke, go_sem, eg]
  refine (hseq (w.heap.size + 1) (fun k W => I k W ∧ Bk W) W0 rfl (Part.of_below p0) (by omega) ?_ ?_ ⟨hI 0 w W0 h0 (Part.of_below p0), d0, l0⟩).mono ?_
  · rintro k A C ⟨hi, hd, hl⟩ hp
    have la := (Array.getElem?_eq_some_iff.1 hl).1
    refine ⟨hI k A C hi (hp.mono fun _ => .inl), (hp.block _ (by omega) fun q => ?_).trans hd, (hp.block _ la fun q => ?_).trans hl⟩
    · have := hT _ q; omega
    · have := hT _ q; omega
  · rintro k x W1 ⟨hi, hd, hl⟩ hk _ hx
    have la := (Array.getElem?_eq_some_iff.1 hl).1
    have hy := run_yield (P := P) (args := encs x) hl (hps x)
    refine ⟨fn, _, assign, body, hy, roundIn_of_wpIn hfn (hassign _ x W1 _ ⟨_, run_beginRound hl rfl, ?_⟩)⟩
    have e2 : (W1.putObj (w.heap.size + 1) (.loop { rec_ .ready with state := .busy })).heap[w.heap.size + 1]? = some (.loop { rec_ .ready with state := .busy }) := World.putObj_heap_same la
    have e3 : (W1.putObj (w.heap.size + 1) (.loop { rec_ .ready with state := .busy })).heap[w.heap.size]? = some (.deferred (some [])) := (World.putObj_heap_other (by omega)).trans hd
    refine wpIn_mono (hbody _ k x _ (hI k _ _ hi (Part.put _ (.inr (.inr rfl)))) hk (hHx k x W1 _ la hx) (by simpa using la)) ?_
    rintro e a3 W3 hp
    cases e with
    | normal =>
      obtain ⟨hi3, hs3, hk3⟩ := hp
      have e4 := (hk3 _ (.inr (.inr rfl))).trans e2
      have e5 := (hk3 _ (.inr (.inl rfl))).trans e3
      have la3 := (Array.getElem?_eq_some_iff.1 e4).1
      refine ⟨_, _, run_endRound (P := P) none e4, rfl, ⟨hI (k + 1) _ _ hi3 (Part.put _ (.inr (.inr rfl))), (World.putObj_heap_other (by omega)).trans e5, World.putObj_heap_same la3⟩, ⟨?_, fun j q => ?_⟩, ?_⟩
      · simp at hs3 ⊢; exact hs3
      · have hj := hT j q
        exact ((World.putObj_heap_other (by omega)).trans (hk3 j (.inl q))).trans (World.putObj_heap_other (by omega))
      · simpa using la3
    | ret => exact hp.elim
    | exit id => exact hp.elim
    | goto t => exact hp.elim
    | panic ch => exact hp.elim
    | outgrown => exact hp.elim
  · rintro e W2 ⟨⟨v, rfl⟩, hi, hd, hl⟩
    have la := (Array.getElem?_eq_some_iff.1 hl).1
    exact ⟨none, _, run_endLoop (P := P) hl (by simp [rec_]), hdone _ (hI N _ _ hi (Part.put _ (.inr (.inr rfl)))) (by simp; omega) ((World.putObj_heap_other (by omega)).trans hd)⟩
end Go.Proofs.Yteknakakefhbmaa.Rg
