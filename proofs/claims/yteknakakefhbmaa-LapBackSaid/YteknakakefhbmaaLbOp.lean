/- A path, as it comes in, taken apart. -/
import Derived.Test.YteknakakefhbmaaLpOp
import Derived.Deep.SlicePairs
import Derived.Below
namespace Go.Proofs.Yteknakakefhbmaa.Lp
open Go Go.ChangeShapes Go.WideShapes Go.RowKit Go.Deep Go.Proofs.Yteknakakefhbmaa

/-- Frames of a path, of which each is to be read. -/
def RdP (w : World) (A : Option Addr) (n : Nat) (S Z : Nat → Int) : Prop := ∀ i, i < n → ∃ b off, A = some ⟨b, off, none⟩ ∧ b < w.heap.size ∧ w.cell? ⟨b, off + i * 2, none⟩ = some (.int .u8 (S i)) ∧ w.cell? ⟨b, off + i * 2 + 1, none⟩ = some (.int .u8 (Z i)) ∧ 0 ≤ S i ∧ 0 ≤ Z i
theorem RdP.below {w w' : World} {A : Option Addr} {n : Nat} {S Z : Nat → Int} (h : RdP w A n S Z) (hb : Below w.heap.size w w') : RdP w' A n S Z := fun i hi => by
  obtain ⟨b, off, e, h0, h1, h2, h3, h4⟩ := h i hi
  exact ⟨b, off, e, Nat.lt_of_lt_of_le h0 hb.size, (hb.cell (p := ⟨b, off + i * 2, none⟩) h0).trans h1, (hb.cell (p := ⟨b, off + i * 2 + 1, none⟩) h0).trans h2, h3, h4⟩
theorem u8_at {x : Int} (h : (Lit.int .u8 x).wf = true) : 0 ≤ x := by simp [Lit.wf] at h; have e : IntKind.u8.min = 0 := rfl; omega
theorem choose_fun {n : Nat} {V : Nat → Value} (h : ∀ i, i < n → ∃ x : Int, V i = .int .u8 x ∧ 0 ≤ x) : ∃ S : Nat → Int, ∀ i, i < n → V i = .int .u8 (S i) ∧ 0 ≤ S i := by
  refine ⟨fun i => match V i with | .int .u8 x => x | _ => 0, fun i hi => ?_⟩
  obtain ⟨x, e, h0⟩ := h i hi
  simp only [e]
  exact ⟨trivial, h0⟩
variable {H : Type} {enc : TypeId × Value → H} {P : Program} {W : World}
theorem open_path {t e : TypeId} {f0 f1 : Field} {a : Option Addr} {len cap : Nat} {d : DataW H} {p : List MemPlace} (ht : P.underlying t = some (.slice e)) (he : P.underlying e = some (.struct #[f0, f1])) (ce : P.cellsOf e = 2) (o0 : f0.offset = 0) (o1 : f1.offset = 1)
    (h0 : P.underlying f0.type = some (.int .u8)) (h1 : P.underlying f1.type = some (.int .u8)) (c0 : P.cellsOf f0.type = 1) (c1 : P.cellsOf f1.type = 1) (h : DataW.Trod enc P W 0 (fun _ => true) true t (.slice a len cap) d p) :
    ∃ S Z : Nat → Int, RdP W a len S Z ∧ len ≤ cap ∧ cap ≤ maxLen := by
  obtain ⟨fuel, hf⟩ := h
  rcases open_slice_pairs ht he ce o0 o1 c0 c1 hf with ⟨hcs, _⟩ | ⟨a', l', c', m, n, V0, V1, D0, D1, P0, P1, hcs, _, hl, hm, hmm, _, hx⟩
  · simp [Value.cells] at hcs
    obtain ⟨rfl, rfl, rfl⟩ := hcs
    exact ⟨fun _ => 0, fun _ => 0, fun i hi => by omega, Nat.le_refl _, Nat.zero_le _⟩
  · simp [Value.cells] at hcs
    obtain ⟨rfl, rfl, rfl⟩ := hcs
    simp only [if_true] at hmm
    have hm' := hmm.symm
    subst hm'
    have g0 : ∀ i, i < cap → ∃ x : Int, V0 i = .int .u8 x ∧ 0 ≤ x := fun i hi => by
      obtain ⟨x, e1, _, e2⟩ := DataW.trod_int h0 (hx i hi).2.2.1
      exact ⟨x, by simpa using e1, u8_at e2⟩
    have g1 : ∀ i, i < cap → ∃ x : Int, V1 i = .int .u8 x ∧ 0 ≤ x := fun i hi => by
      obtain ⟨x, e1, _, e2⟩ := DataW.trod_int h1 (hx i hi).2.2.2
      exact ⟨x, by simpa using e1, u8_at e2⟩
    obtain ⟨S, hS⟩ := choose_fun g0
    obtain ⟨Z, hZ⟩ := choose_fun g1
    refine ⟨S, Z, fun i hi => ?_, hl, hm⟩
    have q := hx i (by omega)
    rw [(hS i (by omega)).1, (hZ i (by omega)).1] at q
    obtain ⟨b, off, sub⟩ := a'
    have hs : sub = none := by simpa [Addr.add] using World.cell?_spot (hx 0 (by omega)).1
    subst hs
    have e0 := q.1
    have e1 := q.2.1
    rw [Go.WideShapes.add_plain] at e0 e1
    exact ⟨b, off, rfl, Md.lt_of_cell e0, e0, e1, (hS i (by omega)).2, (hZ i (by omega)).2⟩
end Go.Proofs.Yteknakakefhbmaa.Lp
