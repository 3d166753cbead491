/- What overlaps, as it comes in, taken apart. -/
import Derived.Test.YteknakakefhbmaaMdAl
import Derived.Laws.IdiomArrays
import Derived.WideShapes
import Derived.OpenShut
import Derived.RowKit
import Derived.ChangeSlices
import Derived.ChangeArms
namespace Go.Proofs.Yteknakakefhbmaa.Lp
open Go Go.ChangeShapes Go.WideShapes Go.RowKit Go.Proofs.Yteknakakefhbmaa.Md
variable {H : Type} {enc : TypeId × Value → H} {P : Program} {W : World} {base b0 : Nat} {held : Bool} {r : Reach}

theorem open_lap {T : TypeId} {f0 f1 f2 : Field} {e : TypeId} {v : Value} {d : DataW H} {p : List MemPlace} (ht : P.underlying T = some (.struct #[f0, f1, f2])) (o0 : f0.offset = 0) (o1 : f1.offset = 1) (o2 : f2.offset = 2)
    (h0 : P.underlying f0.type = some (.slice e)) (h1 : P.underlying f1.type = some (.int .u8)) (h2 : P.underlying f2.type = some (.int .u8)) (he : P.underlying e = some (.int .i64))
    (c0 : P.cellsOf f0.type = 1) (c1 : P.cellsOf f1.type = 1) (c2 : P.cellsOf f2.type = 1) (ce : P.cellsOf e = 1) (hcT : P.cellsOf T = 3)
    (hv : Value.okWide P W r base T v) (h : DataW.Trod enc P W b0 (fun _ => true) held T v d p) :
    ∃ a len cap zs s sh, v = .agg #[.slice a len cap, .int .u8 s, .int .u8 sh] ∧ IsRow .i64 W a len cap zs ∧ (Lit.int .u8 s).wf = true ∧ (Lit.int .u8 sh).wf = true := by
  obtain ⟨cs, rfl, hs⟩ := okWide_struct ht hv
  rw [hcT] at hs
  obtain ⟨fuel, hf⟩ := h
  obtain ⟨x0, x1, x2, rfl⟩ : ∃ x0 x1 x2, cs = #[x0, x1, x2] := by
    obtain ⟨l⟩ := cs
    match l, hs with
    | [x0, x1, x2], _ => exact ⟨x0, x1, x2, rfl⟩
  have hf' : DataW.trod enc P W b0 (fun _ => true) held fuel T [x0, x1, x2] = some (d, p) := by simpa [Value.cells] using hf
  obtain ⟨xs, n, _, _, _, hl, hi⟩ := DataW.trod_struct ht hf'
  have q0 := hi 0 f0 rfl
  have q1 := hi 1 f1 rfl
  have q2 := hi 2 f2 rfl
  rw [o0, c0] at q0
  rw [o1, c1] at q1
  rw [o2, c2] at q2
  have hl3 : xs.length = 3 := by simpa using hl
  match xs, hl3 with
  | [y0, y1, y2], _ =>
  obtain ⟨k1, e1, _, w1⟩ := DataW.trod_int h1 (show _ = some y1 from q1)
  obtain ⟨k2, e2, _, w2⟩ := DataW.trod_int h2 (show _ = some y2 from q2)
  have q0' : DataW.trod enc P W b0 (fun _ => true) held n f0.type [x0] = some y0 := by simpa using q0
  simp at e1 e2
  subst e1 e2
  rcases open_ints h0 he ce q0' with ⟨hcs, _⟩ | ⟨a, len, cap, zs, hcs, _, hl, hm, hz, _, hcell, hwf⟩
  · simp at hcs
    subst hcs
    exact ⟨none, 0, 0, [], k1, k2, rfl, .inl ⟨rfl, rfl, rfl, rfl⟩, w1, w2⟩
  · simp at hcs
    subst hcs
    exact ⟨some a, len, cap, zs, k1, k2, rfl, .inr ⟨a, rfl, hl, hm, by simpa using hz, hcell, hwf⟩, w1, w2⟩
end Go.Proofs.Yteknakakefhbmaa.Lp
