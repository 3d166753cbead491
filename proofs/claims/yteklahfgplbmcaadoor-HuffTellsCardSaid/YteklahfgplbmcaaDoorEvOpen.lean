/- Arguments that are arrays of three, taken apart. -/
import Derived.Laws.IdiomArrays
import Derived.WideShapes
import Derived.OpenShut
import Derived.RowKit
import Derived.ChangeSlices
import Derived.ChangeArms
namespace Go.Ev
open Go Go.ChangeShapes Go.WideShapes Go.RowKit
variable {H : Type} {enc : TypeId × Value → H} {P : Program} {W : World} {base b0 : Nat} {spare : Nat → Bool} {held : Bool} {r : Reach}

theorem okWide_array {t e : TypeId} {n : Nat} {v : Value} (ht : P.underlying t = some (.array n e)) (h : Value.okWide P W r base t v) : ∃ cs, v = .agg cs ∧ cs.size = P.cellsOf t := by
  unfold Value.okWide at h
  rw [ht] at h
  obtain ⟨cs, h1, h2, _⟩ := h
  exact ⟨cs, h1, h2⟩
theorem open_arr3 {t e : TypeId} {k : IntKind} {v : Value} {d : DataW H} {p : List MemPlace} (ht : P.underlying t = some (.array 3 e)) (he : P.underlying e = some (.int k)) (hce : P.cellsOf e = 1) (hct : P.cellsOf t = 3)
    (hv : Value.okWide P W r base t v) (h : DataW.Trod enc P W b0 spare held t v d p) :
    ∃ x y z, v = .agg #[.int k x, .int k y, .int k z] ∧ (Lit.int k x).wf = true ∧ (Lit.int k y).wf = true ∧ (Lit.int k z).wf = true := by
  obtain ⟨cs, rfl, hs⟩ := okWide_array ht hv
  rw [hct] at hs
  obtain ⟨fuel, hf⟩ := h
  obtain ⟨c0, c1, c2, rfl⟩ : ∃ c0 c1 c2, cs = #[c0, c1, c2] := by
    obtain ⟨l⟩ := cs
    match l, hs with
    | [c0, c1, c2], _ => exact ⟨c0, c1, c2, rfl⟩
  have hf' : DataW.trod enc P W b0 spare held fuel t [c0, c1, c2] = some (d, p) := by simpa [Value.cells] using hf
  obtain ⟨y0, y1, y2, n, _, h0, h1, h2⟩ := trod_array3 ht hce hf'
  obtain ⟨k0, e0, _, w0⟩ := DataW.trod_int he h0
  obtain ⟨k1, e1, _, w1⟩ := DataW.trod_int he h1
  obtain ⟨k2, e2, _, w2⟩ := DataW.trod_int he h2
  simp at e0 e1 e2
  subst e0 e1 e2
  exact ⟨k0, k1, k2, rfl, w0, w1, w2⟩

/-- A slice's cells. -/
def RowA (k : IntKind) (w : World) (A : Option Addr) (zs : List Int) : Prop := ∀ i, i < zs.length → ∃ b off, A = some ⟨b, off, none⟩ ∧ b < w.heap.size ∧ w.cell? ⟨b, off + i, none⟩ = some (.int k (zs.getD i 0))
theorem lt_cell {w : World} {p : Addr} {v : Value} (h : w.cell? p = some v) : p.block < w.heap.size := by
  refine Nat.not_le.1 fun hle => ?_
  have : w.heap[p.block]? = none := by simp; omega
  simp [World.cell?, this] at h
theorem open_row {t e : TypeId} {k : IntKind} {fuel : Nat} {c : Value} {x : DataW H × List MemPlace} (ht : P.underlying t = some (.slice e)) (he : P.underlying e = some (.int k)) (hc : P.cellsOf e = 1)
    (h : DataW.trod enc P W b0 (fun _ => true) held fuel t [c] = some x) :
    ∃ a cap zs, c = .slice a zs.length cap ∧ zs.length ≤ maxLen ∧ RowA k W a zs ∧ ∀ n ∈ zs, (Lit.int k n).wf = true := by
  rcases open_ints ht he hc h with ⟨hcs, _⟩ | ⟨a, len, cap, zs, hcs, _, hl, hm, hz, _, hcell, hwf⟩
  · simp at hcs
    subst hcs
    exact ⟨none, 0, [], rfl, by unfold maxLen; exact Nat.zero_le _, fun i hi => absurd hi (by simp), fun n hn => by cases hn⟩
  · simp at hcs
    subst hcs
    simp at hz
    have hlen : (zs.take len).length = len := by simp; omega
    refine ⟨some a, cap, zs.take len, by rw [hlen], by omega, fun i hi => ?_, fun n hn => hwf n (List.mem_of_mem_take hn)⟩
    rw [hlen] at hi
    obtain ⟨b, off, rfl, hc'⟩ := ints_at hcell (by omega)
    have q := hc' i (by omega)
    exact ⟨b, off, rfl, lt_cell q, by rw [q]; simp [hi]⟩
/-- A struct of two small numbers, a number and a slice of numbers. -/
theorem open_info {T : TypeId} {f0 f1 f2 f3 : Field} {e : TypeId} {v : Value} {d : DataW H} {p : List MemPlace} (ht : P.underlying T = some (.struct #[f0, f1, f2, f3])) (o0 : f0.offset = 0) (o1 : f1.offset = 1) (o2 : f2.offset = 2) (o3 : f3.offset = 3)
    (h0 : P.underlying f0.type = some (.int .u8)) (h1 : P.underlying f1.type = some (.int .u8)) (h2 : P.underlying f2.type = some (.int .i64)) (h3 : P.underlying f3.type = some (.slice e)) (he : P.underlying e = some (.int .i64))
    (c0 : P.cellsOf f0.type = 1) (c1 : P.cellsOf f1.type = 1) (c2 : P.cellsOf f2.type = 1) (c3 : P.cellsOf f3.type = 1) (ce : P.cellsOf e = 1) (hcT : P.cellsOf T = 4)
    (hv : Value.okWide P W r base T v) (h : DataW.Trod enc P W b0 (fun _ => true) held T v d p) :
    ∃ s sh m a cap zs, v = .agg #[.int .u8 s, .int .u8 sh, .int .i64 m, .slice a zs.length cap] ∧ (Lit.int .u8 s).wf = true ∧ (Lit.int .u8 sh).wf = true ∧ (Lit.int .i64 m).wf = true ∧ zs.length ≤ maxLen ∧ RowA .i64 W a zs ∧ ∀ n ∈ zs, (Lit.int .i64 n).wf = true := by
  obtain ⟨cs, rfl, hs⟩ := okWide_struct ht hv
  rw [hcT] at hs
  obtain ⟨fuel, hf⟩ := h
  obtain ⟨x0, x1, x2, x3, rfl⟩ : ∃ x0 x1 x2 x3, cs = #[x0, x1, x2, x3] := by
    obtain ⟨l⟩ := cs
    match l, hs with
    | [x0, x1, x2, x3], _ => exact ⟨x0, x1, x2, x3, rfl⟩
  have hf' : DataW.trod enc P W b0 (fun _ => true) held fuel T [x0, x1, x2, x3] = some (d, p) := by simpa [Value.cells] using hf
  obtain ⟨xs, n, _, _, _, hl, hi⟩ := DataW.trod_struct ht hf'
  have q0 := hi 0 f0 rfl
  have q1 := hi 1 f1 rfl
  have q2 := hi 2 f2 rfl
  have q3 := hi 3 f3 rfl
  rw [o0, c0] at q0
  rw [o1, c1] at q1
  rw [o2, c2] at q2
  rw [o3, c3] at q3
  have hl4 : xs.length = 4 := by simpa using hl
  match xs, hl4 with
  | [y0, y1, y2, y3], _ =>
  obtain ⟨k0, e0, _, w0⟩ := DataW.trod_int h0 (show _ = some y0 from q0)
  obtain ⟨k1, e1, _, w1⟩ := DataW.trod_int h1 (show _ = some y1 from q1)
  obtain ⟨k2, e2, _, w2⟩ := DataW.trod_int h2 (show _ = some y2 from q2)
  have q3' : DataW.trod enc P W b0 (fun _ => true) held n f3.type [x3] = some y3 := by simpa using q3
  obtain ⟨a, cap, zs, e3, g1, g2, g3⟩ := open_row h3 he ce q3'
  simp at e0 e1 e2
  subst e0 e1 e2 e3
  exact ⟨k0, k1, k2, a, cap, zs, rfl, w0, w1, w2, g1, g2, g3⟩
end Go.Ev
