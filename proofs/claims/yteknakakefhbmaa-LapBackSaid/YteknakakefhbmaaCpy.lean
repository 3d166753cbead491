/- Copies by append, and rows that may be written to. -/
import Derived.Test.YteknakakefhbmaaMdAl
import Derived.WalkKit
import Derived.Below
import Derived.Laws.AppendOwn
import Derived.Laws.AppendOwnNone
import Derived.Deep.OwnRows
import Derived.ProofKit
import Derived.OpenShut
import Derived.ShutString
import Derived.Lib.Hide
namespace Go.Proofs.Yteknakakefhbmaa.Cpy
open Go Go.ChangeShapes Go.WideShapes Go.ChangeAt Go.RowKit Go.Proofs.Yteknakakefhbmaa.Fx Go.Proofs.Yteknakakefhbmaa.Md
/-- What append copies. -/
def Cp (w : World) (A : Option Addr) (n cap : Nat) (zs : List Int) : Prop :=
  (A = none ∧ n = 0 ∧ cap = 0) ∨ ∃ x, A = some x ∧ ∀ j u, (zs.map (Value.int .i64))[j]? = some u → w.cell? (x.add j) = some u
theorem Cp.below {w w' : World} {A : Option Addr} {n cap : Nat} {zs : List Int} (h : Cp w A n cap zs) (hb : Below w.heap.size w w') : Cp w' A n cap zs := by
  rcases h with h | ⟨x, rfl, h⟩
  · exact .inl h
  · exact .inr ⟨x, rfl, fun j u hu => (hb.cell (lt_of_cell (h j u hu))).trans (h j u hu)⟩
theorem cells_of {w : World} {b off : Nat} {zs : List Int} (r : RdA w (some ⟨b, off, none⟩) zs) : ∀ j u, (zs.map (Value.int .i64))[j]? = some u → w.cell? ((⟨b, off, none⟩ : Addr).add j) = some u := by
  intro j u hu
  rw [List.getElem?_map] at hu
  by_cases hj : j < zs.length
  · obtain ⟨b', off', e, _, c⟩ := r j hj
    simp only [Option.some.injEq, Addr.mk.injEq, and_true] at e
    obtain ⟨rfl, rfl⟩ := e
    rw [add_at, c, ← hu]
    simp [hj]
  · rw [List.getElem?_eq_none (by omega)] at hu
    simp at hu
theorem row_all {w : World} {a : Option Addr} {len cap : Nat} {zs : List Int} (h : IsRow .i64 w a len cap zs) : ∃ xs : List Int, xs.length = len ∧ RdA w a xs ∧ Rd w (.slice a xs.length cap) xs ∧ Cp w a len cap xs := by
  obtain ⟨xs, hl, hr, _, _⟩ := h.open
  have hr' : RdA w a xs := hr
  refine ⟨xs, hl, hr', ?_, ?_⟩
  · by_cases h0 : xs.length = 0
    · have : xs = [] := List.eq_nil_of_length_eq_zero h0
      subst this
      exact .inl ⟨_, _, rfl, rfl⟩
    · obtain ⟨b, off, rfl, hb, _⟩ := hr' 0 (by omega)
      rcases h with ⟨e, _⟩ | ⟨x, e, hlc, hm, _⟩
      · cases e
      · refine .inr ⟨b, off, cap, rfl, hb, by omega, hm, fun i hi => ?_⟩
        obtain ⟨b', off', e, _, c⟩ := hr' i hi
        simp only [Option.some.injEq, Addr.mk.injEq, and_true] at e
        obtain ⟨rfl, rfl⟩ := e
        exact c
  · rcases h with ⟨e, h1, h2, _⟩ | ⟨x, rfl, _⟩
    · exact .inl ⟨e, h1, h2⟩
    · refine .inr ⟨x, rfl, ?_⟩
      by_cases h0 : xs.length = 0
      · have : xs = [] := List.eq_nil_of_length_eq_zero h0
        subst this
        intro j u hu
        simp at hu
      · obtain ⟨b, off, e, hb, _⟩ := hr' 0 (by omega)
        simp only [Option.some.injEq] at e
        subst e
        exact cells_of hr'
theorem rd_rdA {w : World} {A : Option Addr} {n cap : Nat} {zs : List Int} (h : Rd w (.slice A n cap) zs) : RdA w A zs := by
  obtain ⟨A', cap', e, r⟩ := h.open
  simp only [Value.slice.injEq] at e
  obtain ⟨rfl, _, _⟩ := e
  exact r
/-- A copy by append. -/
theorem wpList_copy (w : World) {ops : Array Oper} {rest : List Oper} {o : Oper} {a : Act} {Q : Exit → Act → World → Prop} (hgd : o.guard = none) (s x : Operand)
    (ho : o.op = .call { callee := .builtin .append, args := #[s, x], argTypes := #[22, 22] }) (hs : a.eval s = .slice none 0 0) (A : Option Addr) (n cap : Nat) (zs : List Int) (hx : a.eval x = .slice A n cap) (hl : zs.length = n) (hn : n ≤ 1000) (hc : Cp w A n cap zs)
    (hK : ∀ v' w', Own w.heap.size w' v' zs → Below w.heap.size w w' → wpList Try.prog ops Q rest (a.put o.dst v') w') : wpList Try.prog ops Q (o :: rest) a w := by
  obtain ⟨i0, hi, hz0, hz1, hz2⟩ := info_parts Md.info3
  rcases hc with ⟨rfl, rfl, rfl⟩ | ⟨x1, rfl, hc⟩
  · have : zs = [] := List.eq_nil_of_length_eq_zero hl
    subst this
    exact wpList_append_own_none hgd s x 22 ho w.heap.size 3 i0 1 Try.underlying22 hi _ 0 _ hs (World.ownsRow_nil w w.heap.size 3 1) hx (hK _ _ (own_nil _ _) (Below.refl _ _))
  · refine wpList_append_own w hgd s x 22 ho w.heap.size 3 i0 (.int .i64 0) 1 8 Try.underlying22 hi hz0 hz1 hz2 rfl (by decide) _ 0 _ hs (World.ownsRow_nil w w.heap.size 3 1) x1 n cap (zs.map (Value.int .i64)) hx (by simp [hl]) hc (one64 _) (by unfold maxLen; omega) (by omega) (Nat.le_refl _) ?_
    intro v' w' h1 h2 _
    refine hK v' w' ?_ ((Below.refl _ _).grown h2 (Nat.le_refl _) (fun k hk => by cases hk))
    unfold Own
    rw [Nat.zero_add, List.nil_append] at h1
    rw [hl]
    exact h1
/-- What may be written to. -/
def Mut (lo hi : Nat) (w : World) (A : Option Addr) (n k : Nat) : Prop :=
  n = 0 ∨ ∃ g cap F, A = some ⟨g, 0, none⟩ ∧ lo ≤ g ∧ g < hi ∧ n ≤ cap ∧ w.rowIs g 3 cap F ∧ ∀ j, k ≤ j → j < n → ∃ z : Int, F j = .int .i64 z ∧ -4611686018427387904 ≤ z ∧ z ≤ 4611686018427387904
theorem Mut.below {lo hi : Nat} {w w' : World} {A : Option Addr} {n k : Nat} (h : Mut lo hi w A n k) (hb : Below w.heap.size w w') : Mut lo hi w' A n k := by
  rcases h with h | ⟨g, cap, F, e, h1, h2, h3, h4, h5⟩
  · exact .inl h
  · exact .inr ⟨g, cap, F, e, h1, h2, h3, h4.of_block (hb.block _ h4.lt), h5⟩
theorem mut_of {base : Nat} {w : World} {A : Option Addr} {n cap : Nat} {L : List Int} (h : Own base w (.slice A n cap) L) (hn : n = L.length) (hb : ∀ j, -4611686018427387904 ≤ L.getD j 0 ∧ L.getD j 0 ≤ 4611686018427387904) : Mut base w.heap.size w A n 0 := by
  have hlt := h.lt
  subst hn
  obtain ⟨hx, ⟨e, hn⟩ | ⟨g, cap', cur, e, hg, hh, hc, hm, hs, ht⟩⟩ := h
  · exact .inl hn
  · simp only [Value.slice.injEq] at e
    obtain ⟨rfl, _, rfl⟩ := e
    refine .inr ⟨g, cap, fun j => cur[j]?.getD (.int .i64 0), rfl, hg, (hlt g rfl).2, hc, ⟨cur, hh, by omega, fun i hi => ?_⟩, fun j _ hj => ⟨L.getD j 0, ?_, hb j⟩⟩
    · have : i < cur.size := by omega
      simp [this]
    · have e : (cur.toList.take (L.length * 1))[j]? = (L.map (Value.int .i64))[j]? := by rw [ht]
      rw [List.getElem?_take_of_lt (by omega), List.getElem?_map] at e
      show cur[j]?.getD _ = _
      rw [← Array.getElem?_toList, e]
      simp [hj]
theorem mut_step {lo hi cap g n k : Nat} {w : World} {F : Nat → Value} {v : Value} (h1 : lo ≤ g) (h2 : g < hi) (h3 : n ≤ cap) (h4 : w.rowIs g 3 cap F) (h5 : ∀ j, k ≤ j → j < n → ∃ z : Int, F j = .int .i64 z ∧ -4611686018427387904 ≤ z ∧ z ≤ 4611686018427387904) : Mut lo hi (w.setCell ⟨g, k, none⟩ v) (some ⟨g, 0, none⟩) n (k + 1) :=
  .inr ⟨g, cap, _, rfl, h1, h2, h3, h4.set k v, fun j hj hn => by
    obtain ⟨z, e, hz⟩ := h5 j (by omega) hn
    exact ⟨z, by rw [if_neg (by omega)]; exact e, hz⟩⟩
end Go.Proofs.Yteknakakefhbmaa.Cpy
