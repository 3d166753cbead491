/- What the calls of layer band do: the offsets. -/
import Derived.Test.YtbblbahllaindaaLoCon
import Derived.WalkKit
import Derived.RegionTactic
import Derived.ChangeAlike
import Derived.Laws.AppendOwn
import Derived.Laws.AppendOwnNone
import Derived.WalkMore
import Derived.ScopeJumps
import Derived.Deep.OwnRows
import Derived.ProofKit
import Derived.OpenShut
import Derived.Lib.Hide
namespace Go.Proofs.Ytbblbahllaindaa.Bd
open Go Go.ChangeShapes Go.WideShapes Go.ChangeAt Go.RowKit Go.Proofs.Ytbblbahllaindaa.Lo

/-! ### Lists of the call's own -/
def Own (base : Nat) (w : World) (v : Value) (zs : List Int) : Prop := w.ownsRow base 3 1 v zs.length (zs.map (Value.int .i64))
theorem one64 (zs : List Int) : ∀ u ∈ zs.map (Value.int .i64), u.oneCell' = true := by
  intro u hu
  simp only [List.mem_map] at hu
  obtain ⟨x, _, rfl⟩ := hu
  rfl
theorem add_at (b o i : Nat) : (⟨b, o, none⟩ : Addr).add i = ⟨b, o + i, none⟩ := by simp [Addr.add]
theorem Own.rd {w : World} {base : Nat} {v : Value} {zs : List Int} (h : Own base w v zs) : Rd w v zs := by
  have hlt := h.lt
  have hcells := @World.ownsRow.cells _ _ _ _ _ _ _ h
  obtain ⟨hx, ⟨rfl, hn⟩ | ⟨g, cap, cur, rfl, hg, hh, hc, hm, hs, ht⟩⟩ := h
  · exact .inl ⟨none, 0, rfl, by cases zs with | nil => rfl | cons _ _ => simp at hn⟩
  · refine .inr ⟨g, 0, cap, rfl, (hlt g rfl).2, hc, hm, fun i hi => ?_⟩
    have := hcells (g := g) rfl i (.int .i64 (zs.getD i 0)) (by simp [hi])
    rwa [add_at] at this
theorem Own.below {base : Nat} {w w' : World} {v : Value} {zs : List Int} (h : Own base w v zs) (hb : Below w.heap.size w w') : Own base w' v zs := by
  have hlt := h.lt
  obtain ⟨hx, h | ⟨g, cap, cur, rfl, hg, hh, hc, hm, hs, ht⟩⟩ := h
  · exact ⟨hx, .inl h⟩
  · exact ⟨hx, .inr ⟨g, cap, cur, rfl, hg, (hb.block g (hlt g rfl).2).trans hh, hc, hm, hs, ht⟩⟩
theorem own_push {base : Nat} {w : World} {v : Value} {a : List Int} {x : Int} (h : w.ownsRow base 3 1 v (a.length + 1) (a.map (Value.int .i64) ++ [Value.int .i64 x])) : Own base w v (a ++ [x]) := by
  unfold Own
  rw [List.length_append, List.map_append]
  exact h
theorem below_grown {W w w' : World} {base : Nat} {v : Value} {zs : List Int} (hb : Below W.heap.size W w) (ho : Own base w v zs) (hle : W.heap.size ≤ base) (hg : w.grownBy w' v.ownBlock) : Below W.heap.size W w' :=
  hb.grown hg hb.size fun k hk => Nat.le_trans hle (ho.lt k hk).1

/-! ### The offsets -/
def nxt (k U N a : Int) : Int := min (a + 4 + 4 * Int.tdiv (a * k) U) N
def offs (k U N : Int) : Nat → Int → List Int
  | 0, _ => []
  | f + 1, a => if a < N then a :: offs k U N f (nxt k U N a) else [N]
def kOf (r : Int) : Int := 3 + Int.tdiv (11 - r) 2
def nOf (s : Bool) : Int := if s then 32 else 256
def uOf (s : Bool) : Int := if s then 64 else 256
/-- The offsets of a rate that may be. -/
def L (r : Int) (s : Bool) : List Int := offs (kOf r) (uOf s) (nOf s) 66 0

theorem nxt_bd {k U N a : Int} (k0 : 3 ≤ k) (k1 : k ≤ 8) (hU : U = 64 ∨ U = 256) (a0 : 0 ≤ a) (a1 : a < N) (hN : N ≤ 256) : 0 ≤ a * k ∧ a * k ≤ 2048 ∧ 0 ≤ Int.tdiv (a * k) U ∧ Int.tdiv (a * k) U ≤ 2048 ∧ (a + 4 ≤ nxt k U N a ∨ nxt k U N a = N) ∧ nxt k U N a ≤ N ∧ 0 ≤ nxt k U N a := by
  have h1 : 0 ≤ a * k := Int.mul_nonneg a0 (by omega)
  have h2 : a * k ≤ 256 * 8 := Int.mul_le_mul (by omega) k1 (by omega) (by omega)
  have h3 : 0 ≤ Int.tdiv (a * k) U := Int.tdiv_nonneg h1 (by omega)
  have h4 : Int.tdiv (a * k) U ≤ a * k := by
    rw [Int.tdiv_eq_ediv_of_nonneg h1]
    exact Int.ediv_le_self _ h1
  unfold nxt
  generalize Int.tdiv (a * k) U = q at *
  generalize a * k = p at *
  omega

theorem info3' : (Try.prog.info? 3).map (fun i => (i.zero, i.size, i.bytes)) = some (some (.int .i64 0), 1, 8) := by kernel_rfl
end Go.Proofs.Ytbblbahllaindaa.Bd
