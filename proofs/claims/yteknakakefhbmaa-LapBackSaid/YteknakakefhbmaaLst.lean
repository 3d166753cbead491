/- Lists of int as they lie in memory, and the comparison of two of them. -/
import Derived.Test.YteknakakefhbmaaRefTrig
import Derived.WalkKit
import Derived.RegionTactic
import Derived.Deep.QuietTactic
import Derived.BigQuiet
import Derived.ChangeAlike
import Derived.Laws.AppendOwn
import Derived.Laws.AppendOwnNone
import Derived.Deep.OwnRows
import Derived.ProofKit
import Derived.OpenShut
import Derived.Lib.Hide
namespace Go.Proofs.Yteknakakefhbmaa.Fx
open Go Go.ChangeShapes Go.WideShapes Go.ChangeAt Go.RowKit

/-- A list, as it lies in memory. -/
def Rd (w : World) (v : Value) (zs : List Int) : Prop :=
  (∃ a cap, v = .slice a 0 cap ∧ zs = []) ∨
  ∃ b off cap, v = .slice (some ⟨b, off, none⟩) zs.length cap ∧ b < w.heap.size ∧ zs.length ≤ cap ∧ cap ≤ maxLen ∧ ∀ i, i < zs.length → w.cell? ⟨b, off + i, none⟩ = some (.int .i64 (zs.getD i 0))
theorem Rd.below {w w' : World} {v : Value} {zs : List Int} (h : Rd w v zs) (hb : Below w.heap.size w w') : Rd w' v zs := by
  rcases h with h | ⟨b, off, cap, h1, h2, h3, h4, h5⟩
  · exact .inl h
  · exact .inr ⟨b, off, cap, h1, Nat.lt_of_lt_of_le h2 hb.size, h3, h4, fun i hi => (hb.cell (p := ⟨b, off + i, none⟩) h2).trans (h5 i hi)⟩
theorem rd_row {w : World} {g n : Nat} {f : Nat → Int} {zs : List Int} (h : w.rowIs g 3 n (fun j => .int .i64 (f j))) (hn : zs.length = n) (hm : n ≤ maxLen) (hf : ∀ j, j < n → f j = zs.getD j 0) : Rd w (.slice (some ⟨g, 0, none⟩) n n) zs :=
  .inr ⟨g, 0, n, by rw [hn], h.lt, by omega, hm, fun i hi => by rw [Nat.zero_add, h.cell (by omega), hf i (by omega)]⟩
theorem Rd.shape {w : World} {v : Value} {z : List Int} (h : Rd w v z) : ∃ a c, v = .slice a z.length c := by
  rcases h with ⟨a, cap, rfl, rfl⟩ | ⟨b, off, cap, rfl, _⟩
  · exact ⟨_, _, rfl⟩
  · exact ⟨_, _, rfl⟩
theorem nil_rd (w : World) (a : Option Addr) (c : Nat) : Rd w (.slice a 0 c) [] := .inl ⟨_, _, rfl, rfl⟩

/-- A list of the call's own. -/
def Own (base : Nat) (w : World) (v : Value) (zs : List Int) : Prop := w.ownsRow base 3 1 v zs.length (zs.map (Value.int .i64))
theorem one64 (zs : List Int) : ∀ u ∈ zs.map (Value.int .i64), u.oneCell' = true := by
  intro u hu
  simp only [List.mem_map] at hu
  obtain ⟨x, _, rfl⟩ := hu
  rfl
theorem add_at (b o i : Nat) : (⟨b, o, none⟩ : Addr).add i = ⟨b, o + i, none⟩ := by simp [Addr.add]
theorem Own.rd {w : World} {base : Nat} {v : Value} {zs : List Int} (h : Own base w v zs) : Rd w v zs := by
  have hlt := h.lt
  have hcells := @World.ownsRow.cells _ _ _ _ _ _ _ h
  obtain ⟨hx, ⟨rfl, hn⟩ | ⟨g, cap, cur, rfl, hg, hh, hc, hm, hs, ht⟩⟩ := h
  · exact .inl ⟨none, 0, rfl, by cases zs with | nil => rfl | cons _ _ => simp at hn⟩
  · refine .inr ⟨g, 0, cap, rfl, (hlt g rfl).2, hc, hm, fun i hi => ?_⟩
    have := hcells (g := g) rfl i (.int .i64 (zs.getD i 0)) (by simp [hi])
    rwa [add_at] at this
theorem Own.of_block {base : Nat} {w w' : World} {v : Value} {zs : List Int} (h : Own base w v zs) (hb : ∀ g, base ≤ g → g < w.heap.size → w'.heap[g]? = w.heap[g]?) : Own base w' v zs := by
  have hlt := h.lt
  obtain ⟨hx, h | ⟨g, cap, cur, rfl, hg, hh, hc, hm, hs, ht⟩⟩ := h
  · exact ⟨hx, .inl h⟩
  · exact ⟨hx, .inr ⟨g, cap, cur, rfl, hg, (hb g hg (hlt g rfl).2).trans hh, hc, hm, hs, ht⟩⟩
theorem Own.below {base : Nat} {w w' : World} {v : Value} {zs : List Int} (h : Own base w v zs) (hb : Below w.heap.size w w') : Own base w' v zs := h.of_block fun g _ hl => hb.block g hl
theorem heap_other {w : World} {a b i : Nat} (v : Value) (h : a ≠ b) : (w.setCell ⟨a, i, none⟩ v).heap[b]? = w.heap[b]? := by
  simp only [World.setCell]
  show (w.heap.modify a _)[b]? = w.heap[b]?
  rw [Array.getElem?_modify, if_neg h]
/-- A store below what is the call's own. -/
theorem Own.set {base : Nat} {w : World} {v x : Value} {zs : List Int} {g i : Nat} (h : Own base w v zs) (hg : g < base) : Own base (w.setCell ⟨g, i, none⟩ x) v zs := h.of_block fun k hk _ => heap_other x (by omega)
theorem own_push {base : Nat} {w : World} {v : Value} {a : List Int} {x : Int} (h : w.ownsRow base 3 1 v (a.length + 1) (a.map (Value.int .i64) ++ [Value.int .i64 x])) : Own base w v (a ++ [x]) := by
  unfold Own
  rw [List.length_append, List.map_append]
  exact h
theorem own_nil (w : World) (base : Nat) : Own base w (.slice none 0 0) [] := World.ownsRow_nil w base 3 1
theorem below_grown {W w w' : World} {base : Nat} {v : Value} {zs : List Int} (hb : Below W.heap.size W w) (ho : Own base w v zs) (hle : W.heap.size ≤ base) (hg : w.grownBy w' v.ownBlock) : Below W.heap.size W w' :=
  hb.grown hg hb.size fun k hk => Nat.le_trans hle (ho.lt k hk).1
/-- The first k of a list of numbers. -/
def LL (l : List Nat) (k : Nat) : List Int := (List.range k).map fun j => ((l.getD j 0 : Nat) : Int)
theorem LL_len (l : List Nat) (k : Nat) : (LL l k).length = k := by simp [LL]
theorem LL_succ (l : List Nat) (k : Nat) : LL l (k + 1) = LL l k ++ [((l.getD k 0 : Nat) : Int)] := by simp [LL, List.range_succ]
theorem LL_at {l : List Nat} {k j : Nat} (h : j < k) : ((l.getD j 0 : Nat) : Int) = (LL l k).getD j 0 := by simp [LL, h]

/-- So many values of a function. -/
def mk (n : Nat) (F : Nat → Int) : List Int := (List.range n).map F
theorem mk_len (n : Nat) (F : Nat → Int) : (mk n F).length = n := by simp [mk]
theorem mk_at {n : Nat} {F : Nat → Int} {j : Nat} (h : j < n) : (mk n F).getD j 0 = F j := by simp [mk, h]
theorem mk_succ (n : Nat) (F : Nat → Int) : mk (n + 1) F = mk n F ++ [F n] := by simp [mk, List.range_succ]
theorem mk_congr {n : Nat} {F G : Nat → Int} (h : ∀ j, j < n → F j = G j) : mk n F = mk n G := by
  unfold mk
  exact List.map_congr_left fun _ hj => h _ (List.mem_range.1 hj)
theorem mk_rd {w : World} {g n : Nat} {F : Nat → Int} (h : w.rowIs g 3 n (fun j => .int .i64 (F j))) (hn : n ≤ maxLen) : Rd w (.slice (some ⟨g, 0, none⟩) n n) (mk n F) :=
  rd_row h (mk_len _ _) hn fun _ hj => (mk_at hj).symm
theorem Own.rebase {base b2 : Nat} {w : World} {v : Value} {zs : List Int} (h : Own b2 w v zs) (hb : base ≤ b2) : Own base w v zs := by
  obtain ⟨hx, h | ⟨g, cap, cur, rfl, hg, h2⟩⟩ := h
  · exact ⟨hx, .inl h⟩
  · exact ⟨hx, .inr ⟨g, cap, cur, rfl, Nat.le_trans hb hg, h2⟩⟩
/-- A list's cells, at an address. -/
def RdA (w : World) (A : Option Addr) (zs : List Int) : Prop := ∀ i, i < zs.length → ∃ b off, A = some ⟨b, off, none⟩ ∧ b < w.heap.size ∧ w.cell? ⟨b, off + i, none⟩ = some (.int .i64 (zs.getD i 0))
theorem RdA.below {w w' : World} {A : Option Addr} {zs : List Int} (h : RdA w A zs) (hb : Below w.heap.size w w') : RdA w' A zs := fun i hi => by
  obtain ⟨b, off, e, h1, h2⟩ := h i hi
  exact ⟨b, off, e, Nat.lt_of_lt_of_le h1 hb.size, (hb.cell (p := ⟨b, off + i, none⟩) h1).trans h2⟩
theorem Rd.open {w : World} {v : Value} {zs : List Int} (h : Rd w v zs) : ∃ A cap, v = .slice A zs.length cap ∧ RdA w A zs := by
  rcases h with ⟨a, cap, rfl, rfl⟩ | ⟨b, off, cap, rfl, h2, h3, h4, h5⟩
  · exact ⟨a, cap, rfl, fun i hi => absurd hi (by simp)⟩
  · exact ⟨_, cap, rfl, fun i hi => ⟨b, off, rfl, h2, h5 i hi⟩⟩

theorem drewN_belowL (w : World) : ∀ n, Below w.heap.size w (w.drewN n)
  | 0 => Below.refl _ _
  | n + 1 => (drewN_belowL w n).drew
set_option maxRecDepth 100000 in
/-- Two lists that are the same. -/
theorem same_yes (v v' : Value) (zs : List Int) (w : World) (hl : zs.length ≤ 5000) (h : Rd w v zs) (h' : Rd w v' zs) :
    Calls Try.prog 21 #[v, v'] w fun e w' => e = .returned (.bool true) ∧ Below w.heap.size w w' := by
  rcases h with ⟨a, cap, rfl, rfl⟩ | ⟨b, off, cap, rfl, hb, hcap, hm, hc⟩
  · obtain ⟨a', c', rfl⟩ := h'.shape
    go_enter Try.func21, Try.ntmps21
    go_wp2
    go_loop [5] (fun i => i = .int .i64 0) (fun _ => 0)
    case atStart => exact rfl
    case round =>
      subst hrel
      go_wp2
      go_ret
      exact ⟨rfl, Below.refl _ _⟩
  · rcases h' with ⟨a', c', rfl, rfl⟩ | ⟨b', off', cap', rfl, hb', hcap', hm', hc'⟩
    · go_enter Try.func21, Try.ntmps21
      go_wp2
      go_loop [5] (fun i => i = .int .i64 0) (fun _ => 0)
      case atStart => exact rfl
      case round =>
        subst hrel
        go_wp2
        go_ret
        exact ⟨rfl, Below.refl _ _⟩
    · unfold maxLen at hm hm'
      have HC := Lib.hid hc
      have HC' := Lib.hid hc'
      clear hc hc'
      go_enter Try.func21, Try.ntmps21
      go_wp2
      go_loopw [5] (fun i wr => ∃ k : Nat, k ≤ zs.length ∧ i = .int .i64 k ∧ Below w.heap.size w wr) (fun i _ => zs.length - (intOf i).toNat)
      case atStart => exact ⟨0, by omega, rfl, Below.refl _ _⟩
      case round =>
        obtain ⟨k, hk, rfl, hbel⟩ := hrel
        by_cases hlt : k < zs.length
        · have q1 := (hbel.cell (p := ⟨b, off + k, none⟩) hb).trans (HC.out k hlt)
          have q2 := (hbel.cell (p := ⟨b', off' + k, none⟩) hb').trans (HC'.out k hlt)
          generalize zs.getD k 0 = x at *
          go_wp2
          go_quiet (fail)
          go_wp2
          go_roundw
          case rel => exact ⟨k + 1, by omega, by go_num, hbel.trans ((drewN_belowL wr nq).mono hbel.size)⟩
          case measure => simp [intOf]; omega
        · go_wp2
          go_ret
          exact ⟨rfl, hbel⟩
end Go.Proofs.Yteknakakefhbmaa.Fx
