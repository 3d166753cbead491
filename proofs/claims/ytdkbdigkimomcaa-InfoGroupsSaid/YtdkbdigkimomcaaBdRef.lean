/- What band's and the document's own calls do. -/
import Derived.Test.YtdkbdigkimomcaaBdOff
import Derived.WalkKit
import Derived.RegionTactic
import Derived.Deep.QuietTactic
import Derived.BigQuiet
import Derived.Laws.AppendOwn
import Derived.ProofKit
import Derived.OpenShut
import Derived.Lib.Hide
namespace Go.Proofs.Ytdkbdigkimomcaa.Bd
open Go Go.ChangeShapes Go.WideShapes Go.ChangeAt Go.RowKit Go.Proofs.Ytdkbdigkimomcaa.Lo

theorem rd_shape {w : World} {v : Value} {z : List Int} (h : Rd w v z) : ∃ a c, v = .slice a z.length c := by
  rcases h with ⟨a, cap, rfl, rfl⟩ | ⟨b, off, cap, rfl, _⟩
  · exact ⟨_, _, rfl⟩
  · exact ⟨_, _, rfl⟩
theorem drewN_below (w : World) : ∀ n, Below w.heap.size w (w.drewN n)
  | 0 => Below.refl _ _
  | n + 1 => (drewN_below w n).drew

set_option maxRecDepth 100000 in
/-- Two lists that are the same. -/
theorem ints_yes (v v' : Value) (zs : List Int) (w : World) (hl : zs.length ≤ 1000) (h : Rd w v zs) (h' : Rd w v' zs) :
    Calls Try.prog 20 #[v, v'] w fun e w' => e = .returned (.bool true) ∧ Below w.heap.size w w' := by
  rcases h with ⟨a, cap, rfl, rfl⟩ | ⟨b, off, cap, rfl, hb, hcap, hm, hc⟩
  · obtain ⟨a', c', rfl⟩ := rd_shape h'
    go_enter Try.func20, Try.ntmps20
    go_wp2
    go_loop [5] (fun i => i = .int .i64 0) (fun _ => 0)
    case atStart => exact rfl
    case round =>
      subst hrel
      go_wp2
      go_ret
      exact ⟨rfl, Below.refl _ _⟩
  · rcases h' with ⟨a', c', rfl, rfl⟩ | ⟨b', off', cap', rfl, hb', hcap', hm', hc'⟩
    · go_enter Try.func20, Try.ntmps20
      go_wp2
      go_loop [5] (fun i => i = .int .i64 0) (fun _ => 0)
      case atStart => exact rfl
      case round =>
        subst hrel
        go_wp2
        go_ret
        exact ⟨rfl, Below.refl _ _⟩
    · unfold maxLen at hm hm'
      have HC := Lib.hid hc
      have HC' := Lib.hid hc'
      clear hc hc'
      go_enter Try.func20, Try.ntmps20
      go_wp2
      go_loopw [5] (fun i wr => ∃ k : Nat, k ≤ zs.length ∧ i = .int .i64 k ∧ Below w.heap.size w wr) (fun i _ => zs.length - (intOf i).toNat)
      case atStart => exact ⟨0, by omega, rfl, Below.refl _ _⟩
      case round =>
        obtain ⟨k, hk, rfl, hbel⟩ := hrel
        by_cases hlt : k < zs.length
        · have q1 := (hbel.cell (p := ⟨b, off + k, none⟩) hb).trans (HC.out k hlt)
          have q2 := (hbel.cell (p := ⟨b', off' + k, none⟩) hb').trans (HC'.out k hlt)
          generalize zs.getD k 0 = x at *
          go_wp2
          go_quiet (fail)
          go_wp2
          go_roundw
          case rel => exact ⟨k + 1, by omega, by go_num, hbel.trans ((drewN_below wr nq).mono hbel.size)⟩
          case measure => simp [intOf]; omega
        · go_wp2
          go_ret
          exact ⟨rfl, hbel⟩


/-! ### A row of numbers -/
def Row (w : World) (g cap : Nat) (zs : List Int) : Prop := ∃ F, w.rowIs g 3 cap F ∧ zs.length ≤ cap ∧ cap ≤ maxLen ∧ ∀ i, i < zs.length → F i = .int .i64 (zs.getD i 0)
theorem Row.cell {w : World} {g cap : Nat} {zs : List Int} (h : Row w g cap zs) {i : Nat} (hi : i < zs.length) : w.cell? ⟨g, i, none⟩ = some (.int .i64 (zs.getD i 0)) := by
  obtain ⟨F, hr, hl, _, hF⟩ := h
  rw [hr.cell (by omega), hF i hi]
theorem Row.lt {w : World} {g cap : Nat} {zs : List Int} (h : Row w g cap zs) : g < w.heap.size := by obtain ⟨F, hr, _⟩ := h; exact hr.lt
theorem Row.below {w w' : World} {g cap : Nat} {zs : List Int} (h : Row w g cap zs) (hb : Below w.heap.size w w') : Row w' g cap zs := by
  obtain ⟨F, hr, h2⟩ := h
  exact ⟨F, hr.of_block (hb.block _ hr.lt), h2⟩
theorem Row.rd {w : World} {g cap : Nat} {zs : List Int} (h : Row w g cap zs) : Rd w (.slice (some ⟨g, 0, none⟩) zs.length cap) zs := by
  have h' := h
  obtain ⟨F, hr, hl, hm, hF⟩ := h
  exact .inr ⟨g, 0, cap, rfl, hr.lt, hl, hm, fun i hi => by rw [Nat.zero_add]; exact h'.cell hi⟩
theorem Own.row {w : World} {base : Nat} {v : Value} {zs : List Int} (h : Own base w v zs) (hne : zs.length ≠ 0) : ∃ g cap, v = .slice (some ⟨g, 0, none⟩) zs.length cap ∧ base ≤ g ∧ Row w g cap zs := by
  have hcells := @World.ownsRow.cells _ _ _ _ _ _ _ h
  obtain ⟨hx, ⟨rfl, hn⟩ | ⟨g, cap, cur, rfl, hg, hh, hc, hm, hs, ht⟩⟩ := h
  · exact absurd hn hne
  · refine ⟨g, cap, rfl, hg, fun i => (cur[i]?).getD undef, ⟨cur, hh, by omega, fun i hi => ?_⟩, hc, hm, fun i hi => ?_⟩
    · have : i < cur.size := by omega
      simp [this]
    · have h1 := hcells (g := g) rfl i (.int .i64 (zs.getD i 0)) (by simp [hi])
      rw [add_at, Nat.zero_add] at h1
      have : i < cur.size := by omega
      simp [World.cell?, hh, this] at h1
      simp [this, h1]

/-! ### The lists -/
def Fact (l : List Int) (N : Int) : Prop := 2 ≤ l.length ∧ l.length ≤ 42 ∧ l.getD 0 0 = 0 ∧ l.getD (l.length - 1) 0 = N ∧ (∀ i, i < l.length - 1 → l.getD i 0 < l.getD (i + 1) 0) ∧ ∀ i, i < l.length → 0 ≤ l.getD i 0 ∧ l.getD i 0 ≤ N
instance (l : List Int) (N : Int) : Decidable (Fact l N) := by unfold Fact; infer_instance
theorem fact_q : ∀ n : Nat, n < 6 → ∀ s : Bool, Fact (offs (3 + (n : Int)) (uOf s) (nOf s) 66 0) (nOf s) := by decide +kernel
theorem fact (r : Int) (s : Bool) (r0 : 0 ≤ r) (r1 : r ≤ 11) : Fact (L r s) (nOf s) := by
  obtain ⟨q, hq⟩ : ∃ q, Int.tdiv (11 - r) 2 = q := ⟨_, rfl⟩
  have qb : 0 ≤ q ∧ q ≤ 5 := by rw [← hq, Int.tdiv_eq_ediv_of_nonneg (by omega)]; omega
  rw [L_eq r q s hq]
  have := fact_q q.toNat (by omega) s
  rwa [show ((q.toNat : Nat) : Int) = q by omega] at this
theorem off_row (r : Int) (s : Bool) (w : World) (r0 : 0 ≤ r) (r1 : r ≤ 11) :
    Calls Try.prog 23 #[.int .i64 r, .bool s] w fun e w' => ∃ g cap, e = .returned (.tuple #[.slice (some ⟨g, 0, none⟩) (L r s).length cap, .int .i64 0]) ∧ w.heap.size ≤ g ∧ Row w' g cap (L r s) ∧ Below w.heap.size w w' := by
  refine (off_ok r s w r0 r1).mono ?_
  rintro e w' ⟨v, rfl, ho, hb⟩
  obtain ⟨g, cap, rfl, hg, hr⟩ := ho.row (by have := (fact r s r0 r1).1; omega)
  exact ⟨g, cap, rfl, hg, hr, hb⟩

/-! ### The document's own -/
end Go.Proofs.Ytdkbdigkimomcaa.Bd
