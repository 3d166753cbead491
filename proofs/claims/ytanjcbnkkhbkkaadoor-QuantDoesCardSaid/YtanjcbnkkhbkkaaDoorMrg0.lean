/- Texts of one claim, one behind the other: LoCon, BdCon, BdOff, BdRef, BdRo, IfCon, QnCon, QnChk, Rg, Rg2, QnPl, QnTe, FixMath, RootMath, PwMath, FixCon, RootCon, RefFix, PwCon, PwQ, PwP, PwK, Rg3, QnVl, Rg4, Rg5. -/
import Derived.Test.YtanjcbnkkhbkkaaDoorRows
import Derived.WalkKit
import Derived.RegionTactic
import Derived.ChangeAlike
import Derived.Deep.OwnRows
import Derived.ProofKit
import Derived.OpenShut
import Derived.Lib.Hide
import Derived.Laws.AppendOwn
import Derived.Laws.AppendOwnNone
import Derived.WalkMore
import Derived.ScopeJumps
import Derived.Deep.QuietTactic
import Derived.BigQuiet
import Derived.Below
import Derived.RangeFuncNested
import Derived.RangeFuncBound
import Derived.RangeFuncCalls
import Derived.RangeFuncLeaves
import Derived.RangeFuncBox
import Derived.Shelf.Abstract
import Derived.Shelf.AbstractIn
import Derived.Shelf.RegionOpen
import Derived.OwnWalkIn
import Derived.TacticsInMore
import Derived.LoopNIn
import Derived.LoopIn
import Derived.Test.YtanjcbnkkhbkkaaDoorTab
import Derived.Test.YtanjcbnkkhbkkaaDoorEvLaw
import Derived.Test.YtanjcbnkkhbkkaaDoorEvLaid
import Derived.Lib.LaidTab
import Derived.MakeChecks
import Derived.OrdersIn
import Derived.Sort.QuietIn
import Derived.OrdersHeld
import Derived.Deep.RegionHeld
set_option linter.unusedVariables false
/- What lose's calls do. -/
namespace Go.Proofs.YtanjcbnkkhbkkaaDoor.Lo
open Go Go.ChangeShapes Go.WideShapes Go.ChangeAt Go.RowKit

theorem belowT {w w1 w2 : World} (a : Below w.heap.size w w1) (b : Below w1.heap.size w1 w2) : Below w.heap.size w w2 := a.trans (b.mono a.size)

/-- Lines, as they lie in memory. -/
def Rd (w : World) (v : Value) (zs : List Int) : Prop :=
  (∃ a cap, v = .slice a 0 cap ∧ zs = []) ∨
  ∃ b off cap, v = .slice (some ⟨b, off, none⟩) zs.length cap ∧ b < w.heap.size ∧ zs.length ≤ cap ∧ cap ≤ maxLen ∧ ∀ i, i < zs.length → w.cell? ⟨b, off + i, none⟩ = some (.int .i64 (zs.getD i 0))
theorem Rd.below {w w' : World} {v : Value} {zs : List Int} (h : Rd w v zs) (hb : Below w.heap.size w w') : Rd w' v zs := by
  rcases h with h | ⟨b, off, cap, h1, h2, h3, h4, h5⟩
  · exact .inl h
  · exact .inr ⟨b, off, cap, h1, Nat.lt_of_lt_of_le h2 hb.size, h3, h4, fun i hi => (hb.cell (p := ⟨b, off + i, none⟩) h2).trans (h5 i hi)⟩
theorem rd_row {w : World} {g n : Nat} {f : Nat → Int} {zs : List Int} (h : w.rowIs g 3 n (fun j => .int .i64 (f j))) (hn : zs.length = n) (hm : n ≤ maxLen) (hf : ∀ j, j < n → f j = zs.getD j 0) : Rd w (.slice (some ⟨g, 0, none⟩) n n) zs :=
  .inr ⟨g, 0, n, by rw [hn], h.lt, by omega, hm, fun i hi => by rw [Nat.zero_add, h.cell (by omega), hf i (by omega)]⟩

theorem info3 : (Tryd.prog.info? 3).map (fun i => (i.zero, i.size, i.bytes)) = some (some (.int .i64 0), 1, 8) := by kernel_rfl

/-- A list as far as k, and noughts behind. -/
def fillF (F : Nat → Int) (k : Nat) : Nat → Value := fun j => .int .i64 (if j < k then F j else 0)
theorem fill_step {w : World} {g n k : Nat} {F : Nat → Int} {v : Int} (h : w.rowIs g 3 n (fillF F k)) (hv : v = F k) : (w.setCell ⟨g, k, none⟩ (.int .i64 v)).rowIs g 3 n (fillF F (k + 1)) := by
  refine (h.set k (.int .i64 v)).congr fun i _ => ?_
  unfold fillF
  by_cases e : i = k
  · subst e; simp [hv]
  · by_cases c : i < k
    · simp [e, c, show i < k + 1 by omega]
    · simp [e, c, show ¬ i < k + 1 by omega]
theorem fill_end {w : World} {g n : Nat} {F : Nat → Int} (h : w.rowIs g 3 n (fillF F n)) : w.rowIs g 3 n (fun j => .int .i64 (F j)) :=
  h.congr fun i hi => by unfold fillF; rw [if_pos hi]

/-- All of a list are one number. -/
def InLine (zs : List Int) : Prop := ∀ z ∈ zs, -268435455 ≤ z ∧ z ≤ 268435455
/-- Between what was ahead and what comes behind. -/
def btw (x y W T : Int) : Int := (x * (W - T) + y * T) / W
theorem tdiv_floor {s W : Int} (hW : 0 < W) : (if s < Int.tdiv s W * W then Int.tdiv s W - 1 else Int.tdiv s W) = s / W := by
  have h1 := Int.ediv_mul_le s (show W ≠ 0 by omega)
  have h2 := Int.lt_ediv_add_one_mul_self s hW
  rw [Int.add_mul] at h2
  by_cases h : 0 ≤ s ∨ W ∣ s
  · have e : Int.tdiv s W = s / W := by rw [Int.tdiv_eq_ediv, if_pos h]; omega
    rw [e, if_neg (by omega)]
  · have hs : Int.sign W = 1 := Int.sign_eq_one_of_pos hW
    have e : Int.tdiv s W = s / W + 1 := by rw [Int.tdiv_eq_ediv, if_neg h, hs]
    have h3 : s / W * W ≠ s := fun k => h (.inr ⟨s / W, by rw [Int.mul_comm]; exact k.symm⟩)
    rw [e, Int.add_mul, if_pos (by omega)]
    omega

theorem retI {a b : Int} (h : a = b) : Ending.returned (.int .i64 a) = .returned (.int .i64 b) := by rw [h]
end Go.Proofs.YtanjcbnkkhbkkaaDoor.Lo

/- What the calls of layer band do: the offsets. -/
namespace Go.Proofs.YtanjcbnkkhbkkaaDoor.Bd
open Go Go.ChangeShapes Go.WideShapes Go.ChangeAt Go.RowKit Go.Proofs.YtanjcbnkkhbkkaaDoor.Lo

/-! ### Lists of the call's own -/
def Own (base : Nat) (w : World) (v : Value) (zs : List Int) : Prop := w.ownsRow base 3 1 v zs.length (zs.map (Value.int .i64))
theorem one64 (zs : List Int) : ∀ u ∈ zs.map (Value.int .i64), u.oneCell' = true := by
  intro u hu
  simp only [List.mem_map] at hu
  obtain ⟨x, _, rfl⟩ := hu
  rfl
theorem add_at (b o i : Nat) : (⟨b, o, none⟩ : Addr).add i = ⟨b, o + i, none⟩ := by simp [Addr.add]
theorem Own.rd {w : World} {base : Nat} {v : Value} {zs : List Int} (h : Own base w v zs) : Rd w v zs := by
  have hlt := h.lt
  have hcells := @World.ownsRow.cells _ _ _ _ _ _ _ h
  obtain ⟨hx, ⟨rfl, hn⟩ | ⟨g, cap, cur, rfl, hg, hh, hc, hm, hs, ht⟩⟩ := h
  · exact .inl ⟨none, 0, rfl, by cases zs with | nil => rfl | cons _ _ => simp at hn⟩
  · refine .inr ⟨g, 0, cap, rfl, (hlt g rfl).2, hc, hm, fun i hi => ?_⟩
    have := hcells (g := g) rfl i (.int .i64 (zs.getD i 0)) (by simp [hi])
    rwa [add_at] at this
theorem Own.below {base : Nat} {w w' : World} {v : Value} {zs : List Int} (h : Own base w v zs) (hb : Below w.heap.size w w') : Own base w' v zs := by
  have hlt := h.lt
  obtain ⟨hx, h | ⟨g, cap, cur, rfl, hg, hh, hc, hm, hs, ht⟩⟩ := h
  · exact ⟨hx, .inl h⟩
  · exact ⟨hx, .inr ⟨g, cap, cur, rfl, hg, (hb.block g (hlt g rfl).2).trans hh, hc, hm, hs, ht⟩⟩
theorem own_push {base : Nat} {w : World} {v : Value} {a : List Int} {x : Int} (h : w.ownsRow base 3 1 v (a.length + 1) (a.map (Value.int .i64) ++ [Value.int .i64 x])) : Own base w v (a ++ [x]) := by
  unfold Own
  rw [List.length_append, List.map_append]
  exact h
theorem below_grown {W w w' : World} {base : Nat} {v : Value} {zs : List Int} (hb : Below W.heap.size W w) (ho : Own base w v zs) (hle : W.heap.size ≤ base) (hg : w.grownBy w' v.ownBlock) : Below W.heap.size W w' :=
  hb.grown hg hb.size fun k hk => Nat.le_trans hle (ho.lt k hk).1

/-! ### The offsets -/
def nxt (k U N a : Int) : Int := min (a + 4 + 4 * Int.tdiv (a * k) U) N
def offs (k U N : Int) : Nat → Int → List Int
  | 0, _ => []
  | f + 1, a => if a < N then a :: offs k U N f (nxt k U N a) else [N]
def kOf (r : Int) : Int := 3 + Int.tdiv (11 - r) 2
def nOf (s : Bool) : Int := if s then 32 else 256
def uOf (s : Bool) : Int := if s then 64 else 256
/-- The offsets of a rate that may be. -/
def L (r : Int) (s : Bool) : List Int := offs (kOf r) (uOf s) (nOf s) 66 0

theorem nxt_bd {k U N a : Int} (k0 : 3 ≤ k) (k1 : k ≤ 8) (hU : U = 64 ∨ U = 256) (a0 : 0 ≤ a) (a1 : a < N) (hN : N ≤ 256) : 0 ≤ a * k ∧ a * k ≤ 2048 ∧ 0 ≤ Int.tdiv (a * k) U ∧ Int.tdiv (a * k) U ≤ 2048 ∧ (a + 4 ≤ nxt k U N a ∨ nxt k U N a = N) ∧ nxt k U N a ≤ N ∧ 0 ≤ nxt k U N a := by
  have h1 : 0 ≤ a * k := Int.mul_nonneg a0 (by omega)
  have h2 : a * k ≤ 256 * 8 := Int.mul_le_mul (by omega) k1 (by omega) (by omega)
  have h3 : 0 ≤ Int.tdiv (a * k) U := Int.tdiv_nonneg h1 (by omega)
  have h4 : Int.tdiv (a * k) U ≤ a * k := by
    rw [Int.tdiv_eq_ediv_of_nonneg h1]
    exact Int.ediv_le_self _ h1
  unfold nxt
  generalize Int.tdiv (a * k) U = q at *
  generalize a * k = p at *
  omega

theorem info3' : (Tryd.prog.info? 3).map (fun i => (i.zero, i.size, i.bytes)) = some (some (.int .i64 0), 1, 8) := by kernel_rfl
end Go.Proofs.YtanjcbnkkhbkkaaDoor.Bd

/- What band's Offsets does. -/
namespace Go.Proofs.YtanjcbnkkhbkkaaDoor.Bd
open Go Go.ChangeShapes Go.WideShapes Go.ChangeAt Go.RowKit Go.Proofs.YtanjcbnkkhbkkaaDoor.Lo

theorem off_bad (r : Int) (s : Bool) (w : World) (h : r < 0 ∨ 11 < r) :
    Calls Tryd.prog 60 #[.int .i64 r, .bool s] w fun e w' => e = .returned (.tuple #[.slice none 0 0, .int .i64 2]) ∧ w = w' := by
  by_cases h0 : r < 0
  · go_enter Tryd.func60, Tryd.ntmps60
    go_wp2
    go_step3
    go_wp2
    rw [Exit.noGoto_ret]
    go_ret2
    exact ⟨rfl, rfl⟩
  · have h1 : 11 < r := by omega
    clear h
    go_enter Tryd.func60, Tryd.ntmps60
    go_wp2
    go_step3
    go_wp2
    rw [Exit.noGoto_ret]
    go_ret2
    exact ⟨rfl, rfl⟩

theorem offs_go {k U N a : Int} {f : Nat} (h : a < N) : offs k U N (f + 1) a = a :: offs k U N f (nxt k U N a) := by rw [offs, if_pos h]
theorem offs_end {k U N : Int} {f : Nat} : offs k U N (f + 1) N = [N] := by rw [offs, if_neg (by omega)]
def intO : Value → Int | .int _ q => q | _ => 0

theorem own_push2 {base : Nat} {w : World} {v : Value} {a : List Int} {x y : Int} (h : w.ownsRow base 3 1 v (a.length + 1 + 1) (a.map (Value.int .i64) ++ [Value.int .i64 x, Value.int .i64 y])) : Own base w v (a ++ [x, y]) := by
  unfold Own
  rw [List.length_append, List.map_append]
  exact h

set_option maxRecDepth 100000 in
set_option maxHeartbeats 2000000 in
theorem off_false (r q : Int) (w : World) (hq : Int.tdiv (11 - r) 2 = q) (r0 : 0 ≤ r) (r1 : r ≤ 11) (q0 : 0 ≤ q) (q1 : q ≤ 5) :
    Calls Tryd.prog 60 #[.int .i64 r, .bool false] w fun e w' => ∃ v, e = .returned (.tuple #[v, .int .i64 0]) ∧ Own w.heap.size w' v (offs (3 + q) 256 256 66 0) ∧ Below w.heap.size w w' := by
  obtain ⟨i0, hi, hz0, hz1, hz2⟩ := info_parts info3
  go_enter Tryd.func60, Tryd.ntmps60
  go_wp2
  refine wp_scope_jumps 0 (fun a' w' => ∃ (f : Nat) (a : Int) (pre : List Int) (v : Value) (u11 u12 u13 u14 u15 u16 u17 u18 u19 u20 u21 u22 u23 u24 u25 u26 u27 u28 u29 u30 u31 u32 u33 u34 u35 u36 u37 u38 u39 u40 u41 u42 u43 : Value), a' = { tmps := #[.int .i64 r, .bool false, undef, undef, .slice none 0 0, .int .i64 0, .int .i64 (3 + q), .int .i64 256, .int .i64 256, v, .int .i64 a, u11, u12, u13, u14, u15, u16, u17, u18, u19, u20, u21, u22, u23, u24, u25, u26, u27, u28, u29, u30, u31, u32, u33, u34, u35, u36, u37, u38, u39, u40, u41, u42, u43], defers := [] } ∧ Own w.heap.size w' v pre ∧ Hid (pre ++ offs (3 + q) 256 256 f a = offs (3 + q) 256 256 66 0) ∧ 0 ≤ a ∧ a < 256 ∧ 256 - a + 4 ≤ 4 * f ∧ pre.length + f ≤ 66 ∧ Below w.heap.size w w') (fun a' _ => (256 - intO (a'.tmps.getD 10 undef)).toNat) rfl ?_ ?_
  · go_wp2
    go_step3
    go_wp2_with ((at_builtin; refine wpList_append_own _ rfl (.tmp 22) (.tmp 24) 39 rfl w.heap.size 3 i0 (.int .i64 0) 1 8 Tryd.underlying39 hi hz0 hz1 hz2 rfl (by decide) _ _ _ rfl ((World.ownsRow_nil w w.heap.size 3 1).alloc _) ⟨w.heap.size, 0, none⟩ 1 1 [.int .i64 0] rfl rfl ?c1 ?c2 ?c3 ?c4 ?c5 ?_))
    first
    | case c1 =>
        intro j u hj
        match j, hj with
        | 0, hj => simp at hj; subst hj; simp [Addr.add]
    | skip
    case c2 => intro u hu; simp at hu; subst hu; rfl
    case c3 => unfold maxLen; first | omega | (simp; done) | (simp; omega)
    case c4 => first | omega | (simp; done) | (simp; omega)
    case c5 => first | omega | (simp; done) | (simp; omega)
    intro v2 w2 hown2 hgrow2 _
    go_wp2

    have ho2 : Own w.heap.size w2 v2 ([] ++ [0]) := own_push hown2
    have hb2 : Below w.heap.size w w2 := below_grown (zs := []) ((Below.refl _ _).alloc (Nat.le_refl _) _) ((World.ownsRow_nil w _ 3 1).alloc _) (Nat.le_refl _) hgrow2
    go_step3
    refine ⟨rfl, 65, 4, [0], v2, _, _, _, _, _, _, _, _, _, _, _, _, _, _, _, _, _, _, _, _, _, _, _, _, _, _, _, _, _, _, _, _, _, rfl, ho2, ?_, by omega, by omega, by omega, by simp, hb2⟩
    exact Lib.hid (by rw [offs_go (f := 65) (a := 0) (by omega), show nxt (3 + q) 256 256 0 = 4 by unfold nxt; rw [Int.zero_mul]; rfl]; rfl)
  · rintro a' wr ⟨f, a, pre, v, u11, u12, u13, u14, u15, u16, u17, u18, u19, u20, u21, u22, u23, u24, u25, u26, u27, u28, u29, u30, u31, u32, u33, u34, u35, u36, u37, u38, u39, u40, u41, u42, u43, rfl, hown, hL, a0, a1, hf, hp, hbel⟩
    obtain ⟨f, rfl⟩ : ∃ f', f = f' + 1 := ⟨f - 1, by omega⟩
    obtain ⟨p0, p1, t0, t1, n0, n1, n2⟩ := nxt_bd (k := 3 + q) (U := 256) (N := 256) (by omega) (by omega) (by omega) a0 a1 (by omega)
    have hgo := offs_go (k := 3 + q) (U := 256) (N := 256) (f := f) a1
    have hL' := hL.out
    rw [hgo] at hL'
    have hnx : nxt (3 + q) 256 256 a = min (a + 4 + 4 * Int.tdiv (a * (3 + q)) 256) 256 := rfl
    rw [hnx] at n0 n1 n2
    rw [hnx] at hL'
    obtain ⟨p, hpp⟩ : ∃ p, a * (3 + q) = p := ⟨_, rfl⟩
    rw [hpp] at hL' p0 p1 t0 t1 n0 n1 n2
    obtain ⟨t, htt⟩ : ∃ t, Int.tdiv p 256 = t := ⟨_, rfl⟩
    rw [htt] at hL' t0 t1 n0 n1 n2
    clear hL hgo hnx
    have hsz := hbel.size
    have hle : w.heap.size ≤ wr.heap.size := hsz
    by_cases hlt : a + 4 + 4 * t < 256
    · have hmin : min (a + 4 + 4 * t) 256 = a + 4 + 4 * t := by omega
      rw [hmin] at hL'
      have HL := Lib.hid hL'
      clear hL' hmin n0 n1 n2
      go_wp2_with ((at_builtin; refine wpList_append_own _ rfl (.tmp 22) (.tmp 24) 39 rfl w.heap.size 3 i0 (.int .i64 0) 1 8 Tryd.underlying39 hi hz0 hz1 hz2 rfl (by decide) _ _ _ rfl (World.ownsRow.alloc hown _) ⟨wr.heap.size, 0, none⟩ 1 1 [.int .i64 a] rfl rfl ?c1 ?c2 ?c3 ?c4 ?c5 ?_))
      first
      | case c1 =>
          intro j u hj
          match j, hj with
          | 0, hj => simp at hj; subst hj; simp [Addr.add]
      | skip
      case c2 => intro u hu; simp at hu; subst hu; rfl
      case c3 => unfold maxLen; first | omega | (simp; done) | (simp; omega)
      case c4 => first | omega | (simp; done) | (simp; omega)
      case c5 => first | omega | (simp; done) | (simp; omega)
      intro v2 w2 hown2 hgrow2 _
      go_wp2
      have ho2 : Own w.heap.size w2 v2 (pre ++ [a]) := own_push hown2
      have hb2 : Below w.heap.size w w2 := below_grown (hbel.alloc hle _) (hown.alloc _) (Nat.le_refl _) hgrow2
      go_step3
      refine ⟨rfl, ⟨f, _, pre ++ [a], v2, _, _, _, _, _, _, _, _, _, _, _, _, _, _, _, _, _, _, _, _, _, _, _, _, _, _, _, _, _, _, _, _, _, rfl, ho2, ?_, by omega, by omega, by omega, by simp; omega, hb2⟩, ?_⟩
      · exact Lib.hid (by rw [List.append_assoc]; exact HL.out)
      · simp [intO]; omega
    · have hmin : min (a + 4 + 4 * t) 256 = 256 := by omega
      rw [hmin] at hL'
      obtain ⟨f, rfl⟩ : ∃ f', f = f' + 1 := ⟨f - 1, by omega⟩
      rw [offs_end] at hL'
      have HL := Lib.hid hL'
      clear hL' hmin n0 n1 n2
      by_cases heq : a + 4 + 4 * t = 256
      · clear hlt
        go_wp2_with ((at_builtin; refine wpList_append_own _ rfl (.tmp 22) (.tmp 24) 39 rfl w.heap.size 3 i0 (.int .i64 0) 1 8 Tryd.underlying39 hi hz0 hz1 hz2 rfl (by decide) _ _ _ rfl (World.ownsRow.alloc hown _) ⟨wr.heap.size, 0, none⟩ 1 1 [.int .i64 a] rfl rfl ?c1 ?c2 ?c3 ?c4 ?c5 ?_))
        first
        | case c1 =>
            intro j u hj
            match j, hj with
            | 0, hj => simp at hj; subst hj; simp [Addr.add]
        | skip
        case c2 => intro u hu; simp at hu; subst hu; rfl
        case c3 => unfold maxLen; first | omega | (simp; done) | (simp; omega)
        case c4 => first | omega | (simp; done) | (simp; omega)
        case c5 => first | omega | (simp; done) | (simp; omega)
        intro v2 w2 hown2 hgrow2 _
        have ho2 : Own w.heap.size w2 v2 (pre ++ [a]) := own_push hown2
        have hb2 : Below w.heap.size w w2 := below_grown (hbel.alloc hle _) (hown.alloc _) (Nat.le_refl _) hgrow2
        have hle2 := hb2.size
        go_wp2_with ((at_builtin; refine wpList_append_own _ rfl (.tmp 40) (.tmp 42) 39 rfl w.heap.size 3 i0 (.int .i64 0) 1 8 Tryd.underlying39 hi hz0 hz1 hz2 rfl (by decide) _ _ _ rfl (World.ownsRow.alloc ho2 _) ⟨w2.heap.size, 0, none⟩ 1 1 [.int .i64 256] rfl rfl ?c1 ?c2 ?c3 ?c4 ?c5 ?_))
        first
        | case c1 =>
            intro j u hj
            match j, hj with
            | 0, hj => simp at hj; subst hj; simp [Addr.add]
        | skip
        case c2 => intro u hu; simp at hu; subst hu; rfl
        case c3 => unfold maxLen; first | omega | (simp; done) | (simp; omega)
        case c4 => first | omega | (simp; done) | (simp; omega)
        case c5 => first | omega | (simp; done) | (simp; omega)
        intro v3 w3 hown3 hgrow3 _
        have ho3 : Own w.heap.size w3 v3 (pre ++ [a, 256]) := own_push2 hown3
        have hb3 : Below w.heap.size w w3 := below_grown (hb2.alloc hle2 _) (ho2.alloc _) (Nat.le_refl _) hgrow3
        rw [HL.out] at ho3
        go_wp2
        simp only [Exit.jump]
        go_ret2
        exact ⟨_, rfl, ho3, hb3⟩
      · have hgt : 256 < a + 4 + 4 * t := by omega
        clear heq hlt
        go_wp2_with ((at_builtin; refine wpList_append_own _ rfl (.tmp 22) (.tmp 24) 39 rfl w.heap.size 3 i0 (.int .i64 0) 1 8 Tryd.underlying39 hi hz0 hz1 hz2 rfl (by decide) _ _ _ rfl (World.ownsRow.alloc hown _) ⟨wr.heap.size, 0, none⟩ 1 1 [.int .i64 a] rfl rfl ?c1 ?c2 ?c3 ?c4 ?c5 ?_))
        first
        | case c1 =>
            intro j u hj
            match j, hj with
            | 0, hj => simp at hj; subst hj; simp [Addr.add]
        | skip
        case c2 => intro u hu; simp at hu; subst hu; rfl
        case c3 => unfold maxLen; first | omega | (simp; done) | (simp; omega)
        case c4 => first | omega | (simp; done) | (simp; omega)
        case c5 => first | omega | (simp; done) | (simp; omega)
        intro v2 w2 hown2 hgrow2 _
        have ho2 : Own w.heap.size w2 v2 (pre ++ [a]) := own_push hown2
        have hb2 : Below w.heap.size w w2 := below_grown (hbel.alloc hle _) (hown.alloc _) (Nat.le_refl _) hgrow2
        have hle2 := hb2.size
        go_wp2_with ((at_builtin; refine wpList_append_own _ rfl (.tmp 40) (.tmp 42) 39 rfl w.heap.size 3 i0 (.int .i64 0) 1 8 Tryd.underlying39 hi hz0 hz1 hz2 rfl (by decide) _ _ _ rfl (World.ownsRow.alloc ho2 _) ⟨w2.heap.size, 0, none⟩ 1 1 [.int .i64 256] rfl rfl ?c1 ?c2 ?c3 ?c4 ?c5 ?_))
        first
        | case c1 =>
            intro j u hj
            match j, hj with
            | 0, hj => simp at hj; subst hj; simp [Addr.add]
        | skip
        case c2 => intro u hu; simp at hu; subst hu; rfl
        case c3 => unfold maxLen; first | omega | (simp; done) | (simp; omega)
        case c4 => first | omega | (simp; done) | (simp; omega)
        case c5 => first | omega | (simp; done) | (simp; omega)
        intro v3 w3 hown3 hgrow3 _
        have ho3 : Own w.heap.size w3 v3 (pre ++ [a, 256]) := own_push2 hown3
        have hb3 : Below w.heap.size w w3 := below_grown (hb2.alloc hle2 _) (ho2.alloc _) (Nat.le_refl _) hgrow3
        rw [HL.out] at ho3
        go_wp2
        simp only [Exit.jump]
        go_ret2
        exact ⟨_, rfl, ho3, hb3⟩

set_option maxRecDepth 100000 in
set_option maxHeartbeats 2000000 in
theorem off_true (r q : Int) (w : World) (hq : Int.tdiv (11 - r) 2 = q) (r0 : 0 ≤ r) (r1 : r ≤ 11) (q0 : 0 ≤ q) (q1 : q ≤ 5) :
    Calls Tryd.prog 60 #[.int .i64 r, .bool true] w fun e w' => ∃ v, e = .returned (.tuple #[v, .int .i64 0]) ∧ Own w.heap.size w' v (offs (3 + q) 64 32 66 0) ∧ Below w.heap.size w w' := by
  obtain ⟨i0, hi, hz0, hz1, hz2⟩ := info_parts info3
  go_enter Tryd.func60, Tryd.ntmps60
  go_wp2
  refine wp_scope_jumps 0 (fun a' w' => ∃ (f : Nat) (a : Int) (pre : List Int) (v : Value) (u11 u12 u13 u14 u15 u16 u17 u18 u19 u20 u21 u22 u23 u24 u25 u26 u27 u28 u29 u30 u31 u32 u33 u34 u35 u36 u37 u38 u39 u40 u41 u42 u43 : Value), a' = { tmps := #[.int .i64 r, .bool true, undef, undef, .slice none 0 0, .int .i64 0, .int .i64 (3 + q), .int .i64 32, .int .i64 64, v, .int .i64 a, u11, u12, u13, u14, u15, u16, u17, u18, u19, u20, u21, u22, u23, u24, u25, u26, u27, u28, u29, u30, u31, u32, u33, u34, u35, u36, u37, u38, u39, u40, u41, u42, u43], defers := [] } ∧ Own w.heap.size w' v pre ∧ Hid (pre ++ offs (3 + q) 64 32 f a = offs (3 + q) 64 32 66 0) ∧ 0 ≤ a ∧ a < 32 ∧ 32 - a + 4 ≤ 4 * f ∧ pre.length + f ≤ 66 ∧ Below w.heap.size w w') (fun a' _ => (32 - intO (a'.tmps.getD 10 undef)).toNat) rfl ?_ ?_
  · go_wp2
    go_step3
    go_wp2_with ((at_builtin; refine wpList_append_own _ rfl (.tmp 22) (.tmp 24) 39 rfl w.heap.size 3 i0 (.int .i64 0) 1 8 Tryd.underlying39 hi hz0 hz1 hz2 rfl (by decide) _ _ _ rfl ((World.ownsRow_nil w w.heap.size 3 1).alloc _) ⟨w.heap.size, 0, none⟩ 1 1 [.int .i64 0] rfl rfl ?c1 ?c2 ?c3 ?c4 ?c5 ?_))
    first
    | case c1 =>
        intro j u hj
        match j, hj with
        | 0, hj => simp at hj; subst hj; simp [Addr.add]
    | skip
    case c2 => intro u hu; simp at hu; subst hu; rfl
    case c3 => unfold maxLen; first | omega | (simp; done) | (simp; omega)
    case c4 => first | omega | (simp; done) | (simp; omega)
    case c5 => first | omega | (simp; done) | (simp; omega)
    intro v2 w2 hown2 hgrow2 _
    go_wp2

    have ho2 : Own w.heap.size w2 v2 ([] ++ [0]) := own_push hown2
    have hb2 : Below w.heap.size w w2 := below_grown (zs := []) ((Below.refl _ _).alloc (Nat.le_refl _) _) ((World.ownsRow_nil w _ 3 1).alloc _) (Nat.le_refl _) hgrow2
    go_step3
    refine ⟨rfl, 65, 4, [0], v2, _, _, _, _, _, _, _, _, _, _, _, _, _, _, _, _, _, _, _, _, _, _, _, _, _, _, _, _, _, _, _, _, _, rfl, ho2, ?_, by omega, by omega, by omega, by simp, hb2⟩
    exact Lib.hid (by rw [offs_go (f := 65) (a := 0) (by omega), show nxt (3 + q) 64 32 0 = 4 by unfold nxt; rw [Int.zero_mul]; rfl]; rfl)
  · rintro a' wr ⟨f, a, pre, v, u11, u12, u13, u14, u15, u16, u17, u18, u19, u20, u21, u22, u23, u24, u25, u26, u27, u28, u29, u30, u31, u32, u33, u34, u35, u36, u37, u38, u39, u40, u41, u42, u43, rfl, hown, hL, a0, a1, hf, hp, hbel⟩
    obtain ⟨f, rfl⟩ : ∃ f', f = f' + 1 := ⟨f - 1, by omega⟩
    obtain ⟨p0, p1, t0, t1, n0, n1, n2⟩ := nxt_bd (k := 3 + q) (U := 64) (N := 32) (by omega) (by omega) (by omega) a0 a1 (by omega)
    have hgo := offs_go (k := 3 + q) (U := 64) (N := 32) (f := f) a1
    have hL' := hL.out
    rw [hgo] at hL'
    have hnx : nxt (3 + q) 64 32 a = min (a + 4 + 4 * Int.tdiv (a * (3 + q)) 64) 32 := rfl
    rw [hnx] at n0 n1 n2
    rw [hnx] at hL'
    obtain ⟨p, hpp⟩ : ∃ p, a * (3 + q) = p := ⟨_, rfl⟩
    rw [hpp] at hL' p0 p1 t0 t1 n0 n1 n2
    obtain ⟨t, htt⟩ : ∃ t, Int.tdiv p 64 = t := ⟨_, rfl⟩
    rw [htt] at hL' t0 t1 n0 n1 n2
    clear hL hgo hnx
    have hsz := hbel.size
    have hle : w.heap.size ≤ wr.heap.size := hsz
    by_cases hlt : a + 4 + 4 * t < 32
    · have hmin : min (a + 4 + 4 * t) 32 = a + 4 + 4 * t := by omega
      rw [hmin] at hL'
      have HL := Lib.hid hL'
      clear hL' hmin n0 n1 n2
      go_wp2_with ((at_builtin; refine wpList_append_own _ rfl (.tmp 22) (.tmp 24) 39 rfl w.heap.size 3 i0 (.int .i64 0) 1 8 Tryd.underlying39 hi hz0 hz1 hz2 rfl (by decide) _ _ _ rfl (World.ownsRow.alloc hown _) ⟨wr.heap.size, 0, none⟩ 1 1 [.int .i64 a] rfl rfl ?c1 ?c2 ?c3 ?c4 ?c5 ?_))
      first
      | case c1 =>
          intro j u hj
          match j, hj with
          | 0, hj => simp at hj; subst hj; simp [Addr.add]
      | skip
      case c2 => intro u hu; simp at hu; subst hu; rfl
      case c3 => unfold maxLen; first | omega | (simp; done) | (simp; omega)
      case c4 => first | omega | (simp; done) | (simp; omega)
      case c5 => first | omega | (simp; done) | (simp; omega)
      intro v2 w2 hown2 hgrow2 _
      go_wp2
      have ho2 : Own w.heap.size w2 v2 (pre ++ [a]) := own_push hown2
      have hb2 : Below w.heap.size w w2 := below_grown (hbel.alloc hle _) (hown.alloc _) (Nat.le_refl _) hgrow2
      go_step3
      refine ⟨rfl, ⟨f, _, pre ++ [a], v2, _, _, _, _, _, _, _, _, _, _, _, _, _, _, _, _, _, _, _, _, _, _, _, _, _, _, _, _, _, _, _, _, _, rfl, ho2, ?_, by omega, by omega, by omega, by simp; omega, hb2⟩, ?_⟩
      · exact Lib.hid (by rw [List.append_assoc]; exact HL.out)
      · simp [intO]; omega
    · have hmin : min (a + 4 + 4 * t) 32 = 32 := by omega
      rw [hmin] at hL'
      obtain ⟨f, rfl⟩ : ∃ f', f = f' + 1 := ⟨f - 1, by omega⟩
      rw [offs_end] at hL'
      have HL := Lib.hid hL'
      clear hL' hmin n0 n1 n2
      by_cases heq : a + 4 + 4 * t = 32
      · clear hlt
        go_wp2_with ((at_builtin; refine wpList_append_own _ rfl (.tmp 22) (.tmp 24) 39 rfl w.heap.size 3 i0 (.int .i64 0) 1 8 Tryd.underlying39 hi hz0 hz1 hz2 rfl (by decide) _ _ _ rfl (World.ownsRow.alloc hown _) ⟨wr.heap.size, 0, none⟩ 1 1 [.int .i64 a] rfl rfl ?c1 ?c2 ?c3 ?c4 ?c5 ?_))
        first
        | case c1 =>
            intro j u hj
            match j, hj with
            | 0, hj => simp at hj; subst hj; simp [Addr.add]
        | skip
        case c2 => intro u hu; simp at hu; subst hu; rfl
        case c3 => unfold maxLen; first | omega | (simp; done) | (simp; omega)
        case c4 => first | omega | (simp; done) | (simp; omega)
        case c5 => first | omega | (simp; done) | (simp; omega)
        intro v2 w2 hown2 hgrow2 _
        have ho2 : Own w.heap.size w2 v2 (pre ++ [a]) := own_push hown2
        have hb2 : Below w.heap.size w w2 := below_grown (hbel.alloc hle _) (hown.alloc _) (Nat.le_refl _) hgrow2
        have hle2 := hb2.size
        go_wp2_with ((at_builtin; refine wpList_append_own _ rfl (.tmp 40) (.tmp 42) 39 rfl w.heap.size 3 i0 (.int .i64 0) 1 8 Tryd.underlying39 hi hz0 hz1 hz2 rfl (by decide) _ _ _ rfl (World.ownsRow.alloc ho2 _) ⟨w2.heap.size, 0, none⟩ 1 1 [.int .i64 32] rfl rfl ?c1 ?c2 ?c3 ?c4 ?c5 ?_))
        first
        | case c1 =>
            intro j u hj
            match j, hj with
            | 0, hj => simp at hj; subst hj; simp [Addr.add]
        | skip
        case c2 => intro u hu; simp at hu; subst hu; rfl
        case c3 => unfold maxLen; first | omega | (simp; done) | (simp; omega)
        case c4 => first | omega | (simp; done) | (simp; omega)
        case c5 => first | omega | (simp; done) | (simp; omega)
        intro v3 w3 hown3 hgrow3 _
        have ho3 : Own w.heap.size w3 v3 (pre ++ [a, 32]) := own_push2 hown3
        have hb3 : Below w.heap.size w w3 := below_grown (hb2.alloc hle2 _) (ho2.alloc _) (Nat.le_refl _) hgrow3
        rw [HL.out] at ho3
        go_wp2
        simp only [Exit.jump]
        go_ret2
        exact ⟨_, rfl, ho3, hb3⟩
      · have hgt : 32 < a + 4 + 4 * t := by omega
        clear heq hlt
        go_wp2_with ((at_builtin; refine wpList_append_own _ rfl (.tmp 22) (.tmp 24) 39 rfl w.heap.size 3 i0 (.int .i64 0) 1 8 Tryd.underlying39 hi hz0 hz1 hz2 rfl (by decide) _ _ _ rfl (World.ownsRow.alloc hown _) ⟨wr.heap.size, 0, none⟩ 1 1 [.int .i64 a] rfl rfl ?c1 ?c2 ?c3 ?c4 ?c5 ?_))
        first
        | case c1 =>
            intro j u hj
            match j, hj with
            | 0, hj => simp at hj; subst hj; simp [Addr.add]
        | skip
        case c2 => intro u hu; simp at hu; subst hu; rfl
        case c3 => unfold maxLen; first | omega | (simp; done) | (simp; omega)
        case c4 => first | omega | (simp; done) | (simp; omega)
        case c5 => first | omega | (simp; done) | (simp; omega)
        intro v2 w2 hown2 hgrow2 _
        have ho2 : Own w.heap.size w2 v2 (pre ++ [a]) := own_push hown2
        have hb2 : Below w.heap.size w w2 := below_grown (hbel.alloc hle _) (hown.alloc _) (Nat.le_refl _) hgrow2
        have hle2 := hb2.size
        go_wp2_with ((at_builtin; refine wpList_append_own _ rfl (.tmp 40) (.tmp 42) 39 rfl w.heap.size 3 i0 (.int .i64 0) 1 8 Tryd.underlying39 hi hz0 hz1 hz2 rfl (by decide) _ _ _ rfl (World.ownsRow.alloc ho2 _) ⟨w2.heap.size, 0, none⟩ 1 1 [.int .i64 32] rfl rfl ?c1 ?c2 ?c3 ?c4 ?c5 ?_))
        first
        | case c1 =>
            intro j u hj
            match j, hj with
            | 0, hj => simp at hj; subst hj; simp [Addr.add]
        | skip
        case c2 => intro u hu; simp at hu; subst hu; rfl
        case c3 => unfold maxLen; first | omega | (simp; done) | (simp; omega)
        case c4 => first | omega | (simp; done) | (simp; omega)
        case c5 => first | omega | (simp; done) | (simp; omega)
        intro v3 w3 hown3 hgrow3 _
        have ho3 : Own w.heap.size w3 v3 (pre ++ [a, 32]) := own_push2 hown3
        have hb3 : Below w.heap.size w w3 := below_grown (hb2.alloc hle2 _) (ho2.alloc _) (Nat.le_refl _) hgrow3
        rw [HL.out] at ho3
        go_wp2
        simp only [Exit.jump]
        go_ret2
        exact ⟨_, rfl, ho3, hb3⟩

theorem L_eq (r q : Int) (s : Bool) (hq : Int.tdiv (11 - r) 2 = q) : L r s = offs (3 + q) (uOf s) (nOf s) 66 0 := by unfold L kOf; rw [hq]
theorem off_ok (r : Int) (s : Bool) (w : World) (r0 : 0 ≤ r) (r1 : r ≤ 11) :
    Calls Tryd.prog 60 #[.int .i64 r, .bool s] w fun e w' => ∃ v, e = .returned (.tuple #[v, .int .i64 0]) ∧ Own w.heap.size w' v (L r s) ∧ Below w.heap.size w w' := by
  obtain ⟨q, hq⟩ : ∃ q, Int.tdiv (11 - r) 2 = q := ⟨_, rfl⟩
  have qb : 0 ≤ q ∧ q ≤ 5 := by rw [← hq, Int.tdiv_eq_ediv_of_nonneg (by omega)]; omega
  rw [L_eq r q s hq]
  cases s
  · exact off_false r q w hq r0 r1 qb.1 qb.2
  · exact off_true r q w hq r0 r1 qb.1 qb.2
end Go.Proofs.YtanjcbnkkhbkkaaDoor.Bd

/- What band's and the document's own calls do. -/
namespace Go.Proofs.YtanjcbnkkhbkkaaDoor.Bd
open Go Go.ChangeShapes Go.WideShapes Go.ChangeAt Go.RowKit Go.Proofs.YtanjcbnkkhbkkaaDoor.Lo

theorem rd_shape {w : World} {v : Value} {z : List Int} (h : Rd w v z) : ∃ a c, v = .slice a z.length c := by
  rcases h with ⟨a, cap, rfl, rfl⟩ | ⟨b, off, cap, rfl, _⟩
  · exact ⟨_, _, rfl⟩
  · exact ⟨_, _, rfl⟩
theorem drewN_below (w : World) : ∀ n, Below w.heap.size w (w.drewN n)
  | 0 => Below.refl _ _
  | n + 1 => (drewN_below w n).drew

/-- Two lists that are the same. -/
def Row (w : World) (g cap : Nat) (zs : List Int) : Prop := ∃ F, w.rowIs g 3 cap F ∧ zs.length ≤ cap ∧ cap ≤ maxLen ∧ ∀ i, i < zs.length → F i = .int .i64 (zs.getD i 0)
theorem Row.cell {w : World} {g cap : Nat} {zs : List Int} (h : Row w g cap zs) {i : Nat} (hi : i < zs.length) : w.cell? ⟨g, i, none⟩ = some (.int .i64 (zs.getD i 0)) := by
  obtain ⟨F, hr, hl, _, hF⟩ := h
  rw [hr.cell (by omega), hF i hi]
theorem Row.lt {w : World} {g cap : Nat} {zs : List Int} (h : Row w g cap zs) : g < w.heap.size := by obtain ⟨F, hr, _⟩ := h; exact hr.lt
theorem Row.below {w w' : World} {g cap : Nat} {zs : List Int} (h : Row w g cap zs) (hb : Below w.heap.size w w') : Row w' g cap zs := by
  obtain ⟨F, hr, h2⟩ := h
  exact ⟨F, hr.of_block (hb.block _ hr.lt), h2⟩
theorem Row.rd {w : World} {g cap : Nat} {zs : List Int} (h : Row w g cap zs) : Rd w (.slice (some ⟨g, 0, none⟩) zs.length cap) zs := by
  have h' := h
  obtain ⟨F, hr, hl, hm, hF⟩ := h
  exact .inr ⟨g, 0, cap, rfl, hr.lt, hl, hm, fun i hi => by rw [Nat.zero_add]; exact h'.cell hi⟩
theorem Own.row {w : World} {base : Nat} {v : Value} {zs : List Int} (h : Own base w v zs) (hne : zs.length ≠ 0) : ∃ g cap, v = .slice (some ⟨g, 0, none⟩) zs.length cap ∧ base ≤ g ∧ Row w g cap zs := by
  have hcells := @World.ownsRow.cells _ _ _ _ _ _ _ h
  obtain ⟨hx, ⟨rfl, hn⟩ | ⟨g, cap, cur, rfl, hg, hh, hc, hm, hs, ht⟩⟩ := h
  · exact absurd hn hne
  · refine ⟨g, cap, rfl, hg, fun i => (cur[i]?).getD undef, ⟨cur, hh, by omega, fun i hi => ?_⟩, hc, hm, fun i hi => ?_⟩
    · have : i < cur.size := by omega
      simp [this]
    · have h1 := hcells (g := g) rfl i (.int .i64 (zs.getD i 0)) (by simp [hi])
      rw [add_at, Nat.zero_add] at h1
      have : i < cur.size := by omega
      simp [World.cell?, hh, this] at h1
      simp [this, h1]

/-! ### The lists -/
def Fact (l : List Int) (N : Int) : Prop := 2 ≤ l.length ∧ l.length ≤ 42 ∧ l.getD 0 0 = 0 ∧ l.getD (l.length - 1) 0 = N ∧ (∀ i, i < l.length - 1 → l.getD i 0 < l.getD (i + 1) 0) ∧ ∀ i, i < l.length → 0 ≤ l.getD i 0 ∧ l.getD i 0 ≤ N
instance (l : List Int) (N : Int) : Decidable (Fact l N) := by unfold Fact; infer_instance
theorem fact_q : ∀ n : Nat, n < 6 → ∀ s : Bool, Fact (offs (3 + (n : Int)) (uOf s) (nOf s) 66 0) (nOf s) := by decide +kernel
theorem fact (r : Int) (s : Bool) (r0 : 0 ≤ r) (r1 : r ≤ 11) : Fact (L r s) (nOf s) := by
  obtain ⟨q, hq⟩ : ∃ q, Int.tdiv (11 - r) 2 = q := ⟨_, rfl⟩
  have qb : 0 ≤ q ∧ q ≤ 5 := by rw [← hq, Int.tdiv_eq_ediv_of_nonneg (by omega)]; omega
  rw [L_eq r q s hq]
  have := fact_q q.toNat (by omega) s
  rwa [show ((q.toNat : Nat) : Int) = q by omega] at this
theorem off_row (r : Int) (s : Bool) (w : World) (r0 : 0 ≤ r) (r1 : r ≤ 11) :
    Calls Tryd.prog 60 #[.int .i64 r, .bool s] w fun e w' => ∃ g cap, e = .returned (.tuple #[.slice (some ⟨g, 0, none⟩) (L r s).length cap, .int .i64 0]) ∧ w.heap.size ≤ g ∧ Row w' g cap (L r s) ∧ Below w.heap.size w w' := by
  refine (off_ok r s w r0 r1).mono ?_
  rintro e w' ⟨v, rfl, ho, hb⟩
  obtain ⟨g, cap, rfl, hg, hr⟩ := ho.row (by have := (fact r s r0 r1).1; omega)
  exact ⟨g, cap, rfl, hg, hr, hb⟩

/-! ### The document's own -/
end Go.Proofs.YtanjcbnkkhbkkaaDoor.Bd

/- What the document's own Offsets does, and what is told of bands and lines. -/
namespace Go.Proofs.YtanjcbnkkhbkkaaDoor.Bd
open Go Go.ChangeShapes Go.WideShapes Go.ChangeAt Go.RowKit Go.Proofs.YtanjcbnkkhbkkaaDoor.Lo

theorem own_made (w : World) (x : Int) : Own w.heap.size (w.alloc (.cells #[.int .i64 x] 3)) (.slice (some ⟨w.heap.size, 0, none⟩) 1 1) [x] :=
  ⟨rfl, .inr ⟨w.heap.size, 1, #[.int .i64 x], rfl, Nat.le_refl _, Go.Deep.blk_alloc_new _ _, Nat.le_refl _, by unfold maxLen; omega, rfl, rfl⟩⟩

set_option maxRecDepth 100000 in
set_option maxHeartbeats 2000000 in
theorem many_bad (r : Int) (s : Bool) (w : World) (h : r < 0 ∨ 11 < r) :
    Calls Tryd.prog 79 #[.int .i64 r, .bool s] w fun e w' => e = .returned (.tuple #[.int .i64 0, .int .i64 2]) ∧ w = w' := by
  have h := Lib.hid h
  go_enter Tryd.func79, Tryd.ntmps79
  go_wp2_with (go_at_call 60; ((with_reducible refine (off_bad r s _ h.out).mono ?_); rintro e w1 ⟨rfl, rfl⟩))
  go_ret2
  exact ⟨rfl, rfl⟩
theorem many_ok (r : Int) (s : Bool) (w : World) (r0 : 0 ≤ r) (r1 : r ≤ 11) :
    Calls Tryd.prog 79 #[.int .i64 r, .bool s] w fun e w' => e = .returned (.tuple #[.int .i64 ((L r s).length - 1), .int .i64 0]) ∧ Below w.heap.size w w' := by
  obtain ⟨f0, f1, _⟩ := fact r s r0 r1
  go_enter Tryd.func79, Tryd.ntmps79
  go_wp2_with (go_at_call 60; ((with_reducible refine (off_row r s _ r0 r1).mono ?_); rintro e w1 ⟨g, cap, rfl, hg, hr, hb⟩))
  go_ret2
  exact ⟨rfl, hb⟩
/-- The band in which a line is. -/
def In (l : List Int) (x : Int) (b : Nat) : Prop := b + 1 < l.length ∧ l.getD b 0 ≤ x ∧ x < l.getD (b + 1) 0
theorem mono_l {l : List Int} (h : ∀ i, i < l.length - 1 → l.getD i 0 < l.getD (i + 1) 0) : ∀ j, j < l.length → ∀ i, i ≤ j → l.getD i 0 ≤ l.getD j 0
  | 0, _, i, hi => by rw [show i = 0 by omega]; exact Int.le_refl _
  | j + 1, hj, i, hi => by
    by_cases e : i = j + 1
    · rw [e]; exact Int.le_refl _
    · have h1 := mono_l h j (by omega) i (by omega)
      have h2 := h j (by omega)
      omega
theorem In.one {l : List Int} {x : Int} {a b : Nat} (h : ∀ i, i < l.length - 1 → l.getD i 0 < l.getD (i + 1) 0) (ha : In l x a) (hb : In l x b) : a = b := by
  obtain ⟨a1, a2, a3⟩ := ha
  obtain ⟨b1, b2, b3⟩ := hb
  by_cases c : a < b
  · have := mono_l h b (by omega) (a + 1) (by omega); omega
  · by_cases d : b < a
    · have := mono_l h a (by omega) (b + 1) (by omega); omega
    · omega

end Go.Proofs.YtanjcbnkkhbkkaaDoor.Bd

/- What info's calls do. -/
namespace Go.Proofs.YtanjcbnkkhbkkaaDoor.If
open Go Go.ChangeShapes Go.WideShapes Go.ChangeAt Go.RowKit Go.Proofs.YtanjcbnkkhbkkaaDoor.Lo Go.Proofs.YtanjcbnkkhbkkaaDoor.Bd

theorem belowT {a b c : World} (h : Below a.heap.size a b) (k : Below b.heap.size b c) : Below a.heap.size a c := h.trans (k.mono h.size)
theorem retB {a b : Bool} (h : a = b) : Ending.returned (.bool a) = .returned (.bool b) := by rw [h]
/-- A list's cells, at an address. -/
def RdA (w : World) (A : Option Addr) (zs : List Int) : Prop := ∀ i, i < zs.length → ∃ b off, A = some ⟨b, off, none⟩ ∧ b < w.heap.size ∧ w.cell? ⟨b, off + i, none⟩ = some (.int .i64 (zs.getD i 0))
theorem RdA.below {w w' : World} {A : Option Addr} {zs : List Int} (h : RdA w A zs) (hb : Below w.heap.size w w') : RdA w' A zs := fun i hi => by
  obtain ⟨b, off, e, h1, h2⟩ := h i hi
  exact ⟨b, off, e, Nat.lt_of_lt_of_le h1 hb.size, (hb.cell (p := ⟨b, off + i, none⟩) h1).trans h2⟩
/-- A box that holds windows. -/
theorem boxed (w : World) (s h m : Int) (v : Value) (w1 : World) (hb : Below (w.alloc (.cells #[.int .u8 s, .int .u8 h, .int .i64 m, v] 50)).heap.size (w.alloc (.cells #[.int .u8 s, .int .u8 h, .int .i64 m, v] 50)) w1) :
    w1.cell? ⟨w.heap.size, 0, none⟩ = some (.int .u8 s) ∧ w1.cell? ⟨w.heap.size, 1, none⟩ = some (.int .u8 h) ∧ w1.cell? ⟨w.heap.size, 2, none⟩ = some (.int .i64 m) ∧ w1.cell? ⟨w.heap.size, 3, none⟩ = some v := by
  refine ⟨(hb.cell (p := ⟨w.heap.size, 0, none⟩) (by simp)).trans ?_, (hb.cell (p := ⟨w.heap.size, 1, none⟩) (by simp)).trans ?_, (hb.cell (p := ⟨w.heap.size, 2, none⟩) (by simp)).trans ?_, (hb.cell (p := ⟨w.heap.size, 3, none⟩) (by simp)).trans ?_⟩ <;> simp
theorem box_below (w : World) (o : Obj) : Below w.heap.size w (w.alloc o) := (Below.refl _ _).alloc (Nat.le_refl _) _

def win (s : Int) : Int := if s = 2 then 8 else 1
theorem win_bd (s : Int) : 1 ≤ win s ∧ win s ≤ 8 := by unfold win; split <;> omega
theorem windows_ok (s : Int) (w : World) : Calls Tryd.prog 59 #[.int .u8 s] w fun e w' => e = .returned (.int .i64 (win s)) ∧ w = w' := by
  by_cases c : s = 2
  · rw [show win s = 8 by unfold win; rw [if_pos c]]
    go_enter Tryd.func59, Tryd.ntmps59
    go_wp2
    go_ret
    exact ⟨rfl, rfl⟩
  · rw [show win s = 1 by unfold win; rw [if_neg c]]
    have c2 : (s == 2) = false := by simpa using c
    go_enter Tryd.func59, Tryd.ntmps59
    go_wp2
    go_ret
    exact ⟨rfl, rfl⟩
/-- Do groups take so many windows? -/
def grp : List Int → Int → Bool
  | [], l => l == 0
  | n :: zs, l => if n < 1 ∨ l < n then false else grp zs (l - n)
theorem grp_at {zs : List Int} {k : Nat} {l : Int} (h : k < zs.length) : grp (zs.drop k) l = if zs.getD k 0 < 1 ∨ l < zs.getD k 0 then false else grp (zs.drop (k + 1)) (l - zs.getD k 0) := by
  rw [List.drop_eq_getElem_cons h, grp]
  simp [h]
theorem grp_end {zs : List Int} {l : Int} : grp (zs.drop zs.length) l = (l == 0) := by simp [grp]
set_option maxRecDepth 100000 in
set_option maxHeartbeats 2000000 in
theorem grouped_ok (s h m : Int) (a : Option Addr) (cap : Nat) (zs : List Int) (w : World) (hl : zs.length ≤ 100000) (hr : RdA w a zs) :
    Calls Tryd.prog 80 #[.agg #[.int .u8 s, .int .u8 h, .int .i64 m, .slice a zs.length cap]] w fun e w' => e = .returned (.bool (grp zs (win s))) ∧ Below w.heap.size w w' := by
  have HW := Lib.hid (windows_ok s)
  have hb := win_bd s
  have HR := Lib.hid (hr.below (box_below w (.cells #[.int .u8 s, .int .u8 h, .int .i64 m, .slice a zs.length cap] 50)))
  have HB := Lib.hid (box_below w (.cells #[.int .u8 s, .int .u8 h, .int .i64 m, .slice a zs.length cap] 50))
  obtain ⟨R, hR⟩ : ∃ R, grp zs (win s) = R := ⟨_, rfl⟩
  have HG : Hid (grp (zs.drop 0) (win s) = R) := Lib.hid hR
  rw [hR]
  clear hr hR
  generalize win s = W at *
  obtain ⟨hb0, hb1⟩ := hb
  go_enter Tryd.func80, Tryd.ntmps80
  go_wp2_with (go_at_call 59; ((with_reducible refine (HW.out _).mono ?_); rintro e w' ⟨rfl, rfl⟩))
  go_loop [3, 12] (fun l i => ∃ (k : Nat) (l0 : Int), k ≤ zs.length ∧ 0 ≤ l0 ∧ l0 ≤ 8 ∧ Hid (grp (zs.drop k) l0 = R) ∧ i = .int .i64 k ∧ l = .int .i64 l0) (fun _ i => zs.length - (intOf i).toNat)
  case atStart => exact ⟨0, W, by omega, by omega, by omega, HG, rfl, rfl⟩
  case round =>
    obtain ⟨k, l0, hk, q0, q1, hg, rfl, rfl⟩ := hrel
    by_cases hlt : k < zs.length
    · obtain ⟨b, off, rfl, hlb, c⟩ := HR.out k hlt
      have hga := hg.out
      rw [grp_at hlt] at hga
      clear hg HG
      generalize zs.getD k 0 = n at *
      by_cases c1 : n < 1
      · rw [if_pos (.inl c1)] at hga
        subst hga
        go_wp2
        go_ret
        exact ⟨rfl, HB.out⟩
      by_cases c2 : l0 < n
      · rw [if_pos (.inr c2)] at hga
        subst hga
        go_wp2
        go_ret
        exact ⟨rfl, HB.out⟩
      rw [if_neg (by omega)] at hga
      have HGA := Lib.hid hga
      clear hga
      go_wp2
      go_round
      case rel => exact ⟨k + 1, l0 - n, by omega, by omega, by omega, HGA, by go_num, rfl⟩
      case measure => simp [intOf]; omega
    · have hend : k = zs.length := by omega
      have hga := hg.out
      rw [hend, grp_end] at hga
      clear hg HG
      subst hga
      have hlt2 : ¬ (k : Int) < zs.length := by omega
      go_wp2
      go_ret
      exact ⟨rfl, HB.out⟩
/-- How many bands. -/
def mny (r : Int) (b : Bool) : Int := ((L r b).length : Int) - 1
/-- The error of windows at a rate. -/
def chk (r s h m : Int) (zs : List Int) : Int := if r < 0 ∨ 11 < r then 2 else if 3 < s ∨ 1 < h ∨ m < 0 ∨ mny r (s == 2) < m ∨ grp zs (win s) = false then 8 else 0
theorem chk_arg {r s h m : Int} {zs : List Int} (c : r < 0 ∨ 11 < r) : chk r s h m zs = 2 := by unfold chk; rw [if_pos c]
theorem chk_bad {r s h m : Int} {zs : List Int} (c : ¬ (r < 0 ∨ 11 < r)) (d : 3 < s ∨ 1 < h ∨ m < 0 ∨ mny r (s == 2) < m ∨ grp zs (win s) = false) : chk r s h m zs = 8 := by unfold chk; rw [if_neg c, if_pos d]
theorem chk_ok {r s h m : Int} {zs : List Int} (c : ¬ (r < 0 ∨ 11 < r)) (d : ¬ (3 < s ∨ 1 < h ∨ m < 0 ∨ mny r (s == 2) < m ∨ grp zs (win s) = false)) : chk r s h m zs = 0 := by unfold chk; rw [if_neg c, if_neg d]
theorem mny_bd {r : Int} {b : Bool} (r0 : 0 ≤ r) (r1 : r ≤ 11) : 1 ≤ mny r b ∧ mny r b ≤ 41 := by
  have := fact r b r0 r1
  unfold mny
  have a := this.1
  have c := this.2.1
  omega
theorem many_k (r : Int) (b : Bool) (w : World) (r0 : 0 ≤ r) (r1 : r ≤ 11) : Calls Tryd.prog 79 #[.int .i64 r, .bool b] w fun e w' => e = .returned (.tuple #[.int .i64 (mny r b), .int .i64 0]) ∧ Below w.heap.size w w' := many_ok r b w r0 r1
set_option maxRecDepth 100000 in
set_option maxHeartbeats 2000000 in
theorem check_ok (r s h m : Int) (a : Option Addr) (cap : Nat) (zs : List Int) (w : World) (hl : zs.length ≤ 100000) (hr : RdA w a zs) :
    Calls Tryd.prog 58 #[.int .i64 r, .agg #[.int .u8 s, .int .u8 h, .int .i64 m, .slice a zs.length cap]] w fun e w' => e = .returned (.int .i64 (chk r s h m zs)) ∧ Below w.heap.size w w' := by
  have HB := Lib.hid (box_below w (.cells #[.int .u8 s, .int .u8 h, .int .i64 m, .slice a zs.length cap] 50))
  by_cases c0 : r < 0
  · rw [chk_arg (.inl c0)]
    go_enter Tryd.func58, Tryd.ntmps58
    go_wp2
    go_ret
    exact ⟨rfl, HB.out⟩
  by_cases c1 : 11 < r
  · rw [chk_arg (.inr c1)]
    go_enter Tryd.func58, Tryd.ntmps58
    go_wp2
    go_ret
    exact ⟨rfl, HB.out⟩
  have hr01 : ¬ (r < 0 ∨ 11 < r) := by omega
  by_cases c2 : 3 < s
  · rw [chk_bad hr01 (.inl c2)]
    go_enter Tryd.func58, Tryd.ntmps58
    go_wp2
    go_ret
    exact ⟨rfl, HB.out⟩
  by_cases c3 : 1 < h
  · rw [chk_bad hr01 (.inr (.inl c3))]
    go_enter Tryd.func58, Tryd.ntmps58
    go_wp2
    go_ret
    exact ⟨rfl, HB.out⟩
  have HM := Lib.hid (fun w => many_k r (s == 2) w (by omega) (by omega))
  have hM := mny_bd (r := r) (b := s == 2) (by omega) (by omega)
  have HG := Lib.hid (fun w1 (k : Below w.heap.size w w1) => grouped_ok s h m a cap zs w1 hl (hr.below k))
  have hF := fun c => @chk_bad r s h m zs hr01 c
  have hT := fun c => @chk_ok r s h m zs hr01 c
  generalize hch : chk r s h m zs = C at *
  clear hch hr
  generalize mny r (s == 2) = M at *
  generalize grp zs (win s) = G at *
  obtain ⟨hM0, hM1⟩ := hM
  by_cases c4 : m < 0
  · obtain rfl := hF (.inr (.inr (.inl c4)))
    clear hF hT hr01
    go_enter Tryd.func58, Tryd.ntmps58
    go_wp2_with (first | (go_at_call 79; ((with_reducible refine (HM.out _).mono ?_); rintro e w1 ⟨rfl, hb⟩; have hb1 := belowT HB.out hb; obtain ⟨z0, z1, z2, z3⟩ := boxed w s h m (.slice a zs.length cap) w1 hb; clear hb)) | (go_at_call 80; ((with_reducible refine (HG.out _ hb1).mono ?_); rintro e w2 ⟨rfl, hb2⟩)))
    go_ret
    exact ⟨rfl, hb1⟩
  by_cases c5 : M < m
  · obtain rfl := hF (.inr (.inr (.inr (.inl c5))))
    clear hF hT hr01
    go_enter Tryd.func58, Tryd.ntmps58
    go_wp2_with (first | (go_at_call 79; ((with_reducible refine (HM.out _).mono ?_); rintro e w1 ⟨rfl, hb⟩; have hb1 := belowT HB.out hb; obtain ⟨z0, z1, z2, z3⟩ := boxed w s h m (.slice a zs.length cap) w1 hb; clear hb)) | (go_at_call 80; ((with_reducible refine (HG.out _ hb1).mono ?_); rintro e w2 ⟨rfl, hb2⟩)))
    go_ret
    exact ⟨rfl, hb1⟩
  cases G
  · obtain rfl := hF (.inr (.inr (.inr (.inr rfl))))
    clear hF hT hr01
    go_enter Tryd.func58, Tryd.ntmps58
    go_wp2_with (first | (go_at_call 79; ((with_reducible refine (HM.out _).mono ?_); rintro e w1 ⟨rfl, hb⟩; have hb1 := belowT HB.out hb; obtain ⟨z0, z1, z2, z3⟩ := boxed w s h m (.slice a zs.length cap) w1 hb; clear hb)) | (go_at_call 80; ((with_reducible refine (HG.out _ hb1).mono ?_); rintro e w2 ⟨rfl, hb2⟩)))
    go_ret
    exact ⟨rfl, belowT hb1 hb2⟩
  · obtain rfl := hT (by rintro (h | h | h | h | h) <;> first | omega | cases h)
    clear hF hT hr01
    go_enter Tryd.func58, Tryd.ntmps58
    go_wp2_with (first | (go_at_call 79; ((with_reducible refine (HM.out _).mono ?_); rintro e w1 ⟨rfl, hb⟩; have hb1 := belowT HB.out hb; obtain ⟨z0, z1, z2, z3⟩ := boxed w s h m (.slice a zs.length cap) w1 hb; clear hb)) | (go_at_call 80; ((with_reducible refine (HG.out _ hb1).mono ?_); rintro e w2 ⟨rfl, hb2⟩)))
    go_ret
    exact ⟨rfl, belowT hb1 hb2⟩

theorem windows_k (s h m : Int) (a : Option Addr) (cap : Nat) (zs : List Int) (w : World) (hl : zs.length ≤ 100000) (hr : RdA w a zs) :
    Calls Tryd.prog 37 #[.agg #[.int .u8 s, .int .u8 h, .int .i64 m, .slice a zs.length cap]] w fun e w' => e = .returned (.tuple #[.int .i64 (if chk 11 s h m zs = 0 then win s else 0), .int .i64 (chk 11 s h m zs)]) ∧ Below w.heap.size w w' := by
  have HB := Lib.hid (box_below w (.cells #[.int .u8 s, .int .u8 h, .int .i64 m, .slice a zs.length cap] 50))
  have HC := Lib.hid (fun w1 (k : Below w.heap.size w w1) => check_ok 11 s h m a cap zs w1 hl (hr.below k))
  have HW := Lib.hid (windows_ok s)
  clear hr
  generalize chk 11 s h m zs = C at *
  generalize win s = W at *
  by_cases c : C = 0
  · subst c
    rw [if_pos rfl]
    go_enter Tryd.func37, Tryd.ntmps37
    go_wp2_with (first | (go_at_call 58; ((with_reducible refine (HC.out _ HB.out).mono ?_); rintro e w1 ⟨rfl, hb⟩; have hb1 := belowT HB.out hb; obtain ⟨z0, z1, z2, z3⟩ := boxed w s h m (.slice a zs.length cap) w1 hb; clear hb)) | (go_at_call 59; ((with_reducible refine (HW.out _).mono ?_); rintro e w' ⟨rfl, rfl⟩)))
    go_ret2
    exact ⟨rfl, hb1⟩
  · rw [if_neg c]
    go_enter Tryd.func37, Tryd.ntmps37
    go_wp2_with (first | (go_at_call 58; ((with_reducible refine (HC.out _ HB.out).mono ?_); rintro e w1 ⟨rfl, hb⟩; have hb1 := belowT HB.out hb; obtain ⟨z0, z1, z2, z3⟩ := boxed w s h m (.slice a zs.length cap) w1 hb; clear hb)) | (go_at_call 59; ((with_reducible refine (HW.out _).mono ?_); rintro e w' ⟨rfl, rfl⟩)))
    go_ret2
    exact ⟨rfl, hb1⟩
/-- Which group a window is in. -/
def gof : List Int → Int → Nat
  | [], _ => 0
  | n :: zs, x => if n ≤ x then gof zs (x - n) + 1 else 0
theorem gof_at {zs : List Int} {k : Nat} {x : Int} (h : k < zs.length) : gof (zs.drop k) x = if zs.getD k 0 ≤ x then gof (zs.drop (k + 1)) (x - zs.getD k 0) + 1 else 0 := by
  rw [List.drop_eq_getElem_cons h, gof]
  simp [h]
theorem grp_cont {zs : List Int} {l x : Int} (h : grp zs l = true) (x0 : 0 ≤ x) (hx : x < l) : 0 < zs.length := by
  cases zs with
  | nil => simp [grp] at h; omega
  | cons n zs => simp
/-- The answer of Group. -/
def gE (s h m : Int) (zs : List Int) (x : Int) : Int := if chk 11 s h m zs ≠ 0 then chk 11 s h m zs else if x < 0 ∨ win s ≤ x then 2 else 0
def gV (s h m : Int) (zs : List Int) (x : Int) : Int := if gE s h m zs x = 0 then gof zs x else 0
set_option maxRecDepth 100000 in
set_option maxHeartbeats 2000000 in
theorem group_ok (s h m : Int) (a : Option Addr) (cap : Nat) (zs : List Int) (x : Int) (w : World) (hl : zs.length ≤ 100000) (hr : RdA w a zs) (hc : chk 11 s h m zs = 0) (x0 : 0 ≤ x) (hx : x < win s) :
    Calls Tryd.prog 39 #[.agg #[.int .u8 s, .int .u8 h, .int .i64 m, .slice a zs.length cap], .int .i64 x] w fun e w' => e = .returned (.tuple #[.int .i64 (gof zs x), .int .i64 0]) ∧ Below w.heap.size w w' := by
  have HB := Lib.hid (box_below w (.cells #[.int .u8 s, .int .u8 h, .int .i64 m, .slice a zs.length cap] 50))
  have HC := Lib.hid (fun w1 (k : Below w.heap.size w w1) => windows_k s h m a cap zs w1 hl (hr.below k))
  rw [hc, if_pos rfl] at HC
  have HR := Lib.hid hr
  have hg : grp zs (win s) = true := by
    unfold chk at hc
    rw [if_neg (by omega)] at hc
    cases hgg : grp zs (win s)
    · rw [if_pos (.inr (.inr (.inr (.inr hgg))))] at hc; omega
    · rfl
  have hb := win_bd s
  clear hr hc
  generalize win s = W at *
  obtain ⟨hb0, hb1'⟩ := hb
  have hn : ¬ W ≤ x := by omega
  obtain ⟨R, hR⟩ : ∃ R, gof zs x = R := ⟨_, rfl⟩
  have HG : Hid (gof (zs.drop 0) x + 0 = R) := Lib.hid hR
  have HP : Hid (grp (zs.drop 0) W = true) := Lib.hid hg
  rw [hR]
  clear hR hg
  go_enter Tryd.func39, Tryd.ntmps39
  go_wp2_with (go_at_call 37; ((with_reducible refine (HC.out _ HB.out).mono ?_); rintro e w1 ⟨rfl, hb⟩; obtain ⟨z0, z1, z2, z3⟩ := boxed w s h m (.slice a zs.length cap) w1 hb; have hb1 := belowT HB.out hb; clear hb))
  go_loop [1, 8] (fun xv g => ∃ (k : Nat) (y l : Int), k ≤ zs.length ∧ 0 ≤ y ∧ y < l ∧ l ≤ 8 ∧ Hid (gof (zs.drop k) y + k = R) ∧ Hid (grp (zs.drop k) l = true) ∧ xv = .int .i64 y ∧ g = .int .i64 k) (fun _ g => zs.length - (intOf g).toNat)
  case atStart => exact ⟨0, x, W, by omega, x0, hx, hb1', HG, HP, rfl, rfl⟩
  case round =>
    obtain ⟨k, y, l, hk, y0, y1, l1, hG, hP, rfl, rfl⟩ := hrel
    have hlen := grp_cont hP.out y0 y1
    have hlt : k < zs.length := by simp at hlen; omega
    obtain ⟨b, off, rfl, hlb, c⟩ := (HR.out.below hb1) k hlt
    have h1 := hG.out
    have h2 := hP.out
    rw [gof_at hlt] at h1
    rw [grp_at hlt] at h2
    clear hG hP HG HP
    generalize zs.getD k 0 = n at *
    by_cases c1 : n ≤ y
    · rw [if_pos c1] at h1
      have hn1 : ¬ (n < 1 ∨ l < n) := fun hh => by rw [if_pos hh] at h2; cases h2
      rw [if_neg hn1] at h2
      have H1 := Lib.hid (show gof (zs.drop (k + 1)) (y - n) + (k + 1) = R by omega)
      have H2 := Lib.hid h2
      clear h1 h2
      have n0 : 1 ≤ n := by omega
      go_wp2
      go_round
      case rel => exact ⟨k + 1, y - n, l - n, by omega, by omega, by omega, by omega, H1, H2, rfl, by go_num⟩
      case measure => simp [intOf]; omega
    · rw [if_neg c1] at h1
      have hkR : k = R := by omega
      subst hkR
      clear h1 h2
      go_wp2
      go_ret2
      exact ⟨rfl, hb1⟩
theorem group_bad (s h m : Int) (a : Option Addr) (cap : Nat) (zs : List Int) (x : Int) (w : World) (hl : zs.length ≤ 100000) (hr : RdA w a zs) (hc : chk 11 s h m zs ≠ 0) :
    Calls Tryd.prog 39 #[.agg #[.int .u8 s, .int .u8 h, .int .i64 m, .slice a zs.length cap], .int .i64 x] w fun e w' => e = .returned (.tuple #[.int .i64 0, .int .i64 (chk 11 s h m zs)]) ∧ Below w.heap.size w w' := by
  have HB := Lib.hid (box_below w (.cells #[.int .u8 s, .int .u8 h, .int .i64 m, .slice a zs.length cap] 50))
  have HC := Lib.hid (fun w1 (k : Below w.heap.size w w1) => windows_k s h m a cap zs w1 hl (hr.below k))
  rw [if_neg hc] at HC
  clear hr
  generalize chk 11 s h m zs = C at *
  go_enter Tryd.func39, Tryd.ntmps39
  go_wp2_with (go_at_call 37; ((with_reducible refine (HC.out _ HB.out).mono ?_); rintro e w1 ⟨rfl, hb⟩; obtain ⟨z0, z1, z2, z3⟩ := boxed w s h m (.slice a zs.length cap) w1 hb; have hb1 := belowT HB.out hb; clear hb))
  go_ret2
  exact ⟨rfl, hb1⟩
theorem group_out (s h m : Int) (a : Option Addr) (cap : Nat) (zs : List Int) (x : Int) (w : World) (hl : zs.length ≤ 100000) (hr : RdA w a zs) (hc : chk 11 s h m zs = 0) (hx : x < 0 ∨ win s ≤ x) :
    Calls Tryd.prog 39 #[.agg #[.int .u8 s, .int .u8 h, .int .i64 m, .slice a zs.length cap], .int .i64 x] w fun e w' => e = .returned (.tuple #[.int .i64 0, .int .i64 2]) ∧ Below w.heap.size w w' := by
  have HB := Lib.hid (box_below w (.cells #[.int .u8 s, .int .u8 h, .int .i64 m, .slice a zs.length cap] 50))
  have HC := Lib.hid (fun w1 (k : Below w.heap.size w w1) => windows_k s h m a cap zs w1 hl (hr.below k))
  rw [hc, if_pos rfl] at HC
  clear hr hc
  generalize win s = W at *
  by_cases c : x < 0
  · clear hx
    go_enter Tryd.func39, Tryd.ntmps39
    go_wp2_with (go_at_call 37; ((with_reducible refine (HC.out _ HB.out).mono ?_); rintro e w1 ⟨rfl, hb⟩; obtain ⟨z0, z1, z2, z3⟩ := boxed w s h m (.slice a zs.length cap) w1 hb; have hb1 := belowT HB.out hb; clear hb))
    go_ret2
    exact ⟨rfl, hb1⟩
  · have c2 : W ≤ x := by omega
    clear hx
    go_enter Tryd.func39, Tryd.ntmps39
    go_wp2_with (go_at_call 37; ((with_reducible refine (HC.out _ HB.out).mono ?_); rintro e w1 ⟨rfl, hb⟩; obtain ⟨z0, z1, z2, z3⟩ := boxed w s h m (.slice a zs.length cap) w1 hb; have hb1 := belowT HB.out hb; clear hb))
    go_ret2
    exact ⟨rfl, hb1⟩
end Go.Proofs.YtanjcbnkkhbkkaaDoor.If

/- What quant's small calls do. -/
namespace Go.Proofs.YtanjcbnkkhbkkaaDoor.Qn
open Go Go.ChangeShapes Go.WideShapes Go.ChangeAt Go.RowKit Go.Proofs.YtanjcbnkkhbkkaaDoor.If

/-- A list of lists, of which each is to be read. -/
def RdR (w : World) (O : Option Addr) (rows : List (List Int)) : Prop := ∀ i, i < rows.length → ∃ b off a c, O = some ⟨b, off, none⟩ ∧ b < w.heap.size ∧ w.cell? ⟨b, off + i, none⟩ = some (.slice a (rows.getD i []).length c) ∧ RdA w a (rows.getD i [])
theorem RdR.below {w w' : World} {O : Option Addr} {rows : List (List Int)} (h : RdR w O rows) (hb : Below w.heap.size w w') : RdR w' O rows := fun i hi => by
  obtain ⟨b, off, a, c, e, h1, h2, h3⟩ := h i hi
  exact ⟨b, off, a, c, e, Nat.lt_of_lt_of_le h1 hb.size, (hb.cell (p := ⟨b, off + i, none⟩) h1).trans h2, h3.below hb⟩

/-- Is a book's line sent? -/
def snt (b : Int) : Bool := decide (1 ≤ b) && decide (b ≤ 11)
theorem sent_ok (b : Int) (w : World) : Calls Tryd.prog 75 #[.int .i64 b] w fun e w' => e = .returned (.bool (snt b)) ∧ w = w' := by
  by_cases h1 : 1 ≤ b
  · by_cases h2 : b ≤ 11
    · rw [show snt b = true by unfold snt; simp [h1, h2]]
      go_enter Tryd.func75, Tryd.ntmps75
      go_wp2
      go_ret
      exact ⟨rfl, rfl⟩
    · rw [show snt b = false by unfold snt; simp [h2]]
      go_enter Tryd.func75, Tryd.ntmps75
      go_wp2
      go_ret
      exact ⟨rfl, rfl⟩
  · rw [show snt b = false by unfold snt; simp [h1]]
    go_enter Tryd.func75, Tryd.ntmps75
    go_wp2
    go_ret
    exact ⟨rfl, rfl⟩

/-- Is there a list for each group, with a number for each band? -/
def shw (m : Int) (rows : List (List Int)) : Bool := rows.all fun r => decide ((r.length : Int) = m)
def shp (gl : Nat) (m : Int) (rows : List (List Int)) : Bool := decide (rows.length = gl) && shw m rows
theorem shw_at {m : Int} {rows : List (List Int)} {k : Nat} (h : k < rows.length) : shw m (rows.drop k) = (decide (((rows.getD k []).length : Int) = m) && shw m (rows.drop (k + 1))) := by
  unfold shw
  rw [List.drop_eq_getElem_cons h, List.all_cons]
  simp [h]
theorem shw_end {m : Int} {rows : List (List Int)} : shw m (rows.drop rows.length) = true := by simp [shw]
theorem retb {a b : Bool} {w w' : World} (h : a = b) (hb : Below w.heap.size w w') : Ending.returned (.bool a) = .returned (.bool b) ∧ Below w.heap.size w w' := ⟨by rw [h], hb⟩
set_option maxRecDepth 100000 in
set_option maxHeartbeats 2000000 in
theorem shaped_ok (s h m : Int) (ga : Option Addr) (gc : Nat) (gz : List Int) (O : Option Addr) (oc : Nat) (rows : List (List Int)) (w : World) (hl : rows.length ≤ 1000) (hgl : gz.length ≤ 100000) (hrl : ∀ i, i < rows.length → (rows.getD i []).length ≤ maxLen) (hr : RdR w O rows) :
    Calls Tryd.prog 83 #[.agg #[.int .u8 s, .int .u8 h, .int .i64 m, .slice ga gz.length gc], .slice O rows.length oc] w fun e w' => e = .returned (.bool (shp gz.length m rows)) ∧ Below w.heap.size w w' := by
  have HB := Lib.hid (box_below w (.cells #[.int .u8 s, .int .u8 h, .int .i64 m, .slice ga gz.length gc] 50))
  obtain ⟨y0, y1, y2, y3⟩ := boxed w s h m (.slice ga gz.length gc) _ (Below.refl _ _)
  have HR := Lib.hid (hr.below HB.out)
  by_cases hgz : rows.length = gz.length
  · obtain ⟨R, hR⟩ : ∃ R, shw m rows = R := ⟨_, rfl⟩
    have HS : Hid (shw m (rows.drop 0) = R) := Lib.hid hR
    rw [show shp gz.length m rows = R by unfold shp; rw [hR]; simp [hgz]]
    have hne : ((rows.length : Int) != (gz.length : Int)) = false := by simp; omega
    have HL := Lib.hid hrl
    clear hr hR hrl
    go_enter Tryd.func83, Tryd.ntmps83
    go_wp2
    go_loop [15] (fun i => ∃ k : Nat, k ≤ rows.length ∧ i = .int .i64 k ∧ Hid (shw m (rows.drop k) = R)) (fun i => rows.length - (intOf i).toNat)
    case atStart => exact ⟨0, by omega, rfl, HS⟩
    case round =>
      obtain ⟨k, hk, rfl, hI⟩ := hrel
      clear HS
      by_cases hlt : k < rows.length
      · obtain ⟨b, off, a, c, rfl, lb, c0, _⟩ := HR.out k hlt
        have e := hI.out
        rw [shw_at hlt] at e
        have hmx := HL.out k hlt
        by_cases hm : ((rows.getD k []).length : Int) = m
        · have h2 : Hid (shw m (rows.drop (k + 1)) = R) := Lib.hid (by rw [← e, decide_eq_true hm, Bool.true_and])
          have hm2 : (((rows.getD k []).length : Int) != m) = false := by simpa using hm
          clear e hI
          generalize (rows.getD k []).length = Lk at *
          clear hm
          go_wp2
          go_round
          case rel => exact ⟨k + 1, by omega, by go_num, h2⟩
          case measure => simp [intOf]; omega
        · have h2 : R = false := by rw [← e, decide_eq_false hm, Bool.false_and]
          have hm2 : (((rows.getD k []).length : Int) != m) = true := by simpa using hm
          subst h2
          clear e hI
          generalize (rows.getD k []).length = Lk at *
          clear hm
          go_wp2
          go_ret
          exact ⟨rfl, HB.out⟩
      · obtain rfl : k = rows.length := by omega
        have h2 := hI.out
        rw [shw_end] at h2
        subst h2
        clear hI
        go_wp2
        go_ret
        exact ⟨rfl, HB.out⟩
  · rw [show shp gz.length m rows = false by unfold shp; simp [hgz]]
    have hne : ((rows.length : Int) != (gz.length : Int)) = true := by simp; omega
    clear hr hgz
    go_enter Tryd.func83, Tryd.ntmps83
    go_wp2
    go_ret
    exact ⟨rfl, HB.out⟩

/-! ### check -/
def badP (b st : Int) : Prop := b < 0 ∨ 13 < b ∨ (snt b = true ∧ (st < 0 ∨ 255 < st))
def BadB (B S : List (List Int)) (g0 b0 : Nat) : Prop := ∃ g b, g < B.length ∧ b < (B.getD g []).length ∧ (g0 < g ∨ (g0 = g ∧ b0 ≤ b)) ∧ badP ((B.getD g []).getD b 0) ((S.getD g []).getD b 0)
/-- The error of windows, books and steps. -/
def QE (r s h m : Int) (gz : List Int) (B S : List (List Int)) (c : Int) : Prop :=
  (chk r s h m gz ≠ 0 ∧ c = chk r s h m gz) ∨ (chk r s h m gz = 0 ∧ (shp gz.length m B && shp gz.length m S) = false ∧ c = 4) ∨
  (chk r s h m gz = 0 ∧ shp gz.length m B = true ∧ shp gz.length m S = true ∧ ((BadB B S 0 0 ∧ c = 2) ∨ (¬ BadB B S 0 0 ∧ c = 0)))
theorem shw_len {m : Int} {rows : List (List Int)} (h : shw m rows = true) {i : Nat} (hi : i < rows.length) : ((rows.getD i []).length : Int) = m := by
  unfold shw at h
  rw [List.all_eq_true] at h
  have := h (rows.getD i []) (by rw [List.getD_eq_getElem?_getD, List.getElem?_eq_getElem hi]; exact List.getElem_mem hi)
  simpa using this
theorem shp_yes {gl : Nat} {m : Int} {rows : List (List Int)} (h : shp gl m rows = true) : rows.length = gl ∧ ∀ i, i < rows.length → ((rows.getD i []).length : Int) = m := by
  unfold shp at h
  simp only [Bool.and_eq_true, decide_eq_true_eq] at h
  exact ⟨h.1, fun i hi => shw_len h.2 hi⟩
theorem bad_next {B S : List (List Int)} {g b : Nat} (h : BadB B S g b) (hn : ¬ badP ((B.getD g []).getD b 0) ((S.getD g []).getD b 0)) : BadB B S g (b + 1) := by
  obtain ⟨g', b', h1, h2, h3, h4⟩ := h
  refine ⟨g', b', h1, h2, ?_, h4⟩
  rcases h3 with h3 | ⟨rfl, h3⟩
  · exact .inl h3
  · refine .inr ⟨rfl, ?_⟩
    by_cases e : b' = b
    · subst e; exact absurd h4 hn
    · omega
theorem bad_row {B S : List (List Int)} {g b : Nat} (h : BadB B S g b) (hb : (B.getD g []).length ≤ b) : BadB B S (g + 1) 0 := by
  obtain ⟨g', b', h1, h2, h3, h4⟩ := h
  refine ⟨g', b', h1, h2, ?_, h4⟩
  rcases h3 with h3 | ⟨rfl, h3⟩
  · by_cases e : g + 1 = g'
    · exact .inr ⟨e, by omega⟩
    · exact .inl (by omega)
  · omega
theorem bad_prev {B S : List (List Int)} {g b : Nat} (h : BadB B S g b) : BadB B S 0 0 := by
  obtain ⟨g', b', h1, h2, _, h4⟩ := h
  refine ⟨g', b', h1, h2, ?_, h4⟩
  by_cases e : g' = 0
  · exact .inr ⟨e.symm, by omega⟩
  · exact .inl (by omega)
theorem bad_end {B S : List (List Int)} {b : Nat} : ¬ BadB B S B.length b := by
  rintro ⟨g', b', h1, h2, h3, h4⟩
  omega
end Go.Proofs.YtanjcbnkkhbkkaaDoor.Qn

/- Whether windows, books and steps may be. -/
namespace Go.Proofs.YtanjcbnkkhbkkaaDoor.Qn
open Go Go.ChangeShapes Go.WideShapes Go.ChangeAt Go.RowKit Go.Proofs.YtanjcbnkkhbkkaaDoor.If

set_option maxRecDepth 100000 in
set_option maxHeartbeats 4000000 in
theorem check_1 (r s h m : Int) (ga : Option Addr) (gc : Nat) (gz : List Int) (O P : Option Addr) (oc pc : Nat) (B S : List (List Int)) (w : World) (hgl : gz.length ≤ 100000) (hB : B.length ≤ 1000) (hS : S.length ≤ 1000) (hBr : ∀ i, i < B.length → (B.getD i []).length ≤ maxLen) (hSr : ∀ i, i < S.length → (S.getD i []).length ≤ maxLen) (hg : RdA w ga gz) (rB : RdR w O B) (rS : RdR w P S) (c : Int) (h1 : chk r s h m gz ≠ 0 ∧ c = chk r s h m gz) :
    Calls Tryd.prog 73 #[.int .i64 r, .agg #[.int .u8 s, .int .u8 h, .int .i64 m, .slice ga gz.length gc], .slice O B.length oc, .slice P S.length pc] w fun e w' => e = .returned (.int .i64 c) ∧ Below w.heap.size w w' := by
  have HB := Lib.hid (box_below w (.cells #[.int .u8 s, .int .u8 h, .int .i64 m, .slice ga gz.length gc] 50))
  have HC := Lib.hid (If.check_ok r s h m ga gc gz _ hgl (hg.below HB.out))
  have HS1 := Lib.hid (fun W (hW : Below w.heap.size w W) => shaped_ok s h m ga gc gz O oc B W hB hgl hBr (rB.below hW))
  have HS2 := Lib.hid (fun W (hW : Below w.heap.size w W) => shaped_ok s h m ga gc gz P pc S W hS hgl hSr (rS.below hW))
  obtain ⟨h1, rfl⟩ := h1
  have hne : (chk r s h m gz != 0) = true := by simpa using h1
  clear h1 hg rB rS HS1 HS2
  generalize chk r s h m gz = C at *
  go_enter Tryd.func73, Tryd.ntmps73
  go_wp2_with (first | (go_at_call 58; ((with_reducible refine (HC.out).mono ?_); rintro e w1 ⟨rfl, hb1⟩; have B1 := Lib.hid (belowT HB.out hb1); obtain ⟨z0, z1, z2, z3⟩ := boxed w s h m (.slice ga gz.length gc) w1 hb1; have Z := Lib.hid hb1; clear hb1)))
  go_ret
  exact ⟨rfl, B1.out⟩
set_option maxRecDepth 100000 in
set_option maxHeartbeats 4000000 in
theorem check_2 (r s h m : Int) (ga : Option Addr) (gc : Nat) (gz : List Int) (O P : Option Addr) (oc pc : Nat) (B S : List (List Int)) (w : World) (hgl : gz.length ≤ 100000) (hB : B.length ≤ 1000) (hS : S.length ≤ 1000) (hBr : ∀ i, i < B.length → (B.getD i []).length ≤ maxLen) (hSr : ∀ i, i < S.length → (S.getD i []).length ≤ maxLen) (hg : RdA w ga gz) (rB : RdR w O B) (rS : RdR w P S) (c : Int) (h0 : chk r s h m gz = 0) (h1 : (shp gz.length m B && shp gz.length m S) = false) (hc : c = 4) :
    Calls Tryd.prog 73 #[.int .i64 r, .agg #[.int .u8 s, .int .u8 h, .int .i64 m, .slice ga gz.length gc], .slice O B.length oc, .slice P S.length pc] w fun e w' => e = .returned (.int .i64 c) ∧ Below w.heap.size w w' := by
  have HB := Lib.hid (box_below w (.cells #[.int .u8 s, .int .u8 h, .int .i64 m, .slice ga gz.length gc] 50))
  have HC := Lib.hid (If.check_ok r s h m ga gc gz _ hgl (hg.below HB.out))
  have HS1 := Lib.hid (fun W (hW : Below w.heap.size w W) => shaped_ok s h m ga gc gz O oc B W hB hgl hBr (rB.below hW))
  have HS2 := Lib.hid (fun W (hW : Below w.heap.size w W) => shaped_ok s h m ga gc gz P pc S W hS hgl hSr (rS.below hW))
  subst hc
  rw [h0] at HC
  clear h0 hg rB rS
  cases e1 : shp gz.length m B
  · rw [e1] at HS1
    clear h1 e1
    go_enter Tryd.func73, Tryd.ntmps73
    go_wp2_with (first | (go_at_call 58; ((with_reducible refine (HC.out).mono ?_); rintro e w1 ⟨rfl, hb1⟩; have B1 := Lib.hid (belowT HB.out hb1); obtain ⟨z0, z1, z2, z3⟩ := boxed w s h m (.slice ga gz.length gc) w1 hb1; have Z := Lib.hid hb1; clear hb1)) | (go_at_call 83; ((with_reducible refine (HS1.out _ B1.out).mono ?_); rintro e w2 ⟨rfl, hb2⟩; have B2 := Lib.hid (belowT B1.out hb2); obtain ⟨z0, z1, z2, z3⟩ := boxed w s h m (.slice ga gz.length gc) w2 (belowT Z.out hb2); clear hb2)))
    go_ret
    exact ⟨rfl, B2.out⟩
  · rw [e1, Bool.true_and] at h1
    rw [e1] at HS1
    rw [h1] at HS2
    clear h1 e1
    go_enter Tryd.func73, Tryd.ntmps73
    go_wp2_with (first | (go_at_call 58; ((with_reducible refine (HC.out).mono ?_); rintro e w1 ⟨rfl, hb1⟩; have B1 := Lib.hid (belowT HB.out hb1); obtain ⟨z0, z1, z2, z3⟩ := boxed w s h m (.slice ga gz.length gc) w1 hb1; have Z := Lib.hid hb1; clear hb1)) | (have hq := B2; clear hq; (go_at_call 83; ((with_reducible refine (HS2.out _ B2.out).mono ?_); rintro e w3 ⟨rfl, hb3⟩; have B3 := Lib.hid (belowT B2.out hb3); clear hb3))) | (go_at_call 83; ((with_reducible refine (HS1.out _ B1.out).mono ?_); rintro e w2 ⟨rfl, hb2⟩; have B2 := Lib.hid (belowT B1.out hb2); obtain ⟨z0, z1, z2, z3⟩ := boxed w s h m (.slice ga gz.length gc) w2 (belowT Z.out hb2); clear hb2)))
    go_ret
    exact ⟨rfl, B3.out⟩
set_option maxRecDepth 100000 in
set_option maxHeartbeats 4000000 in
theorem check_3 (r s h m : Int) (ga : Option Addr) (gc : Nat) (gz : List Int) (O P : Option Addr) (oc pc : Nat) (B S : List (List Int)) (w : World) (hgl : gz.length ≤ 100000) (hB : B.length ≤ 1000) (hS : S.length ≤ 1000) (hBr : ∀ i, i < B.length → (B.getD i []).length ≤ maxLen) (hSr : ∀ i, i < S.length → (S.getD i []).length ≤ maxLen) (hg : RdA w ga gz) (rB : RdR w O B) (rS : RdR w P S) (c : Int) (h0 : chk r s h m gz = 0) (e1 : shp gz.length m B = true) (e2 : shp gz.length m S = true) (hc : (BadB B S 0 0 ∧ c = 2) ∨ (¬ BadB B S 0 0 ∧ c = 0)) :
    Calls Tryd.prog 73 #[.int .i64 r, .agg #[.int .u8 s, .int .u8 h, .int .i64 m, .slice ga gz.length gc], .slice O B.length oc, .slice P S.length pc] w fun e w' => e = .returned (.int .i64 c) ∧ Below w.heap.size w w' := by
  have HB := Lib.hid (box_below w (.cells #[.int .u8 s, .int .u8 h, .int .i64 m, .slice ga gz.length gc] 50))
  have HC := Lib.hid (If.check_ok r s h m ga gc gz _ hgl (hg.below HB.out))
  have HS1 := Lib.hid (fun W (hW : Below w.heap.size w W) => shaped_ok s h m ga gc gz O oc B W hB hgl hBr (rB.below hW))
  have HS2 := Lib.hid (fun W (hW : Below w.heap.size w W) => shaped_ok s h m ga gc gz P pc S W hS hgl hSr (rS.below hW))
  rw [h0] at HC
  rw [e1] at HS1
  rw [e2] at HS2
  obtain ⟨l1, l2⟩ := shp_yes e1
  obtain ⟨l3, l4⟩ := shp_yes e2
  have lBS := Lib.hid (show B.length = S.length by omega)
  have hrow : Hid (∀ i, i < B.length → (S.getD i []).length = (B.getD i []).length) := Lib.hid fun i hi => by have := l2 i hi; have := l4 i (by omega); omega
  have RB := Lib.hid rB
  have RS := Lib.hid rS
  have HR := Lib.hid hBr
  have HC0 : Hid ((BadB B S 0 0 ∧ c = 2) ∨ (¬ BadB B S 0 0 ∧ c = 0)) := Lib.hid hc
  clear h0 e1 e2 hg rB rS l1 l2 l3 l4 hc hBr hSr
  go_enter Tryd.func73, Tryd.ntmps73
  go_wp2_with (first | (go_at_call 58; ((with_reducible refine (HC.out).mono ?_); rintro e w1 ⟨rfl, hb1⟩; have B1 := Lib.hid (belowT HB.out hb1); obtain ⟨z0, z1, z2, z3⟩ := boxed w s h m (.slice ga gz.length gc) w1 hb1; have Z := Lib.hid hb1; clear hb1)) | (have hq := B2; clear hq; (go_at_call 83; ((with_reducible refine (HS2.out _ B2.out).mono ?_); rintro e w3 ⟨rfl, hb3⟩; have B3 := Lib.hid (belowT B2.out hb3); clear hb3))) | (go_at_call 83; ((with_reducible refine (HS1.out _ B1.out).mono ?_); rintro e w2 ⟨rfl, hb2⟩; have B2 := Lib.hid (belowT B1.out hb2); obtain ⟨z0, z1, z2, z3⟩ := boxed w s h m (.slice ga gz.length gc) w2 (belowT Z.out hb2); clear hb2)))
  clear HC HS1 HS2 z0 z1 z2 z3 Z B1 B2 HB
  go_loop [33] (fun i => ∃ k : Nat, k ≤ B.length ∧ i = .int .i64 k ∧ Hid ((BadB B S k 0 ∧ c = 2) ∨ (¬ BadB B S 0 0 ∧ c = 0))) (fun i => B.length - (intOf i).toNat)
  case atStart => exact ⟨0, by omega, rfl, HC0⟩
  case round =>
    obtain ⟨k, hk, rfl, hI⟩ := hrel
    clear HC0
    by_cases hlt : k < B.length
    · obtain ⟨b, off, a, ca, rfl, lb, c0, ra⟩ := (RB.out.below B3.out) k hlt
      obtain ⟨b', off', a', ca', rfl, lb', c1, ra'⟩ := (RS.out.below B3.out) k (by rw [← lBS.out]; exact hlt)
      rw [hrow.out k hlt] at c1
      have hLn := HR.out k hlt
      have RA := Lib.hid ra
      have RA' := Lib.hid ra'
      have hSl := Lib.hid (hrow.out k hlt)
      have hkS : (k : Int) < (S.length : Int) := by have := lBS.out; omega
      obtain ⟨L, hL⟩ : ∃ L, (B.getD k []).length = L := ⟨_, rfl⟩
      rw [hL] at c0 c1 hLn
      have HL := Lib.hid hL
      clear ra ra' hL
      unfold maxLen at hLn
      go_wp2
      go_loop [40] (fun i => ∃ j : Nat, j ≤ L ∧ i = .int .i64 j ∧ Hid ((BadB B S k j ∧ c = 2) ∨ (¬ BadB B S 0 0 ∧ c = 0))) (fun i => L - (intOf i).toNat)
      case atStart => exact ⟨0, by omega, rfl, hI⟩
      case round =>
        obtain ⟨j, hj, rfl, hJ⟩ := hrel
        by_cases hlt2 : j < L
        · obtain ⟨b2, o2, rfl, lb2, d0⟩ := RA.out j (by rw [HL.out]; exact hlt2)
          obtain ⟨b3, o3, rfl, lb3, d1⟩ := RA'.out j (by rw [hSl.out, HL.out]; exact hlt2)
          by_cases hb : badP ((B.getD k []).getD j 0) ((S.getD k []).getD j 0)
          · have hc : c = 2 := by
              rcases hJ.out with ⟨_, h⟩ | ⟨h, _⟩
              · exact h
              · exact absurd (bad_prev (g := k) (b := j) ⟨k, j, hlt, by rw [HL.out]; exact hlt2, .inr ⟨rfl, Nat.le_refl _⟩, hb⟩) h
            subst hc
            clear hI hJ
            unfold badP at hb
            generalize (B.getD k []).getD j 0 = X at *
            generalize (S.getD k []).getD j 0 = Y at *
            have HN := Lib.hid (fun W => sent_ok X W)
            by_cases t0 : X < 0
            · clear hb
              go_wp2
              go_ret
              exact ⟨rfl, B3.out⟩
            by_cases t1 : 13 < X
            · clear hb
              go_wp2
              go_ret
              exact ⟨rfl, B3.out⟩
            · obtain ⟨h1, h2⟩ : snt X = true ∧ (Y < 0 ∨ 255 < Y) := by rcases hb with h | h | h; exact absurd h t0; exact absurd h t1; exact h
              rw [h1] at HN
              clear hb h1
              by_cases t2 : Y < 0
              · clear h2
                go_wp2_with (go_at_call 75; ((with_reducible refine (HN.out _).mono ?_); rintro e _ ⟨rfl, rfl⟩))
                go_ret
                exact ⟨rfl, B3.out⟩
              · have t3 : 255 < Y := by omega
                clear h2
                go_wp2_with (go_at_call 75; ((with_reducible refine (HN.out _).mono ?_); rintro e _ ⟨rfl, rfl⟩))
                go_ret
                exact ⟨rfl, B3.out⟩
          · have hJ2 : Hid ((BadB B S k (j + 1) ∧ c = 2) ∨ (¬ BadB B S 0 0 ∧ c = 0)) := Lib.hid (by
              rcases hJ.out with ⟨h, h'⟩ | h
              · exact .inl ⟨bad_next h hb, h'⟩
              · exact .inr h)
            clear hI hJ
            unfold badP at hb
            generalize (B.getD k []).getD j 0 = X at *
            generalize (S.getD k []).getD j 0 = Y at *
            have HN := Lib.hid (fun W => sent_ok X W)
            have t0 : ¬ X < 0 := fun h => hb (.inl h)
            have t1 : ¬ 13 < X := fun h => hb (.inr (.inl h))
            cases hs : snt X
            · rw [hs] at HN
              clear hb hs
              go_wp2_with (go_at_call 75; ((with_reducible refine (HN.out _).mono ?_); rintro e _ ⟨rfl, rfl⟩))
              go_round
              case rel => exact ⟨j + 1, by omega, by go_num, hJ2⟩
              case measure => simp [intOf]; omega
            · have t2 : ¬ Y < 0 := fun h => hb (.inr (.inr ⟨hs, .inl h⟩))
              have t3 : ¬ 255 < Y := fun h => hb (.inr (.inr ⟨hs, .inr h⟩))
              rw [hs] at HN
              clear hb hs
              go_wp2_with (go_at_call 75; ((with_reducible refine (HN.out _).mono ?_); rintro e _ ⟨rfl, rfl⟩))
              go_round
              case rel => exact ⟨j + 1, by omega, by go_num, hJ2⟩
              case measure => simp [intOf]; omega
        · obtain rfl : j = L := by omega
          have hK : Hid ((BadB B S (k + 1) 0 ∧ c = 2) ∨ (¬ BadB B S 0 0 ∧ c = 0)) := Lib.hid (by
            rcases hJ.out with ⟨h, h'⟩ | h
            · exact .inl ⟨bad_row h (by rw [HL.out]; exact Nat.le_refl _), h'⟩
            · exact .inr h)
          clear hI hJ
          go_wp2
          go_round
          case rel => exact ⟨k + 1, by omega, by go_num, hK⟩
          case measure => simp [intOf]; omega
    · obtain rfl : k = B.length := by omega
      have hc : c = 0 := by
        rcases hI.out with ⟨h, _⟩ | ⟨_, h⟩
        · exact absurd h bad_end
        · exact h
      subst hc
      clear hI
      go_wp2
      go_ret
      exact ⟨rfl, B3.out⟩
set_option maxRecDepth 100000 in
set_option maxHeartbeats 4000000 in
theorem qcheck_ok (r s h m : Int) (ga : Option Addr) (gc : Nat) (gz : List Int) (O P : Option Addr) (oc pc : Nat) (B S : List (List Int)) (w : World) (hgl : gz.length ≤ 100000) (hB : B.length ≤ 1000) (hS : S.length ≤ 1000) (hBr : ∀ i, i < B.length → (B.getD i []).length ≤ maxLen) (hSr : ∀ i, i < S.length → (S.getD i []).length ≤ maxLen) (hg : RdA w ga gz) (rB : RdR w O B) (rS : RdR w P S) (c : Int) (hq : QE r s h m gz B S c) :
    Calls Tryd.prog 73 #[.int .i64 r, .agg #[.int .u8 s, .int .u8 h, .int .i64 m, .slice ga gz.length gc], .slice O B.length oc, .slice P S.length pc] w fun e w' => e = .returned (.int .i64 c) ∧ Below w.heap.size w w' := by
  rcases hq with q1 | ⟨h1, h2, h3⟩ | ⟨h1, h2, h3, h4⟩
  · exact check_1 r s h m ga gc gz O P oc pc B S w hgl hB hS hBr hSr hg rB rS c q1
  · exact check_2 r s h m ga gc gz O P oc pc B S w hgl hB hS hBr hSr hg rB rS c h1 h2 h3
  · exact check_3 r s h m ga gc gz O P oc pc B S w hgl hB hS hBr hSr hg rB rS c h1 h2 h3 h4
theorem qe_ex (r s h m : Int) (gz : List Int) (B S : List (List Int)) : ∃ c, QE r s h m gz B S c := by
  by_cases h1 : chk r s h m gz = 0
  · cases h2 : (shp gz.length m B && shp gz.length m S)
    · exact ⟨4, .inr (.inl ⟨h1, h2, rfl⟩)⟩
    · rw [Bool.and_eq_true] at h2
      by_cases h3 : BadB B S 0 0
      · exact ⟨2, .inr (.inr ⟨h1, h2.1, h2.2, .inl ⟨h3, rfl⟩⟩)⟩
      · exact ⟨0, .inr (.inr ⟨h1, h2.1, h2.2, .inr ⟨h3, rfl⟩⟩)⟩
  · exact ⟨_, .inl ⟨h1, rfl⟩⟩
end Go.Proofs.YtanjcbnkkhbkkaaDoor.Qn

/- A loop over an iterator that hands out memory and keeps cells of its own; its body always goes on. -/
namespace Go.Proofs.YtanjcbnkkhbkkaaDoor.Rg
open Go Go.RowKit

/-- What lay in A lies so in B, but for blocks of T. -/
structure Part (T : Nat → Prop) (A B : World) : Prop where
  os : B.os = A.os
  tape : B.tape = A.tape
  output : B.output = A.output
  size : A.heap.size ≤ B.heap.size
  block : ∀ k, k < A.heap.size → ¬ T k → B.heap[k]? = A.heap[k]?
theorem Part.refl (T : Nat → Prop) (A : World) : Part T A A := ⟨rfl, rfl, rfl, Nat.le_refl _, fun _ _ _ => rfl⟩
theorem Part.trans {T : Nat → Prop} {A B C : World} (h : Part T A B) (k : Part T B C) : Part T A C :=
  ⟨k.os.trans h.os, k.tape.trans h.tape, k.output.trans h.output, Nat.le_trans h.size k.size, fun j hj hT => (k.block j (Nat.lt_of_lt_of_le hj h.size) hT).trans (h.block j hj hT)⟩
theorem Part.mono {T U : Nat → Prop} {A B : World} (h : Part T A B) (hu : ∀ k, T k → U k) : Part U A B := ⟨h.os, h.tape, h.output, h.size, fun k hk hU => h.block k hk fun q => hU (hu k q)⟩
theorem Part.of_below {T : Nat → Prop} {A B : World} (h : Below A.heap.size A B) : Part T A B := ⟨h.os, h.tape, h.output, h.size, fun k hk _ => h.block k hk⟩
theorem Part.below {T : Nat → Prop} {A B : World} {b : Nat} (h : Part T A B) (hb : b ≤ A.heap.size) (hT : ∀ k, T k → b ≤ k) : Below b A B := ⟨h.os, h.tape, h.output, h.size, fun k hk => h.block k (by omega) fun q => by have := hT k q; omega⟩
theorem Part.row {T : Nat → Prop} {A B : World} {g n : Nat} {t : TypeId} {f : Nat → Value} (h : Part T A B) (r : A.rowIs g t n f) (hT : ¬ T g) : B.rowIs g t n f := r.of_block (h.block g r.lt hT)
theorem Part.put {T : Nat → Prop} {A : World} {l : Nat} (o : Obj) (hl : T l) : Part T A (A.putObj l o) := ⟨rfl, rfl, rfl, by simp, fun k _ hT => World.putObj_heap_other (fun e => hT (e ▸ hl))⟩
theorem Part.set {T : Nat → Prop} {A : World} {p : Addr} (v : Value) (hp : T p.block) : Part T A (A.setCell p v) := ⟨rfl, rfl, rfl, by simp [World.setCell], fun k _ hT => by
  simp only [World.setCell]
  show (A.heap.modify p.block _)[k]? = A.heap[k]?
  have hne : ¬ p.block = k := fun e => hT (e ▸ hp)
  rw [Array.getElem?_modify, if_neg hne]⟩
/-- A body that always goes on. -/
def onlyN (R : World → Prop) : Exit → Act → World → Prop
  | .normal, _, W' => R W'
  | _, _, _ => False
/-- What a round keeps. -/
def Keep (T : Nat → Prop) (A B : World) : Prop := A.heap.size ≤ B.heap.size ∧ ∀ j, T j → B.heap[j]? = A.heap[j]?
theorem Keep.below {T : Nat → Prop} {A B : World} {b : Nat} (h : Below b A B) (hT : ∀ j, T j → j < b) : Keep T A B := ⟨h.size, fun j q => h.block j (hT j q)⟩
variable {F : Fence} {n : Nat} {P : Program}

theorem range_mem {α : Type} {g : Operand} {ps : Array Tmp} {assign body : Code} {Q : Exit → Act → World → Prop} {a : Act} {w : World}
    (hro : F.round = none) (h1 : 1 ≤ n) {gf : Nat} {lb : Array Value} (hg : a.eval g = .func (.func gf) #[] lb) (hFg : F.fn gf) (eg : ∀ args w, (callFunc gf args).run P w = .ok (.enter gf args) w)
    (encs : α → Array Value) (Hx : Nat → α → World → Prop) (T : Nat → Prop) (N : Nat) (hT : ∀ k, T k → k < w.heap.size) (hps : ∀ x, (encs x).size = ps.size)
    (hseq : ∀ (l : Nat) (J : Nat → World → Prop) (W : World), l = w.heap.size + 1 → Part (fun _ => False) w W → l < W.heap.size → (∀ k A B, J k A → Part T A B → J k B) →
      (∀ k x W1, J k W1 → k < N → l < W1.heap.size → Hx k x W1 → YieldAt F (n - 1 - 1) P l (encs x) W1 fun e W' => e = .returned (.bool true) ∧ J (k + 1) W' ∧ Keep T W1 W' ∧ l < W'.heap.size) →
      J 0 W → CallsIn F (n - 1) P gf (#[.func (.yield l) #[] #[]] ++ lb) W fun e W' => (∃ v, e = .returned v) ∧ J N W')
    (I : Nat → World → Prop) (hI : ∀ k A B, I k A → Part (fun j => T j ∨ j = w.heap.size ∨ j = w.heap.size + 1) A B → I k B) (h0 : I 0 w)
    (hHx : ∀ k x A o, w.heap.size + 1 < A.heap.size → Hx k x A → Hx k x (A.putObj (w.heap.size + 1) o)) (a₁ : α → Act)
    (hassign : ∀ (l : Nat) (x : α) (W : World) (K : Act → World → Prop), K (a₁ x) W →
      assign.wpIn (F.inRound l) (n - 1 - 1) P (Exit.then K (fun _ _ _ => False)) { tmps := (ps.zip (encs x)).foldl (fun t (p, v) => t.setIfInBounds p v) a.tmps, defers := [] } W)
    (hbody : ∀ (l k : Nat) (x : α) (W : World), I k W → k < N → Hx k x W → w.heap.size + 1 < W.heap.size → body.wpIn (F.inRound l) (n - 1 - 1) P (onlyN fun W' => I (k + 1) W' ∧ Keep (fun j => T j ∨ j = w.heap.size ∨ j = w.heap.size + 1) W W') (a₁ x) W)
    (hdone : ∀ (W : World), I N W → w.heap.size < W.heap.size → W.heap[w.heap.size]? = some (.deferred (some [])) → Q .normal { a with defers := { target := .collected w.heap.size, args := #[] } :: a.defers } W) :
    (Code.rangeFunc g ps assign body).wpIn F n P Q a w := by
  refine wpIn_rangeFunc fun fn hfn => ?_
  rw [hro]
  let rec_ : LoopState → Loop := fun st => { state := st, pending := none, fn, tmps := a.tmps, params := ps, assign, body, defers := w.heap.size }
  let W0 : World := (w.alloc (.deferred (some []))).alloc (.loop (rec_ .ready))
  have s0 : W0.heap.size = w.heap.size + 2 := by simp [W0]
  have d0 : W0.heap[w.heap.size]? = some (.deferred (some [])) := (Below.heap_alloc _ _ _ (by simp)).trans (World.alloc_heap_new w _)
  have l0 : W0.heap[w.heap.size + 1]? = some (.loop (rec_ .ready)) := by
    have := World.alloc_heap_new (w.alloc (.deferred (some []))) (.loop (rec_ .ready)); rwa [World.size_alloc] at this
  have p0 : Below w.heap.size w W0 := (((Below.refl _ w).alloc (Nat.le_refl _) _).alloc (by simp) _)
  -- the two blocks of the loop's own
  let Bk : World → Prop := fun W => W.heap[w.heap.size]? = some (.deferred (some [])) ∧ W.heap[w.heap.size + 1]? = some (.loop (rec_ .ready))
  refine ⟨w.heap.size + 1, [{ target := .collected w.heap.size, args := #[] }], W0, { target := .fn (.func gf) lb, args := #[.func (.yield (w.heap.size + 1)) #[] #[]] }, W0, gf,
    #[.func (.yield (w.heap.size + 1)) #[] #[]] ++ lb, W0, run_enterLoop_outer _ _ _ _ _, ?_, ?_, ?_, fun _ => h1, ?_⟩
  · simp only [resolve, hg]
    simp [go_sem]
  · intro f' hf'; simp [Target.leads] at hf'; subst hf'; exact hFg
  · simp [invoke, go_sem, eg]
  refine (hseq (w.heap.size + 1) (fun k W => I k W ∧ Bk W) W0 rfl (Part.of_below p0) (by omega) ?_ ?_ ⟨hI 0 w W0 h0 (Part.of_below p0), d0, l0⟩).mono ?_
  · rintro k A C ⟨hi, hd, hl⟩ hp
    have la := (Array.getElem?_eq_some_iff.1 hl).1
    refine ⟨hI k A C hi (hp.mono fun _ => .inl), (hp.block _ (by omega) fun q => ?_).trans hd, (hp.block _ la fun q => ?_).trans hl⟩
    · have := hT _ q; omega
    · have := hT _ q; omega
  · rintro k x W1 ⟨hi, hd, hl⟩ hk _ hx
    have la := (Array.getElem?_eq_some_iff.1 hl).1
    have hy := run_yield (P := P) (args := encs x) hl (hps x)
    refine ⟨fn, _, assign, body, hy, roundIn_of_wpIn hfn (hassign _ x W1 _ ⟨_, run_beginRound hl rfl, ?_⟩)⟩
    have e2 : (W1.putObj (w.heap.size + 1) (.loop { rec_ .ready with state := .busy })).heap[w.heap.size + 1]? = some (.loop { rec_ .ready with state := .busy }) := World.putObj_heap_same la
    have e3 : (W1.putObj (w.heap.size + 1) (.loop { rec_ .ready with state := .busy })).heap[w.heap.size]? = some (.deferred (some [])) := (World.putObj_heap_other (by omega)).trans hd
    refine wpIn_mono (hbody _ k x _ (hI k _ _ hi (Part.put _ (.inr (.inr rfl)))) hk (hHx k x W1 _ la hx) (by simpa using la)) ?_
    rintro e a3 W3 hp
    cases e with
    | normal =>
      obtain ⟨hi3, hs3, hk3⟩ := hp
      have e4 := (hk3 _ (.inr (.inr rfl))).trans e2
      have e5 := (hk3 _ (.inr (.inl rfl))).trans e3
      have la3 := (Array.getElem?_eq_some_iff.1 e4).1
      refine ⟨_, _, run_endRound (P := P) none e4, rfl, ⟨hI (k + 1) _ _ hi3 (Part.put _ (.inr (.inr rfl))), (World.putObj_heap_other (by omega)).trans e5, World.putObj_heap_same la3⟩, ⟨?_, fun j q => ?_⟩, ?_⟩
      · simp at hs3 ⊢; exact hs3
      · have hj := hT j q
        exact ((World.putObj_heap_other (by omega)).trans (hk3 j (.inl q))).trans (World.putObj_heap_other (by omega))
      · simpa using la3
    | ret => exact hp.elim
    | exit id => exact hp.elim
    | goto t => exact hp.elim
    | panic ch => exact hp.elim
    | outgrown => exact hp.elim
  · rintro e W2 ⟨⟨v, rfl⟩, hi, hd, hl⟩
    have la := (Array.getElem?_eq_some_iff.1 hl).1
    exact ⟨none, _, run_endLoop (P := P) hl (by simp [rec_]), hdone _ (hI N _ _ hi (Part.put _ (.inr (.inr rfl)))) (by simp; omega) ((World.putObj_heap_other (by omega)).trans hd)⟩
end Go.Proofs.YtanjcbnkkhbkkaaDoor.Rg

/- A loop over an iterator that hands out what it reads: the body keeps more than the iterator's own cells. -/
namespace Go.Proofs.YtanjcbnkkhbkkaaDoor.Rg
open Go Go.RowKit
variable {F : Fence} {n : Nat} {P : Program}
theorem range_memU {α : Type} {g : Operand} {ps : Array Tmp} {assign body : Code} {Q : Exit → Act → World → Prop} {a : Act} {w : World}
    (hro : F.round = none) (h1 : 1 ≤ n) {gf : Nat} {lb : Array Value} (hg : a.eval g = .func (.func gf) #[] lb) (hFg : F.fn gf) (eg : ∀ args w, (callFunc gf args).run P w = .ok (.enter gf args) w)
    (encs : α → Array Value) (Hx : Nat → α → World → Prop) (T U : Nat → Prop) (N : Nat) (hTU : ∀ k, T k → U k) (hU : ∀ k, U k → k < w.heap.size) (hps : ∀ x, (encs x).size = ps.size)
    (hseq : ∀ (l : Nat) (J : Nat → World → Prop) (W : World), l = w.heap.size + 1 → Part (fun _ => False) w W → l < W.heap.size → (∀ k A B, J k A → Part T A B → J k B) →
      (∀ k x W1, J k W1 → k < N → l < W1.heap.size → Hx k x W1 → YieldAt F (n - 1 - 1) P l (encs x) W1 fun e W' => e = .returned (.bool true) ∧ J (k + 1) W' ∧ Keep U W1 W' ∧ l < W'.heap.size) →
      J 0 W → CallsIn F (n - 1) P gf (#[.func (.yield l) #[] #[]] ++ lb) W fun e W' => (∃ v, e = .returned v) ∧ J N W')
    (I : Nat → World → Prop) (hI : ∀ k A B, I k A → Part (fun j => T j ∨ j = w.heap.size ∨ j = w.heap.size + 1) A B → I k B) (h0 : I 0 w)
    (hHx : ∀ k x A o, w.heap.size + 1 < A.heap.size → Hx k x A → Hx k x (A.putObj (w.heap.size + 1) o)) (a₁ : α → Act)
    (hassign : ∀ (l : Nat) (x : α) (W : World) (K : Act → World → Prop), K (a₁ x) W →
      assign.wpIn (F.inRound l) (n - 1 - 1) P (Exit.then K (fun _ _ _ => False)) { tmps := (ps.zip (encs x)).foldl (fun t (p, v) => t.setIfInBounds p v) a.tmps, defers := [] } W)
    (hbody : ∀ (l k : Nat) (x : α) (W : World), I k W → k < N → Hx k x W → w.heap.size + 1 < W.heap.size → body.wpIn (F.inRound l) (n - 1 - 1) P (onlyN fun W' => I (k + 1) W' ∧ Keep (fun j => U j ∨ j = w.heap.size ∨ j = w.heap.size + 1) W W') (a₁ x) W)
    (hdone : ∀ (W : World), I N W → w.heap.size < W.heap.size → W.heap[w.heap.size]? = some (.deferred (some [])) → Q .normal { a with defers := { target := .collected w.heap.size, args := #[] } :: a.defers } W) :
    (Code.rangeFunc g ps assign body).wpIn F n P Q a w := by
  refine wpIn_rangeFunc fun fn hfn => ?_
  rw [hro]
  let rec_ : LoopState → Loop := fun st => { state := st, pending := none, fn, tmps := a.tmps, params := ps, assign, body, defers := w.heap.size }
  let W0 : World := (w.alloc (.deferred (some []))).alloc (.loop (rec_ .ready))
  have s0 : W0.heap.size = w.heap.size + 2 := by simp [W0]
  have d0 : W0.heap[w.heap.size]? = some (.deferred (some [])) := (Below.heap_alloc _ _ _ (by simp)).trans (World.alloc_heap_new w _)
  have l0 : W0.heap[w.heap.size + 1]? = some (.loop (rec_ .ready)) := by
    have := World.alloc_heap_new (w.alloc (.deferred (some []))) (.loop (rec_ .ready)); rwa [World.size_alloc] at this
  have p0 : Below w.heap.size w W0 := (((Below.refl _ w).alloc (Nat.le_refl _) _).alloc (by simp) _)
  -- the two blocks of the loop's own
  let Bk : World → Prop := fun W => W.heap[w.heap.size]? = some (.deferred (some [])) ∧ W.heap[w.heap.size + 1]? = some (.loop (rec_ .ready))
  refine ⟨w.heap.size + 1, [{ target := .collected w.heap.size, args := #[] }], W0, { target := .fn (.func gf) lb, args := #[.func (.yield (w.heap.size + 1)) #[] #[]] }, W0, gf,
    #[.func (.yield (w.heap.size + 1)) #[] #[]] ++ lb, W0, run_enterLoop_outer _ _ _ _ _, ?_, ?_, ?_, fun _ => h1, ?_⟩
  · simp only [resolve, hg]
    simp [go_sem]
  · intro f' hf'; simp [Target.leads] at hf'; subst hf'; exact hFg
  · simp [invoke, go_sem, eg]
  refine (hseq (w.heap.size + 1) (fun k W => I k W ∧ Bk W) W0 rfl (Part.of_below p0) (by omega) ?_ ?_ ⟨hI 0 w W0 h0 (Part.of_below p0), d0, l0⟩).mono ?_
  · rintro k A C ⟨hi, hd, hl⟩ hp
    have la := (Array.getElem?_eq_some_iff.1 hl).1
    refine ⟨hI k A C hi (hp.mono fun _ => .inl), (hp.block _ (by omega) fun q => ?_).trans hd, (hp.block _ la fun q => ?_).trans hl⟩
    · have := hU _ (hTU _ q); omega
    · have := hU _ (hTU _ q); omega
  · rintro k x W1 ⟨hi, hd, hl⟩ hk _ hx
    have la := (Array.getElem?_eq_some_iff.1 hl).1
    have hy := run_yield (P := P) (args := encs x) hl (hps x)
    refine ⟨fn, _, assign, body, hy, roundIn_of_wpIn hfn (hassign _ x W1 _ ⟨_, run_beginRound hl rfl, ?_⟩)⟩
    have e2 : (W1.putObj (w.heap.size + 1) (.loop { rec_ .ready with state := .busy })).heap[w.heap.size + 1]? = some (.loop { rec_ .ready with state := .busy }) := World.putObj_heap_same la
    have e3 : (W1.putObj (w.heap.size + 1) (.loop { rec_ .ready with state := .busy })).heap[w.heap.size]? = some (.deferred (some [])) := (World.putObj_heap_other (by omega)).trans hd
    refine wpIn_mono (hbody _ k x _ (hI k _ _ hi (Part.put _ (.inr (.inr rfl)))) hk (hHx k x W1 _ la hx) (by simpa using la)) ?_
    rintro e a3 W3 hp
    cases e with
    | normal =>
      obtain ⟨hi3, hs3, hk3⟩ := hp
      have e4 := (hk3 _ (.inr (.inr rfl))).trans e2
      have e5 := (hk3 _ (.inr (.inl rfl))).trans e3
      have la3 := (Array.getElem?_eq_some_iff.1 e4).1
      refine ⟨_, _, run_endRound (P := P) none e4, rfl, ⟨hI (k + 1) _ _ hi3 (Part.put _ (.inr (.inr rfl))), (World.putObj_heap_other (by omega)).trans e5, World.putObj_heap_same la3⟩, ⟨?_, fun j q => ?_⟩, ?_⟩
      · simp at hs3 ⊢; exact hs3
      · have hj := hU j q
        exact ((World.putObj_heap_other (by omega)).trans (hk3 j (.inl q))).trans (World.putObj_heap_other (by omega))
      · simpa using la3
    | ret => exact hp.elim
    | exit id => exact hp.elim
    | goto t => exact hp.elim
    | panic ch => exact hp.elim
    | outgrown => exact hp.elim
  · rintro e W2 ⟨⟨v, rfl⟩, hi, hd, hl⟩
    have la := (Array.getElem?_eq_some_iff.1 hl).1
    exact ⟨none, _, run_endLoop (P := P) hl (by simp [rec_]), hdone _ (hI N _ _ hi (Part.put _ (.inr (.inr rfl)))) (by simp; omega) ((World.putObj_heap_other (by omega)).trans hd)⟩
end Go.Proofs.YtanjcbnkkhbkkaaDoor.Rg

/- Where lines are: the iterator that hands them out. -/
namespace Go.Proofs.YtanjcbnkkhbkkaaDoor.Qn
open Go Go.ChangeShapes Go.WideShapes Go.ChangeAt Go.RowKit Go.Shelf Go.Proofs.YtanjcbnkkhbkkaaDoor.If Go.Proofs.YtanjcbnkkhbkkaaDoor.Rg Go.Proofs.YtanjcbnkkhbkkaaDoor.Bd

attribute [local go_sem] Oper.semAt_some

theorem mny_mono_n : ∀ (b : Bool) (n : Nat), n < 12 → mny n b ≤ mny 11 b := by decide +kernel
theorem chk_top {r s h m : Int} {gz : List Int} (hc : chk r s h m gz = 0) : chk 11 s h m gz = 0 := by
  by_cases c : r < 0 ∨ 11 < r
  · rw [chk_arg c] at hc; exact absurd hc (by decide)
  · by_cases d : 3 < s ∨ 1 < h ∨ m < 0 ∨ mny r (s == 2) < m ∨ grp gz (win s) = false
    · rw [chk_bad c d] at hc; exact absurd hc (by decide)
    · refine chk_ok (by omega) ?_
      obtain ⟨n, rfl⟩ : ∃ n : Nat, r = (n : Int) := ⟨r.toNat, by omega⟩
      have hm := mny_mono_n (s == 2) n (by omega)
      rintro (q | q | q | q | q)
      · exact d (.inl q)
      · exact d (.inr (.inl q))
      · exact d (.inr (.inr (.inl q)))
      · exact d (.inr (.inr (.inr (.inl (by omega)))))
      · exact d (.inr (.inr (.inr (.inr q))))
/-- What the iterator keeps. -/
structure Pl (w0 : Nat) (b5 b7 g cap : Nat) (r s h m : Int) (ga : Option Addr) (gc : Nat) (gz : List Int) (w : World) : Prop where
  wins : Boxed w b7 3 (.int .i64 (win s))
  info : w.heap[w0]? = some (.cells #[.int .u8 s, .int .u8 h, .int .i64 m, .slice ga gz.length gc] 50 (0, 0))
  offs : Boxed w b5 39 (.slice (some ⟨g, 0, none⟩) (L r (s == 2)).length cap)
  row : Row w g cap (L r (s == 2))
  lo : w0 ≤ b5 ∧ w0 ≤ b7 ∧ w0 < g
set_option maxRecDepth 100000 in
theorem places_ok (r s h m : Int) (ga : Option Addr) (gc : Nat) (gz : List Int) (w : World) (r0 : 0 ≤ r) (r1 : r ≤ 11) (hc : chk r s h m gz = 0) (hgl : gz.length ≤ 100000) (hg : RdA w ga gz) :
    Calls Tryd.prog 74 #[.int .i64 r, .agg #[.int .u8 s, .int .u8 h, .int .i64 m, .slice ga gz.length gc]] w fun e w' => ∃ b5 b7 g cap, e = .returned (.func (.func 84) #[] #[.pointer (some ⟨b7, 0, none⟩), .pointer (some ⟨w.heap.size, 0, none⟩), .pointer (some ⟨b5, 0, none⟩)]) ∧ Pl w.heap.size b5 b7 g cap r s h m ga gc gz w' ∧ Below w.heap.size w w' := by
  have HB := Lib.hid (box_below w (.cells #[.int .u8 s, .int .u8 h, .int .i64 m, .slice ga gz.length gc] 50))
  have HO := Lib.hid (fun W => off_row r (s == 2) W r0 r1)
  have HW := fun W (hW : Below w.heap.size w W) => windows_k s h m ga gc gz W hgl (hg.below hW)
  rw [chk_top hc, if_pos rfl] at HW
  have HW := Lib.hid HW
  have HX : Hid ((w.alloc (.cells #[.int .u8 s, .int .u8 h, .int .i64 m, .slice ga gz.length gc] 50)).heap[w.heap.size]? = some (.cells #[.int .u8 s, .int .u8 h, .int .i64 m, .slice ga gz.length gc] 50 (0, 0))) := Lib.hid (World.alloc_heap_new _ _)
  clear hc hg
  go_enter Tryd.func74, Tryd.ntmps74
  go_wp2_with (first
    | (go_at_call 60; ((with_reducible refine (HO.out _).mono ?_); rintro e w1 ⟨g, cap, rfl, hg1, hr1, hb1⟩; have B1 := Lib.hid hb1; have R1 := Lib.hid hr1; have X1 := Lib.hid ((hb1.block _ (by simp)).trans HX.out); have lg := hr1.lt; have lw : w.heap.size < w1.heap.size := Nat.lt_of_lt_of_le (by simp) hb1.size; obtain ⟨z0, z1, z2, z3⟩ := boxed w s h m (.slice ga gz.length gc) w1 hb1; clear hr1 hb1))
    | (go_at_call 37; ((with_reducible refine (HW.out _ ((belowT HB.out B1.out).alloc (belowT HB.out B1.out).size _)).mono ?_); rintro e w2 ⟨rfl, hb2⟩; have B2 := Lib.hid hb2; clear hb2)))
  go_ret
  have sg : w.heap.size < g := by simp at hg1; omega
  have l2 := B2.out.size
  simp at l2
  have p2 : Below w1.heap.size w1 (w2.alloc (.cells #[.int .i64 (win s)] 3)) := ((Below.refl _ w1).alloc (Nat.le_refl _) _ |>.trans (B2.out.mono (by simp))).alloc (by omega) _
  refine ⟨w1.heap.size, w2.heap.size, g, cap, rfl, ⟨Boxed.new w2 3 _, (p2.block _ lw).trans X1.out, ?_, R1.out.below p2, by omega, by omega, sg⟩, belowT HB.out (belowT B1.out p2)⟩
  exact ((((Below.refl _ w2).alloc (Nat.le_refl _) _).block _ (by omega)).trans ((B2.out.block _ (by simp)).trans (Boxed.new w1 39 _)))

/-! ### The iterator -/
def Uq (w0 b5 b7 g : Nat) (ga : Option Addr) (k : Nat) : Prop := k = w0 ∨ k = b5 ∨ k = b7 ∨ k = g ∨ ∃ x, ga = some x ∧ x.block = k
theorem Pl.keep {w0 b5 b7 g cap : Nat} {r s h m : Int} {ga : Option Addr} {gc : Nat} {gz : List Int} {w w' : World} (p : Pl w0 b5 b7 g cap r s h m ga gc gz w) (hk : ∀ j, Uq w0 b5 b7 g ga j → w'.heap[j]? = w.heap[j]?) : Pl w0 b5 b7 g cap r s h m ga gc gz w' :=
  ⟨(hk _ (.inr (.inr (.inl rfl)))).trans p.wins, (hk _ (.inl rfl)).trans p.info, (hk _ (.inr (.inl rfl))).trans p.offs, by obtain ⟨F, hr, h2⟩ := p.row; exact ⟨F, hr.of_block (hk _ (.inr (.inr (.inr (.inl rfl))))), h2⟩, p.lo⟩
theorem Pl.below {w0 b5 b7 g cap : Nat} {r s h m : Int} {ga : Option Addr} {gc : Nat} {gz : List Int} {w w' : World} (p : Pl w0 b5 b7 g cap r s h m ga gc gz w) (hb : Below w.heap.size w w') : Pl w0 b5 b7 g cap r s h m ga gc gz w' :=
  ⟨(hb.block _ p.wins.lt).trans p.wins, (hb.block _ (Array.getElem?_eq_some_iff.1 p.info).1).trans p.info, (hb.block _ p.offs.lt).trans p.offs, p.row.below hb, p.lo⟩
theorem rd_keep {W W' : World} {A : Option Addr} {zs : List Int} (r : RdA W A zs) (h : ∀ x, A = some x → W'.heap[x.block]? = W.heap[x.block]?) : RdA W' A zs := fun i hi => by
  obtain ⟨b, off, e, h1, h2⟩ := r i hi
  have hb := h _ e
  refine ⟨b, off, e, ?_, (World.cell?_of_block (w := W) (a := ⟨b, off + i, none⟩) hb).trans h2⟩
  have : W'.heap[b]? = some W.heap[b] := by rw [hb]; simp [h1]
  exact (Array.getElem?_eq_some_iff.1 this).1
theorem w64k {x : Int} (h : 0 ≤ x ∧ x ≤ 4611686018427387904) : wrap64 x = x := by unfold wrap64; omega
theorem cell4 {w : World} {b : Nat} {t : TypeId} {x y z u : Value} (h : w.heap[b]? = some (.cells #[x, y, z, u] t (0, 0))) : w.cell? ⟨b, 0, none⟩ = some x ∧ w.cell? ⟨b, 1, none⟩ = some y ∧ w.cell? ⟨b, 2, none⟩ = some z ∧ w.cell? ⟨b, 3, none⟩ = some u := by
  simp [World.cell?, h]
/-- A line, its group and its band. -/
def encQ (x : Nat × Int × Nat) : Array Value := #[.int .i64 x.1, .agg #[.int .i64 x.2.1, .int .i64 x.2.2]]
def LN (s : Int) : Nat := if s = 2 then 32 else 256
def WN (s : Int) : Nat := if s = 2 then 8 else 1
theorem ln_wn (s : Int) : WN s * LN s = 256 := by unfold WN LN; split <;> rfl
theorem wn_win (s : Int) : win s = (WN s : Nat) := by unfold win WN; split <;> rfl
theorem ln_nof (s : Int) : nOf (s == 2) = (LN s : Nat) := by
  unfold nOf LN
  by_cases c : s = 2
  · subst c; rfl
  · rw [if_neg c, show (s == 2) = false by simpa using c]; rfl
def HxQ (r s : Int) (gz : List Int) (k : Nat) (x : Nat × Int × Nat) (_ : World) : Prop := x.1 = k ∧ x.2.1 = (gof gz ((k / LN s : Nat) : Int) : Nat) ∧ x.2.2 + 1 < (L r (s == 2)).length ∧ (L r (s == 2)).getD x.2.2 0 ≤ ((k % LN s : Nat) : Int) ∧ ((k % LN s : Nat) : Int) < (L r (s == 2)).getD (x.2.2 + 1) 0
theorem divmod {v q N : Nat} (hq : q < N) : (v * N + q) / N = v ∧ (v * N + q) % N = q := by
  have hN : 0 < N := by omega
  constructor
  · rw [Nat.mul_comm, Nat.mul_add_div hN, Nat.div_eq_of_lt hq, Nat.add_zero]
  · rw [Nat.mul_comm, Nat.mul_add_mod, Nat.mod_eq_of_lt hq]

set_option maxRecDepth 100000 in
set_option maxHeartbeats 4000000 in
theorem places_in (n : Nat) (hn : 1 ≤ n) (l w0 b5 b7 g cap : Nat) (r s h m : Int) (ga : Option Addr) (gc : Nat) (gz : List Int) (W : World) (r0 : 0 ≤ r) (r1 : r ≤ 11) (hc : chk 11 s h m gz = 0) (hgl : gz.length ≤ 100000) (hp : Pl w0 b5 b7 g cap r s h m ga gc gz W) (hg : RdA W ga gz)
    (J : Nat → World → Prop) (hl : l < W.heap.size) (hJ : ∀ k A B, J k A → Part (fun _ => False) A B → J k B)
    (hY : ∀ k x W1, J k W1 → k < 256 → l < W1.heap.size → HxQ r s gz k x W1 → YieldAt Fence.wide (n - 1) Tryd.prog l (encQ x) W1 fun e W' => e = .returned (.bool true) ∧ J (k + 1) W' ∧ Keep (Uq w0 b5 b7 g ga) W1 W' ∧ l < W'.heap.size)
    (h0 : J 0 W) :
    CallsIn Fence.wide n Tryd.prog 84 #[.func (.yield l) #[] #[], .pointer (some ⟨b7, 0, none⟩), .pointer (some ⟨w0, 0, none⟩), .pointer (some ⟨b5, 0, none⟩)] W fun e W' => (∃ v, e = .returned v) ∧ J 256 W' := by
  have HY := Lib.hid hY
  have HJ := Lib.hid hJ
  have H0 := Lib.hid h0
  have HP := Lib.hid hp
  have RG := Lib.hid hg
  have HG := Lib.hid (fun (x : Int) (W1 : World) (rd : RdA W1 ga gz) (x0 : 0 ≤ x) (hx : x < win s) => group_ok s h m ga gc gz x W1 hgl rd hc x0 hx)
  obtain ⟨f0, f1, f2, f3, f4, f5⟩ := fact r (s == 2) r0 r1
  rw [ln_nof] at f3 f5
  have HLW := Lib.hid (ln_wn s)
  have HWW := Lib.hid (wn_win s)
  have c1 := hp.wins.cell
  rw [wn_win] at c1
  have hLN : LN s ≤ 256 := by unfold LN; split <;> omega
  have hWN : WN s ≤ 8 := by unfold WN; split <;> omega
  clear hY hJ h0 hp hg hc
  refine callsIn_of_wp Tryd.func84 rfl trivial ?_ rfl
  simp only [Tryd.ntmps84, List.size_toArray, List.length_cons, List.length_nil, Nat.reduceAdd, Nat.reduceSub, Array.replicate_succ, Array.replicate_zero, List.push_toArray, List.append_toArray, List.nil_append, List.cons_append]
  gi_wp2
  gi_loopw [5, 12] (fun q p wr => ∃ v : Nat, v ≤ WN s ∧ p = .int .i64 v ∧ q = .int .i64 ((v * LN s : Nat) : Int) ∧ Hid (J (v * LN s) wr) ∧ Hid (Pl w0 b5 b7 g cap r s h m ga gc gz wr) ∧ Hid (RdA wr ga gz) ∧ l < wr.heap.size) (fun _ p _ => WN s - (intOf p).toNat)
  case atStart => exact ⟨0, by omega, rfl, by simp, Lib.hid (by simpa using H0.out), HP, RG, hl⟩
  case round =>
    obtain ⟨v, hv, rfl, rfl, hJv, hPv, hRv, hlv⟩ := hrel
    clear H0 HP RG hl
    by_cases hlt : v < WN s
    · obtain ⟨K, hK⟩ : ∃ K, (L r (s == 2)).length = K + 1 := ⟨(L r (s == 2)).length - 1, by omega⟩
      have hvi : (v : Int) < (WN s : Int) := by omega
      have hvw : (v : Int) < win s := by rw [HWW.out]; exact hvi
      obtain ⟨i0, i1, i2, i3⟩ := cell4 hPv.out.info
      have hK41 : K ≤ 41 := by omega
      have hHL := Lib.hid (show v * LN s + LN s ≤ 256 by rw [← HLW.out, ← Nat.succ_mul]; exact Nat.mul_le_mul_right _ hlt)
      have GV := Lib.hid (HG.out v wr hRv.out (by omega) hvw)
      gi_wp2_with first
        | (refine ⟨trivial, ?_⟩; gi_at_call 39; refine (callsIn_wide.2 GV.out).mono ?_; rintro e w1 ⟨rfl, hb1⟩; have P1 := Lib.hid (hPv.out.below hb1); have R1 := Lib.hid (hRv.out.below hb1); have J1 := Lib.hid (HJ.out _ _ _ hJv.out (Part.of_below hb1)); have l1 := Nat.lt_of_lt_of_le hlv hb1.size; have c5 := P1.out.offs.cell; rw [hK] at c5; have k1 : ((K + 1 : Nat) : Int) - 1 = (K : Int) := (by omega); obtain ⟨_, _, hcp, _⟩ := P1.out.row; have k3 : (K : Int) ≤ (cap : Int) := (by omega); have k4 : (0 : Int) ≤ (K : Int) := (by omega); clear hb1)
      obtain ⟨A, hA⟩ : ∃ A, v * LN s = A := ⟨_, rfl⟩
      have hAi : (v : Int) * (LN s : Int) = (A : Int) := by rw [← hA]; push_cast; rfl
      obtain ⟨Z, hZ⟩ : ∃ Z : Nat → Int, Z = fun b => (L r (s == 2)).getD b 0 := ⟨_, rfl⟩
      have z0 : Z 0 = 0 := by rw [hZ]; exact f2
      have zK : Z K = (LN s : Int) := by rw [hZ]; have := f3; rw [hK] at this; exact this
      have zlt : ∀ b, b < K → Z b < Z (b + 1) := fun b hb => by rw [hZ]; exact f4 b (by omega)
      have zin : ∀ b, b ≤ K → 0 ≤ Z b ∧ Z b ≤ (LN s : Int) := fun b hb => by rw [hZ]; exact f5 b (by omega)
      have HZ := Lib.hid hZ
      have HA := Lib.hid hA
      have HK := Lib.hid hK
      have Z0 := Lib.hid z0
      have ZK := Lib.hid zK
      have ZL := Lib.hid zlt
      have ZI := Lib.hid zin
      have J1' : Hid (J A w1) := Lib.hid (by rw [← hA]; exact J1.out)
      simp only [hAi]
      have hA2 := hHL.out
      rw [hA] at hA2
      clear hAi hA hZ z0 zK zlt zin hK f0 f1 f2 f3 f4 f5 J1 hJv hPv hRv GV i0 i1 i2 i3 c5 k1 hvw
      gi_loopw [5, 27] (fun q p wr => ∃ b : Nat, b ≤ K ∧ p = .int .i64 b ∧ q = .int .i64 ((A : Int) + Z b) ∧ Hid (J (A + (Z b).toNat) wr) ∧ Hid (Pl w0 b5 b7 g cap r s h m ga gc gz wr) ∧ Hid (RdA wr ga gz) ∧ l < wr.heap.size) (fun _ p _ => K - (intOf p).toNat)
      case atStart => exact ⟨0, by omega, rfl, by rw [Z0.out, Int.add_zero], Lib.hid (by rw [Z0.out]; exact J1'.out), P1, R1, l1⟩
      case round =>
        obtain ⟨b, hb, rfl, rfl, hJb, hPb, hRb, hlb⟩ := hrel
        clear P1 R1 l1 J1' hlv
        by_cases hltb : b < K
        · have c6 := hPb.out.row.cell (i := b) (by rw [HK.out]; omega)
          have c7 := hPb.out.row.cell (i := b + 1) (by rw [HK.out]; omega)
          obtain ⟨X, hX⟩ : ∃ X, Z b = X := ⟨_, rfl⟩
          obtain ⟨Y, hY⟩ : ∃ Y, Z (b + 1) = Y := ⟨_, rfl⟩
          have eX : (L r (s == 2)).getD b 0 = X := by rw [← hX, HZ.out]
          have eY : (L r (s == 2)).getD (b + 1) 0 = Y := by rw [← hY, HZ.out]
          rw [eX] at c6
          rw [eY] at c7
          have q1 := ZL.out b hltb
          obtain ⟨q2, q3⟩ := ZI.out b (by omega)
          obtain ⟨q4, q5⟩ := ZI.out (b + 1) (by omega)
          have c5 := hPb.out.offs.cell
          rw [HK.out] at c5
          rw [hX] at q1 q2 q3 hJb ⊢
          rw [hY] at q1 q4 q5
          have EX := Lib.hid eX
          have EY := Lib.hid eY
          have HY1 := Lib.hid hY
          have HX1 := Lib.hid hX
          clear eX eY hX hY
          have hbk : (b : Int) < (K : Int) := by omega
          gi_wp2
          gi_loopw [5, 39] (fun q p wr => ∃ j : Nat, (j : Int) ≤ Y - X ∧ p = .int .i64 j ∧ q = .int .i64 ((A : Int) + X + (j : Int)) ∧ Hid (J (A + X.toNat + j) wr) ∧ Hid (Pl w0 b5 b7 g cap r s h m ga gc gz wr) ∧ Hid (RdA wr ga gz) ∧ l < wr.heap.size) (fun _ p _ => (Y - X).toNat - (intOf p).toNat)
          case atStart => exact ⟨0, by omega, rfl, by simp, by simpa using hJb, hPb, hRb, hlb⟩
          case round =>
            obtain ⟨j, hj, rfl, rfl, hJj, hPj, hRj, hlj⟩ := hrel
            clear hJb hPb hRb hlb c5 c6 c7
            by_cases hltj : (j : Int) < Y - X
            · have dm := divmod (v := v) (q := X.toNat + j) (N := LN s) (by omega)
              rw [HA.out, ← Nat.add_assoc] at dm
              obtain ⟨fn, tmps, assign, body, hy, hR⟩ := HY.out (A + X.toNat + j) (A + X.toNat + j, ((gof gz (v : Int) : Nat) : Int), b) wr hJj.out (by omega) hlj ⟨rfl, by rw [dm.1], (show b + 1 < (L r (s == 2)).length by rw [HK.out]; omega), (show (L r (s == 2)).getD b 0 ≤ (((A + X.toNat + j) % LN s : Nat) : Int) by rw [dm.2, EX.out]; omega), (show (((A + X.toNat + j) % LN s : Nat) : Int) < (L r (s == 2)).getD (b + 1) 0 by rw [dm.2, EY.out]; omega)⟩
              dsimp only [encQ] at hy
              rw [show ((A + X.toNat + j : Nat) : Int) = (A : Int) + X + (j : Int) by omega] at hy
              have HR := Lib.hid hR
              clear hR dm
              gi_wp2
              refine HR.out.mono ?_
              rintro e W3 ⟨rfl, hJ3, hk3, hl3⟩
              have P3 := Lib.hid (hPj.out.keep (fun q hq => hk3.2 q hq))
              have R3 := Lib.hid (rd_keep hRj.out (fun x e => hk3.2 _ (.inr (.inr (.inr (.inr ⟨x, e, rfl⟩))))))
              have J3 := Lib.hid hJ3
              clear hJ3 hk3 hy HR hJj hPj hRj
              gi_wp2
              go_roundw
              case rel => exact ⟨j + 1, by omega, by go_num, congrArg (Value.int .i64) (by push_cast; omega), J3, P3, R3, hl3⟩
              case measure => simp [intOf]; omega
            · have hje : (j : Int) = Y - X := by omega
              have hj2 : ¬ (j : Int) < Y - X := hltj
              have JN : Hid (J (A + (Z (b + 1)).toNat) wr) := Lib.hid (by rw [HY1.out, show A + Y.toNat = A + X.toNat + j by omega]; exact hJj.out)
              clear hJj
              gi_wp2
              go_roundw
              case rel => exact ⟨b + 1, by omega, by go_num, congrArg (Value.int .i64) (by rw [HY1.out]; omega), JN, hPj, hRj, hlj⟩
              case measure => simp [intOf]; omega
        · obtain rfl : b = K := by omega
          have JN : Hid (J ((v + 1) * LN s) wr) := Lib.hid (by rw [Nat.add_mul, HA.out, Nat.one_mul]; have := hJb.out; rw [ZK.out] at this; exact this)
          have hbk : ¬ (b : Int) < (b : Int) := by omega
          clear hJb
          gi_wp2
          go_roundw
          case rel => exact ⟨v + 1, by omega, by go_num, congrArg (Value.int .i64) (by rw [ZK.out, Nat.add_mul, HA.out, Nat.one_mul]; push_cast; rfl), JN, hPb, hRb, hlb⟩
          case measure => simp [intOf]; omega
    · obtain rfl : v = WN s := by omega
      have hJ8 := hJv.out
      rw [HLW.out] at hJ8
      clear hJv hPv hRv
      gi_wp2
      go_end0
      exact ⟨⟨_, rfl⟩, hJ8⟩
end Go.Proofs.YtanjcbnkkhbkkaaDoor.Qn

/- Lines turned at their steps: what is answered to what may not be. -/
namespace Go.Proofs.YtanjcbnkkhbkkaaDoor.Qn
open Go Go.ChangeShapes Go.WideShapes Go.ChangeAt Go.RowKit Go.Proofs.YtanjcbnkkhbkkaaDoor.If

/-- The five boxes that turned lays first. -/
abbrev W5 (w : World) (a b c d e : Obj) : World := ((((w.alloc a).alloc b).alloc c).alloc d).alloc e
theorem al5 (w : World) (a b c d e : Obj) : Below w.heap.size w (W5 w a b c d e) :=
  ((((((Below.refl _ w).alloc (Nat.le_refl _) a).alloc (by simp) b).alloc (by simp; omega) c).alloc (by simp; omega) d).alloc (by simp; omega) e)
theorem w5_0 (w : World) (a b c d e : Obj) : (W5 w a b c d e).heap[w.heap.size]? = some a :=
  (Below.heap_alloc _ _ _ (by simp <;> omega)).trans ((Below.heap_alloc _ _ _ (by simp <;> omega)).trans ((Below.heap_alloc _ _ _ (by simp <;> omega)).trans ((Below.heap_alloc _ _ _ (by simp)).trans (World.alloc_heap_new w a))))
theorem w5_1 (w : World) (a b c d e : Obj) : (W5 w a b c d e).heap[w.heap.size + 1]? = some b := by
  have h := World.alloc_heap_new (w.alloc a) b
  rw [show (w.alloc a).heap.size = w.heap.size + 1 by simp] at h
  exact (Below.heap_alloc _ _ _ (by simp <;> omega)).trans ((Below.heap_alloc _ _ _ (by simp <;> omega)).trans ((Below.heap_alloc _ _ _ (by simp)).trans h))
theorem w5_2 (w : World) (a b c d e : Obj) : (W5 w a b c d e).heap[w.heap.size + 2]? = some c := by
  have h := World.alloc_heap_new ((w.alloc a).alloc b) c
  rw [show ((w.alloc a).alloc b).heap.size = w.heap.size + 2 by simp] at h
  exact (Below.heap_alloc _ _ _ (by simp <;> omega)).trans ((Below.heap_alloc _ _ _ (by simp)).trans h)
theorem w5_3 (w : World) (a b c d e : Obj) : (W5 w a b c d e).heap[w.heap.size + 3]? = some d := by
  have h := World.alloc_heap_new (((w.alloc a).alloc b).alloc c) d
  rw [show (((w.alloc a).alloc b).alloc c).heap.size = w.heap.size + 3 by simp] at h
  exact (Below.heap_alloc _ _ _ (by simp)).trans h
theorem w5_4 (w : World) (a b c d e : Obj) : (W5 w a b c d e).heap[w.heap.size + 4]? = some e := by
  have h := World.alloc_heap_new ((((w.alloc a).alloc b).alloc c).alloc d) e
  rwa [show ((((w.alloc a).alloc b).alloc c).alloc d).heap.size = w.heap.size + 4 by simp] at h
theorem cell_box {w : World} {b : Nat} {t : TypeId} {v : Value} (h : w.heap[b]? = some (.cells #[v] t (0, 0))) : w.cell? ⟨b, 0, none⟩ = some v := by
  simp [World.cell?, h]
theorem w5_size (w : World) (a b c d e : Obj) : (W5 w a b c d e).heap.size = w.heap.size + 5 := by simp
set_option maxRecDepth 100000 in
set_option maxHeartbeats 4000000 in
theorem turned_e1 (r s h m : Int) (ga : Option Addr) (gc : Nat) (gz : List Int) (O P A : Option Addr) (oc pc lc : Nat) (B S : List (List Int)) (lz : List Int) (most : Int) (fn : Nat) (w : World) (hgl : gz.length ≤ 100000) (hB : B.length ≤ 1000) (hS : S.length ≤ 1000) (hBr : ∀ i, i < B.length → (B.getD i []).length ≤ maxLen) (hSr : ∀ i, i < S.length → (S.getD i []).length ≤ maxLen) (hll : lz.length ≤ 100000) (hg : RdA w ga gz) (rB : RdR w O B) (rS : RdR w P S) (rl : RdA w A lz) (c : Int) (hq : QE r s h m gz B S c) (hc : c ≠ 0) :
    Calls Tryd.prog 53 #[.int .i64 r, .agg #[.int .u8 s, .int .u8 h, .int .i64 m, .slice ga gz.length gc], .slice O B.length oc, .slice P S.length pc, .slice A lz.length lc, .int .i64 most, .func (.func fn) #[] #[]] w fun e w' => e = .returned (.tuple #[.slice none 0 0, .int .i64 c]) ∧ Below w.heap.size w w' := by
  have HQ := Lib.hid (fun W (hW : Below w.heap.size w W) => qcheck_ok r s h m ga gc gz O P oc pc B S W hgl hB hS hBr hSr (hg.below hW) (rB.below hW) (rS.below hW) c hq)
  have RL := Lib.hid rl
  clear hg rB rS hq hBr hSr rl
  have hne : (c != 0) = true := by simpa using hc
  clear hc
  go_enter Tryd.func53, Tryd.ntmps53
  go_wp2_with (first | (go_at_call 73; ((with_reducible refine (HQ.out _ (al5 w _ _ _ _ _)).mono ?_); rintro e w1 ⟨rfl, hb1⟩; have B1 := Lib.hid (belowT (al5 w _ _ _ _ _) hb1); have Z := Lib.hid hb1; have cl : w1.cell? ⟨w.heap.size + 3, 0, none⟩ = some (.slice A lz.length lc) := (hb1.cell (p := ⟨w.heap.size + 3, 0, none⟩) (by simp)).trans (cell_box (w5_3 w _ _ _ _ _)); clear hb1)))
  go_ret2
  exact ⟨rfl, B1.out⟩
set_option maxRecDepth 100000 in
set_option maxHeartbeats 4000000 in
theorem turned_e2 (r s h m : Int) (ga : Option Addr) (gc : Nat) (gz : List Int) (O P A : Option Addr) (oc pc lc : Nat) (B S : List (List Int)) (lz : List Int) (most : Int) (fn : Nat) (w : World) (hgl : gz.length ≤ 100000) (hB : B.length ≤ 1000) (hS : S.length ≤ 1000) (hBr : ∀ i, i < B.length → (B.getD i []).length ≤ maxLen) (hSr : ∀ i, i < S.length → (S.getD i []).length ≤ maxLen) (hll : lz.length ≤ 100000) (hg : RdA w ga gz) (rB : RdR w O B) (rS : RdR w P S) (rl : RdA w A lz) (c : Int) (hq : QE r s h m gz B S c) (hc : c = 0) (hl : lz.length ≠ 256) :
    Calls Tryd.prog 53 #[.int .i64 r, .agg #[.int .u8 s, .int .u8 h, .int .i64 m, .slice ga gz.length gc], .slice O B.length oc, .slice P S.length pc, .slice A lz.length lc, .int .i64 most, .func (.func fn) #[] #[]] w fun e w' => e = .returned (.tuple #[.slice none 0 0, .int .i64 4]) ∧ Below w.heap.size w w' := by
  have HQ := Lib.hid (fun W (hW : Below w.heap.size w W) => qcheck_ok r s h m ga gc gz O P oc pc B S W hgl hB hS hBr hSr (hg.below hW) (rB.below hW) (rS.below hW) c hq)
  have RL := Lib.hid rl
  clear hg rB rS hq hBr hSr rl
  subst hc
  have hne : ((lz.length : Int) != 256) = true := by simp; omega
  clear hl
  go_enter Tryd.func53, Tryd.ntmps53
  go_wp2_with (first | (go_at_call 73; ((with_reducible refine (HQ.out _ (al5 w _ _ _ _ _)).mono ?_); rintro e w1 ⟨rfl, hb1⟩; have B1 := Lib.hid (belowT (al5 w _ _ _ _ _) hb1); have Z := Lib.hid hb1; have cl : w1.cell? ⟨w.heap.size + 3, 0, none⟩ = some (.slice A lz.length lc) := (hb1.cell (p := ⟨w.heap.size + 3, 0, none⟩) (by simp)).trans (cell_box (w5_3 w _ _ _ _ _)); clear hb1)))
  go_ret2
  exact ⟨rfl, B1.out⟩
set_option maxRecDepth 100000 in
set_option maxHeartbeats 4000000 in
theorem turned_e3 (r s h m : Int) (ga : Option Addr) (gc : Nat) (gz : List Int) (O P A : Option Addr) (oc pc lc : Nat) (B S : List (List Int)) (lz : List Int) (most : Int) (fn : Nat) (w : World) (hgl : gz.length ≤ 100000) (hB : B.length ≤ 1000) (hS : S.length ≤ 1000) (hBr : ∀ i, i < B.length → (B.getD i []).length ≤ maxLen) (hSr : ∀ i, i < S.length → (S.getD i []).length ≤ maxLen) (hll : lz.length ≤ 100000) (hg : RdA w ga gz) (rB : RdR w O B) (rS : RdR w P S) (rl : RdA w A lz) (c : Int) (hq : QE r s h m gz B S c) (hc : c = 0) (hl : lz.length = 256) (hm0 : 0 ≤ most) (hm1 : most ≤ 1099511627776) (hbad : ∃ j, 0 ≤ j ∧ j < 256 ∧ ¬ (-most ≤ lz.getD j 0 ∧ lz.getD j 0 ≤ most)) :
    Calls Tryd.prog 53 #[.int .i64 r, .agg #[.int .u8 s, .int .u8 h, .int .i64 m, .slice ga gz.length gc], .slice O B.length oc, .slice P S.length pc, .slice A lz.length lc, .int .i64 most, .func (.func fn) #[] #[]] w fun e w' => e = .returned (.tuple #[.slice none 0 0, .int .i64 2]) ∧ Below w.heap.size w w' := by
  have HQ := Lib.hid (fun W (hW : Below w.heap.size w W) => qcheck_ok r s h m ga gc gz O P oc pc B S W hgl hB hS hBr hSr (hg.below hW) (rB.below hW) (rS.below hW) c hq)
  have RL := Lib.hid rl
  clear hg rB rS hq hBr hSr rl
  subst hc
  rw [hl]
  have HBd := Lib.hid hbad
  have HL := Lib.hid hl
  clear hl hbad
  go_enter Tryd.func53, Tryd.ntmps53
  go_wp2_with (first | (go_at_call 73; ((with_reducible refine (HQ.out _ (al5 w _ _ _ _ _)).mono ?_); rintro e w1 ⟨rfl, hb1⟩; have B1 := Lib.hid (belowT (al5 w _ _ _ _ _) hb1); have Z := Lib.hid hb1; have cl : w1.cell? ⟨w.heap.size + 3, 0, none⟩ = some (.slice A 256 lc) := (hb1.cell (p := ⟨w.heap.size + 3, 0, none⟩) (by simp)).trans (cell_box (w5_3 w _ _ _ _ _)); clear hb1)))
  go_loop [35] (fun i => ∃ k : Nat, k ≤ 256 ∧ i = .int .i64 k ∧ Hid (∃ j, k ≤ j ∧ j < 256 ∧ ¬ (-most ≤ lz.getD j 0 ∧ lz.getD j 0 ≤ most))) (fun i => 256 - (intOf i).toNat)
  case atStart => exact ⟨0, by omega, rfl, HBd⟩
  case round =>
    obtain ⟨k, hk, rfl, hI⟩ := hrel
    clear HBd
    by_cases hlt : k < 256
    · obtain ⟨b, off, rfl, lb, c0⟩ := (RL.out.below B1.out) k (by rw [HL.out]; exact hlt)
      by_cases t0 : lz.getD k 0 < -most
      · clear hI
        generalize lz.getD k 0 = X at *
        go_wp2
        go_ret2
        exact ⟨rfl, B1.out⟩
      · by_cases t1 : most < lz.getD k 0
        · clear hI
          generalize lz.getD k 0 = X at *
          go_wp2
          go_ret2
          exact ⟨rfl, B1.out⟩
        · have hN : Hid (∃ j, k + 1 ≤ j ∧ j < 256 ∧ ¬ (-most ≤ lz.getD j 0 ∧ lz.getD j 0 ≤ most)) := Lib.hid (by
            obtain ⟨j, h1, h2, h3⟩ := hI.out
            refine ⟨j, ?_, h2, h3⟩
            by_cases e : j = k
            · subst e; exact absurd ⟨by omega, by omega⟩ h3
            · omega)
          clear hI
          generalize lz.getD k 0 = X at *
          go_wp2
          go_round
          case rel => exact ⟨k + 1, by omega, by go_num, hN⟩
          case measure => simp [intOf]; omega
    · obtain ⟨j, h1, h2, _⟩ := hI.out
      omega
end Go.Proofs.YtanjcbnkkhbkkaaDoor.Qn

/- Plain numbers: what is rounded off. -/
namespace Go.Proofs.YtanjcbnkkhbkkaaDoor.Fx

/-- A number rounded off by so many bits. -/
def rnd (n b : Int) : Int := if b = 0 then n else (n + 2 ^ (b.toNat - 1)) / 2 ^ b.toNat
def clp (n b : Int) : Int := min (max n (-(2 ^ (b.toNat - 1)))) (2 ^ (b.toNat - 1) - 1)

theorem pow_pos' (k : Nat) : (0 : Int) < 2 ^ k := Int.pow_pos (by decide)
theorem pow_succ' {b : Int} (h : 1 ≤ b) : (2 : Int) ^ b.toNat = 2 * 2 ^ (b.toNat - 1) := by
  obtain ⟨k, hk⟩ : ∃ k, b.toNat = k + 1 := ⟨b.toNat - 1, by omega⟩
  rw [hk, Int.pow_succ]; simp; omega
theorem pow_le' {k m : Nat} (h : k ≤ m) : (2 : Int) ^ k ≤ 2 ^ m := by
  obtain ⟨d, rfl⟩ := Nat.exists_eq_add_of_le h
  rw [Int.pow_add]
  have h1 := pow_pos' k
  have h2 := pow_pos' d
  have : (2:Int)^k * 1 ≤ 2 ^ k * 2 ^ d := Int.mul_le_mul_of_nonneg_left (by omega) (by omega)
  omega

theorem rnd_at {n b : Int} (h : 1 ≤ b) : ∃ H : Int, 0 < H ∧ H = 2 ^ (b.toNat - 1) ∧ 2 ^ b.toNat = 2 * H ∧ rnd n b = (n + H) / (2 * H) :=
  ⟨_, pow_pos' _, rfl, pow_succ' h, by unfold rnd; rw [if_neg (by omega), pow_succ' h]⟩

theorem div_lo {x d : Int} (hd : 0 < d) : x / d * d ≤ x := Int.ediv_mul_le x (by omega)
theorem div_hi {x d : Int} (hd : 0 < d) : x < x / d * d + d := by
  have := Int.lt_ediv_add_one_mul_self x hd
  rw [Int.add_mul] at this; omega
theorem div_mono {x y d : Int} (hd : 0 < d) (h : x ≤ y) : x / d ≤ y / d := Int.ediv_le_ediv hd h

theorem rnd_mono {n m b : Int} (hb : 0 ≤ b) (h : n ≤ m) : rnd n b ≤ rnd m b := by
  by_cases e : b = 0
  · subst e; simpa [rnd] using h
  · obtain ⟨H, h0, _, _, e1⟩ := rnd_at (n := n) (b := b) (by omega)
    obtain ⟨H', _, _, _, e2⟩ := rnd_at (n := m) (b := b) (by omega)
    have : H = H' := by omega
    subst this
    rw [e1, e2]
    exact div_mono (by omega) (by omega)

theorem rnd_near {n b : Int} (hb : 1 ≤ b) : -(2 ^ (b.toNat - 1)) ≤ n - rnd n b * 2 ^ b.toNat ∧ n - rnd n b * 2 ^ b.toNat < 2 ^ (b.toNat - 1) := by
  obtain ⟨H, h0, e0, e1, e2⟩ := rnd_at (n := n) hb
  rw [e2, e1, ← e0]
  have l := div_lo (x := n + H) (d := 2 * H) (by omega)
  have u := div_hi (x := n + H) (d := 2 * H) (by omega)
  omega

theorem rnd_bd {n b : Int} (hb : 0 ≤ b) (h1 : -4611686018427387904 ≤ n) (h2 : n ≤ 4611686018427387904) : -4611686018427387904 ≤ rnd n b ∧ rnd n b ≤ 4611686018427387904 := by
  by_cases e : b = 0
  · subst e; simpa [rnd] using ⟨h1, h2⟩
  · obtain ⟨H, h0, _, _, e2⟩ := rnd_at (n := n) (b := b) (by omega)
    rw [e2]
    constructor
    · rw [Int.le_ediv_iff_mul_le (by omega)]; 
      have : (4611686018427387904 : Int) * 1 ≤ 4611686018427387904 * (2 * H) := Int.mul_le_mul_of_nonneg_left (by omega) (by omega)
      omega
    · have : (n + H) / (2 * H) < 4611686018427387904 + 1 := by
        rw [Int.ediv_lt_iff_lt_mul (by omega)]
        have : (4611686018427387904 : Int) * (2 * H) = 9223372036854775808 * H := by omega
        have h3 : (4611686018427387904 : Int) * 1 ≤ 4611686018427387904 * H := Int.mul_le_mul_of_nonneg_left (by omega) (by omega)
        omega
      omega

theorem rnd_sum {n m b : Int} (hb : 0 ≤ b) : -1 ≤ rnd n b + rnd m b - rnd (n + m) b ∧ rnd n b + rnd m b - rnd (n + m) b ≤ 1 := by
  by_cases e : b = 0
  · subst e; simp [rnd]
  · obtain ⟨H, h0, e0, _, e1⟩ := rnd_at (n := n) (b := b) (by omega)
    obtain ⟨H', _, e0', _, e2⟩ := rnd_at (n := m) (b := b) (by omega)
    obtain ⟨H'', _, e0'', _, e3⟩ := rnd_at (n := n + m) (b := b) (by omega)
    obtain rfl : H = H' := by omega
    obtain rfl : H = H'' := by omega
    rw [e1, e2, e3]
    clear e1 e2 e3 e0 e0' e0''
    have l1 := div_lo (x := n + H) (d := 2 * H) (by omega)
    have u1 := div_hi (x := n + H) (d := 2 * H) (by omega)
    have l2 := div_lo (x := m + H) (d := 2 * H) (by omega)
    have u2 := div_hi (x := m + H) (d := 2 * H) (by omega)
    have l3 := div_lo (x := n + m + H) (d := 2 * H) (by omega)
    have u3 := div_hi (x := n + m + H) (d := 2 * H) (by omega)
    generalize (n + H) / (2 * H) = a at *
    generalize (m + H) / (2 * H) = b' at *
    generalize (n + m + H) / (2 * H) = c at *
    have k1 : (a + b' - c) * (2 * H) = a * (2 * H) + b' * (2 * H) - c * (2 * H) := by rw [Int.sub_mul, Int.add_mul]
    constructor
    · refine Int.not_lt.1 fun hlt => ?_
      have : (a + b' - c) * (2 * H) ≤ -2 * (2 * H) := Int.mul_le_mul_of_nonneg_right (by omega) (by omega)
      omega
    · refine Int.not_lt.1 fun hlt => ?_
      have : 2 * (2 * H) ≤ (a + b' - c) * (2 * H) := Int.mul_le_mul_of_nonneg_right (by omega) (by omega)
      omega

theorem rnd_neg {n b : Int} (hb : 0 ≤ b) : 0 ≤ rnd n b + rnd (-n) b ∧ rnd n b + rnd (-n) b ≤ 1 := by
  by_cases e : b = 0
  · subst e; simp [rnd]; omega
  · obtain ⟨H, h0, e0, _, e1⟩ := rnd_at (n := n) (b := b) (by omega)
    obtain ⟨H', _, e0', _, e2⟩ := rnd_at (n := -n) (b := b) (by omega)
    obtain rfl : H = H' := by omega
    rw [e1, e2]
    clear e1 e2 e0 e0'
    have l1 := div_lo (x := n + H) (d := 2 * H) (by omega)
    have u1 := div_hi (x := n + H) (d := 2 * H) (by omega)
    have l2 := div_lo (x := -n + H) (d := 2 * H) (by omega)
    have u2 := div_hi (x := -n + H) (d := 2 * H) (by omega)
    generalize (n + H) / (2 * H) = a at *
    generalize (-n + H) / (2 * H) = d at *
    have k1 : (a + d) * (2 * H) = a * (2 * H) + d * (2 * H) := by rw [Int.add_mul]
    constructor
    · refine Int.not_lt.1 fun hlt => ?_
      have : (a + d) * (2 * H) ≤ -1 * (2 * H) := Int.mul_le_mul_of_nonneg_right (by omega) (by omega)
      omega
    · refine Int.not_lt.1 fun hlt => ?_
      have : 2 * (2 * H) ≤ (a + d) * (2 * H) := Int.mul_le_mul_of_nonneg_right (by omega) (by omega)
      omega

theorem rnd_twice {n b c : Int} (hb : 0 ≤ b) (hc : 0 ≤ c) : rnd (rnd n b) c = rnd n (b + c) ∨ rnd (rnd n b) c = rnd n (b + c) + 1 := by
  by_cases e : b = 0
  · subst e; left; simp [rnd]
  by_cases e' : c = 0
  · subst e'; left; simp [rnd]
  obtain ⟨H, h0, e0, p0, e1⟩ := rnd_at (n := n) (b := b) (by omega)
  obtain ⟨K, k0, f0, q0, f1⟩ := rnd_at (n := rnd n b) (b := c) (by omega)
  obtain ⟨L, l0, g0, r0, g1⟩ := rnd_at (n := n) (b := b + c) (by omega)
  have hL : L = 2 * H * K := by
    have e : (2 : Int) ^ (b + c).toNat = 2 ^ b.toNat * 2 ^ c.toNat := by
      rw [← Int.pow_add]; congr 1; omega
    rw [r0, p0, q0] at e
    have e2 : 2 * H * (2 * K) = 2 * (2 * H * K) := by rw [Int.mul_left_comm]
    omega
  rw [f1, g1, e1]
  have hHK : 0 < H * K := Int.mul_pos h0 k0
  have x1 : ((n + H) / (2 * H) + K) / (2 * K) = (n + H + L) / (2 * L) := by
    have : (n + H) / (2 * H) + K = (n + H + K * (2 * H)) / (2 * H) := by
      rw [Int.add_mul_ediv_right _ _ (by omega)]
    rw [this, Int.ediv_ediv_of_nonneg (by omega)]
    have a1 : K * (2 * H) = L := by rw [hL, Int.mul_comm]
    have a2 : 2 * H * (2 * K) = 2 * L := by rw [hL, Int.mul_left_comm]
    rw [a1, a2]
  rw [x1]
  have hHL : H ≤ L := by
    have : H * 1 ≤ H * (2 * K) := Int.mul_le_mul_of_nonneg_left (by omega) (by omega)
    have e3 : H * (2 * K) = 2 * H * K := by rw [Int.mul_left_comm, Int.mul_assoc]
    omega
  have m1 := div_mono (x := n + L) (y := n + H + L) (d := 2 * L) (by omega) (by omega)
  have m2 := div_mono (x := n + H + L) (y := n + L + 1 * (2 * L)) (d := 2 * L) (by omega) (by omega)
  rw [Int.add_mul_ediv_right _ _ (by omega)] at m2
  omega

end Go.Proofs.YtanjcbnkkhbkkaaDoor.Fx

/- Plain numbers: roots. -/
namespace Go.Proofs.YtanjcbnkkhbkkaaDoor.Fx
theorem ppos (k : Nat) : (0 : Int) < 2 ^ k := Int.pow_pos (by decide)
theorem psucc (k : Nat) : (2 : Int) ^ (k + 1) = 2 * 2 ^ k := by rw [Int.pow_succ]; omega

/-- r is what is known of a square root when k bits are still to come. -/
def Sq (n r : Int) (k : Nat) : Prop := (∃ s : Nat, r = 2 ^ k * (s : Int)) ∧ r * r ≤ n ∧ n < (r + 2 ^ k) * (r + 2 ^ k) ∧ r + 2 ^ k ≤ 4294967296
def Cb (n r : Int) (k : Nat) : Prop := (∃ s : Nat, r = 2 ^ k * (s : Int)) ∧ r * r * r ≤ n ∧ n < (r + 2 ^ k) * (r + 2 ^ k) * (r + 2 ^ k) ∧ r + 2 ^ k ≤ 2097152

theorem or_of {r : Int} {k s : Nat} (h : r = 2 ^ (k + 1) * (s : Int)) : (((r.toNat ||| (2 ^ k : Int).toNat : Nat)) : Int) = r + 2 ^ k := by
  have e1 : r.toNat = 2 ^ (k + 1) * s := by
    rw [h]
    have : (2 : Int) ^ (k + 1) * (s : Int) = ((2 ^ (k + 1) * s : Nat) : Int) := by simp
    rw [this, Int.toNat_natCast]
  have e2 : ((2 : Int) ^ k).toNat = 2 ^ k := by
    have : (2 : Int) ^ k = ((2 ^ k : Nat) : Int) := by simp
    rw [this, Int.toNat_natCast]
  rw [e1, e2, ← Nat.two_pow_add_eq_or_of_lt (Nat.pow_lt_pow_right (by decide) (Nat.lt_succ_self k)), h]
  simp

theorem nn {r : Int} {k : Nat} (h : ∃ s : Nat, r = 2 ^ k * (s : Int)) : 0 ≤ r := by
  obtain ⟨s, rfl⟩ := h
  exact Int.mul_nonneg (by have := ppos k; omega) (by omega)
theorem half {r : Int} {k : Nat} (h : ∃ s : Nat, r = 2 ^ (k + 1) * (s : Int)) : ∃ s : Nat, r = 2 ^ k * (s : Int) := by
  obtain ⟨s, rfl⟩ := h
  exact ⟨2 * s, by rw [psucc]; simp; rw [Int.mul_comm 2, Int.mul_assoc]⟩
theorem half' {r : Int} {k : Nat} (h : ∃ s : Nat, r = 2 ^ (k + 1) * (s : Int)) : ∃ s : Nat, r + 2 ^ k = 2 ^ k * (s : Int) := by
  obtain ⟨s, e⟩ := half h
  exact ⟨s + 1, by rw [e]; simp [Int.mul_add]⟩

theorem sq_yes {n r : Int} {k : Nat} (h : Sq n r (k + 1)) (hc : (r + 2 ^ k) * (r + 2 ^ k) ≤ n) : Sq n (r + 2 ^ k) k := by
  obtain ⟨h1, h2, h3, h4⟩ := h
  have e : r + 2 ^ (k + 1) = r + 2 ^ k + 2 ^ k := by rw [psucc]; omega
  exact ⟨half' h1, hc, by rw [← e]; exact h3, by rw [← e]; exact h4⟩
theorem sq_no {n r : Int} {k : Nat} (h : Sq n r (k + 1)) (hc : ¬ (r + 2 ^ k) * (r + 2 ^ k) ≤ n) : Sq n r k := by
  obtain ⟨h1, h2, h3, h4⟩ := h
  have e : r + 2 ^ (k + 1) = r + 2 ^ k + 2 ^ k := by rw [psucc]; omega
  have := ppos k
  exact ⟨half h1, h2, Int.not_le.1 hc, by omega⟩
theorem cb_yes {n r : Int} {k : Nat} (h : Cb n r (k + 1)) (hc : (r + 2 ^ k) * (r + 2 ^ k) * (r + 2 ^ k) ≤ n) : Cb n (r + 2 ^ k) k := by
  obtain ⟨h1, h2, h3, h4⟩ := h
  have e : r + 2 ^ (k + 1) = r + 2 ^ k + 2 ^ k := by rw [psucc]; omega
  exact ⟨half' h1, hc, by rw [← e]; exact h3, by rw [← e]; exact h4⟩
theorem cb_no {n r : Int} {k : Nat} (h : Cb n r (k + 1)) (hc : ¬ (r + 2 ^ k) * (r + 2 ^ k) * (r + 2 ^ k) ≤ n) : Cb n r k := by
  obtain ⟨h1, h2, h3, h4⟩ := h
  have e : r + 2 ^ (k + 1) = r + 2 ^ k + 2 ^ k := by rw [psucc]; omega
  have := ppos k
  exact ⟨half h1, h2, Int.not_le.1 hc, by omega⟩

/-- What a step squares is no greater than a word. -/
theorem sq_bd {n r : Int} {k : Nat} (h : Sq n r (k + 1)) : 0 ≤ r + 2 ^ k ∧ r + 2 ^ k < 4294967296 ∧ (r + 2 ^ k) * (r + 2 ^ k) < 18446744073709551616 ∧ 0 ≤ (r + 2 ^ k) * (r + 2 ^ k) := by
  obtain ⟨h1, h2, h3, h4⟩ := h
  have a := nn h1
  have p := ppos k
  rw [psucc] at h4
  have b : r + 2 ^ k < 4294967296 := by omega
  have c : (r + 2 ^ k) * (r + 2 ^ k) ≤ 4294967295 * 4294967295 := Int.mul_le_mul (by omega) (by omega) (by omega) (by omega)
  exact ⟨by omega, b, by omega, Int.mul_nonneg (by omega) (by omega)⟩
theorem cb_bd {n r : Int} {k : Nat} (h : Cb n r (k + 1)) : 0 ≤ r + 2 ^ k ∧ r + 2 ^ k < 2097152 ∧ 0 ≤ (r + 2 ^ k) * (r + 2 ^ k) ∧ (r + 2 ^ k) * (r + 2 ^ k) < 4398046511104 ∧ (r + 2 ^ k) * (r + 2 ^ k) * (r + 2 ^ k) < 9223372036854775808 ∧ 0 ≤ (r + 2 ^ k) * (r + 2 ^ k) * (r + 2 ^ k) := by
  obtain ⟨h1, h2, h3, h4⟩ := h
  have a := nn h1
  have p := ppos k
  rw [psucc] at h4
  have b : r + 2 ^ k < 2097152 := by omega
  have c : (r + 2 ^ k) * (r + 2 ^ k) ≤ 2097151 * 2097151 := Int.mul_le_mul (by omega) (by omega) (by omega) (by omega)
  have c0 : 0 ≤ (r + 2 ^ k) * (r + 2 ^ k) := Int.mul_nonneg (by omega) (by omega)
  have d : (r + 2 ^ k) * (r + 2 ^ k) * (r + 2 ^ k) ≤ (2097151 * 2097151) * 2097151 := Int.mul_le_mul c (by omega) (by omega) (by omega)
  exact ⟨by omega, b, c0, by omega, by omega, Int.mul_nonneg c0 (by omega)⟩

/-- The roots. -/
def IsSqrt (n r : Int) : Prop := 0 ≤ r ∧ r * r ≤ n ∧ n < (r + 1) * (r + 1)
def IsCbrt (n r : Int) : Prop := 0 ≤ r ∧ r * r * r ≤ n ∧ n < (r + 1) * (r + 1) * (r + 1)
theorem sq_end {n r : Int} (h : Sq n r 0) : IsSqrt n r := ⟨nn h.1, h.2.1, by simpa using h.2.2.1⟩
theorem cb_end {n r : Int} (h : Cb n r 0) : IsCbrt n r := ⟨nn h.1, h.2.1, by simpa using h.2.2.1⟩
theorem sq_start {n : Int} (h0 : 0 ≤ n) (h1 : n ≤ 4611686018427387904) : Sq n 0 32 := ⟨⟨0, by simp⟩, by simpa using h0, by simp; omega, by simp⟩
theorem cb_start {n : Int} (h0 : 0 ≤ n) (h1 : n ≤ 4611686018427387904) : Cb n 0 21 := ⟨⟨0, by simp⟩, by simpa using h0, by simp; omega, by simp⟩

theorem lt_of_sq {a b : Int} (ha : 0 ≤ a) (hb : 0 ≤ b) (h : a * a < b * b) : a < b := by
  refine Int.not_le.1 fun hle => ?_
  have := Int.mul_le_mul hle hle hb ha
  omega
theorem lt_of_cb {a b : Int} (ha : 0 ≤ a) (hb : 0 ≤ b) (h : a * a * a < b * b * b) : a < b := by
  refine Int.not_le.1 fun hle => ?_
  have h1 := Int.mul_le_mul hle hle hb ha
  have := Int.mul_le_mul h1 hle hb (Int.mul_nonneg ha ha)
  omega
theorem sqrt_mono {n m r s : Int} (h1 : IsSqrt n r) (h2 : IsSqrt m s) (h : n ≤ m) : r ≤ s := by
  obtain ⟨a1, a2, a3⟩ := h1
  obtain ⟨b1, b2, b3⟩ := h2
  have := lt_of_sq (a := r) (b := s + 1) a1 (by omega) (by omega)
  omega
theorem cbrt_mono {n m r s : Int} (h1 : IsCbrt n r) (h2 : IsCbrt m s) (h : n ≤ m) : r ≤ s := by
  obtain ⟨a1, a2, a3⟩ := h1
  obtain ⟨b1, b2, b3⟩ := h2
  have := lt_of_cb (a := r) (b := s + 1) a1 (by omega) (by omega)
  omega
theorem sqrt_one {n r s : Int} (h1 : IsSqrt n r) (h2 : IsSqrt n s) : r = s := by
  have := sqrt_mono h1 h2 (by omega); have := sqrt_mono h2 h1 (by omega); omega
theorem cbrt_one {n r s : Int} (h1 : IsCbrt n r) (h2 : IsCbrt n s) : r = s := by
  have := cbrt_mono h1 h2 (by omega); have := cbrt_mono h2 h1 (by omega); omega
theorem sqrt_of {s : Int} (h : 0 ≤ s) : IsSqrt (s * s) s := ⟨h, by omega, by
  have : (s + 1) * (s + 1) = s * s + s + s + 1 := by rw [Int.add_mul, Int.mul_add]; omega
  omega⟩
theorem cbrt_of {s : Int} (h : 0 ≤ s) : IsCbrt (s * s * s) s := ⟨h, by omega, by
  have e : (s + 1) * (s + 1) = s * s + s + s + 1 := by rw [Int.add_mul, Int.mul_add]; omega
  rw [e]
  have e2 : (s * s + s + s + 1) * (s + 1) = s * s * s + (s * s + s * s + s * s) + s + s + s + 1 := by
    rw [Int.mul_add, Int.add_mul, Int.add_mul, Int.add_mul]; omega
  have := Int.mul_nonneg h h
  omega⟩
theorem sqrt_bd {n r : Int} (h : IsSqrt n r) (h1 : n ≤ 4611686018427387904) : r ≤ 2147483648 := by
  obtain ⟨a1, a2, a3⟩ := h
  have := lt_of_sq (a := r) (b := 2147483649) a1 (by omega) (by omega)
  omega
theorem cbrt_bd {n r : Int} (h : IsCbrt n r) (h1 : n ≤ 4611686018427387904) : r ≤ 1664510 := by
  obtain ⟨a1, a2, a3⟩ := h
  have := lt_of_cb (a := r) (b := 1664511) a1 (by omega) (by omega)
  omega
/-- What a law asks by dividing. -/
theorem sqrt_div {n r : Int} (h : IsSqrt n r) (h0 : 0 < r) : r ≤ n / r := by
  obtain ⟨a1, a2, a3⟩ := h
  exact (Int.le_ediv_iff_mul_le h0).2 a2
theorem sqrt_div' {n r : Int} (h : IsSqrt n r) : n / (r + 1) < r + 1 := by
  obtain ⟨a1, a2, a3⟩ := h
  exact (Int.ediv_lt_iff_lt_mul (by omega)).2 a3
theorem cbrt_div {n r : Int} (h : IsCbrt n r) (h0 : 0 < r) : r * r ≤ n / r := by
  obtain ⟨a1, a2, a3⟩ := h
  exact (Int.le_ediv_iff_mul_le h0).2 a2
theorem cbrt_div' {n r : Int} (h : IsCbrt n r) : n / (r + 1) < (r + 1) * (r + 1) := by
  obtain ⟨a1, a2, a3⟩ := h
  exact (Int.ediv_lt_iff_lt_mul (by omega)).2 a3
end Go.Proofs.YtanjcbnkkhbkkaaDoor.Fx

/- Numbers of powers and lines, plain. -/
namespace Go.Proofs.YtanjcbnkkhbkkaaDoor.Fx
open Go

theorem cbrt_ex : ∀ n : Nat, ∃ r : Int, IsCbrt (n : Int) r
  | 0 => ⟨0, Int.le_refl 0, by decide, by decide⟩
  | n + 1 => by
    obtain ⟨r, h0, h1, h2⟩ := cbrt_ex n
    by_cases h : (r + 1) * (r + 1) * (r + 1) ≤ ((n + 1 : Nat) : Int)
    · refine ⟨r + 1, by omega, h, ?_⟩
      have e : (r + 1 + 1) * (r + 1 + 1) * (r + 1 + 1) = (r + 1) * (r + 1) * (r + 1) + (3 * ((r + 1) * (r + 1)) + 3 * (r + 1) + 1) := by
        generalize r + 1 = t
        simp only [Int.add_mul, Int.mul_add, Int.one_mul, Int.mul_one]; omega
      have g : 0 ≤ (r + 1) * (r + 1) := Int.mul_nonneg (by omega) (by omega)
      rw [e]
      generalize (r + 1) * (r + 1) * (r + 1) = c at *
      generalize (r + 1) * (r + 1) = d at *
      omega
    · exact ⟨r, h0, by omega, by omega⟩
/-- The third root. -/
noncomputable def cbF (n : Int) : Int := Classical.choose (cbrt_ex n.toNat)
theorem cbF_is {n : Int} (h : 0 ≤ n) : IsCbrt n (cbF n) := by
  have a : IsCbrt ((n.toNat : Nat) : Int) (cbF n) := Classical.choose_spec (cbrt_ex n.toNat)
  have e : ((n.toNat : Nat) : Int) = n := Int.toNat_of_nonneg h
  generalize cbF n = r at *
  rw [e] at a
  exact a
theorem cbF_of {n r : Int} (h : IsCbrt n r) : r = cbF n := cbrt_one h (cbF_is (by
  have a : 0 ≤ r * r * r := Int.mul_nonneg (Int.mul_nonneg h.1 h.1) h.1
  have := h.2.1
  omega))
theorem cbF_mono {n m : Int} (h0 : 0 ≤ n) (h : n ≤ m) : cbF n ≤ cbF m := cbrt_mono (cbF_is h0) (cbF_is (by omega)) h

/-- Powers. -/
noncomputable def fo (q : Int) : Int := q * cbF (q * 68719476736)
theorem fo_zero : fo 0 = 0 := by unfold fo; rw [Int.zero_mul]
theorem cb_lo {q : Int} (h : 1 ≤ q) : 4096 ≤ cbF (q * 68719476736) :=
  cbrt_mono (n := 68719476736) (r := 4096) (by refine ⟨by decide, by decide, by decide⟩) (cbF_is (by omega)) (by omega)
theorem cb_hi {q : Int} (h0 : 0 ≤ q) (h : q ≤ 8191) : cbF (q * 68719476736) ≤ 82566 :=
  cbrt_mono (m := 562881233944576) (s := 82566) (cbF_is (by omega)) (by refine ⟨by decide, by decide, by decide⟩) (by omega)
theorem cb_nn {q : Int} (h0 : 0 ≤ q) : 0 ≤ cbF (q * 68719476736) := (cbF_is (by omega)).1
theorem fo_bd {q : Int} (h0 : 0 ≤ q) (h : q ≤ 8191) : 0 ≤ fo q ∧ fo q ≤ 676298106 := by
  have a := cb_nn h0
  have b := cb_hi h0 h
  unfold fo
  exact ⟨Int.mul_nonneg h0 a, by have : q * cbF (q * 68719476736) ≤ 8191 * 82566 := Int.mul_le_mul h b a (by omega); omega⟩
theorem fo_mono {p q : Int} (h0 : 0 ≤ p) (h : p ≤ q) : fo p ≤ fo q :=
  Int.mul_le_mul h (cbF_mono (by omega) (by omega)) (cb_nn h0) (by omega)
theorem fo_lo {q : Int} (h : 1 ≤ q) : 4096 ≤ fo q := by
  have : 1 * 4096 ≤ q * cbF (q * 68719476736) := Int.mul_le_mul h (cb_lo h) (by omega) (by omega)
  unfold fo; omega

/-- A step's quarter power, and the bits that are rounded off. -/
def qt (s : Int) : Int := if s % 4 = 0 then 1073741824 else if s % 4 = 1 then 1276901417 else if s % 4 = 2 then 1518500250 else 1805811301
def bt' (s : Int) : Int := max (61 - s / 4) 0
theorem qt_bd (s : Int) : 1073741824 ≤ qt s ∧ qt s ≤ 1805811301 := by unfold qt; split <;> (try split) <;> (try split) <;> omega
theorem bt'_bd {s : Int} (h0 : 0 ≤ s) : 0 ≤ bt' s ∧ bt' s ≤ 61 := by unfold bt'; omega
/-- The line of a number from 0 on. -/
noncomputable def ln (q s : Int) : Int := min (rnd (fo q * qt s) (bt' s)) 268435455
theorem rnd_zero {b : Int} (h : 0 ≤ b) : rnd 0 b = 0 := by
  by_cases e : b = 0
  · subst e; rfl
  · obtain ⟨H, h0, _, _, e2⟩ := rnd_at (n := 0) (b := b) (by omega)
    rw [e2]; exact Int.ediv_eq_zero_of_lt (by omega) (by omega)
theorem rnd_nn {n b : Int} (h : 0 ≤ b) (hn : 0 ≤ n) : 0 ≤ rnd n b := by have := rnd_mono h hn; rwa [rnd_zero h] at this
theorem ln_zero {s : Int} (h : 0 ≤ s) : ln 0 s = 0 := by unfold ln; rw [fo_zero, Int.zero_mul, rnd_zero (bt'_bd h).1]; rfl
theorem ln_mono {p q s : Int} (hs : 0 ≤ s) (h0 : 0 ≤ p) (h : p ≤ q) : ln p s ≤ ln q s := by
  have a := rnd_mono (bt'_bd hs).1 (Int.mul_le_mul_of_nonneg_right (fo_mono h0 h) (by have := qt_bd s; omega) : fo p * qt s ≤ fo q * qt s)
  unfold ln; omega
theorem ln_bd {q s : Int} (hs : 0 ≤ s) (h0 : 0 ≤ q) : 0 ≤ ln q s ∧ ln q s ≤ 268435455 := by
  have a := ln_mono hs (Int.le_refl 0) h0
  rw [ln_zero hs] at a
  exact ⟨a, by unfold ln; omega⟩
theorem pr_bd {q s : Int} (h0 : 0 ≤ q) (h : q ≤ 8191) : 0 ≤ fo q * qt s ∧ fo q * qt s ≤ 4611686018427387904 := by
  obtain ⟨a, b⟩ := fo_bd h0 h
  obtain ⟨c, d⟩ := qt_bd s
  exact ⟨Int.mul_nonneg a (by omega), by have : fo q * qt s ≤ 676298106 * 1805811301 := Int.mul_le_mul b d (by omega) (by omega); omega⟩
/-- Twice a number, rounded off by a bit more. -/
theorem rnd_double {n b : Int} (hb : 1 ≤ b) : rnd (2 * n) b = rnd n (b - 1) := by
  by_cases e : b = 1
  · subst e
    show rnd (2 * n) 1 = rnd n 0
    unfold rnd
    rw [if_neg (by decide), if_pos rfl]
    show (2 * n + 1) / 2 = n
    omega
  · obtain ⟨H, h0, e0, e1, e2⟩ := rnd_at (n := 2 * n) (b := b) hb
    obtain ⟨K, k0, f0, f1, f2⟩ := rnd_at (n := n) (b := b - 1) (by omega)
    have hk : H = 2 * K := by
      rw [e0, ← f1, show (b - 1).toNat = b.toNat - 1 by omega]
    rw [e2, f2, hk, show 2 * n + 2 * K = 2 * (n + K) by omega, Int.mul_ediv_mul_of_pos _ _ (by omega)]
theorem ln_step {q s : Int} (hs : 0 ≤ s) (hs1 : s < 255) (h0 : 0 ≤ q) (hq : q ≤ 8191) : ln q s ≤ ln q (s + 1) := by
  obtain ⟨f0, f1⟩ := fo_bd h0 hq
  by_cases h3 : s % 4 = 3
  · have e1 : qt s = 1805811301 := by unfold qt; rw [if_neg (by omega), if_neg (by omega), if_neg (by omega)]
    have e2 : qt (s + 1) = 1073741824 := by unfold qt; rw [if_pos (by omega)]
    by_cases hb : 1 ≤ bt' s
    · have e3 : bt' (s + 1) = bt' s - 1 := by unfold bt' at *; omega
      have a := rnd_mono (bt'_bd hs).1 (show fo q * qt s ≤ 2 * (fo q * qt (s + 1)) by rw [e1, e2]; omega)
      rw [rnd_double hb, ← e3] at a
      unfold ln; omega
    · have e3 : bt' (s + 1) = 0 := by unfold bt' at *; omega
      by_cases hz : q = 0
      · subst hz; rw [ln_zero hs, ln_zero (by omega)]; exact Int.le_refl _
      · have := fo_lo (q := q) (by omega)
        have : rnd (fo q * qt (s + 1)) (bt' (s + 1)) = fo q * 1073741824 := by rw [e2, e3]; rfl
        unfold ln; rw [this]; omega
  · have e3 : bt' (s + 1) = bt' s := by unfold bt'; omega
    have e4 : qt s ≤ qt (s + 1) := by unfold qt; split <;> (try split) <;> (try split) <;> (try split) <;> (try split) <;> omega
    have a := rnd_mono (bt'_bd hs).1 (Int.mul_le_mul_of_nonneg_left e4 f0 : fo q * qt s ≤ fo q * qt (s + 1))
    unfold ln; rw [e3]; omega

/-- The line of any number that may be. -/
noncomputable def LN (q s : Int) : Int := if q < 0 then -ln (-q) s else ln q s
theorem LN_neg {q s : Int} (hs : 0 ≤ s) : LN (-q) s = -LN q s := by
  unfold LN
  by_cases h : q < 0
  · rw [if_pos h, if_neg (by omega)]; omega
  · by_cases e : q = 0
    · subst e; rw [if_neg (by decide), if_neg (by decide)]; show ln 0 s = -ln 0 s; rw [ln_zero hs]; rfl
    · rw [if_neg h, if_pos (by omega), Int.neg_neg]
theorem LN_pos {q s : Int} (h : 0 ≤ q) : LN q s = ln q s := by unfold LN; rw [if_neg (by omega)]
theorem LN_bd {q s : Int} (hs : 0 ≤ s) : -268435455 ≤ LN q s ∧ LN q s ≤ 268435455 := by
  unfold LN
  split
  · have := ln_bd (q := -q) hs (by omega); omega
  · have := ln_bd (q := q) hs (by omega); omega
theorem LN_mono {p q s : Int} (hs : 0 ≤ s) (h : p ≤ q) : LN p s ≤ LN q s := by
  unfold LN
  split
  · split
    · have := ln_mono (p := -q) (q := -p) hs (by omega) (by omega); omega
    · have a := ln_bd (q := -p) hs (by omega); have b := ln_bd (q := q) hs (by omega); omega
  · rw [if_neg (by omega)]; exact ln_mono hs (by omega) h
theorem LN_step {q s : Int} (hs : 0 ≤ s) (hs1 : s < 255) (h0 : -8191 ≤ q) (hq : q ≤ 8191) : (0 ≤ q → LN q s ≤ LN q (s + 1)) ∧ (q ≤ 0 → LN q (s + 1) ≤ LN q s) := by
  constructor
  · intro h; rw [LN_pos h, LN_pos h]; exact ln_step hs hs1 h hq
  · intro h
    have := ln_step (q := -q) hs hs1 (by omega) (by omega)
    have e1 := LN_neg (q := -q) hs
    have e2 := LN_neg (q := -q) (s := s + 1) (by omega)
    rw [Int.neg_neg, LN_pos (q := -q) (by omega)] at e1 e2
    omega

/-- The nearest number of a line from 0 on. -/
def Near (x s r : Int) : Prop := 0 ≤ r ∧ r ≤ 8191 ∧ (r = 8191 ∨ 2 * x ≤ ln r s + ln (r + 1) s) ∧ (r = 0 ∨ ln (r - 1) s + ln r s < 2 * x)
theorem near_mono {x y s r t : Int} (hs : 0 ≤ s) (hx : Near x s r) (hy : Near y s t) (h : x ≤ y) : r ≤ t := by
  obtain ⟨r0, r1, r2, r3⟩ := hx
  obtain ⟨t0, t1, t2, t3⟩ := hy
  refine Int.not_lt.1 fun hlt => ?_
  have a := ln_mono (p := t) (q := r - 1) hs t0 (by omega)
  have b := ln_mono (p := t + 1) (q := r) hs (by omega) (by omega)
  omega
theorem near_one {x s r t : Int} (hs : 0 ≤ s) (hx : Near x s r) (hy : Near x s t) : r = t := by
  have := near_mono hs hx hy (Int.le_refl _); have := near_mono hs hy hx (Int.le_refl _); omega
theorem near_best {x s r q : Int} (hs : 0 ≤ s) (h : Near x s r) (hx : 0 ≤ x) (hq : q ≤ 8191) : (x - ln r s ≤ x - LN q s ∨ x - ln r s ≤ LN q s - x) ∧ (ln r s - x ≤ x - LN q s ∨ ln r s - x ≤ LN q s - x) := by
  obtain ⟨r0, r1, r2, r3⟩ := h
  have z := ln_bd (q := r) hs r0
  by_cases hn : q < 0
  · have a : LN q s ≤ 0 := by have := LN_mono (p := q) (q := 0) hs (by omega); rwa [LN_pos (Int.le_refl 0), ln_zero hs] at this
    by_cases e : r = 0
    · subst e; rw [ln_zero hs]; omega
    · have b := ln_bd (q := r - 1) hs (by omega)
      omega
  · rw [LN_pos (by omega)]
    by_cases hlt : q < r
    · have a := ln_mono (p := q) (q := r - 1) hs (by omega) (by omega)
      have b := ln_mono (p := q) (q := r) hs (by omega) (by omega)
      omega
    · by_cases e : q = r
      · subst e; omega
      · have a := ln_mono (p := r + 1) (q := q) hs (by omega) (by omega)
        have b := ln_mono (p := r) (q := q) hs (by omega) (by omega)
        omega
/-- The nearest number of any line that may be. -/
def NearS (x s r : Int) : Prop := if x < 0 then Near (-x) s (-r) else Near x s r
theorem nearS_bd {x s r : Int} (h : NearS x s r) : -8191 ≤ r ∧ r ≤ 8191 := by
  unfold NearS at h
  split at h
  · have := h.1; have := h.2.1; omega
  · have := h.1; have := h.2.1; omega
theorem nearS_best {x s r q : Int} (hs : 0 ≤ s) (h : NearS x s r) (h0 : -8191 ≤ q) (hq : q ≤ 8191) : (x - LN r s ≤ x - LN q s ∨ x - LN r s ≤ LN q s - x) ∧ (LN r s - x ≤ x - LN q s ∨ LN r s - x ≤ LN q s - x) := by
  unfold NearS at h
  by_cases hx : x < 0
  · rw [if_pos hx] at h
    have a := near_best (q := -q) hs h (by omega) (by omega)
    rw [LN_neg hs] at a
    have e : LN r s = -ln (-r) s := by have := LN_neg (q := -r) hs; rwa [Int.neg_neg, LN_pos h.1] at this
    omega
  · rw [if_neg hx] at h
    have a := near_best (q := q) hs h (by omega) hq
    rw [LN_pos h.1]
    omega
theorem nearS_again {x s r q : Int} (hs : 0 ≤ s) (h : NearS x s r) (h0 : -8191 ≤ q) (hq : q ≤ 8191) (e : x = LN q s) : LN r s = x := by
  have := nearS_best hs h h0 hq
  omega
theorem nearS_mono {x y s r t : Int} (hs : 0 ≤ s) (hx : NearS x s r) (hy : NearS y s t) (h : x ≤ y) : r ≤ t := by
  unfold NearS at hx hy
  by_cases h1 : x < 0
  · rw [if_pos h1] at hx
    by_cases h2 : y < 0
    · rw [if_pos h2] at hy
      have := near_mono hs hy hx (by omega); omega
    · rw [if_neg h2] at hy
      have := hx.1; have := hy.1; omega
  · rw [if_neg h1] at hx
    rw [if_neg (by omega)] at hy
    exact near_mono hs hx hy h
theorem nearS_one {x s r t : Int} (hs : 0 ≤ s) (hx : NearS x s r) (hy : NearS x s t) : r = t := by
  have := nearS_mono hs hx hy (Int.le_refl _); have := nearS_mono hs hy hx (Int.le_refl _); omega

/-! ### Doubles -/
theorem ln_four {q s : Int} (hs : 0 ≤ s) (hs1 : s ≤ 251) (h0 : 0 ≤ q) (h : ln q (s + 4) < 268435455) : -1 ≤ ln q (s + 4) - 2 * ln q s ∧ ln q (s + 4) - 2 * ln q s ≤ 1 := by
  have eq : qt (s + 4) = qt s := by unfold qt; rw [show (s + 4) % 4 = s % 4 by omega]
  by_cases hb : 1 ≤ bt' s
  · have e3 : bt' (s + 4) = bt' s - 1 := by unfold bt' at *; omega
    unfold ln at h ⊢
    rw [eq, e3] at h ⊢
    have a := rnd_sum (n := fo q * qt s) (m := fo q * qt s) (bt'_bd hs).1
    rw [show fo q * qt s + fo q * qt s = 2 * (fo q * qt s) by omega, rnd_double hb] at a
    have b : rnd (fo q * qt s) (bt' s) ≤ rnd (fo q * qt s) (bt' s - 1) ∨ rnd (fo q * qt s) (bt' s) ≤ 1 := by
      by_cases hz : rnd (fo q * qt s) (bt' s) ≤ 1
      · exact .inr hz
      · exact .inl (by omega)
    omega
  · by_cases hz : q = 0
    · subst hz; rw [ln_zero hs, ln_zero (by omega)]; omega
    · exfalso
      have e3 : bt' (s + 4) = 0 := by unfold bt' at *; omega
      have f := fo_lo (q := q) (by omega)
      have g := (qt_bd s).1
      have : 4096 * 1073741824 ≤ fo q * qt s := Int.mul_le_mul f g (by omega) (by omega)
      unfold ln at h
      rw [eq, e3, show rnd (fo q * qt s) 0 = fo q * qt s from rfl] at h
      omega
theorem cb_eight {n : Int} (h : 0 ≤ n) : cbF (8 * n) = 2 * cbF n ∨ cbF (8 * n) = 2 * cbF n + 1 := by
  obtain ⟨a0, a1, a2⟩ := cbF_is h
  obtain ⟨b0, b1, b2⟩ := cbF_is (show 0 ≤ 8 * n by omega)
  generalize cbF n = r at *
  generalize cbF (8 * n) = R at *
  have cube : ∀ t : Int, (2 * t) * (2 * t) * (2 * t) = 8 * (t * t * t) := fun t => by grind
  have e1 : (2 * r) * (2 * r) * (2 * r) = 8 * (r * r * r) := cube r
  have e2 : (2 * r + 2) * (2 * r + 2) * (2 * r + 2) = 8 * ((r + 1) * (r + 1) * (r + 1)) := by
    rw [show 2 * r + 2 = 2 * (r + 1) by omega]
    exact cube (r + 1)
  have l1 : 2 * r < R + 1 := lt_of_cb (by omega) (by omega) (by rw [e1]; omega)
  have l2 : R < 2 * r + 2 := lt_of_cb (by omega) (by omega) (by rw [e2]; omega)
  omega
/-- The line of 8 times a number. -/
theorem ln_eight {q s f g : Int} (hs : 0 ≤ s) (h1 : 1 ≤ q) (hq : 8 * q ≤ 8191) (hc : ln (8 * q) s < 268435455) (hf : ln (8 * q) s ≤ 4096 * f + 4095) (hg : 0 ≤ g) : ln (8 * q) s - 16 * ln q s ≤ 16 + f + g ∧ 16 * ln q s - ln (8 * q) s ≤ 16 + f + g := by
  have hk := qt_bd s
  have c8 := cb_eight (n := q * 68719476736) (by omega)
  have lo := cb_lo (q := q) h1
  rw [show 8 * (q * 68719476736) = 8 * q * 68719476736 by omega] at c8
  have mono := ln_mono (p := q) (q := 8 * q) hs (by omega) (by omega)
  have eF : fo (8 * q) = 8 * q * cbF (8 * q * 68719476736) := rfl
  have ef : fo q = q * cbF (q * 68719476736) := rfl
  have f8 := fo_lo (q := 8 * q) (by omega)
  have hb : 1 ≤ bt' s := by
    refine Int.not_lt.1 fun h => ?_
    have e : bt' s = 0 := by have := (bt'_bd hs).1; omega
    have : 4096 * 1073741824 ≤ fo (8 * q) * qt s := Int.mul_le_mul f8 hk.1 (by omega) (by omega)
    unfold ln at hc
    rw [e, show rnd (fo (8 * q) * qt s) 0 = fo (8 * q) * qt s from rfl] at hc
    omega
  have eC : ln (8 * q) s = rnd (fo (8 * q) * qt s) (bt' s) := by unfold ln at hc ⊢; omega
  have eA : ln q s = rnd (fo q * qt s) (bt' s) := by unfold ln at mono hc ⊢; omega
  have n1 := rnd_near (n := fo (8 * q) * qt s) hb
  have n2 := rnd_near (n := fo q * qt s) hb
  have pw := pow_succ' hb
  have pp := pow_pos' ((bt' s).toNat - 1)
  rw [← eC] at n1
  rw [← eA] at n2
  generalize ln (8 * q) s = C at *
  generalize ln q s = A at *
  rw [pw] at n1 n2
  generalize (2 : Int) ^ ((bt' s).toNat - 1) = H at *
  -- the products
  obtain ⟨Y, hY⟩ : ∃ Y, q * qt s = Y := ⟨_, rfl⟩
  have Y0 : 0 ≤ Y := by rw [← hY]; exact Int.mul_nonneg (by omega) (by omega)
  have p2 : fo q * qt s = cbF (q * 68719476736) * Y := by rw [ef, ← hY, Int.mul_comm q, Int.mul_assoc]
  have p1 : fo (8 * q) * qt s = 8 * (cbF (8 * q * 68719476736) * Y) := by
    rw [eF, ← hY, Int.mul_comm (8 * q), Int.mul_assoc, show 8 * q * qt s = 8 * (q * qt s) by rw [Int.mul_assoc], Int.mul_left_comm]
  rw [p1] at n1
  rw [p2] at n2
  generalize cbF (q * 68719476736) = r at *
  have key : cbF (8 * q * 68719476736) * Y = 2 * (r * Y) ∨ cbF (8 * q * 68719476736) * Y = 2 * (r * Y) + Y := by
    rcases c8 with e | e
    · left; rw [e, Int.mul_assoc]
    · right; rw [e, Int.add_mul, Int.mul_assoc, Int.one_mul]
  have rl : 4096 * Y ≤ r * Y := Int.mul_le_mul_of_nonneg_right lo Y0
  generalize cbF (8 * q * 68719476736) * Y = R at *
  generalize r * Y = Z at *
  rw [show C * (2 * H) = 2 * (C * H) by rw [Int.mul_left_comm]] at n1
  rw [show A * (2 * H) = 2 * (A * H) by rw [Int.mul_left_comm]] at n2
  have fin : ∀ D : Int, D * H = C * H - 16 * (A * H) ∨ D * H = 16 * (A * H) - C * H → D ≤ 16 + f + g := fun D hD => by
    refine Int.not_lt.1 fun hlt => ?_
    have d1 : (17 + f) * H ≤ D * H := Int.mul_le_mul_of_nonneg_right (by omega) (by omega)
    have d2 : C * H ≤ (4096 * f + 4095) * H := Int.mul_le_mul_of_nonneg_right hf (by omega)
    rw [Int.add_mul] at d1 d2
    rw [Int.mul_assoc] at d2
    generalize D * H = DH at *
    generalize C * H = CH at *
    generalize A * H = AH at *
    generalize f * H = fH at *
    omega
  exact ⟨fin _ (.inl (by rw [Int.sub_mul, Int.mul_assoc])), fin _ (.inr (by rw [Int.sub_mul, Int.mul_assoc]))⟩

/-! ### The nearest one, as a function -/
theorem near_ex (x s : Int) : ∃ r, Near x s r := by
  have h : ∀ n : Nat, n ≤ 8191 → (∃ r, Near x s r) ∨ (n = 0 ∨ ln ((n : Int) - 1) s + ln n s < 2 * x) := by
    intro n
    induction n with
    | zero => intro _; exact .inr (.inl rfl)
    | succ n ih =>
      intro hn
      rcases ih (by omega) with h | h
      · exact .inl h
      · by_cases c : 2 * x ≤ ln (n : Int) s + ln ((n : Int) + 1) s
        · refine .inl ⟨n, by omega, by omega, .inr c, ?_⟩
          rcases h with rfl | h
          · exact .inl rfl
          · exact .inr h
        · refine .inr (.inr ?_)
          rw [show ((n + 1 : Nat) : Int) - 1 = n by omega, show ((n + 1 : Nat) : Int) = (n : Int) + 1 by omega]
          omega
  rcases h 8191 (by omega) with h | h
  · exact h
  · refine ⟨8191, by omega, by omega, .inl rfl, ?_⟩
    rcases h with h | h
    · omega
    · exact .inr h
noncomputable def nq (x s : Int) : Int := Classical.choose (near_ex x s)
theorem nq_is (x s : Int) : Near x s (nq x s) := Classical.choose_spec (near_ex x s)
theorem nq_of {x s r : Int} (hs : 0 ≤ s) (h : Near x s r) : r = nq x s := near_one hs h (nq_is x s)
noncomputable def NQ (x s : Int) : Int := if x < 0 then -nq (-x) s else nq x s
theorem NQ_is (x s : Int) : NearS x s (NQ x s) := by
  unfold NearS NQ
  by_cases h : x < 0
  · rw [if_pos h, if_pos h, Int.neg_neg]; exact nq_is _ _
  · rw [if_neg h, if_neg h]; exact nq_is _ _
/-- What the calls answer. -/
noncomputable def F4 (q : Int) : Int := if q < 0 ∨ 8191 < q then 0 else fo q
def E4 (q : Int) : Int := if q < 0 ∨ 8191 < q then 2 else 0
def badL (q s : Int) : Prop := q < -8191 ∨ 8191 < q ∨ s < 0 ∨ 255 < s
instance (q s : Int) : Decidable (badL q s) := by unfold badL; infer_instance
def badQ (x s : Int) : Prop := x < -268435455 ∨ 268435455 < x ∨ s < 0 ∨ 255 < s
instance (q s : Int) : Decidable (badQ q s) := by unfold badQ; infer_instance
noncomputable def FL (q s : Int) : Int := if badL q s then 0 else LN q s
def EL (q s : Int) : Int := if badL q s then 2 else 0
noncomputable def FQ (x s : Int) : Int := if badQ x s then 0 else NQ x s
def EQ (x s : Int) : Int := if badQ x s then 2 else 0
end Go.Proofs.YtanjcbnkkhbkkaaDoor.Fx

/- What fix's calls do. -/
namespace Go.Proofs.YtanjcbnkkhbkkaaDoor.Fx
open Go Go.ChangeShapes Go.WideShapes Go.ChangeAt Go.RowKit

theorem round_zero (n : Int) (w : World) (h1 : -4611686018427387904 ≤ n) (h2 : n ≤ 4611686018427387904) :
    Calls Tryd.prog 63 #[.int .i64 n, .int .i64 0] w fun e w' => e = .returned (.tuple #[.int .i64 n, .int .i64 0]) ∧ w = w' := by
  have c1 : ¬ n < -4611686018427387904 := by omega
  have c2 : ¬ 4611686018427387904 < n := by omega
  go_enter Tryd.func63, Tryd.ntmps63
  go_wp2
  go_ret2
  exact ⟨rfl, rfl⟩

theorem w64 {x : Int} (h1 : -9223372036854775808 ≤ x) (h2 : x ≤ 9223372036854775807) : wrap64 x = x := by unfold wrap64; omega
theorem pow61 {b : Int} (h4 : b ≤ 62) : (2 : Int) ^ (b.toNat - 1) ≤ 2305843009213693952 := by
  have := pow_le' (k := b.toNat - 1) (m := 61) (by omega)
  have e : (2 : Int) ^ 61 = 2305843009213693952 := by decide
  omega
theorem rnd_wrap {n b : Int} (h1 : -4611686018427387904 ≤ n) (h2 : n ≤ 4611686018427387904) (h3 : 1 ≤ b) (h4 : b ≤ 62) : wrap64 (n + wrap64 (2 ^ (b.toNat - 1))) / 2 ^ b.toNat = rnd n b := by
  have a := pow61 h4
  have c := pow_pos' (b.toNat - 1)
  rw [w64 (x := 2 ^ (b.toNat - 1)) (by omega) (by omega), w64 (by omega) (by omega)]
  unfold rnd
  rw [if_neg (by omega)]

theorem round_pos (n b : Int) (w : World) (h1 : -4611686018427387904 ≤ n) (h2 : n ≤ 4611686018427387904) (h3 : 1 ≤ b) (h4 : b ≤ 62) :
    Calls Tryd.prog 63 #[.int .i64 n, .int .i64 b] w fun e w' => e = .returned (.tuple #[.int .i64 (rnd n b), .int .i64 0]) ∧ w = w' := by
  have c1 : ¬ n < -4611686018427387904 := by omega
  have c2 : ¬ 4611686018427387904 < n := by omega
  have c3 : ¬ b < 0 := by omega
  have c4 : ¬ 62 < b := by omega
  have c5 : ¬ b = 0 := by omega
  rw [← rnd_wrap h1 h2 h3 h4]
  go_enter Tryd.func63, Tryd.ntmps63
  go_wp2
  go_ret2
  exact ⟨rfl, rfl⟩

theorem round_in (n b : Int) (w : World) (h1 : -4611686018427387904 ≤ n) (h2 : n ≤ 4611686018427387904) (h3 : 0 ≤ b) (h4 : b ≤ 62) :
    Calls Tryd.prog 63 #[.int .i64 n, .int .i64 b] w fun e w' => e = .returned (.tuple #[.int .i64 (rnd n b), .int .i64 0]) ∧ w = w' := by
  by_cases e : b = 0
  · subst e; exact round_zero n w h1 h2
  · exact round_pos n b w h1 h2 (by omega) h4

theorem round_out (n b : Int) (w : World) (h : n < -4611686018427387904 ∨ 4611686018427387904 < n ∨ b < 0 ∨ 62 < b) :
    Calls Tryd.prog 63 #[.int .i64 n, .int .i64 b] w fun e w' => e = .returned (.tuple #[.int .i64 0, .int .i64 2]) ∧ w = w' := by
  by_cases c1 : n < -4611686018427387904
  · go_enter Tryd.func63, Tryd.ntmps63
    go_wp2
    go_ret2
    exact ⟨rfl, rfl⟩
  by_cases c2 : 4611686018427387904 < n
  · go_enter Tryd.func63, Tryd.ntmps63
    go_wp2
    go_ret2
    exact ⟨rfl, rfl⟩
  by_cases c3 : b < 0
  · go_enter Tryd.func63, Tryd.ntmps63
    go_wp2
    go_ret2
    exact ⟨rfl, rfl⟩
  have c4 : 62 < b := by omega
  go_enter Tryd.func63, Tryd.ntmps63
  go_wp2
  go_ret2
  exact ⟨rfl, rfl⟩

theorem ret2 {a b c : Int} (h : a = b) : Ending.returned (.tuple #[.int .i64 a, .int .i64 c]) = .returned (.tuple #[.int .i64 b, .int .i64 c]) := by rw [h]

end Go.Proofs.YtanjcbnkkhbkkaaDoor.Fx

/- What fix's roots do. -/
namespace Go.Proofs.YtanjcbnkkhbkkaaDoor.Fx
open Go Go.ChangeShapes Go.WideShapes Go.ChangeAt Go.RowKit

theorem square_ok (r : Int) (w : World) : Calls Tryd.prog 68 #[.int .u64 r] w fun e w' => e = .returned (.int .u64 (IntKind.u64.wrap (r * r))) ∧ w = w' := by
  go_enter Tryd.func68, Tryd.ntmps68
  go_wp2
  go_ret
  exact ⟨rfl, rfl⟩
theorem cube_ok (r : Int) (w : World) : Calls Tryd.prog 81 #[.int .i64 r] w fun e w' => e = .returned (.int .i64 (wrap64 (wrap64 (r * r) * r))) ∧ w = w' := by
  go_enter Tryd.func81, Tryd.ntmps81
  go_wp2
  go_ret
  exact ⟨rfl, rfl⟩

theorem ofInt_nat {B : Nat} {x : Int} (h0 : 0 ≤ x) (h1 : x < 2 ^ B) : (BitVec.ofInt B x).toNat = x.toNat := by
  rw [BitVec.toNat_ofInt, Int.emod_eq_of_lt h0 (by simpa using h1)]
theorem or_u64 {x y : Int} (h0 : 0 ≤ x) (h1 : x < 2 ^ 64) (h2 : 0 ≤ y) (h3 : y < 2 ^ 64) : bits .or .u64 x y = ((x.toNat ||| y.toNat : Nat) : Int) := by
  have a1 : (BitVec.ofInt IntKind.u64.bits x).toNat = x.toNat := ofInt_nat h0 (show x < 2 ^ 64 by omega)
  have a2 : (BitVec.ofInt IntKind.u64.bits y).toNat = y.toNat := ofInt_nat h2 (show y < 2 ^ 64 by omega)
  have e : bits .or .u64 x y = IntKind.u64.wrap (((BitVec.ofInt IntKind.u64.bits x ||| BitVec.ofInt IntKind.u64.bits y).toNat : Nat) : Int) := rfl
  rw [e, BitVec.toNat_or, a1, a2]
  have : x.toNat ||| y.toNat < 2 ^ 64 := Nat.or_lt_two_pow (by omega) (by omega)
  simp [IntKind.wrap, IntKind.bits, IntKind.signed]
  omega
theorem or_i64 {x y : Int} (h0 : 0 ≤ x) (h1 : x < 2 ^ 63) (h2 : 0 ≤ y) (h3 : y < 2 ^ 63) : bits .or .i64 x y = ((x.toNat ||| y.toNat : Nat) : Int) := by
  have a1 : (BitVec.ofInt IntKind.i64.bits x).toNat = x.toNat := ofInt_nat h0 (show x < 2 ^ 64 by omega)
  have a2 : (BitVec.ofInt IntKind.i64.bits y).toNat = y.toNat := ofInt_nat h2 (show y < 2 ^ 64 by omega)
  have e : bits .or .i64 x y = IntKind.i64.wrap (((BitVec.ofInt IntKind.i64.bits x ||| BitVec.ofInt IntKind.i64.bits y).toNat : Nat) : Int) := rfl
  rw [e, BitVec.toNat_or, a1, a2]
  have : x.toNat ||| y.toNat < 2 ^ 63 := Nat.or_lt_two_pow (by omega) (by omega)
  simp [IntKind.wrap, IntKind.bits, IntKind.signed]
  omega

def bt : Nat → Int
  | 0 => 0
  | k + 1 => 2 ^ k
theorem bt_half (k : Nat) : (2 : Int) ^ k / 2 = bt k := by
  cases k with
  | zero => rfl
  | succ k => rw [psucc]; simp [bt]
theorem bt_lt (k : Nat) : bt k < 2 ^ k := by
  cases k with
  | zero => decide
  | succ k => have := ppos k; rw [psucc]; simp [bt]; omega
theorem bt_nn (k : Nat) : 0 ≤ bt k := by
  cases k with
  | zero => decide
  | succ k => have := ppos k; simp [bt]; omega
theorem u64_in {x : Int} (h0 : 0 ≤ x) (h1 : x < 18446744073709551616) : IntKind.u64.wrap x = x := by
  simp [IntKind.wrap, IntKind.bits, IntKind.signed]; omega

theorem root_sq (n : Int) (w : World) (h0 : 0 ≤ n) (h1 : n ≤ 4611686018427387904) :
    Calls Tryd.prog 69 #[.int .u64 n, .int .i64 31, .func (.func 68) #[] #[]] w fun e w' => ∃ r, IsSqrt n r ∧ e = .returned (.int .u64 r) ∧ w = w' := by
  have hs := sq_start h0 h1
  go_enter Tryd.func69, Tryd.ntmps69
  go_wp2
  go_loop [7, 8] (fun r b => ∃ (k : Nat) (R : Int), k ≤ 32 ∧ Sq n R k ∧ r = .int .u64 R ∧ b = .int .u64 (bt k)) (fun _ b => (intOf b).toNat)
  case atStart => exact ⟨32, 0, by omega, hs, rfl, rfl⟩
  case round =>
    obtain ⟨k, R, hk, hq, rfl, rfl⟩ := hrel
    cases k with
    | zero =>
      have b0 : ¬ 0 < bt 0 := by decide
      go_wp2
      go_ret
      exact ⟨R, sq_end hq, rfl, rfl⟩
    | succ k =>
      have p := ppos k
      have q1 := sq_bd hq
      have q0 := nn hq.1
      have b0 : 0 < bt (k + 1) := p
      have e1 : bits BinOp.or IntKind.u64 R (bt (k + 1)) = R + 2 ^ k := by
        obtain ⟨s, hs'⟩ := hq.1
        rw [show bt (k + 1) = 2 ^ k from rfl, or_u64 q0 (by omega) (by omega) (by omega)]
        exact or_of hs'
      have e2 : bt (k + 1) / 2 = bt k := bt_half k
      obtain ⟨q2, q3, q4, q5⟩ := q1
      have e3 : IntKind.u64.wrap ((R + 2 ^ k) * (R + 2 ^ k)) = (R + 2 ^ k) * (R + 2 ^ k) := u64_in q5 q4
      have e4 : bt k < bt (k + 1) := bt_lt k
      have e5 := bt_nn k
      by_cases hc : (R + 2 ^ k) * (R + 2 ^ k) ≤ n
      · have hy := sq_yes hq hc
        go_wp2
        go_round
        case rel => exact ⟨k, R + 2 ^ k, by omega, hy, rfl, rfl⟩
        case measure => simp [intOf]; omega
      · have hy := sq_no hq hc
        go_wp2
        go_round
        case rel => exact ⟨k, R, by omega, hy, rfl, rfl⟩
        case measure => simp [intOf]; omega

theorem root_cb (n : Int) (w : World) (h0 : 0 ≤ n) (h1 : n ≤ 4611686018427387904) :
    Calls Tryd.prog 82 #[.int .i64 n, .int .i64 20, .func (.func 81) #[] #[]] w fun e w' => ∃ r, IsCbrt n r ∧ e = .returned (.int .i64 r) ∧ w = w' := by
  have hs := cb_start h0 h1
  go_enter Tryd.func82, Tryd.ntmps82
  go_wp2
  go_loop [7, 8] (fun r b => ∃ (k : Nat) (R : Int), k ≤ 21 ∧ Cb n R k ∧ r = .int .i64 R ∧ b = .int .i64 (bt k)) (fun _ b => (intOf b).toNat)
  case atStart => exact ⟨21, 0, by omega, hs, rfl, rfl⟩
  case round =>
    obtain ⟨k, R, hk, hq, rfl, rfl⟩ := hrel
    cases k with
    | zero =>
      have b0 : ¬ 0 < bt 0 := by decide
      go_wp2
      go_ret
      exact ⟨R, cb_end hq, rfl, rfl⟩
    | succ k =>
      have p := ppos k
      have q1 := cb_bd hq
      have q0 := nn hq.1
      have b0 : 0 < bt (k + 1) := p
      obtain ⟨q2, q3, q4, q5, q6, q7⟩ := q1
      have e1 : bits BinOp.or IntKind.i64 R (bt (k + 1)) = R + 2 ^ k := by
        obtain ⟨s, hs'⟩ := hq.1
        rw [show bt (k + 1) = 2 ^ k from rfl, or_i64 q0 (by omega) (by omega) (by omega)]
        exact or_of hs'
      have e2 : bt (k + 1) / 2 = bt k := bt_half k
      have e3 : wrap64 ((R + 2 ^ k) * (R + 2 ^ k)) = (R + 2 ^ k) * (R + 2 ^ k) := w64 (by omega) (by omega)
      have e6 : wrap64 ((R + 2 ^ k) * (R + 2 ^ k) * (R + 2 ^ k)) = (R + 2 ^ k) * (R + 2 ^ k) * (R + 2 ^ k) := w64 (by omega) (by omega)
      have e4 : bt k < bt (k + 1) := bt_lt k
      have e5 := bt_nn k
      by_cases hc : (R + 2 ^ k) * (R + 2 ^ k) * (R + 2 ^ k) ≤ n
      · have hy := cb_yes hq hc
        go_wp2
        go_round
        case rel => exact ⟨k, R + 2 ^ k, by omega, hy, rfl, rfl⟩
        case measure => simp [intOf]; omega
      · have hy := cb_no hq hc
        go_wp2
        go_round
        case rel => exact ⟨k, R, by omega, hy, rfl, rfl⟩
        case measure => simp [intOf]; omega

theorem sqrt_in (n : Int) (w : World) (h0 : 0 ≤ n) (h1 : n ≤ 4611686018427387904) :
    Calls Tryd.prog 50 #[.int .i64 n] w fun e w' => ∃ r, IsSqrt n r ∧ e = .returned (.tuple #[.int .i64 r, .int .i64 0]) ∧ w = w' := by
  have c1 : ¬ n < 0 := by omega
  have c2 : ¬ 4611686018427387904 < n := by omega
  have c3 : IntKind.u64.wrap n = n := u64_in h0 (by omega)
  go_enter Tryd.func50, Tryd.ntmps50
  go_wp2_with (go_at_call 69; refine (root_sq _ _ (by omega) (by omega)).mono ?_; rintro e w' ⟨r, hr, rfl, rfl⟩; have hr1 := sqrt_bd hr h1; have hr0 := hr.1)
  go_ret2
  exact ⟨_, ‹_›, rfl, rfl⟩
theorem cbrt_in (n : Int) (w : World) (h0 : 0 ≤ n) (h1 : n ≤ 4611686018427387904) :
    Calls Tryd.prog 61 #[.int .i64 n] w fun e w' => ∃ r, IsCbrt n r ∧ e = .returned (.tuple #[.int .i64 r, .int .i64 0]) ∧ w = w' := by
  have c1 : ¬ n < 0 := by omega
  have c2 : ¬ 4611686018427387904 < n := by omega
  go_enter Tryd.func61, Tryd.ntmps61
  go_wp2_with (go_at_call 82; refine (root_cb _ _ (by omega) (by omega)).mono ?_; rintro e w' ⟨r, hr, rfl, rfl⟩; have hr1 := cbrt_bd hr h1; have hr0 := hr.1)
  go_ret2
  exact ⟨_, ‹_›, rfl, rfl⟩
theorem sqrt_out (n : Int) (w : World) (h : n < 0 ∨ 4611686018427387904 < n) :
    Calls Tryd.prog 50 #[.int .i64 n] w fun e w' => e = .returned (.tuple #[.int .i64 0, .int .i64 2]) ∧ w = w' := by
  by_cases c1 : n < 0
  · go_enter Tryd.func50, Tryd.ntmps50
    go_wp2
    go_ret2
    exact ⟨rfl, rfl⟩
  have c2 : 4611686018427387904 < n := by omega
  go_enter Tryd.func50, Tryd.ntmps50
  go_wp2
  go_ret2
  exact ⟨rfl, rfl⟩
theorem cbrt_out (n : Int) (w : World) (h : n < 0 ∨ 4611686018427387904 < n) :
    Calls Tryd.prog 61 #[.int .i64 n] w fun e w' => e = .returned (.tuple #[.int .i64 0, .int .i64 2]) ∧ w = w' := by
  by_cases c1 : n < 0
  · go_enter Tryd.func61, Tryd.ntmps61
    go_wp2
    go_ret2
    exact ⟨rfl, rfl⟩
  have c2 : 4611686018427387904 < n := by omega
  go_enter Tryd.func61, Tryd.ntmps61
  go_wp2
  go_ret2
  exact ⟨rfl, rfl⟩
end Go.Proofs.YtanjcbnkkhbkkaaDoor.Fx

/- What the document's own answers of fix do. -/
namespace Go.Proofs.YtanjcbnkkhbkkaaDoor.Fx
open Go Go.ChangeShapes Go.WideShapes Go.ChangeAt Go.RowKit

theorem rnd_parts {n b : Int} (hb : 1 ≤ b) : ∃ q r : Int, n / 2 ^ b.toNat = q ∧ q * 2 ^ b.toNat + r = n ∧ 0 ≤ r ∧ r < 2 ^ b.toNat ∧ (rnd n b = if 2 ^ (b.toNat - 1) ≤ r then q + 1 else q) := by
  obtain ⟨H, h0, e0, e1, e2⟩ := rnd_at (n := n) hb
  have l := div_lo (x := n) (d := 2 * H) (by omega)
  have u := div_hi (x := n) (d := 2 * H) (by omega)
  refine ⟨n / 2 ^ b.toNat, n - n / 2 ^ b.toNat * 2 ^ b.toNat, rfl, by omega, ?_, ?_, ?_⟩
  · rw [e1]; omega
  · rw [e1]; omega
  · rw [e2, ← e0, e1]
    generalize n / (2 * H) = q at *
    split
    · rw [show n + H = (n + H - (q + 1) * (2 * H)) + (q + 1) * (2 * H) by omega, Int.add_mul_ediv_right _ _ (by omega), Int.ediv_eq_zero_of_lt (by rw [Int.add_mul]; omega) (by rw [Int.add_mul]; omega)]
      omega
    · rw [show n + H = (n + H - q * (2 * H)) + q * (2 * H) by omega, Int.add_mul_ediv_right _ _ (by omega), Int.ediv_eq_zero_of_lt (by omega) (by omega)]
      omega

theorem down_zero (n : Int) (w : World) :
    Calls Tryd.prog 64 #[.int .i64 n, .int .i64 0] w fun e w' => e = .returned (.int .i64 n) ∧ w = w' := by
  go_enter Tryd.func64, Tryd.ntmps64
  go_wp2
  go_ret
  exact ⟨rfl, rfl⟩

theorem ret1 {a b : Int} (h : a = b) : Ending.returned (.int .i64 a) = .returned (.int .i64 b) := by rw [h]

set_option maxHeartbeats 2000000 in
theorem down_pos (n b : Int) (w : World) (h1 : -4611686018427387904 ≤ n) (h2 : n ≤ 4611686018427387904) (h3 : 1 ≤ b) (h4 : b ≤ 62) :
    Calls Tryd.prog 64 #[.int .i64 n, .int .i64 b] w fun e w' => e = .returned (.int .i64 (rnd n b)) ∧ w = w' := by
  have c0 : (b == 0) = false := by simp; omega
  obtain ⟨q, r, e1, e2, e3, e4, e5⟩ := rnd_parts (n := n) h3
  have p0 := pow_pos' (b.toNat - 1)
  have p1 := pow61 h4
  have p2 := pow_succ' h3
  have x1 : wrap64 (2 ^ (b.toNat - 1)) = 2 ^ (b.toNat - 1) := w64 (by omega) (by omega)
  have key : ∀ P T H : Int, P + r = n → r < T → T = 2 * H → H ≤ 2305843009213693952 → wrap64 P = P ∧ wrap64 (n - P) = r := fun P T H g1 g2 g3 g4 =>
    ⟨w64 (by omega) (by omega), by rw [w64 (by omega) (by omega)]; omega⟩
  obtain ⟨x2, x3⟩ := key _ _ _ e2 e4 p2 p1
  clear key
  have q1 : -9223372036854775808 ≤ q ∧ q + 1 ≤ 9223372036854775807 := by
    have := rnd_bd (n := n) (b := b) (by omega) h1 h2
    clear e2 e4 p2 x1 x2 x3 e1 p1 p0
    split at e5 <;> omega
  obtain ⟨q1, q2⟩ := q1
  have E5 := Lib.hid e5
  clear e5 p2 e2 e4
  by_cases hr : 2 ^ (b.toNat - 1) ≤ r
  · go_enter Tryd.func64, Tryd.ntmps64
    go_wp2
    go_ret
    exact ⟨ret1 (by rw [E5.out, if_pos hr]), rfl⟩
  · go_enter Tryd.func64, Tryd.ntmps64
    go_wp2
    go_ret
    exact ⟨ret1 (by rw [E5.out, if_neg (Int.not_le.2 hr)]), rfl⟩

theorem down_in (n b : Int) (w : World) (h1 : -4611686018427387904 ≤ n) (h2 : n ≤ 4611686018427387904) (h3 : 0 ≤ b) (h4 : b ≤ 62) :
    Calls Tryd.prog 64 #[.int .i64 n, .int .i64 b] w fun e w' => e = .returned (.int .i64 (rnd n b)) ∧ w = w' := by
  by_cases e : b = 0
  · subst e; exact down_zero n w
  · exact down_pos n b w h1 h2 (by omega) h4

theorem le_div {c n : Int} (h : 0 < c) : c ≤ n / c ↔ c * c ≤ n := Int.le_ediv_iff_mul_le h
theorem le_div2 {c n : Int} (h : 0 < c) : c * c ≤ n / c ↔ c * c * c ≤ n := Int.le_ediv_iff_mul_le h

theorem rroot (n : Int) (w : World) (h0 : 0 ≤ n) (h1 : n ≤ 4611686018427387904) :
    Calls Tryd.prog 71 #[.int .i64 n] w fun e w' => ∃ r, IsSqrt n r ∧ e = .returned (.int .i64 r) ∧ w = w' := by
  have hs := sq_start h0 h1
  go_enter Tryd.func71, Tryd.ntmps71
  go_wp2
  go_loop [3, 4] (fun r b => ∃ (k : Nat) (R : Int), k ≤ 32 ∧ Sq n R k ∧ r = .int .i64 R ∧ b = .int .i64 (bt k)) (fun _ b => (intOf b).toNat)
  case atStart => exact ⟨32, 0, by omega, hs, rfl, rfl⟩
  case round =>
    obtain ⟨k, R, hk, hq, rfl, rfl⟩ := hrel
    cases k with
    | zero =>
      have b0 : ¬ 0 < bt 0 := by decide
      go_wp2
      go_ret
      exact ⟨R, sq_end hq, rfl, rfl⟩
    | succ k =>
      have p := ppos k
      have q1 := sq_bd hq
      have q0 := nn hq.1
      have b0 : 0 < bt (k + 1) := p
      have e2 : bt (k + 1) / 2 = bt k := bt_half k
      obtain ⟨q2, q3, q4, q5⟩ := q1
      have e4 : bt k < bt (k + 1) := bt_lt k
      have e5 := bt_nn k
      have e6 : R + bt (k + 1) = R + 2 ^ k := rfl
      have q2' : 0 < R + bt (k + 1) := by omega
      have q3' : R + bt (k + 1) < 4294967296 := by omega
      by_cases hc : (R + 2 ^ k) * (R + 2 ^ k) ≤ n
      · have hy := sq_yes hq hc
        have hd : R + bt (k + 1) ≤ n / (R + bt (k + 1)) := (le_div q2').2 hc
        clear e6
        go_wp2
        go_round
        case rel => exact ⟨k, R + 2 ^ k, by omega, hy, rfl, by rw [e2]⟩
        case measure => simp [intOf]; omega
      · have hy := sq_no hq hc
        have hd : ¬ R + bt (k + 1) ≤ n / (R + bt (k + 1)) := fun h => hc ((le_div q2').1 h)
        clear e6
        go_wp2
        go_round
        case rel => exact ⟨k, R, by omega, hy, rfl, by rw [e2]⟩
        case measure => simp [intOf]; omega

theorem rthird (n : Int) (w : World) (h0 : 0 ≤ n) (h1 : n ≤ 4611686018427387904) :
    Calls Tryd.prog 62 #[.int .i64 n] w fun e w' => ∃ r, IsCbrt n r ∧ e = .returned (.int .i64 r) ∧ w = w' := by
  have hs := cb_start h0 h1
  go_enter Tryd.func62, Tryd.ntmps62
  go_wp2
  go_loop [3, 4] (fun r b => ∃ (k : Nat) (R : Int), k ≤ 21 ∧ Cb n R k ∧ r = .int .i64 R ∧ b = .int .i64 (bt k)) (fun _ b => (intOf b).toNat)
  case atStart => exact ⟨21, 0, by omega, hs, rfl, rfl⟩
  case round =>
    obtain ⟨k, R, hk, hq, rfl, rfl⟩ := hrel
    cases k with
    | zero =>
      have b0 : ¬ 0 < bt 0 := by decide
      go_wp2
      go_ret
      exact ⟨R, cb_end hq, rfl, rfl⟩
    | succ k =>
      have p := ppos k
      have q1 := cb_bd hq
      have q0 := nn hq.1
      have b0 : 0 < bt (k + 1) := p
      have e2 : bt (k + 1) / 2 = bt k := bt_half k
      obtain ⟨q2, q3, q4, q5, q6, q7⟩ := q1
      have e4 : bt k < bt (k + 1) := bt_lt k
      have e5 := bt_nn k
      have e6 : R + bt (k + 1) = R + 2 ^ k := rfl
      have q2' : 0 < R + bt (k + 1) := by omega
      have q3' : R + bt (k + 1) < 4294967296 := by omega
      have q4' : 0 ≤ (R + bt (k + 1)) * (R + bt (k + 1)) := q4
      have q5' : (R + bt (k + 1)) * (R + bt (k + 1)) < 4398046511104 := q5
      by_cases hc : (R + 2 ^ k) * (R + 2 ^ k) * (R + 2 ^ k) ≤ n
      · have hy := cb_yes hq hc
        have hd : (R + bt (k + 1)) * (R + bt (k + 1)) ≤ n / (R + bt (k + 1)) := (le_div2 q2').2 hc
        clear e6
        go_wp2
        go_round
        case rel => exact ⟨k, R + 2 ^ k, by omega, hy, rfl, by rw [e2]⟩
        case measure => simp [intOf]; omega
      · have hy := cb_no hq hc
        have hd : ¬ (R + bt (k + 1)) * (R + bt (k + 1)) ≤ n / (R + bt (k + 1)) := fun h => hc ((le_div2 q2').1 h)
        clear e6
        go_wp2
        go_round
        case rel => exact ⟨k, R, by omega, hy, rfl, by rw [e2]⟩
        case measure => simp [intOf]; omega

end Go.Proofs.YtanjcbnkkhbkkaaDoor.Fx

/- What power's calls do. -/
namespace Go.Proofs.YtanjcbnkkhbkkaaDoor.Fx
open Go Go.ChangeShapes Go.WideShapes Go.ChangeAt Go.RowKit

/-- The table. -/
def Qs (w : World) : Prop := w.cell? ⟨0, 0, none⟩ = some (.int .i64 1073741824) ∧ w.cell? ⟨0, 1, none⟩ = some (.int .i64 1276901417) ∧ w.cell? ⟨0, 2, none⟩ = some (.int .i64 1518500250) ∧ w.cell? ⟨0, 3, none⟩ = some (.int .i64 1805811301)
theorem Qs.drewN {w : World} (h : Qs w) (n : Nat) : Qs (w.drewN n) := by
  unfold Qs at *
  simpa using h
theorem same_q {f : FuncId} {args : Array Value} {w : World} {v : Value} (h : Calls Tryd.prog f args w fun e w' => e = .returned v ∧ w = w') : Calls Tryd.prog f args w fun e w' => e = .returned v ∧ w' = w := h.mono fun _ _ h => ⟨h.1, h.2.symm⟩
theorem drewN_zero (w : World) : ∃ m, w = w.drewN m := ⟨0, rfl⟩

theorem four_ok (q : Int) (w : World) (h0 : 0 ≤ q) (h1 : q ≤ 8191) : Calls Tryd.prog 41 #[.int .i64 q] w fun e w' => e = .returned (.int .i64 (fo q)) ∧ w = w' := by
  obtain ⟨b1, b2⟩ := fo_bd h0 h1
  unfold fo at *
  have e1 : wrap64 (q * 68719476736) = q * 68719476736 := w64 (by omega) (by omega)
  have hb := cb_hi h0 h1
  have hb0 := cb_nn h0
  have HF : Hid (∀ r, IsCbrt (q * 68719476736) r → r = cbF (q * 68719476736)) := Lib.hid fun r hr => cbF_of hr
  generalize cbF (q * 68719476736) = c at *
  go_enter Tryd.func41, Tryd.ntmps41
  go_wp2_with (go_at_call 61; ((with_reducible refine (cbrt_in (q * 68719476736) _ (by omega) (by omega)).mono ?_); rintro e w' ⟨r, hr, rfl, rfl⟩; obtain rfl := HF.out r hr))
  go_ret
  exact ⟨rfl, rfl⟩
theorem line_0 (q s : Int) (w : World) (h0 : 0 ≤ q) (h1 : q ≤ 8191) (s0 : 0 ≤ s) (s1 : s ≤ 255) (hq : Qs w) (hm : s % 4 = 0) : Calls Tryd.prog 43 #[.int .i64 q, .int .i64 s] w fun e w' => e = .returned (.int .i64 (ln q s)) ∧ ∃ m, w' = w.drewN m := by
  have eq : qt s = 1073741824 := by unfold qt; omega
  obtain ⟨p0, p1⟩ := pr_bd (s := s) h0 h1
  obtain ⟨c0, c1, c2, c3⟩ := hq
  obtain ⟨b0, b1⟩ := bt'_bd s0
  rw [eq] at p0 p1
  have ht : Int.tmod s 4 = 0 := by rw [Int.tmod_eq_emod_of_nonneg s0]; exact hm
  have hd : Int.tdiv s 4 = s / 4 := Int.tdiv_eq_ediv_of_nonneg s0
  have HF := Lib.hid (four_ok q)
  have HB := Lib.hid (show (if 61 - s / 4 < 0 then 0 else 61 - s / 4) = bt' s by unfold bt'; omega)
  have HL := Lib.hid (show (if 268435455 < rnd (fo q * 1073741824) (bt' s) then 268435455 else rnd (fo q * 1073741824) (bt' s)) = ln q s by unfold ln; rw [eq]; omega)
  generalize bt' s = B at *
  generalize fo q = F at *
  go_enter Tryd.func43, Tryd.ntmps43
  go_wp2
  go_quiet ((first | (go_at_call 41; exact Calls.quiet_of_same (same_q (HF.out _ h0 h1))) | (go_at_call 63; rw [HB.out]; exact Calls.quiet_of_same (same_q (round_in _ _ _ (by omega) (by omega) b0 (by omega))))))
  go_wp2
  all_goals
    go_ret
    refine ⟨ret1 ?_, _, rfl⟩
    have := HL.out
    omega
theorem line_1 (q s : Int) (w : World) (h0 : 0 ≤ q) (h1 : q ≤ 8191) (s0 : 0 ≤ s) (s1 : s ≤ 255) (hq : Qs w) (hm : s % 4 = 1) : Calls Tryd.prog 43 #[.int .i64 q, .int .i64 s] w fun e w' => e = .returned (.int .i64 (ln q s)) ∧ ∃ m, w' = w.drewN m := by
  have eq : qt s = 1276901417 := by unfold qt; omega
  obtain ⟨p0, p1⟩ := pr_bd (s := s) h0 h1
  obtain ⟨c0, c1, c2, c3⟩ := hq
  obtain ⟨b0, b1⟩ := bt'_bd s0
  rw [eq] at p0 p1
  have ht : Int.tmod s 4 = 1 := by rw [Int.tmod_eq_emod_of_nonneg s0]; exact hm
  have hd : Int.tdiv s 4 = s / 4 := Int.tdiv_eq_ediv_of_nonneg s0
  have HF := Lib.hid (four_ok q)
  have HB := Lib.hid (show (if 61 - s / 4 < 0 then 0 else 61 - s / 4) = bt' s by unfold bt'; omega)
  have HL := Lib.hid (show (if 268435455 < rnd (fo q * 1276901417) (bt' s) then 268435455 else rnd (fo q * 1276901417) (bt' s)) = ln q s by unfold ln; rw [eq]; omega)
  generalize bt' s = B at *
  generalize fo q = F at *
  go_enter Tryd.func43, Tryd.ntmps43
  go_wp2
  go_quiet ((first | (go_at_call 41; exact Calls.quiet_of_same (same_q (HF.out _ h0 h1))) | (go_at_call 63; rw [HB.out]; exact Calls.quiet_of_same (same_q (round_in _ _ _ (by omega) (by omega) b0 (by omega))))))
  go_wp2
  all_goals
    go_ret
    refine ⟨ret1 ?_, _, rfl⟩
    have := HL.out
    omega
theorem line_2 (q s : Int) (w : World) (h0 : 0 ≤ q) (h1 : q ≤ 8191) (s0 : 0 ≤ s) (s1 : s ≤ 255) (hq : Qs w) (hm : s % 4 = 2) : Calls Tryd.prog 43 #[.int .i64 q, .int .i64 s] w fun e w' => e = .returned (.int .i64 (ln q s)) ∧ ∃ m, w' = w.drewN m := by
  have eq : qt s = 1518500250 := by unfold qt; omega
  obtain ⟨p0, p1⟩ := pr_bd (s := s) h0 h1
  obtain ⟨c0, c1, c2, c3⟩ := hq
  obtain ⟨b0, b1⟩ := bt'_bd s0
  rw [eq] at p0 p1
  have ht : Int.tmod s 4 = 2 := by rw [Int.tmod_eq_emod_of_nonneg s0]; exact hm
  have hd : Int.tdiv s 4 = s / 4 := Int.tdiv_eq_ediv_of_nonneg s0
  have HF := Lib.hid (four_ok q)
  have HB := Lib.hid (show (if 61 - s / 4 < 0 then 0 else 61 - s / 4) = bt' s by unfold bt'; omega)
  have HL := Lib.hid (show (if 268435455 < rnd (fo q * 1518500250) (bt' s) then 268435455 else rnd (fo q * 1518500250) (bt' s)) = ln q s by unfold ln; rw [eq]; omega)
  generalize bt' s = B at *
  generalize fo q = F at *
  go_enter Tryd.func43, Tryd.ntmps43
  go_wp2
  go_quiet ((first | (go_at_call 41; exact Calls.quiet_of_same (same_q (HF.out _ h0 h1))) | (go_at_call 63; rw [HB.out]; exact Calls.quiet_of_same (same_q (round_in _ _ _ (by omega) (by omega) b0 (by omega))))))
  go_wp2
  all_goals
    go_ret
    refine ⟨ret1 ?_, _, rfl⟩
    have := HL.out
    omega
theorem line_3 (q s : Int) (w : World) (h0 : 0 ≤ q) (h1 : q ≤ 8191) (s0 : 0 ≤ s) (s1 : s ≤ 255) (hq : Qs w) (hm : s % 4 = 3) : Calls Tryd.prog 43 #[.int .i64 q, .int .i64 s] w fun e w' => e = .returned (.int .i64 (ln q s)) ∧ ∃ m, w' = w.drewN m := by
  have eq : qt s = 1805811301 := by unfold qt; omega
  obtain ⟨p0, p1⟩ := pr_bd (s := s) h0 h1
  obtain ⟨c0, c1, c2, c3⟩ := hq
  obtain ⟨b0, b1⟩ := bt'_bd s0
  rw [eq] at p0 p1
  have ht : Int.tmod s 4 = 3 := by rw [Int.tmod_eq_emod_of_nonneg s0]; exact hm
  have hd : Int.tdiv s 4 = s / 4 := Int.tdiv_eq_ediv_of_nonneg s0
  have HF := Lib.hid (four_ok q)
  have HB := Lib.hid (show (if 61 - s / 4 < 0 then 0 else 61 - s / 4) = bt' s by unfold bt'; omega)
  have HL := Lib.hid (show (if 268435455 < rnd (fo q * 1805811301) (bt' s) then 268435455 else rnd (fo q * 1805811301) (bt' s)) = ln q s by unfold ln; rw [eq]; omega)
  generalize bt' s = B at *
  generalize fo q = F at *
  go_enter Tryd.func43, Tryd.ntmps43
  go_wp2
  go_quiet ((first | (go_at_call 41; exact Calls.quiet_of_same (same_q (HF.out _ h0 h1))) | (go_at_call 63; rw [HB.out]; exact Calls.quiet_of_same (same_q (round_in _ _ _ (by omega) (by omega) b0 (by omega))))))
  go_wp2
  all_goals
    go_ret
    refine ⟨ret1 ?_, _, rfl⟩
    have := HL.out
    omega
theorem line_ok (q s : Int) (w : World) (h0 : 0 ≤ q) (h1 : q ≤ 8191) (s0 : 0 ≤ s) (s1 : s ≤ 255) (hq : Qs w) : Calls Tryd.prog 43 #[.int .i64 q, .int .i64 s] w fun e w' => e = .returned (.int .i64 (ln q s)) ∧ ∃ m, w' = w.drewN m := by
  obtain h | h | h | h : s % 4 = 0 ∨ s % 4 = 1 ∨ s % 4 = 2 ∨ s % 4 = 3 := by omega
  · exact line_0 q s w h0 h1 s0 s1 hq h
  · exact line_1 q s w h0 h1 s0 s1 hq h
  · exact line_2 q s w h0 h1 s0 s1 hq h
  · exact line_3 q s w h0 h1 s0 s1 hq h

theorem quarter_K (k : Int) (w : World) (h0 : 0 ≤ k) (h1 : k ≤ 3) : Calls Tryd.prog 65 #[.int .i64 k] w fun e w' => e = .returned (.int .i64 (qt k)) ∧ w = w' := by
  obtain rfl | rfl | rfl | rfl : k = 0 ∨ k = 1 ∨ k = 2 ∨ k = 3 := by omega
  all_goals
    go_enter Tryd.func65, Tryd.ntmps65
    go_wp2
    go_ret
    exact ⟨rfl, rfl⟩
theorem power_ok (q : Int) (w : World) (h0 : 0 ≤ q) (h1 : q ≤ 8191) : Calls Tryd.prog 42 #[.int .i64 q] w fun e w' => e = .returned (.int .i64 (fo q)) ∧ w = w' := by
  obtain ⟨b1, b2⟩ := fo_bd h0 h1
  unfold fo at *
  have hb := cb_hi h0 h1
  have hb0 := cb_nn h0
  have HF : Hid (∀ r, IsCbrt (q * 68719476736) r → r = cbF (q * 68719476736)) := Lib.hid fun r hr => cbF_of hr
  generalize cbF (q * 68719476736) = c at *
  go_enter Tryd.func42, Tryd.ntmps42
  go_wp2_with (go_at_call 62; ((with_reducible refine (rthird (q * 68719476736) _ (by omega) (by omega)).mono ?_); rintro e w' ⟨r, hr, rfl, rfl⟩; obtain rfl := HF.out r hr))
  go_ret
  exact ⟨rfl, rfl⟩
theorem value_pos (q s : Int) (w : World) (h0 : 0 ≤ q) (h1 : q ≤ 8191) (s0 : 0 ≤ s) (s1 : s ≤ 255) : Calls Tryd.prog 44 #[.int .i64 q, .int .i64 s] w fun e w' => e = .returned (.int .i64 (ln q s)) ∧ w = w' := by
  obtain ⟨p0, p1⟩ := pr_bd (s := s) h0 h1
  obtain ⟨b0, b1⟩ := bt'_bd s0
  have hqt : qt (s % 4) = qt s := by unfold qt; rw [show s % 4 % 4 = s % 4 by omega]
  have ht : Int.tmod s 4 = s % 4 := Int.tmod_eq_emod_of_nonneg s0
  have hd : Int.tdiv s 4 = s / 4 := Int.tdiv_eq_ediv_of_nonneg s0
  have HF := Lib.hid (power_ok q)
  have HQ := Lib.hid (fun w => quarter_K (s % 4) w (by omega) (by omega))
  rw [hqt] at HQ
  have HB := Lib.hid (show (if 61 - s / 4 < 0 then 0 else 61 - s / 4) = bt' s by unfold bt'; omega)
  have HL := Lib.hid (show (if 268435455 < rnd (fo q * qt s) (bt' s) then 268435455 else rnd (fo q * qt s) (bt' s)) = ln q s by unfold ln; omega)
  clear hqt
  have hq0 := qt_bd s
  generalize bt' s = B at *
  generalize fo q = F at *
  generalize qt s = T at *
  go_enter Tryd.func44, Tryd.ntmps44
  go_wp2_with (first | (go_at_call 42; ((with_reducible refine (HF.out _ h0 h1).mono ?_); rintro e w' ⟨rfl, rfl⟩)) | (go_at_call 65; ((with_reducible refine (HQ.out _).mono ?_); rintro e w' ⟨rfl, rfl⟩)) | (go_at_call 64; rw [HB.out]; ((with_reducible refine (down_in _ _ _ (by omega) (by omega) b0 (by omega)).mono ?_); rintro e w' ⟨rfl, rfl⟩)))
  all_goals
    go_ret
    refine ⟨ret1 ?_, rfl⟩
    have := HL.out
    omega
theorem value_ok (q s : Int) (w : World) (h0 : -8191 ≤ q) (h1 : q ≤ 8191) (s0 : 0 ≤ s) (s1 : s ≤ 255) : Calls Tryd.prog 44 #[.int .i64 q, .int .i64 s] w fun e w' => e = .returned (.int .i64 (LN q s)) ∧ w = w' := by
  by_cases h : q < 0
  · have hv := Lib.hid (fun w => value_pos (-q) s w (by omega) (by omega) s0 s1)
    have hb := ln_bd (q := -q) s0 (by omega)
    unfold LN
    rw [if_pos h]
    generalize ln (-q) s = L at *
    go_enter Tryd.func44, Tryd.ntmps44
    go_wp2_with (go_at_call 44; ((with_reducible refine (hv.out _).mono ?_); rintro e w' ⟨rfl, rfl⟩))
    go_ret
    exact ⟨rfl, rfl⟩
  · rw [LN_pos (by omega)]; exact value_pos q s w (by omega) h1 s0 s1
end Go.Proofs.YtanjcbnkkhbkkaaDoor.Fx

/- What power's quant does, and the document's own. -/
namespace Go.Proofs.YtanjcbnkkhbkkaaDoor.Fx
open Go Go.ChangeShapes Go.WideShapes Go.ChangeAt Go.RowKit

theorem retB {a b : Bool} (h : a = b) : Ending.returned (.bool a) = .returned (.bool b) := by rw [h]
theorem i64_in {x : Int} (a : -9223372036854775808 ≤ x) (b : x ≤ 9223372036854775807) : IntKind.i64.wrap x = x := by
  simp [IntKind.wrap, IntKind.bits, IntKind.signed]
  omega
theorem pred_ok (q x s : Int) (bs bx : Nat) (w : World) (h0 : 0 ≤ q) (h1 : q ≤ 8190) (s0 : 0 ≤ s) (s1 : s ≤ 255) (x0 : 0 ≤ x) (x1 : x ≤ 268435455) (hq : Qs w) (cs : w.cell? ⟨bs, 0, none⟩ = some (.int .i64 s)) (cx : w.cell? ⟨bx, 0, none⟩ = some (.int .i64 x)) :
    Calls Tryd.prog 67 #[.int .i64 q, .pointer (some ⟨bs, 0, none⟩), .pointer (some ⟨bx, 0, none⟩)] w fun e w' => e = .returned (.bool (decide (2 * x ≤ ln q s + ln (q + 1) s))) ∧ ∃ m, w' = w.drewN m := by
  have hm := ln_mono (p := q) (q := q + 1) s0 h0 (by omega)
  obtain ⟨l0, l1⟩ := ln_bd (q := q) s0 h0
  obtain ⟨l2, l3⟩ := ln_bd (q := q + 1) s0 (by omega)
  have HA := Lib.hid (fun w hw => line_ok q s w h0 (by omega) s0 s1 hw)
  have HB := Lib.hid (fun w hw => line_ok (q + 1) s w (by omega) (by omega) s0 s1 hw)
  have HQ := Lib.hid hq
  clear hq
  generalize ln q s = A at *
  generalize ln (q + 1) s = C at *
  have x2 : IntKind.i64.wrap (q + 1) = q + 1 := i64_in (by omega) (by omega)
  have x3 : IntKind.i64.wrap (2 * x) = 2 * x := i64_in (by omega) (by omega)
  have x4 : IntKind.i64.wrap (A + C) = A + C := i64_in (by omega) (by omega)
  by_cases c : x ≤ A
  · rw [decide_eq_true (show 2 * x ≤ A + C by omega)]
    go_enter Tryd.func67, Tryd.ntmps67
    go_wp2_with (go_at_call 43; ((with_reducible refine (HA.out _ HQ.out).mono ?_); rintro e w1 ⟨rfl, m, hw⟩; have Q1 : Hid (Qs w1) := Lib.hid (by rw [hw]; exact HQ.out.drewN m); have cs1 : w1.cell? ⟨bs, 0, none⟩ = some (.int .i64 s) := (by rw [hw]; simpa using cs); have cx1 : w1.cell? ⟨bx, 0, none⟩ = some (.int .i64 x) := (by rw [hw]; simpa using cx); have HW := Lib.hid hw; clear hw))
    go_quiet (fail)
    go_wp2
    go_ret
    exact ⟨rfl, _, by rw [HW.out]; exact World.drewN_drewN _ _ _⟩
  · go_enter Tryd.func67, Tryd.ntmps67
    go_wp2_with (go_at_call 43; ((with_reducible refine (HA.out _ HQ.out).mono ?_); rintro e w1 ⟨rfl, m, hw⟩; have Q1 : Hid (Qs w1) := Lib.hid (by rw [hw]; exact HQ.out.drewN m); have cs1 : w1.cell? ⟨bs, 0, none⟩ = some (.int .i64 s) := (by rw [hw]; simpa using cs); have cx1 : w1.cell? ⟨bx, 0, none⟩ = some (.int .i64 x) := (by rw [hw]; simpa using cx); have HW := Lib.hid hw; clear hw))
    go_quiet ((go_at_call 43; exact Calls.quiet_of (HB.out _ (Q1.out.drewN _))))
    go_wp2
    go_ret
    exact ⟨retB (by rw [decide_eq_false (Int.not_le.2 c)]; rfl), _, by rw [HW.out]; exact World.drewN_drewN _ _ _⟩

/-- What the search has found out so far. -/
def Srch (x s : Int) (i j : Int) : Prop := 0 ≤ i ∧ i ≤ j ∧ j ≤ 8191 ∧ (i = 0 ∨ ln (i - 1) s + ln i s < 2 * x) ∧ (j = 8191 ∨ 2 * x ≤ ln j s + ln (j + 1) s)
theorem srch_end {x s i : Int} (h : Srch x s i i) : Near x s i := ⟨h.1, h.2.2.1, h.2.2.2.2, h.2.2.2.1⟩
theorem srch_lo {x s i j h : Int} (a : Srch x s i j) (h0 : i ≤ h) (h1 : h < j) (c : ¬ 2 * x ≤ ln h s + ln (h + 1) s) : Srch x s (h + 1) j := by
  obtain ⟨a0, a1, a2, a3, a4⟩ := a
  exact ⟨by omega, by omega, a2, .inr (by rw [show h + 1 - 1 = h by omega]; omega), a4⟩
theorem srch_hi {x s i j h : Int} (a : Srch x s i j) (h0 : i ≤ h) (h1 : h < j) (c : 2 * x ≤ ln h s + ln (h + 1) s) : Srch x s i h := by
  obtain ⟨a0, a1, a2, a3, a4⟩ := a
  exact ⟨a0, h0, by omega, a3, .inr c⟩
set_option maxHeartbeats 1000000 in
theorem search_ok (x s : Int) (bs bx : Nat) (w : World) (s0 : 0 ≤ s) (s1 : s ≤ 255) (x0 : 0 ≤ x) (x1 : x ≤ 268435455) (hq : Qs w) (cs : w.cell? ⟨bs, 0, none⟩ = some (.int .i64 s)) (cx : w.cell? ⟨bx, 0, none⟩ = some (.int .i64 x)) :
    Calls Tryd.prog 66 #[.int .i64 8191, .func (.func 67) #[] #[.pointer (some ⟨bs, 0, none⟩), .pointer (some ⟨bx, 0, none⟩)]] w fun e w' => e = .returned (.int .i64 (nq x s)) ∧ ∃ m, w' = w.drewN m := by
  have HN : Hid (∀ r, Near x s r → r = nq x s) := Lib.hid fun r hr => nq_of s0 hr
  have HP := Lib.hid (fun q w h0 h1 hq cs cx => pred_ok q x s bs bx w h0 h1 s0 s1 x0 x1 hq cs cx)
  have HQ := Lib.hid hq
  have CS := Lib.hid cs
  have CX := Lib.hid cx
  clear hq cs cx
  generalize nq x s = R at *
  go_enter Tryd.func66, Tryd.ntmps66
  go_wp2
  go_loopw [5, 6] (fun i j wr => ∃ (I J : Int) (m : Nat), Hid (Srch x s I J) ∧ i = .int .i64 I ∧ j = .int .i64 J ∧ wr = w.drewN m) (fun i j _ => (intOf j - intOf i).toNat)
  case atStart => exact ⟨0, 8191, 0, Lib.hid ⟨by omega, by omega, by omega, .inl rfl, .inl rfl⟩, rfl, rfl, rfl⟩
  case round =>
    obtain ⟨I, J, m, hs, rfl, rfl, rfl⟩ := hrel
    have b0 := hs.out.1
    have b1 := hs.out.2.1
    have b2 := hs.out.2.2.1
    by_cases hlt : I < J
    · obtain ⟨h, hh⟩ : ∃ h, (I + J) / 2 = h := ⟨_, rfl⟩
      have h0 : I ≤ h := by omega
      have h1 : h < J := by omega
      have e1 : IntKind.u64.wrap (I + J) = I + J := u64_in (by omega) (by omega)
      by_cases c : 2 * x ≤ ln h s + ln (h + 1) s
      · have hy := Lib.hid (srch_hi hs.out h0 h1 c)
        have hd : decide (2 * x ≤ ln h s + ln (h + 1) s) = true := decide_eq_true c
        have HP' := Lib.hid (HP.out h (w.drewN m) (by omega) (by omega) (HQ.out.drewN m) (by simpa using CS.out) (by simpa using CX.out))
        rw [hd] at HP'
        clear hd c
        go_wp2_with (go_at_call 67; ((with_reducible refine (HP'.out).mono ?_); rintro e w' ⟨rfl, m', rfl⟩))
        go_roundw
        case rel => exact ⟨I, h, m + m', hy, rfl, rfl, rfl⟩
        case measure => simp [intOf]; omega
      · have hy := Lib.hid (srch_lo hs.out h0 h1 c)
        have hd : decide (2 * x ≤ ln h s + ln (h + 1) s) = false := decide_eq_false c
        have HP' := Lib.hid (HP.out h (w.drewN m) (by omega) (by omega) (HQ.out.drewN m) (by simpa using CS.out) (by simpa using CX.out))
        rw [hd] at HP'
        clear hd c
        go_wp2_with (go_at_call 67; ((with_reducible refine (HP'.out).mono ?_); rintro e w' ⟨rfl, m', rfl⟩))
        go_roundw
        case rel => exact ⟨h + 1, J, m + m', hy, rfl, rfl, rfl⟩
        case measure => simp [intOf]; omega
    · obtain rfl : I = J := by omega
      have := HN.out I (srch_end hs.out)
      subst this
      go_wp2
      go_ret
      exact ⟨rfl, m, rfl⟩
set_option maxHeartbeats 1000000 in
theorem near_pos (x s : Int) (w : World) (s0 : 0 ≤ s) (s1 : s ≤ 255) (x0 : 0 ≤ x) (x1 : x ≤ 268435455) :
    Calls Tryd.prog 46 #[.int .i64 x, .int .i64 s] w fun e w' => e = .returned (.int .i64 (nq x s)) ∧ w = w' := by
  have HN : Hid (∀ r, Near x s r → r = nq x s) := Lib.hid fun r hr => nq_of s0 hr
  have HV := Lib.hid (fun q w h0 h1 => value_pos q s w h0 h1 s0 s1)
  generalize nq x s = R at *
  go_enter Tryd.func46, Tryd.ntmps46
  go_wp2
  go_loop [5, 6] (fun i j => ∃ (I J : Int), Hid (Srch x s I J) ∧ i = .int .i64 I ∧ j = .int .i64 J) (fun i j => (intOf j - intOf i).toNat)
  case atStart => exact ⟨0, 8191, Lib.hid ⟨by omega, by omega, by omega, .inl rfl, .inl rfl⟩, rfl, rfl⟩
  case round =>
    obtain ⟨I, J, hs, rfl, rfl⟩ := hrel
    have b0 := hs.out.1
    have b1 := hs.out.2.1
    have b2 := hs.out.2.2.1
    by_cases hlt : I < J
    · obtain ⟨h, hh⟩ : ∃ h, (I + J) / 2 = h := ⟨_, rfl⟩
      have h0 : I ≤ h := by omega
      have h1 : h < J := by omega
      have n0 : 0 ≤ h := by omega
      have n1 : h ≤ 8190 := by omega
      have l1 := ln_bd (q := h) s0 n0
      have l2 := ln_bd (q := h + 1) s0 (by omega)
      have H1 := Lib.hid (fun w => HV.out h w n0 (by omega))
      have H2 := Lib.hid (fun w => HV.out (h + 1) w (by omega) (by omega))
      by_cases c : 2 * x ≤ ln h s + ln (h + 1) s
      · have hy := Lib.hid (srch_hi hs.out h0 h1 c)
        generalize ln h s = A at *
        generalize ln (h + 1) s = C at *
        go_wp2_with (first | (go_at_call 44; ((with_reducible refine (H1.out _).mono ?_); rintro e w' ⟨rfl, rfl⟩)) | (go_at_call 44; ((with_reducible refine (H2.out _).mono ?_); rintro e w' ⟨rfl, rfl⟩)))
        go_round
        case rel => exact ⟨I, h, hy, rfl, rfl⟩
        case measure => simp [intOf]; omega
      · have hy := Lib.hid (srch_lo hs.out h0 h1 c)
        generalize ln h s = A at *
        generalize ln (h + 1) s = C at *
        go_wp2_with (first | (go_at_call 44; ((with_reducible refine (H1.out _).mono ?_); rintro e w' ⟨rfl, rfl⟩)) | (go_at_call 44; ((with_reducible refine (H2.out _).mono ?_); rintro e w' ⟨rfl, rfl⟩)))
        go_round
        case rel => exact ⟨h + 1, J, hy, rfl, rfl⟩
        case measure => simp [intOf]; omega
    · obtain rfl : I = J := by omega
      have := HN.out I (srch_end hs.out)
      subst this
      go_wp2
      go_ret
      exact ⟨rfl, rfl⟩

theorem cell_lt {w : World} {a : Addr} {v : Value} (h : w.cell? a = some v) : a.block < w.heap.size := by
  refine Nat.lt_of_not_le fun hn => ?_
  have : w.heap[a.block]? = none := Array.getElem?_eq_none hn
  simp [World.cell?, this] at h
theorem Qs.below {w w' : World} (h : Qs w) (hb : Below w.heap.size w w') : Qs w' := by
  obtain ⟨a, b, c, d⟩ := h
  have hl := cell_lt a
  exact ⟨(hb.cell (p := ⟨0, 0, none⟩) hl).trans a, (hb.cell (p := ⟨0, 1, none⟩) hl).trans b, (hb.cell (p := ⟨0, 2, none⟩) hl).trans c, (hb.cell (p := ⟨0, 3, none⟩) hl).trans d⟩
theorem drewN_below (w : World) : ∀ n, Below w.heap.size w (w.drewN n)
  | 0 => Below.refl _ _
  | n + 1 => (drewN_below w n).drew
theorem belowT {a b c : World} (h : Below a.heap.size a b) (k : Below b.heap.size b c) : Below a.heap.size a c := h.trans (k.mono h.size)
theorem two_alloc (w : World) (A B : Obj) : Below w.heap.size w ((w.alloc A).alloc B) := ((Below.refl w.heap.size w).alloc (Nat.le_refl _) _).alloc (by simp) _
theorem box_1 (w : World) (x s : Int) : ((w.alloc (.cells #[.int .i64 x] 3)).alloc (.cells #[.int .i64 s] 3)).cell? ⟨w.heap.size, 0, none⟩ = some (.int .i64 x) := by
  rw [World.cell?_alloc_lt _ _ _ (by simp)]
  simp
theorem box_2 (w : World) (x s : Int) : ((w.alloc (.cells #[.int .i64 x] 3)).alloc (.cells #[.int .i64 s] 3)).cell? ⟨w.heap.size + 1, 0, none⟩ = some (.int .i64 s) := by
  simp
set_option maxHeartbeats 1000000 in
theorem quant_pos (x s : Int) (w : World) (s0 : 0 ≤ s) (s1 : s ≤ 255) (x0 : 0 ≤ x) (x1 : x ≤ 268435455) (hq : Qs w) :
    Calls Tryd.prog 45 #[.int .i64 x, .int .i64 s] w fun e w' => e = .returned (.int .i64 (nq x s)) ∧ Below w.heap.size w w' := by
  have HS := Lib.hid (search_ok x s (w.heap.size + 1) w.heap.size _ s0 s1 x0 x1 (hq.below (two_alloc w (.cells #[.int .i64 x] 3) (.cells #[.int .i64 s] 3))) (box_2 w x s) (box_1 w x s))
  have HB := Lib.hid (two_alloc w (.cells #[.int .i64 x] 3) (.cells #[.int .i64 s] 3))
  clear hq
  go_enter Tryd.func45, Tryd.ntmps45
  go_wp2_with (go_at_call 66; ((with_reducible refine (HS.out).mono ?_); rintro e w1 ⟨rfl, m, hw⟩; have hb := Lib.hid (hw ▸ (drewN_below _ m)); clear hw))
  go_ret
  exact ⟨rfl, belowT HB.out hb.out⟩
end Go.Proofs.YtanjcbnkkhbkkaaDoor.Fx

/- What power's calls answer. -/
namespace Go.Proofs.YtanjcbnkkhbkkaaDoor.Fx
open Go Go.ChangeShapes Go.WideShapes Go.ChangeAt Go.RowKit

theorem Four_ok (q : Int) (w : World) : Calls Tryd.prog 15 #[.int .i64 q] w fun e w' => e = .returned (.tuple #[.int .i64 (F4 q), .int .i64 (E4 q)]) ∧ w = w' := by
  by_cases c1 : q < 0
  · rw [show F4 q = 0 by unfold F4; rw [if_pos (.inl c1)], show E4 q = 2 by unfold E4; rw [if_pos (.inl c1)]]
    go_enter Tryd.func15, Tryd.ntmps15
    go_wp2
    go_ret2
    exact ⟨rfl, rfl⟩
  by_cases c2 : 8191 < q
  · rw [show F4 q = 0 by unfold F4; rw [if_pos (.inr c2)], show E4 q = 2 by unfold E4; rw [if_pos (.inr c2)]]
    go_enter Tryd.func15, Tryd.ntmps15
    go_wp2
    go_ret2
    exact ⟨rfl, rfl⟩
  rw [show F4 q = fo q by unfold F4; rw [if_neg (by omega)], show E4 q = 0 by unfold E4; rw [if_neg (by omega)]]
  have HF := Lib.hid (fun w => four_ok q w (by omega) (by omega))
  go_enter Tryd.func15, Tryd.ntmps15
  go_wp2_with (go_at_call 41; ((with_reducible refine (HF.out _).mono ?_); rintro e w' ⟨rfl, rfl⟩))
  go_ret2
  exact ⟨rfl, rfl⟩
theorem rFour_ok (q : Int) (w : World) : Calls Tryd.prog 16 #[.int .i64 q] w fun e w' => e = .returned (.tuple #[.int .i64 (F4 q), .int .i64 (E4 q)]) ∧ w = w' := by
  by_cases c1 : q < 0
  · rw [show F4 q = 0 by unfold F4; rw [if_pos (.inl c1)], show E4 q = 2 by unfold E4; rw [if_pos (.inl c1)]]
    go_enter Tryd.func16, Tryd.ntmps16
    go_wp2
    go_ret2
    exact ⟨rfl, rfl⟩
  by_cases c2 : 8191 < q
  · rw [show F4 q = 0 by unfold F4; rw [if_pos (.inr c2)], show E4 q = 2 by unfold E4; rw [if_pos (.inr c2)]]
    go_enter Tryd.func16, Tryd.ntmps16
    go_wp2
    go_ret2
    exact ⟨rfl, rfl⟩
  rw [show F4 q = fo q by unfold F4; rw [if_neg (by omega)], show E4 q = 0 by unfold E4; rw [if_neg (by omega)]]
  have HF := Lib.hid (fun w => power_ok q w (by omega) (by omega))
  go_enter Tryd.func16, Tryd.ntmps16
  go_wp2_with (go_at_call 42; ((with_reducible refine (HF.out _).mono ?_); rintro e w' ⟨rfl, rfl⟩))
  go_ret2
  exact ⟨rfl, rfl⟩
theorem FL_bad {q s : Int} (h : badL q s) : FL q s = 0 ∧ EL q s = 2 := by unfold FL EL; rw [if_pos h, if_pos h]; exact ⟨rfl, rfl⟩
theorem FL_ok {q s : Int} (h : ¬ badL q s) : FL q s = LN q s ∧ EL q s = 0 := by unfold FL EL; rw [if_neg h, if_neg h]; exact ⟨rfl, rfl⟩
theorem FQ_bad {q s : Int} (h : badQ q s) : FQ q s = 0 ∧ EQ q s = 2 := by unfold FQ EQ; rw [if_pos h, if_pos h]; exact ⟨rfl, rfl⟩
theorem FQ_ok {q s : Int} (h : ¬ badQ q s) : FQ q s = NQ q s ∧ EQ q s = 0 := by unfold FQ EQ; rw [if_neg h, if_neg h]; exact ⟨rfl, rfl⟩
theorem NQ_bd (x s : Int) : -8191 ≤ NQ x s ∧ NQ x s ≤ 8191 := nearS_bd (NQ_is x s)
theorem Line_ok (q s : Int) (w : World) (hq : Qs w) : Calls Tryd.prog 17 #[.int .i64 q, .int .i64 s] w fun e w' => e = .returned (.tuple #[.int .i64 (FL q s), .int .i64 (EL q s)]) ∧ ∃ m, w' = w.drewN m := by
  by_cases c0 : q < -8191
  · obtain ⟨e1, e2⟩ := FL_bad (q := q) (s := s) (by unfold badL; omega)
    rw [e1, e2]
    go_enter Tryd.func17, Tryd.ntmps17
    go_wp2
    go_ret2
    exact ⟨rfl, 0, rfl⟩
  by_cases c1 : 8191 < q
  · obtain ⟨e1, e2⟩ := FL_bad (q := q) (s := s) (by unfold badL; omega)
    rw [e1, e2]
    go_enter Tryd.func17, Tryd.ntmps17
    go_wp2
    go_ret2
    exact ⟨rfl, 0, rfl⟩
  by_cases c2 : s < 0
  · obtain ⟨e1, e2⟩ := FL_bad (q := q) (s := s) (by unfold badL; omega)
    rw [e1, e2]
    go_enter Tryd.func17, Tryd.ntmps17
    go_wp2
    go_ret2
    exact ⟨rfl, 0, rfl⟩
  by_cases c3 : 255 < s
  · obtain ⟨e1, e2⟩ := FL_bad (q := q) (s := s) (by unfold badL; omega)
    rw [e1, e2]
    go_enter Tryd.func17, Tryd.ntmps17
    go_wp2
    go_ret2
    exact ⟨rfl, 0, rfl⟩
  obtain ⟨e1, e2⟩ := FL_ok (q := q) (s := s) (by unfold badL; omega)
  rw [e1, e2]
  have HQ := Lib.hid hq
  clear hq e1 e2
  by_cases c : q < 0
  · have HF := Lib.hid (fun w hw => line_ok (-q) s w (by omega) (by omega) (by omega) (by omega) hw)
    have hb := ln_bd (q := -q) (s := s) (by omega) (by omega)
    unfold LN
    rw [if_pos c]
    generalize ln (-q) s = L at *
    go_enter Tryd.func17, Tryd.ntmps17
    go_wp2_with (go_at_call 43; ((with_reducible refine (HF.out _ HQ.out).mono ?_); rintro e w' ⟨rfl, m, rfl⟩))
    go_ret2
    exact ⟨rfl, _, rfl⟩
  · have HF := Lib.hid (fun w hw => line_ok q s w (by omega) (by omega) (by omega) (by omega) hw)
    have hb := ln_bd (q := q) (s := s) (by omega) (by omega)
    unfold LN
    rw [if_neg c]
    generalize ln q s = L at *
    go_enter Tryd.func17, Tryd.ntmps17
    go_wp2_with (go_at_call 43; ((with_reducible refine (HF.out _ HQ.out).mono ?_); rintro e w' ⟨rfl, m, rfl⟩))
    go_ret2
    exact ⟨rfl, _, rfl⟩
theorem rLine_ok (q s : Int) (w : World) : Calls Tryd.prog 18 #[.int .i64 q, .int .i64 s] w fun e w' => e = .returned (.tuple #[.int .i64 (FL q s), .int .i64 (EL q s)]) ∧ w = w' := by
  by_cases c0 : q < -8191
  · obtain ⟨e1, e2⟩ := FL_bad (q := q) (s := s) (by unfold badL; omega)
    rw [e1, e2]
    go_enter Tryd.func18, Tryd.ntmps18
    go_wp2
    go_ret2
    exact ⟨rfl, rfl⟩
  by_cases c1 : 8191 < q
  · obtain ⟨e1, e2⟩ := FL_bad (q := q) (s := s) (by unfold badL; omega)
    rw [e1, e2]
    go_enter Tryd.func18, Tryd.ntmps18
    go_wp2
    go_ret2
    exact ⟨rfl, rfl⟩
  by_cases c2 : s < 0
  · obtain ⟨e1, e2⟩ := FL_bad (q := q) (s := s) (by unfold badL; omega)
    rw [e1, e2]
    go_enter Tryd.func18, Tryd.ntmps18
    go_wp2
    go_ret2
    exact ⟨rfl, rfl⟩
  by_cases c3 : 255 < s
  · obtain ⟨e1, e2⟩ := FL_bad (q := q) (s := s) (by unfold badL; omega)
    rw [e1, e2]
    go_enter Tryd.func18, Tryd.ntmps18
    go_wp2
    go_ret2
    exact ⟨rfl, rfl⟩
  obtain ⟨e1, e2⟩ := FL_ok (q := q) (s := s) (by unfold badL; omega)
  rw [e1, e2]
  clear e1 e2
  have HF := Lib.hid (fun w => value_ok q s w (by omega) (by omega) (by omega) (by omega))
  go_enter Tryd.func18, Tryd.ntmps18
  go_wp2_with (go_at_call 44; ((with_reducible refine (HF.out _).mono ?_); rintro e w' ⟨rfl, rfl⟩))
  go_ret2
  exact ⟨rfl, rfl⟩
theorem Quant_ok (q s : Int) (w : World) (hq : Qs w) : Calls Tryd.prog 19 #[.int .i64 q, .int .i64 s] w fun e w' => e = .returned (.tuple #[.int .i64 (FQ q s), .int .i64 (EQ q s)]) ∧ Below w.heap.size w w' := by
  by_cases c0 : q < -268435455
  · obtain ⟨e1, e2⟩ := FQ_bad (q := q) (s := s) (by unfold badQ; omega)
    rw [e1, e2]
    go_enter Tryd.func19, Tryd.ntmps19
    go_wp2
    go_ret2
    exact ⟨rfl, Below.refl _ _⟩
  by_cases c1 : 268435455 < q
  · obtain ⟨e1, e2⟩ := FQ_bad (q := q) (s := s) (by unfold badQ; omega)
    rw [e1, e2]
    go_enter Tryd.func19, Tryd.ntmps19
    go_wp2
    go_ret2
    exact ⟨rfl, Below.refl _ _⟩
  by_cases c2 : s < 0
  · obtain ⟨e1, e2⟩ := FQ_bad (q := q) (s := s) (by unfold badQ; omega)
    rw [e1, e2]
    go_enter Tryd.func19, Tryd.ntmps19
    go_wp2
    go_ret2
    exact ⟨rfl, Below.refl _ _⟩
  by_cases c3 : 255 < s
  · obtain ⟨e1, e2⟩ := FQ_bad (q := q) (s := s) (by unfold badQ; omega)
    rw [e1, e2]
    go_enter Tryd.func19, Tryd.ntmps19
    go_wp2
    go_ret2
    exact ⟨rfl, Below.refl _ _⟩
  obtain ⟨e1, e2⟩ := FQ_ok (q := q) (s := s) (by unfold badQ; omega)
  rw [e1, e2]
  have HQ := Lib.hid hq
  clear hq e1 e2
  by_cases c : q < 0
  · have HF := Lib.hid (fun w hw => quant_pos (-q) s w (by omega) (by omega) (by omega) (by omega) hw)
    have hb := nq_is (-q) s
    have hb1 := hb.1
    have hb2 := hb.2.1
    clear hb
    unfold NQ
    rw [if_pos c]
    generalize nq (-q) s = L at *
    go_enter Tryd.func19, Tryd.ntmps19
    go_wp2_with (go_at_call 45; ((with_reducible refine (HF.out _ HQ.out).mono ?_); rintro e w' ⟨rfl, hb⟩))
    go_ret2
    exact ⟨rfl, hb⟩
  · have HF := Lib.hid (fun w hw => quant_pos q s w (by omega) (by omega) (by omega) (by omega) hw)
    unfold NQ
    rw [if_neg c]
    generalize nq q s = L at *
    go_enter Tryd.func19, Tryd.ntmps19
    go_wp2_with (go_at_call 45; ((with_reducible refine (HF.out _ HQ.out).mono ?_); rintro e w' ⟨rfl, hb⟩))
    go_ret2
    exact ⟨rfl, hb⟩
theorem rNear_ok (x s : Int) (w : World) (s0 : 0 ≤ s) (s1 : s ≤ 255) (x0 : -268435455 ≤ x) (x1 : x ≤ 268435455) : Calls Tryd.prog 46 #[.int .i64 x, .int .i64 s] w fun e w' => e = .returned (.int .i64 (NQ x s)) ∧ w = w' := by
  by_cases c : x < 0
  · have HF := Lib.hid (fun w => near_pos (-x) s w (by omega) (by omega) (by omega) (by omega))
    have hb := nq_is (-x) s
    have hb1 := hb.1
    have hb2 := hb.2.1
    clear hb
    unfold NQ
    rw [if_pos c]
    generalize nq (-x) s = L at *
    go_enter Tryd.func46, Tryd.ntmps46
    go_wp2_with (go_at_call 46; ((with_reducible refine (HF.out _).mono ?_); rintro e w' ⟨rfl, rfl⟩))
    go_ret
    exact ⟨rfl, rfl⟩
  · unfold NQ
    rw [if_neg c]
    exact near_pos x s w s0 s1 (by omega) x1
theorem rQuant_ok (q s : Int) (w : World) : Calls Tryd.prog 20 #[.int .i64 q, .int .i64 s] w fun e w' => e = .returned (.tuple #[.int .i64 (FQ q s), .int .i64 (EQ q s)]) ∧ w = w' := by
  by_cases c0 : q < -268435455
  · obtain ⟨e1, e2⟩ := FQ_bad (q := q) (s := s) (by unfold badQ; omega)
    rw [e1, e2]
    go_enter Tryd.func20, Tryd.ntmps20
    go_wp2
    go_ret2
    exact ⟨rfl, rfl⟩
  by_cases c1 : 268435455 < q
  · obtain ⟨e1, e2⟩ := FQ_bad (q := q) (s := s) (by unfold badQ; omega)
    rw [e1, e2]
    go_enter Tryd.func20, Tryd.ntmps20
    go_wp2
    go_ret2
    exact ⟨rfl, rfl⟩
  by_cases c2 : s < 0
  · obtain ⟨e1, e2⟩ := FQ_bad (q := q) (s := s) (by unfold badQ; omega)
    rw [e1, e2]
    go_enter Tryd.func20, Tryd.ntmps20
    go_wp2
    go_ret2
    exact ⟨rfl, rfl⟩
  by_cases c3 : 255 < s
  · obtain ⟨e1, e2⟩ := FQ_bad (q := q) (s := s) (by unfold badQ; omega)
    rw [e1, e2]
    go_enter Tryd.func20, Tryd.ntmps20
    go_wp2
    go_ret2
    exact ⟨rfl, rfl⟩
  obtain ⟨e1, e2⟩ := FQ_ok (q := q) (s := s) (by unfold badQ; omega)
  rw [e1, e2]
  clear e1 e2
  have HF := Lib.hid (fun w => rNear_ok q s w (by omega) (by omega) (by omega) (by omega))
  go_enter Tryd.func20, Tryd.ntmps20
  go_wp2_with (go_at_call 46; ((with_reducible refine (HF.out _).mono ?_); rintro e w' ⟨rfl, rfl⟩))
  go_ret2
  exact ⟨rfl, rfl⟩
theorem f4_eight : F4 8 = 65536 ∧ E4 8 = 0 := by
  have h : cbF (8 * 68719476736) = 8192 := (cbF_of ⟨by decide, by decide, by decide⟩).symm
  unfold F4 E4 fo
  rw [if_neg (by omega), if_neg (by omega), h]
  exact ⟨rfl, rfl⟩
theorem alive_ok (w : World) : Calls Tryd.prog 21 #[] w fun e w' => e = .returned (.bool true) ∧ w = w' := by
  have HF := Lib.hid (fun w => Four_ok 8 w)
  rw [f4_eight.1, f4_eight.2] at HF
  go_enter Tryd.func21, Tryd.ntmps21
  go_wp2_with (go_at_call 15; ((with_reducible refine (HF.out _).mono ?_); rintro e w' ⟨rfl, rfl⟩))
  go_ret
  exact ⟨rfl, rfl⟩
def fa (a b : Int) : Int := max (a - b) (b - a)
theorem far_ok (a b : Int) (w : World) (a0 : -2305843009213693952 ≤ a) (a1 : a ≤ 2305843009213693952) (b0 : -2305843009213693952 ≤ b) (b1 : b ≤ 2305843009213693952) : Calls Tryd.prog 22 #[.int .i64 a, .int .i64 b] w fun e w' => e = .returned (.int .i64 (fa a b)) ∧ w = w' := by
  go_enter Tryd.func22, Tryd.ntmps22
  go_wp2
  all_goals
    go_ret
    refine ⟨ret1 ?_, rfl⟩
    unfold fa
    omega
end Go.Proofs.YtanjcbnkkhbkkaaDoor.Fx

/- Power's contracts, with the table kept. -/
namespace Go.Proofs.YtanjcbnkkhbkkaaDoor.Fx
open Go Go.Ev Go.ChangeShapes Go.WideShapes Go.ChangeAt Go.RowKit

/-- The table stays, and what was there. -/
def Kp (w w' : World) : Prop := Hid (Qs w' ∧ Below w.heap.size w w')
theorem Kp.refl {w : World} (h : Qs w) : Kp w w := ⟨h, Below.refl _ _⟩
theorem Kp.on {w w1 w2 : World} (h : Kp w w1) (k : Below w1.heap.size w1 w2) : Kp w w2 := ⟨h.1.below k, belowT h.2 k⟩
theorem kp_same {f : FuncId} {args : Array Value} {w w1 : World} {v : Value} (k : Kp w w1) (h : Calls Tryd.prog f args w1 fun e w' => e = .returned v ∧ w1 = w') : Calls Tryd.prog f args w1 fun e w' => e = .returned v ∧ Kp w w' := h.mono fun _ _ ⟨a, b⟩ => ⟨a, b ▸ k⟩
theorem kp_drew {f : FuncId} {args : Array Value} {w w1 : World} {v : Value} (k : Kp w w1) (h : Calls Tryd.prog f args w1 fun e w' => e = .returned v ∧ ∃ m, w' = w1.drewN m) : Calls Tryd.prog f args w1 fun e w' => e = .returned v ∧ Kp w w' := h.mono fun _ _ ⟨a, m, b⟩ => ⟨a, k.on (b ▸ drewN_below _ m)⟩
theorem kp_below {f : FuncId} {args : Array Value} {w w1 : World} {v : Value} (k : Kp w w1) (h : Calls Tryd.prog f args w1 fun e w' => e = .returned v ∧ Below w1.heap.size w1 w') : Calls Tryd.prog f args w1 fun e w' => e = .returned v ∧ Kp w w' := h.mono fun _ _ ⟨a, b⟩ => ⟨a, k.on b⟩
theorem line_k {w w1 : World} (q : Int) (s : Int) (k : Kp w w1) : Calls Tryd.prog 17 #[.int .i64 q, .int .i64 s] w1 fun e w' => e = .returned (.tuple #[.int .i64 (FL q s), .int .i64 (EL q s)]) ∧ Kp w w' := kp_drew k (Line_ok q s w1 k.1)
theorem rline_k {w w1 : World} (q : Int) (s : Int) (k : Kp w w1) : Calls Tryd.prog 18 #[.int .i64 q, .int .i64 s] w1 fun e w' => e = .returned (.tuple #[.int .i64 (FL q s), .int .i64 (EL q s)]) ∧ Kp w w' := kp_same k (rLine_ok q s w1)
theorem quant_k {w w1 : World} (q : Int) (s : Int) (k : Kp w w1) : Calls Tryd.prog 19 #[.int .i64 q, .int .i64 s] w1 fun e w' => e = .returned (.tuple #[.int .i64 (FQ q s), .int .i64 (EQ q s)]) ∧ Kp w w' := kp_below k (Quant_ok q s w1 k.1)
theorem rquant_k {w w1 : World} (q : Int) (s : Int) (k : Kp w w1) : Calls Tryd.prog 20 #[.int .i64 q, .int .i64 s] w1 fun e w' => e = .returned (.tuple #[.int .i64 (FQ q s), .int .i64 (EQ q s)]) ∧ Kp w w' := kp_same k (rQuant_ok q s w1)
theorem four_k {w w1 : World} (q : Int) (k : Kp w w1) : Calls Tryd.prog 15 #[.int .i64 q] w1 fun e w' => e = .returned (.tuple #[.int .i64 (F4 q), .int .i64 (E4 q)]) ∧ Kp w w' := kp_same k (Four_ok q w1)
theorem rfour_k {w w1 : World} (q : Int) (k : Kp w w1) : Calls Tryd.prog 16 #[.int .i64 q] w1 fun e w' => e = .returned (.tuple #[.int .i64 (F4 q), .int .i64 (E4 q)]) ∧ Kp w w' := kp_same k (rFour_ok q w1)
theorem alive_k {w w1 : World}  (k : Kp w w1) : Calls Tryd.prog 21 #[] w1 fun e w' => e = .returned (.bool true) ∧ Kp w w' := kp_same k (alive_ok w1)

/-- What a row lists is the table. -/
theorem qs_of {laid : List (String × DataW Unit)} {w : World} (hL : laidMetH Tryd.prog laid w) (h1 : (laid.all fun x => x.2.handleName?.isNone) = true) (h2 : Named Tryd.prog laid [(0, 80)])
    (h3 : flats E laid [(0, 80)] = some [(0, [.int .i64 1073741824, .int .i64 1276901417, .int .i64 1518500250, .int .i64 1805811301])]) : Qs w := by
  rw [MakeChecks.laidMetH_plain _ _ _ h1] at hL
  obtain ⟨ps, hl, _⟩ := hL
  obtain ⟨⟨c, t, fz, hc, hd⟩, _⟩ := flats_ok h2 h3 hl
  have := hd (fun _ => none)
  simp [denL, den] at this
  have hc2 : c = #[.int .i64 1073741824, .int .i64 1276901417, .int .i64 1518500250, .int .i64 1805811301] := by cases c; simp_all
  subst hc2
  unfold Qs
  simp [World.cell?, hc]
end Go.Proofs.YtanjcbnkkhbkkaaDoor.Fx

/- A loop over an iterator whose assignment lays a block (a variable of the round that is taken by address). -/
namespace Go.Proofs.YtanjcbnkkhbkkaaDoor.Rg
open Go Go.RowKit
variable {F : Fence} {n : Nat} {P : Program}
theorem range_memA {α : Type} {g : Operand} {ps : Array Tmp} {assign body : Code} {Q : Exit → Act → World → Prop} {a : Act} {w : World}
    (hro : F.round = none) (h1 : 1 ≤ n) {gf : Nat} {lb : Array Value} (hg : a.eval g = .func (.func gf) #[] lb) (hFg : F.fn gf) (eg : ∀ args w, (callFunc gf args).run P w = .ok (.enter gf args) w)
    (encs : α → Array Value) (Hx : Nat → α → World → Prop) (T U : Nat → Prop) (N : Nat) (hTU : ∀ k, T k → U k) (hU : ∀ k, U k → k < w.heap.size) (hps : ∀ x, (encs x).size = ps.size)
    (hseq : ∀ (l : Nat) (J : Nat → World → Prop) (W : World), l = w.heap.size + 1 → Part (fun _ => False) w W → l < W.heap.size → (∀ k A B, J k A → Part T A B → J k B) →
      (∀ k x W1, J k W1 → k < N → l < W1.heap.size → Hx k x W1 → YieldAt F (n - 1 - 1) P l (encs x) W1 fun e W' => e = .returned (.bool true) ∧ J (k + 1) W' ∧ Keep U W1 W' ∧ l < W'.heap.size) →
      J 0 W → CallsIn F (n - 1) P gf (#[.func (.yield l) #[] #[]] ++ lb) W fun e W' => (∃ v, e = .returned v) ∧ J N W')
    (I : Nat → World → Prop) (hI : ∀ k A B, I k A → Part (fun j => T j ∨ j = w.heap.size ∨ j = w.heap.size + 1) A B → I k B) (h0 : I 0 w)
    (hHx : ∀ k x A B, w.heap.size + 1 < A.heap.size → Part (fun j => j = w.heap.size + 1) A B → Hx k x A → Hx k x B) (ob : α → Obj) (a₁ : α → Nat → Act)
    (hassign : ∀ (l : Nat) (x : α) (W : World) (K : Act → World → Prop), (∀ W', Below W.heap.size W W' → W'.heap[W.heap.size]? = some (ob x) → K (a₁ x W.heap.size) W') →
      assign.wpIn (F.inRound l) (n - 1 - 1) P (Exit.then K (fun _ _ _ => False)) { tmps := (ps.zip (encs x)).foldl (fun t (p, v) => t.setIfInBounds p v) a.tmps, defers := [] } W)
    (hbody : ∀ (l k : Nat) (x : α) (b : Nat) (W : World), I k W → k < N → Hx k x W → w.heap.size + 1 < b → W.heap[b]? = some (ob x) → body.wpIn (F.inRound l) (n - 1 - 1) P (onlyN fun W' => I (k + 1) W' ∧ Keep (fun j => U j ∨ j = w.heap.size ∨ j = w.heap.size + 1) W W') (a₁ x b) W)
    (hdone : ∀ (W : World), I N W → w.heap.size < W.heap.size → W.heap[w.heap.size]? = some (.deferred (some [])) → Q .normal { a with defers := { target := .collected w.heap.size, args := #[] } :: a.defers } W) :
    (Code.rangeFunc g ps assign body).wpIn F n P Q a w := by
  refine wpIn_rangeFunc fun fn hfn => ?_
  rw [hro]
  let rec_ : LoopState → Loop := fun st => { state := st, pending := none, fn, tmps := a.tmps, params := ps, assign, body, defers := w.heap.size }
  let W0 : World := (w.alloc (.deferred (some []))).alloc (.loop (rec_ .ready))
  have s0 : W0.heap.size = w.heap.size + 2 := by simp [W0]
  have d0 : W0.heap[w.heap.size]? = some (.deferred (some [])) := (Below.heap_alloc _ _ _ (by simp)).trans (World.alloc_heap_new w _)
  have l0 : W0.heap[w.heap.size + 1]? = some (.loop (rec_ .ready)) := by
    have := World.alloc_heap_new (w.alloc (.deferred (some []))) (.loop (rec_ .ready)); rwa [World.size_alloc] at this
  have p0 : Below w.heap.size w W0 := (((Below.refl _ w).alloc (Nat.le_refl _) _).alloc (by simp) _)
  let Bk : World → Prop := fun W => W.heap[w.heap.size]? = some (.deferred (some [])) ∧ W.heap[w.heap.size + 1]? = some (.loop (rec_ .ready))
  refine ⟨w.heap.size + 1, [{ target := .collected w.heap.size, args := #[] }], W0, { target := .fn (.func gf) lb, args := #[.func (.yield (w.heap.size + 1)) #[] #[]] }, W0, gf,
    #[.func (.yield (w.heap.size + 1)) #[] #[]] ++ lb, W0, run_enterLoop_outer _ _ _ _ _, ?_, ?_, ?_, fun _ => h1, ?_⟩
  · simp only [resolve, hg]
    simp [go_sem]
  · intro f' hf'; simp [Target.leads] at hf'; subst hf'; exact hFg
  · simp [invoke, go_sem, eg]
  refine (hseq (w.heap.size + 1) (fun k W => I k W ∧ Bk W) W0 rfl (Part.of_below p0) (by omega) ?_ ?_ ⟨hI 0 w W0 h0 (Part.of_below p0), d0, l0⟩).mono ?_
  · rintro k A C ⟨hi, hd, hl⟩ hp
    have la := (Array.getElem?_eq_some_iff.1 hl).1
    refine ⟨hI k A C hi (hp.mono fun _ => .inl), (hp.block _ (by omega) fun q => ?_).trans hd, (hp.block _ la fun q => ?_).trans hl⟩
    · have := hU _ (hTU _ q); omega
    · have := hU _ (hTU _ q); omega
  · rintro k x W1 ⟨hi, hd, hl⟩ hk _ hx
    have la := (Array.getElem?_eq_some_iff.1 hl).1
    have hy := run_yield (P := P) (args := encs x) hl (hps x)
    refine ⟨fn, _, assign, body, hy, roundIn_of_wpIn hfn (hassign _ x W1 _ fun WA hA oA => ⟨_, run_beginRound ((hA.block _ la).trans hl) rfl, ?_⟩)⟩
    have lA := hA.size
    have la' : w.heap.size + 1 < WA.heap.size := Nat.lt_of_lt_of_le la lA
    have e2 : (WA.putObj (w.heap.size + 1) (.loop { rec_ .ready with state := .busy })).heap[w.heap.size + 1]? = some (.loop { rec_ .ready with state := .busy }) := World.putObj_heap_same la'
    have e3 : (WA.putObj (w.heap.size + 1) (.loop { rec_ .ready with state := .busy })).heap[w.heap.size]? = some (.deferred (some [])) := (World.putObj_heap_other (by omega)).trans ((hA.block _ (by omega)).trans hd)
    refine wpIn_mono (hbody _ k x W1.heap.size _ (hI k _ _ (hI k _ _ hi (Part.of_below hA)) (Part.put _ (.inr (.inr rfl)))) hk (hHx k x W1 _ la ((Part.of_below hA).trans (Part.put _ rfl)) hx) la ((World.putObj_heap_other (by omega)).trans oA)) ?_
    rintro e a3 W3 hp
    cases e with
    | normal =>
      obtain ⟨hi3, hs3, hk3⟩ := hp
      have e4 := (hk3 _ (.inr (.inr rfl))).trans e2
      have e5 := (hk3 _ (.inr (.inl rfl))).trans e3
      have la3 := (Array.getElem?_eq_some_iff.1 e4).1
      refine ⟨_, _, run_endRound (P := P) none e4, rfl, ⟨hI (k + 1) _ _ hi3 (Part.put _ (.inr (.inr rfl))), (World.putObj_heap_other (by omega)).trans e5, World.putObj_heap_same la3⟩, ⟨?_, fun j q => ?_⟩, ?_⟩
      · simp at hs3 ⊢; omega
      · have hj := hU j q
        exact (((World.putObj_heap_other (by omega)).trans (hk3 j (.inl q))).trans (World.putObj_heap_other (by omega))).trans (hA.block j (by omega))
      · simpa using la3
    | ret => exact hp.elim
    | exit id => exact hp.elim
    | goto t => exact hp.elim
    | panic ch => exact hp.elim
    | outgrown => exact hp.elim
  · rintro e W2 ⟨⟨v, rfl⟩, hi, hd, hl⟩
    have la := (Array.getElem?_eq_some_iff.1 hl).1
    exact ⟨none, _, run_endLoop (P := P) hl (by simp [rec_]), hdone _ (hI N _ _ hi (Part.put _ (.inr (.inr rfl)))) (by simp; omega) ((World.putObj_heap_other (by omega)).trans hd)⟩
end Go.Proofs.YtanjcbnkkhbkkaaDoor.Rg

/- What a line is turned to. -/
namespace Go.Proofs.YtanjcbnkkhbkkaaDoor.Qn
open Go Go.ChangeShapes Go.WideShapes Go.ChangeAt Go.RowKit Go.Shelf Go.Proofs.YtanjcbnkkhbkkaaDoor.If Go.Proofs.YtanjcbnkkhbkkaaDoor.Rg Go.Proofs.YtanjcbnkkhbkkaaDoor.Bd

theorem grp_cons {n l : Int} {zs : List Int} (h : grp (n :: zs) l = true) : 1 ≤ n ∧ n ≤ l ∧ grp zs (l - n) = true := by
  unfold grp at h
  by_cases c : n < 1 ∨ l < n
  · rw [if_pos c] at h; cases h
  · rw [if_neg c] at h; exact ⟨by omega, by omega, h⟩
theorem gof_lt : ∀ {zs : List Int} {l x : Int}, grp zs l = true → 0 ≤ x → x < l → gof zs x < zs.length
  | [], l, x, h, h0, h1 => by simp [grp] at h; omega
  | n :: zs, l, x, h, h0, h1 => by
    obtain ⟨a, b, c⟩ := grp_cons h
    unfold gof
    split
    · have := gof_lt c (x := x - n) (by omega) (by omega); simp; omega
    · simp
theorem chk_parts {r s h m : Int} {gz : List Int} (hc : chk r s h m gz = 0) : s ≤ 3 ∧ h ≤ 1 ∧ 0 ≤ m ∧ m ≤ mny r (s == 2) ∧ grp gz (win s) = true := by
  by_cases c : r < 0 ∨ 11 < r
  · rw [chk_arg c] at hc; exact absurd hc (by decide)
  · by_cases d : 3 < s ∨ 1 < h ∨ m < 0 ∨ mny r (s == 2) < m ∨ grp gz (win s) = false
    · rw [chk_bad c d] at hc; exact absurd hc (by decide)
    · exact ⟨by omega, by omega, by omega, by omega, by cases e : grp gz (win s) with
        | true => rfl
        | false => exact absurd (.inr (.inr (.inr (.inr e)))) d⟩
theorem gz_pos {r s h m : Int} {gz : List Int} (hc : chk r s h m gz = 0) : 0 < gz.length := by
  have g := (chk_parts hc).2.2.2.2
  cases gz with
  | nil =>
    rw [wn_win] at g
    simp [grp] at g
    unfold WN at g
    split at g <;> simp at g
  | cons n zs => simp
/-- The value of a line in group g and band b. -/
def qv (m : Int) (B S : List (List Int)) (lz : List Int) (f : Int → Int → Int) (k g b : Nat) : Int :=
  if lz.getD k 0 ≠ 0 ∧ (b : Int) < m ∧ snt ((B.getD g []).getD b 0) = true then f (lz.getD k 0) ((S.getD g []).getD b 0) else 0
/-- A line's group. -/
def gk (s : Int) (gz : List Int) (k : Nat) : Nat := gof gz ((k / LN s : Nat) : Int)
open Classical in
/-- A line's band. -/
noncomputable def bk (r s : Int) (k : Nat) : Nat := if h : ∃ b, In (L r (s == 2)) ((k % LN s : Nat) : Int) b then Classical.choose h else 0
theorem bk_eq {r s : Int} (r0 : 0 ≤ r) (r1 : r ≤ 11) {k b : Nat} (h : In (L r (s == 2)) ((k % LN s : Nat) : Int) b) : bk r s k = b := by
  unfold bk
  have he : ∃ b, In (L r (s == 2)) ((k % LN s : Nat) : Int) b := ⟨b, h⟩
  rw [dif_pos he]
  obtain ⟨f0, f1, f2, f3, f4, f5⟩ := fact r (s == 2) r0 r1
  exact In.one (fun i hi => f4 i (by omega)) (Classical.choose_spec he) h
/-- The value of a line. -/
noncomputable def QV (r s m : Int) (gz : List Int) (B S : List (List Int)) (lz : List Int) (f : Int → Int → Int) (k : Nat) : Int := qv m B S lz f k (gk s gz k) (bk r s k)
theorem hx_parts {r s : Int} {gz : List Int} {k : Nat} {x : Nat × Int × Nat} {W : World} (r0 : 0 ≤ r) (r1 : r ≤ 11) (h : HxQ r s gz k x W) : x = (k, ((gk s gz k : Nat) : Int), bk r s k) := by
  obtain ⟨h1, h2, h3, h4, h5⟩ := h
  obtain ⟨a, b, c⟩ := x
  simp only at h1 h2 h3 h4 h5
  rw [bk_eq r0 r1 ⟨h3, h4, h5⟩, h1, h2]
  rfl
theorem gk_lt {r s h m : Int} {gz : List Int} {k : Nat} (hc : chk r s h m gz = 0) (hk : k < 256) : gk s gz k < gz.length := by
  have g := (chk_parts hc).2.2.2.2
  rw [wn_win] at g
  have hw := ln_wn s
  have hlt : k / LN s < WN s := Nat.div_lt_of_lt_mul (by rw [Nat.mul_comm, hw]; exact hk)
  exact gof_lt g (Int.natCast_nonneg _) (Int.ofNat_lt.2 hlt)
/-- Books and steps at a line's place. -/
theorem qe_zero {r s h m : Int} {gz : List Int} {B S : List (List Int)} (hq : QE r s h m gz B S 0) : chk r s h m gz = 0 ∧ B.length = gz.length ∧ S.length = gz.length ∧ (∀ i, i < B.length → ((B.getD i []).length : Int) = m) ∧ (∀ i, i < S.length → ((S.getD i []).length : Int) = m) ∧ ∀ g b, g < B.length → b < (B.getD g []).length → ¬ badP ((B.getD g []).getD b 0) ((S.getD g []).getD b 0) := by
  rcases hq with ⟨h1, h2⟩ | ⟨h1, h2, h3⟩ | ⟨h1, h2, h3, h4 | h4⟩
  · exact absurd h2.symm h1
  · exact absurd h3 (by decide)
  · exact absurd h4.2 (by decide)
  · obtain ⟨a, b⟩ := shp_yes h2
    obtain ⟨c, d⟩ := shp_yes h3
    exact ⟨h1, a, c, b, d, fun g b hg hb hbad => h4.1 ⟨g, b, hg, hb, by omega, hbad⟩⟩
end Go.Proofs.YtanjcbnkkhbkkaaDoor.Qn

/- A drawn region within a round of a loop over a function: as outside of it, where nothing of it defers. -/
namespace Go.Proofs.YtanjcbnkkhbkkaaDoor.Rg
open Go
variable {F : Fence} {n : Nat} {P : Program} {ops : Array Oper} {Q : Exit → Act → World → Prop} {md : Region.Mode}

theorem op_inRound {o : Oper} {a : Act} {w : World} {K K' : Act → World → Prop} (l : Nat) (hro : F.round = none) (hd : ∀ c, o.op ≠ .defer c) (h : ∀ a w, K a w → K' a w)
    (hh : o.wpIn F n P a w K Q) : o.wpIn (F.inRound l) n P a w K' Q := by
  have hh := Oper.wpIn_mono h hh
  unfold Oper.wpIn at *
  rw [Oper.semAt_plain F _ _ hd] at hh
  rw [Oper.semAt_plain (F.inRound l) _ _ hd]
  refine ⟨hh.1, ?_⟩
  have hh := hh.2
  generalize (execOp a.eval o).run P w = r at *
  cases r with
  | ok x w' => cases x <;> exact hh
  | halt x w' => cases x <;> exact hh
theorem any_inRound (l : Nat) (hro : F.round = none) (hd : ∀ (i : Nat) (o : Oper), ops[i]? = some o → ∀ c, o.op ≠ .defer c) : ∀ (fuel : Nat) (listed : Array Bool) (a : Act) (w : World), wpAnyIn F n P md ops Q fuel listed a w → wpAnyIn (F.inRound l) n P md ops Q fuel listed a w
  | 0, _, _, _, h => h
  | fuel + 1, listed, a, w, h => by
    refine ⟨h.1, fun i hi => ?_⟩
    have := h.2 i hi
    unfold wpOpIn at this ⊢
    cases e : ops[i]? with
    | none => rw [e] at this; exact any_inRound l hro hd fuel _ _ _ this
    | some o =>
      rw [e] at this
      simp only at this ⊢
      split
      · rename_i hw
        rw [if_pos hw] at this
        exact op_inRound l hro (hd i o e) (fun a w => any_inRound l hro hd fuel _ a w) this
      · rename_i hw
        rw [if_neg hw] at this
        exact ⟨this.1, any_inRound l hro hd fuel _ _ _ this.2⟩
/-- No operation defers. -/
def noDefer (os : List Oper) : Bool := os.all fun o => match o.op with | .defer _ => false | _ => true
theorem noDefer_at {os : List Oper} (h : noDefer os = true) : ∀ (i : Nat) (o : Oper), os.toArray[i]? = some o → ∀ c, o.op ≠ .defer c := by
  intro i o ho c e
  have hm : o ∈ os := by
    have := Array.mem_of_getElem? ho
    simpa using this
  have := (List.all_eq_true.1 h) o hm
  rw [e] at this
  cases this
theorem region_quiet_round {id : Nat} {a : Act} {w : World} {os : List Oper} (l : Nat) (hro : F.round = none) (hm : P.follows .mixedOrders = true) (hB : Region.lexB .any os.toArray = true) (hd : noDefer os = true)
    (h : wpQuietIn F n P os.toArray (fun w' => ∃ n, w' = w.drewN n) (fun a' => ∀ w', (∃ n, w' = w.drewN n) → Q .normal a' w') os a) : (Code.region id os.toArray true).wpIn (F.inRound l) n P Q a w := by
  simp only [Region.lexB, Bool.and_eq_true] at hB
  refine wpIn_region_any hm (any_inRound l hro (noDefer_at hd) _ _ _ _ (wpAnyIn_of_quiet (C := fun w' => ∃ n, w' = w.drewN n) (Q := fun a' => ∀ w', (∃ n, w' = w.drewN n) → Q .normal a' w') hro (fun _ w' hw' h => h w' hw') _ _ _ _ ⟨1, rfl⟩ ?_))
  have := wpAnyQIn_lex (F := F) (n := n) (C := fun w' => ∃ n, w' = w.drewN n) (md := .any) hB.1 os.toArray.toList 0 (Array.replicate os.toArray.size false) a (by simp) (by simpa using hB.2) (by simpa using h)
  simpa using this
end Go.Proofs.YtanjcbnkkhbkkaaDoor.Rg

/- A drawn region within a round of a loop over a function: what is known of it outside of a round holds there too. -/
namespace Go.Proofs.YtanjcbnkkhbkkaaDoor.Rg
open Go
variable {n : Nat} {P : Program} {ops : Array Oper} {Q : Exit → Act → World → Prop} {md : Region.Mode}

theorem op_plain {o : Oper} {a : Act} {w : World} {K K' : Act → World → Prop} (l : Nat) (hd : ∀ c, o.op ≠ .defer c) (h : ∀ a w, K a w → K' a w)
    (hh : o.wp P a w K Q) : o.wpIn (Fence.wide.inRound l) n P a w K' Q := by
  have hh := Oper.wp_mono h hh
  unfold Oper.wp at hh
  unfold Oper.wpIn
  rw [Oper.semAt_plain (Fence.wide.inRound l) _ _ hd]
  refine ⟨fun _ _ => trivial, ?_⟩
  have hdp : ((Fence.wide.inRound l).depth.isSome = true → 1 ≤ n) := fun h => by cases h
  generalize (execOp a.eval o).run P w = r at *
  cases r with
  | ok x w' =>
    cases x with
    | value v => exact hh
    | skip => exact hh
    | defer d => exact hh
    | enter f args => exact ⟨hdp, (callsIn_wide (n := n - 1)).2 hh⟩
    | row row args => exact ⟨hdp, fun c cs _ => let ⟨v, w', r, s⟩ := hh c cs; ⟨v, w', r, stepsIn_wide.2 s⟩⟩
    | _ => exact hh.elim
  | halt x w' => cases x <;> exact hh
theorem any_plain (l : Nat) (hL : ¬ LetsOut Q) (hd : ∀ (i : Nat) (o : Oper), ops[i]? = some o → ∀ c, o.op ≠ .defer c) : ∀ (fuel : Nat) (listed : Array Bool) (a : Act) (w : World), wpAny P md ops Q fuel listed a w → wpAnyIn (Fence.wide.inRound l) n P md ops Q fuel listed a w
  | 0, _, _, _, h => h
  | fuel + 1, listed, a, w, h => by
    refine ⟨h.1, fun i hi => ?_⟩
    have := h.2 i hi
    unfold wpOp at this
    unfold wpOpIn
    cases e : ops[i]? with
    | none => rw [e] at this; exact any_plain l hL hd fuel _ _ _ this
    | some o =>
      rw [e] at this
      simp only at this ⊢
      split
      · rename_i hw
        rw [if_pos hw] at this
        rcases this with this | ⟨_, hq⟩
        · exact op_plain l (hd i o e) (fun a w => any_plain l hL hd fuel _ a w) this
        · exact absurd hq hL
      · rename_i hw
        rw [if_neg hw] at this
        exact ⟨fun _ _ => trivial, any_plain l hL hd fuel _ _ _ this⟩
theorem region_held_round {id : Nat} {a : Act} {w : World} {os : List Oper} (l : Nat) (S : World → Prop) (hm : P.follows .mixedOrders = true) (hd : noDefer os = true) (hL : ¬ LetsOut Q)
    (h : wpAnyH P .any os.toArray Q S os.toArray.size (Array.replicate os.toArray.size false) a w.drew) : (Code.region id os.toArray true).wpIn (Fence.wide.inRound l) n P Q a w :=
  wpIn_region_any hm (any_plain l hL (noDefer_at hd) _ _ _ _ (wpAny_of_held _ _ _ _ h))
end Go.Proofs.YtanjcbnkkhbkkaaDoor.Rg
