/- Texts of one claim, one behind the other: LoCon, BdCon, BdOff, BdRef, BdRo, IfCon. -/
import Derived.Test.YtanjcbnkkhbkkaaDoorRows
import Derived.WalkKit
import Derived.RegionTactic
import Derived.ChangeAlike
import Derived.Deep.OwnRows
import Derived.ProofKit
import Derived.OpenShut
import Derived.Lib.Hide
import Derived.Laws.AppendOwn
import Derived.Laws.AppendOwnNone
import Derived.WalkMore
import Derived.ScopeJumps
import Derived.Deep.QuietTactic
import Derived.BigQuiet
import Derived.Below
set_option linter.unusedVariables false
/- What lose's calls do. -/
namespace Go.Proofs.YtanjcbnkkhbkkaaDoor.Lo
open Go Go.ChangeShapes Go.WideShapes Go.ChangeAt Go.RowKit

theorem belowT {w w1 w2 : World} (a : Below w.heap.size w w1) (b : Below w1.heap.size w1 w2) : Below w.heap.size w w2 := a.trans (b.mono a.size)

/-- Lines, as they lie in memory. -/
def Rd (w : World) (v : Value) (zs : List Int) : Prop :=
  (∃ a cap, v = .slice a 0 cap ∧ zs = []) ∨
  ∃ b off cap, v = .slice (some ⟨b, off, none⟩) zs.length cap ∧ b < w.heap.size ∧ zs.length ≤ cap ∧ cap ≤ maxLen ∧ ∀ i, i < zs.length → w.cell? ⟨b, off + i, none⟩ = some (.int .i64 (zs.getD i 0))
theorem Rd.below {w w' : World} {v : Value} {zs : List Int} (h : Rd w v zs) (hb : Below w.heap.size w w') : Rd w' v zs := by
  rcases h with h | ⟨b, off, cap, h1, h2, h3, h4, h5⟩
  · exact .inl h
  · exact .inr ⟨b, off, cap, h1, Nat.lt_of_lt_of_le h2 hb.size, h3, h4, fun i hi => (hb.cell (p := ⟨b, off + i, none⟩) h2).trans (h5 i hi)⟩
theorem rd_row {w : World} {g n : Nat} {f : Nat → Int} {zs : List Int} (h : w.rowIs g 3 n (fun j => .int .i64 (f j))) (hn : zs.length = n) (hm : n ≤ maxLen) (hf : ∀ j, j < n → f j = zs.getD j 0) : Rd w (.slice (some ⟨g, 0, none⟩) n n) zs :=
  .inr ⟨g, 0, n, by rw [hn], h.lt, by omega, hm, fun i hi => by rw [Nat.zero_add, h.cell (by omega), hf i (by omega)]⟩

theorem info3 : (Tryd.prog.info? 3).map (fun i => (i.zero, i.size, i.bytes)) = some (some (.int .i64 0), 1, 8) := by kernel_rfl

/-- A list as far as k, and noughts behind. -/
def fillF (F : Nat → Int) (k : Nat) : Nat → Value := fun j => .int .i64 (if j < k then F j else 0)
theorem fill_step {w : World} {g n k : Nat} {F : Nat → Int} {v : Int} (h : w.rowIs g 3 n (fillF F k)) (hv : v = F k) : (w.setCell ⟨g, k, none⟩ (.int .i64 v)).rowIs g 3 n (fillF F (k + 1)) := by
  refine (h.set k (.int .i64 v)).congr fun i _ => ?_
  unfold fillF
  by_cases e : i = k
  · subst e; simp [hv]
  · by_cases c : i < k
    · simp [e, c, show i < k + 1 by omega]
    · simp [e, c, show ¬ i < k + 1 by omega]
theorem fill_end {w : World} {g n : Nat} {F : Nat → Int} (h : w.rowIs g 3 n (fillF F n)) : w.rowIs g 3 n (fun j => .int .i64 (F j)) :=
  h.congr fun i hi => by unfold fillF; rw [if_pos hi]

/-- All of a list are one number. -/
def InLine (zs : List Int) : Prop := ∀ z ∈ zs, -268435455 ≤ z ∧ z ≤ 268435455
/-- Between what was ahead and what comes behind. -/
def btw (x y W T : Int) : Int := (x * (W - T) + y * T) / W
theorem tdiv_floor {s W : Int} (hW : 0 < W) : (if s < Int.tdiv s W * W then Int.tdiv s W - 1 else Int.tdiv s W) = s / W := by
  have h1 := Int.ediv_mul_le s (show W ≠ 0 by omega)
  have h2 := Int.lt_ediv_add_one_mul_self s hW
  rw [Int.add_mul] at h2
  by_cases h : 0 ≤ s ∨ W ∣ s
  · have e : Int.tdiv s W = s / W := by rw [Int.tdiv_eq_ediv, if_pos h]; omega
    rw [e, if_neg (by omega)]
  · have hs : Int.sign W = 1 := Int.sign_eq_one_of_pos hW
    have e : Int.tdiv s W = s / W + 1 := by rw [Int.tdiv_eq_ediv, if_neg h, hs]
    have h3 : s / W * W ≠ s := fun k => h (.inr ⟨s / W, by rw [Int.mul_comm]; exact k.symm⟩)
    rw [e, Int.add_mul, if_pos (by omega)]
    omega

theorem retI {a b : Int} (h : a = b) : Ending.returned (.int .i64 a) = .returned (.int .i64 b) := by rw [h]
end Go.Proofs.YtanjcbnkkhbkkaaDoor.Lo

/- What the calls of layer band do: the offsets. -/
namespace Go.Proofs.YtanjcbnkkhbkkaaDoor.Bd
open Go Go.ChangeShapes Go.WideShapes Go.ChangeAt Go.RowKit Go.Proofs.YtanjcbnkkhbkkaaDoor.Lo

/-! ### Lists of the call's own -/
def Own (base : Nat) (w : World) (v : Value) (zs : List Int) : Prop := w.ownsRow base 3 1 v zs.length (zs.map (Value.int .i64))
theorem one64 (zs : List Int) : ∀ u ∈ zs.map (Value.int .i64), u.oneCell' = true := by
  intro u hu
  simp only [List.mem_map] at hu
  obtain ⟨x, _, rfl⟩ := hu
  rfl
theorem add_at (b o i : Nat) : (⟨b, o, none⟩ : Addr).add i = ⟨b, o + i, none⟩ := by simp [Addr.add]
theorem Own.rd {w : World} {base : Nat} {v : Value} {zs : List Int} (h : Own base w v zs) : Rd w v zs := by
  have hlt := h.lt
  have hcells := @World.ownsRow.cells _ _ _ _ _ _ _ h
  obtain ⟨hx, ⟨rfl, hn⟩ | ⟨g, cap, cur, rfl, hg, hh, hc, hm, hs, ht⟩⟩ := h
  · exact .inl ⟨none, 0, rfl, by cases zs with | nil => rfl | cons _ _ => simp at hn⟩
  · refine .inr ⟨g, 0, cap, rfl, (hlt g rfl).2, hc, hm, fun i hi => ?_⟩
    have := hcells (g := g) rfl i (.int .i64 (zs.getD i 0)) (by simp [hi])
    rwa [add_at] at this
theorem Own.below {base : Nat} {w w' : World} {v : Value} {zs : List Int} (h : Own base w v zs) (hb : Below w.heap.size w w') : Own base w' v zs := by
  have hlt := h.lt
  obtain ⟨hx, h | ⟨g, cap, cur, rfl, hg, hh, hc, hm, hs, ht⟩⟩ := h
  · exact ⟨hx, .inl h⟩
  · exact ⟨hx, .inr ⟨g, cap, cur, rfl, hg, (hb.block g (hlt g rfl).2).trans hh, hc, hm, hs, ht⟩⟩
theorem own_push {base : Nat} {w : World} {v : Value} {a : List Int} {x : Int} (h : w.ownsRow base 3 1 v (a.length + 1) (a.map (Value.int .i64) ++ [Value.int .i64 x])) : Own base w v (a ++ [x]) := by
  unfold Own
  rw [List.length_append, List.map_append]
  exact h
theorem below_grown {W w w' : World} {base : Nat} {v : Value} {zs : List Int} (hb : Below W.heap.size W w) (ho : Own base w v zs) (hle : W.heap.size ≤ base) (hg : w.grownBy w' v.ownBlock) : Below W.heap.size W w' :=
  hb.grown hg hb.size fun k hk => Nat.le_trans hle (ho.lt k hk).1

/-! ### The offsets -/
def nxt (k U N a : Int) : Int := min (a + 4 + 4 * Int.tdiv (a * k) U) N
def offs (k U N : Int) : Nat → Int → List Int
  | 0, _ => []
  | f + 1, a => if a < N then a :: offs k U N f (nxt k U N a) else [N]
def kOf (r : Int) : Int := 3 + Int.tdiv (11 - r) 2
def nOf (s : Bool) : Int := if s then 32 else 256
def uOf (s : Bool) : Int := if s then 64 else 256
/-- The offsets of a rate that may be. -/
def L (r : Int) (s : Bool) : List Int := offs (kOf r) (uOf s) (nOf s) 66 0

theorem nxt_bd {k U N a : Int} (k0 : 3 ≤ k) (k1 : k ≤ 8) (hU : U = 64 ∨ U = 256) (a0 : 0 ≤ a) (a1 : a < N) (hN : N ≤ 256) : 0 ≤ a * k ∧ a * k ≤ 2048 ∧ 0 ≤ Int.tdiv (a * k) U ∧ Int.tdiv (a * k) U ≤ 2048 ∧ (a + 4 ≤ nxt k U N a ∨ nxt k U N a = N) ∧ nxt k U N a ≤ N ∧ 0 ≤ nxt k U N a := by
  have h1 : 0 ≤ a * k := Int.mul_nonneg a0 (by omega)
  have h2 : a * k ≤ 256 * 8 := Int.mul_le_mul (by omega) k1 (by omega) (by omega)
  have h3 : 0 ≤ Int.tdiv (a * k) U := Int.tdiv_nonneg h1 (by omega)
  have h4 : Int.tdiv (a * k) U ≤ a * k := by
    rw [Int.tdiv_eq_ediv_of_nonneg h1]
    exact Int.ediv_le_self _ h1
  unfold nxt
  generalize Int.tdiv (a * k) U = q at *
  generalize a * k = p at *
  omega

theorem info3' : (Tryd.prog.info? 3).map (fun i => (i.zero, i.size, i.bytes)) = some (some (.int .i64 0), 1, 8) := by kernel_rfl
end Go.Proofs.YtanjcbnkkhbkkaaDoor.Bd

/- What band's Offsets does. -/
namespace Go.Proofs.YtanjcbnkkhbkkaaDoor.Bd
open Go Go.ChangeShapes Go.WideShapes Go.ChangeAt Go.RowKit Go.Proofs.YtanjcbnkkhbkkaaDoor.Lo

theorem off_bad (r : Int) (s : Bool) (w : World) (h : r < 0 ∨ 11 < r) :
    Calls Tryd.prog 60 #[.int .i64 r, .bool s] w fun e w' => e = .returned (.tuple #[.slice none 0 0, .int .i64 2]) ∧ w = w' := by
  by_cases h0 : r < 0
  · go_enter Tryd.func60, Tryd.ntmps60
    go_wp2
    go_step3
    go_wp2
    rw [Exit.noGoto_ret]
    go_ret2
    exact ⟨rfl, rfl⟩
  · have h1 : 11 < r := by omega
    clear h
    go_enter Tryd.func60, Tryd.ntmps60
    go_wp2
    go_step3
    go_wp2
    rw [Exit.noGoto_ret]
    go_ret2
    exact ⟨rfl, rfl⟩

theorem offs_go {k U N a : Int} {f : Nat} (h : a < N) : offs k U N (f + 1) a = a :: offs k U N f (nxt k U N a) := by rw [offs, if_pos h]
theorem offs_end {k U N : Int} {f : Nat} : offs k U N (f + 1) N = [N] := by rw [offs, if_neg (by omega)]
def intO : Value → Int | .int _ q => q | _ => 0

theorem own_push2 {base : Nat} {w : World} {v : Value} {a : List Int} {x y : Int} (h : w.ownsRow base 3 1 v (a.length + 1 + 1) (a.map (Value.int .i64) ++ [Value.int .i64 x, Value.int .i64 y])) : Own base w v (a ++ [x, y]) := by
  unfold Own
  rw [List.length_append, List.map_append]
  exact h

set_option maxRecDepth 100000 in
set_option maxHeartbeats 2000000 in
theorem off_false (r q : Int) (w : World) (hq : Int.tdiv (11 - r) 2 = q) (r0 : 0 ≤ r) (r1 : r ≤ 11) (q0 : 0 ≤ q) (q1 : q ≤ 5) :
    Calls Tryd.prog 60 #[.int .i64 r, .bool false] w fun e w' => ∃ v, e = .returned (.tuple #[v, .int .i64 0]) ∧ Own w.heap.size w' v (offs (3 + q) 256 256 66 0) ∧ Below w.heap.size w w' := by
  obtain ⟨i0, hi, hz0, hz1, hz2⟩ := info_parts info3
  go_enter Tryd.func60, Tryd.ntmps60
  go_wp2
  refine wp_scope_jumps 0 (fun a' w' => ∃ (f : Nat) (a : Int) (pre : List Int) (v : Value) (u11 u12 u13 u14 u15 u16 u17 u18 u19 u20 u21 u22 u23 u24 u25 u26 u27 u28 u29 u30 u31 u32 u33 u34 u35 u36 u37 u38 u39 u40 u41 u42 u43 : Value), a' = { tmps := #[.int .i64 r, .bool false, undef, undef, .slice none 0 0, .int .i64 0, .int .i64 (3 + q), .int .i64 256, .int .i64 256, v, .int .i64 a, u11, u12, u13, u14, u15, u16, u17, u18, u19, u20, u21, u22, u23, u24, u25, u26, u27, u28, u29, u30, u31, u32, u33, u34, u35, u36, u37, u38, u39, u40, u41, u42, u43], defers := [] } ∧ Own w.heap.size w' v pre ∧ Hid (pre ++ offs (3 + q) 256 256 f a = offs (3 + q) 256 256 66 0) ∧ 0 ≤ a ∧ a < 256 ∧ 256 - a + 4 ≤ 4 * f ∧ pre.length + f ≤ 66 ∧ Below w.heap.size w w') (fun a' _ => (256 - intO (a'.tmps.getD 10 undef)).toNat) rfl ?_ ?_
  · go_wp2
    go_step3
    go_wp2_with ((at_builtin; refine wpList_append_own _ rfl (.tmp 22) (.tmp 24) 39 rfl w.heap.size 3 i0 (.int .i64 0) 1 8 Tryd.underlying39 hi hz0 hz1 hz2 rfl (by decide) _ _ _ rfl ((World.ownsRow_nil w w.heap.size 3 1).alloc _) ⟨w.heap.size, 0, none⟩ 1 1 [.int .i64 0] rfl rfl ?c1 ?c2 ?c3 ?c4 ?c5 ?_))
    first
    | case c1 =>
        intro j u hj
        match j, hj with
        | 0, hj => simp at hj; subst hj; simp [Addr.add]
    | skip
    case c2 => intro u hu; simp at hu; subst hu; rfl
    case c3 => unfold maxLen; first | omega | (simp; done) | (simp; omega)
    case c4 => first | omega | (simp; done) | (simp; omega)
    case c5 => first | omega | (simp; done) | (simp; omega)
    intro v2 w2 hown2 hgrow2 _
    go_wp2

    have ho2 : Own w.heap.size w2 v2 ([] ++ [0]) := own_push hown2
    have hb2 : Below w.heap.size w w2 := below_grown (zs := []) ((Below.refl _ _).alloc (Nat.le_refl _) _) ((World.ownsRow_nil w _ 3 1).alloc _) (Nat.le_refl _) hgrow2
    go_step3
    refine ⟨rfl, 65, 4, [0], v2, _, _, _, _, _, _, _, _, _, _, _, _, _, _, _, _, _, _, _, _, _, _, _, _, _, _, _, _, _, _, _, _, _, rfl, ho2, ?_, by omega, by omega, by omega, by simp, hb2⟩
    exact Lib.hid (by rw [offs_go (f := 65) (a := 0) (by omega), show nxt (3 + q) 256 256 0 = 4 by unfold nxt; rw [Int.zero_mul]; rfl]; rfl)
  · rintro a' wr ⟨f, a, pre, v, u11, u12, u13, u14, u15, u16, u17, u18, u19, u20, u21, u22, u23, u24, u25, u26, u27, u28, u29, u30, u31, u32, u33, u34, u35, u36, u37, u38, u39, u40, u41, u42, u43, rfl, hown, hL, a0, a1, hf, hp, hbel⟩
    obtain ⟨f, rfl⟩ : ∃ f', f = f' + 1 := ⟨f - 1, by omega⟩
    obtain ⟨p0, p1, t0, t1, n0, n1, n2⟩ := nxt_bd (k := 3 + q) (U := 256) (N := 256) (by omega) (by omega) (by omega) a0 a1 (by omega)
    have hgo := offs_go (k := 3 + q) (U := 256) (N := 256) (f := f) a1
    have hL' := hL.out
    rw [hgo] at hL'
    have hnx : nxt (3 + q) 256 256 a = min (a + 4 + 4 * Int.tdiv (a * (3 + q)) 256) 256 := rfl
    rw [hnx] at n0 n1 n2
    rw [hnx] at hL'
    obtain ⟨p, hpp⟩ : ∃ p, a * (3 + q) = p := ⟨_, rfl⟩
    rw [hpp] at hL' p0 p1 t0 t1 n0 n1 n2
    obtain ⟨t, htt⟩ : ∃ t, Int.tdiv p 256 = t := ⟨_, rfl⟩
    rw [htt] at hL' t0 t1 n0 n1 n2
    clear hL hgo hnx
    have hsz := hbel.size
    have hle : w.heap.size ≤ wr.heap.size := hsz
    by_cases hlt : a + 4 + 4 * t < 256
    · have hmin : min (a + 4 + 4 * t) 256 = a + 4 + 4 * t := by omega
      rw [hmin] at hL'
      have HL := Lib.hid hL'
      clear hL' hmin n0 n1 n2
      go_wp2_with ((at_builtin; refine wpList_append_own _ rfl (.tmp 22) (.tmp 24) 39 rfl w.heap.size 3 i0 (.int .i64 0) 1 8 Tryd.underlying39 hi hz0 hz1 hz2 rfl (by decide) _ _ _ rfl (World.ownsRow.alloc hown _) ⟨wr.heap.size, 0, none⟩ 1 1 [.int .i64 a] rfl rfl ?c1 ?c2 ?c3 ?c4 ?c5 ?_))
      first
      | case c1 =>
          intro j u hj
          match j, hj with
          | 0, hj => simp at hj; subst hj; simp [Addr.add]
      | skip
      case c2 => intro u hu; simp at hu; subst hu; rfl
      case c3 => unfold maxLen; first | omega | (simp; done) | (simp; omega)
      case c4 => first | omega | (simp; done) | (simp; omega)
      case c5 => first | omega | (simp; done) | (simp; omega)
      intro v2 w2 hown2 hgrow2 _
      go_wp2
      have ho2 : Own w.heap.size w2 v2 (pre ++ [a]) := own_push hown2
      have hb2 : Below w.heap.size w w2 := below_grown (hbel.alloc hle _) (hown.alloc _) (Nat.le_refl _) hgrow2
      go_step3
      refine ⟨rfl, ⟨f, _, pre ++ [a], v2, _, _, _, _, _, _, _, _, _, _, _, _, _, _, _, _, _, _, _, _, _, _, _, _, _, _, _, _, _, _, _, _, _, rfl, ho2, ?_, by omega, by omega, by omega, by simp; omega, hb2⟩, ?_⟩
      · exact Lib.hid (by rw [List.append_assoc]; exact HL.out)
      · simp [intO]; omega
    · have hmin : min (a + 4 + 4 * t) 256 = 256 := by omega
      rw [hmin] at hL'
      obtain ⟨f, rfl⟩ : ∃ f', f = f' + 1 := ⟨f - 1, by omega⟩
      rw [offs_end] at hL'
      have HL := Lib.hid hL'
      clear hL' hmin n0 n1 n2
      by_cases heq : a + 4 + 4 * t = 256
      · clear hlt
        go_wp2_with ((at_builtin; refine wpList_append_own _ rfl (.tmp 22) (.tmp 24) 39 rfl w.heap.size 3 i0 (.int .i64 0) 1 8 Tryd.underlying39 hi hz0 hz1 hz2 rfl (by decide) _ _ _ rfl (World.ownsRow.alloc hown _) ⟨wr.heap.size, 0, none⟩ 1 1 [.int .i64 a] rfl rfl ?c1 ?c2 ?c3 ?c4 ?c5 ?_))
        first
        | case c1 =>
            intro j u hj
            match j, hj with
            | 0, hj => simp at hj; subst hj; simp [Addr.add]
        | skip
        case c2 => intro u hu; simp at hu; subst hu; rfl
        case c3 => unfold maxLen; first | omega | (simp; done) | (simp; omega)
        case c4 => first | omega | (simp; done) | (simp; omega)
        case c5 => first | omega | (simp; done) | (simp; omega)
        intro v2 w2 hown2 hgrow2 _
        have ho2 : Own w.heap.size w2 v2 (pre ++ [a]) := own_push hown2
        have hb2 : Below w.heap.size w w2 := below_grown (hbel.alloc hle _) (hown.alloc _) (Nat.le_refl _) hgrow2
        have hle2 := hb2.size
        go_wp2_with ((at_builtin; refine wpList_append_own _ rfl (.tmp 40) (.tmp 42) 39 rfl w.heap.size 3 i0 (.int .i64 0) 1 8 Tryd.underlying39 hi hz0 hz1 hz2 rfl (by decide) _ _ _ rfl (World.ownsRow.alloc ho2 _) ⟨w2.heap.size, 0, none⟩ 1 1 [.int .i64 256] rfl rfl ?c1 ?c2 ?c3 ?c4 ?c5 ?_))
        first
        | case c1 =>
            intro j u hj
            match j, hj with
            | 0, hj => simp at hj; subst hj; simp [Addr.add]
        | skip
        case c2 => intro u hu; simp at hu; subst hu; rfl
        case c3 => unfold maxLen; first | omega | (simp; done) | (simp; omega)
        case c4 => first | omega | (simp; done) | (simp; omega)
        case c5 => first | omega | (simp; done) | (simp; omega)
        intro v3 w3 hown3 hgrow3 _
        have ho3 : Own w.heap.size w3 v3 (pre ++ [a, 256]) := own_push2 hown3
        have hb3 : Below w.heap.size w w3 := below_grown (hb2.alloc hle2 _) (ho2.alloc _) (Nat.le_refl _) hgrow3
        rw [HL.out] at ho3
        go_wp2
        simp only [Exit.jump]
        go_ret2
        exact ⟨_, rfl, ho3, hb3⟩
      · have hgt : 256 < a + 4 + 4 * t := by omega
        clear heq hlt
        go_wp2_with ((at_builtin; refine wpList_append_own _ rfl (.tmp 22) (.tmp 24) 39 rfl w.heap.size 3 i0 (.int .i64 0) 1 8 Tryd.underlying39 hi hz0 hz1 hz2 rfl (by decide) _ _ _ rfl (World.ownsRow.alloc hown _) ⟨wr.heap.size, 0, none⟩ 1 1 [.int .i64 a] rfl rfl ?c1 ?c2 ?c3 ?c4 ?c5 ?_))
        first
        | case c1 =>
            intro j u hj
            match j, hj with
            | 0, hj => simp at hj; subst hj; simp [Addr.add]
        | skip
        case c2 => intro u hu; simp at hu; subst hu; rfl
        case c3 => unfold maxLen; first | omega | (simp; done) | (simp; omega)
        case c4 => first | omega | (simp; done) | (simp; omega)
        case c5 => first | omega | (simp; done) | (simp; omega)
        intro v2 w2 hown2 hgrow2 _
        have ho2 : Own w.heap.size w2 v2 (pre ++ [a]) := own_push hown2
        have hb2 : Below w.heap.size w w2 := below_grown (hbel.alloc hle _) (hown.alloc _) (Nat.le_refl _) hgrow2
        have hle2 := hb2.size
        go_wp2_with ((at_builtin; refine wpList_append_own _ rfl (.tmp 40) (.tmp 42) 39 rfl w.heap.size 3 i0 (.int .i64 0) 1 8 Tryd.underlying39 hi hz0 hz1 hz2 rfl (by decide) _ _ _ rfl (World.ownsRow.alloc ho2 _) ⟨w2.heap.size, 0, none⟩ 1 1 [.int .i64 256] rfl rfl ?c1 ?c2 ?c3 ?c4 ?c5 ?_))
        first
        | case c1 =>
            intro j u hj
            match j, hj with
            | 0, hj => simp at hj; subst hj; simp [Addr.add]
        | skip
        case c2 => intro u hu; simp at hu; subst hu; rfl
        case c3 => unfold maxLen; first | omega | (simp; done) | (simp; omega)
        case c4 => first | omega | (simp; done) | (simp; omega)
        case c5 => first | omega | (simp; done) | (simp; omega)
        intro v3 w3 hown3 hgrow3 _
        have ho3 : Own w.heap.size w3 v3 (pre ++ [a, 256]) := own_push2 hown3
        have hb3 : Below w.heap.size w w3 := below_grown (hb2.alloc hle2 _) (ho2.alloc _) (Nat.le_refl _) hgrow3
        rw [HL.out] at ho3
        go_wp2
        simp only [Exit.jump]
        go_ret2
        exact ⟨_, rfl, ho3, hb3⟩

set_option maxRecDepth 100000 in
set_option maxHeartbeats 2000000 in
theorem off_true (r q : Int) (w : World) (hq : Int.tdiv (11 - r) 2 = q) (r0 : 0 ≤ r) (r1 : r ≤ 11) (q0 : 0 ≤ q) (q1 : q ≤ 5) :
    Calls Tryd.prog 60 #[.int .i64 r, .bool true] w fun e w' => ∃ v, e = .returned (.tuple #[v, .int .i64 0]) ∧ Own w.heap.size w' v (offs (3 + q) 64 32 66 0) ∧ Below w.heap.size w w' := by
  obtain ⟨i0, hi, hz0, hz1, hz2⟩ := info_parts info3
  go_enter Tryd.func60, Tryd.ntmps60
  go_wp2
  refine wp_scope_jumps 0 (fun a' w' => ∃ (f : Nat) (a : Int) (pre : List Int) (v : Value) (u11 u12 u13 u14 u15 u16 u17 u18 u19 u20 u21 u22 u23 u24 u25 u26 u27 u28 u29 u30 u31 u32 u33 u34 u35 u36 u37 u38 u39 u40 u41 u42 u43 : Value), a' = { tmps := #[.int .i64 r, .bool true, undef, undef, .slice none 0 0, .int .i64 0, .int .i64 (3 + q), .int .i64 32, .int .i64 64, v, .int .i64 a, u11, u12, u13, u14, u15, u16, u17, u18, u19, u20, u21, u22, u23, u24, u25, u26, u27, u28, u29, u30, u31, u32, u33, u34, u35, u36, u37, u38, u39, u40, u41, u42, u43], defers := [] } ∧ Own w.heap.size w' v pre ∧ Hid (pre ++ offs (3 + q) 64 32 f a = offs (3 + q) 64 32 66 0) ∧ 0 ≤ a ∧ a < 32 ∧ 32 - a + 4 ≤ 4 * f ∧ pre.length + f ≤ 66 ∧ Below w.heap.size w w') (fun a' _ => (32 - intO (a'.tmps.getD 10 undef)).toNat) rfl ?_ ?_
  · go_wp2
    go_step3
    go_wp2_with ((at_builtin; refine wpList_append_own _ rfl (.tmp 22) (.tmp 24) 39 rfl w.heap.size 3 i0 (.int .i64 0) 1 8 Tryd.underlying39 hi hz0 hz1 hz2 rfl (by decide) _ _ _ rfl ((World.ownsRow_nil w w.heap.size 3 1).alloc _) ⟨w.heap.size, 0, none⟩ 1 1 [.int .i64 0] rfl rfl ?c1 ?c2 ?c3 ?c4 ?c5 ?_))
    first
    | case c1 =>
        intro j u hj
        match j, hj with
        | 0, hj => simp at hj; subst hj; simp [Addr.add]
    | skip
    case c2 => intro u hu; simp at hu; subst hu; rfl
    case c3 => unfold maxLen; first | omega | (simp; done) | (simp; omega)
    case c4 => first | omega | (simp; done) | (simp; omega)
    case c5 => first | omega | (simp; done) | (simp; omega)
    intro v2 w2 hown2 hgrow2 _
    go_wp2

    have ho2 : Own w.heap.size w2 v2 ([] ++ [0]) := own_push hown2
    have hb2 : Below w.heap.size w w2 := below_grown (zs := []) ((Below.refl _ _).alloc (Nat.le_refl _) _) ((World.ownsRow_nil w _ 3 1).alloc _) (Nat.le_refl _) hgrow2
    go_step3
    refine ⟨rfl, 65, 4, [0], v2, _, _, _, _, _, _, _, _, _, _, _, _, _, _, _, _, _, _, _, _, _, _, _, _, _, _, _, _, _, _, _, _, _, rfl, ho2, ?_, by omega, by omega, by omega, by simp, hb2⟩
    exact Lib.hid (by rw [offs_go (f := 65) (a := 0) (by omega), show nxt (3 + q) 64 32 0 = 4 by unfold nxt; rw [Int.zero_mul]; rfl]; rfl)
  · rintro a' wr ⟨f, a, pre, v, u11, u12, u13, u14, u15, u16, u17, u18, u19, u20, u21, u22, u23, u24, u25, u26, u27, u28, u29, u30, u31, u32, u33, u34, u35, u36, u37, u38, u39, u40, u41, u42, u43, rfl, hown, hL, a0, a1, hf, hp, hbel⟩
    obtain ⟨f, rfl⟩ : ∃ f', f = f' + 1 := ⟨f - 1, by omega⟩
    obtain ⟨p0, p1, t0, t1, n0, n1, n2⟩ := nxt_bd (k := 3 + q) (U := 64) (N := 32) (by omega) (by omega) (by omega) a0 a1 (by omega)
    have hgo := offs_go (k := 3 + q) (U := 64) (N := 32) (f := f) a1
    have hL' := hL.out
    rw [hgo] at hL'
    have hnx : nxt (3 + q) 64 32 a = min (a + 4 + 4 * Int.tdiv (a * (3 + q)) 64) 32 := rfl
    rw [hnx] at n0 n1 n2
    rw [hnx] at hL'
    obtain ⟨p, hpp⟩ : ∃ p, a * (3 + q) = p := ⟨_, rfl⟩
    rw [hpp] at hL' p0 p1 t0 t1 n0 n1 n2
    obtain ⟨t, htt⟩ : ∃ t, Int.tdiv p 64 = t := ⟨_, rfl⟩
    rw [htt] at hL' t0 t1 n0 n1 n2
    clear hL hgo hnx
    have hsz := hbel.size
    have hle : w.heap.size ≤ wr.heap.size := hsz
    by_cases hlt : a + 4 + 4 * t < 32
    · have hmin : min (a + 4 + 4 * t) 32 = a + 4 + 4 * t := by omega
      rw [hmin] at hL'
      have HL := Lib.hid hL'
      clear hL' hmin n0 n1 n2
      go_wp2_with ((at_builtin; refine wpList_append_own _ rfl (.tmp 22) (.tmp 24) 39 rfl w.heap.size 3 i0 (.int .i64 0) 1 8 Tryd.underlying39 hi hz0 hz1 hz2 rfl (by decide) _ _ _ rfl (World.ownsRow.alloc hown _) ⟨wr.heap.size, 0, none⟩ 1 1 [.int .i64 a] rfl rfl ?c1 ?c2 ?c3 ?c4 ?c5 ?_))
      first
      | case c1 =>
          intro j u hj
          match j, hj with
          | 0, hj => simp at hj; subst hj; simp [Addr.add]
      | skip
      case c2 => intro u hu; simp at hu; subst hu; rfl
      case c3 => unfold maxLen; first | omega | (simp; done) | (simp; omega)
      case c4 => first | omega | (simp; done) | (simp; omega)
      case c5 => first | omega | (simp; done) | (simp; omega)
      intro v2 w2 hown2 hgrow2 _
      go_wp2
      have ho2 : Own w.heap.size w2 v2 (pre ++ [a]) := own_push hown2
      have hb2 : Below w.heap.size w w2 := below_grown (hbel.alloc hle _) (hown.alloc _) (Nat.le_refl _) hgrow2
      go_step3
      refine ⟨rfl, ⟨f, _, pre ++ [a], v2, _, _, _, _, _, _, _, _, _, _, _, _, _, _, _, _, _, _, _, _, _, _, _, _, _, _, _, _, _, _, _, _, _, rfl, ho2, ?_, by omega, by omega, by omega, by simp; omega, hb2⟩, ?_⟩
      · exact Lib.hid (by rw [List.append_assoc]; exact HL.out)
      · simp [intO]; omega
    · have hmin : min (a + 4 + 4 * t) 32 = 32 := by omega
      rw [hmin] at hL'
      obtain ⟨f, rfl⟩ : ∃ f', f = f' + 1 := ⟨f - 1, by omega⟩
      rw [offs_end] at hL'
      have HL := Lib.hid hL'
      clear hL' hmin n0 n1 n2
      by_cases heq : a + 4 + 4 * t = 32
      · clear hlt
        go_wp2_with ((at_builtin; refine wpList_append_own _ rfl (.tmp 22) (.tmp 24) 39 rfl w.heap.size 3 i0 (.int .i64 0) 1 8 Tryd.underlying39 hi hz0 hz1 hz2 rfl (by decide) _ _ _ rfl (World.ownsRow.alloc hown _) ⟨wr.heap.size, 0, none⟩ 1 1 [.int .i64 a] rfl rfl ?c1 ?c2 ?c3 ?c4 ?c5 ?_))
        first
        | case c1 =>
            intro j u hj
            match j, hj with
            | 0, hj => simp at hj; subst hj; simp [Addr.add]
        | skip
        case c2 => intro u hu; simp at hu; subst hu; rfl
        case c3 => unfold maxLen; first | omega | (simp; done) | (simp; omega)
        case c4 => first | omega | (simp; done) | (simp; omega)
        case c5 => first | omega | (simp; done) | (simp; omega)
        intro v2 w2 hown2 hgrow2 _
        have ho2 : Own w.heap.size w2 v2 (pre ++ [a]) := own_push hown2
        have hb2 : Below w.heap.size w w2 := below_grown (hbel.alloc hle _) (hown.alloc _) (Nat.le_refl _) hgrow2
        have hle2 := hb2.size
        go_wp2_with ((at_builtin; refine wpList_append_own _ rfl (.tmp 40) (.tmp 42) 39 rfl w.heap.size 3 i0 (.int .i64 0) 1 8 Tryd.underlying39 hi hz0 hz1 hz2 rfl (by decide) _ _ _ rfl (World.ownsRow.alloc ho2 _) ⟨w2.heap.size, 0, none⟩ 1 1 [.int .i64 32] rfl rfl ?c1 ?c2 ?c3 ?c4 ?c5 ?_))
        first
        | case c1 =>
            intro j u hj
            match j, hj with
            | 0, hj => simp at hj; subst hj; simp [Addr.add]
        | skip
        case c2 => intro u hu; simp at hu; subst hu; rfl
        case c3 => unfold maxLen; first | omega | (simp; done) | (simp; omega)
        case c4 => first | omega | (simp; done) | (simp; omega)
        case c5 => first | omega | (simp; done) | (simp; omega)
        intro v3 w3 hown3 hgrow3 _
        have ho3 : Own w.heap.size w3 v3 (pre ++ [a, 32]) := own_push2 hown3
        have hb3 : Below w.heap.size w w3 := below_grown (hb2.alloc hle2 _) (ho2.alloc _) (Nat.le_refl _) hgrow3
        rw [HL.out] at ho3
        go_wp2
        simp only [Exit.jump]
        go_ret2
        exact ⟨_, rfl, ho3, hb3⟩
      · have hgt : 32 < a + 4 + 4 * t := by omega
        clear heq hlt
        go_wp2_with ((at_builtin; refine wpList_append_own _ rfl (.tmp 22) (.tmp 24) 39 rfl w.heap.size 3 i0 (.int .i64 0) 1 8 Tryd.underlying39 hi hz0 hz1 hz2 rfl (by decide) _ _ _ rfl (World.ownsRow.alloc hown _) ⟨wr.heap.size, 0, none⟩ 1 1 [.int .i64 a] rfl rfl ?c1 ?c2 ?c3 ?c4 ?c5 ?_))
        first
        | case c1 =>
            intro j u hj
            match j, hj with
            | 0, hj => simp at hj; subst hj; simp [Addr.add]
        | skip
        case c2 => intro u hu; simp at hu; subst hu; rfl
        case c3 => unfold maxLen; first | omega | (simp; done) | (simp; omega)
        case c4 => first | omega | (simp; done) | (simp; omega)
        case c5 => first | omega | (simp; done) | (simp; omega)
        intro v2 w2 hown2 hgrow2 _
        have ho2 : Own w.heap.size w2 v2 (pre ++ [a]) := own_push hown2
        have hb2 : Below w.heap.size w w2 := below_grown (hbel.alloc hle _) (hown.alloc _) (Nat.le_refl _) hgrow2
        have hle2 := hb2.size
        go_wp2_with ((at_builtin; refine wpList_append_own _ rfl (.tmp 40) (.tmp 42) 39 rfl w.heap.size 3 i0 (.int .i64 0) 1 8 Tryd.underlying39 hi hz0 hz1 hz2 rfl (by decide) _ _ _ rfl (World.ownsRow.alloc ho2 _) ⟨w2.heap.size, 0, none⟩ 1 1 [.int .i64 32] rfl rfl ?c1 ?c2 ?c3 ?c4 ?c5 ?_))
        first
        | case c1 =>
            intro j u hj
            match j, hj with
            | 0, hj => simp at hj; subst hj; simp [Addr.add]
        | skip
        case c2 => intro u hu; simp at hu; subst hu; rfl
        case c3 => unfold maxLen; first | omega | (simp; done) | (simp; omega)
        case c4 => first | omega | (simp; done) | (simp; omega)
        case c5 => first | omega | (simp; done) | (simp; omega)
        intro v3 w3 hown3 hgrow3 _
        have ho3 : Own w.heap.size w3 v3 (pre ++ [a, 32]) := own_push2 hown3
        have hb3 : Below w.heap.size w w3 := below_grown (hb2.alloc hle2 _) (ho2.alloc _) (Nat.le_refl _) hgrow3
        rw [HL.out] at ho3
        go_wp2
        simp only [Exit.jump]
        go_ret2
        exact ⟨_, rfl, ho3, hb3⟩

theorem L_eq (r q : Int) (s : Bool) (hq : Int.tdiv (11 - r) 2 = q) : L r s = offs (3 + q) (uOf s) (nOf s) 66 0 := by unfold L kOf; rw [hq]
theorem off_ok (r : Int) (s : Bool) (w : World) (r0 : 0 ≤ r) (r1 : r ≤ 11) :
    Calls Tryd.prog 60 #[.int .i64 r, .bool s] w fun e w' => ∃ v, e = .returned (.tuple #[v, .int .i64 0]) ∧ Own w.heap.size w' v (L r s) ∧ Below w.heap.size w w' := by
  obtain ⟨q, hq⟩ : ∃ q, Int.tdiv (11 - r) 2 = q := ⟨_, rfl⟩
  have qb : 0 ≤ q ∧ q ≤ 5 := by rw [← hq, Int.tdiv_eq_ediv_of_nonneg (by omega)]; omega
  rw [L_eq r q s hq]
  cases s
  · exact off_false r q w hq r0 r1 qb.1 qb.2
  · exact off_true r q w hq r0 r1 qb.1 qb.2
end Go.Proofs.YtanjcbnkkhbkkaaDoor.Bd

/- What band's and the document's own calls do. -/
namespace Go.Proofs.YtanjcbnkkhbkkaaDoor.Bd
open Go Go.ChangeShapes Go.WideShapes Go.ChangeAt Go.RowKit Go.Proofs.YtanjcbnkkhbkkaaDoor.Lo

theorem rd_shape {w : World} {v : Value} {z : List Int} (h : Rd w v z) : ∃ a c, v = .slice a z.length c := by
  rcases h with ⟨a, cap, rfl, rfl⟩ | ⟨b, off, cap, rfl, _⟩
  · exact ⟨_, _, rfl⟩
  · exact ⟨_, _, rfl⟩
theorem drewN_below (w : World) : ∀ n, Below w.heap.size w (w.drewN n)
  | 0 => Below.refl _ _
  | n + 1 => (drewN_below w n).drew

/-- Two lists that are the same. -/
def Row (w : World) (g cap : Nat) (zs : List Int) : Prop := ∃ F, w.rowIs g 3 cap F ∧ zs.length ≤ cap ∧ cap ≤ maxLen ∧ ∀ i, i < zs.length → F i = .int .i64 (zs.getD i 0)
theorem Row.cell {w : World} {g cap : Nat} {zs : List Int} (h : Row w g cap zs) {i : Nat} (hi : i < zs.length) : w.cell? ⟨g, i, none⟩ = some (.int .i64 (zs.getD i 0)) := by
  obtain ⟨F, hr, hl, _, hF⟩ := h
  rw [hr.cell (by omega), hF i hi]
theorem Row.lt {w : World} {g cap : Nat} {zs : List Int} (h : Row w g cap zs) : g < w.heap.size := by obtain ⟨F, hr, _⟩ := h; exact hr.lt
theorem Row.below {w w' : World} {g cap : Nat} {zs : List Int} (h : Row w g cap zs) (hb : Below w.heap.size w w') : Row w' g cap zs := by
  obtain ⟨F, hr, h2⟩ := h
  exact ⟨F, hr.of_block (hb.block _ hr.lt), h2⟩
theorem Row.rd {w : World} {g cap : Nat} {zs : List Int} (h : Row w g cap zs) : Rd w (.slice (some ⟨g, 0, none⟩) zs.length cap) zs := by
  have h' := h
  obtain ⟨F, hr, hl, hm, hF⟩ := h
  exact .inr ⟨g, 0, cap, rfl, hr.lt, hl, hm, fun i hi => by rw [Nat.zero_add]; exact h'.cell hi⟩
theorem Own.row {w : World} {base : Nat} {v : Value} {zs : List Int} (h : Own base w v zs) (hne : zs.length ≠ 0) : ∃ g cap, v = .slice (some ⟨g, 0, none⟩) zs.length cap ∧ base ≤ g ∧ Row w g cap zs := by
  have hcells := @World.ownsRow.cells _ _ _ _ _ _ _ h
  obtain ⟨hx, ⟨rfl, hn⟩ | ⟨g, cap, cur, rfl, hg, hh, hc, hm, hs, ht⟩⟩ := h
  · exact absurd hn hne
  · refine ⟨g, cap, rfl, hg, fun i => (cur[i]?).getD undef, ⟨cur, hh, by omega, fun i hi => ?_⟩, hc, hm, fun i hi => ?_⟩
    · have : i < cur.size := by omega
      simp [this]
    · have h1 := hcells (g := g) rfl i (.int .i64 (zs.getD i 0)) (by simp [hi])
      rw [add_at, Nat.zero_add] at h1
      have : i < cur.size := by omega
      simp [World.cell?, hh, this] at h1
      simp [this, h1]

/-! ### The lists -/
def Fact (l : List Int) (N : Int) : Prop := 2 ≤ l.length ∧ l.length ≤ 42 ∧ l.getD 0 0 = 0 ∧ l.getD (l.length - 1) 0 = N ∧ (∀ i, i < l.length - 1 → l.getD i 0 < l.getD (i + 1) 0) ∧ ∀ i, i < l.length → 0 ≤ l.getD i 0 ∧ l.getD i 0 ≤ N
instance (l : List Int) (N : Int) : Decidable (Fact l N) := by unfold Fact; infer_instance
theorem fact_q : ∀ n : Nat, n < 6 → ∀ s : Bool, Fact (offs (3 + (n : Int)) (uOf s) (nOf s) 66 0) (nOf s) := by decide +kernel
theorem fact (r : Int) (s : Bool) (r0 : 0 ≤ r) (r1 : r ≤ 11) : Fact (L r s) (nOf s) := by
  obtain ⟨q, hq⟩ : ∃ q, Int.tdiv (11 - r) 2 = q := ⟨_, rfl⟩
  have qb : 0 ≤ q ∧ q ≤ 5 := by rw [← hq, Int.tdiv_eq_ediv_of_nonneg (by omega)]; omega
  rw [L_eq r q s hq]
  have := fact_q q.toNat (by omega) s
  rwa [show ((q.toNat : Nat) : Int) = q by omega] at this
theorem off_row (r : Int) (s : Bool) (w : World) (r0 : 0 ≤ r) (r1 : r ≤ 11) :
    Calls Tryd.prog 60 #[.int .i64 r, .bool s] w fun e w' => ∃ g cap, e = .returned (.tuple #[.slice (some ⟨g, 0, none⟩) (L r s).length cap, .int .i64 0]) ∧ w.heap.size ≤ g ∧ Row w' g cap (L r s) ∧ Below w.heap.size w w' := by
  refine (off_ok r s w r0 r1).mono ?_
  rintro e w' ⟨v, rfl, ho, hb⟩
  obtain ⟨g, cap, rfl, hg, hr⟩ := ho.row (by have := (fact r s r0 r1).1; omega)
  exact ⟨g, cap, rfl, hg, hr, hb⟩

/-! ### The document's own -/
end Go.Proofs.YtanjcbnkkhbkkaaDoor.Bd

/- What the document's own Offsets does, and what is told of bands and lines. -/
namespace Go.Proofs.YtanjcbnkkhbkkaaDoor.Bd
open Go Go.ChangeShapes Go.WideShapes Go.ChangeAt Go.RowKit Go.Proofs.YtanjcbnkkhbkkaaDoor.Lo

theorem own_made (w : World) (x : Int) : Own w.heap.size (w.alloc (.cells #[.int .i64 x] 3)) (.slice (some ⟨w.heap.size, 0, none⟩) 1 1) [x] :=
  ⟨rfl, .inr ⟨w.heap.size, 1, #[.int .i64 x], rfl, Nat.le_refl _, Go.Deep.blk_alloc_new _ _, Nat.le_refl _, by unfold maxLen; omega, rfl, rfl⟩⟩

set_option maxRecDepth 100000 in
set_option maxHeartbeats 2000000 in
theorem many_bad (r : Int) (s : Bool) (w : World) (h : r < 0 ∨ 11 < r) :
    Calls Tryd.prog 79 #[.int .i64 r, .bool s] w fun e w' => e = .returned (.tuple #[.int .i64 0, .int .i64 2]) ∧ w = w' := by
  have h := Lib.hid h
  go_enter Tryd.func79, Tryd.ntmps79
  go_wp2_with (go_at_call 60; ((with_reducible refine (off_bad r s _ h.out).mono ?_); rintro e w1 ⟨rfl, rfl⟩))
  go_ret2
  exact ⟨rfl, rfl⟩
theorem many_ok (r : Int) (s : Bool) (w : World) (r0 : 0 ≤ r) (r1 : r ≤ 11) :
    Calls Tryd.prog 79 #[.int .i64 r, .bool s] w fun e w' => e = .returned (.tuple #[.int .i64 ((L r s).length - 1), .int .i64 0]) ∧ Below w.heap.size w w' := by
  obtain ⟨f0, f1, _⟩ := fact r s r0 r1
  go_enter Tryd.func79, Tryd.ntmps79
  go_wp2_with (go_at_call 60; ((with_reducible refine (off_row r s _ r0 r1).mono ?_); rintro e w1 ⟨g, cap, rfl, hg, hr, hb⟩))
  go_ret2
  exact ⟨rfl, hb⟩
/-- The band in which a line is. -/
def In (l : List Int) (x : Int) (b : Nat) : Prop := b + 1 < l.length ∧ l.getD b 0 ≤ x ∧ x < l.getD (b + 1) 0
theorem mono_l {l : List Int} (h : ∀ i, i < l.length - 1 → l.getD i 0 < l.getD (i + 1) 0) : ∀ j, j < l.length → ∀ i, i ≤ j → l.getD i 0 ≤ l.getD j 0
  | 0, _, i, hi => by rw [show i = 0 by omega]; exact Int.le_refl _
  | j + 1, hj, i, hi => by
    by_cases e : i = j + 1
    · rw [e]; exact Int.le_refl _
    · have h1 := mono_l h j (by omega) i (by omega)
      have h2 := h j (by omega)
      omega
theorem In.one {l : List Int} {x : Int} {a b : Nat} (h : ∀ i, i < l.length - 1 → l.getD i 0 < l.getD (i + 1) 0) (ha : In l x a) (hb : In l x b) : a = b := by
  obtain ⟨a1, a2, a3⟩ := ha
  obtain ⟨b1, b2, b3⟩ := hb
  by_cases c : a < b
  · have := mono_l h b (by omega) (a + 1) (by omega); omega
  · by_cases d : b < a
    · have := mono_l h a (by omega) (b + 1) (by omega); omega
    · omega

end Go.Proofs.YtanjcbnkkhbkkaaDoor.Bd

/- What info's calls do. -/
namespace Go.Proofs.YtanjcbnkkhbkkaaDoor.If
open Go Go.ChangeShapes Go.WideShapes Go.ChangeAt Go.RowKit Go.Proofs.YtanjcbnkkhbkkaaDoor.Lo Go.Proofs.YtanjcbnkkhbkkaaDoor.Bd

theorem belowT {a b c : World} (h : Below a.heap.size a b) (k : Below b.heap.size b c) : Below a.heap.size a c := h.trans (k.mono h.size)
theorem retB {a b : Bool} (h : a = b) : Ending.returned (.bool a) = .returned (.bool b) := by rw [h]
/-- A list's cells, at an address. -/
def RdA (w : World) (A : Option Addr) (zs : List Int) : Prop := ∀ i, i < zs.length → ∃ b off, A = some ⟨b, off, none⟩ ∧ b < w.heap.size ∧ w.cell? ⟨b, off + i, none⟩ = some (.int .i64 (zs.getD i 0))
theorem RdA.below {w w' : World} {A : Option Addr} {zs : List Int} (h : RdA w A zs) (hb : Below w.heap.size w w') : RdA w' A zs := fun i hi => by
  obtain ⟨b, off, e, h1, h2⟩ := h i hi
  exact ⟨b, off, e, Nat.lt_of_lt_of_le h1 hb.size, (hb.cell (p := ⟨b, off + i, none⟩) h1).trans h2⟩
/-- A box that holds windows. -/
theorem boxed (w : World) (s h m : Int) (v : Value) (w1 : World) (hb : Below (w.alloc (.cells #[.int .u8 s, .int .u8 h, .int .i64 m, v] 50)).heap.size (w.alloc (.cells #[.int .u8 s, .int .u8 h, .int .i64 m, v] 50)) w1) :
    w1.cell? ⟨w.heap.size, 0, none⟩ = some (.int .u8 s) ∧ w1.cell? ⟨w.heap.size, 1, none⟩ = some (.int .u8 h) ∧ w1.cell? ⟨w.heap.size, 2, none⟩ = some (.int .i64 m) ∧ w1.cell? ⟨w.heap.size, 3, none⟩ = some v := by
  refine ⟨(hb.cell (p := ⟨w.heap.size, 0, none⟩) (by simp)).trans ?_, (hb.cell (p := ⟨w.heap.size, 1, none⟩) (by simp)).trans ?_, (hb.cell (p := ⟨w.heap.size, 2, none⟩) (by simp)).trans ?_, (hb.cell (p := ⟨w.heap.size, 3, none⟩) (by simp)).trans ?_⟩ <;> simp
theorem box_below (w : World) (o : Obj) : Below w.heap.size w (w.alloc o) := (Below.refl _ _).alloc (Nat.le_refl _) _

def win (s : Int) : Int := if s = 2 then 8 else 1
theorem win_bd (s : Int) : 1 ≤ win s ∧ win s ≤ 8 := by unfold win; split <;> omega
theorem windows_ok (s : Int) (w : World) : Calls Tryd.prog 59 #[.int .u8 s] w fun e w' => e = .returned (.int .i64 (win s)) ∧ w = w' := by
  by_cases c : s = 2
  · rw [show win s = 8 by unfold win; rw [if_pos c]]
    go_enter Tryd.func59, Tryd.ntmps59
    go_wp2
    go_ret
    exact ⟨rfl, rfl⟩
  · rw [show win s = 1 by unfold win; rw [if_neg c]]
    have c2 : (s == 2) = false := by simpa using c
    go_enter Tryd.func59, Tryd.ntmps59
    go_wp2
    go_ret
    exact ⟨rfl, rfl⟩
/-- Do groups take so many windows? -/
def grp : List Int → Int → Bool
  | [], l => l == 0
  | n :: zs, l => if n < 1 ∨ l < n then false else grp zs (l - n)
theorem grp_at {zs : List Int} {k : Nat} {l : Int} (h : k < zs.length) : grp (zs.drop k) l = if zs.getD k 0 < 1 ∨ l < zs.getD k 0 then false else grp (zs.drop (k + 1)) (l - zs.getD k 0) := by
  rw [List.drop_eq_getElem_cons h, grp]
  simp [h]
theorem grp_end {zs : List Int} {l : Int} : grp (zs.drop zs.length) l = (l == 0) := by simp [grp]
set_option maxRecDepth 100000 in
set_option maxHeartbeats 2000000 in
theorem grouped_ok (s h m : Int) (a : Option Addr) (cap : Nat) (zs : List Int) (w : World) (hl : zs.length ≤ 100000) (hr : RdA w a zs) :
    Calls Tryd.prog 80 #[.agg #[.int .u8 s, .int .u8 h, .int .i64 m, .slice a zs.length cap]] w fun e w' => e = .returned (.bool (grp zs (win s))) ∧ Below w.heap.size w w' := by
  have HW := Lib.hid (windows_ok s)
  have hb := win_bd s
  have HR := Lib.hid (hr.below (box_below w (.cells #[.int .u8 s, .int .u8 h, .int .i64 m, .slice a zs.length cap] 50)))
  have HB := Lib.hid (box_below w (.cells #[.int .u8 s, .int .u8 h, .int .i64 m, .slice a zs.length cap] 50))
  obtain ⟨R, hR⟩ : ∃ R, grp zs (win s) = R := ⟨_, rfl⟩
  have HG : Hid (grp (zs.drop 0) (win s) = R) := Lib.hid hR
  rw [hR]
  clear hr hR
  generalize win s = W at *
  obtain ⟨hb0, hb1⟩ := hb
  go_enter Tryd.func80, Tryd.ntmps80
  go_wp2_with (go_at_call 59; ((with_reducible refine (HW.out _).mono ?_); rintro e w' ⟨rfl, rfl⟩))
  go_loop [3, 12] (fun l i => ∃ (k : Nat) (l0 : Int), k ≤ zs.length ∧ 0 ≤ l0 ∧ l0 ≤ 8 ∧ Hid (grp (zs.drop k) l0 = R) ∧ i = .int .i64 k ∧ l = .int .i64 l0) (fun _ i => zs.length - (intOf i).toNat)
  case atStart => exact ⟨0, W, by omega, by omega, by omega, HG, rfl, rfl⟩
  case round =>
    obtain ⟨k, l0, hk, q0, q1, hg, rfl, rfl⟩ := hrel
    by_cases hlt : k < zs.length
    · obtain ⟨b, off, rfl, hlb, c⟩ := HR.out k hlt
      have hga := hg.out
      rw [grp_at hlt] at hga
      clear hg HG
      generalize zs.getD k 0 = n at *
      by_cases c1 : n < 1
      · rw [if_pos (.inl c1)] at hga
        subst hga
        go_wp2
        go_ret
        exact ⟨rfl, HB.out⟩
      by_cases c2 : l0 < n
      · rw [if_pos (.inr c2)] at hga
        subst hga
        go_wp2
        go_ret
        exact ⟨rfl, HB.out⟩
      rw [if_neg (by omega)] at hga
      have HGA := Lib.hid hga
      clear hga
      go_wp2
      go_round
      case rel => exact ⟨k + 1, l0 - n, by omega, by omega, by omega, HGA, by go_num, rfl⟩
      case measure => simp [intOf]; omega
    · have hend : k = zs.length := by omega
      have hga := hg.out
      rw [hend, grp_end] at hga
      clear hg HG
      subst hga
      have hlt2 : ¬ (k : Int) < zs.length := by omega
      go_wp2
      go_ret
      exact ⟨rfl, HB.out⟩
/-- How many bands. -/
def mny (r : Int) (b : Bool) : Int := ((L r b).length : Int) - 1
/-- The error of windows at a rate. -/
def chk (r s h m : Int) (zs : List Int) : Int := if r < 0 ∨ 11 < r then 2 else if 3 < s ∨ 1 < h ∨ m < 0 ∨ mny r (s == 2) < m ∨ grp zs (win s) = false then 8 else 0
theorem chk_arg {r s h m : Int} {zs : List Int} (c : r < 0 ∨ 11 < r) : chk r s h m zs = 2 := by unfold chk; rw [if_pos c]
theorem chk_bad {r s h m : Int} {zs : List Int} (c : ¬ (r < 0 ∨ 11 < r)) (d : 3 < s ∨ 1 < h ∨ m < 0 ∨ mny r (s == 2) < m ∨ grp zs (win s) = false) : chk r s h m zs = 8 := by unfold chk; rw [if_neg c, if_pos d]
theorem chk_ok {r s h m : Int} {zs : List Int} (c : ¬ (r < 0 ∨ 11 < r)) (d : ¬ (3 < s ∨ 1 < h ∨ m < 0 ∨ mny r (s == 2) < m ∨ grp zs (win s) = false)) : chk r s h m zs = 0 := by unfold chk; rw [if_neg c, if_neg d]
theorem mny_bd {r : Int} {b : Bool} (r0 : 0 ≤ r) (r1 : r ≤ 11) : 1 ≤ mny r b ∧ mny r b ≤ 41 := by
  have := fact r b r0 r1
  unfold mny
  have a := this.1
  have c := this.2.1
  omega
theorem many_k (r : Int) (b : Bool) (w : World) (r0 : 0 ≤ r) (r1 : r ≤ 11) : Calls Tryd.prog 79 #[.int .i64 r, .bool b] w fun e w' => e = .returned (.tuple #[.int .i64 (mny r b), .int .i64 0]) ∧ Below w.heap.size w w' := many_ok r b w r0 r1
set_option maxRecDepth 100000 in
set_option maxHeartbeats 2000000 in
theorem check_ok (r s h m : Int) (a : Option Addr) (cap : Nat) (zs : List Int) (w : World) (hl : zs.length ≤ 100000) (hr : RdA w a zs) :
    Calls Tryd.prog 58 #[.int .i64 r, .agg #[.int .u8 s, .int .u8 h, .int .i64 m, .slice a zs.length cap]] w fun e w' => e = .returned (.int .i64 (chk r s h m zs)) ∧ Below w.heap.size w w' := by
  have HB := Lib.hid (box_below w (.cells #[.int .u8 s, .int .u8 h, .int .i64 m, .slice a zs.length cap] 50))
  by_cases c0 : r < 0
  · rw [chk_arg (.inl c0)]
    go_enter Tryd.func58, Tryd.ntmps58
    go_wp2
    go_ret
    exact ⟨rfl, HB.out⟩
  by_cases c1 : 11 < r
  · rw [chk_arg (.inr c1)]
    go_enter Tryd.func58, Tryd.ntmps58
    go_wp2
    go_ret
    exact ⟨rfl, HB.out⟩
  have hr01 : ¬ (r < 0 ∨ 11 < r) := by omega
  by_cases c2 : 3 < s
  · rw [chk_bad hr01 (.inl c2)]
    go_enter Tryd.func58, Tryd.ntmps58
    go_wp2
    go_ret
    exact ⟨rfl, HB.out⟩
  by_cases c3 : 1 < h
  · rw [chk_bad hr01 (.inr (.inl c3))]
    go_enter Tryd.func58, Tryd.ntmps58
    go_wp2
    go_ret
    exact ⟨rfl, HB.out⟩
  have HM := Lib.hid (fun w => many_k r (s == 2) w (by omega) (by omega))
  have hM := mny_bd (r := r) (b := s == 2) (by omega) (by omega)
  have HG := Lib.hid (fun w1 (k : Below w.heap.size w w1) => grouped_ok s h m a cap zs w1 hl (hr.below k))
  have hF := fun c => @chk_bad r s h m zs hr01 c
  have hT := fun c => @chk_ok r s h m zs hr01 c
  generalize hch : chk r s h m zs = C at *
  clear hch hr
  generalize mny r (s == 2) = M at *
  generalize grp zs (win s) = G at *
  obtain ⟨hM0, hM1⟩ := hM
  by_cases c4 : m < 0
  · obtain rfl := hF (.inr (.inr (.inl c4)))
    clear hF hT hr01
    go_enter Tryd.func58, Tryd.ntmps58
    go_wp2_with (first | (go_at_call 79; ((with_reducible refine (HM.out _).mono ?_); rintro e w1 ⟨rfl, hb⟩; have hb1 := belowT HB.out hb; obtain ⟨z0, z1, z2, z3⟩ := boxed w s h m (.slice a zs.length cap) w1 hb; clear hb)) | (go_at_call 80; ((with_reducible refine (HG.out _ hb1).mono ?_); rintro e w2 ⟨rfl, hb2⟩)))
    go_ret
    exact ⟨rfl, hb1⟩
  by_cases c5 : M < m
  · obtain rfl := hF (.inr (.inr (.inr (.inl c5))))
    clear hF hT hr01
    go_enter Tryd.func58, Tryd.ntmps58
    go_wp2_with (first | (go_at_call 79; ((with_reducible refine (HM.out _).mono ?_); rintro e w1 ⟨rfl, hb⟩; have hb1 := belowT HB.out hb; obtain ⟨z0, z1, z2, z3⟩ := boxed w s h m (.slice a zs.length cap) w1 hb; clear hb)) | (go_at_call 80; ((with_reducible refine (HG.out _ hb1).mono ?_); rintro e w2 ⟨rfl, hb2⟩)))
    go_ret
    exact ⟨rfl, hb1⟩
  cases G
  · obtain rfl := hF (.inr (.inr (.inr (.inr rfl))))
    clear hF hT hr01
    go_enter Tryd.func58, Tryd.ntmps58
    go_wp2_with (first | (go_at_call 79; ((with_reducible refine (HM.out _).mono ?_); rintro e w1 ⟨rfl, hb⟩; have hb1 := belowT HB.out hb; obtain ⟨z0, z1, z2, z3⟩ := boxed w s h m (.slice a zs.length cap) w1 hb; clear hb)) | (go_at_call 80; ((with_reducible refine (HG.out _ hb1).mono ?_); rintro e w2 ⟨rfl, hb2⟩)))
    go_ret
    exact ⟨rfl, belowT hb1 hb2⟩
  · obtain rfl := hT (by rintro (h | h | h | h | h) <;> first | omega | cases h)
    clear hF hT hr01
    go_enter Tryd.func58, Tryd.ntmps58
    go_wp2_with (first | (go_at_call 79; ((with_reducible refine (HM.out _).mono ?_); rintro e w1 ⟨rfl, hb⟩; have hb1 := belowT HB.out hb; obtain ⟨z0, z1, z2, z3⟩ := boxed w s h m (.slice a zs.length cap) w1 hb; clear hb)) | (go_at_call 80; ((with_reducible refine (HG.out _ hb1).mono ?_); rintro e w2 ⟨rfl, hb2⟩)))
    go_ret
    exact ⟨rfl, belowT hb1 hb2⟩

theorem windows_k (s h m : Int) (a : Option Addr) (cap : Nat) (zs : List Int) (w : World) (hl : zs.length ≤ 100000) (hr : RdA w a zs) :
    Calls Tryd.prog 37 #[.agg #[.int .u8 s, .int .u8 h, .int .i64 m, .slice a zs.length cap]] w fun e w' => e = .returned (.tuple #[.int .i64 (if chk 11 s h m zs = 0 then win s else 0), .int .i64 (chk 11 s h m zs)]) ∧ Below w.heap.size w w' := by
  have HB := Lib.hid (box_below w (.cells #[.int .u8 s, .int .u8 h, .int .i64 m, .slice a zs.length cap] 50))
  have HC := Lib.hid (fun w1 (k : Below w.heap.size w w1) => check_ok 11 s h m a cap zs w1 hl (hr.below k))
  have HW := Lib.hid (windows_ok s)
  clear hr
  generalize chk 11 s h m zs = C at *
  generalize win s = W at *
  by_cases c : C = 0
  · subst c
    rw [if_pos rfl]
    go_enter Tryd.func37, Tryd.ntmps37
    go_wp2_with (first | (go_at_call 58; ((with_reducible refine (HC.out _ HB.out).mono ?_); rintro e w1 ⟨rfl, hb⟩; have hb1 := belowT HB.out hb; obtain ⟨z0, z1, z2, z3⟩ := boxed w s h m (.slice a zs.length cap) w1 hb; clear hb)) | (go_at_call 59; ((with_reducible refine (HW.out _).mono ?_); rintro e w' ⟨rfl, rfl⟩)))
    go_ret2
    exact ⟨rfl, hb1⟩
  · rw [if_neg c]
    go_enter Tryd.func37, Tryd.ntmps37
    go_wp2_with (first | (go_at_call 58; ((with_reducible refine (HC.out _ HB.out).mono ?_); rintro e w1 ⟨rfl, hb⟩; have hb1 := belowT HB.out hb; obtain ⟨z0, z1, z2, z3⟩ := boxed w s h m (.slice a zs.length cap) w1 hb; clear hb)) | (go_at_call 59; ((with_reducible refine (HW.out _).mono ?_); rintro e w' ⟨rfl, rfl⟩)))
    go_ret2
    exact ⟨rfl, hb1⟩
/-- Which group a window is in. -/
def gof : List Int → Int → Nat
  | [], _ => 0
  | n :: zs, x => if n ≤ x then gof zs (x - n) + 1 else 0
theorem gof_at {zs : List Int} {k : Nat} {x : Int} (h : k < zs.length) : gof (zs.drop k) x = if zs.getD k 0 ≤ x then gof (zs.drop (k + 1)) (x - zs.getD k 0) + 1 else 0 := by
  rw [List.drop_eq_getElem_cons h, gof]
  simp [h]
theorem grp_cont {zs : List Int} {l x : Int} (h : grp zs l = true) (x0 : 0 ≤ x) (hx : x < l) : 0 < zs.length := by
  cases zs with
  | nil => simp [grp] at h; omega
  | cons n zs => simp
/-- The answer of Group. -/
def gE (s h m : Int) (zs : List Int) (x : Int) : Int := if chk 11 s h m zs ≠ 0 then chk 11 s h m zs else if x < 0 ∨ win s ≤ x then 2 else 0
def gV (s h m : Int) (zs : List Int) (x : Int) : Int := if gE s h m zs x = 0 then gof zs x else 0
set_option maxRecDepth 100000 in
set_option maxHeartbeats 2000000 in
theorem group_ok (s h m : Int) (a : Option Addr) (cap : Nat) (zs : List Int) (x : Int) (w : World) (hl : zs.length ≤ 100000) (hr : RdA w a zs) (hc : chk 11 s h m zs = 0) (x0 : 0 ≤ x) (hx : x < win s) :
    Calls Tryd.prog 39 #[.agg #[.int .u8 s, .int .u8 h, .int .i64 m, .slice a zs.length cap], .int .i64 x] w fun e w' => e = .returned (.tuple #[.int .i64 (gof zs x), .int .i64 0]) ∧ Below w.heap.size w w' := by
  have HB := Lib.hid (box_below w (.cells #[.int .u8 s, .int .u8 h, .int .i64 m, .slice a zs.length cap] 50))
  have HC := Lib.hid (fun w1 (k : Below w.heap.size w w1) => windows_k s h m a cap zs w1 hl (hr.below k))
  rw [hc, if_pos rfl] at HC
  have HR := Lib.hid hr
  have hg : grp zs (win s) = true := by
    unfold chk at hc
    rw [if_neg (by omega)] at hc
    cases hgg : grp zs (win s)
    · rw [if_pos (.inr (.inr (.inr (.inr hgg))))] at hc; omega
    · rfl
  have hb := win_bd s
  clear hr hc
  generalize win s = W at *
  obtain ⟨hb0, hb1'⟩ := hb
  have hn : ¬ W ≤ x := by omega
  obtain ⟨R, hR⟩ : ∃ R, gof zs x = R := ⟨_, rfl⟩
  have HG : Hid (gof (zs.drop 0) x + 0 = R) := Lib.hid hR
  have HP : Hid (grp (zs.drop 0) W = true) := Lib.hid hg
  rw [hR]
  clear hR hg
  go_enter Tryd.func39, Tryd.ntmps39
  go_wp2_with (go_at_call 37; ((with_reducible refine (HC.out _ HB.out).mono ?_); rintro e w1 ⟨rfl, hb⟩; obtain ⟨z0, z1, z2, z3⟩ := boxed w s h m (.slice a zs.length cap) w1 hb; have hb1 := belowT HB.out hb; clear hb))
  go_loop [1, 8] (fun xv g => ∃ (k : Nat) (y l : Int), k ≤ zs.length ∧ 0 ≤ y ∧ y < l ∧ l ≤ 8 ∧ Hid (gof (zs.drop k) y + k = R) ∧ Hid (grp (zs.drop k) l = true) ∧ xv = .int .i64 y ∧ g = .int .i64 k) (fun _ g => zs.length - (intOf g).toNat)
  case atStart => exact ⟨0, x, W, by omega, x0, hx, hb1', HG, HP, rfl, rfl⟩
  case round =>
    obtain ⟨k, y, l, hk, y0, y1, l1, hG, hP, rfl, rfl⟩ := hrel
    have hlen := grp_cont hP.out y0 y1
    have hlt : k < zs.length := by simp at hlen; omega
    obtain ⟨b, off, rfl, hlb, c⟩ := (HR.out.below hb1) k hlt
    have h1 := hG.out
    have h2 := hP.out
    rw [gof_at hlt] at h1
    rw [grp_at hlt] at h2
    clear hG hP HG HP
    generalize zs.getD k 0 = n at *
    by_cases c1 : n ≤ y
    · rw [if_pos c1] at h1
      have hn1 : ¬ (n < 1 ∨ l < n) := fun hh => by rw [if_pos hh] at h2; cases h2
      rw [if_neg hn1] at h2
      have H1 := Lib.hid (show gof (zs.drop (k + 1)) (y - n) + (k + 1) = R by omega)
      have H2 := Lib.hid h2
      clear h1 h2
      have n0 : 1 ≤ n := by omega
      go_wp2
      go_round
      case rel => exact ⟨k + 1, y - n, l - n, by omega, by omega, by omega, by omega, H1, H2, rfl, by go_num⟩
      case measure => simp [intOf]; omega
    · rw [if_neg c1] at h1
      have hkR : k = R := by omega
      subst hkR
      clear h1 h2
      go_wp2
      go_ret2
      exact ⟨rfl, hb1⟩
theorem group_bad (s h m : Int) (a : Option Addr) (cap : Nat) (zs : List Int) (x : Int) (w : World) (hl : zs.length ≤ 100000) (hr : RdA w a zs) (hc : chk 11 s h m zs ≠ 0) :
    Calls Tryd.prog 39 #[.agg #[.int .u8 s, .int .u8 h, .int .i64 m, .slice a zs.length cap], .int .i64 x] w fun e w' => e = .returned (.tuple #[.int .i64 0, .int .i64 (chk 11 s h m zs)]) ∧ Below w.heap.size w w' := by
  have HB := Lib.hid (box_below w (.cells #[.int .u8 s, .int .u8 h, .int .i64 m, .slice a zs.length cap] 50))
  have HC := Lib.hid (fun w1 (k : Below w.heap.size w w1) => windows_k s h m a cap zs w1 hl (hr.below k))
  rw [if_neg hc] at HC
  clear hr
  generalize chk 11 s h m zs = C at *
  go_enter Tryd.func39, Tryd.ntmps39
  go_wp2_with (go_at_call 37; ((with_reducible refine (HC.out _ HB.out).mono ?_); rintro e w1 ⟨rfl, hb⟩; obtain ⟨z0, z1, z2, z3⟩ := boxed w s h m (.slice a zs.length cap) w1 hb; have hb1 := belowT HB.out hb; clear hb))
  go_ret2
  exact ⟨rfl, hb1⟩
theorem group_out (s h m : Int) (a : Option Addr) (cap : Nat) (zs : List Int) (x : Int) (w : World) (hl : zs.length ≤ 100000) (hr : RdA w a zs) (hc : chk 11 s h m zs = 0) (hx : x < 0 ∨ win s ≤ x) :
    Calls Tryd.prog 39 #[.agg #[.int .u8 s, .int .u8 h, .int .i64 m, .slice a zs.length cap], .int .i64 x] w fun e w' => e = .returned (.tuple #[.int .i64 0, .int .i64 2]) ∧ Below w.heap.size w w' := by
  have HB := Lib.hid (box_below w (.cells #[.int .u8 s, .int .u8 h, .int .i64 m, .slice a zs.length cap] 50))
  have HC := Lib.hid (fun w1 (k : Below w.heap.size w w1) => windows_k s h m a cap zs w1 hl (hr.below k))
  rw [hc, if_pos rfl] at HC
  clear hr hc
  generalize win s = W at *
  by_cases c : x < 0
  · clear hx
    go_enter Tryd.func39, Tryd.ntmps39
    go_wp2_with (go_at_call 37; ((with_reducible refine (HC.out _ HB.out).mono ?_); rintro e w1 ⟨rfl, hb⟩; obtain ⟨z0, z1, z2, z3⟩ := boxed w s h m (.slice a zs.length cap) w1 hb; have hb1 := belowT HB.out hb; clear hb))
    go_ret2
    exact ⟨rfl, hb1⟩
  · have c2 : W ≤ x := by omega
    clear hx
    go_enter Tryd.func39, Tryd.ntmps39
    go_wp2_with (go_at_call 37; ((with_reducible refine (HC.out _ HB.out).mono ?_); rintro e w1 ⟨rfl, hb⟩; obtain ⟨z0, z1, z2, z3⟩ := boxed w s h m (.slice a zs.length cap) w1 hb; have hb1 := belowT HB.out hb; clear hb))
    go_ret2
    exact ⟨rfl, hb1⟩
end Go.Proofs.YtanjcbnkkhbkkaaDoor.If
