/- What band's Offsets does. -/
import Derived.Test.YtdkbdigkimomcaaBdCon
import Derived.WalkKit
import Derived.Laws.AppendOwn
import Derived.WalkMore
import Derived.ScopeJumps
import Derived.ProofKit
import Derived.OpenShut
import Derived.Lib.Hide
namespace Go.Proofs.Ytdkbdigkimomcaa.Bd
open Go Go.ChangeShapes Go.WideShapes Go.ChangeAt Go.RowKit Go.Proofs.Ytdkbdigkimomcaa.Lo

theorem off_bad (r : Int) (s : Bool) (w : World) (h : r < 0 ∨ 11 < r) :
    Calls Try.prog 23 #[.int .i64 r, .bool s] w fun e w' => e = .returned (.tuple #[.slice none 0 0, .int .i64 2]) ∧ w = w' := by
  by_cases h0 : r < 0
  · go_enter Try.func23, Try.ntmps23
    go_wp2
    go_step3
    go_wp2
    rw [Exit.noGoto_ret]
    go_ret2
    exact ⟨rfl, rfl⟩
  · have h1 : 11 < r := by omega
    clear h
    go_enter Try.func23, Try.ntmps23
    go_wp2
    go_step3
    go_wp2
    rw [Exit.noGoto_ret]
    go_ret2
    exact ⟨rfl, rfl⟩

theorem offs_go {k U N a : Int} {f : Nat} (h : a < N) : offs k U N (f + 1) a = a :: offs k U N f (nxt k U N a) := by rw [offs, if_pos h]
theorem offs_end {k U N : Int} {f : Nat} : offs k U N (f + 1) N = [N] := by rw [offs, if_neg (by omega)]
def intO : Value → Int | .int _ q => q | _ => 0

theorem own_push2 {base : Nat} {w : World} {v : Value} {a : List Int} {x y : Int} (h : w.ownsRow base 3 1 v (a.length + 1 + 1) (a.map (Value.int .i64) ++ [Value.int .i64 x, Value.int .i64 y])) : Own base w v (a ++ [x, y]) := by
  unfold Own
  rw [List.length_append, List.map_append]
  exact h

set_option maxRecDepth 100000 in
set_option maxHeartbeats 2000000 in
theorem off_false (r q : Int) (w : World) (hq : Int.tdiv (11 - r) 2 = q) (r0 : 0 ≤ r) (r1 : r ≤ 11) (q0 : 0 ≤ q) (q1 : q ≤ 5) :
    Calls Try.prog 23 #[.int .i64 r, .bool false] w fun e w' => ∃ v, e = .returned (.tuple #[v, .int .i64 0]) ∧ Own w.heap.size w' v (offs (3 + q) 256 256 66 0) ∧ Below w.heap.size w w' := by
  obtain ⟨i0, hi, hz0, hz1, hz2⟩ := info_parts info3
  go_enter Try.func23, Try.ntmps23
  go_wp2
  refine wp_scope_jumps 0 (fun a' w' => ∃ (f : Nat) (a : Int) (pre : List Int) (v : Value) (u11 u12 u13 u14 u15 u16 u17 u18 u19 u20 u21 u22 u23 u24 u25 u26 u27 u28 u29 u30 u31 u32 u33 u34 u35 u36 u37 u38 u39 u40 u41 u42 u43 : Value), a' = { tmps := #[.int .i64 r, .bool false, undef, undef, .slice none 0 0, .int .i64 0, .int .i64 (3 + q), .int .i64 256, .int .i64 256, v, .int .i64 a, u11, u12, u13, u14, u15, u16, u17, u18, u19, u20, u21, u22, u23, u24, u25, u26, u27, u28, u29, u30, u31, u32, u33, u34, u35, u36, u37, u38, u39, u40, u41, u42, u43], defers := [] } ∧ Own w.heap.size w' v pre ∧ Hid (pre ++ offs (3 + q) 256 256 f a = offs (3 + q) 256 256 66 0) ∧ 0 ≤ a ∧ a < 256 ∧ 256 - a + 4 ≤ 4 * f ∧ pre.length + f ≤ 66 ∧ Below w.heap.size w w') (fun a' _ => (256 - intO (a'.tmps.getD 10 undef)).toNat) rfl ?_ ?_
  · go_wp2
    go_step3
    go_wp2_with ((at_builtin; refine wpList_append_own _ rfl (.tmp 22) (.tmp 24) 22 rfl w.heap.size 3 i0 (.int .i64 0) 1 8 Try.underlying22 hi hz0 hz1 hz2 rfl (by decide) _ _ _ rfl ((World.ownsRow_nil w w.heap.size 3 1).alloc _) ⟨w.heap.size, 0, none⟩ 1 1 [.int .i64 0] rfl rfl ?c1 ?c2 ?c3 ?c4 ?c5 ?_))
    first
    | case c1 =>
        intro j u hj
        match j, hj with
        | 0, hj => simp at hj; subst hj; simp [Addr.add]
    | skip
    case c2 => intro u hu; simp at hu; subst hu; rfl
    case c3 => unfold maxLen; first | omega | (simp; done) | (simp; omega)
    case c4 => first | omega | (simp; done) | (simp; omega)
    case c5 => first | omega | (simp; done) | (simp; omega)
    intro v2 w2 hown2 hgrow2 _
    go_wp2

    have ho2 : Own w.heap.size w2 v2 ([] ++ [0]) := own_push hown2
    have hb2 : Below w.heap.size w w2 := below_grown (zs := []) ((Below.refl _ _).alloc (Nat.le_refl _) _) ((World.ownsRow_nil w _ 3 1).alloc _) (Nat.le_refl _) hgrow2
    go_step3
    refine ⟨rfl, 65, 4, [0], v2, _, _, _, _, _, _, _, _, _, _, _, _, _, _, _, _, _, _, _, _, _, _, _, _, _, _, _, _, _, _, _, _, _, rfl, ho2, ?_, by omega, by omega, by omega, by simp, hb2⟩
    exact Lib.hid (by rw [offs_go (f := 65) (a := 0) (by omega), show nxt (3 + q) 256 256 0 = 4 by unfold nxt; rw [Int.zero_mul]; rfl]; rfl)
  · rintro a' wr ⟨f, a, pre, v, u11, u12, u13, u14, u15, u16, u17, u18, u19, u20, u21, u22, u23, u24, u25, u26, u27, u28, u29, u30, u31, u32, u33, u34, u35, u36, u37, u38, u39, u40, u41, u42, u43, rfl, hown, hL, a0, a1, hf, hp, hbel⟩
    obtain ⟨f, rfl⟩ : ∃ f', f = f' + 1 := ⟨f - 1, by omega⟩
    obtain ⟨p0, p1, t0, t1, n0, n1, n2⟩ := nxt_bd (k := 3 + q) (U := 256) (N := 256) (by omega) (by omega) (by omega) a0 a1 (by omega)
    have hgo := offs_go (k := 3 + q) (U := 256) (N := 256) (f := f) a1
    have hL' := hL.out
    rw [hgo] at hL'
    have hnx : nxt (3 + q) 256 256 a = min (a + 4 + 4 * Int.tdiv (a * (3 + q)) 256) 256 := rfl
    rw [hnx] at n0 n1 n2
    rw [hnx] at hL'
    obtain ⟨p, hpp⟩ : ∃ p, a * (3 + q) = p := ⟨_, rfl⟩
    rw [hpp] at hL' p0 p1 t0 t1 n0 n1 n2
    obtain ⟨t, htt⟩ : ∃ t, Int.tdiv p 256 = t := ⟨_, rfl⟩
    rw [htt] at hL' t0 t1 n0 n1 n2
    clear hL hgo hnx
    have hsz := hbel.size
    have hle : w.heap.size ≤ wr.heap.size := hsz
    by_cases hlt : a + 4 + 4 * t < 256
    · have hmin : min (a + 4 + 4 * t) 256 = a + 4 + 4 * t := by omega
      rw [hmin] at hL'
      have HL := Lib.hid hL'
      clear hL' hmin n0 n1 n2
      go_wp2_with ((at_builtin; refine wpList_append_own _ rfl (.tmp 22) (.tmp 24) 22 rfl w.heap.size 3 i0 (.int .i64 0) 1 8 Try.underlying22 hi hz0 hz1 hz2 rfl (by decide) _ _ _ rfl (World.ownsRow.alloc hown _) ⟨wr.heap.size, 0, none⟩ 1 1 [.int .i64 a] rfl rfl ?c1 ?c2 ?c3 ?c4 ?c5 ?_))
      first
      | case c1 =>
          intro j u hj
          match j, hj with
          | 0, hj => simp at hj; subst hj; simp [Addr.add]
      | skip
      case c2 => intro u hu; simp at hu; subst hu; rfl
      case c3 => unfold maxLen; first | omega | (simp; done) | (simp; omega)
      case c4 => first | omega | (simp; done) | (simp; omega)
      case c5 => first | omega | (simp; done) | (simp; omega)
      intro v2 w2 hown2 hgrow2 _
      go_wp2
      have ho2 : Own w.heap.size w2 v2 (pre ++ [a]) := own_push hown2
      have hb2 : Below w.heap.size w w2 := below_grown (hbel.alloc hle _) (hown.alloc _) (Nat.le_refl _) hgrow2
      go_step3
      refine ⟨rfl, ⟨f, _, pre ++ [a], v2, _, _, _, _, _, _, _, _, _, _, _, _, _, _, _, _, _, _, _, _, _, _, _, _, _, _, _, _, _, _, _, _, _, rfl, ho2, ?_, by omega, by omega, by omega, by simp; omega, hb2⟩, ?_⟩
      · exact Lib.hid (by rw [List.append_assoc]; exact HL.out)
      · simp [intO]; omega
    · have hmin : min (a + 4 + 4 * t) 256 = 256 := by omega
      rw [hmin] at hL'
      obtain ⟨f, rfl⟩ : ∃ f', f = f' + 1 := ⟨f - 1, by omega⟩
      rw [offs_end] at hL'
      have HL := Lib.hid hL'
      clear hL' hmin n0 n1 n2
      by_cases heq : a + 4 + 4 * t = 256
      · clear hlt
        go_wp2_with ((at_builtin; refine wpList_append_own _ rfl (.tmp 22) (.tmp 24) 22 rfl w.heap.size 3 i0 (.int .i64 0) 1 8 Try.underlying22 hi hz0 hz1 hz2 rfl (by decide) _ _ _ rfl (World.ownsRow.alloc hown _) ⟨wr.heap.size, 0, none⟩ 1 1 [.int .i64 a] rfl rfl ?c1 ?c2 ?c3 ?c4 ?c5 ?_))
        first
        | case c1 =>
            intro j u hj
            match j, hj with
            | 0, hj => simp at hj; subst hj; simp [Addr.add]
        | skip
        case c2 => intro u hu; simp at hu; subst hu; rfl
        case c3 => unfold maxLen; first | omega | (simp; done) | (simp; omega)
        case c4 => first | omega | (simp; done) | (simp; omega)
        case c5 => first | omega | (simp; done) | (simp; omega)
        intro v2 w2 hown2 hgrow2 _
        have ho2 : Own w.heap.size w2 v2 (pre ++ [a]) := own_push hown2
        have hb2 : Below w.heap.size w w2 := below_grown (hbel.alloc hle _) (hown.alloc _) (Nat.le_refl _) hgrow2
        have hle2 := hb2.size
        go_wp2_with ((at_builtin; refine wpList_append_own _ rfl (.tmp 40) (.tmp 42) 22 rfl w.heap.size 3 i0 (.int .i64 0) 1 8 Try.underlying22 hi hz0 hz1 hz2 rfl (by decide) _ _ _ rfl (World.ownsRow.alloc ho2 _) ⟨w2.heap.size, 0, none⟩ 1 1 [.int .i64 256] rfl rfl ?c1 ?c2 ?c3 ?c4 ?c5 ?_))
        first
        | case c1 =>
            intro j u hj
            match j, hj with
            | 0, hj => simp at hj; subst hj; simp [Addr.add]
        | skip
        case c2 => intro u hu; simp at hu; subst hu; rfl
        case c3 => unfold maxLen; first | omega | (simp; done) | (simp; omega)
        case c4 => first | omega | (simp; done) | (simp; omega)
        case c5 => first | omega | (simp; done) | (simp; omega)
        intro v3 w3 hown3 hgrow3 _
        have ho3 : Own w.heap.size w3 v3 (pre ++ [a, 256]) := own_push2 hown3
        have hb3 : Below w.heap.size w w3 := below_grown (hb2.alloc hle2 _) (ho2.alloc _) (Nat.le_refl _) hgrow3
        rw [HL.out] at ho3
        go_wp2
        simp only [Exit.jump]
        go_ret2
        exact ⟨_, rfl, ho3, hb3⟩
      · have hgt : 256 < a + 4 + 4 * t := by omega
        clear heq hlt
        go_wp2_with ((at_builtin; refine wpList_append_own _ rfl (.tmp 22) (.tmp 24) 22 rfl w.heap.size 3 i0 (.int .i64 0) 1 8 Try.underlying22 hi hz0 hz1 hz2 rfl (by decide) _ _ _ rfl (World.ownsRow.alloc hown _) ⟨wr.heap.size, 0, none⟩ 1 1 [.int .i64 a] rfl rfl ?c1 ?c2 ?c3 ?c4 ?c5 ?_))
        first
        | case c1 =>
            intro j u hj
            match j, hj with
            | 0, hj => simp at hj; subst hj; simp [Addr.add]
        | skip
        case c2 => intro u hu; simp at hu; subst hu; rfl
        case c3 => unfold maxLen; first | omega | (simp; done) | (simp; omega)
        case c4 => first | omega | (simp; done) | (simp; omega)
        case c5 => first | omega | (simp; done) | (simp; omega)
        intro v2 w2 hown2 hgrow2 _
        have ho2 : Own w.heap.size w2 v2 (pre ++ [a]) := own_push hown2
        have hb2 : Below w.heap.size w w2 := below_grown (hbel.alloc hle _) (hown.alloc _) (Nat.le_refl _) hgrow2
        have hle2 := hb2.size
        go_wp2_with ((at_builtin; refine wpList_append_own _ rfl (.tmp 40) (.tmp 42) 22 rfl w.heap.size 3 i0 (.int .i64 0) 1 8 Try.underlying22 hi hz0 hz1 hz2 rfl (by decide) _ _ _ rfl (World.ownsRow.alloc ho2 _) ⟨w2.heap.size, 0, none⟩ 1 1 [.int .i64 256] rfl rfl ?c1 ?c2 ?c3 ?c4 ?c5 ?_))
        first
        | case c1 =>
            intro j u hj
            match j, hj with
            | 0, hj => simp at hj; subst hj; simp [Addr.add]
        | skip
        case c2 => intro u hu; simp at hu; subst hu; rfl
        case c3 => unfold maxLen; first | omega | (simp; done) | (simp; omega)
        case c4 => first | omega | (simp; done) | (simp; omega)
        case c5 => first | omega | (simp; done) | (simp; omega)
        intro v3 w3 hown3 hgrow3 _
        have ho3 : Own w.heap.size w3 v3 (pre ++ [a, 256]) := own_push2 hown3
        have hb3 : Below w.heap.size w w3 := below_grown (hb2.alloc hle2 _) (ho2.alloc _) (Nat.le_refl _) hgrow3
        rw [HL.out] at ho3
        go_wp2
        simp only [Exit.jump]
        go_ret2
        exact ⟨_, rfl, ho3, hb3⟩

set_option maxRecDepth 100000 in
set_option maxHeartbeats 2000000 in
theorem off_true (r q : Int) (w : World) (hq : Int.tdiv (11 - r) 2 = q) (r0 : 0 ≤ r) (r1 : r ≤ 11) (q0 : 0 ≤ q) (q1 : q ≤ 5) :
    Calls Try.prog 23 #[.int .i64 r, .bool true] w fun e w' => ∃ v, e = .returned (.tuple #[v, .int .i64 0]) ∧ Own w.heap.size w' v (offs (3 + q) 64 32 66 0) ∧ Below w.heap.size w w' := by
  obtain ⟨i0, hi, hz0, hz1, hz2⟩ := info_parts info3
  go_enter Try.func23, Try.ntmps23
  go_wp2
  refine wp_scope_jumps 0 (fun a' w' => ∃ (f : Nat) (a : Int) (pre : List Int) (v : Value) (u11 u12 u13 u14 u15 u16 u17 u18 u19 u20 u21 u22 u23 u24 u25 u26 u27 u28 u29 u30 u31 u32 u33 u34 u35 u36 u37 u38 u39 u40 u41 u42 u43 : Value), a' = { tmps := #[.int .i64 r, .bool true, undef, undef, .slice none 0 0, .int .i64 0, .int .i64 (3 + q), .int .i64 32, .int .i64 64, v, .int .i64 a, u11, u12, u13, u14, u15, u16, u17, u18, u19, u20, u21, u22, u23, u24, u25, u26, u27, u28, u29, u30, u31, u32, u33, u34, u35, u36, u37, u38, u39, u40, u41, u42, u43], defers := [] } ∧ Own w.heap.size w' v pre ∧ Hid (pre ++ offs (3 + q) 64 32 f a = offs (3 + q) 64 32 66 0) ∧ 0 ≤ a ∧ a < 32 ∧ 32 - a + 4 ≤ 4 * f ∧ pre.length + f ≤ 66 ∧ Below w.heap.size w w') (fun a' _ => (32 - intO (a'.tmps.getD 10 undef)).toNat) rfl ?_ ?_
  · go_wp2
    go_step3
    go_wp2_with ((at_builtin; refine wpList_append_own _ rfl (.tmp 22) (.tmp 24) 22 rfl w.heap.size 3 i0 (.int .i64 0) 1 8 Try.underlying22 hi hz0 hz1 hz2 rfl (by decide) _ _ _ rfl ((World.ownsRow_nil w w.heap.size 3 1).alloc _) ⟨w.heap.size, 0, none⟩ 1 1 [.int .i64 0] rfl rfl ?c1 ?c2 ?c3 ?c4 ?c5 ?_))
    first
    | case c1 =>
        intro j u hj
        match j, hj with
        | 0, hj => simp at hj; subst hj; simp [Addr.add]
    | skip
    case c2 => intro u hu; simp at hu; subst hu; rfl
    case c3 => unfold maxLen; first | omega | (simp; done) | (simp; omega)
    case c4 => first | omega | (simp; done) | (simp; omega)
    case c5 => first | omega | (simp; done) | (simp; omega)
    intro v2 w2 hown2 hgrow2 _
    go_wp2

    have ho2 : Own w.heap.size w2 v2 ([] ++ [0]) := own_push hown2
    have hb2 : Below w.heap.size w w2 := below_grown (zs := []) ((Below.refl _ _).alloc (Nat.le_refl _) _) ((World.ownsRow_nil w _ 3 1).alloc _) (Nat.le_refl _) hgrow2
    go_step3
    refine ⟨rfl, 65, 4, [0], v2, _, _, _, _, _, _, _, _, _, _, _, _, _, _, _, _, _, _, _, _, _, _, _, _, _, _, _, _, _, _, _, _, _, rfl, ho2, ?_, by omega, by omega, by omega, by simp, hb2⟩
    exact Lib.hid (by rw [offs_go (f := 65) (a := 0) (by omega), show nxt (3 + q) 64 32 0 = 4 by unfold nxt; rw [Int.zero_mul]; rfl]; rfl)
  · rintro a' wr ⟨f, a, pre, v, u11, u12, u13, u14, u15, u16, u17, u18, u19, u20, u21, u22, u23, u24, u25, u26, u27, u28, u29, u30, u31, u32, u33, u34, u35, u36, u37, u38, u39, u40, u41, u42, u43, rfl, hown, hL, a0, a1, hf, hp, hbel⟩
    obtain ⟨f, rfl⟩ : ∃ f', f = f' + 1 := ⟨f - 1, by omega⟩
    obtain ⟨p0, p1, t0, t1, n0, n1, n2⟩ := nxt_bd (k := 3 + q) (U := 64) (N := 32) (by omega) (by omega) (by omega) a0 a1 (by omega)
    have hgo := offs_go (k := 3 + q) (U := 64) (N := 32) (f := f) a1
    have hL' := hL.out
    rw [hgo] at hL'
    have hnx : nxt (3 + q) 64 32 a = min (a + 4 + 4 * Int.tdiv (a * (3 + q)) 64) 32 := rfl
    rw [hnx] at n0 n1 n2
    rw [hnx] at hL'
    obtain ⟨p, hpp⟩ : ∃ p, a * (3 + q) = p := ⟨_, rfl⟩
    rw [hpp] at hL' p0 p1 t0 t1 n0 n1 n2
    obtain ⟨t, htt⟩ : ∃ t, Int.tdiv p 64 = t := ⟨_, rfl⟩
    rw [htt] at hL' t0 t1 n0 n1 n2
    clear hL hgo hnx
    have hsz := hbel.size
    have hle : w.heap.size ≤ wr.heap.size := hsz
    by_cases hlt : a + 4 + 4 * t < 32
    · have hmin : min (a + 4 + 4 * t) 32 = a + 4 + 4 * t := by omega
      rw [hmin] at hL'
      have HL := Lib.hid hL'
      clear hL' hmin n0 n1 n2
      go_wp2_with ((at_builtin; refine wpList_append_own _ rfl (.tmp 22) (.tmp 24) 22 rfl w.heap.size 3 i0 (.int .i64 0) 1 8 Try.underlying22 hi hz0 hz1 hz2 rfl (by decide) _ _ _ rfl (World.ownsRow.alloc hown _) ⟨wr.heap.size, 0, none⟩ 1 1 [.int .i64 a] rfl rfl ?c1 ?c2 ?c3 ?c4 ?c5 ?_))
      first
      | case c1 =>
          intro j u hj
          match j, hj with
          | 0, hj => simp at hj; subst hj; simp [Addr.add]
      | skip
      case c2 => intro u hu; simp at hu; subst hu; rfl
      case c3 => unfold maxLen; first | omega | (simp; done) | (simp; omega)
      case c4 => first | omega | (simp; done) | (simp; omega)
      case c5 => first | omega | (simp; done) | (simp; omega)
      intro v2 w2 hown2 hgrow2 _
      go_wp2
      have ho2 : Own w.heap.size w2 v2 (pre ++ [a]) := own_push hown2
      have hb2 : Below w.heap.size w w2 := below_grown (hbel.alloc hle _) (hown.alloc _) (Nat.le_refl _) hgrow2
      go_step3
      refine ⟨rfl, ⟨f, _, pre ++ [a], v2, _, _, _, _, _, _, _, _, _, _, _, _, _, _, _, _, _, _, _, _, _, _, _, _, _, _, _, _, _, _, _, _, _, rfl, ho2, ?_, by omega, by omega, by omega, by simp; omega, hb2⟩, ?_⟩
      · exact Lib.hid (by rw [List.append_assoc]; exact HL.out)
      · simp [intO]; omega
    · have hmin : min (a + 4 + 4 * t) 32 = 32 := by omega
      rw [hmin] at hL'
      obtain ⟨f, rfl⟩ : ∃ f', f = f' + 1 := ⟨f - 1, by omega⟩
      rw [offs_end] at hL'
      have HL := Lib.hid hL'
      clear hL' hmin n0 n1 n2
      by_cases heq : a + 4 + 4 * t = 32
      · clear hlt
        go_wp2_with ((at_builtin; refine wpList_append_own _ rfl (.tmp 22) (.tmp 24) 22 rfl w.heap.size 3 i0 (.int .i64 0) 1 8 Try.underlying22 hi hz0 hz1 hz2 rfl (by decide) _ _ _ rfl (World.ownsRow.alloc hown _) ⟨wr.heap.size, 0, none⟩ 1 1 [.int .i64 a] rfl rfl ?c1 ?c2 ?c3 ?c4 ?c5 ?_))
        first
        | case c1 =>
            intro j u hj
            match j, hj with
            | 0, hj => simp at hj; subst hj; simp [Addr.add]
        | skip
        case c2 => intro u hu; simp at hu; subst hu; rfl
        case c3 => unfold maxLen; first | omega | (simp; done) | (simp; omega)
        case c4 => first | omega | (simp; done) | (simp; omega)
        case c5 => first | omega | (simp; done) | (simp; omega)
        intro v2 w2 hown2 hgrow2 _
        have ho2 : Own w.heap.size w2 v2 (pre ++ [a]) := own_push hown2
        have hb2 : Below w.heap.size w w2 := below_grown (hbel.alloc hle _) (hown.alloc _) (Nat.le_refl _) hgrow2
        have hle2 := hb2.size
        go_wp2_with ((at_builtin; refine wpList_append_own _ rfl (.tmp 40) (.tmp 42) 22 rfl w.heap.size 3 i0 (.int .i64 0) 1 8 Try.underlying22 hi hz0 hz1 hz2 rfl (by decide) _ _ _ rfl (World.ownsRow.alloc ho2 _) ⟨w2.heap.size, 0, none⟩ 1 1 [.int .i64 32] rfl rfl ?c1 ?c2 ?c3 ?c4 ?c5 ?_))
        first
        | case c1 =>
            intro j u hj
            match j, hj with
            | 0, hj => simp at hj; subst hj; simp [Addr.add]
        | skip
        case c2 => intro u hu; simp at hu; subst hu; rfl
        case c3 => unfold maxLen; first | omega | (simp; done) | (simp; omega)
        case c4 => first | omega | (simp; done) | (simp; omega)
        case c5 => first | omega | (simp; done) | (simp; omega)
        intro v3 w3 hown3 hgrow3 _
        have ho3 : Own w.heap.size w3 v3 (pre ++ [a, 32]) := own_push2 hown3
        have hb3 : Below w.heap.size w w3 := below_grown (hb2.alloc hle2 _) (ho2.alloc _) (Nat.le_refl _) hgrow3
        rw [HL.out] at ho3
        go_wp2
        simp only [Exit.jump]
        go_ret2
        exact ⟨_, rfl, ho3, hb3⟩
      · have hgt : 32 < a + 4 + 4 * t := by omega
        clear heq hlt
        go_wp2_with ((at_builtin; refine wpList_append_own _ rfl (.tmp 22) (.tmp 24) 22 rfl w.heap.size 3 i0 (.int .i64 0) 1 8 Try.underlying22 hi hz0 hz1 hz2 rfl (by decide) _ _ _ rfl (World.ownsRow.alloc hown _) ⟨wr.heap.size, 0, none⟩ 1 1 [.int .i64 a] rfl rfl ?c1 ?c2 ?c3 ?c4 ?c5 ?_))
        first
        | case c1 =>
            intro j u hj
            match j, hj with
            | 0, hj => simp at hj; subst hj; simp [Addr.add]
        | skip
        case c2 => intro u hu; simp at hu; subst hu; rfl
        case c3 => unfold maxLen; first | omega | (simp; done) | (simp; omega)
        case c4 => first | omega | (simp; done) | (simp; omega)
        case c5 => first | omega | (simp; done) | (simp; omega)
        intro v2 w2 hown2 hgrow2 _
        have ho2 : Own w.heap.size w2 v2 (pre ++ [a]) := own_push hown2
        have hb2 : Below w.heap.size w w2 := below_grown (hbel.alloc hle _) (hown.alloc _) (Nat.le_refl _) hgrow2
        have hle2 := hb2.size
        go_wp2_with ((at_builtin; refine wpList_append_own _ rfl (.tmp 40) (.tmp 42) 22 rfl w.heap.size 3 i0 (.int .i64 0) 1 8 Try.underlying22 hi hz0 hz1 hz2 rfl (by decide) _ _ _ rfl (World.ownsRow.alloc ho2 _) ⟨w2.heap.size, 0, none⟩ 1 1 [.int .i64 32] rfl rfl ?c1 ?c2 ?c3 ?c4 ?c5 ?_))
        first
        | case c1 =>
            intro j u hj
            match j, hj with
            | 0, hj => simp at hj; subst hj; simp [Addr.add]
        | skip
        case c2 => intro u hu; simp at hu; subst hu; rfl
        case c3 => unfold maxLen; first | omega | (simp; done) | (simp; omega)
        case c4 => first | omega | (simp; done) | (simp; omega)
        case c5 => first | omega | (simp; done) | (simp; omega)
        intro v3 w3 hown3 hgrow3 _
        have ho3 : Own w.heap.size w3 v3 (pre ++ [a, 32]) := own_push2 hown3
        have hb3 : Below w.heap.size w w3 := below_grown (hb2.alloc hle2 _) (ho2.alloc _) (Nat.le_refl _) hgrow3
        rw [HL.out] at ho3
        go_wp2
        simp only [Exit.jump]
        go_ret2
        exact ⟨_, rfl, ho3, hb3⟩

theorem L_eq (r q : Int) (s : Bool) (hq : Int.tdiv (11 - r) 2 = q) : L r s = offs (3 + q) (uOf s) (nOf s) 66 0 := by unfold L kOf; rw [hq]
theorem off_ok (r : Int) (s : Bool) (w : World) (r0 : 0 ≤ r) (r1 : r ≤ 11) :
    Calls Try.prog 23 #[.int .i64 r, .bool s] w fun e w' => ∃ v, e = .returned (.tuple #[v, .int .i64 0]) ∧ Own w.heap.size w' v (L r s) ∧ Below w.heap.size w w' := by
  obtain ⟨q, hq⟩ : ∃ q, Int.tdiv (11 - r) 2 = q := ⟨_, rfl⟩
  have qb : 0 ≤ q ∧ q ≤ 5 := by rw [← hq, Int.tdiv_eq_ediv_of_nonneg (by omega)]; omega
  rw [L_eq r q s hq]
  cases s
  · exact off_false r q w hq r0 r1 qb.1 qb.2
  · exact off_true r q w hq r0 r1 qb.1 qb.2
end Go.Proofs.Ytdkbdigkimomcaa.Bd
