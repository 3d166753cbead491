/- Texts of one claim, one behind the other: QdRef, QdRo, ItMa, ItRf, ItRg, ItIn, ItSm. -/
import Derived.Test.YtanjcbnkkhbkkaaDoorMrg0
import Derived.WalkKit
import Derived.RegionTactic
import Derived.Deep.QuietTactic
import Derived.BigQuiet
import Derived.Laws.AppendOwn
import Derived.ProofKit
import Derived.OpenShut
import Derived.Lib.Hide
import Derived.Below
import Derived.Laws.AppendOwnNone
import Derived.WalkSpells
set_option linter.unusedVariables false
/- What band's and the document's own calls do. -/
namespace Go.Proofs.YtanjcbnkkhbkkaaDoor.Bd
open Go Go.ChangeShapes Go.WideShapes Go.ChangeAt Go.RowKit Go.Proofs.YtanjcbnkkhbkkaaDoor.Lo

set_option maxRecDepth 100000 in
/-- Two lists that are the same. -/
theorem lines_f (w : World) : Calls Tryd.prog 86 #[.bool false] w fun e w' => e = .returned (.int .i64 256) ∧ w = w' := by
  go_enter Tryd.func86, Tryd.ntmps86
  go_wp2
  go_ret
  exact ⟨rfl, rfl⟩
theorem lines_t (w : World) : Calls Tryd.prog 86 #[.bool true] w fun e w' => e = .returned (.int .i64 32) ∧ w = w' := by
  go_enter Tryd.func86, Tryd.ntmps86
  go_wp2
  go_ret
  exact ⟨rfl, rfl⟩
theorem lines_fq (w : World) : Calls Tryd.prog 86 #[.bool false] w fun e w' => e = .returned (.int .i64 256) ∧ w' = w := (lines_f w).mono fun _ _ h => ⟨h.1, h.2.symm⟩
theorem lines_tq (w : World) : Calls Tryd.prog 86 #[.bool true] w fun e w' => e = .returned (.int .i64 32) ∧ w' = w := (lines_t w).mono fun _ _ h => ⟨h.1, h.2.symm⟩
theorem wide_false (r q a : Int) (w : World) (hq : Int.tdiv (11 - r) 2 = q) (r0 : 0 ≤ r) (r1 : r ≤ 11) (q0 : 0 ≤ q) (q1 : q ≤ 5) (a0 : 0 ≤ a) (a1 : a < 256) :
    Calls Tryd.prog 87 #[.int .i64 r, .bool false, .int .i64 a] w fun e w' => e = .returned (.int .i64 (nxt (3 + q) 256 256 a - a)) ∧ Below w.heap.size w w' := by
  obtain ⟨p0, p1, t0, t1, n0, n1, n2⟩ := nxt_bd (k := 3 + q) (U := 256) (N := 256) (by omega) (by omega) (by omega) a0 a1 (by omega)
  clear n0 n1 n2
  unfold nxt
  obtain ⟨p, hpp⟩ : ∃ p, a * (3 + q) = p := ⟨_, rfl⟩
  rw [hpp] at p0 p1 t0 t1 ⊢
  obtain ⟨t, htt⟩ : ∃ t, Int.tdiv p 256 = t := ⟨_, rfl⟩
  rw [htt] at t0 t1 ⊢
  go_enter Tryd.func87, Tryd.ntmps87
  go_wp2
  go_quiet (exact Calls.quiet_of_same (lines_fq _))
  go_wp2
  all_goals
    go_ret
    exact ⟨retI (by first | omega | (split <;> omega)), drewN_below _ _⟩
theorem wide_true (r q a : Int) (w : World) (hq : Int.tdiv (11 - r) 2 = q) (r0 : 0 ≤ r) (r1 : r ≤ 11) (q0 : 0 ≤ q) (q1 : q ≤ 5) (a0 : 0 ≤ a) (a1 : a < 32) :
    Calls Tryd.prog 87 #[.int .i64 r, .bool true, .int .i64 a] w fun e w' => e = .returned (.int .i64 (nxt (3 + q) 64 32 a - a)) ∧ Below w.heap.size w w' := by
  obtain ⟨p0, p1, t0, t1, n0, n1, n2⟩ := nxt_bd (k := 3 + q) (U := 64) (N := 32) (by omega) (by omega) (by omega) a0 a1 (by omega)
  clear n0 n1 n2
  unfold nxt
  obtain ⟨p, hpp⟩ : ∃ p, a * (3 + q) = p := ⟨_, rfl⟩
  rw [hpp] at p0 p1 t0 t1 ⊢
  obtain ⟨t, htt⟩ : ∃ t, Int.tdiv p 64 = t := ⟨_, rfl⟩
  rw [htt] at t0 t1 ⊢
  go_enter Tryd.func87, Tryd.ntmps87
  go_wp2
  go_quiet (exact Calls.quiet_of_same (lines_tq _))
  go_wp2
  all_goals
    go_ret
    exact ⟨retI (by first | omega | (split <;> omega)), drewN_below _ _⟩
end Go.Proofs.YtanjcbnkkhbkkaaDoor.Bd

/- What the document's own Offsets does, and what is told of bands and lines. -/
namespace Go.Proofs.YtanjcbnkkhbkkaaDoor.Bd
open Go Go.ChangeShapes Go.WideShapes Go.ChangeAt Go.RowKit Go.Proofs.YtanjcbnkkhbkkaaDoor.Lo

set_option maxRecDepth 100000 in
set_option maxHeartbeats 2000000 in
theorem roff_false (r q : Int) (w : World) (hq : Int.tdiv (11 - r) 2 = q) (r0 : 0 ≤ r) (r1 : r ≤ 11) (q0 : 0 ≤ q) (q1 : q ≤ 5) :
    Calls Tryd.prog 77 #[.int .i64 r, .bool false] w fun e w' => ∃ v, e = .returned v ∧ Own w.heap.size w' v (offs (3 + q) 256 256 66 0) ∧ Below w.heap.size w w' := by
  obtain ⟨i0, hi, hz0, hz1, hz2⟩ := info_parts info3
  have hm := own_made w 0
  have hbm : Below w.heap.size w (w.alloc (.cells #[.int .i64 0] 3)) := (Below.refl _ _).alloc (Nat.le_refl _) _
  have Hq := Lib.hid hq
  clear hq
  go_enter Tryd.func77, Tryd.ntmps77
  go_wp2
  go_loopw [5, 6] (fun v x wr => ∃ (f : Nat) (a : Int) (pre : List Int), x = .int .i64 a ∧ Own w.heap.size wr v (pre ++ [a]) ∧ Hid (pre ++ offs (3 + q) 256 256 f a = offs (3 + q) 256 256 66 0) ∧ 0 ≤ a ∧ a ≤ 256 ∧ 256 - a + 4 ≤ 4 * f ∧ pre.length + f ≤ 66 ∧ Below w.heap.size w wr) (fun _ x _ => (256 - intO x).toNat)
  case atStart => exact ⟨66, 0, [], rfl, hm, Lib.hid rfl, by omega, by omega, by omega, by simp, hbm⟩
  case round =>
    obtain ⟨f, a, pre, rfl, hown, hL, a0, a1, hf, hp, hbel⟩ := hrel
    obtain ⟨f, rfl⟩ : ∃ f', f = f' + 1 := ⟨f - 1, by omega⟩
    have hle : w.heap.size ≤ wr.heap.size := hbel.size
    by_cases hlt : a < 256
    · obtain ⟨p0, p1, t0, t1, n0, n1, n2⟩ := nxt_bd (k := 3 + q) (U := 256) (N := 256) (by omega) (by omega) (by omega) a0 hlt (by omega)
      clear p0 p1 t0 t1
      have hL' := hL.out
      rw [offs_go hlt] at hL'
      have Hw := Lib.hid (fun w => wide_false r q a w Hq.out r0 r1 q0 q1 a0 hlt)
      obtain ⟨m, hm'⟩ : ∃ m, nxt (3 + q) 256 256 a = m := ⟨_, rfl⟩
      rw [hm'] at hL' n0 n1 n2 Hw
      have HL := Lib.hid hL'
      clear hL hL' hm'
      go_wp2_with (first
        | (go_at_call 86; ((with_reducible refine (lines_f _).mono ?_); rintro e w5 ⟨rfl, rfl⟩))
        | (go_at_call 87; ((with_reducible refine (Hw.out _).mono ?_); rintro e w6 ⟨rfl, hb6⟩; have hown6 := hown.below hb6; have hbel6 := belowT hbel hb6; have hle6 : w.heap.size ≤ w6.heap.size := hbel6.size))
        | (at_builtin; refine wpList_append_own _ rfl (.tmp 18) (.tmp 20) 39 rfl w.heap.size 3 i0 (.int .i64 0) 1 8 Tryd.underlying39 hi hz0 hz1 hz2 rfl (by decide) _ _ _ rfl (World.ownsRow.alloc hown6 _) ⟨w6.heap.size, 0, none⟩ 1 1 [.int .i64 (a + (m - a))] rfl rfl ?c1 ?c2 ?c3 ?c4 ?c5 ?_))
      first
      | case c1 =>
          intro j u hj
          match j, hj with
          | 0, hj => simp at hj; subst hj; simp [Addr.add]
      | skip
      case c2 => intro u hu; simp at hu; subst hu; rfl
      case c3 => unfold maxLen; first | omega | (simp; done) | (simp; omega)
      case c4 => first | omega | (simp; done) | (simp; omega)
      case c5 => first | omega | (simp; done) | (simp; omega)
      intro v2 w2 hown2 hgrow2 _
      rw [show a + (m - a) = m by omega] at hown2
      have ho2 : Own w.heap.size w2 v2 (pre ++ [a, m]) := own_push2 hown2
      have hb2 : Below w.heap.size w w2 := below_grown (hbel6.alloc hle6 _) (hown6.alloc _) (Nat.le_refl _) hgrow2
      go_wp2
      go_roundw
      case rel => exact ⟨f, a + (m - a), pre ++ [a], rfl, by rw [show a + (m - a) = m by omega, List.append_assoc]; exact ho2, Lib.hid (by rw [show a + (m - a) = m by omega, List.append_assoc]; exact HL.out), by omega, by omega, by omega, by simp; omega, hb2⟩
      case measure => simp [intO]; omega
    · obtain rfl : a = 256 := by omega
      have hL' := hL.out
      rw [offs_end] at hL'
      rw [hL'] at hown
      go_wp2_with (go_at_call 86; ((with_reducible refine (lines_f _).mono ?_); rintro e w5 ⟨rfl, rfl⟩))
      go_ret
      exact ⟨_, rfl, hown, hbel⟩

set_option maxRecDepth 100000 in
set_option maxHeartbeats 2000000 in
theorem roff_true (r q : Int) (w : World) (hq : Int.tdiv (11 - r) 2 = q) (r0 : 0 ≤ r) (r1 : r ≤ 11) (q0 : 0 ≤ q) (q1 : q ≤ 5) :
    Calls Tryd.prog 77 #[.int .i64 r, .bool true] w fun e w' => ∃ v, e = .returned v ∧ Own w.heap.size w' v (offs (3 + q) 64 32 66 0) ∧ Below w.heap.size w w' := by
  obtain ⟨i0, hi, hz0, hz1, hz2⟩ := info_parts info3
  have hm := own_made w 0
  have hbm : Below w.heap.size w (w.alloc (.cells #[.int .i64 0] 3)) := (Below.refl _ _).alloc (Nat.le_refl _) _
  have Hq := Lib.hid hq
  clear hq
  go_enter Tryd.func77, Tryd.ntmps77
  go_wp2
  go_loopw [5, 6] (fun v x wr => ∃ (f : Nat) (a : Int) (pre : List Int), x = .int .i64 a ∧ Own w.heap.size wr v (pre ++ [a]) ∧ Hid (pre ++ offs (3 + q) 64 32 f a = offs (3 + q) 64 32 66 0) ∧ 0 ≤ a ∧ a ≤ 32 ∧ 32 - a + 4 ≤ 4 * f ∧ pre.length + f ≤ 66 ∧ Below w.heap.size w wr) (fun _ x _ => (32 - intO x).toNat)
  case atStart => exact ⟨66, 0, [], rfl, hm, Lib.hid rfl, by omega, by omega, by omega, by simp, hbm⟩
  case round =>
    obtain ⟨f, a, pre, rfl, hown, hL, a0, a1, hf, hp, hbel⟩ := hrel
    obtain ⟨f, rfl⟩ : ∃ f', f = f' + 1 := ⟨f - 1, by omega⟩
    have hle : w.heap.size ≤ wr.heap.size := hbel.size
    by_cases hlt : a < 32
    · obtain ⟨p0, p1, t0, t1, n0, n1, n2⟩ := nxt_bd (k := 3 + q) (U := 64) (N := 32) (by omega) (by omega) (by omega) a0 hlt (by omega)
      clear p0 p1 t0 t1
      have hL' := hL.out
      rw [offs_go hlt] at hL'
      have Hw := Lib.hid (fun w => wide_true r q a w Hq.out r0 r1 q0 q1 a0 hlt)
      obtain ⟨m, hm'⟩ : ∃ m, nxt (3 + q) 64 32 a = m := ⟨_, rfl⟩
      rw [hm'] at hL' n0 n1 n2 Hw
      have HL := Lib.hid hL'
      clear hL hL' hm'
      go_wp2_with (first
        | (go_at_call 86; ((with_reducible refine (lines_t _).mono ?_); rintro e w5 ⟨rfl, rfl⟩))
        | (go_at_call 87; ((with_reducible refine (Hw.out _).mono ?_); rintro e w6 ⟨rfl, hb6⟩; have hown6 := hown.below hb6; have hbel6 := belowT hbel hb6; have hle6 : w.heap.size ≤ w6.heap.size := hbel6.size))
        | (at_builtin; refine wpList_append_own _ rfl (.tmp 18) (.tmp 20) 39 rfl w.heap.size 3 i0 (.int .i64 0) 1 8 Tryd.underlying39 hi hz0 hz1 hz2 rfl (by decide) _ _ _ rfl (World.ownsRow.alloc hown6 _) ⟨w6.heap.size, 0, none⟩ 1 1 [.int .i64 (a + (m - a))] rfl rfl ?c1 ?c2 ?c3 ?c4 ?c5 ?_))
      first
      | case c1 =>
          intro j u hj
          match j, hj with
          | 0, hj => simp at hj; subst hj; simp [Addr.add]
      | skip
      case c2 => intro u hu; simp at hu; subst hu; rfl
      case c3 => unfold maxLen; first | omega | (simp; done) | (simp; omega)
      case c4 => first | omega | (simp; done) | (simp; omega)
      case c5 => first | omega | (simp; done) | (simp; omega)
      intro v2 w2 hown2 hgrow2 _
      rw [show a + (m - a) = m by omega] at hown2
      have ho2 : Own w.heap.size w2 v2 (pre ++ [a, m]) := own_push2 hown2
      have hb2 : Below w.heap.size w w2 := below_grown (hbel6.alloc hle6 _) (hown6.alloc _) (Nat.le_refl _) hgrow2
      go_wp2
      go_roundw
      case rel => exact ⟨f, a + (m - a), pre ++ [a], rfl, by rw [show a + (m - a) = m by omega, List.append_assoc]; exact ho2, Lib.hid (by rw [show a + (m - a) = m by omega, List.append_assoc]; exact HL.out), by omega, by omega, by omega, by simp; omega, hb2⟩
      case measure => simp [intO]; omega
    · obtain rfl : a = 32 := by omega
      have hL' := hL.out
      rw [offs_end] at hL'
      rw [hL'] at hown
      go_wp2_with (go_at_call 86; ((with_reducible refine (lines_t _).mono ?_); rintro e w5 ⟨rfl, rfl⟩))
      go_ret
      exact ⟨_, rfl, hown, hbel⟩

theorem roff_row (r : Int) (s : Bool) (w : World) (r0 : 0 ≤ r) (r1 : r ≤ 11) :
    Calls Tryd.prog 77 #[.int .i64 r, .bool s] w fun e w' => ∃ g cap, e = .returned (.slice (some ⟨g, 0, none⟩) (L r s).length cap) ∧ w.heap.size ≤ g ∧ Row w' g cap (L r s) ∧ Below w.heap.size w w' := by
  have hne := (fact r s r0 r1).1
  obtain ⟨q, hq⟩ : ∃ q, Int.tdiv (11 - r) 2 = q := ⟨_, rfl⟩
  have qb : 0 ≤ q ∧ q ≤ 5 := by rw [← hq, Int.tdiv_eq_ediv_of_nonneg (by omega)]; omega
  rw [L_eq r q s hq] at hne ⊢
  cases s
  · refine (roff_false r q w hq r0 r1 qb.1 qb.2).mono ?_
    rintro e w' ⟨v, rfl, ho, hb⟩
    obtain ⟨g, cap, rfl, hg, hr⟩ := Own.row ho (fun h => by rw [show (offs (3 + q) (uOf false) (nOf false) 66 0).length = 0 from h] at hne; omega)
    exact ⟨g, cap, rfl, hg, hr, hb⟩
  · refine (roff_true r q w hq r0 r1 qb.1 qb.2).mono ?_
    rintro e w' ⟨v, rfl, ho, hb⟩
    obtain ⟨g, cap, rfl, hg, hr⟩ := Own.row ho (fun h => by rw [show (offs (3 + q) (uOf true) (nOf true) 66 0).length = 0 from h] at hne; omega)
    exact ⟨g, cap, rfl, hg, hr, hb⟩

theorem told_bad (r : Int) (s : Bool) (w : World) (h : r < 0 ∨ 11 < r) :
    Calls Tryd.prog 92 #[.int .i64 r, .bool s] w fun e w' => e = .returned (.tuple #[.slice none 0 0, .int .i64 2]) ∧ w = w' := by
  by_cases h0 : r < 0
  · go_enter Tryd.func92, Tryd.ntmps92
    go_wp2
    go_ret2
    exact ⟨rfl, rfl⟩
  · have h1 : 11 < r := by omega
    clear h
    go_enter Tryd.func92, Tryd.ntmps92
    go_wp2
    go_ret2
    exact ⟨rfl, rfl⟩
theorem told_row (r : Int) (s : Bool) (w : World) (r0 : 0 ≤ r) (r1 : r ≤ 11) :
    Calls Tryd.prog 92 #[.int .i64 r, .bool s] w fun e w' => ∃ g cap, e = .returned (.tuple #[.slice (some ⟨g, 0, none⟩) (L r s).length cap, .int .i64 0]) ∧ w.heap.size ≤ g ∧ Row w' g cap (L r s) ∧ Below w.heap.size w w' := by
  go_enter Tryd.func92, Tryd.ntmps92
  go_wp2_with (go_at_call 77; ((with_reducible refine (roff_row r s _ r0 r1).mono ?_); rintro e w1 ⟨g, cap, rfl, hg, hr, hb⟩))
  go_ret2
  exact ⟨_, _, rfl, hg, hr, hb⟩

/-! ### How many bands, and which one -/
theorem rmany_bad (r : Int) (s : Bool) (w : World) (h : r < 0 ∨ 11 < r) :
    Calls Tryd.prog 91 #[.int .i64 r, .bool s] w fun e w' => e = .returned (.tuple #[.int .i64 0, .int .i64 2]) ∧ w = w' := by
  have h := Lib.hid h
  go_enter Tryd.func91, Tryd.ntmps91
  go_wp2_with (go_at_call 92; ((with_reducible refine (told_bad r s _ h.out).mono ?_); rintro e w1 ⟨rfl, rfl⟩))
  go_ret2
  exact ⟨rfl, rfl⟩
theorem rmany_ok (r : Int) (s : Bool) (w : World) (r0 : 0 ≤ r) (r1 : r ≤ 11) :
    Calls Tryd.prog 91 #[.int .i64 r, .bool s] w fun e w' => e = .returned (.tuple #[.int .i64 ((L r s).length - 1), .int .i64 0]) ∧ Below w.heap.size w w' := by
  obtain ⟨f0, f1, _⟩ := fact r s r0 r1
  go_enter Tryd.func91, Tryd.ntmps91
  go_wp2_with (go_at_call 92; ((with_reducible refine (told_row r s _ r0 r1).mono ?_); rintro e w1 ⟨g, cap, rfl, hg, hr, hb⟩))
  go_ret2
  exact ⟨rfl, hb⟩

end Go.Proofs.YtanjcbnkkhbkkaaDoor.Bd

/- Windows' groups, as numbers. -/
namespace Go.Proofs.YtanjcbnkkhbkkaaDoor.It
open Go Go.Proofs.YtanjcbnkkhbkkaaDoor.Lo Go.Proofs.YtanjcbnkkhbkkaaDoor.Bd Go.Proofs.YtanjcbnkkhbkkaaDoor.If

/-- More bands at a greater rate. -/
theorem mny_mono_n : ∀ (b : Bool) (n : Nat), n < 12 → ∀ k : Nat, k < 12 → n ≤ k → mny n b ≤ mny k b := by decide +kernel
theorem mny_mono {r q : Int} (b : Bool) (r0 : 0 ≤ r) (h : r ≤ q) (q1 : q ≤ 11) : mny r b ≤ mny q b := by
  have := mny_mono_n b r.toNat (by omega) q.toNat (by omega) (by omega)
  rwa [show ((r.toNat : Nat) : Int) = r by omega, show ((q.toNat : Nat) : Int) = q by omega] at this
/-- What may be at some rate may be at the greatest. -/
theorem chk_mono {r s h m : Int} {zs : List Int} (r0 : 0 ≤ r) (r1 : r ≤ 11) (c : chk r s h m zs = 0) : chk 11 s h m zs = 0 := by
  have hr : ¬ (r < 0 ∨ 11 < r) := by omega
  have hd : ¬ (3 < s ∨ 1 < h ∨ m < 0 ∨ mny r (s == 2) < m ∨ grp zs (win s) = false) := fun d => by rw [chk_bad hr d] at c; omega
  have hm := mny_mono (s == 2) r0 r1 (Int.le_refl 11)
  refine chk_ok (by omega) (fun d => ?_)
  rcases d with d | d | d | d | d
  · exact hd (.inl d)
  · exact hd (.inr (.inl d))
  · exact hd (.inr (.inr (.inl d)))
  · exact hd (.inr (.inr (.inr (.inl (by omega)))))
  · exact hd (.inr (.inr (.inr (.inr d))))
theorem chk_two {r s h m : Int} {zs : List Int} (r0 : 0 ≤ r) (r1 : r ≤ 11) : chk r s h m zs = 0 ∨ chk r s h m zs = 8 := by
  by_cases d : (3 < s ∨ 1 < h ∨ m < 0 ∨ mny r (s == 2) < m ∨ grp zs (win s) = false)
  · exact .inr (chk_bad (by omega) d)
  · exact .inl (chk_ok (by omega) d)
theorem grp_zero {zs : List Int} : grp zs 0 = true ↔ zs = [] := by
  cases zs with
  | nil => simp [grp]
  | cons n zs => simp only [grp]; rw [if_pos (by omega)]; simp
theorem grp_one {zs : List Int} : grp zs 1 = true ↔ zs = [1] := by
  cases zs with
  | nil => simp [grp]
  | cons n zs =>
    simp only [grp]
    by_cases c : n < 1 ∨ 1 < n
    · rw [if_pos c]; simp; omega
    · rw [if_neg c, show (1 : Int) - n = 0 by omega, grp_zero]
      have : n = 1 := by omega
      subst this
      simp
/-- Each window's group. -/
def ins : Nat → List Int → List Int
  | _, [] => []
  | g, n :: zs => List.replicate n.toNat (g : Int) ++ ins (g + 1) zs
theorem ins_at {zs : List Int} {k : Nat} (h : k < zs.length) (g : Nat) : ins g (zs.drop k) = List.replicate (zs.getD k 0).toNat (g : Int) ++ ins (g + 1) (zs.drop (k + 1)) := by
  rw [List.drop_eq_getElem_cons h, ins]
  simp [h]
theorem grp_cons {n l : Int} {zs : List Int} (h : grp (n :: zs) l = true) : 1 ≤ n ∧ n ≤ l ∧ grp zs (l - n) = true := by
  simp only [grp] at h
  by_cases c : n < 1 ∨ l < n
  · rw [if_pos c] at h; simp at h
  · rw [if_neg c] at h; exact ⟨by omega, by omega, h⟩
theorem ins_len : ∀ (zs : List Int) (l : Int) (g : Nat), grp zs l = true → ((ins g zs).length : Int) = l
  | [], l, g, h => by simp [grp] at h; simp [ins, h]
  | n :: zs, l, g, h => by
    obtain ⟨a, b, c⟩ := grp_cons h
    have := ins_len zs (l - n) (g + 1) c
    simp only [ins, List.length_append, List.length_replicate]
    omega
theorem ins_get : ∀ (zs : List Int) (l x : Int) (g : Nat), grp zs l = true → 0 ≤ x → x < l → (ins g zs).getD x.toNat 0 = g + gof zs x
  | [], l, x, g, h, x0, x1 => by simp [grp] at h; omega
  | n :: zs, l, x, g, h, x0, x1 => by
    obtain ⟨a, b, c⟩ := grp_cons h
    simp only [ins, gof]
    by_cases d : n ≤ x
    · rw [if_pos d]
      have ih := ins_get zs (l - n) (x - n) (g + 1) c (by omega) (by omega)
      rw [List.getD_eq_getElem?_getD, List.getElem?_append_right (by simp; omega), ← List.getD_eq_getElem?_getD]
      simp only [List.length_replicate]
      rw [show x.toNat - n.toNat = (x - n).toNat by omega, ih]
      push_cast; omega
    · rw [if_neg d]
      rw [List.getD_eq_getElem?_getD, List.getElem?_append_left (by simp; omega)]
      rw [List.getElem?_replicate, if_pos (by omega)]
      simp
end Go.Proofs.YtanjcbnkkhbkkaaDoor.It

/- The document's calls about windows. -/
namespace Go.Proofs.YtanjcbnkkhbkkaaDoor.It
open Go Go.ChangeShapes Go.WideShapes Go.ChangeAt Go.RowKit Go.Proofs.YtanjcbnkkhbkkaaDoor.Lo Go.Proofs.YtanjcbnkkhbkkaaDoor.Bd Go.Proofs.YtanjcbnkkhbkkaaDoor.If

theorem bT {a b c : World} (h : Below a.heap.size a b) (k : Below b.heap.size b c) : Below a.heap.size a c := h.trans (k.mono h.size)
theorem rmany_k (r : Int) (b : Bool) (w : World) (r0 : 0 ≤ r) (r1 : r ≤ 11) : Calls Tryd.prog 91 #[.int .i64 r, .bool b] w fun e w' => e = .returned (.tuple #[.int .i64 (mny r b), .int .i64 0]) ∧ Below w.heap.size w w' := rmany_ok r b w r0 r1
set_option maxRecDepth 100000 in
set_option maxHeartbeats 2000000 in
theorem may_ok (r s h m : Int) (a : Option Addr) (cap : Nat) (zs : List Int) (w : World) (hl : zs.length ≤ 100000) (hr : RdA w a zs) (r0 : 0 ≤ r) (r1 : r ≤ 11) :
    Calls Tryd.prog 85 #[.int .i64 r, .agg #[.int .u8 s, .int .u8 h, .int .i64 m, .slice a zs.length cap]] w fun e w' => e = .returned (.bool (chk r s h m zs == 0)) ∧ Below w.heap.size w w' := by
  have HB := Lib.hid (box_below w (.cells #[.int .u8 s, .int .u8 h, .int .i64 m, .slice a zs.length cap] 50))
  have hr01 : ¬ (r < 0 ∨ 11 < r) := by omega
  have HM := Lib.hid (fun w => rmany_k r (s == 2) w r0 r1)
  have hM := mny_bd (r := r) (b := s == 2) r0 r1
  have HR := Lib.hid (fun w1 (k : Below w.heap.size w w1) => hr.below k)
  have hF := fun c => @chk_bad r s h m zs hr01 c
  have hT := fun c => @chk_ok r s h m zs hr01 c
  generalize hch : chk r s h m zs = C at *
  clear hch hr
  generalize mny r (s == 2) = M at *
  obtain ⟨hM0, hM1⟩ := hM
  by_cases c2 : 3 < s
  · obtain rfl := hF (.inl c2)
    clear hF hT hr01
    go_enter Tryd.func85, Tryd.ntmps85
    go_wp2_with (go_at_call 91; ((with_reducible refine (HM.out _).mono ?_); rintro e w1 ⟨rfl, hb⟩; have hb1 := bT HB.out hb; obtain ⟨z0, z1, z2, z3⟩ := boxed w s h m (.slice a zs.length cap) w1 hb; clear hb))
    go_ret
    exact ⟨rfl, hb1⟩
  by_cases c3 : 1 < h
  · obtain rfl := hF (.inr (.inl c3))
    clear hF hT hr01
    go_enter Tryd.func85, Tryd.ntmps85
    go_wp2_with (go_at_call 91; ((with_reducible refine (HM.out _).mono ?_); rintro e w1 ⟨rfl, hb⟩; have hb1 := bT HB.out hb; obtain ⟨z0, z1, z2, z3⟩ := boxed w s h m (.slice a zs.length cap) w1 hb; clear hb))
    go_ret
    exact ⟨rfl, hb1⟩
  by_cases c4 : m < 0
  · obtain rfl := hF (.inr (.inr (.inl c4)))
    clear hF hT hr01
    go_enter Tryd.func85, Tryd.ntmps85
    go_wp2_with (go_at_call 91; ((with_reducible refine (HM.out _).mono ?_); rintro e w1 ⟨rfl, hb⟩; have hb1 := bT HB.out hb; obtain ⟨z0, z1, z2, z3⟩ := boxed w s h m (.slice a zs.length cap) w1 hb; clear hb))
    go_ret
    exact ⟨rfl, hb1⟩
  by_cases c5 : M < m
  · obtain rfl := hF (.inr (.inr (.inr (.inl c5))))
    clear hF hT hr01
    go_enter Tryd.func85, Tryd.ntmps85
    go_wp2_with (go_at_call 91; ((with_reducible refine (HM.out _).mono ?_); rintro e w1 ⟨rfl, hb⟩; have hb1 := bT HB.out hb; obtain ⟨z0, z1, z2, z3⟩ := boxed w s h m (.slice a zs.length cap) w1 hb; clear hb))
    go_ret
    exact ⟨rfl, hb1⟩
  have hC : (C == 0) = grp zs (win s) := by
    cases hg : grp zs (win s)
    · rw [hF (.inr (.inr (.inr (.inr hg))))]; rfl
    · rw [hT (by rw [hg]; rintro (x | x | x | x | x) <;> first | omega | cases x)]; rfl
  rw [hC]
  clear hC hF hT hr01
  by_cases cs : s = 2
  · subst cs
    rw [show win 2 = 8 from rfl]
    obtain ⟨R, hR⟩ : ∃ R, grp zs 8 = R := ⟨_, rfl⟩
    have HG : Hid (grp (zs.drop 0) 8 = R) := Lib.hid hR
    rw [hR]
    clear hR
    have c22 : ((2 : Int) == 2) = true := rfl
    rw [c22] at HM
    go_enter Tryd.func85, Tryd.ntmps85
    go_wp2_with (go_at_call 91; ((with_reducible refine (HM.out _).mono ?_); rintro e w1 ⟨rfl, hb⟩; have hb1 := bT HB.out hb; obtain ⟨z0, z1, z2, z3⟩ := boxed w 2 h m (.slice a zs.length cap) w1 hb; clear hb))
    have HR1 := Lib.hid (HR.out w1 hb1)
    go_loop [7, 8] (fun l i => ∃ (k : Nat) (l0 : Int), k ≤ zs.length ∧ 0 ≤ l0 ∧ l0 ≤ 8 ∧ Hid (grp (zs.drop k) l0 = R) ∧ i = .int .i64 k ∧ l = .int .i64 l0) (fun _ i => zs.length - (intOf i).toNat)
    case atStart => exact ⟨0, 8, by omega, by omega, by omega, HG, rfl, rfl⟩
    case round =>
      obtain ⟨k, l0, hk, q0, q1, hg, rfl, rfl⟩ := hrel
      by_cases hlt : k < zs.length
      · obtain ⟨b, off, rfl, hlb, c⟩ := HR1.out k hlt
        have hga := hg.out
        rw [grp_at hlt] at hga
        clear hg HG
        generalize zs.getD k 0 = n at *
        by_cases c1 : n < 1
        · rw [if_pos (.inl c1)] at hga
          subst hga
          go_wp2
          go_ret
          exact ⟨rfl, hb1⟩
        by_cases c2 : l0 < n
        · rw [if_pos (.inr c2)] at hga
          subst hga
          go_wp2
          go_ret
          exact ⟨rfl, hb1⟩
        rw [if_neg (by omega)] at hga
        have HGA := Lib.hid hga
        clear hga
        go_wp2
        go_round
        case rel => exact ⟨k + 1, l0 - n, by omega, by omega, by omega, HGA, by go_num, rfl⟩
        case measure => simp [intOf]; omega
      · have hend : k = zs.length := by omega
        have hga := hg.out
        rw [hend, grp_end] at hga
        clear hg HG
        subst hga
        have hlt2 : ¬ (k : Int) < zs.length := by omega
        go_wp2
        go_ret
        exact ⟨rfl, hb1⟩
  · have hs2 : (s == 2) = false := by simpa using cs
    rw [hs2] at HM
    rw [show win s = 1 by unfold win; rw [if_neg cs]]
    have hne : (s != 2) = true := by simp [cs]
    by_cases hz : zs.length = 1
    · obtain ⟨x, rfl⟩ := List.length_eq_one_iff.1 hz
      clear hz
      have hg : grp [x] 1 = (x == 1) := by
        by_cases e : x = 1
        · subst e; rfl
        · have hn : ¬ grp [x] 1 = true := fun q => e (by have := grp_one.1 q; simpa using this)
          rw [show grp [x] 1 = false by simpa using hn]
          simp [e]
      rw [hg]
      clear hg
      obtain ⟨b, off, rfl, hlb, c⟩ := HR.out _ HB.out 0 (by simp)
      simp only [Nat.add_zero, List.getD_cons_zero] at c
      go_enter Tryd.func85, Tryd.ntmps85
      go_wp2_with (go_at_call 91; ((with_reducible refine (HM.out _).mono ?_); rintro e w1 ⟨rfl, hb⟩; have hb1 := bT HB.out hb; obtain ⟨z0, z1, z2, z3⟩ := boxed w s h m (.slice (some ⟨b, off, none⟩) [x].length cap) w1 hb; have c9 := (hb.cell (p := ⟨b, off, none⟩) hlb).trans c; clear hb))
      go_ret
      exact ⟨rfl, hb1⟩
    · have hg : grp zs 1 = false := by
        have hn : ¬ grp zs 1 = true := fun q => hz (by rw [grp_one.1 q]; rfl)
        simpa using hn
      rw [hg]
      have hz2 : ((zs.length : Int) == 1) = false := by simp; omega
      have hz3 : ¬ (zs.length : Int) = 1 := by omega
      clear hg hz
      go_enter Tryd.func85, Tryd.ntmps85
      go_wp2_with (go_at_call 91; ((with_reducible refine (HM.out _).mono ?_); rintro e w1 ⟨rfl, hb⟩; have hb1 := bT HB.out hb; obtain ⟨z0, z1, z2, z3⟩ := boxed w s h m (.slice a zs.length cap) w1 hb; clear hb))
      go_ret
      exact ⟨rfl, hb1⟩
end Go.Proofs.YtanjcbnkkhbkkaaDoor.It

/- The document's calls about windows: whether, how many, which group. -/
namespace Go.Proofs.YtanjcbnkkhbkkaaDoor.It
open Go Go.ChangeShapes Go.WideShapes Go.ChangeAt Go.RowKit Go.Proofs.YtanjcbnkkhbkkaaDoor.Lo Go.Proofs.YtanjcbnkkhbkkaaDoor.Bd Go.Proofs.YtanjcbnkkhbkkaaDoor.If

theorem box_k {w : World} {s h m : Int} {v : Value} {x : World} (hb : Below (w.alloc (.cells #[.int .u8 s, .int .u8 h, .int .i64 m, v] 50)).heap.size (w.alloc (.cells #[.int .u8 s, .int .u8 h, .int .i64 m, v] 50)) x) : Below w.heap.size w x := bT (box_below w _) hb
set_option maxRecDepth 100000 in
theorem rcheck_ok (r s h m : Int) (a : Option Addr) (cap : Nat) (zs : List Int) (w : World) (hl : zs.length ≤ 100000) (hr : RdA w a zs) :
    Calls Tryd.prog 76 #[.int .i64 r, .agg #[.int .u8 s, .int .u8 h, .int .i64 m, .slice a zs.length cap]] w fun e w' => e = .returned (.int .i64 (chk r s h m zs)) ∧ Below w.heap.size w w' := by
  have HB := Lib.hid (box_below w (.cells #[.int .u8 s, .int .u8 h, .int .i64 m, .slice a zs.length cap] 50))
  by_cases c0 : r < 0
  · rw [chk_arg (.inl c0)]
    go_enter Tryd.func76, Tryd.ntmps76
    go_wp2
    go_ret
    exact ⟨rfl, HB.out⟩
  by_cases c1 : 11 < r
  · rw [chk_arg (.inr c1)]
    go_enter Tryd.func76, Tryd.ntmps76
    go_wp2
    go_ret
    exact ⟨rfl, HB.out⟩
  have HM := Lib.hid (fun w1 (k : Below w.heap.size w w1) => may_ok r s h m a cap zs w1 hl (hr.below k) (by omega) (by omega))
  have h2 := chk_two (r := r) (s := s) (h := h) (m := m) (zs := zs) (by omega) (by omega)
  clear hr
  generalize chk r s h m zs = C at *
  rcases h2 with rfl | rfl
  · rw [show ((0 : Int) == 0) = true from rfl] at HM
    go_enter Tryd.func76, Tryd.ntmps76
    go_wp2_with (go_at_call 85; ((with_reducible refine (HM.out _ HB.out).mono ?_); rintro e w1 ⟨rfl, hb⟩; have hb1 := box_k hb; clear hb))
    go_ret
    exact ⟨rfl, hb1⟩
  · rw [show ((8 : Int) == 0) = false from rfl] at HM
    go_enter Tryd.func76, Tryd.ntmps76
    go_wp2_with (go_at_call 85; ((with_reducible refine (HM.out _ HB.out).mono ?_); rintro e w1 ⟨rfl, hb⟩; have hb1 := box_k hb; clear hb))
    go_ret
    exact ⟨rfl, hb1⟩
set_option maxRecDepth 100000 in
theorem some_ok (s h m : Int) (a : Option Addr) (cap : Nat) (zs : List Int) (w : World) (hl : zs.length ≤ 100000) (hr : RdA w a zs) :
    Calls Tryd.prog 88 #[.agg #[.int .u8 s, .int .u8 h, .int .i64 m, .slice a zs.length cap]] w fun e w' => e = .returned (.bool (chk 11 s h m zs == 0)) ∧ Below w.heap.size w w' := by
  have HB := Lib.hid (box_below w (.cells #[.int .u8 s, .int .u8 h, .int .i64 m, .slice a zs.length cap] 50))
  have HM := Lib.hid (fun r w1 (k : Below w.heap.size w w1) r0 r1 => may_ok r s h m a cap zs w1 hl (hr.below k) r0 r1)
  have HX := Lib.hid (fun x hx => boxed w s h m (.slice a zs.length cap) x hx)
  have HK := Lib.hid (fun (k : Nat) (q : chk k s h m zs = 0) (q1 : k ≤ 11) => chk_mono (r := (k : Int)) (by omega) (by omega) q)
  have HT := Lib.hid (fun (k : Nat) (q1 : k ≤ 11) => chk_two (r := (k : Int)) (s := s) (h := h) (m := m) (zs := zs) (by omega) (by omega))
  have HE : Hid (chk ((11 : Nat) : Int) s h m zs = chk 11 s h m zs) := Lib.hid rfl
  clear hr
  generalize hC : (fun r => chk r s h m zs) = C
  have hCr : ∀ r, chk r s h m zs = C r := fun r => by rw [← hC]
  clear hC
  simp only [hCr] at HM HK HT HE ⊢
  clear hCr
  obtain ⟨R, hR⟩ : ∃ R, R = (C 11 == 0) := ⟨_, rfl⟩
  rw [← hR]
  have HV := Lib.hid hR
  clear hR
  have HY : Hid (∀ x, Below (w.alloc (.cells #[.int .u8 s, .int .u8 h, .int .i64 m, .slice a zs.length cap] 50)).heap.size (w.alloc (.cells #[.int .u8 s, .int .u8 h, .int .i64 m, .slice a zs.length cap] 50)) x → Below w.heap.size w x) := Lib.hid (fun x hx => box_k hx)
  go_enter Tryd.func88, Tryd.ntmps88
  go_wp2
  generalize hw0 : w.alloc (.cells #[.int .u8 s, .int .u8 h, .int .i64 m, .slice a zs.length cap] 50) = w0 at *
  go_loopw [3] (fun i wr => ∃ k : Nat, k ≤ 12 ∧ i = .int .i64 k ∧ Below w0.heap.size w0 wr ∧ (k = 12 → C 11 ≠ 0)) (fun i _ => 12 - (intOf i).toNat)
  case atStart => exact ⟨0, by omega, rfl, Below.refl _ _, fun q => by omega⟩
  case round =>
    obtain ⟨k, hk, rfl, hb, hn⟩ := hrel
    obtain ⟨z0, z1, z2, z3⟩ := HX.out wr hb
    have hbw := HY.out wr hb
    by_cases hlt : k ≤ 11
    · have hq := HM.out k wr hbw (by omega) (by omega)
      have hm0 := fun q => HK.out k q hlt
      have hm1 := HT.out k hlt
      have hm2 : C k ≠ 0 → k = 11 → C 11 ≠ 0 := fun q e => by subst e; exact q
      generalize C k = D at *
      rcases hm1 with rfl | rfl
      · have e11 := hm0 rfl
        rw [show ((0 : Int) == 0) = true from rfl] at hq
        have HQ := Lib.hid hq
        obtain rfl : R = true := by rw [HV.out, e11]; rfl
        clear hm0 hm2 hq hn HE e11 HV
        go_wp2_with (go_at_call 85; ((with_reducible refine (HQ.out).mono ?_); rintro e w1 ⟨rfl, hb1⟩))
        go_ret
        exact ⟨rfl, bT hbw hb1⟩
      · rw [show ((8 : Int) == 0) = false from rfl] at hq
        have HQ := Lib.hid hq
        have HN := Lib.hid (hm2 (by omega))
        clear hm0 hm2 hq hn
        go_wp2_with (go_at_call 85; ((with_reducible refine (HQ.out).mono ?_); rintro e w1 ⟨rfl, hb1⟩))
        go_roundw
        case rel => exact ⟨k + 1, by omega, by go_num, bT hb hb1, fun q => HN.out (by omega)⟩
        case measure => simp [intOf]; omega
    · have hend : k = 12 := by omega
      have h11 := hn hend
      subst hend
      obtain rfl : R = false := by rw [HV.out]; simpa using h11
      clear h11 hn HV hk
      go_wp2
      go_ret
      exact ⟨rfl, hbw⟩
theorem rmany10 (s h m : Int) (v : Value) (w : World) : Calls Tryd.prog 89 #[.agg #[.int .u8 s, .int .u8 h, .int .i64 m, v]] w fun e w' => e = .returned (.int .i64 (win s)) ∧ Below w.heap.size w w' := by
  have HB := Lib.hid (box_below w (.cells #[.int .u8 s, .int .u8 h, .int .i64 m, v] 50))
  by_cases c : s = 2
  · subst c
    rw [show win 2 = 8 from rfl]
    go_enter Tryd.func89, Tryd.ntmps89
    go_wp2
    go_ret
    exact ⟨rfl, HB.out⟩
  · rw [show win s = 1 by unfold win; rw [if_neg c]]
    have c2 : (s == 2) = false := by simpa using c
    go_enter Tryd.func89, Tryd.ntmps89
    go_wp2
    go_ret
    exact ⟨rfl, HB.out⟩
/-- May a sequence follow? -/
def aft (a n : Int) : Bool := decide (a ≤ 3 ∧ n ≤ 3 ∧ (((a = 0 ∨ a = 3) ∧ n ≤ 1) ∨ ((a = 1 ∨ a = 2) ∧ 2 ≤ n)))
end Go.Proofs.YtanjcbnkkhbkkaaDoor.It

/- Each window's group, and windows that are the same. -/
namespace Go.Proofs.YtanjcbnkkhbkkaaDoor.It
open Go Go.ChangeShapes Go.WideShapes Go.ChangeAt Go.RowKit Go.Proofs.YtanjcbnkkhbkkaaDoor.Lo Go.Proofs.YtanjcbnkkhbkkaaDoor.Bd Go.Proofs.YtanjcbnkkhbkkaaDoor.If

def intOf : Value → Int | .int _ q => q | _ => 0
theorem own_mono {b c : Nat} {w : World} {v : Value} {zs : List Int} (h : Own c w v zs) (hbc : b ≤ c) : Own b w v zs := by
  obtain ⟨h0, h1⟩ := h
  refine ⟨h0, ?_⟩
  rcases h1 with h1 | ⟨g, cap, cur, e, hg, r⟩
  · exact .inl h1
  · exact .inr ⟨g, cap, cur, e, Nat.le_trans hbc hg, r⟩
set_option maxRecDepth 100000 in
set_option maxHeartbeats 4000000 in
theorem in_ok (s h m : Int) (a : Option Addr) (cap : Nat) (zs : List Int) (w : World) (hl : zs.length ≤ 1000) (hr : RdA w a zs) (l : Int) (l0 : 0 ≤ l) (l8 : l ≤ 8) (hg : grp zs l = true) :
    Calls Tryd.prog 90 #[.agg #[.int .u8 s, .int .u8 h, .int .i64 m, .slice a zs.length cap]] w fun e w' => ∃ v, e = .returned v ∧ Own w.heap.size w' v (ins 0 zs) ∧ Below w.heap.size w w' := by
  obtain ⟨i0, hi, hz0, hz1, hz2⟩ := info_parts info3
  have HB := Lib.hid (box_below w (.cells #[.int .u8 s, .int .u8 h, .int .i64 m, .slice a zs.length cap] 50))
  have HR := Lib.hid (fun w1 (k : Below w.heap.size w w1) => hr.below k)
  have HX := Lib.hid (fun x hx => boxed w s h m (.slice a zs.length cap) x hx)
  have HY : Hid (∀ x, Below (w.alloc (.cells #[.int .u8 s, .int .u8 h, .int .i64 m, .slice a zs.length cap] 50)).heap.size (w.alloc (.cells #[.int .u8 s, .int .u8 h, .int .i64 m, .slice a zs.length cap] 50)) x → Below w.heap.size w x) := Lib.hid (fun x hx => box_k hx)
  have hlen := ins_len zs l 0 hg
  have HLEN := Lib.hid hlen
  clear hr hlen
  obtain ⟨R, hR⟩ : ∃ R, ins 0 zs = R := ⟨_, rfl⟩
  have HP : Hid (([] : List Int) ++ ins 0 (zs.drop 0) = R) := Lib.hid (by simpa using hR)
  rw [hR] at HLEN
  rw [hR]
  have HG : Hid (grp (zs.drop 0) l = true) := Lib.hid (by simpa using hg)
  clear hR hg
  have how : Own w.heap.size (w.alloc (.cells #[.int .u8 s, .int .u8 h, .int .i64 m, .slice a zs.length cap] 50)) (.slice none 0 0) [] := World.ownsRow_nil _ _ 3 1
  go_enter Tryd.func90, Tryd.ntmps90
  go_wp2
  have hs0 : w.heap.size + 1 = (w.alloc (.cells #[.int .u8 s, .int .u8 h, .int .i64 m, .slice a zs.length cap] 50)).heap.size := by simp
  generalize hw0 : w.alloc (.cells #[.int .u8 s, .int .u8 h, .int .i64 m, .slice a zs.length cap] 50) = w0 at *
  have how0 : Own w0.heap.size w0 (.slice none 0 0) [] := World.ownsRow_nil _ _ 3 1
  clear hw0 how
  go_loopw [3, 4, 5] (fun v gv kv wr => ∃ (g : Nat) (pre : List Int) (lf : Int), g ≤ zs.length ∧ gv = .int .i64 g ∧ Own w0.heap.size wr v pre ∧ Hid (pre ++ ins g (zs.drop g) = R) ∧ Hid (grp (zs.drop g) lf = true) ∧ 0 ≤ lf ∧ (pre.length : Int) + lf = l ∧ Below w0.heap.size w0 wr) (fun _ gv _ _ => zs.length - (intOf gv).toNat)
  case atStart => exact ⟨0, [], l, by omega, rfl, how0, HP, HG, l0, by simp, Below.refl _ _⟩
  case round =>
    obtain ⟨g, pre, lf, hk, rfl, hown, hP, hG, lf0, hlf, hb⟩ := hrel
    obtain ⟨z0, z1, z2, z3⟩ := HX.out wr hb
    have hbw := HY.out wr hb
    by_cases hlt : g < zs.length
    · have hgg := hG.out
      have hpp := hP.out
      rw [grp_at hlt] at hgg
      rw [ins_at hlt] at hpp
      have hzs := HR.out _ hbw g hlt
      have HZ := Lib.hid (fun x (hx : Below w0.heap.size w0 x) => HR.out x (HY.out x hx) g hlt)
      clear hG hP HG HP
      generalize zs.getD g 0 = n at *
      have hn : ¬ (n < 1 ∨ lf < n) := fun c => by rw [if_pos c] at hgg; simp at hgg
      rw [if_neg hn] at hgg
      have n0 : 1 ≤ n := by omega
      have n1 : n ≤ lf := by omega
      clear hn
      obtain ⟨nn, rfl⟩ : ∃ nn : Nat, n = nn := ⟨n.toNat, by omega⟩
      have HGG := Lib.hid hgg
      have HPP : Hid ((pre ++ List.replicate 0 (g : Int)) ++ (List.replicate (nn - 0) (g : Int) ++ ins (g + 1) (zs.drop (g + 1))) = R) := Lib.hid (by simpa using hpp)
      clear hgg hpp hzs
      have hown0 : Own w0.heap.size wr (u3) (pre ++ List.replicate 0 (g : Int)) := by simpa using hown
      clear hown z0 z1 z2 hbw
      go_wp2
      have hbo := hb
      clear hb z3
      generalize wr = wo at *
      go_loopw [3, 5] (fun v kv wr => ∃ (k : Nat), k ≤ nn ∧ kv = .int .i64 k ∧ Own w0.heap.size wr v (pre ++ List.replicate k (g : Int)) ∧ Hid ((pre ++ List.replicate k (g : Int)) ++ (List.replicate (nn - k) (g : Int) ++ ins (g + 1) (zs.drop (g + 1))) = R) ∧ Below w0.heap.size w0 wr) (fun _ kv _ => nn - (intOf kv).toNat)
      case atStart => exact ⟨0, by omega, rfl, hown0, HPP, hbo⟩
      case round =>
        obtain ⟨k, hkk, rfl, hown, hP, hb⟩ := hrel
        obtain ⟨b, off, rfl, hlb, c⟩ := HZ.out wr hb
        obtain ⟨z0, z1, z2, z3⟩ := HX.out wr hb
        have hle : w0.heap.size ≤ wr.heap.size := hb.size
        clear z0 z1 z2 hown0 HPP
        have hpl : (pre ++ List.replicate k (g : Int)).length = pre.length + k := by simp
        obtain ⟨pk, hpk⟩ : ∃ pk, pk = pre ++ List.replicate k (g : Int) := ⟨_, rfl⟩
        rw [← hpk] at hown hP hpl
        have HPK := Lib.hid hpk
        clear hpk
        by_cases hkn : k < nn
        · have hpl8 : pk.length ≤ 8 := by omega
          go_wp2_with (at_builtin; refine wpList_append_own _ rfl (.tmp 22) (.tmp 24) 39 rfl w0.heap.size 3 i0 (.int .i64 0) 1 8 Tryd.underlying39 hi hz0 hz1 hz2 rfl (by decide) _ _ _ rfl (World.ownsRow.alloc hown _) ⟨wr.heap.size, 0, none⟩ 1 1 [.int .i64 g] rfl rfl ?c1 ?c2 ?c3 ?c4 ?c5 ?_)
          first
          | case c1 =>
              intro j u hj
              match j, hj with
              | 0, hj => simp at hj; subst hj; simp [Addr.add]
          | skip
          case c2 => intro u hu; simp at hu; subst hu; rfl
          case c3 => unfold maxLen; first | omega | (simp; done) | (simp; omega)
          case c4 => first | omega | (simp; done) | (simp; omega)
          case c5 => first | omega | (simp; done) | (simp; omega)
          intro v2 w2 hown2 hgrow2 _
          have ho2 : Own w0.heap.size w2 v2 (pk ++ [(g : Int)]) := own_push (by rw [hpl]; exact hown2)
          have hb2 : Below w0.heap.size w0 w2 := below_grown (hb.alloc hle _) (hown.alloc _) (Nat.le_refl _) hgrow2
          have he : pk ++ [(g : Int)] = pre ++ List.replicate (k + 1) (g : Int) := by rw [HPK.out, List.append_assoc, List.replicate_succ']
          rw [he] at ho2
          have HQ : Hid ((pre ++ List.replicate (k + 1) (g : Int)) ++ (List.replicate (nn - (k + 1)) (g : Int) ++ ins (g + 1) (zs.drop (g + 1))) = R) := Lib.hid (by
            rw [← hP.out, ← he, show nn - k = (nn - (k + 1)) + 1 by omega, List.replicate_succ]; simp)
          clear he hP
          go_wp2
          go_roundw
          case rel => exact ⟨k + 1, by omega, by go_num, ho2, HQ, hb2⟩
          case measure => simp [intOf]; omega
        · have hkn' : k = nn := by omega
          subst hkn'
          have HQ : Hid (pk ++ ins (g + 1) (zs.drop (g + 1)) = R) := Lib.hid (by rw [← hP.out]; simp)
          clear hP
          go_wp2
          go_roundw
          case rel => exact ⟨g + 1, pk, lf - k, by omega, by go_num, hown, HQ, HGG, by omega, by omega, hb⟩
          case measure => simp [intOf]; omega
    · have hend : g = zs.length := by omega
      have hpp := hP.out
      rw [hend] at hpp
      simp [ins] at hpp
      subst hpp
      clear hP hG HP HG
      have hlt2 : ¬ (g : Int) < zs.length := by omega
      go_wp2
      go_ret
      exact ⟨_, rfl, own_mono hown (by omega), hbw⟩
end Go.Proofs.YtanjcbnkkhbkkaaDoor.It

/- Which group a window is in, and windows that are the same. -/
namespace Go.Proofs.YtanjcbnkkhbkkaaDoor.It
open Go Go.ChangeShapes Go.WideShapes Go.ChangeAt Go.RowKit Go.Proofs.YtanjcbnkkhbkkaaDoor.Lo Go.Proofs.YtanjcbnkkhbkkaaDoor.Bd Go.Proofs.YtanjcbnkkhbkkaaDoor.If

theorem own_get {base : Nat} {w : World} {v : Value} {zs : List Int} (h : Own base w v zs) {i : Nat} (hi : i < zs.length) : ∃ g cap, v = .slice (some ⟨g, 0, none⟩) zs.length cap ∧ w.cell? ⟨g, i, none⟩ = some (.int .i64 (zs.getD i 0)) := by
  obtain ⟨g, cap, rfl, _, hr⟩ := Own.row h (by omega)
  exact ⟨g, cap, rfl, hr.cell hi⟩
/-- The group that both answer. -/
def gA (s h m : Int) (zs : List Int) (x : Int) : Int := if chk 11 s h m zs ≠ 0 ∨ x < 0 ∨ win s ≤ x then 0 else gof zs x
def gB (s h m : Int) (zs : List Int) (x : Int) : Int := if chk 11 s h m zs ≠ 0 then 8 else if x < 0 ∨ win s ≤ x then 2 else 0
theorem group_k (s h m : Int) (a : Option Addr) (cap : Nat) (zs : List Int) (x : Int) (w : World) (hl : zs.length ≤ 1000) (hr : RdA w a zs) :
    Calls Tryd.prog 39 #[.agg #[.int .u8 s, .int .u8 h, .int .i64 m, .slice a zs.length cap], .int .i64 x] w fun e w' => e = .returned (.tuple #[.int .i64 (gA s h m zs x), .int .i64 (gB s h m zs x)]) ∧ Below w.heap.size w w' := by
  unfold gA gB
  by_cases c : chk 11 s h m zs = 0
  · by_cases d : x < 0 ∨ win s ≤ x
    · rw [if_pos (.inr d), if_neg (by simp [c]), if_pos d]
      exact group_out s h m a cap zs x w (by omega) hr c d
    · rw [if_neg (by simp only [c]; omega), if_neg (by simp [c]), if_neg d]
      exact group_ok s h m a cap zs x w (by omega) hr c (by omega) (by omega)
  · rw [if_pos (.inl c), if_pos c]
    have := group_bad s h m a cap zs x w (by omega) hr c
    rcases chk_two (r := 11) (s := s) (h := h) (m := m) (zs := zs) (by omega) (by omega) with e | e
    · exact absurd e c
    · rw [e] at this; exact this
set_option maxRecDepth 100000 in
set_option maxHeartbeats 2000000 in
theorem rgroup_k (s h m : Int) (a : Option Addr) (cap : Nat) (zs : List Int) (x : Int) (w : World) (hl : zs.length ≤ 1000) (hr : RdA w a zs) (x0 : -9223372036854775808 ≤ x) (x1 : x ≤ 9223372036854775807) :
    Calls Tryd.prog 78 #[.agg #[.int .u8 s, .int .u8 h, .int .i64 m, .slice a zs.length cap], .int .i64 x] w fun e w' => e = .returned (.tuple #[.int .i64 (gA s h m zs x), .int .i64 (gB s h m zs x)]) ∧ Below w.heap.size w w' := by
  have HB := Lib.hid (box_below w (.cells #[.int .u8 s, .int .u8 h, .int .i64 m, .slice a zs.length cap] 50))
  have HS := Lib.hid (fun w1 (k : Below w.heap.size w w1) => some_ok s h m a cap zs w1 (by omega) (hr.below k))
  have HM := Lib.hid (fun w1 => rmany10 s h m (.slice a zs.length cap) w1)
  have HX := Lib.hid (fun y hy => boxed w s h m (.slice a zs.length cap) y hy)
  by_cases c : chk 11 s h m zs = 0
  · have hg : grp zs (win s) = true := by
      unfold chk at c
      rw [if_neg (by omega)] at c
      cases hgg : grp zs (win s)
      · rw [if_pos (.inr (.inr (.inr (.inr hgg))))] at c; omega
      · rfl
    have wb := win_bd s
    have HI := Lib.hid (fun w1 (k : Below w.heap.size w w1) => in_ok s h m a cap zs w1 hl (hr.below k) (win s) (by omega) wb.2 hg)
    have hlen := ins_len zs (win s) 0 hg
    have hget := ins_get zs (win s) x 0 hg
    unfold gA gB
    clear hr
    rw [c] at HS
    rw [show ((0 : Int) == 0) = true from rfl] at HS
    by_cases d0 : x < 0
    · rw [if_pos (.inr (.inl d0)), if_neg (by simp [c]), if_pos (.inl d0)]
      clear c hg hlen hget HI
      go_enter Tryd.func78, Tryd.ntmps78
      go_wp2_with (first
        | (go_at_call 88; ((with_reducible refine (HS.out _ HB.out).mono ?_); rintro e w1 ⟨rfl, hb⟩; obtain ⟨z0, z1, z2, z3⟩ := HX.out w1 hb; have hb1 := box_k hb; clear hb))
        | (go_at_call 89; ((with_reducible refine (HM.out _).mono ?_); rintro e w2 ⟨rfl, hb⟩; have hb2 := bT hb1 hb; clear hb)))
      go_ret2
      exact ⟨rfl, hb1⟩
    by_cases d1 : win s ≤ x
    · rw [if_pos (.inr (.inr d1)), if_neg (by simp [c]), if_pos (.inr d1)]
      clear c hg hlen hget HI
      generalize win s = W at *
      go_enter Tryd.func78, Tryd.ntmps78
      go_wp2_with (first
        | (go_at_call 88; ((with_reducible refine (HS.out _ HB.out).mono ?_); rintro e w1 ⟨rfl, hb⟩; obtain ⟨z0, z1, z2, z3⟩ := HX.out w1 hb; have hb1 := box_k hb; clear hb))
        | (go_at_call 89; ((with_reducible refine (HM.out _).mono ?_); rintro e w2 ⟨rfl, hb⟩; have hb2 := bT hb1 hb; clear hb)))
      go_ret2
      exact ⟨rfl, hb2⟩
    · rw [if_neg (by simp only [c]; omega), if_neg (by simp [c]), if_neg (by omega)]
      have hx := hget (by omega) (by omega)
      clear c hg hget
      generalize win s = W at *
      generalize gof zs x = G at *
      generalize ins 0 zs = L at *
      obtain ⟨k, rfl⟩ : ∃ k : Nat, x = k := ⟨x.toNat, by omega⟩
      have hkl : k < L.length := by omega
      rw [Int.toNat_natCast] at hx
      have hx2 : L.getD k 0 = G := by omega
      clear hx
      have HLW := Lib.hid hlen
      go_enter Tryd.func78, Tryd.ntmps78
      go_wp2_with (first
        | (go_at_call 88; ((with_reducible refine (HS.out _ HB.out).mono ?_); rintro e w1 ⟨rfl, hb⟩; obtain ⟨z0, z1, z2, z3⟩ := HX.out w1 hb; have hb1 := box_k hb; have H0 := Lib.hid hb; clear hb))
        | (go_at_call 89; ((with_reducible refine (HM.out _).mono ?_); rintro e w2 ⟨rfl, hb⟩; obtain ⟨y0, y1, y2, y3⟩ := HX.out w2 (bT H0.out hb); have hb2 := bT hb1 hb; clear hb))
        | (go_at_call 90; ((with_reducible refine (HI.out _ hb2).mono ?_); rintro e w3 ⟨v, rfl, ho, hb⟩; have hb3 := bT hb2 hb; obtain ⟨g, cp, rfl, hc⟩ := own_get ho hkl; rw [hx2] at hc; clear hb ho)))
      go_ret2
      exact ⟨rfl, hb3⟩
  · have h2 := chk_two (r := 11) (s := s) (h := h) (m := m) (zs := zs) (by omega) (by omega)
    unfold gA gB
    rw [if_pos (.inl c), if_pos c]
    clear hr
    generalize chk 11 s h m zs = C at *
    obtain rfl : C = 8 := by omega
    rw [show ((8 : Int) == 0) = false from rfl] at HS
    clear c h2
    go_enter Tryd.func78, Tryd.ntmps78
    go_wp2_with (first
        | (go_at_call 88; ((with_reducible refine (HS.out _ HB.out).mono ?_); rintro e w1 ⟨rfl, hb⟩; obtain ⟨z0, z1, z2, z3⟩ := HX.out w1 hb; have hb1 := box_k hb; clear hb))
        | (go_at_call 89; ((with_reducible refine (HM.out _).mono ?_); rintro e w2 ⟨rfl, hb⟩; have hb2 := bT hb1 hb; clear hb)))
    go_ret2
    exact ⟨rfl, hb1⟩
end Go.Proofs.YtanjcbnkkhbkkaaDoor.It
