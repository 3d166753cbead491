/- What the document's own Offsets does, and what is told of bands and lines. -/
import Derived.Test.YtnbbjobmaakogaaBdRef
import Derived.WalkKit
import Derived.Laws.AppendOwn
import Derived.RegionTactic
import Derived.Deep.QuietTactic
import Derived.BigQuiet
import Derived.ProofKit
import Derived.OpenShut
import Derived.Lib.Hide
namespace Go.Proofs.Ytnbbjobmaakogaa.Bd
open Go Go.ChangeShapes Go.WideShapes Go.ChangeAt Go.RowKit Go.Proofs.Ytnbbjobmaakogaa.Lo

theorem own_made (w : World) (x : Int) : Own w.heap.size (w.alloc (.cells #[.int .i64 x] 3)) (.slice (some ⟨w.heap.size, 0, none⟩) 1 1) [x] :=
  ⟨rfl, .inr ⟨w.heap.size, 1, #[.int .i64 x], rfl, Nat.le_refl _, Go.Deep.blk_alloc_new _ _, Nat.le_refl _, by unfold maxLen; omega, rfl, rfl⟩⟩

set_option maxRecDepth 100000 in
set_option maxHeartbeats 2000000 in
theorem roff_false (r q : Int) (w : World) (hq : Int.tdiv (11 - r) 2 = q) (r0 : 0 ≤ r) (r1 : r ≤ 11) (q0 : 0 ≤ q) (q1 : q ≤ 5) :
    Calls Try.prog 35 #[.int .i64 r, .bool false] w fun e w' => ∃ v, e = .returned v ∧ Own w.heap.size w' v (offs (3 + q) 256 256 66 0) ∧ Below w.heap.size w w' := by
  obtain ⟨i0, hi, hz0, hz1, hz2⟩ := info_parts info3
  have hm := own_made w 0
  have hbm : Below w.heap.size w (w.alloc (.cells #[.int .i64 0] 3)) := (Below.refl _ _).alloc (Nat.le_refl _) _
  have Hq := Lib.hid hq
  clear hq
  go_enter Try.func35, Try.ntmps35
  go_wp2
  go_loopw [5, 6] (fun v x wr => ∃ (f : Nat) (a : Int) (pre : List Int), x = .int .i64 a ∧ Own w.heap.size wr v (pre ++ [a]) ∧ Hid (pre ++ offs (3 + q) 256 256 f a = offs (3 + q) 256 256 66 0) ∧ 0 ≤ a ∧ a ≤ 256 ∧ 256 - a + 4 ≤ 4 * f ∧ pre.length + f ≤ 66 ∧ Below w.heap.size w wr) (fun _ x _ => (256 - intO x).toNat)
  case atStart => exact ⟨66, 0, [], rfl, hm, Lib.hid rfl, by omega, by omega, by omega, by simp, hbm⟩
  case round =>
    obtain ⟨f, a, pre, rfl, hown, hL, a0, a1, hf, hp, hbel⟩ := hrel
    obtain ⟨f, rfl⟩ : ∃ f', f = f' + 1 := ⟨f - 1, by omega⟩
    have hle : w.heap.size ≤ wr.heap.size := hbel.size
    by_cases hlt : a < 256
    · obtain ⟨p0, p1, t0, t1, n0, n1, n2⟩ := nxt_bd (k := 3 + q) (U := 256) (N := 256) (by omega) (by omega) (by omega) a0 hlt (by omega)
      clear p0 p1 t0 t1
      have hL' := hL.out
      rw [offs_go hlt] at hL'
      have Hw := Lib.hid (fun w => wide_false r q a w Hq.out r0 r1 q0 q1 a0 hlt)
      obtain ⟨m, hm'⟩ : ∃ m, nxt (3 + q) 256 256 a = m := ⟨_, rfl⟩
      rw [hm'] at hL' n0 n1 n2 Hw
      have HL := Lib.hid hL'
      clear hL hL' hm'
      go_wp2_with (first
        | (go_at_call 52; ((with_reducible refine (lines_f _).mono ?_); rintro e w5 ⟨rfl, rfl⟩))
        | (go_at_call 53; ((with_reducible refine (Hw.out _).mono ?_); rintro e w6 ⟨rfl, hb6⟩; have hown6 := hown.below hb6; have hbel6 := belowT hbel hb6; have hle6 : w.heap.size ≤ w6.heap.size := hbel6.size))
        | (at_builtin; refine wpList_append_own _ rfl (.tmp 18) (.tmp 20) 22 rfl w.heap.size 3 i0 (.int .i64 0) 1 8 Try.underlying22 hi hz0 hz1 hz2 rfl (by decide) _ _ _ rfl (World.ownsRow.alloc hown6 _) ⟨w6.heap.size, 0, none⟩ 1 1 [.int .i64 (a + (m - a))] rfl rfl ?c1 ?c2 ?c3 ?c4 ?c5 ?_))
      first
      | case c1 =>
          intro j u hj
          match j, hj with
          | 0, hj => simp at hj; subst hj; simp [Addr.add]
      | skip
      case c2 => intro u hu; simp at hu; subst hu; rfl
      case c3 => unfold maxLen; first | omega | (simp; done) | (simp; omega)
      case c4 => first | omega | (simp; done) | (simp; omega)
      case c5 => first | omega | (simp; done) | (simp; omega)
      intro v2 w2 hown2 hgrow2 _
      rw [show a + (m - a) = m by omega] at hown2
      have ho2 : Own w.heap.size w2 v2 (pre ++ [a, m]) := own_push2 hown2
      have hb2 : Below w.heap.size w w2 := below_grown (hbel6.alloc hle6 _) (hown6.alloc _) (Nat.le_refl _) hgrow2
      go_wp2
      go_roundw
      case rel => exact ⟨f, a + (m - a), pre ++ [a], rfl, by rw [show a + (m - a) = m by omega, List.append_assoc]; exact ho2, Lib.hid (by rw [show a + (m - a) = m by omega, List.append_assoc]; exact HL.out), by omega, by omega, by omega, by simp; omega, hb2⟩
      case measure => simp [intO]; omega
    · obtain rfl : a = 256 := by omega
      have hL' := hL.out
      rw [offs_end] at hL'
      rw [hL'] at hown
      go_wp2_with (go_at_call 52; ((with_reducible refine (lines_f _).mono ?_); rintro e w5 ⟨rfl, rfl⟩))
      go_ret
      exact ⟨_, rfl, hown, hbel⟩

set_option maxRecDepth 100000 in
set_option maxHeartbeats 2000000 in
theorem roff_true (r q : Int) (w : World) (hq : Int.tdiv (11 - r) 2 = q) (r0 : 0 ≤ r) (r1 : r ≤ 11) (q0 : 0 ≤ q) (q1 : q ≤ 5) :
    Calls Try.prog 35 #[.int .i64 r, .bool true] w fun e w' => ∃ v, e = .returned v ∧ Own w.heap.size w' v (offs (3 + q) 64 32 66 0) ∧ Below w.heap.size w w' := by
  obtain ⟨i0, hi, hz0, hz1, hz2⟩ := info_parts info3
  have hm := own_made w 0
  have hbm : Below w.heap.size w (w.alloc (.cells #[.int .i64 0] 3)) := (Below.refl _ _).alloc (Nat.le_refl _) _
  have Hq := Lib.hid hq
  clear hq
  go_enter Try.func35, Try.ntmps35
  go_wp2
  go_loopw [5, 6] (fun v x wr => ∃ (f : Nat) (a : Int) (pre : List Int), x = .int .i64 a ∧ Own w.heap.size wr v (pre ++ [a]) ∧ Hid (pre ++ offs (3 + q) 64 32 f a = offs (3 + q) 64 32 66 0) ∧ 0 ≤ a ∧ a ≤ 32 ∧ 32 - a + 4 ≤ 4 * f ∧ pre.length + f ≤ 66 ∧ Below w.heap.size w wr) (fun _ x _ => (32 - intO x).toNat)
  case atStart => exact ⟨66, 0, [], rfl, hm, Lib.hid rfl, by omega, by omega, by omega, by simp, hbm⟩
  case round =>
    obtain ⟨f, a, pre, rfl, hown, hL, a0, a1, hf, hp, hbel⟩ := hrel
    obtain ⟨f, rfl⟩ : ∃ f', f = f' + 1 := ⟨f - 1, by omega⟩
    have hle : w.heap.size ≤ wr.heap.size := hbel.size
    by_cases hlt : a < 32
    · obtain ⟨p0, p1, t0, t1, n0, n1, n2⟩ := nxt_bd (k := 3 + q) (U := 64) (N := 32) (by omega) (by omega) (by omega) a0 hlt (by omega)
      clear p0 p1 t0 t1
      have hL' := hL.out
      rw [offs_go hlt] at hL'
      have Hw := Lib.hid (fun w => wide_true r q a w Hq.out r0 r1 q0 q1 a0 hlt)
      obtain ⟨m, hm'⟩ : ∃ m, nxt (3 + q) 64 32 a = m := ⟨_, rfl⟩
      rw [hm'] at hL' n0 n1 n2 Hw
      have HL := Lib.hid hL'
      clear hL hL' hm'
      go_wp2_with (first
        | (go_at_call 52; ((with_reducible refine (lines_t _).mono ?_); rintro e w5 ⟨rfl, rfl⟩))
        | (go_at_call 53; ((with_reducible refine (Hw.out _).mono ?_); rintro e w6 ⟨rfl, hb6⟩; have hown6 := hown.below hb6; have hbel6 := belowT hbel hb6; have hle6 : w.heap.size ≤ w6.heap.size := hbel6.size))
        | (at_builtin; refine wpList_append_own _ rfl (.tmp 18) (.tmp 20) 22 rfl w.heap.size 3 i0 (.int .i64 0) 1 8 Try.underlying22 hi hz0 hz1 hz2 rfl (by decide) _ _ _ rfl (World.ownsRow.alloc hown6 _) ⟨w6.heap.size, 0, none⟩ 1 1 [.int .i64 (a + (m - a))] rfl rfl ?c1 ?c2 ?c3 ?c4 ?c5 ?_))
      first
      | case c1 =>
          intro j u hj
          match j, hj with
          | 0, hj => simp at hj; subst hj; simp [Addr.add]
      | skip
      case c2 => intro u hu; simp at hu; subst hu; rfl
      case c3 => unfold maxLen; first | omega | (simp; done) | (simp; omega)
      case c4 => first | omega | (simp; done) | (simp; omega)
      case c5 => first | omega | (simp; done) | (simp; omega)
      intro v2 w2 hown2 hgrow2 _
      rw [show a + (m - a) = m by omega] at hown2
      have ho2 : Own w.heap.size w2 v2 (pre ++ [a, m]) := own_push2 hown2
      have hb2 : Below w.heap.size w w2 := below_grown (hbel6.alloc hle6 _) (hown6.alloc _) (Nat.le_refl _) hgrow2
      go_wp2
      go_roundw
      case rel => exact ⟨f, a + (m - a), pre ++ [a], rfl, by rw [show a + (m - a) = m by omega, List.append_assoc]; exact ho2, Lib.hid (by rw [show a + (m - a) = m by omega, List.append_assoc]; exact HL.out), by omega, by omega, by omega, by simp; omega, hb2⟩
      case measure => simp [intO]; omega
    · obtain rfl : a = 32 := by omega
      have hL' := hL.out
      rw [offs_end] at hL'
      rw [hL'] at hown
      go_wp2_with (go_at_call 52; ((with_reducible refine (lines_t _).mono ?_); rintro e w5 ⟨rfl, rfl⟩))
      go_ret
      exact ⟨_, rfl, hown, hbel⟩

theorem roff_row (r : Int) (s : Bool) (w : World) (r0 : 0 ≤ r) (r1 : r ≤ 11) :
    Calls Try.prog 35 #[.int .i64 r, .bool s] w fun e w' => ∃ g cap, e = .returned (.slice (some ⟨g, 0, none⟩) (L r s).length cap) ∧ w.heap.size ≤ g ∧ Row w' g cap (L r s) ∧ Below w.heap.size w w' := by
  have hne := (fact r s r0 r1).1
  obtain ⟨q, hq⟩ : ∃ q, Int.tdiv (11 - r) 2 = q := ⟨_, rfl⟩
  have qb : 0 ≤ q ∧ q ≤ 5 := by rw [← hq, Int.tdiv_eq_ediv_of_nonneg (by omega)]; omega
  rw [L_eq r q s hq] at hne ⊢
  cases s
  · refine (roff_false r q w hq r0 r1 qb.1 qb.2).mono ?_
    rintro e w' ⟨v, rfl, ho, hb⟩
    obtain ⟨g, cap, rfl, hg, hr⟩ := Own.row ho (fun h => by rw [show (offs (3 + q) (uOf false) (nOf false) 66 0).length = 0 from h] at hne; omega)
    exact ⟨g, cap, rfl, hg, hr, hb⟩
  · refine (roff_true r q w hq r0 r1 qb.1 qb.2).mono ?_
    rintro e w' ⟨v, rfl, ho, hb⟩
    obtain ⟨g, cap, rfl, hg, hr⟩ := Own.row ho (fun h => by rw [show (offs (3 + q) (uOf true) (nOf true) 66 0).length = 0 from h] at hne; omega)
    exact ⟨g, cap, rfl, hg, hr, hb⟩

theorem told_bad (r : Int) (s : Bool) (w : World) (h : r < 0 ∨ 11 < r) :
    Calls Try.prog 15 #[.int .i64 r, .bool s] w fun e w' => e = .returned (.tuple #[.slice none 0 0, .int .i64 2]) ∧ w = w' := by
  by_cases h0 : r < 0
  · go_enter Try.func15, Try.ntmps15
    go_wp2
    go_ret2
    exact ⟨rfl, rfl⟩
  · have h1 : 11 < r := by omega
    clear h
    go_enter Try.func15, Try.ntmps15
    go_wp2
    go_ret2
    exact ⟨rfl, rfl⟩
theorem told_row (r : Int) (s : Bool) (w : World) (r0 : 0 ≤ r) (r1 : r ≤ 11) :
    Calls Try.prog 15 #[.int .i64 r, .bool s] w fun e w' => ∃ g cap, e = .returned (.tuple #[.slice (some ⟨g, 0, none⟩) (L r s).length cap, .int .i64 0]) ∧ w.heap.size ≤ g ∧ Row w' g cap (L r s) ∧ Below w.heap.size w w' := by
  go_enter Try.func15, Try.ntmps15
  go_wp2_with (go_at_call 35; ((with_reducible refine (roff_row r s _ r0 r1).mono ?_); rintro e w1 ⟨g, cap, rfl, hg, hr, hb⟩))
  go_ret2
  exact ⟨_, _, rfl, hg, hr, hb⟩

/-! ### How many bands, and which one -/
theorem many_bad (r : Int) (s : Bool) (w : World) (h : r < 0 ∨ 11 < r) :
    Calls Try.prog 16 #[.int .i64 r, .bool s] w fun e w' => e = .returned (.tuple #[.int .i64 0, .int .i64 2]) ∧ w = w' := by
  have h := Lib.hid h
  go_enter Try.func16, Try.ntmps16
  go_wp2_with (go_at_call 14; ((with_reducible refine (off_bad r s _ h.out).mono ?_); rintro e w1 ⟨rfl, rfl⟩))
  go_ret2
  exact ⟨rfl, rfl⟩
theorem many_ok (r : Int) (s : Bool) (w : World) (r0 : 0 ≤ r) (r1 : r ≤ 11) :
    Calls Try.prog 16 #[.int .i64 r, .bool s] w fun e w' => e = .returned (.tuple #[.int .i64 ((L r s).length - 1), .int .i64 0]) ∧ Below w.heap.size w w' := by
  obtain ⟨f0, f1, _⟩ := fact r s r0 r1
  go_enter Try.func16, Try.ntmps16
  go_wp2_with (go_at_call 14; ((with_reducible refine (off_row r s _ r0 r1).mono ?_); rintro e w1 ⟨g, cap, rfl, hg, hr, hb⟩))
  go_ret2
  exact ⟨rfl, hb⟩
theorem rmany_bad (r : Int) (s : Bool) (w : World) (h : r < 0 ∨ 11 < r) :
    Calls Try.prog 17 #[.int .i64 r, .bool s] w fun e w' => e = .returned (.tuple #[.int .i64 0, .int .i64 2]) ∧ w = w' := by
  have h := Lib.hid h
  go_enter Try.func17, Try.ntmps17
  go_wp2_with (go_at_call 15; ((with_reducible refine (told_bad r s _ h.out).mono ?_); rintro e w1 ⟨rfl, rfl⟩))
  go_ret2
  exact ⟨rfl, rfl⟩
theorem rmany_ok (r : Int) (s : Bool) (w : World) (r0 : 0 ≤ r) (r1 : r ≤ 11) :
    Calls Try.prog 17 #[.int .i64 r, .bool s] w fun e w' => e = .returned (.tuple #[.int .i64 ((L r s).length - 1), .int .i64 0]) ∧ Below w.heap.size w w' := by
  obtain ⟨f0, f1, _⟩ := fact r s r0 r1
  go_enter Try.func17, Try.ntmps17
  go_wp2_with (go_at_call 15; ((with_reducible refine (told_row r s _ r0 r1).mono ?_); rintro e w1 ⟨g, cap, rfl, hg, hr, hb⟩))
  go_ret2
  exact ⟨rfl, hb⟩

/-- The band in which a line is. -/
def In (l : List Int) (x : Int) (b : Nat) : Prop := b + 1 < l.length ∧ l.getD b 0 ≤ x ∧ x < l.getD (b + 1) 0
theorem mono_l {l : List Int} (h : ∀ i, i < l.length - 1 → l.getD i 0 < l.getD (i + 1) 0) : ∀ j, j < l.length → ∀ i, i ≤ j → l.getD i 0 ≤ l.getD j 0
  | 0, _, i, hi => by rw [show i = 0 by omega]; exact Int.le_refl _
  | j + 1, hj, i, hi => by
    by_cases e : i = j + 1
    · rw [e]; exact Int.le_refl _
    · have h1 := mono_l h j (by omega) i (by omega)
      have h2 := h j (by omega)
      omega
theorem In.one {l : List Int} {x : Int} {a b : Nat} (h : ∀ i, i < l.length - 1 → l.getD i 0 < l.getD (i + 1) 0) (ha : In l x a) (hb : In l x b) : a = b := by
  obtain ⟨a1, a2, a3⟩ := ha
  obtain ⟨b1, b2, b3⟩ := hb
  by_cases c : a < b
  · have := mono_l h b (by omega) (a + 1) (by omega); omega
  · by_cases d : b < a
    · have := mono_l h a (by omega) (b + 1) (by omega); omega
    · omega

theorem of_bad (r x : Int) (s : Bool) (w : World) (h : r < 0 ∨ 11 < r) :
    Calls Try.prog 18 #[.int .i64 r, .bool s, .int .i64 x] w fun e w' => e = .returned (.tuple #[.int .i64 0, .int .i64 2]) ∧ w = w' := by
  have h := Lib.hid h
  go_enter Try.func18, Try.ntmps18
  go_wp2_with (go_at_call 14; ((with_reducible refine (off_bad r s _ h.out).mono ?_); rintro e w1 ⟨rfl, rfl⟩))
  go_ret2
  exact ⟨rfl, rfl⟩
theorem rof_bad (r x : Int) (s : Bool) (w : World) (h : r < 0 ∨ 11 < r) :
    Calls Try.prog 19 #[.int .i64 r, .bool s, .int .i64 x] w fun e w' => e = .returned (.tuple #[.int .i64 0, .int .i64 2]) ∧ w = w' := by
  have h := Lib.hid h
  go_enter Try.func19, Try.ntmps19
  go_wp2_with (go_at_call 15; ((with_reducible refine (told_bad r s _ h.out).mono ?_); rintro e w1 ⟨rfl, rfl⟩))
  go_ret2
  exact ⟨rfl, rfl⟩
end Go.Proofs.Ytnbbjobmaakogaa.Bd
